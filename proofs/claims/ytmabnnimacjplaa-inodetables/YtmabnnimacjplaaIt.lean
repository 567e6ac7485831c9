import Derived.Test.YtmabnnimacjplaaIm
import Derived.Lib.SmallJoins
import Derived.Deep.Slices
import Derived.ChangeSlices
import Derived.SizedLaws
import Derived.JoinedCond
import Derived.ChangeOld
import Derived.Carry
namespace Go.Proofs.Ytmabnnimacjplaa
open Go.ChangeShapes Go.WideShapes Go.ChangeAt Go.RowKit Go.Joins Go.Deep

set_option maxRecDepth 100000 in
theorem open_ints54 {H : Type} {enc : TypeId × Value → H} {W : World} {fuel : Nat} {ao : Option Addr} {len cap : Nat} {x : DataW H × List MemPlace}
    (h : DataW.trod enc Try.prog W 0 (fun _ => true) true fuel 54 [.slice ao len cap] = some x) : ∃ l, ILie W (.slice ao len cap) l ∧ (l = [] ∨ ∃ elems spare, x.1 = .slice elems spare ∧ elems.length = l.length) := by
  rcases open_ints Try.underlying54 Try.underlying3 cells3 h with ⟨h0, hx⟩ | ⟨a, len', cap', zs, hcs, hb, hl, hm, hzl, hx, hc, hwf⟩
  · simp at h0
    obtain ⟨rfl, rfl, rfl⟩ := h0
    exact ⟨[], ⟨none, 0, rfl, Nat.le_refl _, by decide, fun i hi => by simp at hi⟩, .inl rfl⟩
  · simp at hcs
    obtain ⟨rfl, rfl, rfl⟩ := hcs
    have hzc : zs.length = cap := by simpa using hzl
    have hlt : (zs.take len).length = len := by rw [List.length_take]; omega
    refine ⟨zs.take len, ⟨some a, cap, by rw [hlt], by rw [hlt]; exact hl, hm, fun i hi => ?_⟩, .inr ⟨_, _, by rw [hx], by simp [lits]⟩⟩
    have hi' : i < len := by omega
    have a0 := hc i (by omega)
    have hg : zs.getD i 0 = (zs.take len)[i] := by
      rw [List.getElem_take, List.getD_eq_getElem?_getD, List.getElem?_eq_getElem (by omega)]; rfl
    rw [hg] at a0
    obtain ⟨b, off, sp⟩ := a
    have a00 := hc 0 (by omega)
    have hsp : sp = none := by simpa [Addr.add] using World.cell?_spot a00
    subst hsp
    have hadd : ∀ j, (⟨b, off, none⟩ : Addr).add j = ⟨b, off + j, none⟩ := fun j => by unfold Addr.add; split <;> simp_all
    rw [hadd] at a0
    have hblk : b < W.heap.size := by
      cases hh : W.heap[b]? with
      | none => simp [World.cell?, hh] at a0
      | some o => exact lt_of_block hh
    exact ⟨b, off, rfl, hblk, a0⟩
theorem bytes3 : Try.prog.bytesOf 3 = 8 := by kernel_rfl
theorem sized_ints {H : Type} {ts : List TypeId} {ds : List (DataW H)} (h : (DataW.weightsEach Try.prog ts ds).all (· ≤ reachBytes) = true) {j : Nat} {d : DataW H} {l : List Int} (ht : ts[j]? = some 54) (hd : ds[j]? = some d)
    (hl : l = [] ∨ ∃ elems spare, d = .slice elems spare ∧ elems.length = l.length) : l.length < 140737488355328 := by
  have hr : reachBytes = 140737488351232 := by decide
  rcases hl with rfl | ⟨elems, spare, rfl, hlen⟩
  · simp
  · have h1 := sized_slice h ht hd Try.underlying54
    rw [bytes3, hr] at h1
    omega
end Go.Proofs.Ytmabnnimacjplaa
