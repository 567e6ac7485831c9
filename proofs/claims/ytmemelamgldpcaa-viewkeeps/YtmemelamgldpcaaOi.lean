import Derived.Test.YtmemelamgldpcaaVf
import Derived.Lib.SmallJoins
import Derived.Deep.Slices
import Derived.ChangeSlices
import Derived.SizedLaws
import Derived.JoinedCond
import Derived.ChangeOld
import Derived.Carry
namespace Go.Proofs.Ytmemelamgldpcaa
open Go.ChangeShapes Go.WideShapes Go.ChangeAt Go.RowKit Go.Joins Go.Deep

theorem laidOut : laidOutB Try.prog = true := by kernel_rfl
theorem cells3 : Try.prog.cellsOf 3 = 1 := by kernel_rfl
theorem cells38 : Try.prog.cellsOf 38 = 3 := by kernel_rfl
theorem cells44 : Try.prog.cellsOf 44 = 2 := by kernel_rfl
set_option maxRecDepth 100000 in
theorem open_ints32 {H : Type} {enc : TypeId × Value → H} {W : World} {fuel : Nat} {ao : Option Addr} {len cap : Nat} {x : DataW H × List MemPlace}
    (h : DataW.trod enc Try.prog W 0 (fun _ => true) true fuel 32 [.slice ao len cap] = some x) : ∃ l, ILie W (.slice ao len cap) l ∧ (l = [] ∨ ∃ elems spare, x.1 = .slice elems spare ∧ elems.length = l.length) := by
  rcases open_ints Try.underlying32 Try.underlying3 cells3 h with ⟨h0, hx⟩ | ⟨a, len', cap', zs, hcs, hb, hl, hm, hzl, hx, hc, hwf⟩
  · simp at h0
    obtain ⟨rfl, rfl, rfl⟩ := h0
    exact ⟨[], ⟨none, 0, rfl, Nat.le_refl _, by decide, fun i hi => by simp at hi⟩, .inl rfl⟩
  · simp at hcs
    obtain ⟨rfl, rfl, rfl⟩ := hcs
    have hzc : zs.length = cap := by simpa using hzl
    have hlt : (zs.take len).length = len := by rw [List.length_take]; omega
    refine ⟨zs.take len, ⟨some a, cap, by rw [hlt], by rw [hlt]; exact hl, hm, fun i hi => ?_⟩, .inr ⟨_, _, by rw [hx], by simp [lits]⟩⟩
    have hi' : i < len := by omega
    have a0 := hc i (by omega)
    have hg : zs.getD i 0 = (zs.take len)[i] := by
      rw [List.getElem_take, List.getD_eq_getElem?_getD, List.getElem?_eq_getElem (by omega)]; rfl
    rw [hg] at a0
    obtain ⟨b, off, sp⟩ := a
    have a00 := hc 0 (by omega)
    have hsp : sp = none := by simpa [Addr.add] using World.cell?_spot a00
    subst hsp
    have hadd : ∀ j, (⟨b, off, none⟩ : Addr).add j = ⟨b, off + j, none⟩ := fun j => by unfold Addr.add; split <;> simp_all
    rw [hadd] at a0
    have hblk : b < W.heap.size := by
      cases hh : W.heap[b]? with
      | none => simp [World.cell?, hh] at a0
      | some o => exact lt_of_block hh
    exact ⟨b, off, rfl, hblk, a0⟩
theorem bytes3 : Try.prog.bytesOf 3 = 8 := by kernel_rfl
theorem sized_ints {H : Type} {ts : List TypeId} {ds : List (DataW H)} (h : (DataW.weightsEach Try.prog ts ds).all (· ≤ reachBytes) = true) {j : Nat} {d : DataW H} {l : List Int} (ht : ts[j]? = some 32) (hd : ds[j]? = some d)
    (hl : l = [] ∨ ∃ elems spare, d = .slice elems spare ∧ elems.length = l.length) : l.length < 140737488355328 := by
  have hr : reachBytes = 140737488351232 := by decide
  rcases hl with rfl | ⟨elems, spare, rfl, hlen⟩
  · simp
  · have h1 := sized_slice h ht hd Try.underlying32
    rw [bytes3, hr] at h1
    omega
theorem open_off {H : Type} {enc : TypeId × Value → H} {W : World} {fuel : Nat} {v0 v1 v2 : Value} {x : DataW H × List MemPlace}
    (h : DataW.trod enc Try.prog W 0 (fun _ => true) true fuel 38 [v0, v1, v2] = some x) : ∃ m : Off, v0 = .int .i64 m.a ∧ v1 = .int .i64 m.b ∧ v2 = .int .i64 m.c := by
  obtain ⟨xs, n', _, hxy, hcl, hxl, hf⟩ := DataW.trod_struct Try.underlying38 h
  match xs, hxl with
  | [y0, y1, y2], _ =>
    have g0 := hf 0 _ rfl
    have g1 := hf 1 _ rfl
    have g2 := hf 2 _ rfl
    simp [cells3] at g0 g1 g2
    obtain ⟨a, q0, _, wa⟩ := DataW.trod_int Try.underlying3 g0
    obtain ⟨b, q1, _, wb⟩ := DataW.trod_int Try.underlying3 g1
    obtain ⟨s, q2, _, ws⟩ := DataW.trod_int Try.underlying3 g2
    simp at q0 q1 q2
    subst q0 q1 q2
    exact ⟨⟨a, b, s⟩, rfl, rfl, rfl⟩
set_option maxRecDepth 100000 in
theorem open_offers {H : Type} {enc : TypeId × Value → H} {W : World} {fuel : Nat} {ao : Option Addr} {len cap : Nat} {x : DataW H × List MemPlace}
    (h : DataW.trod enc Try.prog W 0 (fun _ => true) true fuel 33 [.slice ao len cap] = some x) : ∃ l, OLie W (.slice ao len cap) l ∧ (l = [] ∨ ∃ elems spare, x.1 = .slice elems spare ∧ elems.length = l.length) := by
  rcases open_slice Try.underlying33 h with ⟨h0, hx⟩ | ⟨a, len', cap', m, n, D, Pl, hcs, hb, hl, hm, hmm, hx, hel⟩
  · simp at h0
    obtain ⟨rfl, rfl, rfl⟩ := h0
    exact ⟨[], ⟨none, 0, rfl, Nat.le_refl _, by decide, fun i hi => by simp at hi⟩, .inl rfl⟩
  · simp at hcs
    obtain ⟨rfl, rfl, rfl⟩ := hcs
    have hlm : len ≤ m := by rw [hmm]; split <;> omega
    have each : ∀ i, i < len → ∃ y : Off, W.cell? (a.add (i * 3)) = some (.int .i64 y.a) ∧ W.cell? (a.add (i * 3 + 1)) = some (.int .i64 y.b) ∧ W.cell? (a.add (i * 3 + 2)) = some (.int .i64 y.c) := by
      intro i hi
      obtain ⟨cs', h1, h2⟩ := hel i (by omega)
      rw [cells38] at h1
      obtain ⟨_, hlen, hcell⟩ := World.cells?_some h1
      match cs', hlen with
      | [v0, v1, v2], _ =>
        have e0 := hcell 0 (by omega)
        have e1 := hcell 1 (by omega)
        have e2 := hcell 2 (by omega)
        rw [Deep.add_add] at e0 e1 e2
        obtain ⟨mm, rfl, rfl, rfl⟩ := open_off h2
        exact ⟨mm, by simpa using e0, by simpa using e1, by simpa using e2⟩
    obtain ⟨it, hit⟩ := choose_lt each
    have hll : ((List.range len).map it).length = len := by simp
    refine ⟨(List.range len).map it, ⟨some a, cap, by rw [hll], by rw [hll]; exact hl, hm, fun i hi => ?_⟩, .inr ?_⟩
    · rw [hll] at hi
      obtain ⟨a0, a1, a2⟩ := hit i hi
      have a00 := (hit 0 (by omega)).1
      obtain ⟨b, off, sp⟩ := a
      have hsp : sp = none := by simpa [Addr.add] using World.cell?_spot a00
      subst hsp
      have hadd : ∀ j, (⟨b, off, none⟩ : Addr).add j = ⟨b, off + j, none⟩ := fun j => by unfold Addr.add; split <;> simp_all
      have hblk : b < W.heap.size := by
        obtain ⟨cs', h1, _⟩ := hel i (by omega)
        rw [cells38, hadd] at h1
        exact World.cells?_block h1 (by decide)
      rw [hadd] at a0 a1 a2
      rw [← Nat.add_assoc] at a1 a2
      refine ⟨b, off, rfl, hblk, ?_⟩
      simp only [List.getElem_map, List.getElem_range]
      exact ⟨a0, a1, a2⟩
    · exact ⟨_, _, by rw [hx], by simp⟩
theorem bytes38 : Try.prog.bytesOf 38 = 24 := by kernel_rfl
theorem sized_offers {H : Type} {ts : List TypeId} {ds : List (DataW H)} (h : (DataW.weightsEach Try.prog ts ds).all (· ≤ reachBytes) = true) {j : Nat} {d : DataW H} {l : List Off} (ht : ts[j]? = some 33) (hd : ds[j]? = some d)
    (hl : l = [] ∨ ∃ elems spare, d = .slice elems spare ∧ elems.length = l.length) : l.length * 24 < 140737488355328 := by
  have hr : reachBytes = 140737488351232 := by decide
  rcases hl with rfl | ⟨elems, spare, rfl, hlen⟩
  · simp
  · have h1 := sized_slice h ht hd Try.underlying33
    rw [bytes38, hr] at h1
    omega
end Go.Proofs.Ytmemelamgldpcaa
