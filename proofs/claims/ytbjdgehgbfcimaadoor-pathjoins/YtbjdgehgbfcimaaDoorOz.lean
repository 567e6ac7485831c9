import Derived.Test.YtbjdgehgbfcimaaDoorPb
import Derived.Lib.SmallJoins
import Derived.Deep.Slices
import Derived.JoinedCond
import Derived.ChangeOld
import Derived.Carry
import Derived.SizedLaws
namespace Go.Proofs.YtbjdgehgbfcimaaDoor
open Go.ChangeShapes Go.WideShapes Go.ChangeAt Go.RowKit Go.Joins Go.Deep
theorem laidOut : laidOutB Tryd.prog = true := by kernel_rfl
theorem cells9 : Tryd.prog.cellsOf 9 = 1 := by kernel_rfl
theorem range_get {α : Type} (it : Nat → α) (n i : Nat) (h : i < ((List.range n).map it).length) : ((List.range n).map it)[i] = it i := by simp
/-- the tables' cells, for a witness -/
def cellsFirst : Array Value := (Go.Pinned.utf8FirstZ.map fun (n : Nat) => Value.int .u8 (n : Int)).toArray
def cellsAccept : Array Value := #[.int .u8 128, .int .u8 191, .int .u8 160, .int .u8 191, .int .u8 128, .int .u8 159, .int .u8 144, .int .u8 191, .int .u8 128, .int .u8 143, .int .u8 0, .int .u8 0, .int .u8 0, .int .u8 0, .int .u8 0, .int .u8 0, .int .u8 0, .int .u8 0, .int .u8 0, .int .u8 0, .int .u8 0, .int .u8 0, .int .u8 0, .int .u8 0, .int .u8 0, .int .u8 0, .int .u8 0, .int .u8 0, .int .u8 0, .int .u8 0, .int .u8 0, .int .u8 0]
def layF (c : Array Value) : Obj → Obj
  | .cells _ t frozen => .cells c t frozen
  | o => o
theorem bytes9 : Tryd.prog.bytesOf 9 = 16 := by kernel_rfl
/-- a slice of strings, and the datum that it is -/
theorem open_strings_d {H : Type} {enc : TypeId × Value → H} {W : World} {fuel : Nat} {ao : Option Addr} {len cap : Nat} {x : DataW H × List MemPlace}
    (h : DataW.trod enc Tryd.prog W 0 (fun _ => true) true fuel 22 [.slice ao len cap] = some x) : ∃ l, SLie W (.slice ao len cap) l ∧ (l = [] ∨ ∃ elems spare, x.1 = .slice elems spare ∧ elems.length = l.length ∧ ∀ i (hi : i < l.length), elems[i]? = some (.lit (.string l[i].data.toList))) := by
  rcases open_slice Tryd.underlying22 h with ⟨h0, hx⟩ | ⟨a, len', cap', m, n, D, Pl, hcs, hb, hl, hm, hmm, hx, hel⟩
  · simp at h0
    obtain ⟨rfl, rfl, rfl⟩ := h0
    exact ⟨[], ⟨none, 0, rfl, Nat.le_refl _, by decide, fun i hi => by simp at hi⟩, .inl rfl⟩
  · simp at hcs
    obtain ⟨rfl, rfl, rfl⟩ := hcs
    have hlm : len ≤ m := by rw [hmm]; split <;> omega
    have each : ∀ i, i < len → ∃ y : ByteArray, W.cell? (a.add i) = some (.string y) ∧ D i = .lit (.string y.data.toList) := by
      intro i hi
      obtain ⟨cs', h1, h2⟩ := hel i (by omega)
      rw [cells9] at h1
      obtain ⟨_, hlen, hcell⟩ := World.cells?_some h1
      match cs', hlen with
      | [v0], _ =>
        have e0 := hcell 0 (by omega)
        rw [Deep.add_add] at e0
        obtain ⟨s, q1, q2, ws⟩ := DataW.trod_string Tryd.underlying9 h2
        simp at q1 q2
        subst q1
        exact ⟨s, by simpa using e0, q2.1⟩
    obtain ⟨it, hit⟩ := choose_lt each
    refine ⟨(List.range len).map it, ⟨some a, cap, by simp, by simpa using hl, hm, fun i hi => ?_⟩, .inr ⟨_, _, by rw [hx], by simp, fun i hi => ?_⟩⟩
    · rw [range_get]
      have hi' : i < len := by simpa using hi
      have a0 := (hit i hi').1
      have a00 := (hit 0 (by omega)).1
      obtain ⟨b, off, sp⟩ := a
      have hsp : sp = none := by simpa [Addr.add] using World.cell?_spot a00
      subst hsp
      have hadd : ∀ j, (⟨b, off, none⟩ : Addr).add j = ⟨b, off + j, none⟩ := fun j => by unfold Addr.add; split <;> simp_all
      have hblk : b < W.heap.size := by
        obtain ⟨cs', h1, _⟩ := hel i (by omega)
        rw [cells9, hadd] at h1
        exact World.cells?_block h1 (by decide)
      rw [hadd] at a0
      exact ⟨b, off, rfl, hblk, a0⟩
    · rw [range_get]
      have hi' : i < len := by simpa using hi
      rw [List.getElem?_map, List.getElem?_range hi', ← (hit i hi').2]; rfl
theorem mem_weights {H : Type} {t : TypeId} {s : List UInt8} : ∀ {elems : List (DataW H)} {i : Nat}, elems[i]? = some (.lit (.string s)) → s.length ∈ DataW.weightsAll Tryd.prog t elems
  | [], i, h => by simp at h
  | d :: r, 0, h => by
    simp at h
    subst h
    simp [DataW.weightsAll, DataW.weights]
  | d :: r, i + 1, h => by
    simp at h
    have := mem_weights (t := t) h
    simp [DataW.weightsAll, this]
/-- what the reach says of a slice of strings -/
theorem sized_strings {H : Type} {ts : List TypeId} {ds : List (DataW H)} (h : (DataW.weightsEach Tryd.prog ts ds).all (· ≤ reachBytes) = true) {j : Nat} {d : DataW H} {l : List ByteArray} (ht : ts[j]? = some 22) (hd : ds[j]? = some d)
    (hl : l = [] ∨ ∃ elems spare, d = .slice elems spare ∧ elems.length = l.length ∧ ∀ i (hi : i < l.length), elems[i]? = some (.lit (.string l[i].data.toList))) : l.length * 16 ≤ 140737488351232 ∧ ∀ x ∈ l, x.size ≤ 140737488351232 := by
  have hr : reachBytes = 140737488351232 := by decide
  rcases hl with rfl | ⟨elems, spare, rfl, hlen, hel⟩
  · exact ⟨by simp, fun x hx => by cases hx⟩
  · have h1 := sized_slice h ht hd Tryd.underlying22
    rw [bytes9, hr] at h1
    refine ⟨by omega, fun x hx => ?_⟩
    obtain ⟨i, hi, rfl⟩ := List.mem_iff_getElem.1 hx
    have h2 := List.all_eq_true.1 h _ (DataW.weights_mem_each ht hd l[i].data.toList.length (by
      simp only [DataW.weights, Tryd.underlying22]
      exact List.mem_cons_of_mem _ (List.mem_append_left _ (mem_weights (hel i hi)))))
    rw [hr] at h2
    have h3 : l[i].data.toList.length ≤ 140737488351232 := by simpa using h2
    rw [Array.length_toList] at h3
    exact h3
end Go.Proofs.YtbjdgehgbfcimaaDoor
