import Derived.Test.YtnoocgodnpjnoaaDoorRe
import Derived.Test.YtnoocgodnpjnoaaDoorQi
namespace Go.Proofs.YtnoocgodnpjnoaaDoor
open Go.RowKit

/-- which are open, in memory -/
def OI (q : Nat) (w : World) (D : Nat → Dsc) : Prop :=
  ∃ cs : Array Value, w.heap[q]? = some (.cells cs 43 (0, 0)) ∧ cs.size = 16 ∧ ∀ i, i < 16 → cs[i]? = some (.bool (D i).o)
theorem OI.lt {q : Nat} {w : World} {D : Nat → Dsc} (h : OI q w D) : q < w.heap.size := by
  obtain ⟨cs, h1, _⟩ := h
  exact lt_of_block h1
theorem OI.cell {q : Nat} {w : World} {D : Nat → Dsc} (h : OI q w D) (i : Nat) (hi : i < 16) : w.cell? ⟨q, i, none⟩ = some (.bool (D i).o) := by
  obtain ⟨cs, h1, h2, h3⟩ := h
  simp [World.cell?, h1, h3 i hi]
theorem OI.free {q : Nat} {w : World} {D : Nat → Dsc} (h : OI q w D) (i : Nat) : w.frozen? ⟨q, i, none⟩ = false := by
  obtain ⟨cs, h1, h2, h3⟩ := h
  simp [World.frozen?, h1]
theorem OI.kept {q g : Nat} {w w' : World} {D : Nat → Dsc} (h : OI q w D) (k : KP g w w') (hg : q ≠ g) : OI q w' D := by
  obtain ⟨cs, h1, h2⟩ := h
  exact ⟨cs, (k.block q (lt_of_block h1) hg).trans h1, h2⟩
theorem OI.below {q : Nat} {w w' : World} {D : Nat → Dsc} (h : OI q w D) (k : Below w.heap.size w w') : OI q w' D := by
  obtain ⟨cs, h1, h2⟩ := h
  exact ⟨cs, (k.block q (lt_of_block h1)).trans h1, h2⟩
theorem OI.put {q : Nat} {w : World} {D : Nat → Dsc} (h : OI q w D) (k : Nat) (hk : k < 16) (x : Dsc) : OI q (w.setCell ⟨q, k, none⟩ (.bool x.o)) (upd D k x) := by
  obtain ⟨cs, h1, h2, h3⟩ := h
  refine ⟨_, set_at h1 _ _, by simpa using h2, fun j hj => ?_⟩
  by_cases hjk : j = k
  · subst hjk
    rw [upd_same, Array.getElem?_setIfInBounds_self_of_lt (by omega)]
  · rw [upd_other _ _ _ _ hjk, Array.getElem?_setIfInBounds_ne (by omega)]
    exact h3 j hj
theorem OI.new (w : World) : OI w.heap.size (w.alloc (.cells #[.bool false, .bool false, .bool false, .bool false, .bool false, .bool false, .bool false, .bool false, .bool false, .bool false, .bool false, .bool false, .bool false, .bool false, .bool false, .bool false] 43)) D0 := by
  refine ⟨_, box_at _ _, rfl, fun i hi => ?_⟩
  match i, hi with
  | 0, _ => rfl
  | 1, _ => rfl
  | 2, _ => rfl
  | 3, _ => rfl
  | 4, _ => rfl
  | 5, _ => rfl
  | 6, _ => rfl
  | 7, _ => rfl
  | 8, _ => rfl
  | 9, _ => rfl
  | 10, _ => rfl
  | 11, _ => rfl
  | 12, _ => rfl
  | 13, _ => rfl
  | 14, _ => rfl
  | 15, _ => rfl
  | n + 16, h => exact absurd h (by omega)
/-- while it is counted -/
structure OL (w wr : World) (q : Nat) (D : Nat → Dsc) : Prop where
  ti : TI w.heap.size wr D
  oi : OI q wr D
  bel : Below w.heap.size w wr
  gq : w.heap.size < q
theorem OL.below {w wr w' : World} {q : Nat} {D : Nat → Dsc} (h : OL w wr q D) (k : Below wr.heap.size wr w') : OL w w' q D := ⟨h.ti.below k, h.oi.below k, h.bel.next k, h.gq⟩
/-- what a change of the table leaves -/
theorem OL.set {w wr w2 : World} {q k : Nat} {D D' : Nat → Dsc} {x : Dsc} (h : OL w wr q D) (t : TI w.heap.size w2 D') (b : KP w.heap.size wr w2) (hD : D' = upd D k x) (hk : k < 16) : OL w (w2.setCell ⟨q, k, none⟩ (.bool x.o)) q D' := by
  have hq := h.gq
  refine ⟨t.kept ((KP.refl q w2).set k _) (by omega), ?_, (KP.new h.bel b (Nat.le_refl _)).setCell (Nat.le_of_lt hq) _, hq⟩
  rw [hD]
  exact (h.oi.kept b (by omega)).put k hk x
theorem KP.then {g : Nat} {a b c : World} (h : KP g a b) (k : Below b.heap.size b c) : KP g a c := h.trans (KP.of_below k)
theorem cnt_D0 : cnt D0 16 = 0 := rfl
end Go.Proofs.YtnoocgodnpjnoaaDoor
