import Derived.Test.YtnoocgodnpjnoaaDoorPe
import Derived.Handy
import Derived.BigRegion
import Derived.Laws.StructEq
import Derived.ChangeKeysEq
import Derived.Laws.CopyRow
import Derived.Laws.ResultCell
import Derived.Maps.OwnSet
namespace Go.Proofs.YtnoocgodnpjnoaaDoor
open Go.RowKit

/-- a descriptor -/
structure Dsc where
  o : Bool
  p : ByteArray
  n : Int
def Dsc.zero : Dsc := ⟨false, ByteArray.empty, 0⟩
instance : Inhabited Dsc := ⟨Dsc.zero⟩
def upd (D : Nat → Dsc) (i : Nat) (x : Dsc) : Nat → Dsc := fun j => if j = i then x else D j
theorem upd_same (D : Nat → Dsc) (i : Nat) (x : Dsc) : upd D i x i = x := by unfold upd; simp
theorem upd_other (D : Nat → Dsc) (i j : Nat) (x : Dsc) (h : j ≠ i) : upd D i x j = D j := by unfold upd; simp [h]
/-- a table in memory -/
def TI (g : Nat) (w : World) (D : Nat → Dsc) : Prop :=
  ∃ cs : Array Value, w.heap[g]? = some (.cells cs 62 (0, 0)) ∧ cs.size = 48 ∧ ∀ i, i < 16 → cs[i * 3]? = some (.bool (D i).o) ∧ cs[i * 3 + 1]? = some (.string (D i).p) ∧ cs[i * 3 + 2]? = some (.int .i64 (D i).n)
theorem TI.below {g : Nat} {w w' : World} {D : Nat → Dsc} (h : TI g w D) (k : Below w.heap.size w w') : TI g w' D := by
  obtain ⟨cs, h1, h2⟩ := h
  exact ⟨cs, (k.block g (lt_of_block h1)).trans h1, h2⟩
theorem TI.lt {g : Nat} {w : World} {D : Nat → Dsc} (h : TI g w D) : g < w.heap.size := by
  obtain ⟨cs, h1, _⟩ := h
  exact lt_of_block h1
theorem TI.cells {g : Nat} {w : World} {D : Nat → Dsc} (h : TI g w D) (i : Nat) (hi : i < 16) : w.cell? ⟨g, i * 3, none⟩ = some (.bool (D i).o) ∧ w.cell? ⟨g, i * 3 + 1, none⟩ = some (.string (D i).p) ∧ w.cell? ⟨g, i * 3 + 2, none⟩ = some (.int .i64 (D i).n) := by
  obtain ⟨cs, h1, h2, h3⟩ := h
  obtain ⟨a, b, c⟩ := h3 i hi
  simp [World.cell?, h1, a, b, c]
theorem TI.free {g : Nat} {w : World} {D : Nat → Dsc} (h : TI g w D) (i : Nat) : w.frozen? ⟨g, i, none⟩ = false := by
  obtain ⟨cs, h1, h2, h3⟩ := h
  simp [World.frozen?, h1]
theorem set_at {w : World} {g : Nat} {cs : Array Value} {t : TypeId} (h : w.heap[g]? = some (.cells cs t (0, 0))) (i : Nat) (v : Value) : (w.setCell ⟨g, i, none⟩ v).heap[g]? = some (.cells (cs.setIfInBounds i v) t (0, 0)) := by
  have hlt := lt_of_block h
  have h' : w.heap[g] = .cells cs t (0, 0) := by simpa [Array.getElem?_eq_getElem hlt] using h
  show (w.heap.modify g _)[g]? = _
  rw [Array.getElem?_eq_getElem (by simpa using hlt), Array.getElem_modify_self, h']
  rfl
theorem TI.place {g : Nat} {w : World} {D : Nat → Dsc} (h : TI g w D) (i : Nat) (hi : i < 16) (v : Int) : TI g (w.setCell ⟨g, i * 3 + 2, none⟩ (.int .i64 v)) (upd D i ⟨(D i).o, (D i).p, v⟩) := by
  obtain ⟨cs, h1, h2, h3⟩ := h
  refine ⟨_, set_at h1 _ _, by simpa using h2, fun j hj => ?_⟩
  obtain ⟨a, b, c⟩ := h3 j hj
  by_cases hji : j = i
  · subst hji
    rw [upd_same]
    refine ⟨?_, ?_, ?_⟩
    · rw [Array.getElem?_setIfInBounds_ne (by omega)]; exact a
    · rw [Array.getElem?_setIfInBounds_ne (by omega)]; exact b
    · rw [Array.getElem?_setIfInBounds_self_of_lt (by omega)]
  · rw [upd_other _ _ _ _ hji]
    refine ⟨?_, ?_, ?_⟩
    · rw [Array.getElem?_setIfInBounds_ne (by omega)]; exact a
    · rw [Array.getElem?_setIfInBounds_ne (by omega)]; exact b
    · rw [Array.getElem?_setIfInBounds_ne (by omega)]; exact c
theorem TI.put {g : Nat} {w : World} {D : Nat → Dsc} (h : TI g w D) (i : Nat) (hi : i < 16) (x : Dsc) : TI g (((w.setCell ⟨g, i * 3, none⟩ (.bool x.o)).setCell ⟨g, i * 3 + 1, none⟩ (.string x.p)).setCell ⟨g, i * 3 + 2, none⟩ (.int .i64 x.n)) (upd D i x) := by
  obtain ⟨cs, h1, h2, h3⟩ := h
  refine ⟨_, set_at (set_at (set_at h1 _ _) _ _) _ _, by simpa using h2, fun j hj => ?_⟩
  obtain ⟨a, b, c⟩ := h3 j hj
  by_cases hji : j = i
  · subst hji
    rw [upd_same]
    refine ⟨?_, ?_, ?_⟩
    · rw [Array.getElem?_setIfInBounds_ne (by omega), Array.getElem?_setIfInBounds_ne (by omega), Array.getElem?_setIfInBounds_self_of_lt (by omega)]
    · rw [Array.getElem?_setIfInBounds_ne (by omega), Array.getElem?_setIfInBounds_self_of_lt (by simp; omega)]
    · rw [Array.getElem?_setIfInBounds_self_of_lt (by simp; omega)]
  · rw [upd_other _ _ _ _ hji]
    refine ⟨?_, ?_, ?_⟩
    · rw [Array.getElem?_setIfInBounds_ne (by omega), Array.getElem?_setIfInBounds_ne (by omega), Array.getElem?_setIfInBounds_ne (by omega)]; exact a
    · rw [Array.getElem?_setIfInBounds_ne (by omega), Array.getElem?_setIfInBounds_ne (by omega), Array.getElem?_setIfInBounds_ne (by omega)]; exact b
    · rw [Array.getElem?_setIfInBounds_ne (by omega), Array.getElem?_setIfInBounds_ne (by omega), Array.getElem?_setIfInBounds_ne (by omega)]; exact c
/-- is it open? -/
def opn (D : Nat → Dsc) (fd : Int) : Bool := decide (0 ≤ fd) && (decide (fd < 16) && (D fd.toNat).o)
theorem opn_parts {D : Nat → Dsc} {fd : Int} (h : opn D fd = true) : ∃ k : Nat, fd = (k : Int) ∧ k < 16 ∧ (D k).o = true := by
  unfold opn at h
  simp at h
  refine ⟨fd.toNat, by omega, by omega, h.2.2⟩
theorem find_nil (fd : Int) (w : World) : Calls Tryd.prog 26 #[.pointer none, .int .i64 fd] w fun e w' => e = .returned (.pointer none) ∧ w' = w := by
  go_enter Tryd.func26, Tryd.ntmps26
  go_wp2
  go_ret
  exact ⟨rfl, rfl⟩
theorem find_no {g : Nat} {w : World} {D : Nat → Dsc} (fd : Int) (h : TI g w D) (ho : opn D fd = false) : Calls Tryd.prog 26 #[.pointer (some ⟨g, 0, none⟩), .int .i64 fd] w fun e w' => e = .returned (.pointer none) ∧ w' = w := by
  by_cases h0 : fd < 0
  · clear h ho
    go_enter Tryd.func26, Tryd.ntmps26
    go_wp2
    go_ret
    exact ⟨rfl, rfl⟩
  · by_cases h1 : 16 ≤ fd
    · clear h ho
      go_enter Tryd.func26, Tryd.ntmps26
      go_wp2
      go_ret
      exact ⟨rfl, rfl⟩
    · obtain ⟨k, rfl⟩ := Int.eq_ofNat_of_zero_le (show 0 ≤ fd by omega)
      have hk : k < 16 := by omega
      obtain ⟨c0, c1, c2⟩ := h.cells k hk
      have hof : (D k).o = false := by
        unfold opn at ho
        simp at ho
        simpa using ho (by omega)
      rw [hof] at c0
      clear ho h hof
      go_enter Tryd.func26, Tryd.ntmps26
      go_wp2
      go_ret
      exact ⟨rfl, rfl⟩
theorem find_yes {g : Nat} {w : World} {D : Nat → Dsc} (k : Nat) (h : TI g w D) (hk : k < 16) (ho : (D k).o = true) : Calls Tryd.prog 26 #[.pointer (some ⟨g, 0, none⟩), .int .i64 k] w fun e w' => e = .returned (.pointer (some ⟨g, k * 3, none⟩)) ∧ w' = w := by
  obtain ⟨c0, c1, c2⟩ := h.cells k hk
  rw [ho] at c0
  clear ho h
  go_enter Tryd.func26, Tryd.ntmps26
  go_wp2
  go_ret
  exact ⟨rfl, rfl⟩
end Go.Proofs.YtnoocgodnpjnoaaDoor
