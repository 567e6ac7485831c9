import Derived.Test.YtnoocgodnpjnoaaDoorRa
import Derived.Test.YtnoocgodnpjnoaaDoorRb
import Derived.Test.YtnoocgodnpjnoaaDoorOs
namespace Go.Proofs.YtnoocgodnpjnoaaDoor
open Go.RowKit

theorem upd_pi {D : Nat → Dsc} {i : Nat} {x : Dsc} (h : PI D) (hx : 0 ≤ x.n ∧ x.n ≤ 533248) : PI (upd D i x) := fun j => by
  unfold upd
  split
  · exact hx
  · exact h j
theorem open_pi {D : Nat → Dsc} {s : ByteArray} (h : PI D) : PI (openD D s) := by
  unfold openD
  split
  · split
    · exact h
    · exact upd_pi h ⟨Int.le_refl 0, show (0 : Int) ≤ 533248 by decide⟩
  · exact h
theorem open_keep {D : Nat → Dsc} {s : ByteArray} {i : Nat} (h : (D i).o = true) : openD D s i = D i := by
  unfold openD
  split
  · cases hf : lf D 16 with
    | none => rfl
    | some k =>
      refine upd_other _ _ _ _ fun e => ?_
      have := (lf_some hf).2.1
      rw [← e, h] at this
      cases this
  · rfl
theorem clos_pi {D : Nat → Dsc} {f : Int} (h : PI D) : PI (closD D f) := by
  unfold closD
  split
  · exact upd_pi h ⟨by decide, by decide⟩
  · exact h
theorem clos_keep {D : Nat → Dsc} {f : Int} {i : Nat} (h : f ≠ i) : closD D f i = D i := by
  unfold closD
  split
  · rename_i ho
    obtain ⟨k, rfl, hk, _⟩ := opn_parts ho
    exact upd_other _ _ _ _ (by rw [Int.toNat_natCast]; omega)
  · rfl
theorem seek_zero {D : Nat → Dsc} {f m n : Int} (h : seekE D f m n = 0) : opn D f = true ∧ 0 ≤ m + n ∧ m + n ≤ 533248 := by
  unfold seekE at h
  split at h
  · rename_i ho
    split at h
    · rename_i hb
      unfold skB at hb
      simp at hb
      exact ⟨ho, by omega, by omega⟩
    · cases h
  · cases h
theorem seek_pi {D : Nat → Dsc} {f m n : Int} (h : PI D) : PI (seekD D f m n) := by
  unfold seekD
  split
  · rename_i hz
    exact upd_pi h ⟨(seek_zero hz).2.1, (seek_zero hz).2.2⟩
  · exact h
theorem seek_keep {D : Nat → Dsc} {f m n : Int} {i : Nat} (h : f ≠ i) : seekD D f m n i = D i := by
  unfold seekD
  split
  · rename_i hz
    obtain ⟨k, rfl, hk, _⟩ := opn_parts (seek_zero hz).1
    exact upd_other _ _ _ _ (by rw [Int.toNat_natCast]; omega)
  · rfl
theorem mov_zero {D : Nat → Dsc} {f n : Int} (h : movE D f n = 0) : opn D f = true ∧ 0 ≤ n ∧ (D f.toNat).n + n ≤ 533248 := by
  unfold movE at h
  split at h
  · rename_i ho
    split at h
    · rename_i hb
      simp at hb
      exact ⟨ho, hb.1, hb.2⟩
    · cases h
  · cases h
theorem mov_pi {D : Nat → Dsc} {f n : Int} (h : PI D) : PI (movD D f n) := by
  unfold movD
  split
  · rename_i hz
    exact upd_pi h ⟨by have := h f.toNat; have := (mov_zero hz).2.1; simp only []; omega, (mov_zero hz).2.2⟩
  · exact h
theorem mov_keep {D : Nat → Dsc} {f n : Int} {i : Nat} (h : f ≠ i) : movD D f n i = D i := by
  unfold movD
  split
  · rename_i hz
    obtain ⟨k, rfl, hk, _⟩ := opn_parts (mov_zero hz).1
    exact upd_other _ _ _ _ (by rw [Int.toNat_natCast]; omega)
  · rfl
theorem at_zero {g : Nat} {w : World} {D : Nat → Dsc} {a : Int} (h : TI g w D) (hz : D 0 = ⟨true, ⟨#[47, 97]⟩, a⟩) : Calls Tryd.prog 9 #[.pointer (some ⟨g, 0, none⟩), .int .i64 0] w fun e w' => e = .returned (.tuple #[.string ⟨#[47, 97]⟩, .int .i64 a, .int .i64 0]) ∧ ∃ q, w' = w.drewN q := by
  have := at_yes 0 h (by decide) (by rw [hz])
  rw [hz] at this
  exact this
/-- a step in memory -/
def SBox (q : Nat) (w : World) (s : Stp) : Prop := w.heap[q]? = some (.cells #[.int .i64 s.k, .int .i64 s.f, .int .i64 s.m, .int .i64 s.n, .string s.p] 30 (0, 0))
theorem SBox.cells {q : Nat} {w : World} {k f m n : Int} {p : ByteArray} (h : SBox q w ⟨k, f, m, n, p⟩) : w.cell? ⟨q, 0, none⟩ = some (.int .i64 k) ∧ w.cell? ⟨q, 1, none⟩ = some (.int .i64 f) ∧ w.cell? ⟨q, 2, none⟩ = some (.int .i64 m) ∧ w.cell? ⟨q, 3, none⟩ = some (.int .i64 n) ∧ w.cell? ⟨q, 4, none⟩ = some (.string p) := by
  unfold SBox at h
  simp [World.cell?, h]
theorem SBox.lt {q : Nat} {w : World} {n : Stp} (h : SBox q w n) : q < w.heap.size := lt_of_block h
theorem SBox.kept {q g : Nat} {w w' : World} {n : Stp} (h : SBox q w n) (k : KP g w w') (hg : q ≠ g) : SBox q w' n := (k.block q h.lt hg).trans h
/-- while places are asked for -/
structure PL (w wr : World) (D : Nat → Dsc) (a : Int) : Prop where
  ti : TI w.heap.size wr D
  bel : Below w.heap.size w wr
  pi : PI D
  z : D 0 = ⟨true, ⟨#[47, 97]⟩, a⟩
theorem PL.rng {w wr : World} {D : Nat → Dsc} {a : Int} (h : PL w wr D a) : 0 ≤ a ∧ a ≤ 533248 := by
  have := h.pi 0
  rw [h.z] at this
  exact this
theorem PL.below {w wr w' : World} {D : Nat → Dsc} {a : Int} (h : PL w wr D a) (k : Below wr.heap.size wr w') : PL w w' D a := ⟨h.ti.below k, h.bel.next k, h.pi, h.z⟩
theorem PL.to {w wr w' : World} {D D' : Nat → Dsc} {a b : Int} (h : PL w wr D a) (t : TI w.heap.size w' D') (k : KP w.heap.size wr w') (hp : PI D') (hz : D' 0 = ⟨true, ⟨#[47, 97]⟩, b⟩) : PL w w' D' b := ⟨t, KP.new h.bel k (Nat.le_refl _), hp, hz⟩
theorem D0_pi : PI D0 := fun _ => ⟨Int.le_refl 0, show (0 : Int) ≤ 533248 by decide⟩
end Go.Proofs.YtnoocgodnpjnoaaDoor
