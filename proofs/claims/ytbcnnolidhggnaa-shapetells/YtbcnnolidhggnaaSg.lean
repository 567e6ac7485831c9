import Derived.Test.YtbcnnolidhggnaaSf
namespace Go.Proofs.Ytbcnnolidhggnaa
open Go.RowKit

set_option maxRecDepth 100000 in
set_option maxHeartbeats 1000000 in
theorem refRead_e (b : ByteArray) (hb : b.size ≤ 150000000000000) (h : (unV b).2 ≠ 0) (w : World) : Calls Try.prog 14 #[.string b] w fun e w' => e = .returned (.tuple #[zero3, .int .i64 60]) ∧ Below w.heap.size w w' := by
  have HU := hid (fun w => refUnblock b hb w)
  obtain ⟨t, ht⟩ : ∃ t, t = (unV b).1 := ⟨_, rfl⟩
  obtain ⟨e, he⟩ : ∃ e, e = (unV b).2 := ⟨_, rfl⟩
  rw [← ht, ← he] at HU
  rw [← he] at h
  have he' : (e != 0) = true := by simp [h]
  clear ht he h
  unfold zero3
  go_enter Try.func14, Try.ntmps14
  go_wp2_with (first
    | (go_at_call 29; refine (HU.out _).mono ?_; rintro e w1 ⟨rfl, hb1⟩; have HV := hid (var_a hb1); have HB := hid ((below_alloc _ _).next hb1); clear hb1; obtain ⟨q0, q1, q2⟩ := three_cells HV.out; have hfr := frees HV.out))
  refine bodyPost_ret (v := .tuple #[.agg #[.int .i64 0, .int .i64 0, .int .i64 0], .int .i64 60]) (by simp [results, Try.results14, go_sem, q0, q1, q2]) rfl ⟨rfl, set3 HB.out (Nat.le_refl _) _ _ _⟩
set_option maxRecDepth 100000 in
set_option maxHeartbeats 1000000 in
theorem refRead_len (b t : ByteArray) (hb : b.size ≤ 150000000000000) (h : unV b = (t, 0)) (hn : t.size ≠ 10) (w : World) : Calls Try.prog 14 #[.string b] w fun e w' => e = .returned (.tuple #[zero3, .int .i64 60]) ∧ Below w.heap.size w w' := by
  have HU := hid (fun w => refUnblock b hb w)
  rw [h] at HU
  simp only at HU
  have hn' : ((t.size : Int) == 10) = false := by simp; omega
  clear h hn
  unfold zero3
  go_enter Try.func14, Try.ntmps14
  go_wp2_with (first
    | (go_at_call 29; refine (HU.out _).mono ?_; rintro e w1 ⟨rfl, hb1⟩; have HV := hid (var_a hb1); have HB := hid ((below_alloc _ _).next hb1); clear hb1; obtain ⟨q0, q1, q2⟩ := three_cells HV.out; have hfr := frees HV.out))
  refine bodyPost_ret (v := .tuple #[.agg #[.int .i64 0, .int .i64 0, .int .i64 0], .int .i64 60]) (by simp [results, Try.results14, go_sem, q0, q1, q2]) rfl ⟨rfl, set3 HB.out (Nat.le_refl _) _ _ _⟩
end Go.Proofs.Ytbcnnolidhggnaa
