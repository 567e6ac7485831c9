import Derived.Test.YtonejnbflkkapabIt
namespace Go.Proofs.Ytonejnbflkkapab
open Go.RowKit

set_option maxRecDepth 100000 in
set_option maxHeartbeats 8000000 in
theorem nil_walk (K N Z : Int) (s : ByteArray) (hN : -9223372036854775808 ≤ N ∧ N ≤ 9223372036854775807) (w : World) :
    Calls Try.prog 7 #[.agg #[.int .i64 K, .int .i64 N, .int .i64 Z, .string s]] w fun e w' => e = .returned (.bool true) ∧ Below w.heap.size w w' := by
  obtain ⟨E, hE⟩ : ∃ E, E = itE K N Z s := ⟨_, rfl⟩
  obtain ⟨T, hT⟩ : ∃ T, T = st (itB K N Z s) := ⟨_, rfl⟩
  have HW : Hid (∀ w, Calls Try.prog 10 #[.agg #[.int .i64 K, .int .i64 N, .int .i64 Z, .string s]] w fun e w' => e = .returned (.tuple #[.string T, .int .i64 E]) ∧ Below w.heap.size w w') := fun w => by rw [hE, hT]; exact wants_any K N Z s hN w
  obtain ⟨F, hF⟩ : ∃ F, F = if E = 0 then 7 else E := ⟨_, rfl⟩
  have HV : Hid (∀ w, Calls Try.prog 11 #[.pointer none, .agg #[.int .i64 K, .int .i64 N, .int .i64 Z, .string s]] w fun e w' => e = .returned (.int .i64 F) ∧ Below w.heap.size w w') := fun w => by rw [hF, hE]; exact writes_nil K N Z s hN w
  clear hT
  by_cases hE0 : E = 0
  · have hF7 : F = 7 := by rw [hF, if_pos hE0]
    clear hF hE
    subst hE0 hF7
    cases hz : sized Z with
    | true =>
      by_cases hN0 : N < 0
      · have hd : decide (N < 0) = true := decide_eq_true hN0
        go_enter Try.func7, Try.ntmps7
        go_wp2_with (first | (go_at_call 10; refine (HW.out _).mono ?_; rintro e w1 ⟨rfl, b1⟩; obtain ⟨c1, f1⟩ := bcell b1; have z1 : w.heap.size < w1.heap.size := by { have h := b1.size; simp at h; omega }) | (go_at_call 11; refine (HV.out _).mono ?_; rintro e w2 ⟨rfl, b2⟩; obtain ⟨c2, f2⟩ := bcell b2; have z2 := b2.size) | (go_at_call 15; refine (uintr_nil _).mono ?_; rintro e wq ⟨rfl, hwq⟩; have hwq := hwq.symm; subst hwq) | (go_at_call 17; refine (intr_nil _).mono ?_; rintro e wq ⟨rfl, hwq⟩; have hwq := hwq.symm; subst hwq) | (go_at_call 19; refine (fixedr_nil _ hz _).mono ?_; rintro e wq ⟨rfl, hwq⟩; have hwq := hwq.symm; subst hwq) | (go_at_call 21; refine (text_arg _ _ hN0 _).mono ?_; rintro e wq ⟨rfl, hwq⟩; have hwq := hwq.symm; subst hwq) | (go_at_call 12; refine (out_nil _).mono ?_; rintro e wq ⟨rfl, hwq⟩; have hwq := hwq.symm; subst hwq) | (go_at_call 28; refine (refSized _ _).mono ?_; rintro e wq ⟨rfl, hwq⟩; have hwq := hwq.symm; subst hwq; rw [hz]) | (go_at_call 23; refine (left_nil _).mono ?_; rintro e wq ⟨rfl, hwq⟩; have hwq := hwq.symm; subst hwq) | (go_at_call 24; refine (end_nil _).mono ?_; rintro e wq ⟨rfl, hwq⟩; have hwq := hwq.symm; subst hwq) | (go_at_call 13; refine (speaks_any _).mono ?_; rintro e w9 ⟨rfl, b9⟩))
        go_ret
        exact ⟨rfl, (((below_alloc w _).trans (b1.mono (by simp))).trans (b2.mono (by omega))).trans (b9.mono (by omega))⟩
      · have hd : decide (N < 0) = false := decide_eq_false hN0
        have hp : 0 ≤ N := by omega
        go_enter Try.func7, Try.ntmps7
        go_wp2_with (first | (go_at_call 10; refine (HW.out _).mono ?_; rintro e w1 ⟨rfl, b1⟩; obtain ⟨c1, f1⟩ := bcell b1; have z1 : w.heap.size < w1.heap.size := by { have h := b1.size; simp at h; omega }) | (go_at_call 11; refine (HV.out _).mono ?_; rintro e w2 ⟨rfl, b2⟩; obtain ⟨c2, f2⟩ := bcell b2; have z2 := b2.size) | (go_at_call 15; refine (uintr_nil _).mono ?_; rintro e wq ⟨rfl, hwq⟩; have hwq := hwq.symm; subst hwq) | (go_at_call 17; refine (intr_nil _).mono ?_; rintro e wq ⟨rfl, hwq⟩; have hwq := hwq.symm; subst hwq) | (go_at_call 19; refine (fixedr_nil _ hz _).mono ?_; rintro e wq ⟨rfl, hwq⟩; have hwq := hwq.symm; subst hwq) | (go_at_call 21; refine (text_rnil _ hp _).mono ?_; rintro e wq ⟨rfl, hwq⟩; have hwq := hwq.symm; subst hwq) | (go_at_call 12; refine (out_nil _).mono ?_; rintro e wq ⟨rfl, hwq⟩; have hwq := hwq.symm; subst hwq) | (go_at_call 28; refine (refSized _ _).mono ?_; rintro e wq ⟨rfl, hwq⟩; have hwq := hwq.symm; subst hwq; rw [hz]) | (go_at_call 23; refine (left_nil _).mono ?_; rintro e wq ⟨rfl, hwq⟩; have hwq := hwq.symm; subst hwq) | (go_at_call 24; refine (end_nil _).mono ?_; rintro e wq ⟨rfl, hwq⟩; have hwq := hwq.symm; subst hwq) | (go_at_call 13; refine (speaks_any _).mono ?_; rintro e w9 ⟨rfl, b9⟩))
        go_ret
        exact ⟨rfl, (((below_alloc w _).trans (b1.mono (by simp))).trans (b2.mono (by omega))).trans (b9.mono (by omega))⟩
    | false =>
      by_cases hN0 : N < 0
      · have hd : decide (N < 0) = true := decide_eq_true hN0
        go_enter Try.func7, Try.ntmps7
        go_wp2_with (first | (go_at_call 10; refine (HW.out _).mono ?_; rintro e w1 ⟨rfl, b1⟩; obtain ⟨c1, f1⟩ := bcell b1; have z1 : w.heap.size < w1.heap.size := by { have h := b1.size; simp at h; omega }) | (go_at_call 11; refine (HV.out _).mono ?_; rintro e w2 ⟨rfl, b2⟩; obtain ⟨c2, f2⟩ := bcell b2; have z2 := b2.size) | (go_at_call 15; refine (uintr_nil _).mono ?_; rintro e wq ⟨rfl, hwq⟩; have hwq := hwq.symm; subst hwq) | (go_at_call 17; refine (intr_nil _).mono ?_; rintro e wq ⟨rfl, hwq⟩; have hwq := hwq.symm; subst hwq) | (go_at_call 19; refine (fixedr_arg _ _ hz _).mono ?_; rintro e wq ⟨rfl, hwq⟩; have hwq := hwq.symm; subst hwq) | (go_at_call 21; refine (text_arg _ _ hN0 _).mono ?_; rintro e wq ⟨rfl, hwq⟩; have hwq := hwq.symm; subst hwq) | (go_at_call 12; refine (out_nil _).mono ?_; rintro e wq ⟨rfl, hwq⟩; have hwq := hwq.symm; subst hwq) | (go_at_call 28; refine (refSized _ _).mono ?_; rintro e wq ⟨rfl, hwq⟩; have hwq := hwq.symm; subst hwq; rw [hz]) | (go_at_call 23; refine (left_nil _).mono ?_; rintro e wq ⟨rfl, hwq⟩; have hwq := hwq.symm; subst hwq) | (go_at_call 24; refine (end_nil _).mono ?_; rintro e wq ⟨rfl, hwq⟩; have hwq := hwq.symm; subst hwq) | (go_at_call 13; refine (speaks_any _).mono ?_; rintro e w9 ⟨rfl, b9⟩))
        go_ret
        exact ⟨rfl, (((below_alloc w _).trans (b1.mono (by simp))).trans (b2.mono (by omega))).trans (b9.mono (by omega))⟩
      · have hd : decide (N < 0) = false := decide_eq_false hN0
        have hp : 0 ≤ N := by omega
        go_enter Try.func7, Try.ntmps7
        go_wp2_with (first | (go_at_call 10; refine (HW.out _).mono ?_; rintro e w1 ⟨rfl, b1⟩; obtain ⟨c1, f1⟩ := bcell b1; have z1 : w.heap.size < w1.heap.size := by { have h := b1.size; simp at h; omega }) | (go_at_call 11; refine (HV.out _).mono ?_; rintro e w2 ⟨rfl, b2⟩; obtain ⟨c2, f2⟩ := bcell b2; have z2 := b2.size) | (go_at_call 15; refine (uintr_nil _).mono ?_; rintro e wq ⟨rfl, hwq⟩; have hwq := hwq.symm; subst hwq) | (go_at_call 17; refine (intr_nil _).mono ?_; rintro e wq ⟨rfl, hwq⟩; have hwq := hwq.symm; subst hwq) | (go_at_call 19; refine (fixedr_arg _ _ hz _).mono ?_; rintro e wq ⟨rfl, hwq⟩; have hwq := hwq.symm; subst hwq) | (go_at_call 21; refine (text_rnil _ hp _).mono ?_; rintro e wq ⟨rfl, hwq⟩; have hwq := hwq.symm; subst hwq) | (go_at_call 12; refine (out_nil _).mono ?_; rintro e wq ⟨rfl, hwq⟩; have hwq := hwq.symm; subst hwq) | (go_at_call 28; refine (refSized _ _).mono ?_; rintro e wq ⟨rfl, hwq⟩; have hwq := hwq.symm; subst hwq; rw [hz]) | (go_at_call 23; refine (left_nil _).mono ?_; rintro e wq ⟨rfl, hwq⟩; have hwq := hwq.symm; subst hwq) | (go_at_call 24; refine (end_nil _).mono ?_; rintro e wq ⟨rfl, hwq⟩; have hwq := hwq.symm; subst hwq) | (go_at_call 13; refine (speaks_any _).mono ?_; rintro e w9 ⟨rfl, b9⟩))
        go_ret
        exact ⟨rfl, (((below_alloc w _).trans (b1.mono (by simp))).trans (b2.mono (by omega))).trans (b9.mono (by omega))⟩
  · have hFE : F = E := by rw [hF, if_neg hE0]
    have hE' : (E == 0) = false := by simp [hE0]
    clear hF hE hE0
    subst hFE
    cases hz : sized Z with
    | true =>
      by_cases hN0 : N < 0
      · have hd : decide (N < 0) = true := decide_eq_true hN0
        go_enter Try.func7, Try.ntmps7
        go_wp2_with (first | (go_at_call 10; refine (HW.out _).mono ?_; rintro e w1 ⟨rfl, b1⟩; obtain ⟨c1, f1⟩ := bcell b1; have z1 : w.heap.size < w1.heap.size := by { have h := b1.size; simp at h; omega }) | (go_at_call 11; refine (HV.out _).mono ?_; rintro e w2 ⟨rfl, b2⟩; obtain ⟨c2, f2⟩ := bcell b2; have z2 := b2.size) | (go_at_call 15; refine (uintr_nil _).mono ?_; rintro e wq ⟨rfl, hwq⟩; have hwq := hwq.symm; subst hwq) | (go_at_call 17; refine (intr_nil _).mono ?_; rintro e wq ⟨rfl, hwq⟩; have hwq := hwq.symm; subst hwq) | (go_at_call 19; refine (fixedr_nil _ hz _).mono ?_; rintro e wq ⟨rfl, hwq⟩; have hwq := hwq.symm; subst hwq) | (go_at_call 21; refine (text_arg _ _ hN0 _).mono ?_; rintro e wq ⟨rfl, hwq⟩; have hwq := hwq.symm; subst hwq) | (go_at_call 12; refine (out_nil _).mono ?_; rintro e wq ⟨rfl, hwq⟩; have hwq := hwq.symm; subst hwq) | (go_at_call 28; refine (refSized _ _).mono ?_; rintro e wq ⟨rfl, hwq⟩; have hwq := hwq.symm; subst hwq; rw [hz]) | (go_at_call 23; refine (left_nil _).mono ?_; rintro e wq ⟨rfl, hwq⟩; have hwq := hwq.symm; subst hwq) | (go_at_call 24; refine (end_nil _).mono ?_; rintro e wq ⟨rfl, hwq⟩; have hwq := hwq.symm; subst hwq) | (go_at_call 13; refine (speaks_any _).mono ?_; rintro e w9 ⟨rfl, b9⟩))
        go_ret
        exact ⟨rfl, (((below_alloc w _).trans (b1.mono (by simp))).trans (b2.mono (by omega))).trans (b9.mono (by omega))⟩
      · have hd : decide (N < 0) = false := decide_eq_false hN0
        have hp : 0 ≤ N := by omega
        go_enter Try.func7, Try.ntmps7
        go_wp2_with (first | (go_at_call 10; refine (HW.out _).mono ?_; rintro e w1 ⟨rfl, b1⟩; obtain ⟨c1, f1⟩ := bcell b1; have z1 : w.heap.size < w1.heap.size := by { have h := b1.size; simp at h; omega }) | (go_at_call 11; refine (HV.out _).mono ?_; rintro e w2 ⟨rfl, b2⟩; obtain ⟨c2, f2⟩ := bcell b2; have z2 := b2.size) | (go_at_call 15; refine (uintr_nil _).mono ?_; rintro e wq ⟨rfl, hwq⟩; have hwq := hwq.symm; subst hwq) | (go_at_call 17; refine (intr_nil _).mono ?_; rintro e wq ⟨rfl, hwq⟩; have hwq := hwq.symm; subst hwq) | (go_at_call 19; refine (fixedr_nil _ hz _).mono ?_; rintro e wq ⟨rfl, hwq⟩; have hwq := hwq.symm; subst hwq) | (go_at_call 21; refine (text_rnil _ hp _).mono ?_; rintro e wq ⟨rfl, hwq⟩; have hwq := hwq.symm; subst hwq) | (go_at_call 12; refine (out_nil _).mono ?_; rintro e wq ⟨rfl, hwq⟩; have hwq := hwq.symm; subst hwq) | (go_at_call 28; refine (refSized _ _).mono ?_; rintro e wq ⟨rfl, hwq⟩; have hwq := hwq.symm; subst hwq; rw [hz]) | (go_at_call 23; refine (left_nil _).mono ?_; rintro e wq ⟨rfl, hwq⟩; have hwq := hwq.symm; subst hwq) | (go_at_call 24; refine (end_nil _).mono ?_; rintro e wq ⟨rfl, hwq⟩; have hwq := hwq.symm; subst hwq) | (go_at_call 13; refine (speaks_any _).mono ?_; rintro e w9 ⟨rfl, b9⟩))
        go_ret
        exact ⟨rfl, (((below_alloc w _).trans (b1.mono (by simp))).trans (b2.mono (by omega))).trans (b9.mono (by omega))⟩
    | false =>
      by_cases hN0 : N < 0
      · have hd : decide (N < 0) = true := decide_eq_true hN0
        go_enter Try.func7, Try.ntmps7
        go_wp2_with (first | (go_at_call 10; refine (HW.out _).mono ?_; rintro e w1 ⟨rfl, b1⟩; obtain ⟨c1, f1⟩ := bcell b1; have z1 : w.heap.size < w1.heap.size := by { have h := b1.size; simp at h; omega }) | (go_at_call 11; refine (HV.out _).mono ?_; rintro e w2 ⟨rfl, b2⟩; obtain ⟨c2, f2⟩ := bcell b2; have z2 := b2.size) | (go_at_call 15; refine (uintr_nil _).mono ?_; rintro e wq ⟨rfl, hwq⟩; have hwq := hwq.symm; subst hwq) | (go_at_call 17; refine (intr_nil _).mono ?_; rintro e wq ⟨rfl, hwq⟩; have hwq := hwq.symm; subst hwq) | (go_at_call 19; refine (fixedr_arg _ _ hz _).mono ?_; rintro e wq ⟨rfl, hwq⟩; have hwq := hwq.symm; subst hwq) | (go_at_call 21; refine (text_arg _ _ hN0 _).mono ?_; rintro e wq ⟨rfl, hwq⟩; have hwq := hwq.symm; subst hwq) | (go_at_call 12; refine (out_nil _).mono ?_; rintro e wq ⟨rfl, hwq⟩; have hwq := hwq.symm; subst hwq) | (go_at_call 28; refine (refSized _ _).mono ?_; rintro e wq ⟨rfl, hwq⟩; have hwq := hwq.symm; subst hwq; rw [hz]) | (go_at_call 23; refine (left_nil _).mono ?_; rintro e wq ⟨rfl, hwq⟩; have hwq := hwq.symm; subst hwq) | (go_at_call 24; refine (end_nil _).mono ?_; rintro e wq ⟨rfl, hwq⟩; have hwq := hwq.symm; subst hwq) | (go_at_call 13; refine (speaks_any _).mono ?_; rintro e w9 ⟨rfl, b9⟩))
        go_ret
        exact ⟨rfl, (((below_alloc w _).trans (b1.mono (by simp))).trans (b2.mono (by omega))).trans (b9.mono (by omega))⟩
      · have hd : decide (N < 0) = false := decide_eq_false hN0
        have hp : 0 ≤ N := by omega
        go_enter Try.func7, Try.ntmps7
        go_wp2_with (first | (go_at_call 10; refine (HW.out _).mono ?_; rintro e w1 ⟨rfl, b1⟩; obtain ⟨c1, f1⟩ := bcell b1; have z1 : w.heap.size < w1.heap.size := by { have h := b1.size; simp at h; omega }) | (go_at_call 11; refine (HV.out _).mono ?_; rintro e w2 ⟨rfl, b2⟩; obtain ⟨c2, f2⟩ := bcell b2; have z2 := b2.size) | (go_at_call 15; refine (uintr_nil _).mono ?_; rintro e wq ⟨rfl, hwq⟩; have hwq := hwq.symm; subst hwq) | (go_at_call 17; refine (intr_nil _).mono ?_; rintro e wq ⟨rfl, hwq⟩; have hwq := hwq.symm; subst hwq) | (go_at_call 19; refine (fixedr_arg _ _ hz _).mono ?_; rintro e wq ⟨rfl, hwq⟩; have hwq := hwq.symm; subst hwq) | (go_at_call 21; refine (text_rnil _ hp _).mono ?_; rintro e wq ⟨rfl, hwq⟩; have hwq := hwq.symm; subst hwq) | (go_at_call 12; refine (out_nil _).mono ?_; rintro e wq ⟨rfl, hwq⟩; have hwq := hwq.symm; subst hwq) | (go_at_call 28; refine (refSized _ _).mono ?_; rintro e wq ⟨rfl, hwq⟩; have hwq := hwq.symm; subst hwq; rw [hz]) | (go_at_call 23; refine (left_nil _).mono ?_; rintro e wq ⟨rfl, hwq⟩; have hwq := hwq.symm; subst hwq) | (go_at_call 24; refine (end_nil _).mono ?_; rintro e wq ⟨rfl, hwq⟩; have hwq := hwq.symm; subst hwq) | (go_at_call 13; refine (speaks_any _).mono ?_; rintro e w9 ⟨rfl, b9⟩))
        go_ret
        exact ⟨rfl, (((below_alloc w _).trans (b1.mono (by simp))).trans (b2.mono (by omega))).trans (b9.mono (by omega))⟩
end Go.Proofs.Ytonejnbflkkapab
