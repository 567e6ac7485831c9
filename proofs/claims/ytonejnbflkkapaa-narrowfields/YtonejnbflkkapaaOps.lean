import Derived.Test.YtonejnbflkkapaaAs
namespace Go.Proofs.Ytonejnbflkkapaa
open Go.RowKit

theorem fits_any (k n : Int) (w : World) : Calls Try.prog 11 #[.int .i64 k, .int .i64 n] w fun e w' => e = .returned (.bool (decide (1 ≤ k ∧ k ≤ 8) && (asK k n == n))) ∧ w' = w := by
  by_cases h : 1 ≤ k ∧ k ≤ 8
  · have hd : decide (1 ≤ k ∧ k ≤ 8) = true := decide_eq_true h
    obtain ⟨h1, h8⟩ := h
    go_enter Try.func11, Try.ntmps11
    go_wp2_with (first | (go_at_call 24; refine (isKind_any _ _).mono ?_; rintro e w' ⟨rfl, rfl⟩; rw [hd]) | (go_at_call 25; refine (as_any _ _ h1 h8 _).mono ?_; rintro e w' ⟨rfl, rfl⟩))
    go_ret
    exact ⟨by rw [hd]; rfl, rfl⟩
  · have hd : decide (1 ≤ k ∧ k ≤ 8) = false := decide_eq_false h
    go_enter Try.func11, Try.ntmps11
    go_wp2_with (first | (go_at_call 24; refine (isKind_any _ _).mono ?_; rintro e w' ⟨rfl, rfl⟩; rw [hd]))
    go_ret
    exact ⟨by rw [hd]; rfl, rfl⟩

theorem left_yes (k n b : Int) (h1 : 1 ≤ k) (h8 : k ≤ 8) (hb : 0 ≤ b) (w : World) : Calls Try.prog 13 #[.int .i64 k, .int .i64 n, .int .i64 b] w fun e w' => e = .returned (.tuple #[.int .i64 (asK k (wrap64 (asK k n * 2 ^ min b.toNat 64))), .int .i64 0]) ∧ w' = w := by
  have hd : decide (1 ≤ k ∧ k ≤ 8) = true := by simp [h1, h8]
  go_enter Try.func13, Try.ntmps13
  go_wp2_with (first | (go_at_call 24; refine (isKind_any _ _).mono ?_; rintro e w' ⟨rfl, rfl⟩; rw [hd]) | (go_at_call 25; refine (as_any _ _ h1 h8 _).mono ?_; rintro e w' ⟨rfl, rfl⟩))
  go_ret2
  exact ⟨rfl, rfl⟩
theorem left_no (k n b : Int) (h : ¬ (1 ≤ k ∧ k ≤ 8 ∧ 0 ≤ b)) (w : World) : Calls Try.prog 13 #[.int .i64 k, .int .i64 n, .int .i64 b] w fun e w' => e = .returned (.tuple #[.int .i64 0, .int .i64 1]) ∧ w' = w := by
  by_cases hk : 1 ≤ k ∧ k ≤ 8
  · have hd : decide (1 ≤ k ∧ k ≤ 8) = true := decide_eq_true hk
    have hb : b < 0 := by omega
    clear hk h
    go_enter Try.func13, Try.ntmps13
    go_wp2_with (first | (go_at_call 24; refine (isKind_any _ _).mono ?_; rintro e w' ⟨rfl, rfl⟩; rw [hd]))
    go_ret2
    exact ⟨rfl, rfl⟩
  · have hd : decide (1 ≤ k ∧ k ≤ 8) = false := decide_eq_false hk
    clear hk h
    go_enter Try.func13, Try.ntmps13
    go_wp2_with (first | (go_at_call 24; refine (isKind_any _ _).mono ?_; rintro e w' ⟨rfl, rfl⟩; rw [hd]))
    go_ret2
    exact ⟨rfl, rfl⟩

/-- a number shifted right, as a kind has it -/
def rightV (k n b : Int) : Int := if k = 8 then wrap64 (IntKind.u64.wrap n / 2 ^ min b.toNat 64) else asK k n / 2 ^ min b.toNat 64
theorem rightV_8 (n b : Int) : wrap64 (IntKind.u64.wrap n / 2 ^ min b.toNat 64) = rightV 8 n b := by simp [rightV]
theorem rightV_ne (k n b : Int) (h : k ≠ 8) : asK k n / 2 ^ min b.toNat 64 = rightV k n b := by simp [rightV, h]

theorem right_yes (k n b : Int) (h1 : 1 ≤ k) (h8 : k ≤ 8) (hb : 0 ≤ b) (w : World) : Calls Try.prog 15 #[.int .i64 k, .int .i64 n, .int .i64 b] w fun e w' => e = .returned (.tuple #[.int .i64 (rightV k n b), .int .i64 0]) ∧ w' = w := by
  have hd : decide (1 ≤ k ∧ k ≤ 8) = true := by simp [h1, h8]
  by_cases hk : k = 8
  · subst hk
    clear h1 h8
    go_enter Try.func15, Try.ntmps15
    go_wp2_with (first | (go_at_call 24; refine (isKind_any _ _).mono ?_; rintro e w' ⟨rfl, rfl⟩; rw [hd]))
    go_ret2
    exact ⟨ret_two (rightV_8 n b), rfl⟩
  · have hk' : k < 8 := by omega
    have HK : Hid (k ≠ 8) := hk
    clear hk
    go_enter Try.func15, Try.ntmps15
    go_wp2_with (first | (go_at_call 24; refine (isKind_any _ _).mono ?_; rintro e w' ⟨rfl, rfl⟩; rw [hd]) | (go_at_call 25; refine (as_any _ _ h1 h8 _).mono ?_; rintro e w' ⟨rfl, rfl⟩))
    go_ret2
    exact ⟨ret_two (rightV_ne k n b HK.out), rfl⟩
theorem right_no (k n b : Int) (h : ¬ (1 ≤ k ∧ k ≤ 8 ∧ 0 ≤ b)) (w : World) : Calls Try.prog 15 #[.int .i64 k, .int .i64 n, .int .i64 b] w fun e w' => e = .returned (.tuple #[.int .i64 0, .int .i64 1]) ∧ w' = w := by
  by_cases hk : 1 ≤ k ∧ k ≤ 8
  · have hd : decide (1 ≤ k ∧ k ≤ 8) = true := decide_eq_true hk
    have hb : b < 0 := by omega
    clear hk h
    go_enter Try.func15, Try.ntmps15
    go_wp2_with (first | (go_at_call 24; refine (isKind_any _ _).mono ?_; rintro e w' ⟨rfl, rfl⟩; rw [hd]))
    go_ret2
    exact ⟨rfl, rfl⟩
  · have hd : decide (1 ≤ k ∧ k ≤ 8) = false := decide_eq_false hk
    clear hk h
    go_enter Try.func15, Try.ntmps15
    go_wp2_with (first | (go_at_call 24; refine (isKind_any _ _).mono ?_; rintro e w' ⟨rfl, rfl⟩; rw [hd]))
    go_ret2
    exact ⟨rfl, rfl⟩
end Go.Proofs.Ytonejnbflkkapaa
