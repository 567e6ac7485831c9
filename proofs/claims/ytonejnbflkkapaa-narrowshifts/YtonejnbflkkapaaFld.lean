import Derived.Test.YtonejnbflkkapaaOps
namespace Go.Proofs.Ytonejnbflkkapaa
open Go.RowKit

/-- a number with its 8 bytes the other way round -/
def r1 (n : Int) : Int := bits .or .u64 (bits .and .u64 (n / 256) 71777214294589695) (IntKind.u64.wrap (bits .and .u64 n 71777214294589695 * 256))
def r2 (n : Int) : Int := bits .or .u64 (bits .and .u64 (n / 65536) 281470681808895) (IntKind.u64.wrap (bits .and .u64 n 281470681808895 * 65536))
def r3 (n : Int) : Int := bits .or .u64 (n / 4294967296) (IntKind.u64.wrap (n * 4294967296))
def rev (n : Int) : Int := r3 (r2 (r1 n))

theorem rev_any (n : Int) (w : World) : Calls Try.prog 29 #[.int .u64 n] w fun e w' => e = .returned (.int .u64 (rev n)) ∧ w' = w := by
  go_enter Try.func29, Try.ntmps29
  go_wp2
  go_ret
  exact ⟨rfl, rfl⟩

theorem bitsOf_any (k : Int) (h1 : 1 ≤ k) (h8 : k ≤ 8) (w : World) : Calls Try.prog 30 #[.int .i64 k] w fun e w' => e = .returned (.int .i64 (wd k)) ∧ w' = w := by
  have hk : k = 1 ∨ k = 2 ∨ k = 3 ∨ k = 4 ∨ k = 5 ∨ k = 6 ∨ k = 7 ∨ k = 8 := by omega
  clear h1 h8
  rcases hk with rfl | rfl | rfl | rfl | rfl | rfl | rfl | rfl
  all_goals
    go_enter Try.func30, Try.ntmps30
    go_wp2
    go_ret
    exact ⟨ret_int (by decide), rfl⟩

/-- Swap's answer -/
def swapV (k n : Int) : Int := asK k (wrap64 (rev (IntKind.u64.wrap n) / 2 ^ (64 - wd k)))
theorem wd_in (k : Int) (h1 : 1 ≤ k) (h8 : k ≤ 8) : wd k = 8 ∨ wd k = 16 ∨ wd k = 32 ∨ wd k = 64 := by
  have hk : k = 1 ∨ k = 2 ∨ k = 3 ∨ k = 4 ∨ k = 5 ∨ k = 6 ∨ k = 7 ∨ k = 8 := by omega
  rcases hk with rfl | rfl | rfl | rfl | rfl | rfl | rfl | rfl <;> decide
theorem swap_yes (k n : Int) (h1 : 1 ≤ k) (h8 : k ≤ 8) (w : World) : Calls Try.prog 17 #[.int .i64 k, .int .i64 n] w fun e w' => e = .returned (.tuple #[.int .i64 (swapV k n), .int .i64 0]) ∧ w' = w := by
  have hd : decide (1 ≤ k ∧ k ≤ 8) = true := by simp [h1, h8]
  have hw : wd k ≤ 64 := by have := wd_in k h1 h8; omega
  go_enter Try.func17, Try.ntmps17
  go_wp2_with (first | (go_at_call 24; refine (isKind_any _ _).mono ?_; rintro e w' ⟨rfl, rfl⟩; rw [hd]) | (go_at_call 25; refine (as_any _ _ h1 h8 _).mono ?_; rintro e w' ⟨rfl, rfl⟩) | (go_at_call 29; refine (rev_any _ _).mono ?_; rintro e w' ⟨rfl, rfl⟩) | (go_at_call 30; refine (bitsOf_any _ h1 h8 _).mono ?_; rintro e w' ⟨rfl, rfl⟩))
  go_ret2
  exact ⟨rfl, rfl⟩
theorem swap_no (k n : Int) (h : ¬ (1 ≤ k ∧ k ≤ 8)) (w : World) : Calls Try.prog 17 #[.int .i64 k, .int .i64 n] w fun e w' => e = .returned (.tuple #[.int .i64 0, .int .i64 1]) ∧ w' = w := by
  have hd : decide (1 ≤ k ∧ k ≤ 8) = false := decide_eq_false h
  go_enter Try.func17, Try.ntmps17
  go_wp2_with (first | (go_at_call 24; refine (isKind_any _ _).mono ?_; rintro e w' ⟨rfl, rfl⟩; rw [hd]))
  go_ret2
  exact ⟨rfl, rfl⟩

def fld (a w : Int) : Bool := decide (0 ≤ a ∧ 1 ≤ w ∧ w ≤ 62 ∧ a ≤ 64 - w)
theorem isField_any (a b : Int) (hb : -9223372036854775808 ≤ b ∧ b ≤ 9223372036854775807) (w : World) : Calls Try.prog 31 #[.int .i64 a, .int .i64 b] w fun e w' => e = .returned (.bool (fld a b)) ∧ w' = w := by
  by_cases h0 : 0 ≤ a
  · by_cases h1 : 1 ≤ b
    · by_cases h2 : b ≤ 62
      · by_cases h3 : a ≤ 64 - b
        all_goals
          go_enter Try.func31, Try.ntmps31
          go_wp2
          go_ret
          exact ⟨by simp [fld]; omega, rfl⟩
      · go_enter Try.func31, Try.ntmps31
        go_wp2
        go_ret
        exact ⟨by simp [fld]; omega, rfl⟩
    · go_enter Try.func31, Try.ntmps31
      go_wp2
      go_ret
      exact ⟨by simp [fld]; omega, rfl⟩
  · go_enter Try.func31, Try.ntmps31
    go_wp2
    go_ret
    exact ⟨by simp [fld]; omega, rfl⟩
theorem mask_num (b : Int) (h1 : 1 ≤ b) (h2 : b ≤ 62) : IntKind.u64.wrap (IntKind.u64.wrap (2 ^ b.toNat) - 1) = 2 ^ b.toNat - 1 := by
  have g1 : (0 : Int) < 2 ^ b.toNat := pow_pos' _
  have g2 : (2 : Int) ^ b.toNat ≤ 2 ^ 62 := by exact_mod_cast Nat.pow_le_pow_right (by decide) (by omega)
  rw [IntKind.wrap_u64, IntKind.wrap_u64]; omega
theorem mask_any (b : Int) (h1 : 1 ≤ b) (h2 : b ≤ 62) (w : World) : Calls Try.prog 32 #[.int .i64 b] w fun e w' => e = .returned (.int .u64 (2 ^ b.toNat - 1)) ∧ w' = w := by
  go_enter Try.func32, Try.ntmps32
  go_wp2
  go_ret
  exact ⟨ret_int (mask_num b h1 h2), rfl⟩
def fieldV (n a b : Int) : Int := wrap64 (bits .and .u64 (IntKind.u64.wrap n / 2 ^ a.toNat) (2 ^ b.toNat - 1))
theorem fld_of {a b : Int} (h : fld a b = true) : 0 ≤ a ∧ 1 ≤ b ∧ b ≤ 62 ∧ a ≤ 64 - b := of_decide_eq_true h
theorem field_yes (n a b : Int) (h : fld a b = true) (w : World) : Calls Try.prog 19 #[.int .i64 n, .int .i64 a, .int .i64 b] w fun e w' => e = .returned (.tuple #[.int .i64 (fieldV n a b), .int .i64 0]) ∧ ∃ q, w' = w.drewN q := by
  have ⟨h0, h1, h2, h3⟩ := fld_of h
  go_enter Try.func19, Try.ntmps19
  go_wp2_with (first | (go_at_call 31; refine (isField_any _ _ (by omega) _).mono ?_; rintro e w' ⟨rfl, rfl⟩; rw [h]))
  go_quiet ((go_at_call 32; exact Calls.quiet_of_same (mask_any _ h1 h2 _)))
  go_wp2
  go_ret2
  exact ⟨rfl, _, rfl⟩
theorem field_no (n a b : Int) (hb : -9223372036854775808 ≤ b ∧ b ≤ 9223372036854775807) (h : fld a b = false) (w : World) : Calls Try.prog 19 #[.int .i64 n, .int .i64 a, .int .i64 b] w fun e w' => e = .returned (.tuple #[.int .i64 0, .int .i64 1]) ∧ w' = w := by
  go_enter Try.func19, Try.ntmps19
  go_wp2_with (first | (go_at_call 31; refine (isField_any _ _ hb _).mono ?_; rintro e w' ⟨rfl, rfl⟩; rw [h]))
  go_ret2
  exact ⟨rfl, rfl⟩
def putV (n a b v : Int) : Int := wrap64 (bits .or .u64 (bits .andNot .u64 (IntKind.u64.wrap n) (IntKind.u64.wrap ((2 ^ b.toNat - 1) * 2 ^ a.toNat))) (IntKind.u64.wrap (IntKind.u64.wrap v * 2 ^ a.toNat)))
theorem shl_one (b : Int) (h1 : 1 ≤ b) (h2 : b ≤ 62) : wrap64 (2 ^ b.toNat) = 2 ^ b.toNat := by
  have g1 : (0 : Int) < 2 ^ b.toNat := pow_pos' _
  have g2 : (2 : Int) ^ b.toNat ≤ 2 ^ 62 := by exact_mod_cast Nat.pow_le_pow_right (by decide) (by omega)
  unfold wrap64; omega
theorem put_yes (n a b v : Int) (h : fld a b = true) (hv0 : 0 ≤ v) (hv : v < 2 ^ b.toNat) (w : World) : Calls Try.prog 21 #[.int .i64 n, .int .i64 a, .int .i64 b, .int .i64 v] w fun e w' => e = .returned (.tuple #[.int .i64 (putV n a b v), .int .i64 0]) ∧ ∃ q, w' = w.drewN q := by
  have ⟨h0, h1, h2, h3⟩ := fld_of h
  have hs := shl_one b h1 h2
  go_enter Try.func21, Try.ntmps21
  go_wp2_with (first | (go_at_call 31; refine (isField_any _ _ (by omega) _).mono ?_; rintro e w' ⟨rfl, rfl⟩; rw [h]))
  go_quiet ((go_at_call 32; exact Calls.quiet_of_same (mask_any _ h1 h2 _)))
  go_wp2
  go_ret2
  exact ⟨rfl, _, rfl⟩
theorem put_no (n a b v : Int) (hb : -9223372036854775808 ≤ b ∧ b ≤ 9223372036854775807) (h : fld a b = false) (w : World) : Calls Try.prog 21 #[.int .i64 n, .int .i64 a, .int .i64 b, .int .i64 v] w fun e w' => e = .returned (.tuple #[.int .i64 0, .int .i64 1]) ∧ w' = w := by
  go_enter Try.func21, Try.ntmps21
  go_wp2_with (first | (go_at_call 31; refine (isField_any _ _ hb _).mono ?_; rintro e w' ⟨rfl, rfl⟩; rw [h]))
  go_ret2
  exact ⟨rfl, rfl⟩
theorem put_neg (n a b v : Int) (h : fld a b = true) (hv : v < 0) (w : World) : Calls Try.prog 21 #[.int .i64 n, .int .i64 a, .int .i64 b, .int .i64 v] w fun e w' => e = .returned (.tuple #[.int .i64 0, .int .i64 1]) ∧ w' = w := by
  have ⟨h0, h1, h2, h3⟩ := fld_of h
  go_enter Try.func21, Try.ntmps21
  go_wp2_with (first | (go_at_call 31; refine (isField_any _ _ (by omega) _).mono ?_; rintro e w' ⟨rfl, rfl⟩; rw [h]))
  go_ret2
  exact ⟨rfl, rfl⟩
theorem put_big (n a b v : Int) (h : fld a b = true) (hv0 : 0 ≤ v) (hv : 2 ^ b.toNat ≤ v) (w : World) : Calls Try.prog 21 #[.int .i64 n, .int .i64 a, .int .i64 b, .int .i64 v] w fun e w' => e = .returned (.tuple #[.int .i64 0, .int .i64 1]) ∧ w' = w := by
  have ⟨h0, h1, h2, h3⟩ := fld_of h
  have hs := shl_one b h1 h2
  go_enter Try.func21, Try.ntmps21
  go_wp2_with (first | (go_at_call 31; refine (isField_any _ _ (by omega) _).mono ?_; rintro e w' ⟨rfl, rfl⟩; rw [h]))
  go_ret2
  exact ⟨rfl, rfl⟩
end Go.Proofs.Ytonejnbflkkapaa
