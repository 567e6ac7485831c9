import Derived.Test.YtonejnbflkkapaaFac
import Derived.Test.YtonejnbflkkapaaSpk
namespace Go.Proofs.Ytonejnbflkkapaa
open Go.RowKit

theorem left_is (k n b : Int) (h1 : 1 ≤ k) (h8 : k ≤ 8) (hb : 0 ≤ b) (w : World) : Calls Try.prog 13 #[.int .i64 k, .int .i64 n, .int .i64 b] w fun e w' => e = .returned (.tuple #[.int .i64 (leftV k n b), .int .i64 0]) ∧ w' = w :=
  left_yes k n b h1 h8 hb w

theorem same_up (k n : Int) (h1 : 1 ≤ k) (h4 : k ≤ 4) : asK (k + 4) (asK k n) = asK (k + 4) n := by
  have : k = 1 ∨ k = 2 ∨ k = 3 ∨ k = 4 := by omega
  rcases this with rfl | rfl | rfl | rfl
  · rw [show (1 : Int) + 4 = 5 from rfl, asK_5, asK_5, asK_1]; split <;> omega
  · rw [show (2 : Int) + 4 = 6 from rfl, asK_6, asK_6, asK_2]; split <;> omega
  · rw [show (3 : Int) + 4 = 7 from rfl, asK_7, asK_7, asK_3]; split <;> omega
  · rw [asK_4]
theorem same_down (k n : Int) (h1 : 1 ≤ k) (h4 : k ≤ 4) : asK k (asK (k + 4) n) = asK k n := by
  have : k = 1 ∨ k = 2 ∨ k = 3 ∨ k = 4 := by omega
  rcases this with rfl | rfl | rfl | rfl
  · rw [show (1 : Int) + 4 = 5 from rfl, asK_5, asK_1, asK_1]; split <;> split <;> omega
  · rw [show (2 : Int) + 4 = 6 from rfl, asK_6, asK_2, asK_2]; split <;> split <;> omega
  · rw [show (3 : Int) + 4 = 7 from rfl, asK_7, asK_3, asK_3]; split <;> split <;> omega
  · rw [show (4 : Int) + 4 = 8 from rfl, asK_8]
theorem left_range (k n b : Int) (h1 : 1 ≤ k) (h8 : k ≤ 8) : -9223372036854775808 ≤ leftV k n b ∧ leftV k n b ≤ 9223372036854775807 :=
  asK_range k _ h1 h8 (wrap64_range _)
theorem div_range (n : Int) (s : Nat) (hn : -9223372036854775808 ≤ n ∧ n ≤ 9223372036854775807) : -9223372036854775808 ≤ n / 2 ^ s ∧ n / 2 ^ s ≤ 9223372036854775807 := by
  have hs : (1 : Int) ≤ 2 ^ s := by have := pow_pos' s; omega
  constructor
  · rw [Int.le_ediv_iff_mul_le (pow_pos' s)]
    have : (-9223372036854775808 : Int) * 2 ^ s ≤ -9223372036854775808 * 1 := Int.mul_le_mul_of_nonpos_left (by decide) hs
    omega
  · have : n / 2 ^ s ≤ 9223372036854775807 := by
      rw [← Int.lt_add_one_iff, Int.ediv_lt_iff_lt_mul (pow_pos' s)]
      have : (9223372036854775807 + 1 : Int) * 1 ≤ (9223372036854775807 + 1) * 2 ^ s := Int.mul_le_mul_of_nonneg_left hs (by decide)
      omega
    exact this
theorem right_range (k n b : Int) (h1 : 1 ≤ k) (h8 : k ≤ 8) (hn : -9223372036854775808 ≤ n ∧ n ≤ 9223372036854775807) : -9223372036854775808 ≤ rightV k n b ∧ rightV k n b ≤ 9223372036854775807 := by
  unfold rightV; split
  · exact wrap64_range _
  · exact div_range _ _ (asK_range k n h1 h8 hn)
theorem left_left (k n b : Int) (h1 : 1 ≤ k) (h8 : k ≤ 8) (hb : 0 ≤ b) : leftV k (leftV k n b) 3 = leftV k n (b + 3) := by
  refine bt_ext (left_range _ _ _ h1 h8) (left_range _ _ _ h1 h8) fun i hi => ?_
  have hw := wd_in k h1 h8
  rw [bt_left k _ _ h1 h8 i hi, bt_left k _ _ h1 h8 i hi]
  refine wideB_congr h1 h8 (fun j hj => ?_) i
  rw [bt_left k _ _ h1 h8 _ (by omega), wideB_lt (by omega)]
  have e3 : (3 : Int).toNat = 3 := rfl
  rw [e3]
  by_cases h : (b + 3).toNat ≤ j
  · rw [show decide (3 ≤ j) = true by simp; omega, show decide (b.toNat ≤ j - 3) = true by simp; omega, show decide ((b + 3).toNat ≤ j) = true by simp; omega, show j - 3 - b.toNat = j - (b + 3).toNat by omega]; rfl
  · rw [show decide ((b + 3).toNat ≤ j) = false by simp; omega]
    by_cases h3 : 3 ≤ j
    · rw [show decide (b.toNat ≤ j - 3) = false by simp; omega]; simp
    · rw [show decide (3 ≤ j) = false by simp; omega]; rfl
theorem asK_div (k n : Int) (s : Nat) (h1 : 1 ≤ k) (h7 : k ≤ 7) : asK k (asK k n / 2 ^ s) = asK k n / 2 ^ s := by
  have hs : (1 : Int) ≤ 2 ^ s := by have := pow_pos' s; omega
  have lo : ∀ x m : Int, 0 ≤ m → -m ≤ x → -m ≤ x / 2 ^ s := fun x m hm hx => by
    rw [Int.le_ediv_iff_mul_le (pow_pos' s)]
    have : (-m) * 2 ^ s ≤ (-m) * 1 := Int.mul_le_mul_of_nonpos_left (by omega) hs
    omega
  have hi : ∀ x m : Int, 0 ≤ m → x < m → x / 2 ^ s < m := fun x m hm hx => by
    rw [Int.ediv_lt_iff_lt_mul (pow_pos' s)]
    have : m * 1 ≤ m * 2 ^ s := Int.mul_le_mul_of_nonneg_left hs hm
    omega
  have hk : k = 1 ∨ k = 2 ∨ k = 3 ∨ k = 4 ∨ k = 5 ∨ k = 6 ∨ k = 7 := by omega
  rcases hk with rfl | rfl | rfl | rfl | rfl | rfl | rfl
  · have a := lo (asK 1 n) 128 (by decide) (by rw [asK_1]; split <;> omega)
    have b := hi (asK 1 n) 128 (by decide) (by rw [asK_1]; split <;> omega)
    rw [asK_1 (asK 1 n / 2 ^ s)]; split <;> omega
  · have a := lo (asK 2 n) 32768 (by decide) (by rw [asK_2]; split <;> omega)
    have b := hi (asK 2 n) 32768 (by decide) (by rw [asK_2]; split <;> omega)
    rw [asK_2 (asK 2 n / 2 ^ s)]; split <;> omega
  · have a := lo (asK 3 n) 2147483648 (by decide) (by rw [asK_3]; split <;> omega)
    have b := hi (asK 3 n) 2147483648 (by decide) (by rw [asK_3]; split <;> omega)
    rw [asK_3 (asK 3 n / 2 ^ s)]; split <;> omega
  · rw [asK_4, asK_4]
  · have a := lo (asK 5 n) 0 (by decide) (by rw [asK_5]; omega)
    have b := hi (asK 5 n) 256 (by decide) (by rw [asK_5]; omega)
    rw [asK_5 (asK 5 n / 2 ^ s)]; omega
  · have a := lo (asK 6 n) 0 (by decide) (by rw [asK_6]; omega)
    have b := hi (asK 6 n) 65536 (by decide) (by rw [asK_6]; omega)
    rw [asK_6 (asK 6 n / 2 ^ s)]; omega
  · have a := lo (asK 7 n) 0 (by decide) (by rw [asK_7]; omega)
    have b := hi (asK 7 n) 4294967296 (by decide) (by rw [asK_7]; omega)
    rw [asK_7 (asK 7 n / 2 ^ s)]; omega
theorem right_right (k n b : Int) (h1 : 1 ≤ k) (h4 : k ≤ 4) (hb : 0 ≤ b) (h60 : b ≤ 60) : rightV k (rightV k n b) 3 = rightV k n (b + 3) := by
  have h : k ≠ 8 := by omega
  rw [← rightV_ne k n b h, ← rightV_ne k _ 3 h, ← rightV_ne k n (b + 3) h, asK_div k n _ h1 (by omega), div_div_pow]
  congr 2
  have : (3 : Int).toNat = 3 := rfl
  omega

set_option maxHeartbeats 1000000 in
theorem same_walk (k n b : Int) (w : World) :
    Calls Try.prog 8 #[.int .i64 k, .int .i64 n, .int .i64 b] w fun e w' => e = .returned (.bool true) ∧ ∃ q, w' = w.drewN q := by
  by_cases hk1 : k < 1
  · go_enter Try.func8, Try.ntmps8
    go_wp2_with (first | (go_at_call 12; refine (speaks_any _).mono ?_; rintro e w' ⟨rfl, q, rfl⟩))
    go_ret
    exact ⟨rfl, _, rfl⟩
  by_cases hk4 : 4 < k
  · go_enter Try.func8, Try.ntmps8
    go_wp2_with (first | (go_at_call 12; refine (speaks_any _).mono ?_; rintro e w' ⟨rfl, q, rfl⟩))
    go_ret
    exact ⟨rfl, _, rfl⟩
  have h1 : 1 ≤ k := by omega
  have h4 : k ≤ 4 := by omega
  clear hk1 hk4
  have e1 := same_up k n h1 h4
  have e2 := same_down k n h1 h4
  by_cases hb0 : b < 0
  · go_enter Try.func8, Try.ntmps8
    go_wp2_with (first | (go_at_call 12; refine (speaks_any _).mono ?_; rintro e w' ⟨rfl, q, rfl⟩) | (go_at_call 9; refine (to_yes _ _ (by omega) (by omega) _).mono ?_; rintro e w' ⟨rfl, rfl⟩))
    go_ret
    exact ⟨rfl, _, rfl⟩
  by_cases hb60 : 60 < b
  · go_enter Try.func8, Try.ntmps8
    go_wp2_with (first | (go_at_call 12; refine (speaks_any _).mono ?_; rintro e w' ⟨rfl, q, rfl⟩) | (go_at_call 9; refine (to_yes _ _ (by omega) (by omega) _).mono ?_; rintro e w' ⟨rfl, rfl⟩))
    go_ret
    exact ⟨rfl, _, rfl⟩
  have b0 : 0 ≤ b := by omega
  have b60 : b ≤ 60 := by omega
  clear hb0 hb60
  have e3 := left_left k n b h1 (by omega) b0
  have e4 := right_right k n b h1 h4 b0 b60
  go_enter Try.func8, Try.ntmps8
  go_wp2_with (first | (go_at_call 12; refine (speaks_any _).mono ?_; rintro e w' ⟨rfl, q, rfl⟩) | (go_at_call 9; refine (to_yes _ _ (by omega) (by omega) _).mono ?_; rintro e w' ⟨rfl, rfl⟩) | (go_at_call 13; refine (left_is _ _ _ (by omega) (by omega) (by omega) _).mono ?_; rintro e w' ⟨rfl, rfl⟩) | (go_at_call 15; refine (right_yes _ _ _ (by omega) (by omega) (by omega) _).mono ?_; rintro e w' ⟨rfl, rfl⟩))
  go_ret
  exact ⟨rfl, _, rfl⟩
end Go.Proofs.Ytonejnbflkkapaa
