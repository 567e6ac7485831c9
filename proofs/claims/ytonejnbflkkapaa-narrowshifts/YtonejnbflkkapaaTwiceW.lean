import Derived.Test.YtonejnbflkkapaaSameW
namespace Go.Proofs.Ytonejnbflkkapaa
open Go.RowKit

theorem width_any (k : Int) (w : World) : Calls Try.prog 23 #[.int .i64 k] w fun e w' => e = .returned (.int .i64 (wd k)) ∧ w' = w := by
  by_cases h : 1 ≤ k ∧ k ≤ 8
  · rcases kinds h.1 h.2 with rfl | rfl | rfl | rfl | rfl | rfl | rfl | rfl
    all_goals
      go_enter Try.func23, Try.ntmps23
      go_wp2
      go_ret
      exact ⟨rfl, rfl⟩
  · have e : (wd k : Int) = 0 := by
      unfold wd; rw [if_neg (by omega), if_neg (by omega), if_neg (by omega), if_neg (by omega)]; rfl
    rw [e]
    have hh : k < 1 ∨ 8 < k := by omega
    clear e h
    rcases hh with hh | hh
    all_goals
      go_enter Try.func23, Try.ntmps23
      go_wp2
      go_ret
      exact ⟨rfl, rfl⟩
theorem asK_asK (k n : Int) (h1 : 1 ≤ k) (h8 : k ≤ 8) (hn : -9223372036854775808 ≤ n ∧ n ≤ 9223372036854775807) : asK k (asK k n) = asK k n := by
  have hr := asK_range k n h1 h8 hn
  refine bt_ext (asK_range k _ h1 h8 hr) hr fun i hi => ?_
  have hw := wd_in k h1 h8
  rw [bt_asK k _ h1 h8 i hi, bt_asK k n h1 h8 i hi]
  exact wideB_congr h1 h8 (fun j hj => by rw [bt_asK k n h1 h8 j (by omega), wideB_lt hj]) i
theorem swap_swap (k n : Int) (h1 : 1 ≤ k) (h8 : k ≤ 8) (hn : -9223372036854775808 ≤ n ∧ n ≤ 9223372036854775807) : swapV k (swapV k n) = asK k n := by
  have hr := asK_range k n h1 h8 hn
  refine bt_ext (asK_range k _ h1 h8 (wrap64_range _)) hr fun i hi => ?_
  have hw := wd_in k h1 h8
  rw [bt_swap k _ h1 h8 i hi, bt_asK k n h1 h8 i hi]
  refine wideB_congr h1 h8 (fun j hj => ?_) i
  rw [bt_swap k n h1 h8 _ (by omega), wideB_lt (by omega)]
  congr 1
  omega
/-- what fits its kind stays as it is -/
theorem asK_fit (k x : Int) (h1 : 1 ≤ k) (h8 : k ≤ 8) (h0 : 0 ≤ x) (h : x < 2 ^ (wd k - 1)) : asK k x = x := by
  rcases kinds h1 h8 with rfl | rfl | rfl | rfl | rfl | rfl | rfl | rfl
  · rw [wd1] at h; rw [asK_1]; split <;> omega
  · rw [wd2] at h; rw [asK_2]; split <;> omega
  · rw [wd3] at h; rw [asK_3]; split <;> omega
  · rw [asK_4]
  · rw [wd5] at h; rw [asK_5]; omega
  · rw [wd6] at h; rw [asK_6]; omega
  · rw [wd7] at h; rw [asK_7]; omega
  · rw [asK_8]
theorem left_back (k x b : Int) (h1 : 1 ≤ k) (h8 : k ≤ 8) (hb0 : 0 ≤ b) (hb : b < wd k - 1) (h0 : 0 ≤ x) (h : x / 2 ^ (wd k - 1 - b.toNat) = 0) : rightV k (leftV k x b) b = x := by
  have hw := wd_in k h1 h8
  obtain ⟨s, rfl⟩ := Int.eq_ofNat_of_zero_le hb0
  simp only [Int.toNat_natCast] at h
  have hx : x < 2 ^ (wd k - 1 - s) := by
    have := Int.lt_ediv_add_one_mul_self x (pow_pos' (wd k - 1 - s))
    rw [h] at this; omega
  have hp : (2 : Int) ^ (wd k - 1 - s) ≤ 2 ^ (wd k - 1) := by exact_mod_cast Nat.pow_le_pow_right (by decide) (by omega)
  have hx2 : x * 2 ^ s < 2 ^ (wd k - 1) := by
    have e : (2 : Int) ^ (wd k - 1) = 2 ^ (wd k - 1 - s) * 2 ^ s := by rw [← Int.pow_add]; congr 1; omega
    rw [e]; exact Int.mul_lt_mul_of_pos_right hx (pow_pos' s)
  have h63 : (2 : Int) ^ (wd k - 1) ≤ 2 ^ 63 := by exact_mod_cast Nat.pow_le_pow_right (by decide) (by omega)
  have hx0 : 0 ≤ x * 2 ^ s := Int.mul_nonneg h0 (by have := pow_pos' s; omega)
  have hm : min s 64 = s := by omega
  have hwr : wrap64 (x * 2 ^ s) = x * 2 ^ s := by unfold wrap64; omega
  have hl : leftV k x s = x * 2 ^ s := by
    unfold leftV
    rw [Int.toNat_natCast, hm, asK_fit k x h1 h8 h0 (by omega), hwr, asK_fit k _ h1 h8 hx0 hx2]
  rw [hl]
  by_cases hk : k = 8
  · subst hk
    have e8 : (2 : Int) ^ (wd 8 - 1) = 9223372036854775808 := by rw [wd8]; rfl
    have hxs : x ≤ x * 2 ^ s := by
      have : x * 1 ≤ x * 2 ^ s := Int.mul_le_mul_of_nonneg_left (by have := pow_pos' s; omega) h0
      omega
    rw [← rightV_8, Int.toNat_natCast, hm, IntKind.wrap_u64, Int.emod_eq_of_lt hx0 (by omega), Int.mul_ediv_cancel _ (pow_ne' s)]
    unfold wrap64; omega
  · rw [← rightV_ne k _ _ hk, Int.toNat_natCast, hm, asK_fit k _ h1 h8 hx0 hx2, Int.mul_ediv_cancel _ (pow_ne' s)]

set_option maxHeartbeats 1000000 in
theorem twice_walk (k n b : Int) (hn : -9223372036854775808 ≤ n ∧ n ≤ 9223372036854775807) (w : World) :
    Calls Try.prog 7 #[.int .i64 k, .int .i64 n, .int .i64 b] w fun e w' => e = .returned (.bool true) ∧ ∃ q, w' = w.drewN q := by
  by_cases hk : 1 ≤ k ∧ k ≤ 8
  case neg =>
    go_enter Try.func7, Try.ntmps7
    go_wp2_with (first | (go_at_call 12; refine (speaks_any _).mono ?_; rintro e w' ⟨rfl, q, rfl⟩) | (go_at_call 9; refine (to_no _ _ hk _).mono ?_; rintro e w' ⟨rfl, rfl⟩))
    go_ret
    exact ⟨rfl, _, rfl⟩
  obtain ⟨h1, h8⟩ := hk
  have e1 := asK_asK k n h1 h8 hn
  have e2 := swap_swap k n h1 h8 hn
  have hw : 8 ≤ wd k ∧ wd k ≤ 64 := by have := wd_in k h1 h8; omega
  by_cases hb0 : b < 0
  · go_enter Try.func7, Try.ntmps7
    go_wp2_with (first | (go_at_call 12; refine (speaks_any _).mono ?_; rintro e w' ⟨rfl, q, rfl⟩) | (go_at_call 9; refine (to_yes _ _ h1 h8 _).mono ?_; rintro e w' ⟨rfl, rfl⟩) | (go_at_call 17; refine (swap_yes _ _ h1 h8 _).mono ?_; rintro e w' ⟨rfl, rfl⟩) | (go_at_call 23; refine (width_any _ _).mono ?_; rintro e w' ⟨rfl, rfl⟩))
    go_ret
    exact ⟨rfl, _, rfl⟩
  by_cases hb1 : (wd k : Int) - 1 ≤ b
  · go_enter Try.func7, Try.ntmps7
    go_wp2_with (first | (go_at_call 12; refine (speaks_any _).mono ?_; rintro e w' ⟨rfl, q, rfl⟩) | (go_at_call 9; refine (to_yes _ _ h1 h8 _).mono ?_; rintro e w' ⟨rfl, rfl⟩) | (go_at_call 17; refine (swap_yes _ _ h1 h8 _).mono ?_; rintro e w' ⟨rfl, rfl⟩) | (go_at_call 23; refine (width_any _ _).mono ?_; rintro e w' ⟨rfl, rfl⟩))
    go_ret
    exact ⟨rfl, _, rfl⟩
  by_cases ha : asK k n < 0
  · go_enter Try.func7, Try.ntmps7
    go_wp2_with (first | (go_at_call 12; refine (speaks_any _).mono ?_; rintro e w' ⟨rfl, q, rfl⟩) | (go_at_call 9; refine (to_yes _ _ h1 h8 _).mono ?_; rintro e w' ⟨rfl, rfl⟩) | (go_at_call 17; refine (swap_yes _ _ h1 h8 _).mono ?_; rintro e w' ⟨rfl, rfl⟩) | (go_at_call 23; refine (width_any _ _).mono ?_; rintro e w' ⟨rfl, rfl⟩))
    go_ret
    exact ⟨rfl, _, rfl⟩
  cases hq : (asK k n / 2 ^ ((wd k : Int) - 1 - b).toNat != 0) with
  | true =>
    go_enter Try.func7, Try.ntmps7
    go_wp2_with (first | (go_at_call 12; refine (speaks_any _).mono ?_; rintro e w' ⟨rfl, q, rfl⟩) | (go_at_call 9; refine (to_yes _ _ h1 h8 _).mono ?_; rintro e w' ⟨rfl, rfl⟩) | (go_at_call 17; refine (swap_yes _ _ h1 h8 _).mono ?_; rintro e w' ⟨rfl, rfl⟩) | (go_at_call 23; refine (width_any _ _).mono ?_; rintro e w' ⟨rfl, rfl⟩) | (go_at_call 13; refine (left_is _ _ _ h1 h8 (by omega) _).mono ?_; rintro e w' ⟨rfl, rfl⟩) | (go_at_call 15; refine (right_yes _ _ _ h1 h8 (by omega) _).mono ?_; rintro e w' ⟨rfl, rfl⟩))
    go_ret
    exact ⟨rfl, _, rfl⟩
  | false =>
    have e3 : rightV k (leftV k (asK k n) b) b = asK k n := by
      refine left_back k _ b h1 h8 (by omega) (by omega) (by omega) ?_
      rw [show wd k - 1 - b.toNat = ((wd k : Int) - 1 - b).toNat by omega]
      simpa using hq
    go_enter Try.func7, Try.ntmps7
    go_wp2_with (first | (go_at_call 12; refine (speaks_any _).mono ?_; rintro e w' ⟨rfl, q, rfl⟩) | (go_at_call 9; refine (to_yes _ _ h1 h8 _).mono ?_; rintro e w' ⟨rfl, rfl⟩) | (go_at_call 17; refine (swap_yes _ _ h1 h8 _).mono ?_; rintro e w' ⟨rfl, rfl⟩) | (go_at_call 23; refine (width_any _ _).mono ?_; rintro e w' ⟨rfl, rfl⟩) | (go_at_call 13; refine (left_is _ _ _ h1 h8 (by omega) _).mono ?_; rintro e w' ⟨rfl, rfl⟩) | (go_at_call 15; refine (right_yes _ _ _ h1 h8 (by omega) _).mono ?_; rintro e w' ⟨rfl, rfl⟩))
    go_ret
    exact ⟨rfl, _, rfl⟩
end Go.Proofs.Ytonejnbflkkapaa
