import Derived.Test.YtonejnbflkkapaaFac
import Derived.Test.YtonejnbflkkapaaSpk
namespace Go.Proofs.Ytonejnbflkkapaa
open Go.RowKit

theorem bt_m1 (i : Nat) (hi : i < 64) : bt (-1) i = true := by
  rw [bt_div _ _ hi, decide_eq_true_eq, show (-1 : Int) / 2 ^ i = -1 from by
    have := pow_pos' i
    rw [show (-1 : Int) = (2 ^ i - 1) + (-1) * 2 ^ i by omega, Int.add_mul_ediv_right _ _ (pow_ne' i), Int.ediv_eq_zero_of_lt (by omega) (by omega)]
    rw [show (2 : Int) ^ i - 1 + -1 * 2 ^ i = -1 by omega]; rfl]
  decide
theorem bt_mask (b i : Nat) (hi : i < 64) : bt (2 ^ b - 1) i = decide (i < b) := by
  have e : (2 : Int) ^ b - 1 = (-1) % 2 ^ b := by
    have := pow_pos' b
    rw [show (-1 : Int) = (2 ^ b - 1) + 2 ^ b * (-1) by omega, Int.add_mul_emod_self_left, Int.emod_eq_of_lt (by omega) (by omega)]
  rw [e, bt_mod _ _ _ hi, bt_m1 i hi, Bool.and_true]
theorem bt_field (n a b : Int) (i : Nat) (hi : i < 64) : bt (fieldV n a b) i = (decide (i < b.toNat) && bt n (a.toNat + i)) := by
  unfold fieldV
  rw [bt_wrap64, bt_and, bt_shr_u _ (wrapu_range n) _ i hi, bt_wrapu, bt_mask _ _ hi, Bool.and_comm]
theorem field_range (n a b : Int) : -9223372036854775808 ≤ fieldV n a b ∧ fieldV n a b ≤ 9223372036854775807 := wrap64_range _
theorem bt_put (n a b v : Int) (h0 : 0 ≤ v) (hv : v < 2 ^ b.toNat) (i : Nat) (hi : i < 64) :
    bt (putV n a b v) i = if a.toNat ≤ i ∧ i < a.toNat + b.toNat then bt v (i - a.toNat) else bt n i := by
  unfold putV
  rw [bt_wrap64, bt_or, bt_andNot _ _ _ hi, bt_wrapu, bt_wrapu, bt_wrapu, bt_shl _ _ _ hi, bt_shl _ _ _ hi, bt_wrapu]
  by_cases ha : a.toNat ≤ i
  · rw [bt_mask _ _ (by omega)]
    by_cases hb : i < a.toNat + b.toNat
    · rw [if_pos ⟨ha, hb⟩, show decide (a.toNat ≤ i) = true by simp [ha], show decide (i - a.toNat < b.toNat) = true by simp; omega]; simp
    · rw [if_neg (by omega), show decide (a.toNat ≤ i) = true by simp [ha], show decide (i - a.toNat < b.toNat) = false by simp; omega, bt_nonneg_small v h0 b.toNat _ hv (by omega)]; simp
  · rw [if_neg (by omega), show decide (a.toNat ≤ i) = false by simp [ha]]; simp
theorem field_put (n a b v : Int) (hf : fld a b = true) (h0 : 0 ≤ v) (hv : v < 2 ^ b.toNat) : fieldV (putV n a b v) a b = v := by
  have ⟨f0, f1, f2, f3⟩ := fld_of hf
  have hp : (2 : Int) ^ b.toNat ≤ 2 ^ 62 := by exact_mod_cast Nat.pow_le_pow_right (by decide) (by omega)
  refine bt_ext (field_range _ _ _) ⟨by omega, by omega⟩ fun i hi => ?_
  rw [bt_field _ _ _ _ hi]
  by_cases hb : i < b.toNat
  · rw [bt_put n a b v h0 hv _ (by omega), if_pos (by omega), show a.toNat + i - a.toNat = i by omega]; simp [hb]
  · rw [bt_nonneg_small v h0 b.toNat i hv (by omega), show decide (i < b.toNat) = false by simp [hb], Bool.false_and]
theorem field_else (n a b v a' b' : Int) (hf : fld a b = true) (hf' : fld a' b' = true) (h0 : 0 ≤ v) (hv : v < 2 ^ b.toNat) (h : ¬ (a' < a + b ∧ a < a' + b')) : fieldV (putV n a b v) a' b' = fieldV n a' b' := by
  have ⟨f0, f1, f2, f3⟩ := fld_of hf
  have ⟨g0, g1, g2, g3⟩ := fld_of hf'
  refine bt_ext (field_range _ _ _) (field_range _ _ _) fun i hi => ?_
  rw [bt_field _ _ _ _ hi, bt_field _ _ _ _ hi]
  by_cases hb : i < b'.toNat
  · rw [bt_put n a b v h0 hv _ (by omega), if_neg (by omega)]
  · rw [show decide (i < b'.toNat) = false by simp [hb], Bool.false_and, Bool.false_and]

def fieldW (n a b : Int) : Int := if fld a b = true then fieldV n a b else 0
def errF (a b : Int) : Int := if fld a b = true then 0 else 1
theorem fieldW_yes {n a b : Int} (h : fld a b = true) : fieldW n a b = fieldV n a b := if_pos h
theorem errF_yes {a b : Int} (h : fld a b = true) : errF a b = 0 := if_pos h
theorem fieldW_no {n a b : Int} (h : fld a b = false) : fieldW n a b = 0 := by unfold fieldW; rw [h]; rfl
theorem errF_no {a b : Int} (h : fld a b = false) : errF a b = 1 := by unfold errF; rw [h]; rfl
theorem field_any (n a b : Int) (hb : -9223372036854775808 ≤ b ∧ b ≤ 9223372036854775807) (w : World) : Calls Try.prog 19 #[.int .i64 n, .int .i64 a, .int .i64 b] w fun e w' => e = .returned (.tuple #[.int .i64 (fieldW n a b), .int .i64 (errF a b)]) ∧ ∃ q, w' = w.drewN q := by
  cases h : fld a b with
  | true => rw [fieldW_yes h, errF_yes h]; exact field_yes n a b h w
  | false => rw [fieldW_no h, errF_no h]; exact (field_no n a b hb h w).mono fun e w' ⟨x, y⟩ => ⟨x, 0, y⟩

set_option maxHeartbeats 1000000 in
theorem back_walk (n a b v a' b' : Int) (hb : -9223372036854775808 ≤ b ∧ b ≤ 9223372036854775807) (hb' : -9223372036854775808 ≤ b' ∧ b' ≤ 9223372036854775807) (w : World) :
    Calls Try.prog 6 #[.agg #[.int .i64 n, .int .i64 a, .int .i64 b, .int .i64 v], .int .i64 a', .int .i64 b'] w fun e w' => e = .returned (.bool true) ∧ ∃ q, w' = (w.alloc (.cells #[.int .i64 n, .int .i64 a, .int .i64 b, .int .i64 v] 33)).drewN q := by
  cases hf : fld a b with
  | false =>
    go_enter Try.func6, Try.ntmps6
    go_wp2_with (first | (go_at_call 12; refine (speaks_any _).mono ?_; rintro e w' ⟨rfl, q, rfl⟩) | (go_at_call 21; refine (put_no _ _ _ _ hb hf _).mono ?_; rintro e w' ⟨rfl, rfl⟩))
    go_ret
    exact ⟨rfl, _, rfl⟩
  | true =>
  have ⟨f0, f1, f2, f3⟩ := fld_of hf
  by_cases h0 : v < 0
  · go_enter Try.func6, Try.ntmps6
    go_wp2_with (first | (go_at_call 12; refine (speaks_any _).mono ?_; rintro e w' ⟨rfl, q, rfl⟩) | (go_at_call 21; refine (put_neg _ _ _ _ hf h0 _).mono ?_; rintro e w' ⟨rfl, rfl⟩))
    go_ret
    exact ⟨rfl, _, rfl⟩
  have h0' : 0 ≤ v := by omega
  clear h0
  by_cases hv : 2 ^ b.toNat ≤ v
  · go_enter Try.func6, Try.ntmps6
    go_wp2_with (first | (go_at_call 12; refine (speaks_any _).mono ?_; rintro e w' ⟨rfl, q, rfl⟩) | (go_at_call 21; refine (put_big _ _ _ _ hf h0' hv _).mono ?_; rintro e w' ⟨rfl, rfl⟩))
    go_ret
    exact ⟨rfl, _, rfl⟩
  have hv' : v < 2 ^ b.toNat := by omega
  clear hv
  have e1 := field_put n a b v hf h0' hv'
  cases hf' : fld a' b' with
  | false =>
    go_enter Try.func6, Try.ntmps6
    go_wp2_with (first | (go_at_call 12; refine (speaks_any _).mono ?_; rintro e w' ⟨rfl, q, rfl⟩) | (go_at_call 21; refine (put_yes _ _ _ _ hf h0' hv' _).mono ?_; rintro e w' ⟨rfl, q, rfl⟩) | (go_at_call 19; refine (field_any _ _ _ (by first | exact hb | exact hb') _).mono ?_; rintro e w' ⟨rfl, q, rfl⟩; first | rw [fieldW_yes hf, errF_yes hf] | rw [fieldW_yes hf', errF_yes hf'] | rw [fieldW_no hf', errF_no hf']))
    go_ret
    exact ⟨rfl, _, rfl⟩
  | true =>
  have ⟨g0, g1, g2, g3⟩ := fld_of hf'
  by_cases hd1 : a' < a + b
  · by_cases hd2 : a < a' + b'
    · go_enter Try.func6, Try.ntmps6
      go_wp2_with (first | (go_at_call 12; refine (speaks_any _).mono ?_; rintro e w' ⟨rfl, q, rfl⟩) | (go_at_call 21; refine (put_yes _ _ _ _ hf h0' hv' _).mono ?_; rintro e w' ⟨rfl, q, rfl⟩) | (go_at_call 19; refine (field_any _ _ _ (by first | exact hb | exact hb') _).mono ?_; rintro e w' ⟨rfl, q, rfl⟩; first | rw [fieldW_yes hf, errF_yes hf] | rw [fieldW_yes hf', errF_yes hf'] | rw [fieldW_no hf', errF_no hf']))
      go_ret
      exact ⟨rfl, _, rfl⟩
    · have e2 := field_else n a b v a' b' hf hf' h0' hv' (by omega)
      go_enter Try.func6, Try.ntmps6
      go_wp2_with (first | (go_at_call 12; refine (speaks_any _).mono ?_; rintro e w' ⟨rfl, q, rfl⟩) | (go_at_call 21; refine (put_yes _ _ _ _ hf h0' hv' _).mono ?_; rintro e w' ⟨rfl, q, rfl⟩) | (go_at_call 19; refine (field_any _ _ _ (by first | exact hb | exact hb') _).mono ?_; rintro e w' ⟨rfl, q, rfl⟩; first | rw [fieldW_yes hf, errF_yes hf] | rw [fieldW_yes hf', errF_yes hf'] | rw [fieldW_no hf', errF_no hf']))
      go_ret
      exact ⟨rfl, _, rfl⟩
  · have e2 := field_else n a b v a' b' hf hf' h0' hv' (by omega)
    go_enter Try.func6, Try.ntmps6
    go_wp2_with (first | (go_at_call 12; refine (speaks_any _).mono ?_; rintro e w' ⟨rfl, q, rfl⟩) | (go_at_call 21; refine (put_yes _ _ _ _ hf h0' hv' _).mono ?_; rintro e w' ⟨rfl, q, rfl⟩) | (go_at_call 19; refine (field_any _ _ _ (by first | exact hb | exact hb') _).mono ?_; rintro e w' ⟨rfl, q, rfl⟩; first | rw [fieldW_yes hf, errF_yes hf] | rw [fieldW_yes hf', errF_yes hf'] | rw [fieldW_no hf', errF_no hf']))
    go_ret
    exact ⟨rfl, _, rfl⟩
end Go.Proofs.Ytonejnbflkkapaa
