import Derived.Test.YtonejnbflkkapaaWide
import Derived.Test.YtonejnbflkkapaaBackW
namespace Go.Proofs.Ytonejnbflkkapaa
open Go.RowKit

theorem fielded_any (a b : Int) (ha : -9223372036854775808 ≤ a ∧ a ≤ 9223372036854775807) (hb : -9223372036854775808 ≤ b ∧ b ≤ 9223372036854775807) (w : World) : Calls Try.prog 33 #[.int .i64 a, .int .i64 b] w fun e w' => e = .returned (.bool (fld a b)) ∧ w' = w := by
  by_cases h0 : 0 ≤ a
  · by_cases ha' : a < 64
    · by_cases h1 : 1 ≤ b
      · by_cases h2 : b ≤ 62
        · by_cases h3 : b ≤ 64 - a
          all_goals
            go_enter Try.func33, Try.ntmps33
            go_wp2
            go_ret
            exact ⟨by simp [fld]; omega, rfl⟩
        · go_enter Try.func33, Try.ntmps33
          go_wp2
          go_ret
          exact ⟨by simp [fld]; omega, rfl⟩
      · go_enter Try.func33, Try.ntmps33
        go_wp2
        go_ret
        exact ⟨by simp [fld]; omega, rfl⟩
    · go_enter Try.func33, Try.ntmps33
      go_wp2
      go_ret
      exact ⟨by simp [fld]; omega, rfl⟩
  · go_enter Try.func33, Try.ntmps33
    go_wp2
    go_ret
    exact ⟨by simp [fld]; omega, rfl⟩

theorem dbl_part (x : Int) (k s t0 : Nat) (f : Nat → Bool) (hk : k < s) (h : ∀ t, t < 64 → bt x t = (decide (t + (k + 1) < s) && f (t0 + (t + (k + 1))))) (m : Int) (hm : m = wrap64 (wrap64 (x * 2) + (if f (t0 + k) then 1 else 0))) :
    ∀ t, t < 64 → bt m t = (decide (t + k < s) && f (t0 + (t + k))) := by
  intro t ht
  have e : bt m t = bt (x * 2 + (if f (t0 + k) then 1 else 0)) t := by
    rw [hm, bt_wrap64]; refine bt_of_mod ?_ t
    unfold wrap64; omega
  rw [e, bt_dbl x (f (t0 + k)) t ht]
  by_cases h0 : t = 0
  · subst h0; rw [if_pos rfl, decide_eq_true (by omega), Nat.zero_add, Bool.true_and]
  · rw [if_neg h0, h (t - 1) (by omega), show t - 1 + (k + 1) = t + k by omega]

set_option maxHeartbeats 1000000 in
theorem refField_yes (n a b : Int) (h : fld a b = true) (w : World) : Calls Try.prog 20 #[.int .i64 n, .int .i64 a, .int .i64 b] w fun e w' => e = .returned (.tuple #[.int .i64 (fieldV n a b), .int .i64 0]) ∧ Below w.heap.size w w' := by
  have ⟨h0, h1, h2, h3⟩ := fld_of h
  obtain ⟨p, rfl⟩ := Int.eq_ofNat_of_zero_le h0
  obtain ⟨s, rfl⟩ := Int.eq_ofNat_of_zero_le (show 0 ≤ b by omega)
  go_enter Try.func20, Try.ntmps20
  go_wp2_with (first | (go_at_call 33; refine (fielded_any _ _ (by omega) (by omega) _).mono ?_; rintro e w' ⟨rfl, rfl⟩; rw [h]) | (go_at_call 28; refine (bits_any _ _).mono ?_; rintro e w1 ⟨v1, rfl, hv1, hb1⟩))
  obtain ⟨g, cap, rfl, hg, hc⟩ := hv1
  go_loop [9, 10] (fun x i => ∃ (k : Nat) (m : Int), k ≤ s ∧ i = .int .i64 ((k : Int) - 1) ∧ x = .int .i64 m ∧ (-9223372036854775808 ≤ m ∧ m ≤ 9223372036854775807) ∧ ∀ t, t < 64 → bt m t = (decide (t + k < s) && bt n (p + (t + k)))) (fun _ i => (intOf i + 1).toNat)
  case atStart => exact ⟨s, 0, Nat.le_refl _, rfl, rfl, by decide, fun t ht => by rw [bt_zero, decide_eq_false (by omega)]; rfl⟩
  case round =>
    obtain ⟨k, m, hk, rfl, rfl, hmr, hbits⟩ := hrel
    have HB : Hid (∀ t, t < 64 → bt m t = (decide (t + k < s) && bt n (p + (t + k)))) := hbits
    clear hbits
    by_cases hk0 : k = 0
    · subst hk0
      clear hc
      go_wp2
      go_ret2
      have e : m = fieldV n p s := bt_ext hmr (field_range _ _ _) fun i hi => by rw [HB.out i hi, bt_field n p s i hi]; rfl
      subst e
      exact ⟨rfl, hb1⟩
    · obtain ⟨j, rfl⟩ : ∃ j, k = j + 1 := ⟨k - 1, by omega⟩
      have hj : j < s := by omega
      have hcj : w1.cell? ⟨g, p + j, none⟩ = some (.bool (bt n (p + j))) := hc (p + j) (by omega)
      clear hc hk0
      cases hfj : bt n (p + j) with
      | true =>
        rw [hfj] at hcj
        go_wp2
        go_round
        case rel => exact ⟨j, _, by omega, rfl, rfl, wrap64_range _, dbl_part m j s p (bt n) hj HB.out _ (by rw [hfj]; rfl)⟩
        case measure => simp [intOf]
      | false =>
        rw [hfj] at hcj
        go_wp2
        go_round
        case rel => exact ⟨j, _, by omega, rfl, rfl, wrap64_range _, dbl_part m j s p (bt n) hj HB.out _ (by rw [hfj]; exact wrap64_zero _)⟩
        case measure => simp [intOf]
theorem refField_no (n a b : Int) (ha : -9223372036854775808 ≤ a ∧ a ≤ 9223372036854775807) (hb : -9223372036854775808 ≤ b ∧ b ≤ 9223372036854775807) (h : fld a b = false) (w : World) : Calls Try.prog 20 #[.int .i64 n, .int .i64 a, .int .i64 b] w fun e w' => e = .returned (.tuple #[.int .i64 0, .int .i64 1]) ∧ w' = w := by
  go_enter Try.func20, Try.ntmps20
  go_wp2_with (first | (go_at_call 33; refine (fielded_any _ _ (by omega) (by omega) _).mono ?_; rintro e w' ⟨rfl, rfl⟩; rw [h]))
  go_ret2
  exact ⟨rfl, rfl⟩
end Go.Proofs.Ytonejnbflkkapaa
