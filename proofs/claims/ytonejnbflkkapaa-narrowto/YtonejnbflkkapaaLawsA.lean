import Derived.Test.YtonejnbflkkapaaRefL
import Derived.Test.YtonejnbflkkapaaRefR
import Derived.Test.YtonejnbflkkapaaRefS
import Derived.WalkSmall
namespace Go.Proofs.Ytonejnbflkkapaa
open Go.RowKit

set_option maxHeartbeats 1000000 in
theorem to_walk (k n : Int) (hn : -9223372036854775808 ≤ n ∧ n ≤ 9223372036854775807) (w : World) :
    Calls Try.prog 3 #[.int .i64 k, .int .i64 n] w fun e w' => e = .returned (.bool true) ∧ Below w.heap.size w w' := by
  by_cases hk : 1 ≤ k ∧ k ≤ 8
  · obtain ⟨h1, h8⟩ := hk
    have hd : decide (1 ≤ k ∧ k ≤ 8) = true := by simp [h1, h8]
    cases hq : (asK k n == n) with
    | true =>
      go_enter Try.func3, Try.ntmps3
      go_wp2_with (first | (go_at_call 12; refine (speaks_any _).mono ?_; rintro e w' ⟨rfl, q, rfl⟩) | (go_at_call 9; refine (to_yes _ _ h1 h8 _).mono ?_; rintro e w' ⟨rfl, rfl⟩) | (go_at_call 10; refine (refTo_yes _ _ h1 h8 hn _).mono ?_; rintro e w1 ⟨rfl, hb1⟩) | (go_at_call 11; refine (fits_any _ _ _).mono ?_; rintro e w' ⟨rfl, rfl⟩; rw [hd, hq]))
      go_ret
      exact ⟨rfl, below_drewN hb1 _⟩
    | false =>
      go_enter Try.func3, Try.ntmps3
      go_wp2_with (first | (go_at_call 12; refine (speaks_any _).mono ?_; rintro e w' ⟨rfl, q, rfl⟩) | (go_at_call 9; refine (to_yes _ _ h1 h8 _).mono ?_; rintro e w' ⟨rfl, rfl⟩) | (go_at_call 10; refine (refTo_yes _ _ h1 h8 hn _).mono ?_; rintro e w1 ⟨rfl, hb1⟩) | (go_at_call 11; refine (fits_any _ _ _).mono ?_; rintro e w' ⟨rfl, rfl⟩; rw [hd, hq]))
      go_ret
      exact ⟨rfl, below_drewN hb1 _⟩
  · have hd : decide (1 ≤ k ∧ k ≤ 8) = false := decide_eq_false hk
    have HK : Hid (¬ (1 ≤ k ∧ k ≤ 8)) := hk
    clear hk
    go_enter Try.func3, Try.ntmps3
    go_wp2_with (first | (go_at_call 12; refine (speaks_any _).mono ?_; rintro e w' ⟨rfl, q, rfl⟩) | (go_at_call 9; refine (to_no _ _ HK.out _).mono ?_; rintro e w' ⟨rfl, rfl⟩) | (go_at_call 10; refine (refTo_no _ _ HK.out _).mono ?_; rintro e w1 ⟨rfl, rfl⟩) | (go_at_call 11; refine (fits_any _ _ _).mono ?_; rintro e w' ⟨rfl, rfl⟩; rw [hd, Bool.false_and]))
    go_ret
    exact ⟨rfl, below_drewN (Below.refl _ _) _⟩

set_option maxHeartbeats 2000000 in
theorem shifts_walk (k n b : Int) (hn : -9223372036854775808 ≤ n ∧ n ≤ 9223372036854775807) (hbr : -9223372036854775808 ≤ b ∧ b ≤ 9223372036854775807) (w : World) :
    Calls Try.prog 4 #[.int .i64 k, .int .i64 n, .int .i64 b] w fun e w' => e = .returned (.bool true) ∧ Below w.heap.size w w' := by
  by_cases hk : 1 ≤ k ∧ k ≤ 8
  · obtain ⟨h1, h8⟩ := hk
    by_cases hb : 0 ≤ b
    · go_enter Try.func4, Try.ntmps4
      go_wp2_with (first | (go_at_call 12; refine (speaks_any _).mono ?_; rintro e w' ⟨rfl, q, rfl⟩) | (go_at_call 13; refine (left_is _ _ _ h1 h8 hb _).mono ?_; rintro e w' ⟨rfl, rfl⟩) | (go_at_call 14; refine (refLeft_yes _ _ _ h1 h8 hb hbr.2 _).mono ?_; rintro e w1 ⟨rfl, hb1⟩) | (go_at_call 15; refine (right_yes _ _ _ h1 h8 hb _).mono ?_; rintro e w' ⟨rfl, rfl⟩) | (go_at_call 16; refine (refRight_yes _ _ _ h1 h8 hn hb hbr.2 _).mono ?_; rintro e w2 ⟨rfl, hb2⟩) | (go_at_call 17; refine (swap_yes _ _ h1 h8 _).mono ?_; rintro e w' ⟨rfl, rfl⟩) | (go_at_call 18; refine (refSwap_yes _ _ h1 h8 _).mono ?_; rintro e w3 ⟨rfl, hb3⟩))
      go_ret
      exact ⟨rfl, below_drewN ((hb1.trans (hb2.mono hb1.size)).trans (hb3.mono (Nat.le_trans hb1.size hb2.size))) _⟩
    · have HB : Hid (¬ (1 ≤ k ∧ k ≤ 8 ∧ 0 ≤ b)) := fun h => hb h.2.2
      clear hb
      go_enter Try.func4, Try.ntmps4
      go_wp2_with (first | (go_at_call 12; refine (speaks_any _).mono ?_; rintro e w' ⟨rfl, q, rfl⟩) | (go_at_call 13; refine (left_no _ _ _ HB.out _).mono ?_; rintro e w' ⟨rfl, rfl⟩) | (go_at_call 14; refine (refLeft_no _ _ _ HB.out _).mono ?_; rintro e w1 ⟨rfl, rfl⟩) | (go_at_call 15; refine (right_no _ _ _ HB.out _).mono ?_; rintro e w' ⟨rfl, rfl⟩) | (go_at_call 16; refine (refRight_no _ _ _ HB.out _).mono ?_; rintro e w2 ⟨rfl, rfl⟩) | (go_at_call 17; refine (swap_yes _ _ h1 h8 _).mono ?_; rintro e w' ⟨rfl, rfl⟩) | (go_at_call 18; refine (refSwap_yes _ _ h1 h8 _).mono ?_; rintro e w3 ⟨rfl, hb3⟩))
      go_ret
      exact ⟨rfl, below_drewN hb3 _⟩
  · have HB : Hid (¬ (1 ≤ k ∧ k ≤ 8 ∧ 0 ≤ b)) := fun h => hk ⟨h.1, h.2.1⟩
    have HK : Hid (¬ (1 ≤ k ∧ k ≤ 8)) := hk
    clear hk
    go_enter Try.func4, Try.ntmps4
    go_wp2_with (first | (go_at_call 12; refine (speaks_any _).mono ?_; rintro e w' ⟨rfl, q, rfl⟩) | (go_at_call 13; refine (left_no _ _ _ HB.out _).mono ?_; rintro e w' ⟨rfl, rfl⟩) | (go_at_call 14; refine (refLeft_no _ _ _ HB.out _).mono ?_; rintro e w1 ⟨rfl, rfl⟩) | (go_at_call 15; refine (right_no _ _ _ HB.out _).mono ?_; rintro e w' ⟨rfl, rfl⟩) | (go_at_call 16; refine (refRight_no _ _ _ HB.out _).mono ?_; rintro e w2 ⟨rfl, rfl⟩) | (go_at_call 17; refine (swap_no _ _ HK.out _).mono ?_; rintro e w' ⟨rfl, rfl⟩) | (go_at_call 18; refine (refSwap_no _ _ HK.out _).mono ?_; rintro e w3 ⟨rfl, rfl⟩))
    go_ret
    exact ⟨rfl, below_drewN (Below.refl _ _) _⟩
end Go.Proofs.Ytonejnbflkkapaa
