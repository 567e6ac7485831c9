import Derived.Test.YtonejnbflkkapaaWide
namespace Go.Proofs.Ytonejnbflkkapaa
open Go.RowKit

def shlB (s : Nat) (f : Nat → Bool) (j : Nat) : Bool := decide (s ≤ j) && f (j - s)
set_option maxHeartbeats 1000000 in
theorem refLeft_yes (k n b : Int) (h1 : 1 ≤ k) (h8 : k ≤ 8) (hb : 0 ≤ b) (hbu : b ≤ 9223372036854775807) (w : World) : Calls Try.prog 14 #[.int .i64 k, .int .i64 n, .int .i64 b] w fun e w' => e = .returned (.tuple #[.int .i64 (leftV k n b), .int .i64 0]) ∧ Below w.heap.size w w' := by
  have hw : 8 ≤ wd k ∧ wd k ≤ 64 := by have := wd_in k h1 h8; omega
  have hw0 : ((wd k : Int) == 0) = false := by simp; omega
  obtain ⟨s, rfl⟩ := Int.eq_ofNat_of_zero_le hb
  go_enter Try.func14, Try.ntmps14
  go_wp2_with (first | (go_at_call 23; refine (width_any _ _).mono ?_; rintro e w' ⟨rfl, rfl⟩) | (go_at_call 28; refine (bits_any _ _).mono ?_; rintro e w1 ⟨v1, rfl, hv1, hb1⟩))
  obtain ⟨g, cap, rfl, hg, hc⟩ := hv1
  go_loopw [9, 10] (fun u i wr => ∃ (j : Nat), j ≤ 64 ∧ i = .int .i64 j ∧ wr.ownsRow w1.heap.size 4 1 u j (cellsB (shlB s (bt n)) j) ∧ Below w1.heap.size w1 wr) (fun _ i _ => 64 - (intOf i).toNat)
  case atStart => exact ⟨0, Nat.zero_le _, rfl, World.ownsRow_nil _ _ _ _, Below.refl _ _⟩
  case round =>
    obtain ⟨j, hj, rfl, hown, hnx⟩ := hrel
    have hsz := hnx.size
    by_cases hlt : j < 64
    · by_cases hjs : j < s
      · clear hc
        go_wp2_with (at_builtin; refine push_bool rfl _ _ rfl _ _ _ _ _ rfl rfl hown (by omega) hsz ?_)
        intro v' w9 hown' hbel
        have hown2 := (cellsB_succ (shlB s (bt n)) j _ (show false = shlB s (bt n) j by unfold shlB; rw [decide_eq_false (by omega), Bool.false_and])) ▸ hown'
        have hnx2 := hnx.trans hbel
        clear hown' hbel hown hnx
        go_wp2
        go_roundw
        case rel => exact ⟨j + 1, by omega, by go_num, hown2, hnx2⟩
        case measure => simp [intOf]; omega
      · have hcj : wr.cell? ⟨g, j - s, none⟩ = some (.bool (bt n (j - s))) := (hnx.cell (p := ⟨g, j - s, none⟩) hg).trans (hc (j - s) (by omega))
        clear hc
        go_wp2_with (at_builtin; refine push_bool rfl _ _ rfl _ _ _ _ _ rfl rfl hown (by omega) hsz ?_)
        intro v' w9 hown' hbel
        have hown2 := (cellsB_succ (shlB s (bt n)) j _ (show bt n (j - s) = shlB s (bt n) j by unfold shlB; rw [decide_eq_true (by omega), Bool.true_and])) ▸ hown'
        have hnx2 := hnx.trans hbel
        clear hown' hbel hown hnx hcj
        go_wp2
        go_roundw
        case rel => exact ⟨j + 1, by omega, by go_num, hown2, hnx2⟩
        case measure => simp [intOf]; omega
    · have hj64 : j = 64 := by omega
      subst hj64
      have hvo := has_of_own hown
      clear hc hown
      go_wp2_with (first | (go_at_call 27; refine (wide_any _ h1 h8 _ _ _ hvo).mono ?_; rintro e w2 ⟨v2, rfl, hv2, hb2⟩) | (go_at_call 26; refine (number_any _ _ _ hv2).mono ?_; rintro e w3 ⟨m, rfl, hm, hmb, rfl⟩))
      go_ret2
      have e : m = leftV k n s := bt_ext hm (left_range k n s h1 h8) fun i hi => by rw [hmb i hi, bt_left k n s h1 h8 i hi, Int.toNat_natCast]; rfl
      subst e
      exact ⟨rfl, (hb1.trans (hnx.mono hb1.size)).trans (hb2.mono (Nat.le_trans hb1.size hnx.size))⟩
theorem refLeft_no (k n b : Int) (h : ¬ (1 ≤ k ∧ k ≤ 8 ∧ 0 ≤ b)) (w : World) : Calls Try.prog 14 #[.int .i64 k, .int .i64 n, .int .i64 b] w fun e w' => e = .returned (.tuple #[.int .i64 0, .int .i64 1]) ∧ w' = w := by
  by_cases hk : 1 ≤ k ∧ k ≤ 8
  · have hw : 8 ≤ wd k ∧ wd k ≤ 64 := by have := wd_in k hk.1 hk.2; omega
    have hw0 : ((wd k : Int) == 0) = false := by simp; omega
    have hb : b < 0 := by omega
    clear h hk
    go_enter Try.func14, Try.ntmps14
    go_wp2_with (first | (go_at_call 23; refine (width_any _ _).mono ?_; rintro e w' ⟨rfl, rfl⟩))
    go_ret2
    exact ⟨rfl, rfl⟩
  · have hw : wd k = 0 := by unfold wd; rw [if_neg (by omega), if_neg (by omega), if_neg (by omega), if_neg (by omega)]
    clear h hk
    go_enter Try.func14, Try.ntmps14
    go_wp2_with (first | (go_at_call 23; refine (width_any _ _).mono ?_; rintro e w' ⟨rfl, rfl⟩; rw [hw]))
    go_ret2
    exact ⟨rfl, rfl⟩
end Go.Proofs.Ytonejnbflkkapaa
