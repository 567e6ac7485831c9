import Derived.Test.YtonejnbflkkapaaMem
import Derived.Test.YtonejnbflkkapaaTwiceW
namespace Go.Proofs.Ytonejnbflkkapaa
open Go.RowKit

theorem bits_any (n : Int) (w : World) : Calls Try.prog 28 #[.int .i64 n] w fun e w' => ∃ v, e = .returned v ∧ Has w' v (bt n) ∧ Below w.heap.size w w' :=
  (bits_own n w).mono fun _ _ ⟨v, h1, h2, h3⟩ => ⟨v, h1, has_of_own h2, h3⟩

set_option maxHeartbeats 1000000 in
theorem wide_any (k : Int) (h1 : 1 ≤ k) (h8 : k ≤ 8) (v : Value) (f : Nat → Bool) (w : World) (hv : Has w v f) :
    Calls Try.prog 27 #[.int .i64 k, v] w fun e w' => ∃ v', e = .returned v' ∧ Has w' v' (wideB k f) ∧ Below w.heap.size w w' := by
  obtain ⟨g, cap, rfl, hg, hc⟩ := hv
  have hw : 8 ≤ wd k ∧ wd k ≤ 64 := by have := wd_in k h1 h8; omega
  go_enter Try.func27, Try.ntmps27
  go_wp2_with (first | (go_at_call 23; refine (width_any _ _).mono ?_; rintro e w' ⟨rfl, rfl⟩))
  go_loopw [6, 7] (fun u i wr => ∃ (j : Nat), j ≤ 64 ∧ i = .int .i64 j ∧ wr.ownsRow w'.heap.size 4 1 u j (cellsB (wideB k f) j) ∧ Below w'.heap.size w' wr) (fun _ i _ => 64 - (intOf i).toNat)
  case atStart => exact ⟨0, Nat.zero_le _, rfl, World.ownsRow_nil _ _ _ _, Below.refl _ _⟩
  case round =>
    obtain ⟨j, hj, rfl, hown, hnx⟩ := hrel
    have hsz := hnx.size
    by_cases hlt : j < 64
    · by_cases hjw : j < wd k
      · have hcj : wr.cell? ⟨g, j, none⟩ = some (.bool (f j)) := (hnx.cell (p := ⟨g, j, none⟩) hg).trans (hc j hlt)
        clear hc
        go_wp2_with (at_builtin; refine push_bool rfl _ _ rfl _ _ _ _ _ rfl rfl hown (by omega) hsz ?_)
        intro v' w1 hown' hbel
        have hown2 := (cellsB_succ (wideB k f) j _ (wideB_lt hjw).symm) ▸ hown'
        have hnx2 := hnx.trans hbel
        clear hown' hbel hown hnx hcj
        go_wp2
        go_roundw
        case rel => exact ⟨j + 1, by omega, by go_num, hown2, hnx2⟩
        case measure => simp [intOf]; omega
      · by_cases hk4 : k ≤ 4
        · have hcj : wr.cell? ⟨g, wd k - 1, none⟩ = some (.bool (f (wd k - 1))) := (hnx.cell (p := ⟨g, wd k - 1, none⟩) hg).trans (hc (wd k - 1) (by omega))
          clear hc
          go_wp2_with (at_builtin; refine push_bool rfl _ _ rfl _ _ _ _ _ rfl rfl hown (by omega) hsz ?_)
          intro v' w1 hown' hbel
          have hown2 := (cellsB_succ (wideB k f) j _ (show f (wd k - 1) = wideB k f j by unfold wideB; rw [if_neg hjw, decide_eq_true hk4, Bool.true_and])) ▸ hown'
          have hnx2 := hnx.trans hbel
          clear hown' hbel hown hnx hcj
          go_wp2
          go_roundw
          case rel => exact ⟨j + 1, by omega, by go_num, hown2, hnx2⟩
          case measure => simp [intOf]; omega
        · clear hc
          go_wp2_with (at_builtin; refine push_bool rfl _ _ rfl _ _ _ _ _ rfl rfl hown (by omega) hsz ?_)
          intro v' w1 hown' hbel
          have hown2 := (cellsB_succ (wideB k f) j _ (show false = wideB k f j by unfold wideB; rw [if_neg hjw, decide_eq_false (by omega), Bool.false_and])) ▸ hown'
          have hnx2 := hnx.trans hbel
          clear hown' hbel hown hnx
          go_wp2
          go_roundw
          case rel => exact ⟨j + 1, by omega, by go_num, hown2, hnx2⟩
          case measure => simp [intOf]; omega
    · have hj64 : j = 64 := by omega
      subst hj64
      clear hc
      go_wp2
      go_ret
      exact ⟨_, rfl, has_of_own hown, hnx⟩

theorem refTo_yes (k n : Int) (h1 : 1 ≤ k) (h8 : k ≤ 8) (hn : -9223372036854775808 ≤ n ∧ n ≤ 9223372036854775807) (w : World) : Calls Try.prog 10 #[.int .i64 k, .int .i64 n] w fun e w' => e = .returned (.tuple #[.int .i64 (asK k n), .int .i64 0]) ∧ Below w.heap.size w w' := by
  have hw : 8 ≤ wd k ∧ wd k ≤ 64 := by have := wd_in k h1 h8; omega
  go_enter Try.func10, Try.ntmps10
  go_wp2_with (first | (go_at_call 23; refine (width_any _ _).mono ?_; rintro e w' ⟨rfl, rfl⟩) | (go_at_call 28; refine (bits_any _ _).mono ?_; rintro e w1 ⟨v1, rfl, hv1, hb1⟩) | (go_at_call 27; refine (wide_any _ h1 h8 _ _ _ hv1).mono ?_; rintro e w2 ⟨v2, rfl, hv2, hb2⟩) | (go_at_call 26; refine (number_any _ _ _ hv2).mono ?_; rintro e w3 ⟨m, rfl, hm, hmb, rfl⟩))
  go_ret2
  have e : m = asK k n := bt_ext hm (asK_range k n h1 h8 hn) fun i hi => by rw [hmb i hi, bt_asK k n h1 h8 i hi]
  subst e
  exact ⟨rfl, hb1.trans (hb2.mono hb1.size)⟩
theorem refTo_no (k n : Int) (h : ¬ (1 ≤ k ∧ k ≤ 8)) (w : World) : Calls Try.prog 10 #[.int .i64 k, .int .i64 n] w fun e w' => e = .returned (.tuple #[.int .i64 0, .int .i64 1]) ∧ w' = w := by
  have hw : wd k = 0 := by unfold wd; rw [if_neg (by omega), if_neg (by omega), if_neg (by omega), if_neg (by omega)]
  clear h
  go_enter Try.func10, Try.ntmps10
  go_wp2_with (first | (go_at_call 23; refine (width_any _ _).mono ?_; rintro e w' ⟨rfl, rfl⟩; rw [hw]))
  go_ret2
  exact ⟨rfl, rfl⟩
end Go.Proofs.Ytonejnbflkkapaa
