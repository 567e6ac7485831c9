import Derived.Test.YtonejnbflkkapaaWide
namespace Go.Proofs.Ytonejnbflkkapaa
open Go.RowKit

theorem refRight_in {k : Int} {s : Nat} {f : Nat → Bool} {j : Nat} (h : j + s < 64) : f (j + s) = refRight k s f j := by unfold refRight; rw [if_pos h]
theorem refRight_out {k : Int} {s : Nat} {f : Nat → Bool} {j : Nat} (h : ¬ j + s < 64) (h4 : k ≤ 4) : f 63 = refRight k s f j := by unfold refRight; rw [if_neg h, decide_eq_true h4, Bool.true_and]
theorem refRight_off {k : Int} {s : Nat} {f : Nat → Bool} {j : Nat} (h : ¬ j + s < 64) (h4 : ¬ k ≤ 4) : false = refRight k s f j := by unfold refRight; rw [if_neg h, decide_eq_false h4, Bool.false_and]
set_option maxHeartbeats 2000000 in
theorem refRight_yes (k n b : Int) (h1 : 1 ≤ k) (h8 : k ≤ 8) (hn : -9223372036854775808 ≤ n ∧ n ≤ 9223372036854775807) (hb : 0 ≤ b) (hbu : b ≤ 9223372036854775807) (w : World) : Calls Try.prog 16 #[.int .i64 k, .int .i64 n, .int .i64 b] w fun e w' => e = .returned (.tuple #[.int .i64 (rightV k n b), .int .i64 0]) ∧ Below w.heap.size w w' := by
  have hw : 8 ≤ wd k ∧ wd k ≤ 64 := by have := wd_in k h1 h8; omega
  have hw0 : ((wd k : Int) == 0) = false := by simp; omega
  obtain ⟨s, rfl⟩ := Int.eq_ofNat_of_zero_le hb
  go_enter Try.func16, Try.ntmps16
  go_wp2_with (first | (go_at_call 23; refine (width_any _ _).mono ?_; rintro e w' ⟨rfl, rfl⟩) | (go_at_call 28; refine (bits_any _ _).mono ?_; rintro e w1 ⟨v1, rfl, hv1, hb1⟩) | (go_at_call 27; refine (wide_any _ h1 h8 _ _ _ hv1).mono ?_; rintro e wq ⟨vq, rfl, hvq, hbq⟩))
  obtain ⟨f, hf⟩ : ∃ f, f = wideB k (bt n) := ⟨_, rfl⟩
  rw [← hf] at hvq
  have HF : Hid (f = wideB k (bt n)) := hf
  clear hf hv1
  obtain ⟨g, cap, rfl, hg, hc⟩ := hvq
  go_loopw [10, 11] (fun u i wr => ∃ (j : Nat), j ≤ 64 ∧ i = .int .i64 j ∧ wr.ownsRow wq.heap.size 4 1 u j (cellsB (refRight k s f) j) ∧ Below wq.heap.size wq wr) (fun _ i _ => 64 - (intOf i).toNat)
  case atStart => exact ⟨0, Nat.zero_le _, rfl, World.ownsRow_nil _ _ _ _, Below.refl _ _⟩
  case round =>
    obtain ⟨j, hj, rfl, hown, hnx⟩ := hrel
    have hsz := hnx.size
    by_cases hlt : j < 64
    · by_cases hjs : j + s < 64
      · have hs64 : s < 64 := by omega
        have hcj : wr.cell? ⟨g, j + s, none⟩ = some (.bool (f (j + s))) := (hnx.cell (p := ⟨g, j + s, none⟩) hg).trans (hc (j + s) (by omega))
        clear hc
        go_wp2_with (at_builtin; refine push_bool rfl _ _ rfl _ _ _ _ _ rfl rfl hown (by omega) hsz ?_)
        intro v' w9 hown' hbel
        have hown2 := (cellsB_succ (refRight k s f) j _ (refRight_in hjs)) ▸ hown'
        have hnx2 := hnx.trans hbel
        clear hown' hbel hown hnx hcj
        go_wp2
        go_roundw
        case rel => exact ⟨j + 1, by omega, by go_num, hown2, hnx2⟩
        case measure => simp [intOf]; omega
      · have hcj : wr.cell? ⟨g, 63, none⟩ = some (.bool (f 63)) := (hnx.cell (p := ⟨g, 63, none⟩) hg).trans (hc 63 (by omega))
        clear hc
        have HN : Hid (¬ j + s < 64) := hjs
        by_cases hk4 : k ≤ 4
        · by_cases hs64 : s < 64
          · clear hjs
            have hjs2 : 64 ≤ j + s := by have := HN.out; omega
            go_wp2_with (at_builtin; refine push_bool rfl _ _ rfl _ _ _ _ _ rfl rfl hown (by omega) hsz ?_)
            intro v' w9 hown' hbel
            have hown2 := (cellsB_succ (refRight k s f) j _ (refRight_out HN.out hk4)) ▸ hown'
            have hnx2 := hnx.trans hbel
            clear hown' hbel hown hnx hcj
            go_wp2
            go_roundw
            case rel => exact ⟨j + 1, by omega, by go_num, hown2, hnx2⟩
            case measure => simp [intOf]; omega
          · clear hjs
            go_wp2_with (at_builtin; refine push_bool rfl _ _ rfl _ _ _ _ _ rfl rfl hown (by omega) hsz ?_)
            intro v' w9 hown' hbel
            have hown2 := (cellsB_succ (refRight k s f) j _ (refRight_out HN.out hk4)) ▸ hown'
            have hnx2 := hnx.trans hbel
            clear hown' hbel hown hnx hcj
            go_wp2
            go_roundw
            case rel => exact ⟨j + 1, by omega, by go_num, hown2, hnx2⟩
            case measure => simp [intOf]; omega
        · have HK : Hid (¬ k ≤ 4) := hk4
          by_cases hs64 : s < 64
          · clear hjs
            have hjs2 : 64 ≤ j + s := by have := HN.out; omega
            go_wp2_with (at_builtin; refine push_bool rfl _ _ rfl _ _ _ _ _ rfl rfl hown (by omega) hsz ?_)
            intro v' w9 hown' hbel
            have hown2 := (cellsB_succ (refRight k s f) j _ (refRight_off HN.out (by have := HK.out; omega))) ▸ hown'
            have hnx2 := hnx.trans hbel
            clear hown' hbel hown hnx hcj
            go_wp2
            go_roundw
            case rel => exact ⟨j + 1, by omega, by go_num, hown2, hnx2⟩
            case measure => simp [intOf]; omega
          · clear hjs
            go_wp2_with (at_builtin; refine push_bool rfl _ _ rfl _ _ _ _ _ rfl rfl hown (by omega) hsz ?_)
            intro v' w9 hown' hbel
            have hown2 := (cellsB_succ (refRight k s f) j _ (refRight_off HN.out (by have := HK.out; omega))) ▸ hown'
            have hnx2 := hnx.trans hbel
            clear hown' hbel hown hnx hcj
            go_wp2
            go_roundw
            case rel => exact ⟨j + 1, by omega, by go_num, hown2, hnx2⟩
            case measure => simp [intOf]; omega
    · have hj64 : j = 64 := by omega
      subst hj64
      have hvo := has_of_own hown
      clear hc hown
      go_wp2_with (first | (go_at_call 27; refine (wide_any _ h1 h8 _ _ _ hvo).mono ?_; rintro e w2 ⟨v2, rfl, hv2, hb2⟩) | (go_at_call 26; refine (number_any _ _ _ hv2).mono ?_; rintro e w3 ⟨m, rfl, hm, hmb, rfl⟩))
      go_ret2
      have e : m = rightV k n s := bt_ext hm (right_range k n s h1 h8 hn) fun i hi => by rw [hmb i hi, bt_right k n s h1 h8 hn i hi, HF.out, Int.toNat_natCast]
      subst e
      exact ⟨rfl, ((hb1.trans (hbq.mono hb1.size)).trans (hnx.mono (Nat.le_trans hb1.size hbq.size))).trans (hb2.mono (Nat.le_trans hb1.size (Nat.le_trans hbq.size hnx.size)))⟩
theorem refRight_no (k n b : Int) (h : ¬ (1 ≤ k ∧ k ≤ 8 ∧ 0 ≤ b)) (w : World) : Calls Try.prog 16 #[.int .i64 k, .int .i64 n, .int .i64 b] w fun e w' => e = .returned (.tuple #[.int .i64 0, .int .i64 1]) ∧ w' = w := by
  by_cases hk : 1 ≤ k ∧ k ≤ 8
  · have hw : 8 ≤ wd k ∧ wd k ≤ 64 := by have := wd_in k hk.1 hk.2; omega
    have hw0 : ((wd k : Int) == 0) = false := by simp; omega
    have hb : b < 0 := by omega
    clear h hk
    go_enter Try.func16, Try.ntmps16
    go_wp2_with (first | (go_at_call 23; refine (width_any _ _).mono ?_; rintro e w' ⟨rfl, rfl⟩))
    go_ret2
    exact ⟨rfl, rfl⟩
  · have hw : wd k = 0 := by unfold wd; rw [if_neg (by omega), if_neg (by omega), if_neg (by omega), if_neg (by omega)]
    clear h hk
    go_enter Try.func16, Try.ntmps16
    go_wp2_with (first | (go_at_call 23; refine (width_any _ _).mono ?_; rintro e w' ⟨rfl, rfl⟩; rw [hw]))
    go_ret2
    exact ⟨rfl, rfl⟩
end Go.Proofs.Ytonejnbflkkapaa
