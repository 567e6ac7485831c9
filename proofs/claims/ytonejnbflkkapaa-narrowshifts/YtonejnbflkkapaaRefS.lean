import Derived.Test.YtonejnbflkkapaaWide
namespace Go.Proofs.Ytonejnbflkkapaa
open Go.RowKit

def swB (w : Nat) (f : Nat → Bool) (j : Nat) : Bool := if j < w then f (w - 8 - j / 8 * 8 + j % 8) else false
set_option maxHeartbeats 1000000 in
theorem refSwap_yes (k n : Int) (h1 : 1 ≤ k) (h8 : k ≤ 8) (w : World) : Calls Try.prog 18 #[.int .i64 k, .int .i64 n] w fun e w' => e = .returned (.tuple #[.int .i64 (swapV k n), .int .i64 0]) ∧ Below w.heap.size w w' := by
  have hw : 8 ≤ wd k ∧ wd k ≤ 64 := by have := wd_in k h1 h8; omega
  have hw8 : ∃ d, wd k = 8 * d := by have := wd_in k h1 h8; exact ⟨wd k / 8, by omega⟩
  go_enter Try.func18, Try.ntmps18
  go_wp2_with (first | (go_at_call 23; refine (width_any _ _).mono ?_; rintro e w' ⟨rfl, rfl⟩) | (go_at_call 28; refine (bits_any _ _).mono ?_; rintro e w1 ⟨v1, rfl, hv1, hb1⟩))
  obtain ⟨g, cap, rfl, hg, hc⟩ := hv1
  go_loopw [8, 9] (fun u i wr => ∃ (j : Nat), j ≤ 64 ∧ i = .int .i64 j ∧ wr.ownsRow w1.heap.size 4 1 u j (cellsB (swB (wd k) (bt n)) j) ∧ Below w1.heap.size w1 wr) (fun _ i _ => 64 - (intOf i).toNat)
  case atStart => exact ⟨0, Nat.zero_le _, rfl, World.ownsRow_nil _ _ _ _, Below.refl _ _⟩
  case round =>
    obtain ⟨j, hj, rfl, hown, hnx⟩ := hrel
    have hsz := hnx.size
    by_cases hlt : j < 64
    · by_cases hjs : j < wd k
      · have hle : j / 8 * 8 + 8 ≤ wd k := by obtain ⟨d, hd⟩ := hw8; omega
        clear hw8
        have hcj : wr.cell? ⟨g, wd k - 8 - j / 8 * 8 + j % 8, none⟩ = some (.bool (bt n (wd k - 8 - j / 8 * 8 + j % 8))) := (hnx.cell (p := ⟨g, wd k - 8 - j / 8 * 8 + j % 8, none⟩) hg).trans (hc (wd k - 8 - j / 8 * 8 + j % 8) (by omega))
        clear hc
        go_wp2_with (at_builtin; refine push_bool rfl _ _ rfl _ _ _ _ _ rfl rfl hown (by omega) hsz ?_)
        intro v' w9 hown' hbel
        have hown2 := (cellsB_succ (swB (wd k) (bt n)) j _ (show bt n (wd k - 8 - j / 8 * 8 + j % 8) = swB (wd k) (bt n) j by unfold swB; rw [if_pos hjs])) ▸ hown'
        have hnx2 := hnx.trans hbel
        clear hown' hbel hown hnx hcj
        go_wp2
        go_roundw
        case rel => exact ⟨j + 1, by omega, by go_num, hown2, hnx2⟩
        case measure => simp [intOf]; omega
      · clear hc hw8
        go_wp2_with (at_builtin; refine push_bool rfl _ _ rfl _ _ _ _ _ rfl rfl hown (by omega) hsz ?_)
        intro v' w9 hown' hbel
        have hown2 := (cellsB_succ (swB (wd k) (bt n)) j _ (show false = swB (wd k) (bt n) j by unfold swB; rw [if_neg (by omega)])) ▸ hown'
        have hnx2 := hnx.trans hbel
        clear hown' hbel hown hnx
        go_wp2
        go_roundw
        case rel => exact ⟨j + 1, by omega, by go_num, hown2, hnx2⟩
        case measure => simp [intOf]; omega
    · have hj64 : j = 64 := by omega
      subst hj64
      have hvo := has_of_own hown
      clear hc hown hw8
      go_wp2_with (first | (go_at_call 27; refine (wide_any _ h1 h8 _ _ _ hvo).mono ?_; rintro e w2 ⟨v2, rfl, hv2, hb2⟩) | (go_at_call 26; refine (number_any _ _ _ hv2).mono ?_; rintro e w3 ⟨m, rfl, hm, hmb, rfl⟩))
      go_ret2
      have e : m = swapV k n := bt_ext hm (asK_range k _ h1 h8 (wrap64_range _)) fun i hi => by
        rw [hmb i hi, bt_swap k n h1 h8 i hi]
        exact wideB_congr h1 h8 (fun t ht => by unfold swB; rw [if_pos ht]) i
      subst e
      exact ⟨rfl, (hb1.trans (hnx.mono hb1.size)).trans (hb2.mono (Nat.le_trans hb1.size hnx.size))⟩
theorem refSwap_no (k n : Int) (h : ¬ (1 ≤ k ∧ k ≤ 8)) (w : World) : Calls Try.prog 18 #[.int .i64 k, .int .i64 n] w fun e w' => e = .returned (.tuple #[.int .i64 0, .int .i64 1]) ∧ w' = w := by
  have hw : wd k = 0 := by unfold wd; rw [if_neg (by omega), if_neg (by omega), if_neg (by omega), if_neg (by omega)]
  clear h
  go_enter Try.func18, Try.ntmps18
  go_wp2_with (first | (go_at_call 23; refine (width_any _ _).mono ?_; rintro e w' ⟨rfl, rfl⟩; rw [hw]))
  go_ret2
  exact ⟨rfl, rfl⟩
end Go.Proofs.Ytonejnbflkkapaa
