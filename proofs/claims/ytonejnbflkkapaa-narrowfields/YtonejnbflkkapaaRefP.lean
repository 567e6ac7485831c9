import Derived.Test.YtonejnbflkkapaaWide
import Derived.Test.YtonejnbflkkapaaRefF
namespace Go.Proofs.Ytonejnbflkkapaa
open Go.RowKit

theorem refPut_no (n a b v : Int) (ha : -9223372036854775808 ≤ a ∧ a ≤ 9223372036854775807) (hb : -9223372036854775808 ≤ b ∧ b ≤ 9223372036854775807) (h : fld a b = false) (w : World) : Calls Try.prog 22 #[.int .i64 n, .int .i64 a, .int .i64 b, .int .i64 v] w fun e w' => e = .returned (.tuple #[.int .i64 0, .int .i64 1]) ∧ w' = w := by
  go_enter Try.func22, Try.ntmps22
  go_wp2_with (first | (go_at_call 33; refine (fielded_any _ _ (by omega) (by omega) _).mono ?_; rintro e w' ⟨rfl, rfl⟩; rw [h]))
  go_ret2
  exact ⟨rfl, rfl⟩
theorem refPut_neg (n a b v : Int) (h : fld a b = true) (hv : v < 0) (w : World) : Calls Try.prog 22 #[.int .i64 n, .int .i64 a, .int .i64 b, .int .i64 v] w fun e w' => e = .returned (.tuple #[.int .i64 0, .int .i64 1]) ∧ w' = w := by
  have ⟨h0, h1, h2, h3⟩ := fld_of h
  go_enter Try.func22, Try.ntmps22
  go_wp2_with (first | (go_at_call 33; refine (fielded_any _ _ (by omega) (by omega) _).mono ?_; rintro e w' ⟨rfl, rfl⟩; rw [h]))
  go_ret2
  exact ⟨rfl, rfl⟩
/-- the first loop's way: no bit behind the width is set -/
def putB (p s : Nat) (f g : Nat → Bool) (i : Nat) : Bool := if p ≤ i ∧ i - p < s then g (i - p) else f i
set_option maxHeartbeats 2000000 in
theorem refPut_yes (n a b v : Int) (h : fld a b = true) (hv0 : 0 ≤ v) (hv : v < 2 ^ b.toNat) (w : World) : Calls Try.prog 22 #[.int .i64 n, .int .i64 a, .int .i64 b, .int .i64 v] w fun e w' => e = .returned (.tuple #[.int .i64 (putV n a b v), .int .i64 0]) ∧ Below w.heap.size w w' := by
  have ⟨h0, h1, h2, h3⟩ := fld_of h
  have hsm : ∀ i, b.toNat ≤ i → bt v i = false := fun i hi => bt_nonneg_small v hv0 b.toNat i hv hi
  have HV : Hid (v < 2 ^ b.toNat) := hv
  clear hv
  obtain ⟨p, rfl⟩ := Int.eq_ofNat_of_zero_le h0
  obtain ⟨s, rfl⟩ := Int.eq_ofNat_of_zero_le (show 0 ≤ b by omega)
  rw [Int.toNat_natCast] at hsm
  have HS : Hid (∀ i, s ≤ i → bt v i = false) := hsm
  clear hsm
  go_enter Try.func22, Try.ntmps22
  go_wp2_with (first | (go_at_call 33; refine (fielded_any _ _ (by omega) (by omega) _).mono ?_; rintro e w' ⟨rfl, rfl⟩; rw [h]) | (go_at_call 28; have hq := hv1; clear hq; refine (bits_any _ _).mono ?_; rintro e w2 ⟨v2, rfl, hv2, hb2⟩) | (go_at_call 28; refine (bits_any _ _).mono ?_; rintro e w1 ⟨v1, rfl, hv1, hb1⟩))
  have hn1 := hv1.later hb2
  clear hv1
  obtain ⟨g, cap, rfl, hg, hc⟩ := hn1
  obtain ⟨g', cap', rfl, hg', hc'⟩ := hv2
  have HC : Hid (∀ i, i < 64 → w2.cell? ⟨g, i, none⟩ = some (.bool (bt n i))) := hc
  clear hc
  go_loop [13] (fun i => ∃ j : Nat, j ≤ 64 ∧ i = .int .i64 j) (fun i => 64 - (intOf i).toNat)
  case atStart => exact ⟨0, Nat.zero_le _, rfl⟩
  case round =>
    obtain ⟨j, hj, rfl⟩ := hrel
    by_cases hlt : j < 64
    · have hcj : w2.cell? ⟨g', j, none⟩ = some (.bool (bt v j)) := hc' j hlt
      clear hc'
      by_cases hjs : s ≤ j
      · have hf := HS.out j hjs
        rw [hf] at hcj
        go_wp2
        go_round
        case rel => exact ⟨j + 1, by omega, by go_num⟩
        case measure => simp [intOf]; omega
      · clear hcj
        go_wp2
        go_round
        case rel => exact ⟨j + 1, by omega, by go_num⟩
        case measure => simp [intOf]; omega
    · have HC' : Hid (∀ i, i < 64 → w2.cell? ⟨g', i, none⟩ = some (.bool (bt v i))) := hc'
      clear hc'
      go_wp2
      go_loopw [12, 14] (fun u i wr => ∃ (j : Nat), j ≤ 64 ∧ i = .int .i64 j ∧ wr.ownsRow w2.heap.size 4 1 u j (cellsB (putB p s (bt n) (bt v)) j) ∧ Below w2.heap.size w2 wr) (fun _ i _ => 64 - (intOf i).toNat)
      case atStart => exact ⟨0, Nat.zero_le _, rfl, World.ownsRow_nil _ _ _ _, Below.refl _ _⟩
      case round =>
        clear hlt hj
        obtain ⟨j, hj, rfl, hown, hnx⟩ := hrel
        have hsz := hnx.size
        by_cases hlt : j < 64
        · by_cases hpj : p ≤ j
          · by_cases hjs : j - p < s
            · have hjs2 : (j : Int) - p < s := by omega
              have hcj : wr.cell? ⟨g', j - p, none⟩ = some (.bool (bt v (j - p))) := (hnx.cell (p := ⟨g', j - p, none⟩) hg').trans (HC'.out (j - p) (by omega))
              go_wp2_with (at_builtin; refine push_bool rfl _ _ rfl _ _ _ _ _ rfl rfl hown (by omega) hsz ?_)
              intro v' w9 hown' hbel
              have hown2 := (cellsB_succ (putB p s (bt n) (bt v)) j _ (show bt v (j - p) = putB p s (bt n) (bt v) j by unfold putB; rw [if_pos (show p ≤ j ∧ j - p < s by omega)])) ▸ hown'
              have hnx2 := hnx.trans hbel
              clear hown' hbel hown hnx hcj
              go_wp2
              go_roundw
              case rel => exact ⟨j + 1, by omega, by go_num, hown2, hnx2⟩
              case measure => simp [intOf]; omega
            · have hjs2 : ¬ (j : Int) - p < s := by omega
              have hcj : wr.cell? ⟨g, j, none⟩ = some (.bool (bt n j)) := (hnx.cell (p := ⟨g, j, none⟩) hg).trans (HC.out j hlt)
              go_wp2_with (at_builtin; refine push_bool rfl _ _ rfl _ _ _ _ _ rfl rfl hown (by omega) hsz ?_)
              intro v' w9 hown' hbel
              have hown2 := (cellsB_succ (putB p s (bt n) (bt v)) j _ (show bt n j = putB p s (bt n) (bt v) j by unfold putB; rw [if_neg (by omega)])) ▸ hown'
              have hnx2 := hnx.trans hbel
              clear hown' hbel hown hnx hcj
              go_wp2
              go_roundw
              case rel => exact ⟨j + 1, by omega, by go_num, hown2, hnx2⟩
              case measure => simp [intOf]; omega
          · have hcj : wr.cell? ⟨g, j, none⟩ = some (.bool (bt n j)) := (hnx.cell (p := ⟨g, j, none⟩) hg).trans (HC.out j hlt)
            go_wp2_with (at_builtin; refine push_bool rfl _ _ rfl _ _ _ _ _ rfl rfl hown (by omega) hsz ?_)
            intro v' w9 hown' hbel
            have hown2 := (cellsB_succ (putB p s (bt n) (bt v)) j _ (show bt n j = putB p s (bt n) (bt v) j by unfold putB; rw [if_neg (by omega)])) ▸ hown'
            have hnx2 := hnx.trans hbel
            clear hown' hbel hown hnx hcj
            go_wp2
            go_roundw
            case rel => exact ⟨j + 1, by omega, by go_num, hown2, hnx2⟩
            case measure => simp [intOf]; omega
        · have hj64 : j = 64 := by omega
          subst hj64
          have hvo := has_of_own hown
          clear hown
          go_wp2_with (first | (go_at_call 26; refine (number_any _ _ _ hvo).mono ?_; rintro e w3 ⟨m, rfl, hm, hmb, rfl⟩))
          go_ret2
          have e : m = putV n p s v := bt_ext hm (wrap64_range _) fun i hi => by
            rw [hmb i hi, bt_put n p s v hv0 HV.out i hi, Int.toNat_natCast, Int.toNat_natCast]
            unfold putB
            by_cases hc : p ≤ i ∧ i < p + s
            · rw [if_pos hc, if_pos (by omega)]
            · rw [if_neg hc, if_neg (by omega)]
          subst e
          exact ⟨rfl, (hb1.trans (hb2.mono hb1.size)).trans (hnx.mono (Nat.le_trans hb1.size hb2.size))⟩

set_option maxHeartbeats 1000000 in
theorem refPut_big (n a b v : Int) (h : fld a b = true) (hv0 : 0 ≤ v) (hvu : v ≤ 9223372036854775807) (hv : 2 ^ b.toNat ≤ v) (w : World) : Calls Try.prog 22 #[.int .i64 n, .int .i64 a, .int .i64 b, .int .i64 v] w fun e w' => e = .returned (.tuple #[.int .i64 0, .int .i64 1]) ∧ Below w.heap.size w w' := by
  have ⟨h0, h1, h2, h3⟩ := fld_of h
  have hsm : ¬ ∀ i, b.toNat ≤ i → i < 64 → bt v i = false := fun hh => by have := small_of_bt v ⟨hv0, hvu⟩ b.toNat hh; omega
  clear hv
  obtain ⟨p, rfl⟩ := Int.eq_ofNat_of_zero_le h0
  obtain ⟨s, rfl⟩ := Int.eq_ofNat_of_zero_le (show 0 ≤ b by omega)
  rw [Int.toNat_natCast] at hsm
  have HS : Hid (¬ ∀ i, s ≤ i → i < 64 → bt v i = false) := hsm
  clear hsm
  go_enter Try.func22, Try.ntmps22
  go_wp2_with (first | (go_at_call 33; refine (fielded_any _ _ (by omega) (by omega) _).mono ?_; rintro e w' ⟨rfl, rfl⟩; rw [h]) | (go_at_call 28; have hq := hv1; clear hq; refine (bits_any _ _).mono ?_; rintro e w2 ⟨v2, rfl, hv2, hb2⟩) | (go_at_call 28; refine (bits_any _ _).mono ?_; rintro e w1 ⟨v1, rfl, hv1, hb1⟩))
  clear hv1
  obtain ⟨g', cap', rfl, hg', hc'⟩ := hv2
  go_loop [13] (fun i => ∃ j : Nat, j ≤ 64 ∧ i = .int .i64 j ∧ ∀ t, s ≤ t → t < j → bt v t = false) (fun i => 64 - (intOf i).toNat)
  case atStart => exact ⟨0, Nat.zero_le _, rfl, fun t _ ht => absurd ht (by omega)⟩
  case round =>
    obtain ⟨j, hj, rfl, hall⟩ := hrel
    have HA : Hid (∀ t, s ≤ t → t < j → bt v t = false) := hall
    clear hall
    by_cases hlt : j < 64
    · have hcj : w2.cell? ⟨g', j, none⟩ = some (.bool (bt v j)) := hc' j hlt
      clear hc'
      by_cases hjs : s ≤ j
      · cases hf : bt v j with
        | true =>
          rw [hf] at hcj
          go_wp2
          go_ret2
          exact ⟨rfl, hb1.trans (hb2.mono hb1.size)⟩
        | false =>
          rw [hf] at hcj
          have HF : Hid (bt v j = false) := hf
          clear hf
          go_wp2
          go_round
          case rel => exact ⟨j + 1, by omega, by go_num, fun t h1 h2 => if e : t = j then e ▸ HF.out else HA.out t h1 (by omega)⟩
          case measure => simp [intOf]; omega
      · have HJ : Hid (¬ s ≤ j) := hjs
        clear hcj
        go_wp2
        go_round
        case rel => exact ⟨j + 1, by omega, by go_num, fun t h1 h2 => absurd h1 (by have := HJ.out; omega)⟩
        case measure => simp [intOf]; omega
    · exact absurd (fun i a b => HA.out i a (by omega)) HS.out
end Go.Proofs.Ytonejnbflkkapaa
