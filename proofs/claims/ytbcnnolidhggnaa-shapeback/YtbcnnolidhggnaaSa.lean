import Derived.Test.YtbcnnolidhggnaaCod
import Derived.Deep.RegionHeld3
namespace Go.Proofs.Ytbcnnolidhggnaa
open Go.RowKit

theorem ret_agg3 {a b c a' b' c' : Int} (h1 : a = a') (h2 : b = b') (h3 : c = c') : Ending.returned (.agg #[.int .i64 a, .int .i64 b, .int .i64 c]) = .returned (.agg #[.int .i64 a', .int .i64 b', .int .i64 c']) := by rw [h1, h2, h3]
theorem limited_any (B J I : Int) (w : World) : Calls Try.prog 17 #[.agg #[.int .i64 B, .int .i64 J, .int .i64 I]] w fun e w' => e = .returned (.agg #[.int .i64 (min (max B 16) 1024), .int .i64 (min (max J 8) 256), .int .i64 (min (max I 1) 64)]) ∧ Below w.heap.size w w' := by
  go_enter Try.func17, Try.ntmps17
  go_wp2
  all_goals
    refine bodyPost_ret (v := .agg #[.int .i64 (min (max B 16) 1024), .int .i64 (min (max J 8) 256), .int .i64 (min (max I 1) 64)]) (by simp [results, Try.results17, go_sem]; omega) rfl ⟨rfl, ?_⟩
    exact ((Below.refl _ _).alloc (Nat.le_refl _) _).alloc (by simp) _
theorem regions_any (B J I : Int) (hB : 16 ≤ B ∧ B ≤ 1024) (hJ : 8 ≤ J ∧ J ≤ 256) (hI : 1 ≤ I ∧ I ≤ 64) (w : World) : Calls Try.prog 15 #[.agg #[.int .i64 B, .int .i64 J, .int .i64 I]] w fun e w' => e = .returned (.agg #[.int .i64 1, .int .i64 (1 + J), .int .i64 (2 + J), .int .i64 (2 + J + (I + 3) / 4), .int .i64 (B - (2 + J + (I + 3) / 4))]) ∧ Below w.heap.size w w' := by
  obtain ⟨hB1, hB2⟩ := hB
  obtain ⟨hJ1, hJ2⟩ := hJ
  obtain ⟨hI1, hI2⟩ := hI
  go_enter Try.func15, Try.ntmps15
  go_wp2
  refine bodyPost_ret (v := .agg #[.int .i64 1, .int .i64 (1 + J), .int .i64 (2 + J), .int .i64 (2 + J + (I + 3) / 4), .int .i64 (B - (2 + J + (I + 3) / 4))]) (by simp [results, Try.results15, go_sem]; omega) rfl ⟨rfl, ?_⟩
  exact ((Below.refl _ _).alloc (Nat.le_refl _) _).alloc (by simp) _
theorem table_any (B J I : Int) (hI : 1 ≤ I ∧ I ≤ 64) (w : World) : Calls Try.prog 16 #[.agg #[.int .i64 B, .int .i64 J, .int .i64 I]] w fun e w' => e = .returned (.int .i64 ((I + 3) / 4)) ∧ Below w.heap.size w w' := by
  obtain ⟨hI1, hI2⟩ := hI
  go_enter Try.func16, Try.ntmps16
  go_wp2
  go_loop [3] (fun i => ∃ k : Nat, i = .int .i64 k ∧ (k : Int) ≤ (I + 3) / 4) (fun i => 100 - (intOf i).toNat)
  case atStart => exact ⟨0, rfl, by omega⟩
  case round =>
    obtain ⟨k, rfl, hk⟩ := hrel
    by_cases hlt : 4 * (k : Int) < I
    · go_wp2
      go_round
      case rel => exact ⟨k + 1, by go_num, by omega⟩
      case measure => simp [intOf]; omega
    · go_wp2
      go_ret
      exact ⟨ret_int (by omega), below_alloc _ _⟩
end Go.Proofs.Ytbcnnolidhggnaa
