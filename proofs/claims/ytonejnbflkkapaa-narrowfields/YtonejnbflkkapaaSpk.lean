import Derived.Test.YtonejnbflkkapaaFld
namespace Go.Proofs.Ytonejnbflkkapaa
open Go.RowKit

theorem s1 : asK 1 200 = -56 := by decide
theorem s2 : rightV 1 (-8) 1 = -4 := by decide
theorem s3 : rightV 5 (-8) 1 = 124 := by decide
theorem s4 : swapV 6 258 = 513 := by kernel_rfl
theorem s5 : fieldV 3 1 2 = 1 := by kernel_rfl
theorem s6 : (decide ((1 : Int) ≤ 5 ∧ (5 : Int) ≤ 8) && (asK 5 255 == 255)) = true := by decide
theorem s7 : (decide ((1 : Int) ≤ 5 ∧ (5 : Int) ≤ 8) && (asK 5 256 == 256)) = false := by decide

theorem speaks_any (w : World) : Calls Try.prog 12 #[] w fun e w' => e = .returned (.bool true) ∧ ∃ q, w' = w.drewN q := by
  go_enter Try.func12, Try.ntmps12
  go_wp2_with (first | (go_at_call 9; refine (to_yes _ _ (by decide) (by decide) _).mono ?_; rintro e w' ⟨rfl, rfl⟩; rw [s1]) | (go_at_call 15; refine (right_yes _ _ _ (by decide) (by decide) (by decide) _).mono ?_; rintro e w' ⟨rfl, rfl⟩; first | rw [s2] | rw [s3]) | (go_at_call 17; refine (swap_yes _ _ (by decide) (by decide) _).mono ?_; rintro e w' ⟨rfl, rfl⟩; rw [s4]) | (go_at_call 19; refine (field_yes _ _ _ (by decide) _).mono ?_; rintro e w' ⟨rfl, q, rfl⟩; rw [s5]) | (go_at_call 11; refine (fits_any _ _ _).mono ?_; rintro e w' ⟨rfl, rfl⟩; first | rw [s6] | rw [s7]))
  go_ret
  exact ⟨rfl, _, rfl⟩
end Go.Proofs.Ytonejnbflkkapaa
