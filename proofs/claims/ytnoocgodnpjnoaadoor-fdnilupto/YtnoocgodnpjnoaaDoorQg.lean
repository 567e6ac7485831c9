import Derived.Test.YtnoocgodnpjnoaaDoorQd
namespace Go.Proofs.YtnoocgodnpjnoaaDoor
open Go.RowKit

theorem list_nil (w : World) : Calls Tryd.prog 12 #[.pointer none] w fun e w' => ∃ x c, e = .returned (.slice x 0 c) ∧ Below w.heap.size w w' := by
  go_enter Tryd.func12, Tryd.ntmps12
  go_wp2
  go_loop [3, 6] (fun s i => s = .slice (some ⟨w.heap.size, 0, none⟩) 0 0 ∧ ∃ j : Nat, i = .int .i64 j ∧ j ≤ 16) (fun _ i => 16 - (intOf i).toNat)
  case atStart => exact ⟨rfl, 0, rfl, by decide⟩
  case round =>
    obtain ⟨rfl, j, rfl, hj⟩ := hrel
    by_cases hlt : j < 16
    · go_wp2_with (first | (go_at_call 26; refine (find_nil _ _).mono ?_; rintro e w1 ⟨rfl, hw⟩; subst hw))
      go_round
      case rel => exact ⟨rfl, j + 1, by go_num, by omega⟩
      case measure => simp [intOf]; omega
    · go_wp2
      go_ret
      exact ⟨⟨_, _, rfl⟩, below_alloc w _⟩
end Go.Proofs.YtnoocgodnpjnoaaDoor
