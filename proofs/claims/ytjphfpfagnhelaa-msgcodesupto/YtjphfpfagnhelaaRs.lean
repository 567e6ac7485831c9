import Derived.Test.YtjphfpfagnhelaaRr
namespace Go.Proofs.Ytjphfpfagnhelaa
open Go.RowKit

theorem refInt (n : Int) (hn : -9223372036854775808 ≤ n ∧ n ≤ 9223372036854775807) (w : World) : Calls Try.prog 40 #[.int .i64 n] w fun e w' => e = .returned (.string (st (uEnc (zig n)))) ∧ Below w.heap.size w w' := by
  by_cases h : n < 0
  · exact refInt_neg n h hn.1 w
  · obtain ⟨m, rfl⟩ := Int.eq_ofNat_of_zero_le (show 0 ≤ n by omega)
    exact refInt_pos m (by omega) w
end Go.Proofs.Ytjphfpfagnhelaa
