import Derived.Test.YtmabnnimacjplabIm
namespace Go.Proofs.Ytmabnnimacjplab
open Go.RowKit Go.Maps

theorem lvl_le (n : Nat) : 0 ≤ lvl n ∧ lvl n ≤ 2 := by
  rcases lvl_cases n with ⟨_, e, _⟩ | ⟨_, _, e, _⟩ | ⟨_, e, _⟩ <;> omega
end Go.Proofs.Ytmabnnimacjplab
