import Derived.Test.YtopebghandojbaaGreatJi
namespace Go.Proofs.YtopebghandojbaaGreat
open Go.RowKit Go.Maps
set_option maxRecDepth 100000 in
theorem JS.same {g : Nat} {r : Option Nat} {w w' : World} {P : Int} {T F S : Nat} {l : List Int} (h : JS g r w P T F S l) (k : w'.heap[g]? = w.heap[g]?) (kr : ∀ x, r = some x → w'.heap[x]? = w.heap[x]?) : JS g r w' P T F S l := by
  obtain ⟨sv, h0, h1, h2⟩ := h
  exact ⟨sv, h0, k.trans h1, h2.same fun x hx => kr x (h0.symm.trans hx)⟩
end Go.Proofs.YtopebghandojbaaGreat
