import Derived.Test.YtopebghandojbaaGreatGj
import Derived.Test.YtopebghandojbaaGreatGn
namespace Go.Proofs.YtopebghandojbaaGreat
open Go.RowKit Go.Maps

section
variable {N0 : Nat} {M : Nat → Prop} {s g x y z j m : Nat} {w w' : World} {σ : MS} {T F : Nat} {l : List Int}
end
/-- all that was ahead of both stores, and the block, is as it was -/
def Fq (N0 q : Nat) (w w' : World) : Prop := Keep (fun b => N0 ≤ b ∧ b ≠ q) w w'
theorem Fq.of {N0 q : Nat} {w w' : World} (h : Below w.heap.size w w') : Fq N0 q w w' := Keep.of h
theorem Fq.next {N0 q : Nat} {w w1 w2 : World} (h : Fq N0 q w w1) (k : Fq N0 q w1 w2) : Fq N0 q w w2 := Keep.trans h k
section
variable {N0 q s g jp m r d x y z j n : Nat} {w w' : World} {A A1 A2 : List AT} {MP MR : Nat → Prop} {σ σ1 σ2 : MS} {T T1 T2 F F1 F2 : Nat} {l l1 l2 : List Int}
/-- the program's store has gone on -/
theorem half (hq : q < w.heap.size) (h1 : PR N0 MP s g x y z jp m w σ A T F l) (h2 : RR N0 MR r d x y z j w σ2 A2 T2 F2 l2) (h3 : ∀ b, MP b → ¬ MR b) (h4 : ∀ b, MP b ∨ MR b → b ≠ q) (k : After MP w (fun M' w' => PR N0 M' s g x y z jp m w' σ1 A1 T1 F1 l1) w') :
    ∃ MP', PR N0 MP' s g x y z jp m w' σ1 A1 T1 F1 l1 ∧ RR N0 MR r d x y z j w' σ2 A2 T2 F2 l2 ∧ (∀ b, MP' b → ¬ MR b) ∧ (∀ b, MP' b ∨ MR b → b ≠ q) ∧ Fq N0 q w w' := by
  obtain ⟨M', k1, k2, k3⟩ := k
  refine ⟨M', k1, h2.keep k3 (fun b hb hp => h3 b hp hb) h1.lo, fun b hb hm => ?_, fun b hb => ?_, k3.weak fun b hb => ⟨h1.lo b hb, h4 b (.inl hb)⟩⟩
  · rcases k2 b hb with e | e
    · exact h3 b e hm
    · have := h2.hi b hm; omega
  · rcases hb with e | e
    · rcases k2 b e with e | e
      · exact h4 b (.inl e)
      · omega
    · exact h4 b (.inr e)
end
end Go.Proofs.YtopebghandojbaaGreat
namespace Go.Proofs.YtopebghandojbaaGreat
open Go.RowKit Go.Maps

section
variable {N0 q s g jp m r d x y z j n : Nat} {w w' : World} {A A1 A2 : List AT} {MP MR : Nat → Prop} {σ σ1 σ2 : MS} {T T1 T2 F F1 F2 : Nat} {l l1 l2 : List Int}
end
end Go.Proofs.YtopebghandojbaaGreat
