import Derived.Test.YtopebghandojbaaGreatYi
namespace Go.Proofs.YtopebghandojbaaGreat
open Go.RowKit Go.Maps

theorem CF.trans {s j : Nat} {r : Option Nat} {w w1 w2 : World} (h : CF s j r w w1) (k : CF s j r w1 w2) : CF s j r w w2 :=
  ⟨k.os.trans h.os, k.tape.trans h.tape, k.output.trans h.output, Nat.le_trans h.size k.size, fun i hi h1 h2 h3 => (k.block i (Nat.lt_of_lt_of_le hi h.size) h1 h2 h3).trans (h.block i hi h1 h2 h3)⟩
end Go.Proofs.YtopebghandojbaaGreat
namespace Go.Proofs.YtopebghandojbaaGreat
open Go.RowKit Go.Maps
end Go.Proofs.YtopebghandojbaaGreat
