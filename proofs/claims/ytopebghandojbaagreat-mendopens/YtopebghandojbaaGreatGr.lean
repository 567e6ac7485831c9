import Derived.Test.YtopebghandojbaaGreatGe
import Derived.Test.YtopebghandojbaaGreatHsh
import Derived.BigQuiet
import Derived.Test.YtopebghandojbaaGreatYq
import Derived.Test.YtopebghandojbaaGreatGp
import Derived.Deep.CutBlock
import Derived.Deep.CutRange
import Derived.Deep.DeepCutAuto
import Derived.Deep.LoopGhost
import Derived.Deep.RegionHeld3
namespace Go.Proofs.YtopebghandojbaaGreat
open Go.RowKit Go.Maps
end Go.Proofs.YtopebghandojbaaGreat
namespace Go.Proofs.YtopebghandojbaaGreat
open Go.RowKit Go.Maps
theorem rangeS (_ : Nat) (g : Nat → ByteArray) (q : Nat) : (List.range (q + 1)).map g = (List.range q).map g ++ [g q] := by
  rw [List.range_succ, List.map_append]; rfl
end Go.Proofs.YtopebghandojbaaGreat
namespace Go.Proofs.YtopebghandojbaaGreat
open Go.RowKit Go.Maps
end Go.Proofs.YtopebghandojbaaGreat
namespace Go.Proofs.YtopebghandojbaaGreat
open Go.RowKit Go.Maps
end Go.Proofs.YtopebghandojbaaGreat
namespace Go.Proofs.YtopebghandojbaaGreat
open Go.RowKit Go.Maps
section
variable {N0 q s g jp m r d x y z j n : Nat} {w w' : World} {A : List AT}
end
end Go.Proofs.YtopebghandojbaaGreat
namespace Go.Proofs.YtopebghandojbaaGreat
open Go.RowKit Go.Maps
theorem Fq.lo {N0 q : Nat} {w w' : World} (h : Fq N0 q w w') (hN : N0 ≤ w.heap.size) : Below N0 w w' := Keep.below h hN (fun _ hb => hb.1)
end Go.Proofs.YtopebghandojbaaGreat
