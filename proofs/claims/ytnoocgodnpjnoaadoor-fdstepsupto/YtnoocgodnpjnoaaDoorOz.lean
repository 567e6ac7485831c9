import Derived.Test.YtnoocgodnpjnoaaDoorPb
import Derived.Lib.SmallJoins
import Derived.Deep.Slices
import Derived.JoinedCond
import Derived.ChangeOld
import Derived.Carry
import Derived.SizedLaws
namespace Go.Proofs.YtnoocgodnpjnoaaDoor
open Go.ChangeShapes Go.WideShapes Go.ChangeAt Go.RowKit Go.Joins Go.Deep
theorem laidOut : laidOutB Tryd.prog = true := by kernel_rfl
theorem cells9 : Tryd.prog.cellsOf 9 = 1 := by kernel_rfl
theorem range_get {α : Type} (it : Nat → α) (n i : Nat) (h : i < ((List.range n).map it).length) : ((List.range n).map it)[i] = it i := by simp
/-- the tables' cells, for a witness -/
def cellsFirst : Array Value := (Go.Pinned.utf8FirstZ.map fun (n : Nat) => Value.int .u8 (n : Int)).toArray
def cellsAccept : Array Value := #[.int .u8 128, .int .u8 191, .int .u8 160, .int .u8 191, .int .u8 128, .int .u8 159, .int .u8 144, .int .u8 191, .int .u8 128, .int .u8 143, .int .u8 0, .int .u8 0, .int .u8 0, .int .u8 0, .int .u8 0, .int .u8 0, .int .u8 0, .int .u8 0, .int .u8 0, .int .u8 0, .int .u8 0, .int .u8 0, .int .u8 0, .int .u8 0, .int .u8 0, .int .u8 0, .int .u8 0, .int .u8 0, .int .u8 0, .int .u8 0, .int .u8 0, .int .u8 0]
def layF (c : Array Value) : Obj → Obj
  | .cells _ t frozen => .cells c t frozen
  | o => o
theorem bytes9 : Tryd.prog.bytesOf 9 = 16 := by kernel_rfl
theorem mem_weights {H : Type} {t : TypeId} {s : List UInt8} : ∀ {elems : List (DataW H)} {i : Nat}, elems[i]? = some (.lit (.string s)) → s.length ∈ DataW.weightsAll Tryd.prog t elems
  | [], i, h => by simp at h
  | d :: r, 0, h => by
    simp at h
    subst h
    simp [DataW.weightsAll, DataW.weights]
  | d :: r, i + 1, h => by
    simp at h
    have := mem_weights (t := t) h
    simp [DataW.weightsAll, this]
end Go.Proofs.YtnoocgodnpjnoaaDoor
