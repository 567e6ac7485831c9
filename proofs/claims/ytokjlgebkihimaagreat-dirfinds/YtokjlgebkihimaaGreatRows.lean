/-
  No cell of these rows narrows 'for every input' (looked for: loops, veiled, ifaces, maps, wideKeys, modest, calm, conditions, laid).
  DERIVED. THE GIVEN ROWS OF THIS SEAT. 4 by the template 'for every input the law returns true; each argument reads behind the call as it read before'; 0 by the template 'total and deterministic' (their statements: YtokjlgebkihimaaGreatTotals.lean).
  GIVEN WITH THE SEED: the statements are not yours to turn. If you find one false, say at which input.
  Laid BY PROGRAM, IN A SANDBOX (cutbox-rows.mjs): the forced cells as the released guide's own fill.sh prints them over the translation 333cbd5d3eaca859… (all of the seat's roots in one cut). By AI agents, Wed Nov 11 2026. No macro, syntax, notation, axiom, sorry.
-/
import Derived.Test.YtokjlgebkihimaaGreatChecked
import GoSem.Claim
import GoSem.ClaimJoined
import GoSem.ClaimMapViews
import Derived.JoinedTies
import Derived.KernelRfl
namespace Go.Proofs.YtokjlgebkihimaaGreat
/- THE CELL 'sum', in the pinned program and in every row, IS THE sha256 OF THE DUMP (.gsa) THAT YtokjlgebkihimaaGreatProg.lean LOADS. Nothing in Lean hashes anything: it is a label: what it is worth is what the hold of that sum in a sandbox is worth. -/
noncomputable def Tryz.pinned : Pinned := { name := "ytokjlgebkihimaagreat", sum := "333cbd5d3eaca859ca89dcfc428b22b8bcc8e96065451879ef858d0c00300849", checked := Tryz.checked }
namespace Rows
def none {H : Type} : Left H := { results := [], args := [] }

/-- 'cartularylaw16.DirSteps': WHATEVER THE INPUT: true; the input reads as it did. -/
def dirStepsSpec : ChangeSpec := { name := "dirSteps", fn := fun _ => fun
  | [d1, d2, d3] => { results := [.lit (.bool true)], args := [d1, d2, d3] }
  | _ => none }
def dirStepsRow : OpenClaim := { program := "ytokjlgebkihimaagreat", sum := "333cbd5d3eaca859ca89dcfc428b22b8bcc8e96065451879ef858d0c00300849", func := "cartulary/cartularylaw16.DirSteps", spec := "dirSteps", inPlace := ["internal/abi.NoEscape", "maps.clone", "internal/bytealg.abigen_runtime_cmpstring"], unfollowed := true, recurses := true, apart := false }
def DirStepsSaid : Prop := dirStepsRow.holds Tryz.pinned (OpenSpec.ofChange dirStepsSpec)

/-- ITS FALSE NEIGHBOUR: 'it returns false'. Refute it at one input. -/
def dirStepsWrong : ChangeSpec := { name := "dirSteps", fn := fun _ => fun
  | [d1, d2, d3] => { results := [.lit (.bool false)], args := [d1, d2, d3] }
  | _ => none }
def DirStepsWrongFalsely : Prop := dirStepsRow.holds Tryz.pinned (OpenSpec.ofChange dirStepsWrong)

/-- 'cartularylaw16.DirFinds': WHATEVER THE INPUT: true; the input reads as it did. -/
def dirFindsSpec : ChangeSpec := { name := "dirFinds", fn := fun _ => fun
  | [d] => { results := [.lit (.bool true)], args := [d] }
  | _ => none }
def dirFindsRow : OpenClaim := { program := "ytokjlgebkihimaagreat", sum := "333cbd5d3eaca859ca89dcfc428b22b8bcc8e96065451879ef858d0c00300849", func := "cartulary/cartularylaw16.DirFinds", spec := "dirFinds", inPlace := ["internal/abi.NoEscape", "maps.clone", "internal/bytealg.abigen_runtime_cmpstring"], unfollowed := true, recurses := true, apart := false }
def DirFindsSaid : Prop := dirFindsRow.holds Tryz.pinned (OpenSpec.ofChange dirFindsSpec)

/-- ITS FALSE NEIGHBOUR: 'it returns false'. Refute it at one input. -/
def dirFindsWrong : ChangeSpec := { name := "dirFinds", fn := fun _ => fun
  | [d] => { results := [.lit (.bool false)], args := [d] }
  | _ => none }
def DirFindsWrongFalsely : Prop := dirFindsRow.holds Tryz.pinned (OpenSpec.ofChange dirFindsWrong)

/-- 'cartularylaw16.DirFree': WHATEVER THE INPUT: true; the input reads as it did. -/
def dirFreeSpec : ChangeSpec := { name := "dirFree", fn := fun _ => fun
  | [d] => { results := [.lit (.bool true)], args := [d] }
  | _ => none }
def dirFreeRow : OpenClaim := { program := "ytokjlgebkihimaagreat", sum := "333cbd5d3eaca859ca89dcfc428b22b8bcc8e96065451879ef858d0c00300849", func := "cartulary/cartularylaw16.DirFree", spec := "dirFree", inPlace := ["internal/abi.NoEscape", "maps.clone", "internal/bytealg.abigen_runtime_cmpstring"], unfollowed := true, recurses := true, apart := false }
def DirFreeSaid : Prop := dirFreeRow.holds Tryz.pinned (OpenSpec.ofChange dirFreeSpec)

/-- ITS FALSE NEIGHBOUR: 'it returns false'. Refute it at one input. -/
def dirFreeWrong : ChangeSpec := { name := "dirFree", fn := fun _ => fun
  | [d] => { results := [.lit (.bool false)], args := [d] }
  | _ => none }
def DirFreeWrongFalsely : Prop := dirFreeRow.holds Tryz.pinned (OpenSpec.ofChange dirFreeWrong)

/-- 'cartularylaw16.DirApart': WHATEVER THE INPUT: true; the input reads as it did. -/
def dirApartSpec : ChangeSpec := { name := "dirApart", fn := fun _ => fun
  | [d] => { results := [.lit (.bool true)], args := [d] }
  | _ => none }
def dirApartRow : OpenClaim := { program := "ytokjlgebkihimaagreat", sum := "333cbd5d3eaca859ca89dcfc428b22b8bcc8e96065451879ef858d0c00300849", func := "cartulary/cartularylaw16.DirApart", spec := "dirApart", inPlace := ["internal/abi.NoEscape", "maps.clone", "internal/bytealg.abigen_runtime_cmpstring"], unfollowed := true, recurses := true, apart := false }
def DirApartSaid : Prop := dirApartRow.holds Tryz.pinned (OpenSpec.ofChange dirApartSpec)

/-- ITS FALSE NEIGHBOUR: 'it returns false'. Refute it at one input. -/
def dirApartWrong : ChangeSpec := { name := "dirApart", fn := fun _ => fun
  | [d] => { results := [.lit (.bool false)], args := [d] }
  | _ => none }
def DirApartWrongFalsely : Prop := dirApartRow.holds Tryz.pinned (OpenSpec.ofChange dirApartWrong)

/- THE SECOND FORM. 'bulk': how many values and letters a reading holds, each counted each time it is reached (what is shared counts as often as it is met; a slice's spare places count too). A statement '..UptoSaid' is the law's where the arguments, and the package variables that the reading takes, are together of bulk at most 1048576: NARROWER than '..Said'. Prove '..Said' where nothing that the law and all that it calls make is longer than what came in: it says more and counts as full. Else prove '..UptoSaid'. A law counts once. -/
mutual
def uptoBulk {H : Type} : DataW H → Nat
  | .lit (.string bytes) => bytes.length + 1
  | .lit _ => 1
  | .nil => 1
  | .ptr d => uptoBulk d + 1
  | .slice elems spare => uptoBulkAll elems + uptoBulkAll spare + 1
  | .agg parts => uptoBulkAll parts + 1
  | .iface _ d => uptoBulk d + 1
  | .map entries => uptoBulkEntries entries + 1
  | .held _ => 1
def uptoBulkAll {H : Type} : List (DataW H) → Nat
  | [] => 0
  | d :: r => uptoBulk d + uptoBulkAll r
def uptoBulkEntries {H : Type} : List (Lit × DataW H) → Nat
  | [] => 0
  | x :: r => uptoBulkEntry x + uptoBulkEntries r
def uptoBulkEntry {H : Type} : Lit × DataW H → Nat
  | (.string bytes, d) => bytes.length + uptoBulk d + 1
  | (_, d) => uptoBulk d + 1
 end
def uptoSmall : (H : Type) → List (DataW H) → Bool := fun _ ds => decide (uptoBulkAll ds ≤ 1048576)
def OpenSpec.upto (s : _root_.Go.ChangeSpec) : _root_.Go.OpenSpec := { _root_.Go.OpenSpec.ofChange s with cond := some uptoSmall }

/-- 'cartularylaw16.DirSteps', WHERE WHAT IT READS IS OF BULK AT MOST 1048576: true; the input reads as it did. -/
def dirStepsUptoRow : OpenClaim := { program := "ytokjlgebkihimaagreat", sum := "333cbd5d3eaca859ca89dcfc428b22b8bcc8e96065451879ef858d0c00300849", func := "cartulary/cartularylaw16.DirSteps", spec := "dirSteps", inPlace := ["internal/abi.NoEscape", "maps.clone", "internal/bytealg.abigen_runtime_cmpstring"], unfollowed := true, recurses := true, apart := false, narrowed := true }
def DirStepsUptoSaid : Prop := dirStepsUptoRow.holds Tryz.pinned (OpenSpec.upto dirStepsSpec)

/-- 'cartularylaw16.DirFinds', WHERE WHAT IT READS IS OF BULK AT MOST 1048576: true; the input reads as it did. -/
def dirFindsUptoRow : OpenClaim := { program := "ytokjlgebkihimaagreat", sum := "333cbd5d3eaca859ca89dcfc428b22b8bcc8e96065451879ef858d0c00300849", func := "cartulary/cartularylaw16.DirFinds", spec := "dirFinds", inPlace := ["internal/abi.NoEscape", "maps.clone", "internal/bytealg.abigen_runtime_cmpstring"], unfollowed := true, recurses := true, apart := false, narrowed := true }
def DirFindsUptoSaid : Prop := dirFindsUptoRow.holds Tryz.pinned (OpenSpec.upto dirFindsSpec)

/-- 'cartularylaw16.DirFree', WHERE WHAT IT READS IS OF BULK AT MOST 1048576: true; the input reads as it did. -/
def dirFreeUptoRow : OpenClaim := { program := "ytokjlgebkihimaagreat", sum := "333cbd5d3eaca859ca89dcfc428b22b8bcc8e96065451879ef858d0c00300849", func := "cartulary/cartularylaw16.DirFree", spec := "dirFree", inPlace := ["internal/abi.NoEscape", "maps.clone", "internal/bytealg.abigen_runtime_cmpstring"], unfollowed := true, recurses := true, apart := false, narrowed := true }
def DirFreeUptoSaid : Prop := dirFreeUptoRow.holds Tryz.pinned (OpenSpec.upto dirFreeSpec)

/-- 'cartularylaw16.DirApart', WHERE WHAT IT READS IS OF BULK AT MOST 1048576: true; the input reads as it did. -/
def dirApartUptoRow : OpenClaim := { program := "ytokjlgebkihimaagreat", sum := "333cbd5d3eaca859ca89dcfc428b22b8bcc8e96065451879ef858d0c00300849", func := "cartulary/cartularylaw16.DirApart", spec := "dirApart", inPlace := ["internal/abi.NoEscape", "maps.clone", "internal/bytealg.abigen_runtime_cmpstring"], unfollowed := true, recurses := true, apart := false, narrowed := true }
def DirApartUptoSaid : Prop := dirApartUptoRow.holds Tryz.pinned (OpenSpec.upto dirApartSpec)

end Rows
end Go.Proofs.YtokjlgebkihimaaGreat
