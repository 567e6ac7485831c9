/-
  No cell of these rows narrows 'for every input' (looked for: loops, veiled, ifaces, maps, wideKeys, modest, calm, conditions, laid).
  DERIVED. THE GIVEN ROWS OF THIS SEAT. 5 by the template 'for every input the law returns true; each argument reads behind the call as it read before'; 0 by the template 'total and deterministic' (their statements: YtopebghandojbaaGreatTotals.lean).
  GIVEN WITH THE SEED: the statements are not yours to turn. If you find one false, say at which input.
  Laid BY PROGRAM, IN A SANDBOX (cutbox-rows.mjs): the forced cells as the released guide's own fill.sh prints them over the translation 235dc776f44a8a0f… (all of the seat's roots in one cut). By AI agents, Wed Nov 11 2026. No macro, syntax, notation, axiom, sorry.
-/
import Derived.Test.YtopebghandojbaaGreatChecked
import GoSem.Claim
import GoSem.ClaimJoined
import GoSem.ClaimMapViews
import Derived.JoinedTies
import Derived.KernelRfl
namespace Go.Proofs.YtopebghandojbaaGreat
/- THE CELL 'sum', in the pinned program and in every row, IS THE sha256 OF THE DUMP (.gsa) THAT YtopebghandojbaaGreatProg.lean LOADS. Nothing in Lean hashes anything: it is a label: what it is worth is what the hold of that sum in a sandbox is worth. -/
noncomputable def Tryz.pinned : Pinned := { name := "ytopebghandojbaagreat", sum := "235dc776f44a8a0f7373eb338588391b2894eeac55efea783bbbef8098b423f2", checked := Tryz.checked }
namespace Rows
def none {H : Type} : Left H := { results := [], args := [] }

/-- 'cartularylaw09.MendSteps': WHATEVER THE INPUT: true; the input reads as it did. -/
def mendStepsSpec : ChangeSpec := { name := "mendSteps", fn := fun _ => fun
  | [d1, d2, d3] => { results := [.lit (.bool true)], args := [d1, d2, d3] }
  | _ => none }
def mendStepsRow : OpenClaim := { program := "ytopebghandojbaagreat", sum := "235dc776f44a8a0f7373eb338588391b2894eeac55efea783bbbef8098b423f2", func := "cartulary/cartularylaw09.MendSteps", spec := "mendSteps", inPlace := ["internal/abi.NoEscape", "internal/bytealg.MakeNoZero"], unfollowed := true, recurses := true, plainKeys := false, apart := false }
def MendStepsSaid : Prop := mendStepsRow.holds Tryz.pinned (OpenSpec.ofChange mendStepsSpec)

/-- ITS FALSE NEIGHBOUR: 'it returns false'. Refute it at one input. -/
def mendStepsWrong : ChangeSpec := { name := "mendSteps", fn := fun _ => fun
  | [d1, d2, d3] => { results := [.lit (.bool false)], args := [d1, d2, d3] }
  | _ => none }
def MendStepsWrongFalsely : Prop := mendStepsRow.holds Tryz.pinned (OpenSpec.ofChange mendStepsWrong)

/-- 'cartularylaw09.MendOpens': WHATEVER THE INPUT: true; the input reads as it did. -/
def mendOpensSpec : ChangeSpec := { name := "mendOpens", fn := fun _ => fun
  | [d] => { results := [.lit (.bool true)], args := [d] }
  | _ => none }
def mendOpensRow : OpenClaim := { program := "ytopebghandojbaagreat", sum := "235dc776f44a8a0f7373eb338588391b2894eeac55efea783bbbef8098b423f2", func := "cartulary/cartularylaw09.MendOpens", spec := "mendOpens", inPlace := ["internal/abi.NoEscape", "internal/bytealg.MakeNoZero"], unfollowed := true, recurses := true, plainKeys := false, apart := false }
def MendOpensSaid : Prop := mendOpensRow.holds Tryz.pinned (OpenSpec.ofChange mendOpensSpec)

/-- ITS FALSE NEIGHBOUR: 'it returns false'. Refute it at one input. -/
def mendOpensWrong : ChangeSpec := { name := "mendOpens", fn := fun _ => fun
  | [d] => { results := [.lit (.bool false)], args := [d] }
  | _ => none }
def MendOpensWrongFalsely : Prop := mendOpensRow.holds Tryz.pinned (OpenSpec.ofChange mendOpensWrong)

/-- 'cartularylaw09.MendCrash': WHATEVER THE INPUT: true; the input reads as it did. -/
def mendCrashSpec : ChangeSpec := { name := "mendCrash", fn := fun _ => fun
  | [d1, d2, d3] => { results := [.lit (.bool true)], args := [d1, d2, d3] }
  | _ => none }
def mendCrashRow : OpenClaim := { program := "ytopebghandojbaagreat", sum := "235dc776f44a8a0f7373eb338588391b2894eeac55efea783bbbef8098b423f2", func := "cartulary/cartularylaw09.MendCrash", spec := "mendCrash", inPlace := ["internal/abi.NoEscape", "internal/bytealg.MakeNoZero"], unfollowed := true, recurses := true, plainKeys := false, apart := false }
def MendCrashSaid : Prop := mendCrashRow.holds Tryz.pinned (OpenSpec.ofChange mendCrashSpec)

/-- ITS FALSE NEIGHBOUR: 'it returns false'. Refute it at one input. -/
def mendCrashWrong : ChangeSpec := { name := "mendCrash", fn := fun _ => fun
  | [d1, d2, d3] => { results := [.lit (.bool false)], args := [d1, d2, d3] }
  | _ => none }
def MendCrashWrongFalsely : Prop := mendCrashRow.holds Tryz.pinned (OpenSpec.ofChange mendCrashWrong)

/-- 'cartularylaw09.MendNil': WHATEVER THE INPUT: true; the input reads as it did. -/
def mendNilSpec : ChangeSpec := { name := "mendNil", fn := fun _ => fun
  | [d1, d2] => { results := [.lit (.bool true)], args := [d1, d2] }
  | _ => none }
def mendNilRow : OpenClaim := { program := "ytopebghandojbaagreat", sum := "235dc776f44a8a0f7373eb338588391b2894eeac55efea783bbbef8098b423f2", func := "cartulary/cartularylaw09.MendNil", spec := "mendNil", inPlace := ["internal/abi.NoEscape", "internal/bytealg.MakeNoZero"], unfollowed := true, recurses := true, plainKeys := false, apart := false }
def MendNilSaid : Prop := mendNilRow.holds Tryz.pinned (OpenSpec.ofChange mendNilSpec)

/-- ITS FALSE NEIGHBOUR: 'it returns false'. Refute it at one input. -/
def mendNilWrong : ChangeSpec := { name := "mendNil", fn := fun _ => fun
  | [d1, d2] => { results := [.lit (.bool false)], args := [d1, d2] }
  | _ => none }
def MendNilWrongFalsely : Prop := mendNilRow.holds Tryz.pinned (OpenSpec.ofChange mendNilWrong)

/-- 'cartularylaw09.MendAgain': WHATEVER THE INPUT: true; the input reads as it did. -/
def mendAgainSpec : ChangeSpec := { name := "mendAgain", fn := fun _ => fun
  | [d1, d2, d3] => { results := [.lit (.bool true)], args := [d1, d2, d3] }
  | _ => none }
def mendAgainRow : OpenClaim := { program := "ytopebghandojbaagreat", sum := "235dc776f44a8a0f7373eb338588391b2894eeac55efea783bbbef8098b423f2", func := "cartulary/cartularylaw09.MendAgain", spec := "mendAgain", inPlace := ["internal/abi.NoEscape", "internal/bytealg.MakeNoZero"], unfollowed := true, recurses := true, plainKeys := false, apart := false }
def MendAgainSaid : Prop := mendAgainRow.holds Tryz.pinned (OpenSpec.ofChange mendAgainSpec)

/-- ITS FALSE NEIGHBOUR: 'it returns false'. Refute it at one input. -/
def mendAgainWrong : ChangeSpec := { name := "mendAgain", fn := fun _ => fun
  | [d1, d2, d3] => { results := [.lit (.bool false)], args := [d1, d2, d3] }
  | _ => none }
def MendAgainWrongFalsely : Prop := mendAgainRow.holds Tryz.pinned (OpenSpec.ofChange mendAgainWrong)

/- THE SECOND FORM. 'bulk': how many values and letters a reading holds, each counted each time it is reached (what is shared counts as often as it is met; a slice's spare places count too). A statement '..UptoSaid' is the law's where the arguments, and the package variables that the reading takes, are together of bulk at most 1048576: NARROWER than '..Said'. Prove '..Said' where nothing that the law and all that it calls make is longer than what came in: it says more and counts as full. Else prove '..UptoSaid'. A law counts once. -/
mutual
def uptoBulk {H : Type} : DataW H → Nat
  | .lit (.string bytes) => bytes.length + 1
  | .lit _ => 1
  | .nil => 1
  | .ptr d => uptoBulk d + 1
  | .slice elems spare => uptoBulkAll elems + uptoBulkAll spare + 1
  | .agg parts => uptoBulkAll parts + 1
  | .iface _ d => uptoBulk d + 1
  | .map entries => uptoBulkEntries entries + 1
  | .held _ => 1
def uptoBulkAll {H : Type} : List (DataW H) → Nat
  | [] => 0
  | d :: r => uptoBulk d + uptoBulkAll r
def uptoBulkEntries {H : Type} : List (Lit × DataW H) → Nat
  | [] => 0
  | x :: r => uptoBulkEntry x + uptoBulkEntries r
def uptoBulkEntry {H : Type} : Lit × DataW H → Nat
  | (.string bytes, d) => bytes.length + uptoBulk d + 1
  | (_, d) => uptoBulk d + 1
 end
def uptoSmall : (H : Type) → List (DataW H) → Bool := fun _ ds => decide (uptoBulkAll ds ≤ 1048576)
def OpenSpec.upto (s : _root_.Go.ChangeSpec) : _root_.Go.OpenSpec := { _root_.Go.OpenSpec.ofChange s with cond := some uptoSmall }

/-- 'cartularylaw09.MendSteps', WHERE WHAT IT READS IS OF BULK AT MOST 1048576: true; the input reads as it did. -/
def mendStepsUptoRow : OpenClaim := { program := "ytopebghandojbaagreat", sum := "235dc776f44a8a0f7373eb338588391b2894eeac55efea783bbbef8098b423f2", func := "cartulary/cartularylaw09.MendSteps", spec := "mendSteps", inPlace := ["internal/abi.NoEscape", "internal/bytealg.MakeNoZero"], unfollowed := true, recurses := true, plainKeys := false, apart := false, narrowed := true }
def MendStepsUptoSaid : Prop := mendStepsUptoRow.holds Tryz.pinned (OpenSpec.upto mendStepsSpec)

/-- 'cartularylaw09.MendOpens', WHERE WHAT IT READS IS OF BULK AT MOST 1048576: true; the input reads as it did. -/
def mendOpensUptoRow : OpenClaim := { program := "ytopebghandojbaagreat", sum := "235dc776f44a8a0f7373eb338588391b2894eeac55efea783bbbef8098b423f2", func := "cartulary/cartularylaw09.MendOpens", spec := "mendOpens", inPlace := ["internal/abi.NoEscape", "internal/bytealg.MakeNoZero"], unfollowed := true, recurses := true, plainKeys := false, apart := false, narrowed := true }
def MendOpensUptoSaid : Prop := mendOpensUptoRow.holds Tryz.pinned (OpenSpec.upto mendOpensSpec)

/-- 'cartularylaw09.MendCrash', WHERE WHAT IT READS IS OF BULK AT MOST 1048576: true; the input reads as it did. -/
def mendCrashUptoRow : OpenClaim := { program := "ytopebghandojbaagreat", sum := "235dc776f44a8a0f7373eb338588391b2894eeac55efea783bbbef8098b423f2", func := "cartulary/cartularylaw09.MendCrash", spec := "mendCrash", inPlace := ["internal/abi.NoEscape", "internal/bytealg.MakeNoZero"], unfollowed := true, recurses := true, plainKeys := false, apart := false, narrowed := true }
def MendCrashUptoSaid : Prop := mendCrashUptoRow.holds Tryz.pinned (OpenSpec.upto mendCrashSpec)

/-- 'cartularylaw09.MendNil', WHERE WHAT IT READS IS OF BULK AT MOST 1048576: true; the input reads as it did. -/
def mendNilUptoRow : OpenClaim := { program := "ytopebghandojbaagreat", sum := "235dc776f44a8a0f7373eb338588391b2894eeac55efea783bbbef8098b423f2", func := "cartulary/cartularylaw09.MendNil", spec := "mendNil", inPlace := ["internal/abi.NoEscape", "internal/bytealg.MakeNoZero"], unfollowed := true, recurses := true, plainKeys := false, apart := false, narrowed := true }
def MendNilUptoSaid : Prop := mendNilUptoRow.holds Tryz.pinned (OpenSpec.upto mendNilSpec)

/-- 'cartularylaw09.MendAgain', WHERE WHAT IT READS IS OF BULK AT MOST 1048576: true; the input reads as it did. -/
def mendAgainUptoRow : OpenClaim := { program := "ytopebghandojbaagreat", sum := "235dc776f44a8a0f7373eb338588391b2894eeac55efea783bbbef8098b423f2", func := "cartulary/cartularylaw09.MendAgain", spec := "mendAgain", inPlace := ["internal/abi.NoEscape", "internal/bytealg.MakeNoZero"], unfollowed := true, recurses := true, plainKeys := false, apart := false, narrowed := true }
def MendAgainUptoSaid : Prop := mendAgainUptoRow.holds Tryz.pinned (OpenSpec.upto mendAgainSpec)

end Rows
end Go.Proofs.YtopebghandojbaaGreat
