/-
  No cell of these rows narrows 'for every input' (looked for: loops, veiled, ifaces, maps, wideKeys, modest, calm, conditions, laid).
  DERIVED. THE GIVEN ROWS OF THIS SEAT. 6 by the template 'for every input the law returns true; each argument reads behind the call as it read before'; 0 by the template 'total and deterministic' (their statements: YtonejnbflkkapaaTotals.lean).
  GIVEN WITH THE SEED: the statements are not yours to turn. If you find one false, say at which input.
  Laid BY PROGRAM, IN A SANDBOX (cutbox-rows.mjs): the forced cells as the released guide's own fill.sh prints them over the translation 00ab5226c087e0f6… (all of the seat's roots in one cut). By AI agents, Wed Nov 11 2026. No macro, syntax, notation, axiom, sorry.
-/
import Derived.Test.YtonejnbflkkapaaChecked
import GoSem.Claim
import GoSem.ClaimJoined
import GoSem.ClaimMapViews
import Derived.JoinedTies
import Derived.KernelRfl
namespace Go.Proofs.Ytonejnbflkkapaa
/- THE CELL 'sum', in the pinned program and in every row, IS THE sha256 OF THE DUMP (.gsa) THAT YtonejnbflkkapaaProg.lean LOADS. Nothing in Lean hashes anything: it is a label: what it is worth is what the hold of that sum in a sandbox is worth. -/
noncomputable def Try.pinned : Pinned := { name := "ytonejnbflkkapaa", sum := "00ab5226c087e0f680259fffd24ffa74c12026de546933c6beede61c20ad3384", checked := Try.checked }
namespace Rows
def none {H : Type} : Left H := { results := [], args := [] }

/-- 'cartularylaw01.NarrowTo': WHATEVER THE INPUT: true; the input reads as it did. -/
def narrowToSpec : ChangeSpec := { name := "narrowTo", fn := fun _ => fun
  | [d1, d2] => { results := [.lit (.bool true)], args := [d1, d2] }
  | _ => none }
def narrowToRow : OpenClaim := { program := "ytonejnbflkkapaa", sum := "00ab5226c087e0f680259fffd24ffa74c12026de546933c6beede61c20ad3384", func := "cartulary/cartularylaw01.NarrowTo", spec := "narrowTo", apart := false }
def NarrowToSaid : Prop := narrowToRow.holds Try.pinned (OpenSpec.ofChange narrowToSpec)

/-- ITS FALSE NEIGHBOUR: 'it returns false'. Refute it at one input. -/
def narrowToWrong : ChangeSpec := { name := "narrowTo", fn := fun _ => fun
  | [d1, d2] => { results := [.lit (.bool false)], args := [d1, d2] }
  | _ => none }
def NarrowToWrongFalsely : Prop := narrowToRow.holds Try.pinned (OpenSpec.ofChange narrowToWrong)

/-- 'cartularylaw01.NarrowShifts': WHATEVER THE INPUT: true; the input reads as it did. -/
def narrowShiftsSpec : ChangeSpec := { name := "narrowShifts", fn := fun _ => fun
  | [d1, d2, d3] => { results := [.lit (.bool true)], args := [d1, d2, d3] }
  | _ => none }
def narrowShiftsRow : OpenClaim := { program := "ytonejnbflkkapaa", sum := "00ab5226c087e0f680259fffd24ffa74c12026de546933c6beede61c20ad3384", func := "cartulary/cartularylaw01.NarrowShifts", spec := "narrowShifts", apart := false }
def NarrowShiftsSaid : Prop := narrowShiftsRow.holds Try.pinned (OpenSpec.ofChange narrowShiftsSpec)

/-- ITS FALSE NEIGHBOUR: 'it returns false'. Refute it at one input. -/
def narrowShiftsWrong : ChangeSpec := { name := "narrowShifts", fn := fun _ => fun
  | [d1, d2, d3] => { results := [.lit (.bool false)], args := [d1, d2, d3] }
  | _ => none }
def NarrowShiftsWrongFalsely : Prop := narrowShiftsRow.holds Try.pinned (OpenSpec.ofChange narrowShiftsWrong)

/-- 'cartularylaw01.NarrowFields': WHATEVER THE INPUT: true; the input reads as it did. -/
def narrowFieldsSpec : ChangeSpec := { name := "narrowFields", fn := fun _ => fun
  | [d] => { results := [.lit (.bool true)], args := [d] }
  | _ => none }
def narrowFieldsRow : OpenClaim := { program := "ytonejnbflkkapaa", sum := "00ab5226c087e0f680259fffd24ffa74c12026de546933c6beede61c20ad3384", func := "cartulary/cartularylaw01.NarrowFields", spec := "narrowFields", apart := false }
def NarrowFieldsSaid : Prop := narrowFieldsRow.holds Try.pinned (OpenSpec.ofChange narrowFieldsSpec)

/-- ITS FALSE NEIGHBOUR: 'it returns false'. Refute it at one input. -/
def narrowFieldsWrong : ChangeSpec := { name := "narrowFields", fn := fun _ => fun
  | [d] => { results := [.lit (.bool false)], args := [d] }
  | _ => none }
def NarrowFieldsWrongFalsely : Prop := narrowFieldsRow.holds Try.pinned (OpenSpec.ofChange narrowFieldsWrong)

/-- 'cartularylaw01.NarrowBack': WHATEVER THE INPUT: true; the input reads as it did. -/
def narrowBackSpec : ChangeSpec := { name := "narrowBack", fn := fun _ => fun
  | [d1, d2, d3] => { results := [.lit (.bool true)], args := [d1, d2, d3] }
  | _ => none }
def narrowBackRow : OpenClaim := { program := "ytonejnbflkkapaa", sum := "00ab5226c087e0f680259fffd24ffa74c12026de546933c6beede61c20ad3384", func := "cartulary/cartularylaw01.NarrowBack", spec := "narrowBack", apart := false }
def NarrowBackSaid : Prop := narrowBackRow.holds Try.pinned (OpenSpec.ofChange narrowBackSpec)

/-- ITS FALSE NEIGHBOUR: 'it returns false'. Refute it at one input. -/
def narrowBackWrong : ChangeSpec := { name := "narrowBack", fn := fun _ => fun
  | [d1, d2, d3] => { results := [.lit (.bool false)], args := [d1, d2, d3] }
  | _ => none }
def NarrowBackWrongFalsely : Prop := narrowBackRow.holds Try.pinned (OpenSpec.ofChange narrowBackWrong)

/-- 'cartularylaw01.NarrowTwice': WHATEVER THE INPUT: true; the input reads as it did. -/
def narrowTwiceSpec : ChangeSpec := { name := "narrowTwice", fn := fun _ => fun
  | [d1, d2, d3] => { results := [.lit (.bool true)], args := [d1, d2, d3] }
  | _ => none }
def narrowTwiceRow : OpenClaim := { program := "ytonejnbflkkapaa", sum := "00ab5226c087e0f680259fffd24ffa74c12026de546933c6beede61c20ad3384", func := "cartulary/cartularylaw01.NarrowTwice", spec := "narrowTwice", apart := false }
def NarrowTwiceSaid : Prop := narrowTwiceRow.holds Try.pinned (OpenSpec.ofChange narrowTwiceSpec)

/-- ITS FALSE NEIGHBOUR: 'it returns false'. Refute it at one input. -/
def narrowTwiceWrong : ChangeSpec := { name := "narrowTwice", fn := fun _ => fun
  | [d1, d2, d3] => { results := [.lit (.bool false)], args := [d1, d2, d3] }
  | _ => none }
def NarrowTwiceWrongFalsely : Prop := narrowTwiceRow.holds Try.pinned (OpenSpec.ofChange narrowTwiceWrong)

/-- 'cartularylaw01.NarrowSame': WHATEVER THE INPUT: true; the input reads as it did. -/
def narrowSameSpec : ChangeSpec := { name := "narrowSame", fn := fun _ => fun
  | [d1, d2, d3] => { results := [.lit (.bool true)], args := [d1, d2, d3] }
  | _ => none }
def narrowSameRow : OpenClaim := { program := "ytonejnbflkkapaa", sum := "00ab5226c087e0f680259fffd24ffa74c12026de546933c6beede61c20ad3384", func := "cartulary/cartularylaw01.NarrowSame", spec := "narrowSame", apart := false }
def NarrowSameSaid : Prop := narrowSameRow.holds Try.pinned (OpenSpec.ofChange narrowSameSpec)

/-- ITS FALSE NEIGHBOUR: 'it returns false'. Refute it at one input. -/
def narrowSameWrong : ChangeSpec := { name := "narrowSame", fn := fun _ => fun
  | [d1, d2, d3] => { results := [.lit (.bool false)], args := [d1, d2, d3] }
  | _ => none }
def NarrowSameWrongFalsely : Prop := narrowSameRow.holds Try.pinned (OpenSpec.ofChange narrowSameWrong)

/- THE SECOND FORM. 'bulk': how many values and letters a reading holds, each counted each time it is reached (what is shared counts as often as it is met; a slice's spare places count too). A statement '..UptoSaid' is the law's where the arguments, and the package variables that the reading takes, are together of bulk at most 1048576: NARROWER than '..Said'. Prove '..Said' where nothing that the law and all that it calls make is longer than what came in: it says more and counts as full. Else prove '..UptoSaid'. A law counts once. -/
mutual
def uptoBulk {H : Type} : DataW H → Nat
  | .lit (.string bytes) => bytes.length + 1
  | .lit _ => 1
  | .nil => 1
  | .ptr d => uptoBulk d + 1
  | .slice elems spare => uptoBulkAll elems + uptoBulkAll spare + 1
  | .agg parts => uptoBulkAll parts + 1
  | .iface _ d => uptoBulk d + 1
  | .map entries => uptoBulkEntries entries + 1
  | .held _ => 1
def uptoBulkAll {H : Type} : List (DataW H) → Nat
  | [] => 0
  | d :: r => uptoBulk d + uptoBulkAll r
def uptoBulkEntries {H : Type} : List (Lit × DataW H) → Nat
  | [] => 0
  | x :: r => uptoBulkEntry x + uptoBulkEntries r
def uptoBulkEntry {H : Type} : Lit × DataW H → Nat
  | (.string bytes, d) => bytes.length + uptoBulk d + 1
  | (_, d) => uptoBulk d + 1
 end
def uptoSmall : (H : Type) → List (DataW H) → Bool := fun _ ds => decide (uptoBulkAll ds ≤ 1048576)
def OpenSpec.upto (s : _root_.Go.ChangeSpec) : _root_.Go.OpenSpec := { _root_.Go.OpenSpec.ofChange s with cond := some uptoSmall }

/-- 'cartularylaw01.NarrowTo', WHERE WHAT IT READS IS OF BULK AT MOST 1048576: true; the input reads as it did. -/
def narrowToUptoRow : OpenClaim := { program := "ytonejnbflkkapaa", sum := "00ab5226c087e0f680259fffd24ffa74c12026de546933c6beede61c20ad3384", func := "cartulary/cartularylaw01.NarrowTo", spec := "narrowTo", apart := false, narrowed := true }
def NarrowToUptoSaid : Prop := narrowToUptoRow.holds Try.pinned (OpenSpec.upto narrowToSpec)

/-- 'cartularylaw01.NarrowShifts', WHERE WHAT IT READS IS OF BULK AT MOST 1048576: true; the input reads as it did. -/
def narrowShiftsUptoRow : OpenClaim := { program := "ytonejnbflkkapaa", sum := "00ab5226c087e0f680259fffd24ffa74c12026de546933c6beede61c20ad3384", func := "cartulary/cartularylaw01.NarrowShifts", spec := "narrowShifts", apart := false, narrowed := true }
def NarrowShiftsUptoSaid : Prop := narrowShiftsUptoRow.holds Try.pinned (OpenSpec.upto narrowShiftsSpec)

/-- 'cartularylaw01.NarrowFields', WHERE WHAT IT READS IS OF BULK AT MOST 1048576: true; the input reads as it did. -/
def narrowFieldsUptoRow : OpenClaim := { program := "ytonejnbflkkapaa", sum := "00ab5226c087e0f680259fffd24ffa74c12026de546933c6beede61c20ad3384", func := "cartulary/cartularylaw01.NarrowFields", spec := "narrowFields", apart := false, narrowed := true }
def NarrowFieldsUptoSaid : Prop := narrowFieldsUptoRow.holds Try.pinned (OpenSpec.upto narrowFieldsSpec)

/-- 'cartularylaw01.NarrowBack', WHERE WHAT IT READS IS OF BULK AT MOST 1048576: true; the input reads as it did. -/
def narrowBackUptoRow : OpenClaim := { program := "ytonejnbflkkapaa", sum := "00ab5226c087e0f680259fffd24ffa74c12026de546933c6beede61c20ad3384", func := "cartulary/cartularylaw01.NarrowBack", spec := "narrowBack", apart := false, narrowed := true }
def NarrowBackUptoSaid : Prop := narrowBackUptoRow.holds Try.pinned (OpenSpec.upto narrowBackSpec)

/-- 'cartularylaw01.NarrowTwice', WHERE WHAT IT READS IS OF BULK AT MOST 1048576: true; the input reads as it did. -/
def narrowTwiceUptoRow : OpenClaim := { program := "ytonejnbflkkapaa", sum := "00ab5226c087e0f680259fffd24ffa74c12026de546933c6beede61c20ad3384", func := "cartulary/cartularylaw01.NarrowTwice", spec := "narrowTwice", apart := false, narrowed := true }
def NarrowTwiceUptoSaid : Prop := narrowTwiceUptoRow.holds Try.pinned (OpenSpec.upto narrowTwiceSpec)

/-- 'cartularylaw01.NarrowSame', WHERE WHAT IT READS IS OF BULK AT MOST 1048576: true; the input reads as it did. -/
def narrowSameUptoRow : OpenClaim := { program := "ytonejnbflkkapaa", sum := "00ab5226c087e0f680259fffd24ffa74c12026de546933c6beede61c20ad3384", func := "cartulary/cartularylaw01.NarrowSame", spec := "narrowSame", apart := false, narrowed := true }
def NarrowSameUptoSaid : Prop := narrowSameUptoRow.holds Try.pinned (OpenSpec.upto narrowSameSpec)

end Rows
end Go.Proofs.Ytonejnbflkkapaa
