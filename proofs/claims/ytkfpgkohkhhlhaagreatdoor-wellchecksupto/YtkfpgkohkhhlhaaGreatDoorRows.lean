/-
  NARROWER THAN 'FOR EVERY INPUT', by the rows' own cells (each row's printed sentence says how): WellChecks: loops, laid · WellGuards: loops, laid · WellRight: loops, laid.
  DERIVED. THE GIVEN ROWS OF THIS SEAT. 3 by the template 'for every input the law returns true; each argument reads behind the call as it read before'; 0 by the template 'total and deterministic' (their statements: YtkfpgkohkhhlhaaGreatDoorTotals.lean).
  GIVEN WITH THE SEED: the statements are not yours to turn. If you find one false, say at which input.
  Laid BY PROGRAM, IN A SANDBOX (cutbox-rows.mjs): the forced cells as the released guide's own fill.sh prints them over the translation 994bd69c5cf7fd97… (all of the seat's roots in one cut). By AI agents, Wed Nov 11 2026. No macro, syntax, notation, axiom, sorry.
-/
import Derived.Test.YtkfpgkohkhhlhaaGreatDoorChecked
import GoSem.Claim
import GoSem.ClaimJoined
import GoSem.ClaimMapViews
import Derived.JoinedTies
import Derived.KernelRfl
namespace Go.Proofs.YtkfpgkohkhhlhaaGreatDoor
/- THE CELL 'sum', in the pinned program and in every row, IS THE sha256 OF THE DUMP (.gsa) THAT YtkfpgkohkhhlhaaGreatDoorProg.lean LOADS. Nothing in Lean hashes anything: it is a label: what it is worth is what the hold of that sum in a sandbox is worth. -/
noncomputable def Tryz.pinned : Pinned := { name := "ytkfpgkohkhhlhaagreatdoor", sum := "994bd69c5cf7fd97ce7dc241fe231ea891ed3e3d9ab04f34f6c80d18da69c353", checked := Tryz.checked }
namespace Rows
def none {H : Type} : Left H := { results := [], args := [] }

/- WHAT THE LISTED PACKAGE-LEVEL VARIABLES READ AS WHEN THE CALL BEGINS. Each datum BY PROGRAM (the guide's laid-datum.mjs) off the statement by which the dump's own 'gosem.cut.vars' lays the variable. In a bare row this is a premise. The card (YtkfpgkohkhhlhaaGreatDoorCards.lean) ties it to the program's text. -/
def laid_errors_errorType {H : Type} : DataW H := .iface "internal/reflectlite.rtype" (.agg [.ptr (.lit (.string [101, 114, 114, 111, 114]))])
def laid_haruspex_typing_errNone {H : Type} : DataW H := .iface "*errors.errorString" (.ptr (.agg [.lit (.string [110, 111, 32, 115, 117, 99, 104, 32, 86, 97, 114, 32, 111, 114, 32, 102, 105, 101, 108, 100])]))
def laid_haruspex_typing_errType {H : Type} : DataW H := .iface "*errors.errorString" (.ptr (.agg [.lit (.string [112, 97, 114, 116, 115, 32, 111, 102, 32, 111, 116, 104, 101, 114, 32, 107, 105, 110, 100, 115])]))

/-- 'haruspexlaw14.WellChecks': WHATEVER THE INPUT: true; the input reads as it did. -/
def wellChecksSpec : ChangeSpec := { name := "wellChecks", fn := fun _ => fun
  | [d1, d2] => { results := [.lit (.bool true)], args := [d1, d2] }
  | _ => none }
def wellChecksRow : OpenClaim := { program := "ytkfpgkohkhhlhaagreatdoor", sum := "994bd69c5cf7fd97ce7dc241fe231ea891ed3e3d9ab04f34f6c80d18da69c353", func := "haruspex/haruspexlaw14.WellChecks", spec := "wellChecks", inPlace := ["internal/reflectlite.TypeOf", "internal/reflectlite.ValueOf", "(internal/reflectlite.Value).Type", "(internal/reflectlite.Value).IsNil", "(internal/reflectlite.Value).Elem", "(internal/reflectlite.Value).Set"], unfollowed := true, recurses := true, named := ["haruspex/typing.errType", "haruspex/typing.errNone", "errors.errorType"], loops := true, apart := false, laid := [("errors.errorType", laid_errors_errorType), ("haruspex/typing.errNone", laid_haruspex_typing_errNone), ("haruspex/typing.errType", laid_haruspex_typing_errType)] }
def WellChecksSaid : Prop := wellChecksRow.holds Tryz.pinned (OpenSpec.ofChange wellChecksSpec)

/-- ITS FALSE NEIGHBOUR: 'it returns false'. Refute it at one input. -/
def wellChecksWrong : ChangeSpec := { name := "wellChecks", fn := fun _ => fun
  | [d1, d2] => { results := [.lit (.bool false)], args := [d1, d2] }
  | _ => none }
def WellChecksWrongFalsely : Prop := wellChecksRow.holds Tryz.pinned (OpenSpec.ofChange wellChecksWrong)

/-- 'haruspexlaw14.WellGuards': WHATEVER THE INPUT: true; the input reads as it did. -/
def wellGuardsSpec : ChangeSpec := { name := "wellGuards", fn := fun _ => fun
  | [d1, d2, d3] => { results := [.lit (.bool true)], args := [d1, d2, d3] }
  | _ => none }
def wellGuardsRow : OpenClaim := { program := "ytkfpgkohkhhlhaagreatdoor", sum := "994bd69c5cf7fd97ce7dc241fe231ea891ed3e3d9ab04f34f6c80d18da69c353", func := "haruspex/haruspexlaw14.WellGuards", spec := "wellGuards", inPlace := ["internal/reflectlite.TypeOf", "internal/reflectlite.ValueOf", "(internal/reflectlite.Value).Type", "(internal/reflectlite.Value).IsNil", "(internal/reflectlite.Value).Elem", "(internal/reflectlite.Value).Set"], unfollowed := true, recurses := true, named := ["haruspex/typing.errType", "haruspex/typing.errNone", "errors.errorType"], loops := true, apart := false, laid := [("errors.errorType", laid_errors_errorType), ("haruspex/typing.errNone", laid_haruspex_typing_errNone), ("haruspex/typing.errType", laid_haruspex_typing_errType)] }
def WellGuardsSaid : Prop := wellGuardsRow.holds Tryz.pinned (OpenSpec.ofChange wellGuardsSpec)

/-- ITS FALSE NEIGHBOUR: 'it returns false'. Refute it at one input. -/
def wellGuardsWrong : ChangeSpec := { name := "wellGuards", fn := fun _ => fun
  | [d1, d2, d3] => { results := [.lit (.bool false)], args := [d1, d2, d3] }
  | _ => none }
def WellGuardsWrongFalsely : Prop := wellGuardsRow.holds Tryz.pinned (OpenSpec.ofChange wellGuardsWrong)

/-- 'haruspexlaw14.WellRight': WHATEVER THE INPUT: true; the input reads as it did. -/
def wellRightSpec : ChangeSpec := { name := "wellRight", fn := fun _ => fun
  | [d1, d2, d3] => { results := [.lit (.bool true)], args := [d1, d2, d3] }
  | _ => none }
def wellRightRow : OpenClaim := { program := "ytkfpgkohkhhlhaagreatdoor", sum := "994bd69c5cf7fd97ce7dc241fe231ea891ed3e3d9ab04f34f6c80d18da69c353", func := "haruspex/haruspexlaw14.WellRight", spec := "wellRight", inPlace := ["internal/reflectlite.TypeOf", "internal/reflectlite.ValueOf", "(internal/reflectlite.Value).Type", "(internal/reflectlite.Value).IsNil", "(internal/reflectlite.Value).Elem", "(internal/reflectlite.Value).Set"], unfollowed := true, recurses := true, named := ["haruspex/typing.errType", "haruspex/typing.errNone", "errors.errorType"], loops := true, apart := false, laid := [("errors.errorType", laid_errors_errorType), ("haruspex/typing.errNone", laid_haruspex_typing_errNone), ("haruspex/typing.errType", laid_haruspex_typing_errType)] }
def WellRightSaid : Prop := wellRightRow.holds Tryz.pinned (OpenSpec.ofChange wellRightSpec)

/-- ITS FALSE NEIGHBOUR: 'it returns false'. Refute it at one input. -/
def wellRightWrong : ChangeSpec := { name := "wellRight", fn := fun _ => fun
  | [d1, d2, d3] => { results := [.lit (.bool false)], args := [d1, d2, d3] }
  | _ => none }
def WellRightWrongFalsely : Prop := wellRightRow.holds Tryz.pinned (OpenSpec.ofChange wellRightWrong)

/- THE SECOND FORM. 'bulk': how many values and letters a reading holds, each counted each time it is reached (what is shared counts as often as it is met; a slice's spare places count too). A statement '..UptoSaid' is the law's where the arguments, and the package variables that the reading takes, are together of bulk at most 1048576: NARROWER than '..Said'. Prove '..Said' where nothing that the law and all that it calls make is longer than what came in: it says more and counts as full. Else prove '..UptoSaid'. A law counts once. -/
mutual
def uptoBulk {H : Type} : DataW H → Nat
  | .lit (.string bytes) => bytes.length + 1
  | .lit _ => 1
  | .nil => 1
  | .ptr d => uptoBulk d + 1
  | .slice elems spare => uptoBulkAll elems + uptoBulkAll spare + 1
  | .agg parts => uptoBulkAll parts + 1
  | .iface _ d => uptoBulk d + 1
  | .map entries => uptoBulkEntries entries + 1
  | .held _ => 1
def uptoBulkAll {H : Type} : List (DataW H) → Nat
  | [] => 0
  | d :: r => uptoBulk d + uptoBulkAll r
def uptoBulkEntries {H : Type} : List (Lit × DataW H) → Nat
  | [] => 0
  | x :: r => uptoBulkEntry x + uptoBulkEntries r
def uptoBulkEntry {H : Type} : Lit × DataW H → Nat
  | (.string bytes, d) => bytes.length + uptoBulk d + 1
  | (_, d) => uptoBulk d + 1
 end
def uptoSmall : (H : Type) → List (DataW H) → Bool := fun _ ds => decide (uptoBulkAll ds ≤ 1048576)
def OpenSpec.upto (s : _root_.Go.ChangeSpec) : _root_.Go.OpenSpec := { _root_.Go.OpenSpec.ofChange s with cond := some uptoSmall }

/-- 'haruspexlaw14.WellChecks', WHERE WHAT IT READS IS OF BULK AT MOST 1048576: true; the input reads as it did. -/
def wellChecksUptoRow : OpenClaim := { program := "ytkfpgkohkhhlhaagreatdoor", sum := "994bd69c5cf7fd97ce7dc241fe231ea891ed3e3d9ab04f34f6c80d18da69c353", func := "haruspex/haruspexlaw14.WellChecks", spec := "wellChecks", inPlace := ["internal/reflectlite.TypeOf", "internal/reflectlite.ValueOf", "(internal/reflectlite.Value).Type", "(internal/reflectlite.Value).IsNil", "(internal/reflectlite.Value).Elem", "(internal/reflectlite.Value).Set"], unfollowed := true, recurses := true, named := ["haruspex/typing.errType", "haruspex/typing.errNone", "errors.errorType"], loops := true, apart := false, laid := [("errors.errorType", laid_errors_errorType), ("haruspex/typing.errNone", laid_haruspex_typing_errNone), ("haruspex/typing.errType", laid_haruspex_typing_errType)], narrowed := true }
def WellChecksUptoSaid : Prop := wellChecksUptoRow.holds Tryz.pinned (OpenSpec.upto wellChecksSpec)

/-- 'haruspexlaw14.WellGuards', WHERE WHAT IT READS IS OF BULK AT MOST 1048576: true; the input reads as it did. -/
def wellGuardsUptoRow : OpenClaim := { program := "ytkfpgkohkhhlhaagreatdoor", sum := "994bd69c5cf7fd97ce7dc241fe231ea891ed3e3d9ab04f34f6c80d18da69c353", func := "haruspex/haruspexlaw14.WellGuards", spec := "wellGuards", inPlace := ["internal/reflectlite.TypeOf", "internal/reflectlite.ValueOf", "(internal/reflectlite.Value).Type", "(internal/reflectlite.Value).IsNil", "(internal/reflectlite.Value).Elem", "(internal/reflectlite.Value).Set"], unfollowed := true, recurses := true, named := ["haruspex/typing.errType", "haruspex/typing.errNone", "errors.errorType"], loops := true, apart := false, laid := [("errors.errorType", laid_errors_errorType), ("haruspex/typing.errNone", laid_haruspex_typing_errNone), ("haruspex/typing.errType", laid_haruspex_typing_errType)], narrowed := true }
def WellGuardsUptoSaid : Prop := wellGuardsUptoRow.holds Tryz.pinned (OpenSpec.upto wellGuardsSpec)

/-- 'haruspexlaw14.WellRight', WHERE WHAT IT READS IS OF BULK AT MOST 1048576: true; the input reads as it did. -/
def wellRightUptoRow : OpenClaim := { program := "ytkfpgkohkhhlhaagreatdoor", sum := "994bd69c5cf7fd97ce7dc241fe231ea891ed3e3d9ab04f34f6c80d18da69c353", func := "haruspex/haruspexlaw14.WellRight", spec := "wellRight", inPlace := ["internal/reflectlite.TypeOf", "internal/reflectlite.ValueOf", "(internal/reflectlite.Value).Type", "(internal/reflectlite.Value).IsNil", "(internal/reflectlite.Value).Elem", "(internal/reflectlite.Value).Set"], unfollowed := true, recurses := true, named := ["haruspex/typing.errType", "haruspex/typing.errNone", "errors.errorType"], loops := true, apart := false, laid := [("errors.errorType", laid_errors_errorType), ("haruspex/typing.errNone", laid_haruspex_typing_errNone), ("haruspex/typing.errType", laid_haruspex_typing_errType)], narrowed := true }
def WellRightUptoSaid : Prop := wellRightUptoRow.holds Tryz.pinned (OpenSpec.upto wellRightSpec)

end Rows
end Go.Proofs.YtkfpgkohkhhlhaaGreatDoor
