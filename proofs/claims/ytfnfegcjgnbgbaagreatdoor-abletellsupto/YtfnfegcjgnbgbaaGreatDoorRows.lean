/-
  NARROWER THAN 'FOR EVERY INPUT', by the rows' own cells (each row's printed sentence says how): AbleTells: loops, laid · AbleSays: loops, laid.
  DERIVED. THE GIVEN ROWS OF THIS SEAT. 2 by the template 'for every input the law returns true; each argument reads behind the call as it read before'; 0 by the template 'total and deterministic' (their statements: YtfnfegcjgnbgbaaGreatDoorTotals.lean).
  GIVEN WITH THE SEED: the statements are not yours to turn. If you find one false, say at which input.
  Laid BY PROGRAM, IN A SANDBOX (cutbox-rows.mjs): the forced cells as the released guide's own fill.sh prints them over the translation 10bfc334358aa6c9… (all of the seat's roots in one cut). By AI agents, Wed Nov 11 2026. No macro, syntax, notation, axiom, sorry.
-/
import Derived.Test.YtfnfegcjgnbgbaaGreatDoorChecked
import GoSem.Claim
import GoSem.ClaimJoined
import GoSem.ClaimMapViews
import Derived.JoinedTies
import Derived.KernelRfl
namespace Go.Proofs.YtfnfegcjgnbgbaaGreatDoor
/- THE CELL 'sum', in the pinned program and in every row, IS THE sha256 OF THE DUMP (.gsa) THAT YtfnfegcjgnbgbaaGreatDoorProg.lean LOADS. Nothing in Lean hashes anything: it is a label: what it is worth is what the hold of that sum in a sandbox is worth. -/
noncomputable def Tryz.pinned : Pinned := { name := "ytfnfegcjgnbgbaagreatdoor", sum := "10bfc334358aa6c9af9ccc6ded94daa480f1b27e75f575e9a91dbf313af9693d", checked := Tryz.checked }
namespace Rows
def none {H : Type} : Left H := { results := [], args := [] }

/- WHAT THE LISTED PACKAGE-LEVEL VARIABLES READ AS WHEN THE CALL BEGINS. Each datum BY PROGRAM (the guide's laid-datum.mjs) off the statement by which the dump's own 'gosem.cut.vars' lays the variable. In a bare row this is a premise. The card (YtfnfegcjgnbgbaaGreatDoorCards.lean) ties it to the program's text. -/
def laid_haruspex_able_lacked {H : Type} : DataW H := .agg [.agg [.lit (.bool false), .lit (.bool false), .lit (.bool false), .lit (.bool false), .lit (.bool false), .lit (.bool false), .lit (.bool false), .lit (.bool false), .lit (.bool false), .lit (.bool false), .lit (.bool false), .lit (.bool false), .lit (.bool false), .lit (.bool false), .lit (.bool false)], .agg [.lit (.bool false), .lit (.bool false), .lit (.bool true), .lit (.bool false), .lit (.bool false), .lit (.bool false), .lit (.bool false), .lit (.bool false), .lit (.bool false), .lit (.bool false), .lit (.bool false), .lit (.bool false), .lit (.bool false), .lit (.bool false), .lit (.bool false)], .agg [.lit (.bool false), .lit (.bool false), .lit (.bool false), .lit (.bool false), .lit (.bool true), .lit (.bool false), .lit (.bool false), .lit (.bool false), .lit (.bool true), .lit (.bool false), .lit (.bool true), .lit (.bool true), .lit (.bool false), .lit (.bool true), .lit (.bool false)], .agg [.lit (.bool false), .lit (.bool false), .lit (.bool false), .lit (.bool false), .lit (.bool false), .lit (.bool false), .lit (.bool true), .lit (.bool true), .lit (.bool false), .lit (.bool true), .lit (.bool false), .lit (.bool false), .lit (.bool false), .lit (.bool false), .lit (.bool true)]]
def laid_haruspex_able_words {H : Type} : DataW H := .agg [.lit (.string []), .lit (.string [115, 101, 113]), .lit (.string [97, 110, 100]), .lit (.string [111, 114]), .lit (.string [109, 97, 110, 121]), .lit (.string [101, 120, 97, 99, 116]), .lit (.string [110, 111, 116]), .lit (.string [116, 97, 105, 108]), .lit (.string [107, 101, 121]), .lit (.string [97, 110, 121]), .lit (.string [110, 101, 97, 114]), .lit (.string [115, 116, 114, 105, 99, 116]), .lit (.string [119, 105, 116, 104, 105, 110]), .lit (.string [105, 116, 101, 109, 115]), .lit (.string [100, 101, 101, 112])]
def laid_haruspex_able_modes {H : Type} : DataW H := .agg [.lit (.int .i64 9), .lit (.int .i64 10), .lit (.int .i64 11)]

/-- 'haruspexlaw22.AbleTells': WHATEVER THE INPUT: true; the input reads as it did. -/
def ableTellsSpec : ChangeSpec := { name := "ableTells", fn := fun _ => fun
  | [d1, d2, d3] => { results := [.lit (.bool true)], args := [d1, d2, d3] }
  | _ => none }
def ableTellsRow : OpenClaim := { program := "ytfnfegcjgnbgbaagreatdoor", sum := "10bfc334358aa6c9af9ccc6ded94daa480f1b27e75f575e9a91dbf313af9693d", func := "haruspex/haruspexlaw22.AbleTells", spec := "ableTells", unfollowed := true, recurses := true, named := ["haruspex/able.words", "haruspex/able.modes", "haruspex/able.lacked"], loops := true, apart := false, laid := [("haruspex/able.lacked", laid_haruspex_able_lacked), ("haruspex/able.words", laid_haruspex_able_words), ("haruspex/able.modes", laid_haruspex_able_modes)] }
def AbleTellsSaid : Prop := ableTellsRow.holds Tryz.pinned (OpenSpec.ofChange ableTellsSpec)

/-- ITS FALSE NEIGHBOUR: 'it returns false'. Refute it at one input. -/
def ableTellsWrong : ChangeSpec := { name := "ableTells", fn := fun _ => fun
  | [d1, d2, d3] => { results := [.lit (.bool false)], args := [d1, d2, d3] }
  | _ => none }
def AbleTellsWrongFalsely : Prop := ableTellsRow.holds Tryz.pinned (OpenSpec.ofChange ableTellsWrong)

/-- 'haruspexlaw22.AbleSays': WHATEVER THE INPUT: true; the input reads as it did. -/
def ableSaysSpec : ChangeSpec := { name := "ableSays", fn := fun _ => fun
  | [d] => { results := [.lit (.bool true)], args := [d] }
  | _ => none }
def ableSaysRow : OpenClaim := { program := "ytfnfegcjgnbgbaagreatdoor", sum := "10bfc334358aa6c9af9ccc6ded94daa480f1b27e75f575e9a91dbf313af9693d", func := "haruspex/haruspexlaw22.AbleSays", spec := "ableSays", unfollowed := true, recurses := true, named := ["haruspex/able.words", "haruspex/able.modes", "haruspex/able.lacked"], loops := true, apart := false, laid := [("haruspex/able.lacked", laid_haruspex_able_lacked), ("haruspex/able.words", laid_haruspex_able_words), ("haruspex/able.modes", laid_haruspex_able_modes)] }
def AbleSaysSaid : Prop := ableSaysRow.holds Tryz.pinned (OpenSpec.ofChange ableSaysSpec)

/-- ITS FALSE NEIGHBOUR: 'it returns false'. Refute it at one input. -/
def ableSaysWrong : ChangeSpec := { name := "ableSays", fn := fun _ => fun
  | [d] => { results := [.lit (.bool false)], args := [d] }
  | _ => none }
def AbleSaysWrongFalsely : Prop := ableSaysRow.holds Tryz.pinned (OpenSpec.ofChange ableSaysWrong)

/- THE SECOND FORM. 'bulk': how many values and letters a reading holds, each counted each time it is reached (what is shared counts as often as it is met; a slice's spare places count too). A statement '..UptoSaid' is the law's where the arguments, and the package variables that the reading takes, are together of bulk at most 1048576: NARROWER than '..Said'. Prove '..Said' where nothing that the law and all that it calls make is longer than what came in: it says more and counts as full. Else prove '..UptoSaid'. A law counts once. -/
mutual
def uptoBulk {H : Type} : DataW H → Nat
  | .lit (.string bytes) => bytes.length + 1
  | .lit _ => 1
  | .nil => 1
  | .ptr d => uptoBulk d + 1
  | .slice elems spare => uptoBulkAll elems + uptoBulkAll spare + 1
  | .agg parts => uptoBulkAll parts + 1
  | .iface _ d => uptoBulk d + 1
  | .map entries => uptoBulkEntries entries + 1
  | .held _ => 1
def uptoBulkAll {H : Type} : List (DataW H) → Nat
  | [] => 0
  | d :: r => uptoBulk d + uptoBulkAll r
def uptoBulkEntries {H : Type} : List (Lit × DataW H) → Nat
  | [] => 0
  | x :: r => uptoBulkEntry x + uptoBulkEntries r
def uptoBulkEntry {H : Type} : Lit × DataW H → Nat
  | (.string bytes, d) => bytes.length + uptoBulk d + 1
  | (_, d) => uptoBulk d + 1
 end
def uptoSmall : (H : Type) → List (DataW H) → Bool := fun _ ds => decide (uptoBulkAll ds ≤ 1048576)
def OpenSpec.upto (s : _root_.Go.ChangeSpec) : _root_.Go.OpenSpec := { _root_.Go.OpenSpec.ofChange s with cond := some uptoSmall }

/-- 'haruspexlaw22.AbleTells', WHERE WHAT IT READS IS OF BULK AT MOST 1048576: true; the input reads as it did. -/
def ableTellsUptoRow : OpenClaim := { program := "ytfnfegcjgnbgbaagreatdoor", sum := "10bfc334358aa6c9af9ccc6ded94daa480f1b27e75f575e9a91dbf313af9693d", func := "haruspex/haruspexlaw22.AbleTells", spec := "ableTells", unfollowed := true, recurses := true, named := ["haruspex/able.words", "haruspex/able.modes", "haruspex/able.lacked"], loops := true, apart := false, laid := [("haruspex/able.lacked", laid_haruspex_able_lacked), ("haruspex/able.words", laid_haruspex_able_words), ("haruspex/able.modes", laid_haruspex_able_modes)], narrowed := true }
def AbleTellsUptoSaid : Prop := ableTellsUptoRow.holds Tryz.pinned (OpenSpec.upto ableTellsSpec)

/-- 'haruspexlaw22.AbleSays', WHERE WHAT IT READS IS OF BULK AT MOST 1048576: true; the input reads as it did. -/
def ableSaysUptoRow : OpenClaim := { program := "ytfnfegcjgnbgbaagreatdoor", sum := "10bfc334358aa6c9af9ccc6ded94daa480f1b27e75f575e9a91dbf313af9693d", func := "haruspex/haruspexlaw22.AbleSays", spec := "ableSays", unfollowed := true, recurses := true, named := ["haruspex/able.words", "haruspex/able.modes", "haruspex/able.lacked"], loops := true, apart := false, laid := [("haruspex/able.lacked", laid_haruspex_able_lacked), ("haruspex/able.words", laid_haruspex_able_words), ("haruspex/able.modes", laid_haruspex_able_modes)], narrowed := true }
def AbleSaysUptoSaid : Prop := ableSaysUptoRow.holds Tryz.pinned (OpenSpec.upto ableSaysSpec)

end Rows
end Go.Proofs.YtfnfegcjgnbgbaaGreatDoor
