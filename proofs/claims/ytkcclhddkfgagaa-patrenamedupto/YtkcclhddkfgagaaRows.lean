/-
  NARROWER THAN 'FOR EVERY INPUT', by the rows' own cells (each row's printed sentence says how): PatTells: loops · PatRenames: loops · PatParts: loops · PatRenamed: loops.
  DERIVED. THE GIVEN ROWS OF THIS SEAT. 4 by the template 'for every input the law returns true; each argument reads behind the call as it read before'; 0 by the template 'total and deterministic' (their statements: YtkcclhddkfgagaaTotals.lean).
  GIVEN WITH THE SEED: the statements are not yours to turn. If you find one false, say at which input.
  Laid BY PROGRAM, IN A SANDBOX (cutbox-rows.mjs): the forced cells as the released guide's own fill.sh prints them over the translation 81187732843552d2… (all of the seat's roots in one cut). By AI agents, Wed Nov 11 2026. No macro, syntax, notation, axiom, sorry.
-/
import Derived.Test.YtkcclhddkfgagaaChecked
import GoSem.Claim
import GoSem.ClaimJoined
import GoSem.ClaimMapViews
import Derived.JoinedTies
import Derived.KernelRfl
namespace Go.Proofs.Ytkcclhddkfgagaa
/- THE CELL 'sum', in the pinned program and in every row, IS THE sha256 OF THE DUMP (.gsa) THAT YtkcclhddkfgagaaProg.lean LOADS. Nothing in Lean hashes anything: it is a label: what it is worth is what the hold of that sum in a sandbox is worth. -/
noncomputable def Try.pinned : Pinned := { name := "ytkcclhddkfgagaa", sum := "81187732843552d2e82e41d474f2c351a3d54fce40549f074223936683f3fa87", checked := Try.checked }
namespace Rows
def none {H : Type} : Left H := { results := [], args := [] }

/-- 'haruspexlaw12.PatTells': WHATEVER THE INPUT: true; the input reads as it did. -/
def patTellsSpec : ChangeSpec := { name := "patTells", fn := fun _ => fun
  | [d1, d2, d3] => { results := [.lit (.bool true)], args := [d1, d2, d3] }
  | _ => none }
def patTellsRow : OpenClaim := { program := "ytkcclhddkfgagaa", sum := "81187732843552d2e82e41d474f2c351a3d54fce40549f074223936683f3fa87", func := "haruspex/haruspexlaw12.PatTells", spec := "patTells", unfollowed := true, recurses := true, loops := true, apart := false }
def PatTellsSaid : Prop := patTellsRow.holds Try.pinned (OpenSpec.ofChange patTellsSpec)

/-- ITS FALSE NEIGHBOUR: 'it returns false'. Refute it at one input. -/
def patTellsWrong : ChangeSpec := { name := "patTells", fn := fun _ => fun
  | [d1, d2, d3] => { results := [.lit (.bool false)], args := [d1, d2, d3] }
  | _ => none }
def PatTellsWrongFalsely : Prop := patTellsRow.holds Try.pinned (OpenSpec.ofChange patTellsWrong)

/-- 'haruspexlaw12.PatRenames': WHATEVER THE INPUT: true; the input reads as it did. -/
def patRenamesSpec : ChangeSpec := { name := "patRenames", fn := fun _ => fun
  | [d1, d2, d3] => { results := [.lit (.bool true)], args := [d1, d2, d3] }
  | _ => none }
def patRenamesRow : OpenClaim := { program := "ytkcclhddkfgagaa", sum := "81187732843552d2e82e41d474f2c351a3d54fce40549f074223936683f3fa87", func := "haruspex/haruspexlaw12.PatRenames", spec := "patRenames", unfollowed := true, recurses := true, loops := true, apart := false }
def PatRenamesSaid : Prop := patRenamesRow.holds Try.pinned (OpenSpec.ofChange patRenamesSpec)

/-- ITS FALSE NEIGHBOUR: 'it returns false'. Refute it at one input. -/
def patRenamesWrong : ChangeSpec := { name := "patRenames", fn := fun _ => fun
  | [d1, d2, d3] => { results := [.lit (.bool false)], args := [d1, d2, d3] }
  | _ => none }
def PatRenamesWrongFalsely : Prop := patRenamesRow.holds Try.pinned (OpenSpec.ofChange patRenamesWrong)

/-- 'haruspexlaw12.PatParts': WHATEVER THE INPUT: true; the input reads as it did. -/
def patPartsSpec : ChangeSpec := { name := "patParts", fn := fun _ => fun
  | [d1, d2] => { results := [.lit (.bool true)], args := [d1, d2] }
  | _ => none }
def patPartsRow : OpenClaim := { program := "ytkcclhddkfgagaa", sum := "81187732843552d2e82e41d474f2c351a3d54fce40549f074223936683f3fa87", func := "haruspex/haruspexlaw12.PatParts", spec := "patParts", unfollowed := true, recurses := true, loops := true, apart := false }
def PatPartsSaid : Prop := patPartsRow.holds Try.pinned (OpenSpec.ofChange patPartsSpec)

/-- ITS FALSE NEIGHBOUR: 'it returns false'. Refute it at one input. -/
def patPartsWrong : ChangeSpec := { name := "patParts", fn := fun _ => fun
  | [d1, d2] => { results := [.lit (.bool false)], args := [d1, d2] }
  | _ => none }
def PatPartsWrongFalsely : Prop := patPartsRow.holds Try.pinned (OpenSpec.ofChange patPartsWrong)

/-- 'haruspexlaw12.PatRenamed': WHATEVER THE INPUT: true; the input reads as it did. -/
def patRenamedSpec : ChangeSpec := { name := "patRenamed", fn := fun _ => fun
  | [d1, d2, d3] => { results := [.lit (.bool true)], args := [d1, d2, d3] }
  | _ => none }
def patRenamedRow : OpenClaim := { program := "ytkcclhddkfgagaa", sum := "81187732843552d2e82e41d474f2c351a3d54fce40549f074223936683f3fa87", func := "haruspex/haruspexlaw12.PatRenamed", spec := "patRenamed", unfollowed := true, recurses := true, loops := true, apart := false }
def PatRenamedSaid : Prop := patRenamedRow.holds Try.pinned (OpenSpec.ofChange patRenamedSpec)

/-- ITS FALSE NEIGHBOUR: 'it returns false'. Refute it at one input. -/
def patRenamedWrong : ChangeSpec := { name := "patRenamed", fn := fun _ => fun
  | [d1, d2, d3] => { results := [.lit (.bool false)], args := [d1, d2, d3] }
  | _ => none }
def PatRenamedWrongFalsely : Prop := patRenamedRow.holds Try.pinned (OpenSpec.ofChange patRenamedWrong)

/- THE SECOND FORM. 'bulk': how many values and letters a reading holds, each counted each time it is reached (what is shared counts as often as it is met; a slice's spare places count too). A statement '..UptoSaid' is the law's where the arguments, and the package variables that the reading takes, are together of bulk at most 1048576: NARROWER than '..Said'. Prove '..Said' where nothing that the law and all that it calls make is longer than what came in: it says more and counts as full. Else prove '..UptoSaid'. A law counts once. -/
mutual
def uptoBulk {H : Type} : DataW H → Nat
  | .lit (.string bytes) => bytes.length + 1
  | .lit _ => 1
  | .nil => 1
  | .ptr d => uptoBulk d + 1
  | .slice elems spare => uptoBulkAll elems + uptoBulkAll spare + 1
  | .agg parts => uptoBulkAll parts + 1
  | .iface _ d => uptoBulk d + 1
  | .map entries => uptoBulkEntries entries + 1
  | .held _ => 1
def uptoBulkAll {H : Type} : List (DataW H) → Nat
  | [] => 0
  | d :: r => uptoBulk d + uptoBulkAll r
def uptoBulkEntries {H : Type} : List (Lit × DataW H) → Nat
  | [] => 0
  | x :: r => uptoBulkEntry x + uptoBulkEntries r
def uptoBulkEntry {H : Type} : Lit × DataW H → Nat
  | (.string bytes, d) => bytes.length + uptoBulk d + 1
  | (_, d) => uptoBulk d + 1
 end
def uptoSmall : (H : Type) → List (DataW H) → Bool := fun _ ds => decide (uptoBulkAll ds ≤ 1048576)
def OpenSpec.upto (s : _root_.Go.ChangeSpec) : _root_.Go.OpenSpec := { _root_.Go.OpenSpec.ofChange s with cond := some uptoSmall }

/-- 'haruspexlaw12.PatTells', WHERE WHAT IT READS IS OF BULK AT MOST 1048576: true; the input reads as it did. -/
def patTellsUptoRow : OpenClaim := { program := "ytkcclhddkfgagaa", sum := "81187732843552d2e82e41d474f2c351a3d54fce40549f074223936683f3fa87", func := "haruspex/haruspexlaw12.PatTells", spec := "patTells", unfollowed := true, recurses := true, loops := true, apart := false, narrowed := true }
def PatTellsUptoSaid : Prop := patTellsUptoRow.holds Try.pinned (OpenSpec.upto patTellsSpec)

/-- 'haruspexlaw12.PatRenames', WHERE WHAT IT READS IS OF BULK AT MOST 1048576: true; the input reads as it did. -/
def patRenamesUptoRow : OpenClaim := { program := "ytkcclhddkfgagaa", sum := "81187732843552d2e82e41d474f2c351a3d54fce40549f074223936683f3fa87", func := "haruspex/haruspexlaw12.PatRenames", spec := "patRenames", unfollowed := true, recurses := true, loops := true, apart := false, narrowed := true }
def PatRenamesUptoSaid : Prop := patRenamesUptoRow.holds Try.pinned (OpenSpec.upto patRenamesSpec)

/-- 'haruspexlaw12.PatParts', WHERE WHAT IT READS IS OF BULK AT MOST 1048576: true; the input reads as it did. -/
def patPartsUptoRow : OpenClaim := { program := "ytkcclhddkfgagaa", sum := "81187732843552d2e82e41d474f2c351a3d54fce40549f074223936683f3fa87", func := "haruspex/haruspexlaw12.PatParts", spec := "patParts", unfollowed := true, recurses := true, loops := true, apart := false, narrowed := true }
def PatPartsUptoSaid : Prop := patPartsUptoRow.holds Try.pinned (OpenSpec.upto patPartsSpec)

/-- 'haruspexlaw12.PatRenamed', WHERE WHAT IT READS IS OF BULK AT MOST 1048576: true; the input reads as it did. -/
def patRenamedUptoRow : OpenClaim := { program := "ytkcclhddkfgagaa", sum := "81187732843552d2e82e41d474f2c351a3d54fce40549f074223936683f3fa87", func := "haruspex/haruspexlaw12.PatRenamed", spec := "patRenamed", unfollowed := true, recurses := true, loops := true, apart := false, narrowed := true }
def PatRenamedUptoSaid : Prop := patRenamedUptoRow.holds Try.pinned (OpenSpec.upto patRenamedSpec)

end Rows
end Go.Proofs.Ytkcclhddkfgagaa
