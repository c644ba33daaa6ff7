/-
  NARROWER THAN 'FOR EVERY INPUT', by the rows' own cells (each row's printed sentence says how): PatRenames: loops · PatParts: loops · QueryRenames: loops.
  DERIVED. THE GIVEN ROWS OF THIS SEAT. 3 by the template 'for every input the law returns true; each argument reads behind the call as it read before'; 0 by the template 'total and deterministic' (their statements: YtjclelmbpmlioaaTotals.lean).
  GIVEN WITH THE SEED: the statements are not yours to turn. If you find one false, say at which input.
  Laid BY PROGRAM, IN A SANDBOX (cutbox-rows.mjs): the forced cells as the released guide's own fill.sh prints them over the translation 23b45983fb3c6e67… (all of the seat's roots in one cut). By AI agents, Wed Nov 11 2026. No macro, syntax, notation, axiom, sorry.
-/
import Derived.Test.YtjclelmbpmlioaaChecked
import GoSem.Claim
import GoSem.ClaimJoined
import GoSem.ClaimMapViews
import Derived.JoinedTies
import Derived.KernelRfl
namespace Go.Proofs.Ytjclelmbpmlioaa
/- THE CELL 'sum', in the pinned program and in every row, IS THE sha256 OF THE DUMP (.gsa) THAT YtjclelmbpmlioaaProg.lean LOADS. Nothing in Lean hashes anything: it is a label: what it is worth is what the hold of that sum in a sandbox is worth. -/
noncomputable def Try.pinned : Pinned := { name := "ytjclelmbpmlioaa", sum := "23b45983fb3c6e6736cad92e000fd238a8a544b4463715f5f20a2e2dfac0973e", checked := Try.checked }
namespace Rows
def none {H : Type} : Left H := { results := [], args := [] }

/-- 'haruspexlaw12.PatRenames': WHATEVER THE INPUT: true; the input reads as it did. -/
def patRenamesSpec : ChangeSpec := { name := "patRenames", fn := fun _ => fun
  | [d1, d2, d3] => { results := [.lit (.bool true)], args := [d1, d2, d3] }
  | _ => none }
def patRenamesRow : OpenClaim := { program := "ytjclelmbpmlioaa", sum := "23b45983fb3c6e6736cad92e000fd238a8a544b4463715f5f20a2e2dfac0973e", func := "haruspex/haruspexlaw12.PatRenames", spec := "patRenames", unfollowed := true, recurses := true, loops := true, apart := false }
def PatRenamesSaid : Prop := patRenamesRow.holds Try.pinned (OpenSpec.ofChange patRenamesSpec)

/-- ITS FALSE NEIGHBOUR: 'it returns false'. Refute it at one input. -/
def patRenamesWrong : ChangeSpec := { name := "patRenames", fn := fun _ => fun
  | [d1, d2, d3] => { results := [.lit (.bool false)], args := [d1, d2, d3] }
  | _ => none }
def PatRenamesWrongFalsely : Prop := patRenamesRow.holds Try.pinned (OpenSpec.ofChange patRenamesWrong)

/-- 'haruspexlaw12.PatParts': WHATEVER THE INPUT: true; the input reads as it did. -/
def patPartsSpec : ChangeSpec := { name := "patParts", fn := fun _ => fun
  | [d1, d2] => { results := [.lit (.bool true)], args := [d1, d2] }
  | _ => none }
def patPartsRow : OpenClaim := { program := "ytjclelmbpmlioaa", sum := "23b45983fb3c6e6736cad92e000fd238a8a544b4463715f5f20a2e2dfac0973e", func := "haruspex/haruspexlaw12.PatParts", spec := "patParts", unfollowed := true, recurses := true, loops := true, apart := false }
def PatPartsSaid : Prop := patPartsRow.holds Try.pinned (OpenSpec.ofChange patPartsSpec)

/-- ITS FALSE NEIGHBOUR: 'it returns false'. Refute it at one input. -/
def patPartsWrong : ChangeSpec := { name := "patParts", fn := fun _ => fun
  | [d1, d2] => { results := [.lit (.bool false)], args := [d1, d2] }
  | _ => none }
def PatPartsWrongFalsely : Prop := patPartsRow.holds Try.pinned (OpenSpec.ofChange patPartsWrong)

/-- 'haruspexlaw13.QueryRenames': WHATEVER THE INPUT: true; the input reads as it did. -/
def queryRenamesSpec : ChangeSpec := { name := "queryRenames", fn := fun _ => fun
  | [d1, d2, d3] => { results := [.lit (.bool true)], args := [d1, d2, d3] }
  | _ => none }
def queryRenamesRow : OpenClaim := { program := "ytjclelmbpmlioaa", sum := "23b45983fb3c6e6736cad92e000fd238a8a544b4463715f5f20a2e2dfac0973e", func := "haruspex/haruspexlaw13.QueryRenames", spec := "queryRenames", unfollowed := true, recurses := true, loops := true, apart := false }
def QueryRenamesSaid : Prop := queryRenamesRow.holds Try.pinned (OpenSpec.ofChange queryRenamesSpec)

/-- ITS FALSE NEIGHBOUR: 'it returns false'. Refute it at one input. -/
def queryRenamesWrong : ChangeSpec := { name := "queryRenames", fn := fun _ => fun
  | [d1, d2, d3] => { results := [.lit (.bool false)], args := [d1, d2, d3] }
  | _ => none }
def QueryRenamesWrongFalsely : Prop := queryRenamesRow.holds Try.pinned (OpenSpec.ofChange queryRenamesWrong)

/- THE SECOND FORM. 'bulk': how many values and letters a reading holds, each counted each time it is reached (what is shared counts as often as it is met; a slice's spare places count too). A statement '..UptoSaid' is the law's where the arguments, and the package variables that the reading takes, are together of bulk at most 1048576: NARROWER than '..Said'. Prove '..Said' where nothing that the law and all that it calls make is longer than what came in: it says more and counts as full. Else prove '..UptoSaid'. A law counts once. -/
mutual
def uptoBulk {H : Type} : DataW H → Nat
  | .lit (.string bytes) => bytes.length + 1
  | .lit _ => 1
  | .nil => 1
  | .ptr d => uptoBulk d + 1
  | .slice elems spare => uptoBulkAll elems + uptoBulkAll spare + 1
  | .agg parts => uptoBulkAll parts + 1
  | .iface _ d => uptoBulk d + 1
  | .map entries => uptoBulkEntries entries + 1
  | .held _ => 1
def uptoBulkAll {H : Type} : List (DataW H) → Nat
  | [] => 0
  | d :: r => uptoBulk d + uptoBulkAll r
def uptoBulkEntries {H : Type} : List (Lit × DataW H) → Nat
  | [] => 0
  | x :: r => uptoBulkEntry x + uptoBulkEntries r
def uptoBulkEntry {H : Type} : Lit × DataW H → Nat
  | (.string bytes, d) => bytes.length + uptoBulk d + 1
  | (_, d) => uptoBulk d + 1
 end
def uptoSmall : (H : Type) → List (DataW H) → Bool := fun _ ds => decide (uptoBulkAll ds ≤ 1048576)
def OpenSpec.upto (s : _root_.Go.ChangeSpec) : _root_.Go.OpenSpec := { _root_.Go.OpenSpec.ofChange s with cond := some uptoSmall }

/-- 'haruspexlaw12.PatRenames', WHERE WHAT IT READS IS OF BULK AT MOST 1048576: true; the input reads as it did. -/
def patRenamesUptoRow : OpenClaim := { program := "ytjclelmbpmlioaa", sum := "23b45983fb3c6e6736cad92e000fd238a8a544b4463715f5f20a2e2dfac0973e", func := "haruspex/haruspexlaw12.PatRenames", spec := "patRenames", unfollowed := true, recurses := true, loops := true, apart := false, narrowed := true }
def PatRenamesUptoSaid : Prop := patRenamesUptoRow.holds Try.pinned (OpenSpec.upto patRenamesSpec)

/-- 'haruspexlaw12.PatParts', WHERE WHAT IT READS IS OF BULK AT MOST 1048576: true; the input reads as it did. -/
def patPartsUptoRow : OpenClaim := { program := "ytjclelmbpmlioaa", sum := "23b45983fb3c6e6736cad92e000fd238a8a544b4463715f5f20a2e2dfac0973e", func := "haruspex/haruspexlaw12.PatParts", spec := "patParts", unfollowed := true, recurses := true, loops := true, apart := false, narrowed := true }
def PatPartsUptoSaid : Prop := patPartsUptoRow.holds Try.pinned (OpenSpec.upto patPartsSpec)

/-- 'haruspexlaw13.QueryRenames', WHERE WHAT IT READS IS OF BULK AT MOST 1048576: true; the input reads as it did. -/
def queryRenamesUptoRow : OpenClaim := { program := "ytjclelmbpmlioaa", sum := "23b45983fb3c6e6736cad92e000fd238a8a544b4463715f5f20a2e2dfac0973e", func := "haruspex/haruspexlaw13.QueryRenames", spec := "queryRenames", unfollowed := true, recurses := true, loops := true, apart := false, narrowed := true }
def QueryRenamesUptoSaid : Prop := queryRenamesUptoRow.holds Try.pinned (OpenSpec.upto queryRenamesSpec)

end Rows
end Go.Proofs.Ytjclelmbpmlioaa
