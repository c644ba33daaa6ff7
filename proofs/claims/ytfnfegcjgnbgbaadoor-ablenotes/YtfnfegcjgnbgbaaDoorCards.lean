/-
  DERIVED. GIVEN WITH THE SEED: THE CARDS: each row of YtfnfegcjgnbgbaaDoorRows.lean that lists a variable, with what it lists TIED to the program's text (the seventh form; the later family's looks); each row that meets fmt, with fmt's text TOLD by the authors' own Lean function (tested against real Go, not proved from fmt's source: count such statements apart). THE CARD IS WHAT COUNTS. Prove the row's statement (the work); the ties are given (YtfnfegcjgnbgbaaDoorTie.lean); close each card by the builder's one call (the guide's Derived/Test/ToyasCard.lean, 'card_holds'). Laid BY PROGRAM, IN A SANDBOX (cutbox-door.mjs). By AI agents, Wed Nov 11 2026. No macro, syntax, notation, axiom, sorry.
-/
import Derived.Test.YtfnfegcjgnbgbaaDoorRows
import GoSem.ClaimSeven
namespace Go.Proofs.YtfnfegcjgnbgbaaDoor
namespace Rows

/-- THE TIED CARD OF 'haruspexlaw22.AbleNotes'. -/
def ableNotesCard : Claim7 := { stood := { row := ableNotesRow, standIns := [], harness := (true, "a1e892820e8ce7c5c84d3e36bf9c915f5d38caa052e0bc78f9b4bb1f1a70f072"), looks := false }, kinds := [], alts := [], laidByText := true, laidKinds := [.data, .data, .data], laidTests := true, laidLooks := .later }
def AbleNotesCardSaid : Prop := Claim7.holds Tryd.pinned (.plain (OpenSpec.ofChange ableNotesSpec)) ableNotesCard

/-- THE SECOND FORM's CARD OF 'haruspexlaw22.AbleNotes'. -/
def ableNotesUptoCard : Claim7 := { stood := { row := ableNotesUptoRow, standIns := [], harness := (true, "a1e892820e8ce7c5c84d3e36bf9c915f5d38caa052e0bc78f9b4bb1f1a70f072"), looks := false }, kinds := [], alts := [], laidByText := true, laidKinds := [.data, .data, .data], laidTests := true, laidLooks := .later }
def AbleNotesUptoCardSaid : Prop := Claim7.holds Tryd.pinned (.plain (OpenSpec.upto ableNotesSpec)) ableNotesUptoCard
end Rows
end Go.Proofs.YtfnfegcjgnbgbaaDoor
