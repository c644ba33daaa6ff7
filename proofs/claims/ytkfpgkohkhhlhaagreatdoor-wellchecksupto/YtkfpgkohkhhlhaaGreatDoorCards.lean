/-
  DERIVED. GIVEN WITH THE SEED: THE CARDS: each row of YtkfpgkohkhhlhaaGreatDoorRows.lean that lists a variable, with what it lists TIED to the program's text (the seventh form; the later family's looks); each row that meets fmt, with fmt's text TOLD by the authors' own Lean function (tested against real Go, not proved from fmt's source: count such statements apart). THE CARD IS WHAT COUNTS. Prove the row's statement (the work); the ties are given (YtkfpgkohkhhlhaaGreatDoorTie.lean); close each card by the builder's one call (the guide's Derived/Test/ToyasCard.lean, 'card_holds'). Laid BY PROGRAM, IN A SANDBOX (cutbox-door.mjs). By AI agents, Wed Nov 11 2026. No macro, syntax, notation, axiom, sorry.
-/
import Derived.Test.YtkfpgkohkhhlhaaGreatDoorRows
import GoSem.ClaimSeven
namespace Go.Proofs.YtkfpgkohkhhlhaaGreatDoor
namespace Rows

/-- THE TIED CARD OF 'haruspexlaw14.WellChecks'. -/
def wellChecksCard : Claim7 := { stood := { row := wellChecksRow, standIns := [], harness := (true, "c7c7b2e3f624593d09619575ec6d0b8a9400df6c0ef814eeff0f2e78c409fed3"), looks := true }, kinds := [], alts := [], laidByText := true, laidKinds := [.handle, .sentinel, .sentinel], laidTests := true, laidLooks := .later }
def WellChecksCardSaid : Prop := Claim7.holds Tryz.pinned (.plain (OpenSpec.ofChange wellChecksSpec)) wellChecksCard

/-- THE TIED CARD OF 'haruspexlaw14.WellGuards'. -/
def wellGuardsCard : Claim7 := { stood := { row := wellGuardsRow, standIns := [], harness := (true, "c7c7b2e3f624593d09619575ec6d0b8a9400df6c0ef814eeff0f2e78c409fed3"), looks := true }, kinds := [], alts := [], laidByText := true, laidKinds := [.handle, .sentinel, .sentinel], laidTests := true, laidLooks := .later }
def WellGuardsCardSaid : Prop := Claim7.holds Tryz.pinned (.plain (OpenSpec.ofChange wellGuardsSpec)) wellGuardsCard

/-- THE TIED CARD OF 'haruspexlaw14.WellRight'. -/
def wellRightCard : Claim7 := { stood := { row := wellRightRow, standIns := [], harness := (true, "c7c7b2e3f624593d09619575ec6d0b8a9400df6c0ef814eeff0f2e78c409fed3"), looks := true }, kinds := [], alts := [], laidByText := true, laidKinds := [.handle, .sentinel, .sentinel], laidTests := true, laidLooks := .later }
def WellRightCardSaid : Prop := Claim7.holds Tryz.pinned (.plain (OpenSpec.ofChange wellRightSpec)) wellRightCard

/-- THE SECOND FORM's CARD OF 'haruspexlaw14.WellChecks'. -/
def wellChecksUptoCard : Claim7 := { stood := { row := wellChecksUptoRow, standIns := [], harness := (true, "c7c7b2e3f624593d09619575ec6d0b8a9400df6c0ef814eeff0f2e78c409fed3"), looks := true }, kinds := [], alts := [], laidByText := true, laidKinds := [.handle, .sentinel, .sentinel], laidTests := true, laidLooks := .later }
def WellChecksUptoCardSaid : Prop := Claim7.holds Tryz.pinned (.plain (OpenSpec.upto wellChecksSpec)) wellChecksUptoCard

/-- THE SECOND FORM's CARD OF 'haruspexlaw14.WellGuards'. -/
def wellGuardsUptoCard : Claim7 := { stood := { row := wellGuardsUptoRow, standIns := [], harness := (true, "c7c7b2e3f624593d09619575ec6d0b8a9400df6c0ef814eeff0f2e78c409fed3"), looks := true }, kinds := [], alts := [], laidByText := true, laidKinds := [.handle, .sentinel, .sentinel], laidTests := true, laidLooks := .later }
def WellGuardsUptoCardSaid : Prop := Claim7.holds Tryz.pinned (.plain (OpenSpec.upto wellGuardsSpec)) wellGuardsUptoCard

/-- THE SECOND FORM's CARD OF 'haruspexlaw14.WellRight'. -/
def wellRightUptoCard : Claim7 := { stood := { row := wellRightUptoRow, standIns := [], harness := (true, "c7c7b2e3f624593d09619575ec6d0b8a9400df6c0ef814eeff0f2e78c409fed3"), looks := true }, kinds := [], alts := [], laidByText := true, laidKinds := [.handle, .sentinel, .sentinel], laidTests := true, laidLooks := .later }
def WellRightUptoCardSaid : Prop := Claim7.holds Tryz.pinned (.plain (OpenSpec.upto wellRightSpec)) wellRightUptoCard
end Rows
end Go.Proofs.YtkfpgkohkhhlhaaGreatDoor
