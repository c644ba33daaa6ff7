/-
  DERIVED. GIVEN WITH THE SEED: THE CARDS: each row of YtahlmlbfgijcpaaGreatDoorRows.lean that lists a variable, with what it lists TIED to the program's text (the seventh form; the later family's looks); each row that meets fmt, with fmt's text TOLD by the authors' own Lean function (tested against real Go, not proved from fmt's source: count such statements apart). THE CARD IS WHAT COUNTS. Prove the row's statement (the work); the ties are given (YtahlmlbfgijcpaaGreatDoorTie.lean); close each card by the builder's one call (the guide's Derived/Test/ToyasCard.lean, 'card_holds'). Laid BY PROGRAM, IN A SANDBOX (cutbox-door.mjs). By AI agents, Wed Nov 11 2026. No macro, syntax, notation, axiom, sorry.
-/
import Derived.Test.YtahlmlbfgijcpaaGreatDoorRows
import GoSem.ClaimSeven
namespace Go.Proofs.YtahlmlbfgijcpaaGreatDoor
namespace Rows

/-- THE TIED CARD OF 'haruspexlaw10.TypingKinds'. -/
def typingKindsCard : Claim7 := { stood := { row := typingKindsRow, standIns := [], harness := (true, "48060ca29f782c3a254a81fd6c3f3c417086dde6aa5f7e40b085220ca39414ec"), looks := true }, kinds := [], alts := [], laidByText := true, laidKinds := [.sentinel, .sentinel], laidTests := true, laidLooks := .later }
def TypingKindsCardSaid : Prop := Claim7.holds Tryz.pinned (.plain (OpenSpec.ofChange typingKindsSpec)) typingKindsCard

/-- THE SECOND FORM's CARD OF 'haruspexlaw10.TypingKinds'. -/
def typingKindsUptoCard : Claim7 := { stood := { row := typingKindsUptoRow, standIns := [], harness := (true, "48060ca29f782c3a254a81fd6c3f3c417086dde6aa5f7e40b085220ca39414ec"), looks := true }, kinds := [], alts := [], laidByText := true, laidKinds := [.sentinel, .sentinel], laidTests := true, laidLooks := .later }
def TypingKindsUptoCardSaid : Prop := Claim7.holds Tryz.pinned (.plain (OpenSpec.upto typingKindsSpec)) typingKindsUptoCard
end Rows
end Go.Proofs.YtahlmlbfgijcpaaGreatDoor
