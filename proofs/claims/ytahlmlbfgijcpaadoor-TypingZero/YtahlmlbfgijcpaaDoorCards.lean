/-
  DERIVED. GIVEN WITH THE SEED: THE CARDS: each row of YtahlmlbfgijcpaaDoorRows.lean that lists a variable, with what it lists TIED to the program's text (the seventh form; the later family's looks); each row that meets fmt, with fmt's text TOLD by the authors' own Lean function (tested against real Go, not proved from fmt's source: count such statements apart). THE CARD IS WHAT COUNTS. Prove the row's statement (the work); the ties are given (YtahlmlbfgijcpaaDoorTie.lean); close each card by the builder's one call (the guide's Derived/Test/ToyasCard.lean, 'card_holds'). Laid BY PROGRAM, IN A SANDBOX (cutbox-door.mjs). By AI agents, Wed Nov 11 2026. No macro, syntax, notation, axiom, sorry.
-/
import Derived.Test.YtahlmlbfgijcpaaDoorRows
import GoSem.ClaimSeven
namespace Go.Proofs.YtahlmlbfgijcpaaDoor
namespace Rows

/-- THE TIED CARD OF 'haruspexlaw10.TypingZero'. -/
def typingZeroCard : Claim7 := { stood := { row := typingZeroRow, standIns := [], harness := (true, "0052a9a5db1608441fcc117831cabcfae8b52193d2a3e21fbc2cdee617316512"), looks := true }, kinds := [], alts := [], laidByText := true, laidKinds := [.sentinel, .sentinel], laidTests := true, laidLooks := .later }
def TypingZeroCardSaid : Prop := Claim7.holds Tryd.pinned (.plain (OpenSpec.ofChange typingZeroSpec)) typingZeroCard

/-- THE SECOND FORM's CARD OF 'haruspexlaw10.TypingZero'. -/
def typingZeroUptoCard : Claim7 := { stood := { row := typingZeroUptoRow, standIns := [], harness := (true, "0052a9a5db1608441fcc117831cabcfae8b52193d2a3e21fbc2cdee617316512"), looks := true }, kinds := [], alts := [], laidByText := true, laidKinds := [.sentinel, .sentinel], laidTests := true, laidLooks := .later }
def TypingZeroUptoCardSaid : Prop := Claim7.holds Tryd.pinned (.plain (OpenSpec.upto typingZeroSpec)) typingZeroUptoCard
end Rows
end Go.Proofs.YtahlmlbfgijcpaaDoor
