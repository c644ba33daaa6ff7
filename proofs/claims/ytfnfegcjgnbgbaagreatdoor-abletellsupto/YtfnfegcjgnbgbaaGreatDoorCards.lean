/-
  DERIVED. GIVEN WITH THE SEED: THE CARDS: each row of YtfnfegcjgnbgbaaGreatDoorRows.lean that lists a variable, with what it lists TIED to the program's text (the seventh form; the later family's looks); each row that meets fmt, with fmt's text TOLD by the authors' own Lean function (tested against real Go, not proved from fmt's source: count such statements apart). THE CARD IS WHAT COUNTS. Prove the row's statement (the work); the ties are given (YtfnfegcjgnbgbaaGreatDoorTie.lean); close each card by the builder's one call (the guide's Derived/Test/ToyasCard.lean, 'card_holds'). Laid BY PROGRAM, IN A SANDBOX (cutbox-door.mjs). By AI agents, Wed Nov 11 2026. No macro, syntax, notation, axiom, sorry.
-/
import Derived.Test.YtfnfegcjgnbgbaaGreatDoorRows
import GoSem.ClaimSeven
namespace Go.Proofs.YtfnfegcjgnbgbaaGreatDoor
namespace Rows

/-- THE TIED CARD OF 'haruspexlaw22.AbleTells'. -/
def ableTellsCard : Claim7 := { stood := { row := ableTellsRow, standIns := [], harness := (true, "788a6ad92187fdd7c97355eebb4b5803ad70541f0c49de97e126de70a9b631b5"), looks := false }, kinds := [], alts := [], laidByText := true, laidKinds := [.data, .data, .data], laidTests := true, laidLooks := .later }
def AbleTellsCardSaid : Prop := Claim7.holds Tryz.pinned (.plain (OpenSpec.ofChange ableTellsSpec)) ableTellsCard

/-- THE TIED CARD OF 'haruspexlaw22.AbleSays'. -/
def ableSaysCard : Claim7 := { stood := { row := ableSaysRow, standIns := [], harness := (true, "788a6ad92187fdd7c97355eebb4b5803ad70541f0c49de97e126de70a9b631b5"), looks := false }, kinds := [], alts := [], laidByText := true, laidKinds := [.data, .data, .data], laidTests := true, laidLooks := .later }
def AbleSaysCardSaid : Prop := Claim7.holds Tryz.pinned (.plain (OpenSpec.ofChange ableSaysSpec)) ableSaysCard

/-- THE SECOND FORM's CARD OF 'haruspexlaw22.AbleTells'. -/
def ableTellsUptoCard : Claim7 := { stood := { row := ableTellsUptoRow, standIns := [], harness := (true, "788a6ad92187fdd7c97355eebb4b5803ad70541f0c49de97e126de70a9b631b5"), looks := false }, kinds := [], alts := [], laidByText := true, laidKinds := [.data, .data, .data], laidTests := true, laidLooks := .later }
def AbleTellsUptoCardSaid : Prop := Claim7.holds Tryz.pinned (.plain (OpenSpec.upto ableTellsSpec)) ableTellsUptoCard

/-- THE SECOND FORM's CARD OF 'haruspexlaw22.AbleSays'. -/
def ableSaysUptoCard : Claim7 := { stood := { row := ableSaysUptoRow, standIns := [], harness := (true, "788a6ad92187fdd7c97355eebb4b5803ad70541f0c49de97e126de70a9b631b5"), looks := false }, kinds := [], alts := [], laidByText := true, laidKinds := [.data, .data, .data], laidTests := true, laidLooks := .later }
def AbleSaysUptoCardSaid : Prop := Claim7.holds Tryz.pinned (.plain (OpenSpec.upto ableSaysSpec)) ableSaysUptoCard
end Rows
end Go.Proofs.YtfnfegcjgnbgbaaGreatDoor
