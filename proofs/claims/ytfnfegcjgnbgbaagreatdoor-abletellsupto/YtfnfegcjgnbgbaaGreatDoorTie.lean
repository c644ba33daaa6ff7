/-
  DERIVED. GIVEN WITH THE SEED: THE PROGRAM's TIES (one call each: nine closed facts by the kernel) AND EACH ROW's TIE, after the 31st guide's Derived/Test/Toyas{Tie, Card}.lean. No idea stands in it: it is a product of the set-up. Laid BY PROGRAM, IN A SANDBOX (cutbox-door.mjs). By AI agents, Wed Nov 11 2026. No macro, syntax, notation, axiom, sorry.
-/
import Derived.Test.YtfnfegcjgnbgbaaGreatDoorRows
import Derived.LaidByTextLater
import Derived.SevenTiedAt
import Derived.LaidSub
import Derived.LaidOnce
namespace Go.Proofs.YtfnfegcjgnbgbaaGreatDoor
open Go
set_option maxRecDepth 100000
theorem seatTie1 : Tryz.prog.laidByTextLater [("haruspex/able.lacked", Rows.laid_haruspex_able_lacked), ("haruspex/able.words", Rows.laid_haruspex_able_words), ("haruspex/able.modes", Rows.laid_haruspex_able_modes)] [.data, .data, .data] true :=
  Program.laidByTextLater_by_one 27 8 61 (by kernel_rfl) (by kernel_rfl) (by kernel_rfl) (by kernel_rfl) (by kernel_rfl) (by kernel_rfl) (fun _ _ => by kernel_rfl)
theorem noOwnUnsafe : Tryz.pinned.checked.prog.headLifts.contains "ownunsafe" = false := by kernel_rfl
theorem tie : Tryz.prog.laidByTextLater [("haruspex/able.lacked", Rows.laid_haruspex_able_lacked), ("haruspex/able.words", Rows.laid_haruspex_able_words), ("haruspex/able.modes", Rows.laid_haruspex_able_modes)] [.data, .data, .data] true :=
  Program.laidByTextLater.sub seatTie1 ["haruspex/able.lacked", "haruspex/able.words", "haruspex/able.modes"] (by kernel_rfl) (by kernel_rfl)
theorem ableTells_row_tie : Rows.ableTellsRow.laidByTextAt .later Tryz.pinned [.data, .data, .data] true :=
  OpenClaim.laidByTextAt_later rfl rfl tie noOwnUnsafe
theorem ableSays_row_tie : Rows.ableSaysRow.laidByTextAt .later Tryz.pinned [.data, .data, .data] true :=
  OpenClaim.laidByTextAt_later rfl rfl tie noOwnUnsafe
theorem ableTellsUpto_row_tie : Rows.ableTellsUptoRow.laidByTextAt .later Tryz.pinned [.data, .data, .data] true :=
  OpenClaim.laidByTextAt_later rfl rfl tie noOwnUnsafe
theorem ableSaysUpto_row_tie : Rows.ableSaysUptoRow.laidByTextAt .later Tryz.pinned [.data, .data, .data] true :=
  OpenClaim.laidByTextAt_later rfl rfl tie noOwnUnsafe
end Go.Proofs.YtfnfegcjgnbgbaaGreatDoor
