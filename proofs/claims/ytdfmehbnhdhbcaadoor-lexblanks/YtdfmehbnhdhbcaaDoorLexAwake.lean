/-
  The program computes at all (layer 17).
-/
import Derived.Test.YtdfmehbnhdhbcaaDoorLexAllP
namespace Go.Proofs.YtdfmehbnhdhbcaaDoor
open Go.RowKit

theorem awake_tok : allZ ⟨#[97, 45, 62, 98]⟩ = ([⟨2, ⟨#[97]⟩, 0⟩, ⟨5, ⟨#[45, 62]⟩, 1⟩, ⟨2, ⟨#[98]⟩, 3⟩, ⟨6, ⟨#[]⟩, 4⟩], 4, 0) := by kernel_rfl
set_option maxRecDepth 100000 in
set_option maxHeartbeats 1000000 in
theorem awake17 (w : World) (hT : LexT w) : Calls Tryd.prog 8 #[] w fun e w' => e = .returned (.bool true) ∧ Below w.heap.size w w' := by
  have HC : Hid (Calls Tryd.prog 6 #[.string ⟨#[97, 45, 62, 98]⟩] w fun e w' => ∃ v, e = .returned (.tuple #[v, .int .i64 4, .int .i64 0]) ∧
      w'.ownsRow w.heap.size 29 3 v 4 (cellsT [⟨2, ⟨#[97]⟩, 0⟩, ⟨5, ⟨#[45, 62]⟩, 1⟩, ⟨2, ⟨#[98]⟩, 3⟩, ⟨6, ⟨#[]⟩, 4⟩]) ∧ Below w.heap.size w w') := by
    have := all_lex ⟨#[97, 45, 62, 98]⟩ w hT
    rw [awake_tok] at this
    exact this
  clear hT
  go_enter Tryd.func8, Tryd.ntmps8
  go_wp2_with (first
    | (go_at_call 6
       refine HC.out.mono ?_
       clear HC
       rintro e w1 ⟨v, rfl, ho, hB1⟩
       obtain ⟨a, cap, rfl, hc1, hc2, hc3⟩ := rowT_get ho rfl
       obtain ⟨g, rfl, hcell⟩ := hc3 (by decide)
       have c1 : w1.cell? ⟨g, 4, none⟩ = some (.string ⟨#[45, 62]⟩) := (hcell 1 (by decide)).2.1
       clear hcell hc3 ho))
  go_ret
  exact ⟨rfl, hB1⟩
end Go.Proofs.YtdfmehbnhdhbcaaDoor
