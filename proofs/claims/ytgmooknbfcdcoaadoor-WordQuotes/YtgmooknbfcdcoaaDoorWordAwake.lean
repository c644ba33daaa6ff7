/-
  The document's awake: a1_ is a name.
-/
import Derived.Test.YtgmooknbfcdcoaaDoorWordName
namespace Go.Proofs.YtgmooknbfcdcoaaDoor
open Go.RowKit
set_option maxHeartbeats 400000 in
theorem awake_word (w : World) : Calls Tryd.prog 10 #[] w fun e w' => e = .returned (.bool true) ∧ Below w.heap.size w w' := by
  have c := name_any ⟨#[97, 49, 95]⟩ w
  rw [awake_name] at c
  have C1 : Hid (Calls Tryd.prog 16 _ _ _) := c
  clear c
  go_enter Tryd.func10, Tryd.ntmps10
  go_wp2_with (first | (go_at_call 16; refine C1.out.mono ?_; rintro e w1 ⟨rfl, hB1⟩))
  go_ret
  exact ⟨rfl, hB1⟩
end Go.Proofs.YtgmooknbfcdcoaaDoor
