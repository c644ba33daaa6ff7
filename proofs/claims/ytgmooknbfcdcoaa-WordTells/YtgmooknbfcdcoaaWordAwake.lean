/-
  The document's awake: a1_ is a name.
-/
import Derived.Test.YtgmooknbfcdcoaaWordName
namespace Go.Proofs.Ytgmooknbfcdcoaa
open Go.RowKit
set_option maxHeartbeats 400000 in
theorem awake_word (w : World) : Calls Try.prog 12 #[] w fun e w' => e = .returned (.bool true) ∧ Below w.heap.size w w' := by
  have c := name_any ⟨#[97, 49, 95]⟩ w
  rw [awake_name] at c
  have C1 : Hid (Calls Try.prog 5 _ _ _) := c
  clear c
  go_enter Try.func12, Try.ntmps12
  go_wp2_with (first | (go_at_call 5; refine C1.out.mono ?_; rintro e w1 ⟨rfl, hB1⟩))
  go_ret
  exact ⟨rfl, hB1⟩
end Go.Proofs.Ytgmooknbfcdcoaa
