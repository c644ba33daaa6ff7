/- Texts that the last one stands on. -/
import Derived.Test.YtkfpgkohkhhlhaaGreatDoorSExprKinds
namespace Go.Proofs.YtkfpgkohkhhlhaaGreatDoor
open Go.RowKit
theorem one_box (x:X) (w:World):∃ A,w.alloc (.cells x.cells 54) = A∧Below w.heap.size w A∧A.heap.size = w.heap.size + 1∧Node A w.heap.size 0 x :=
 ⟨_,rfl,nwB w _,by simp,node_new w _ x⟩
end Go.Proofs.YtkfpgkohkhhlhaaGreatDoor
