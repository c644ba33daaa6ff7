/- Texts that the last one stands on. -/
import Derived.Test.YtkfpgkohkhhlhaaGreatDoorGExprKinds
namespace Go.Proofs.YtkfpgkohkhhlhaaGreatDoor
open Go.RowKit
theorem one_box (x:X) (w:World):∃ A,w.alloc (.cells x.cells 54) = A∧Below w.heap.size w A∧A.heap.size = w.heap.size + 1∧Node A w.heap.size 0 x :=
 ⟨_,rfl,nwB w _,by simp,node_new w _ x⟩
theorem less_not {s t:ByteArray} (h:Op.bytesLess t.toList s.toList = true):Op.bytesLess s.toList t.toList = false:=by
 cases e:Op.bytesLess s.toList t.toList with
 | false=>rfl
 | true=>have:=less_trans _ _ _ h e;rw [less_irrefl] at this;cases this
end Go.Proofs.YtkfpgkohkhhlhaaGreatDoor
