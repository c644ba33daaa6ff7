/-
  word.Name and its small functions: a range over a text's runes is a walk over its bytes.
-/
import Derived.Test.YtdfmehbnhdhbcaaDoorWordMath
namespace Go.Proofs.YtdfmehbnhdhbcaaDoor
open Go.RowKit

theorem below_iter (w : World) (s : ByteArray) (p : Nat) : Below w.heap.size w (w.iter s p) := (Below.refl _ _).alloc (Nat.le_refl _) _

end Go.Proofs.YtdfmehbnhdhbcaaDoor
