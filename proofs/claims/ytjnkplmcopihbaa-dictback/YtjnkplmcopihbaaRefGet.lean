/-
  What the document's Get answers, at every slice of bytes and every place: the same as vint.Get.
-/
import Derived.Test.YtjnkplmcopihbaaGet
namespace Go.Proofs.Ytjnkplmcopihbaa
open Go.RowKit

theorem join_to (X : Int) (k : Nat) (c d : Int) (h0 : 0 ≤ X) (h1 : X < 2 ^ (7 * k)) (hd : d = c % 128) (h : goesOnB k c = true) :
    bits .or .u64 X (IntKind.u64.wrap (c % 128 * 2 ^ (7 * k))) = X + d * 2 ^ (7 * k) := by
  rw [← hd]
  exact (join X k c d h0 h1 hd h).1

end Go.Proofs.Ytjnkplmcopihbaa
