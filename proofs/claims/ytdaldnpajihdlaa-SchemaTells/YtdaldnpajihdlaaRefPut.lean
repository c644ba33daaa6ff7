/-
  What the document's Put, PutInt and Size make: a new row that holds the slice's bytes and behind them the number's; as many bytes as 'sz' says.
-/
import Derived.Test.YtdaldnpajihdlaaApp
namespace Go.Proofs.Ytdaldnpajihdlaa
open Go.RowKit

theorem isBytes_one (w : World) (c : Int) (h0 : 0 ≤ c) (h1 : c ≤ 255) : IsBytes (w.alloc (.cells #[.int .u8 c] 5)) (some ⟨w.heap.size, 0, none⟩) 1 1 [c] := by
  refine ⟨rfl, Nat.le_refl _, by unfold maxLen; omega, (by intro h; cases h), ?_, fun _ => ⟨w.heap.size, 0, rfl, ?_⟩⟩
  · intro j
    cases j with
    | zero => simpa using ⟨h0, h1⟩
    | succ j => simp
  · intro j hj
    obtain rfl : j = 0 := by omega
    simp

end Go.Proofs.Ytdaldnpajihdlaa
