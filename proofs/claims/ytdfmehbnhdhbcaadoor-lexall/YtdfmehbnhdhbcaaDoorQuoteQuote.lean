/-
  word.Quote: any text, quoted.
-/
import Derived.Test.YtdfmehbnhdhbcaaDoorQuoteWritten
namespace Go.Proofs.YtdfmehbnhdhbcaaDoor
open Go.RowKit

/-- What is quoted of the first k bytes. -/
def upTo (s : ByteArray) (k : Nat) : List Int := 39 :: bodyL ((bytesS s).take k)
theorem upTo_succ (s : ByteArray) (k : Nat) (hk : k < s.size) : upTo s (k + 1) = upTo s k ++ signL (byteAt s k) := by
  have h : k < (bytesS s).length := by rw [bytesS_length]; exact hk
  have e : byteAt s k = (bytesS s)[k] := by simp [byteAt, h]
  unfold upTo
  rw [List.take_succ_eq_append_getElem h, bodyL_snoc, e]; rfl
theorem upTo_len (s : ByteArray) (k : Nat) : (upTo s k).length ≤ 4 * k + 1 := by
  have := bodyL_len ((bytesS s).take k)
  have h2 : ((bytesS s).take k).length ≤ k := by simp; omega
  unfold upTo
  rw [List.length_cons]
  omega
theorem upTo_all (s : ByteArray) (k : Nat) (hk : s.size ≤ k) : upTo s k ++ [39] = quoteL (bytesS s) := by
  unfold upTo quoteL
  rw [List.take_of_length_le (by rw [bytesS_length]; exact hk)]; rfl

end Go.Proofs.YtdfmehbnhdhbcaaDoor
