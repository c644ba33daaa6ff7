/-
  value.Right answers what the document's word 'right' says (P6.1).
-/
import Derived.Test.YtcdehohmgfocdaaValMake
namespace Go.Proofs.Ytcdehohmgfocdaa
open Go.RowKit

/-- The word 'right'. -/
def rightB (k n : Int) (s : ByteArray) : Bool :=
  if k = 0 then decide (n = 0) && s.toList == []
  else if k = 1 then (decide (n = 0) || decide (n = 1)) && s.toList == []
  else if k = 2 then s.toList == []
  else if k = 3 then decide (n = 0) && decide (s.size ≤ 256)
  else false

theorem empty_str {s : ByteArray} (h : (s.toList == []) = true) : s = ⟨#[]⟩ := by
  rw [ByteArray.toList_eq] at h
  obtain ⟨⟨x⟩⟩ := s
  cases x with
  | nil => rfl
  | cons a l => simp at h
theorem toList_empty : ((⟨#[]⟩ : ByteArray).toList == []) = true := by rw [ByteArray.toList_eq]; rfl

end Go.Proofs.Ytcdehohmgfocdaa
