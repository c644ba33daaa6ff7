/-
  Texts: joined, and their parts, as lists of bytes.
-/
import Derived.Test.YtdfmehbnhdhbcaaDoorTxt
namespace Go.Proofs.YtdfmehbnhdhbcaaDoor
open Go.RowKit

theorem bytesS_append (a b : ByteArray) : bytesS (a ++ b) = bytesS a ++ bytesS b := by
  simp [bytesS, ByteArray.data_append]
theorem extract_take (b : ByteArray) (m : Nat) : b.extract 0 m = strOf ((bytesS b).take m) := by
  have h : bytesS (b.extract 0 m) = (bytesS b).take m := by
    simp [bytesS, ByteArray.data_extract, List.map_take]
  rw [← h, strOf_bytesS]
theorem size_of_bytes {s : ByteArray} {l : List Int} (h : bytesS s = l) : s.size = l.length := by rw [← h, bytesS_length]
theorem bytes_drop (s : ByteArray) (k : Nat) : bytesS (s.extract k s.size) = (bytesS s).drop k := by
  have e : s.data.size = s.size := rfl
  simp [bytesS, ByteArray.data_extract, List.map_drop, List.map_take]
  rw [← e, List.take_of_length_le (by simp)]
theorem bytes_take (s : ByteArray) (k : Nat) : bytesS (s.extract 0 k) = (bytesS s).take k := by
  simp [bytesS, ByteArray.data_extract, List.map_take]
theorem bytesS_inj {a b : ByteArray} (h : bytesS a = bytesS b) : a = b := by rw [← strOf_bytesS a, h, strOf_bytesS]
theorem toList_beq (a b : ByteArray) : (a.toList == b.toList) = (bytesS a == bytesS b) := by
  rw [Bool.eq_iff_iff]
  simp only [beq_iff_eq]
  constructor
  · intro h
    rw [ByteArray.toList_eq, ByteArray.toList_eq] at h
    unfold bytesS
    rw [h]
  · intro h
    rw [bytesS_inj h]
theorem toList_ne {a b : ByteArray} (h : a ≠ b) : (a.toList == b.toList) = false := by
  rw [toList_beq]
  exact beq_eq_false_iff_ne.2 fun e => h (bytesS_inj e)
end Go.Proofs.YtdfmehbnhdhbcaaDoor
