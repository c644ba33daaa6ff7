/-
  A string's bytes by place, for a seat that has vint (GetAny .. Bytes, ZBack hold the rest of what Txt holds).
-/
import Derived.Test.YtjnkplmcopihbaaZBack
import Derived.WalkSpells
import Derived.Laws.IdiomStrings
import Derived.Laws.RangeAny
import Derived.Outline
namespace Go.Proofs.Ytjnkplmcopihbaa
open Go.RowKit

/-- The byte at a place. -/
def byteAt (s : ByteArray) (k : Nat) : Int := (bytesS s)[k]?.getD 0
theorem byteAt_get (s : ByteArray) (k : Nat) (h : k < s.size) : ((s[k]'h).toNat : Int) = byteAt s k := by
  have h' : k < s.data.size := h
  have e : s.data[k]? = some (s.data[k]'h') := Array.getElem?_eq_getElem h'
  simp only [byteAt, bytesS, List.getElem?_map, Array.getElem?_toList, e, Option.map_some, Option.getD_some]
  rfl
theorem byteAt_bd (s : ByteArray) (k : Nat) : 0 ≤ byteAt s k ∧ byteAt s k ≤ 255 := by
  unfold byteAt
  by_cases hk : k < (bytesS s).length
  · simpa [hk] using bytesS_bd s _ (List.getElem_mem hk)
  · simp [Nat.not_lt.1 hk]
/-- A string's byte, in a walk. -/
theorem at_str (s : ByteArray) (k : Nat) (h : k < s.size) (w : World) : (Instr.index 9 (.string s) (.int .i64 (k : Int))).run Try.prog w = .ok (.int .u8 (byteAt s k)) w := by
  rw [run_index_string w 9 s .i64 (k : Int) Try.underlying9, dif_pos ⟨by omega, by omega⟩]
  have e := byteAt_get s k h
  simp only [Int.toNat_natCast]
  rw [e]
end Go.Proofs.Ytjnkplmcopihbaa
