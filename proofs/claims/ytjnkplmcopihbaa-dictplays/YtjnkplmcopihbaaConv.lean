/-
  Bytes as a string; what vint.PutInt makes; and that what Put or PutInt makes reads as a string of just its bytes.
-/
import Derived.Test.YtjnkplmcopihbaaPut
import Derived.Test.YtjnkplmcopihbaaEncDec
import Derived.Laws.BytesString
namespace Go.Proofs.Ytjnkplmcopihbaa
open Go.RowKit

/-- The string of these bytes. -/
def strOf (l : List Int) : ByteArray := l.foldl (fun r n => r.push (UInt8.ofNat n.toNat)) ByteArray.empty

theorem conv_some (w : World) (x : Addr) (len cap : Nat) (l : List Int) (hl : l.length = len) (h : ∀ j v, (cellsOf l)[j]? = some v → w.cell? (x.add j) = some v) :
    (convert 53 9 (.slice (some x) len cap)).run Try.prog w = .ok (.string (strOf l)) w := by
  rw [run_convert_bytes_string w 53 9 5 (some x) len cap Try.underlying53 Try.underlying5 Try.underlying9]
  refine run_bytesToString w x len cap l ?_
  have := run_loadCells_list (P := Try.prog) w x (cellsOf l) h
  rwa [cellsOf_length, hl] at this
theorem conv_none (w : World) (len cap : Nat) : (convert 53 9 (.slice none len cap)).run Try.prog w = .ok (.string (strOf [])) w := by
  rw [run_convert_bytes_string w 53 9 5 none len cap Try.underlying53 Try.underlying5 Try.underlying9]
  rfl
/-- A row that the call owns. -/
theorem conv_own {w : World} {base len : Nat} {v : Value} {l : List Int} (h : w.ownsRow base 5 1 v len (cellsOf l)) : (convert 53 9 v).run Try.prog w = .ok (.string (strOf l)) w := by
  obtain ⟨h1, h2⟩ := h
  rw [cellsOf_length] at h1
  rcases h2 with ⟨rfl, rfl⟩ | ⟨g, cap, cur, rfl, _, hg, hle, _, hsz, ht⟩
  · have : l = [] := List.eq_nil_of_length_eq_zero (by omega)
    subst this
    exact conv_none w 0 0
  · refine conv_some w _ len cap l (by omega) ?_
    intro j u hj
    rw [addr_add]
    rw [← ht] at hj
    have hj2 : cur.toList[j]? = some u := by
      rw [List.getElem?_take] at hj
      split at hj
      · exact hj
      · cases hj
    simp at hj2
    simp [World.cell?, hg, hj2]
/-- A row that the call owns, as a slice of bytes that another call reads. -/
theorem isBytes_own {w : World} {base len : Nat} {v : Value} {l : List Int} (h : w.ownsRow base 5 1 v len (cellsOf l)) (hb : ∀ c ∈ l, 0 ≤ c ∧ c ≤ 255) : ∃ a cap, v = .slice a len cap ∧ IsBytes w a len cap l := by
  obtain ⟨h1, h2⟩ := h
  rw [cellsOf_length] at h1
  have hr : ∀ j : Nat, 0 ≤ l[j]?.getD 0 ∧ l[j]?.getD 0 ≤ 255 := by
    intro j
    by_cases hj : j < l.length
    · simpa [hj] using hb l[j] (List.getElem_mem hj)
    · simp [Nat.not_lt.1 hj]
  rcases h2 with ⟨rfl, rfl⟩ | ⟨g, cap, cur, rfl, _, hg, hle, hm, hsz, ht⟩
  · exact ⟨none, 0, rfl, by omega, Nat.le_refl _, Nat.zero_le _, fun _ => rfl, hr, fun h => by omega⟩
  · refine ⟨some ⟨g, 0, none⟩, cap, rfl, by omega, hle, hm, (by intro h; cases h), hr, fun _ => ⟨g, 0, rfl, fun j hj => ?_⟩⟩
    have hj1 : j < l.length := by omega
    have hj2 : cur.toList[j]? = some (.int .u8 l[j]) := by
      have : (cur.toList.take (len * 1))[j]? = some (.int .u8 l[j]) := by rw [ht]; simp [cellsOf, hj1]
      rw [List.getElem?_take] at this
      split at this
      · exact this
      · cases this
    simp at hj2
    simp [World.cell?, hg, hj2, hj1]

/-- What is owned stays owned where nothing that was there turns. -/
theorem own_below {w w' : World} {B e size n : Nat} {v : Value} {xs : List Value} (h : w.ownsRow B e size v n xs) (hb : Below w.heap.size w w') : w'.ownsRow B e size v n xs :=
  h.kept (row := none) ⟨hb.os, hb.tape, hb.output, hb.size, fun k hk _ => hb.block k hk⟩ (Classical.em _)

end Go.Proofs.Ytjnkplmcopihbaa
