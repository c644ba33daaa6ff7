/-
  Rows of texts as lists; of no function.
-/
import Derived.Test.YtjnkplmcopihbaaTxs
import Derived.Test.YtjnkplmcopihbaaSame
namespace Go.Proofs.Ytjnkplmcopihbaa
open Go.RowKit

theorem infoS : (Try.prog.info? 9).map (fun i => (i.zero, i.size, i.bytes)) = some (some (.string ⟨#[]⟩), 1, 16) := by kernel_rfl
/-- Texts as cells. -/
def cellsS (l : List ByteArray) : List Value := l.map Value.string
def lstS (S : Nat → ByteArray) : Nat → List ByteArray
  | 0 => []
  | n + 1 => lstS S n ++ [S n]
theorem lstS_len (S : Nat → ByteArray) : ∀ n, (lstS S n).length = n
  | 0 => rfl
  | n + 1 => by simp [lstS, lstS_len S n]
theorem lstS_mem (S : Nat → ByteArray) (t : ByteArray) : ∀ n, t ∈ lstS S n ↔ ∃ j, j < n ∧ S j = t
  | 0 => by simp [lstS]
  | n + 1 => by
    simp only [lstS, List.mem_append, lstS_mem S t n, List.mem_singleton]
    constructor
    · rintro (⟨j, hj, e⟩ | e)
      · exact ⟨j, by omega, e⟩
      · exact ⟨n, by omega, e.symm⟩
    · rintro ⟨j, hj, e⟩
      by_cases h : j < n
      · exact .inl ⟨j, h, e⟩
      · obtain rfl : j = n := by omega
        exact .inr e.symm
/-- The texts of a list by index. -/
def atS (l : List ByteArray) (j : Nat) : ByteArray := l.getD j ⟨#[]⟩
theorem lstS_take (l : List ByteArray) : ∀ n, n ≤ l.length → lstS (atS l) n = l.take n
  | 0, _ => by simp [lstS]
  | n + 1, h => by
    have hn : n < l.length := by omega
    rw [lstS, lstS_take l n (by omega), List.take_add_one]
    simp [atS, hn]
theorem lstS_all (l : List ByteArray) : lstS (atS l) l.length = l := by rw [lstS_take l _ (Nat.le_refl _), List.take_length]
theorem own_txs {w : World} {base n : Nat} {v : Value} {l : List ByteArray} (h : w.ownsRow base 9 1 v n (cellsS l)) : ∃ a cap, v = .slice a n cap ∧ Txs w a n (atS l) ∧ l.length = n ∧ n ≤ cap := by
  obtain ⟨h1, h2⟩ := h
  have hl : l.length = n := by simpa [cellsS] using h1
  rcases h2 with ⟨rfl, rfl⟩ | ⟨g, cap, cur, rfl, _, hg, hle, hm, hsz, ht⟩
  · exact ⟨none, 0, rfl, fun h => by omega, hl, Nat.le_refl _⟩
  · refine ⟨some ⟨g, 0, none⟩, cap, rfl, fun _ => ⟨g, 0, rfl, fun j hj => ?_⟩, hl, hle⟩
    have hj1 : j < l.length := by omega
    have hj2 : cur.toList[j]? = some (.string l[j]) := by
      have : (cur.toList.take (n * 1))[j]? = some (.string l[j]) := by rw [ht]; simp [cellsS, hj1]
      rw [List.getElem?_take] at this
      split at this
      · exact this
      · cases this
    simp at hj2
    simp [World.cell?, hg, hj2, hj1, atS]
/-- One text more behind a row that the call owns. -/
theorem push_str {w : World} {base n : Nat} {v : Value} {l : List ByteArray} (h : w.ownsRow base 9 1 v n (cellsS l)) (hb : base ≤ w.heap.size) (hn : n ≤ 2097152) (s : ByteArray) :
    ∃ v' w', (Builtin.append_ #[22, 22] 22 #[v, .slice (some ⟨w.heap.size, 0, none⟩) 1 1]).run Try.prog (w.alloc (.cells #[.string s] 9)) = .ok v' w' ∧ w'.ownsRow base 9 1 v' (n + 1) (cellsS (l ++ [s])) ∧ Below base w w' := by
  obtain ⟨i0, hi, hz0, hz1, hz2⟩ := info_parts infoS
  obtain ⟨v', w', hrun, hown', hgrow, _⟩ := run_append_own (P := Try.prog) (w := w.alloc (.cells #[.string s] 9)) base 22 22 9 i0 (.string ⟨#[]⟩) 1 16 Try.underlying22 hi hz0 hz1 hz2 rfl (by decide) v _ _ (h.alloc _) ⟨w.heap.size, 0, none⟩ 1 1 [.string s] rfl
    (cell_one_new w (.string s) 9) (by simp [Value.oneCell']) (by unfold maxLen; omega) (by omega) (by simp; omega)
  refine ⟨v', w', hrun, ?_, ((Below.refl base w).alloc hb _).grown hgrow (by simp; omega) fun k e => (h.lt k e).1⟩
  have e : cellsS (l ++ [s]) = cellsS l ++ [.string s] := by simp [cellsS]
  rw [e]
  exact hown'
end Go.Proofs.Ytjnkplmcopihbaa
