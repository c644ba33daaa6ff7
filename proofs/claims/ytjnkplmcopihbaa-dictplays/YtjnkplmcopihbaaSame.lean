/-
  Small facts that many texts share: texts that are the same, names as keys, what stays; of no function.
-/
import Derived.Test.YtjnkplmcopihbaaTxt
import Derived.Maps.OwnSet
namespace Go.Proofs.Ytjnkplmcopihbaa
open Go.RowKit Go.Maps Go.WideMaps

/-- Strings are the same. -/
theorem same_str (s t : ByteArray) : (s.toList == t.toList) = decide (s = t) := by
  by_cases h : s = t
  · subst h; simp
  · rw [decide_eq_false h, beq_eq_false_iff_ne]
    intro he
    apply h
    rw [ByteArray.toList_eq, ByteArray.toList_eq] at he
    exact ByteArray.ext (Array.ext' he)
theorem str_yes {s t : ByteArray} (h : s = t) : (s.toList == t.toList) = true := by rw [same_str]; exact decide_eq_true h
theorem str_not {s t : ByteArray} (h : ¬ s = t) : (s.toList == t.toList) = false := by rw [same_str]; exact decide_eq_false h
theorem str_law : Keyed Try.prog 9 := string_keyed Try.underlying9
/-- A name as a key. -/
abbrev keyS (s : ByteArray) : Lit := .string s.data.toList
theorem keyS_ne {s t : ByteArray} (h : ¬ s = t) : keyS s ≠ keyS t := by
  intro e
  injection e with e
  exact h (ByteArray.ext (Array.ext' e))
/-- Below, on and on. -/
theorem bd {w w1 : World} (h : Below w.heap.size w w1) (n : Nat) : Below w.heap.size w (w1.drewN n) := h.trans ⟨rfl, rfl, rfl, Nat.le_refl _, fun _ _ => rfl⟩
end Go.Proofs.Ytjnkplmcopihbaa
