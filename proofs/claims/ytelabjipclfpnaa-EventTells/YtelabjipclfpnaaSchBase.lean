/-
  Schemas and their fields: rows of two cells an element, the first a name; what a schema has to be; of the document's words alone.
-/
import Derived.Test.YtelabjipclfpnaaValMake
import Derived.Test.YtelabjipclfpnaaWordName
import Derived.Test.YtelabjipclfpnaaArgs
namespace Go.Proofs.Ytelabjipclfpnaa
open Go.RowKit

abbrev fldV (s : ByteArray) (k : Int) : Value := .agg #[.string s, .int .i64 k]
abbrev fldO (s : ByteArray) (k : Int) : Obj := .cells #[.string s, .int .i64 k] 52
abbrev schV (s : ByteArray) (v : Value) : Value := .agg #[.string s, v]
abbrev schO (s : ByteArray) (v : Value) : Obj := .cells #[.string s, v] 50

/-- A row of two cells an element, the first a name. -/
def Row2 (w : World) (a : Option Addr) (n : Nat) (Nm : Nat → ByteArray) (V : Nat → Value) : Prop :=
  0 < n → ∃ b off, a = some ⟨b, off, none⟩ ∧ ∀ j, j < n → (w.cell? ⟨b, off + j * 2, none⟩ = some (.string (Nm j)) ∧ w.cell? ⟨b, off + j * 2 + 1, none⟩ = some (V j)) ∧ (Nm j).size ≤ maxLen
theorem Row2.later {w w' : World} {a : Option Addr} {n : Nat} {Nm : Nat → ByteArray} {V : Nat → Value} (h : Row2 w a n Nm V) (hB : Below w.heap.size w w') : Row2 w' a n Nm V := by
  intro h0
  obtain ⟨b, off, e, hc⟩ := h h0
  exact ⟨b, off, e, fun j hj => ⟨⟨cell_later (hc j hj).1.1 hB, cell_later (hc j hj).1.2 hB⟩, (hc j hj).2⟩⟩
abbrev Flds (w : World) (a : Option Addr) (n : Nat) (Nm : Nat → ByteArray) (K : Nat → Int) : Prop := Row2 w a n Nm fun j => .int .i64 (K j)
theorem cell_new (w : World) (o : Obj) (p : Addr) (v : Value) (h : w.cell? p = some v) : (w.alloc o).cell? p = some v := cell_later h ((Below.refl _ _).alloc (Nat.le_refl _) _)

theorem bt {w w1 w2 : World} (h : Below w.heap.size w w1) (g : Below w1.heap.size w1 w2) : Below w.heap.size w w2 := h.trans (g.mono h.size)
theorem bd {w w1 : World} (h : Below w.heap.size w w1) (n : Nat) : Below w.heap.size w (w1.drewN n) := bt h ⟨rfl, rfl, rfl, Nat.le_refl _, fun _ _ => rfl⟩
/-- Strings are the same. -/
theorem same_str (s t : ByteArray) : (s.toList == t.toList) = decide (s = t) := by
  by_cases h : s = t
  · subst h; simp
  · rw [decide_eq_false h, beq_eq_false_iff_ne]
    intro he
    apply h
    rw [ByteArray.toList_eq, ByteArray.toList_eq] at he
    exact ByteArray.ext (Array.ext' he)
theorem str_yes {s t : ByteArray} (h : s = t) : (s.toList == t.toList) = true := by rw [same_str]; exact decide_eq_true h
theorem str_not {s t : ByteArray} (h : ¬ s = t) : (s.toList == t.toList) = false := by rw [same_str]; exact decide_eq_false h

/-- The first of some names that is this one, or none is. -/
theorem first_or (Nm : Nat → ByteArray) (s : ByteArray) : ∀ n, (∃ i, i < n ∧ Nm i = s ∧ ∀ j, j < i → ¬ Nm j = s) ∨ ∀ j, j < n → ¬ Nm j = s
  | 0 => .inr fun j hj => by omega
  | n + 1 => by
    rcases first_or Nm s n with ⟨i, h1, h2⟩ | h
    · exact .inl ⟨i, by omega, h2⟩
    · by_cases e : Nm n = s
      · exact .inl ⟨n, by omega, e, h⟩
      · exact .inr fun j hj => if hn : j = n then hn ▸ e else h j (by omega)

/-- A kind that a field may have. -/
def kindB (k : Int) : Bool := decide (1 ≤ k) && decide (k ≤ 3)
def rightF (s : ByteArray) (k : Int) : Bool := nameB s && kindB k
/-- Is the name among the first? -/
def seenB (Nm : Nat → ByteArray) (s : ByteArray) : Nat → Bool
  | 0 => false
  | k + 1 => seenB Nm s k || decide (Nm k = s)
/-- Is one of the first names there again? -/
def dupB (Nm : Nat → ByteArray) : Nat → Bool
  | 0 => false
  | k + 1 => dupB Nm k || seenB Nm (Nm k) k
/-- Are the first fields right? -/
def allR (Nm : Nat → ByteArray) (K : Nat → Int) : Nat → Bool
  | 0 => true
  | k + 1 => allR Nm K k && rightF (Nm k) (K k)
theorem seenB_iff (Nm : Nat → ByteArray) (s : ByteArray) : ∀ k, seenB Nm s k = true ↔ ∃ i, i < k ∧ Nm i = s
  | 0 => by simp [seenB]
  | k + 1 => by
    simp only [seenB, Bool.or_eq_true, decide_eq_true_eq, seenB_iff Nm s k]
    constructor
    · rintro (⟨i, h1, h2⟩ | h)
      · exact ⟨i, by omega, h2⟩
      · exact ⟨k, by omega, h⟩
    · rintro ⟨i, h1, h2⟩
      by_cases e : i = k
      · exact .inr (e ▸ h2)
      · exact .inl ⟨i, by omega, h2⟩
theorem dupB_not (Nm : Nat → ByteArray) : ∀ n, dupB Nm n = false → ∀ i j, i < j → j < n → ¬ Nm i = Nm j
  | 0, _, i, j, _, h => by omega
  | n + 1, h, i, j, hi, hj => by
    simp only [dupB, Bool.or_eq_false_iff] at h
    by_cases e : j = n
    · subst e
      intro he
      have := (seenB_iff Nm (Nm j) j).2 ⟨i, hi, he⟩
      rw [h.2] at this
      cases this
    · exact dupB_not Nm n h.1 i j hi (by omega)
theorem allR_at (Nm : Nat → ByteArray) (K : Nat → Int) : ∀ n, allR Nm K n = true → ∀ j, j < n → rightF (Nm j) (K j) = true
  | 0, _, j, h => by omega
  | n + 1, h, j, hj => by
    simp only [allR, Bool.and_eq_true] at h
    by_cases e : j = n
    · exact e ▸ h.2
    · exact allR_at Nm K n h.1 j (by omega)
theorem allR_not (Nm : Nat → ByteArray) (K : Nat → Int) (n j : Nat) (hj : j < n) (h : rightF (Nm j) (K j) = false) : allR Nm K n = false := by
  cases e : allR Nm K n with
  | false => rfl
  | true => have := allR_at Nm K n e j hj; rw [h] at this; cases this
/-- Check's answer. -/
def chkZ (S : ByteArray) (n : Nat) (Nm : Nat → ByteArray) (K : Nat → Int) : Int :=
  if 16 < n then 2 else if nameB S = false then 1 else if dupB Nm n = true then 1 else if allR Nm K n = true then 0 else 1
theorem chkZ_ok {S : ByteArray} {n : Nat} {Nm : Nat → ByteArray} {K : Nat → Int} (h : chkZ S n Nm K = 0) : n ≤ 16 ∧ nameB S = true ∧ dupB Nm n = false ∧ allR Nm K n = true := by
  unfold chkZ at h
  split at h
  · omega
  · split at h
    · omega
    · split at h
      · omega
      · split at h
        · rename_i h1 h2 h3 h4
          exact ⟨by omega, by simpa using h2, by simpa using h3, h4⟩
        · omega
end Go.Proofs.Ytelabjipclfpnaa
