/-
  Values as they lie in memory, one by itself and in a row; the first place of a name; of no function.
-/
import Derived.Test.YtcdehohmgfocdaaValMake
import Derived.Test.YtcdehohmgfocdaaArgs
namespace Go.Proofs.Ytcdehohmgfocdaa
open Go.RowKit

/-- A value. -/
structure Val where
  k : Int
  n : Int
  s : ByteArray
abbrev Val.v (x : Val) : Value := valV x.k x.n x.s
def val0 : Val := ⟨0, 0, ⟨#[]⟩⟩
/-- A slice of values. -/
def Vals (w : World) (a : Option Addr) (len : Nat) (V : Nat → Val) : Prop :=
  0 < len → ∃ b off, a = some ⟨b, off, none⟩ ∧ ∀ j, j < len → w.cell? ⟨b, off + j * 3, none⟩ = some (.int .i64 (V j).k) ∧ w.cell? ⟨b, off + j * 3 + 1, none⟩ = some (.int .i64 (V j).n) ∧ w.cell? ⟨b, off + j * 3 + 2, none⟩ = some (.string (V j).s)
theorem Vals.later {w w' : World} {a : Option Addr} {n : Nat} {V : Nat → Val} (h : Vals w a n V) (hB : Below w.heap.size w w') : Vals w' a n V := by
  intro h0
  obtain ⟨b, off, e, hc⟩ := h h0
  exact ⟨b, off, e, fun j hj => ⟨cell_later (hc j hj).1 hB, cell_later (hc j hj).2.1 hB, cell_later (hc j hj).2.2 hB⟩⟩
/-- The place of the first of some names that is this one. -/
def idx (Nm : Nat → ByteArray) (s : ByteArray) : Nat → Option Nat
  | 0 => none
  | n + 1 => match idx Nm s n with
    | some i => some i
    | none => if Nm n = s then some n else none
theorem idx_some (Nm : Nat → ByteArray) (s : ByteArray) : ∀ (n i : Nat), idx Nm s n = some i → i < n ∧ Nm i = s ∧ ∀ j, j < i → ¬ Nm j = s
  | 0, i, h => by simp [idx] at h
  | n + 1, i, h => by
    simp only [idx] at h
    split at h
    · rename_i j hj
      cases h
      have := idx_some Nm s n i hj
      exact ⟨by omega, this.2⟩
    · rename_i hj
      split at h
      · rename_i e
        cases h
        refine ⟨by omega, e, ?_⟩
        intro j hj' he
        have hnone : ∀ m, idx Nm s m = none → ∀ j, j < m → ¬ Nm j = s := by
          intro m
          induction m with
          | zero => intro _ j hj; omega
          | succ m ih =>
            intro hm j hj
            simp only [idx] at hm
            split at hm
            · cases hm
            · rename_i hi
              split at hm
              · cases hm
              · rename_i e2
                by_cases ej : j = m
                · exact ej ▸ e2
                · exact ih hi j (by omega)
        exact hnone n hj j hj' he
      · cases h
theorem idx_none (Nm : Nat → ByteArray) (s : ByteArray) : ∀ (n : Nat), idx Nm s n = none → ∀ j, j < n → ¬ Nm j = s
  | 0, _, j, hj => by omega
  | n + 1, h, j, hj => by
    simp only [idx] at h
    split at h
    · cases h
    · rename_i hi
      split at h
      · cases h
      · rename_i e2
        by_cases ej : j = n
        · exact ej ▸ e2
        · exact idx_none Nm s n hi j (by omega)
theorem idx_at (Nm : Nat → ByteArray) (s : ByteArray) (n i : Nat) (hi : i < n) (he : Nm i = s) (hl : ∀ j, j < i → ¬ Nm j = s) : idx Nm s n = some i := by
  cases e : idx Nm s n with
  | none => exact absurd he (idx_none Nm s n e i hi)
  | some k =>
    obtain ⟨_, h2, h3⟩ := idx_some Nm s n k e
    rcases Nat.lt_trichotomy k i with h | h | h
    · exact absurd h2 (hl k h)
    · rw [h]
    · exact absurd he (h3 i h)
/-- Are two values the same? -/
def eqV (x y : Val) : Bool := decide (x.k = y.k) && (decide (x.n = y.n) && decide (x.s = y.s))
theorem eqV_self (x : Val) : eqV x x = true := by simp [eqV]
/-- Are the first values the same? -/
def eqVs (V U : Nat → Val) : Nat → Bool
  | 0 => true
  | k + 1 => eqVs V U k && eqV (V k) (U k)
theorem eqVs_not (V U : Nat → Val) : ∀ (n j : Nat), j < n → eqV (V j) (U j) = false → eqVs V U n = false
  | 0, j, h, _ => by omega
  | n + 1, j, hj, h => by
    simp only [eqVs]
    by_cases e : j = n
    · subst e; rw [h, Bool.and_false]
    · rw [eqVs_not V U n j (by omega) h, Bool.false_and]
theorem eqVs_self (V : Nat → Val) : ∀ n, eqVs V V n = true
  | 0 => rfl
  | n + 1 => by simp only [eqVs]; rw [eqVs_self V n, eqV_self]; rfl
end Go.Proofs.Ytcdehohmgfocdaa
