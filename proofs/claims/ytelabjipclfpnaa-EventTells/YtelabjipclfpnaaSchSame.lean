/-
  schema.Same (P7.1): all fields?
-/
import Derived.Test.YtelabjipclfpnaaSchBook
import Derived.BigQuiet
namespace Go.Proofs.Ytelabjipclfpnaa
open Go.RowKit

/-- Are the first fields the same? -/
def eqTo (Nm : Nat → ByteArray) (K : Nat → Int) (Nm' : Nat → ByteArray) (K' : Nat → Int) : Nat → Bool
  | 0 => true
  | k + 1 => eqTo Nm K Nm' K' k && (decide (Nm k = Nm' k) && decide (K k = K' k))
theorem eqTo_at (Nm : Nat → ByteArray) (K : Nat → Int) (Nm' : Nat → ByteArray) (K' : Nat → Int) : ∀ n, eqTo Nm K Nm' K' n = true ↔ ∀ j, j < n → Nm j = Nm' j ∧ K j = K' j
  | 0 => by simp [eqTo]
  | n + 1 => by
    simp only [eqTo, Bool.and_eq_true, decide_eq_true_eq, eqTo_at Nm K Nm' K' n]
    constructor
    · rintro ⟨h1, h2⟩ j hj
      by_cases e : j = n
      · exact e ▸ h2
      · exact h1 j (by omega)
    · exact fun h => ⟨fun j hj => h j (by omega), h n (by omega)⟩
theorem eqTo_not {Nm : Nat → ByteArray} {K : Nat → Int} {Nm' : Nat → ByteArray} {K' : Nat → Int} {n : Nat} (k : Nat) (hk : k < n) (h : ¬ (Nm k = Nm' k ∧ K k = K' k)) : eqTo Nm K Nm' K' n = false := by
  cases e : eqTo Nm K Nm' K' n with
  | false => rfl
  | true => exact absurd ((eqTo_at Nm K Nm' K' n).1 e k hk) h
/-- Same's answer. -/
def sameB (S : ByteArray) (n : Nat) (Nm : Nat → ByteArray) (K : Nat → Int) (S' : ByteArray) (n' : Nat) (Nm' : Nat → ByteArray) (K' : Nat → Int) : Bool :=
  decide (S = S') && (decide (n = n') && eqTo Nm K Nm' K' n)

end Go.Proofs.Ytelabjipclfpnaa
