/-
  Plain facts on bytes, of no program: the number that a row of bytes begins with, by the document's rule, a byte at a time.
-/
import Derived.Lib.VarintBits
import Derived.Laws.BitsAllLaws
namespace Go.Proofs.Ytjnkplmcopihbaa

/-- May a number go on with c at its place i? -/
def goesOnB (i c : Int) : Bool := decide (i = 0 ∨ i < 9 ∧ c ≠ 0 ∨ i = 9 ∧ c = 1)

/-- What stands in the bytes, k of which are read and gave X: the number, how many bytes it took, the error. -/
def dec : Int → Nat → List Int → Int × Nat × Nat
  | _, k, [] => (0, k, 3)
  | X, k, c :: r => if goesOnB k c then (if c < 128 then (X + c * 2 ^ (7 * k), k + 1, 0) else dec (X + (c - 128) * 2 ^ (7 * k)) (k + 1) r) else (0, k, 4)

theorem dec_short (X : Int) (k : Nat) : dec X k [] = (0, k, 3) := rfl
theorem dec_bad (X : Int) (k : Nat) (c : Int) (r : List Int) (h : goesOnB k c = false) : dec X k (c :: r) = (0, k, 4) := by simp [dec, h]
theorem dec_last (X : Int) (k : Nat) (c : Int) (r : List Int) (h : goesOnB k c = true) (h2 : c < 128) : dec X k (c :: r) = (X + c * 2 ^ (7 * k), k + 1, 0) := by simp [dec, h, h2]
theorem dec_more (X : Int) (k : Nat) (c : Int) (r : List Int) (h : goesOnB k c = true) (h2 : 128 ≤ c) : dec X k (c :: r) = dec (X + (c - 128) * 2 ^ (7 * k)) (k + 1) r := by
  have : ¬ c < 128 := by omega
  simp [dec, h, this]

theorem goes_le (k : Nat) (c : Int) (h : goesOnB k c = true) : k ≤ 9 := by
  simp [goesOnB] at h; omega
theorem goes_more (k : Nat) (c : Int) (h : goesOnB k c = true) (h2 : 128 ≤ c) : k ≤ 8 := by
  simp [goesOnB] at h; omega
/-- The bits of one more byte, laid above those that were read. -/
theorem join (X : Int) (k : Nat) (c d : Int) (h0 : 0 ≤ X) (h1 : X < 2 ^ (7 * k)) (hd : d = c % 128) (h : goesOnB k c = true) :
    bits .or .u64 X (IntKind.u64.wrap (d * 2 ^ (7 * k))) = X + d * 2 ^ (7 * k) ∧ X + d * 2 ^ (7 * k) < 2 ^ (7 * (k + 1)) ∧ 0 ≤ X + d * 2 ^ (7 * k) ∧ X + d * 2 ^ (7 * k) < 18446744073709551616 := by
  have hk := goes_le k c h
  have h9 : k = 9 → d = 1 := by
    intro e; subst e; simp [goesOnB] at h; omega
  have hd0 : 0 ≤ d := by omega
  have hd1 : d ≤ 127 := by omega
  clear h hd
  have hcase : k = 0 ∨ k = 1 ∨ k = 2 ∨ k = 3 ∨ k = 4 ∨ k = 5 ∨ k = 6 ∨ k = 7 ∨ k = 8 ∨ k = 9 := by omega
  rcases hcase with rfl | rfl | rfl | rfl | rfl | rfl | rfl | rfl | rfl | rfl
  all_goals
    simp only [Nat.reduceMul, Nat.reduceAdd, Int.reducePow] at h1 ⊢
    rw [IntKind.wrap_u64, Int.emod_eq_of_lt (by omega) (by omega)]
  · rw [u64_orv0 X _ h0 (by omega) (by omega) (by omega) (by omega)]; omega
  · rw [u64_orv7 X _ h0 (by omega) (by omega) (by omega) (by omega)]; omega
  · rw [u64_orv14 X _ h0 (by omega) (by omega) (by omega) (by omega)]; omega
  · rw [u64_orv21 X _ h0 (by omega) (by omega) (by omega) (by omega)]; omega
  · rw [u64_orv28 X _ h0 (by omega) (by omega) (by omega) (by omega)]; omega
  · rw [u64_orv35 X _ h0 (by omega) (by omega) (by omega) (by omega)]; omega
  · rw [u64_orv42 X _ h0 (by omega) (by omega) (by omega) (by omega)]; omega
  · rw [u64_orv49 X _ h0 (by omega) (by omega) (by omega) (by omega)]; omega
  · rw [u64_orv56 X _ h0 (by omega) (by omega) (by omega) (by omega)]; omega
  · have := h9 rfl
    subst this
    rw [u64_orv63 X _ h0 (by omega) (by omega) (by omega) (by omega)]; omega
/-- What is decoded fits, and the place lies within the bytes. -/
theorem dec_bd : ∀ (r : List Int) (X : Int) (k : Nat), 0 ≤ X → X < 2 ^ (7 * k) → (∀ c ∈ r, 0 ≤ c ∧ c ≤ 255) →
    0 ≤ (dec X k r).1 ∧ (dec X k r).1 < 18446744073709551616 ∧ k ≤ (dec X k r).2.1 ∧ (dec X k r).2.1 ≤ k + r.length ∧ (dec X k r).2.2 ≤ 4 ∧ ((dec X k r).2.2 ≠ 0 → (dec X k r).1 = 0)
  | [], X, k, _, _, _ => by simp [dec]
  | c :: r, X, k, h0, h1, hc => by
    have hcb := hc c (by simp)
    by_cases hg : goesOnB k c = true
    · by_cases hl : c < 128
      · rw [dec_last X k c r hg hl]
        have j := join X k c c h0 h1 (by omega) hg
        refine ⟨j.2.2.1, j.2.2.2, by simp, by simp, by simp, by simp⟩
      · have j := join X k c (c - 128) h0 h1 (by omega) hg
        rw [dec_more X k c r hg (by omega)]
        have ih := dec_bd r (X + (c - 128) * 2 ^ (7 * k)) (k + 1) j.2.2.1 j.2.1 (fun d hd => hc d (by simp [hd]))
        simp only [List.length_cons]
        omega
    · rw [dec_bad X k c r (by simpa using hg)]
      simp
end Go.Proofs.Ytjnkplmcopihbaa
