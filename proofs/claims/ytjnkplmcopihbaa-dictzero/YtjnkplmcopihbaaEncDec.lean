/-
  Plain facts on bytes, of no program: what is put is got (P1.3), and bytes that are a number are just those that are put of it.
-/
import Derived.Test.YtjnkplmcopihbaaEnc
namespace Go.Proofs.Ytjnkplmcopihbaa

theorem pow_next (k : Nat) : (2 : Int) ^ (7 * (k + 1)) = 128 * 2 ^ (7 * k) := by
  rw [Nat.mul_add, Int.pow_add, Int.mul_comm]; rfl
theorem pow_pos7 (k : Nat) : (0 : Int) < 2 ^ (7 * k) := Int.pow_pos (by decide)

theorem nine_le (k m : Nat) (hm : (m : Int) * 2 ^ (7 * k) < 18446744073709551616) (e : k = 9) : m ≤ 1 := by
  subst e
  simp only [Nat.reduceMul, Int.reducePow] at hm
  omega
theorem dec_enc_last (f k m : Nat) (X : Int) (r : List Int) (hk9 : k ≤ 9) (hk : k = 0 ∨ 1 ≤ m) (h9 : k = 9 → m ≤ 1) (hl : m < 128) :
    dec X k (enc (f + 1) m ++ r) = (X + m * 2 ^ (7 * k), k + sz (f + 1) m, 0) := by
  have hg : goesOnB k (m : Int) = true := by
    simp [goesOnB]; omega
  rw [enc_last f m hl, List.singleton_append, dec_last X k m r hg (by omega)]
  simp [sz, hl]
theorem less_next (k m : Nat) (hm : (m : Int) * 2 ^ (7 * k) < 18446744073709551616) : ((m / 128 : Nat) : Int) * 2 ^ (7 * (k + 1)) < 18446744073709551616 := by
  have hp := pow_pos7 k
  rw [pow_next, ← Int.mul_assoc]
  have h1 : ((m / 128 : Nat) : Int) * 128 ≤ (m : Int) := by omega
  have h2 := Int.mul_le_mul_of_nonneg_right h1 (Int.le_of_lt hp)
  exact Int.lt_of_le_of_lt h2 hm
theorem sum_next (k m : Nat) (X : Int) : X + (((m % 128 + 128 : Nat) : Int) - 128) * 2 ^ (7 * k) + ((m / 128 : Nat) : Int) * 2 ^ (7 * (k + 1)) = X + (m : Int) * 2 ^ (7 * k) := by
  have e1 : ((m % 128 + 128 : Nat) : Int) - 128 = ((m % 128 : Nat) : Int) := by omega
  have e2 : (m : Int) = ((m % 128 : Nat) : Int) + ((m / 128 : Nat) : Int) * 128 := by omega
  rw [e1, pow_next]
  conv => rhs; rw [e2]
  rw [Int.add_mul, Int.mul_assoc ((m / 128 : Nat) : Int) 128, Int.add_assoc]
/-- What is put is got, whatever stands behind. -/
theorem dec_enc (f : Nat) : ∀ (k m : Nat) (X : Int) (r : List Int), k + f = 9 → (k = 0 ∨ 1 ≤ m) → (m : Int) * 2 ^ (7 * k) < 18446744073709551616 →
    dec X k (enc (f + 1) m ++ r) = (X + m * 2 ^ (7 * k), k + sz (f + 1) m, 0) := by
  induction f with
  | zero =>
    intro k m X r hkf hk hm
    have h9 := nine_le k m hm
    exact dec_enc_last 0 k m X r (by omega) hk h9 (by omega)
  | succ f ih =>
    intro k m X r hkf hk hm
    have h9 := nine_le k m hm
    by_cases hl : m < 128
    · exact dec_enc_last (f + 1) k m X r (by omega) hk h9 hl
    · have hg : goesOnB k ((m % 128 + 128 : Nat) : Int) = true := by
        simp [goesOnB]; omega
      have hs1 : sz (f + 1 + 1) m = 1 + sz (f + 1) (m / 128) := by rw [show sz (f + 1 + 1) m = if m < 128 then 1 else 1 + sz (f + 1) (m / 128) from rfl, if_neg hl]
      rw [enc_more (f + 1) m (by omega), List.cons_append, dec_more X k _ _ hg (by omega), ih (k + 1) (m / 128) _ r (by omega) (by omega) (less_next k m hm), hs1, sum_next]
      refine Prod.ext rfl (Prod.ext ?_ rfl)
      dsimp only
      omega

theorem dec_put (n : Nat) (r : List Int) (h : n < 18446744073709551616) : dec 0 0 (enc 10 n ++ r) = ((n : Int), sz 10 n, 0) := by
  have := dec_enc 9 0 n 0 r rfl (.inl rfl) (by simp; omega)
  simpa using this

/-- Bytes that are a number are those that are put of it. -/
theorem enc_dec : ∀ (r : List Int) (X : Int) (k : Nat), k ≤ 9 → (∀ c ∈ r, 0 ≤ c ∧ c ≤ 255) → (dec X k r).2.2 = 0 →
    ∃ m : Nat, (dec X k r).1 = X + m * 2 ^ (7 * k) ∧ k < (dec X k r).2.1 ∧ r.take ((dec X k r).2.1 - k) = enc (10 - k) m ∧ (k = 0 ∨ 1 ≤ m)
  | [], X, k, _, _, h => by simp [dec] at h
  | c :: r, X, k, hk, hc, h => by
    have hcb := hc c (by simp)
    by_cases hg : goesOnB k c = true
    · by_cases hl : c < 128
      · rw [dec_last X k c r hg hl]
        refine ⟨c.toNat, ?_, by simp, ?_, ?_⟩
        · dsimp only; rw [Int.toNat_of_nonneg hcb.1]
        · have e : 10 - k = (9 - k) + 1 := by omega
          rw [e, enc_last _ _ (by omega)]
          simp
          omega
        · simp [goesOnB] at hg; omega
      · rw [dec_more X k c r hg (by omega)] at h ⊢
        have hk8 := goes_more k c hg (by omega)
        obtain ⟨m, e1, e2, e3, e4⟩ := enc_dec r (X + (c - 128) * 2 ^ (7 * k)) (k + 1) (by omega) (fun d hd => hc d (by simp [hd])) h
        refine ⟨(c - 128).toNat + 128 * m, ?_, by omega, ?_, by omega⟩
        · rw [e1, pow_next]
          have h1 : (((c - 128).toNat + 128 * m : Nat) : Int) = (c - 128) + (m : Int) * 128 := by omega
          rw [h1, Int.add_mul, Int.mul_assoc (m : Int) 128]
          omega
        · have e : 10 - k = (10 - (k + 1)) + 1 := by omega
          rw [e, enc_more _ _ (by omega)]
          have t : (dec (X + (c - 128) * 2 ^ (7 * k)) (k + 1) r).2.1 - k = ((dec (X + (c - 128) * 2 ^ (7 * k)) (k + 1) r).2.1 - (k + 1)) + 1 := by omega
          rw [t, List.take_succ_cons, e3]
          have d1 : ((c - 128).toNat + 128 * m) / 128 = m := by omega
          have d2 : (((((c - 128).toNat + 128 * m) % 128 + 128 : Nat)) : Int) = c := by omega
          rw [d1, d2]
    · rw [dec_bad X k c r (by simpa using hg)] at h
      simp at h
end Go.Proofs.Ytjnkplmcopihbaa
