/-
  Plain facts on bytes, of no program: the bytes that a number is put as, as many as 'sz' says; and the number of these bytes is the number.
-/
import Derived.Test.YtjnkplmcopihbaaNum
import Derived.Test.YtjnkplmcopihbaaDec
namespace Go.Proofs.Ytjnkplmcopihbaa

/-- P1.1's bytes of n, as far as f of them. -/
def enc : Nat → Nat → List Int
  | 0, _ => []
  | f + 1, n => if n < 128 then [(n : Int)] else ((n % 128 + 128 : Nat) : Int) :: enc f (n / 128)

theorem enc_last (f n : Nat) (h : n < 128) : enc (f + 1) n = [(n : Int)] := by simp [enc, h]
theorem enc_more (f n : Nat) (h : 128 ≤ n) : enc (f + 1) n = ((n % 128 + 128 : Nat) : Int) :: enc f (n / 128) := by
  have : ¬ n < 128 := by omega
  simp [enc, this]
theorem enc_length (f : Nat) : ∀ n, (enc f n).length = sz f n := by
  induction f with
  | zero => intro n; rfl
  | succ f ih =>
    intro n
    by_cases h : n < 128
    · simp [enc, sz, h]
    · simp [enc, sz, h, ih]; omega
theorem enc_bd (f : Nat) : ∀ n, ∀ c ∈ enc f n, 0 ≤ c ∧ c ≤ 255 := by
  induction f with
  | zero => intro n c h; simp [enc] at h
  | succ f ih =>
    intro n c h
    by_cases hn : n < 128
    · rw [enc_last f n hn] at h; simp at h; omega
    · rw [enc_more f n (by omega)] at h
      simp only [List.mem_cons] at h
      rcases h with rfl | h
      · omega
      · exact ih _ c h
theorem pow_drop (f m : Nat) (h : m < 128 ^ (f + 1)) (h2 : 128 ≤ m) : ∃ f', f = f' + 1 ∧ m / 128 < 128 ^ (f' + 1) := by
  cases f with
  | zero => simp at h; omega
  | succ f' =>
    refine ⟨f', rfl, ?_⟩
    rw [Nat.pow_succ] at h
    exact Nat.div_lt_of_lt_mul (by rw [Nat.mul_comm]; exact h)
end Go.Proofs.Ytjnkplmcopihbaa
