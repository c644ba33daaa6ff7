/-
  Plain facts on numbers, of no program: how many bytes of seven bits a number has, and that this is read off its length in bits.
-/
import Derived.Lib.BitFns
namespace Go.Proofs.Ytjnkplmcopihbaa

/-- How many bytes of seven bits n has (one for 0), as far as f of them. -/
def sz : Nat → Nat → Nat
  | 0, _ => 0
  | f + 1, n => if n < 128 then 1 else 1 + sz f (n / 128)

theorem sz_pos (f n : Nat) : 1 ≤ sz (f + 1) n := by
  unfold sz; split <;> omega
theorem sz_le (f n : Nat) : sz f n ≤ f := by
  induction f generalizing n with
  | zero => simp [sz]
  | succ f ih => unfold sz; split; omega; have := ih (n / 128); omega
theorem sz_mono (f : Nat) : ∀ n m : Nat, n ≤ m → sz f n ≤ sz f m := by
  induction f with
  | zero => intro n m _; simp [sz]
  | succ f ih =>
    intro n m h
    have := ih (n / 128) (m / 128) (Nat.div_le_div_right h)
    by_cases hn : n < 128
    · by_cases hm : m < 128 <;> simp [sz, hn, hm]
    · have hm : ¬ m < 128 := by omega
      simp [sz, hn, hm]; omega

theorem bit_one : Lib.bitLen 1 = 1 := by decide +kernel
theorem bit_zero : Lib.bitLen 0 = 0 := by decide +kernel
/-- The odd number above n's half has one bit more than that half. -/
theorem bit_odd (n : Nat) (h : n < 18446744073709551616) : Lib.bitLen (2 * (n / 2) + 1) = 1 + Lib.bitLen (n / 2) := by
  rw [Lib.bitLen_half _ (by omega) (by omega)]
  congr 2; omega
theorem half_shift (n : Nat) (h : n < 18446744073709551616) (h2 : 128 ≤ n) : Lib.bitLen (n / 2) = 7 + Lib.bitLen (n / 128 / 2) := by
  by_cases hb : 256 ≤ n
  · have e := Lib.bitLen_shift 7 (n / 2) (by omega) (by omega)
    rw [show n / 2 / 2 ^ 7 = n / 128 / 2 by omega] at e
    exact e
  · have e := Lib.bitLen_shift 6 (n / 2) (by omega) (by omega)
    rw [show n / 2 / 2 ^ 6 = 1 by omega, bit_one] at e
    rw [show n / 128 / 2 = 0 by omega, bit_zero]
    exact e
/-- The bytes counted, and the bits counted. -/
theorem sz_bits (f : Nat) : ∀ n : Nat, n < 18446744073709551616 → n < 128 ^ (f + 1) → sz (f + 1) n = 1 + Lib.bitLen (n / 2) / 7 := by
  induction f with
  | zero =>
    intro n h hf
    have hf' : n < 128 := by simpa using hf
    have := Lib.bitLen_le (n / 2) 6 (by omega) (by omega)
    simp [sz, hf']; omega
  | succ f ih =>
    intro n h hf
    by_cases hn : n < 128
    · have := Lib.bitLen_le (n / 2) 6 (by omega) (by omega)
      simp only [sz, hn, if_true]; omega
    · have hd : n / 128 < 128 ^ (f + 1) := by
        rw [Nat.pow_succ] at hf
        exact Nat.div_lt_of_lt_mul (by rw [Nat.mul_comm]; exact hf)
      have e := ih (n / 128) (by omega) hd
      have s := half_shift n h (by omega)
      rw [show sz (f + 1 + 1) n = if n < 128 then 1 else 1 + sz (f + 1) (n / 128) from rfl, if_neg hn, e, s]
      omega
theorem sz_ten (n : Nat) (h : n < 18446744073709551616) : sz 10 n = 1 + Lib.bitLen (n / 2) / 7 :=
  sz_bits 9 n h (Nat.lt_of_lt_of_le h (by decide))
end Go.Proofs.Ytjnkplmcopihbaa
