/-
  A burst is found, of no program: bits turned, all within 32 side by side behind a frame's length, change its sum; bits of its length turned make no frame of the same bytes.
-/
import Derived.Test.YtakjilbbhodiiaaFrameBackWalk
namespace Go.Proofs.Ytakjilbbhodiiaa

/-! ### The sum is linear, and loses nothing -/
theorem step_eq (s : Nat) (b : Bool) : step s b = s / 2 ^^^ (if ((s % 2 == 1) != b) = true then 3988292384 else 0) := by
  unfold step
  split
  · rfl
  · rw [Nat.xor_zero]
theorem odd_xor (s t : Nat) : ((s ^^^ t) % 2 == 1) = ((s % 2 == 1) != (t % 2 == 1)) := by
  have h := Nat.xor_mod_two_eq_one (a := s) (b := t)
  rcases Nat.mod_two_eq_zero_or_one s with h1 | h1 <;> rcases Nat.mod_two_eq_zero_or_one t with h2 | h2 <;> rcases Nat.mod_two_eq_zero_or_one (s ^^^ t) with h3 | h3 <;> rw [h1, h2, h3] at h ⊢ <;> simp_all
theorem xor_mid (x y p q : Nat) : x ^^^ y ^^^ (p ^^^ q) = x ^^^ p ^^^ (y ^^^ q) := by
  rw [Nat.xor_assoc, Nat.xor_assoc, ← Nat.xor_assoc y p q, Nat.xor_comm y p, Nat.xor_assoc p y q]
theorem step_xor (s t : Nat) (b c : Bool) : step (s ^^^ t) (b != c) = step s b ^^^ step t c := by
  rw [step_eq, step_eq, step_eq, odd_xor, Nat.xor_div_two]
  rw [xor_mid (s / 2) _ (t / 2)]
  congr 1
  cases (s % 2 == 1) <;> cases (t % 2 == 1) <;> cases b <;> cases c <;> decide
/-- Two rows of bits, held against each other. -/
def xorL (l m : List Bool) : List Bool := List.zipWith (fun b c => b != c) l m
theorem run_xor : ∀ (l m : List Bool) (s t : Nat), l.length = m.length → run (s ^^^ t) (xorL l m) = run s l ^^^ run t m
  | [], [], s, t, _ => rfl
  | b :: l, c :: m, s, t, h => by
    show run (step (s ^^^ t) (b != c)) (xorL l m) = run (step s b) l ^^^ run (step t c) m
    rw [step_xor]
    exact run_xor l m _ _ (by simpa using h)
  | [], _ :: _, _, _, h => by simp at h
  | _ :: _, [], _, _, h => by simp at h
theorem step_zero {s : Nat} (hs : s < 4294967296) (h : step s false = 0) : s = 0 := by
  unfold step at h
  split at h
  · have e := xor_twice (s / 2) 3988292384
    rw [h, Nat.zero_xor] at e
    omega
  · rename_i hb
    have : ¬ s % 2 = 1 := by simpa using hb
    omega
/-- Nothing but zeros: what is not 0 is not lost. -/
theorem run_zeros (m : Nat) : ∀ s : Nat, s < 4294967296 → run s (List.replicate m false) = 0 → s = 0 := by
  induction m with
  | zero => intro s _ h; exact h
  | succ m ih =>
    intro s hs h
    rw [List.replicate_succ] at h
    exact step_zero hs (ih _ (step_lt _ _ hs) h)
theorem run_nothing (m : Nat) : run 0 (List.replicate m false) = 0 := by
  induction m with
  | zero => rfl
  | succ m ih => rw [List.replicate_succ]; exact ih
/-- The number of bits, the lowest first. -/
def num : List Bool → Nat
  | [] => 0
  | b :: l => (if b = true then 1 else 0) + 2 * num l
theorem num_lt : ∀ l : List Bool, num l < 2 ^ l.length
  | [] => by simp [num]
  | b :: l => by
    have := num_lt l
    simp only [num, List.length_cons, Nat.pow_succ]
    split <;> omega
theorem num_zero : ∀ l : List Bool, num l = 0 → ∀ b ∈ l, b = false
  | [], _, _, h => by simp at h
  | b :: l, h0, c, hc => by
    simp only [num] at h0
    rcases List.mem_cons.1 hc with rfl | hc
    · cases c with
      | false => rfl
      | true => simp at h0
    · exact num_zero l (by omega) c hc
/-- A register that is fed its own bits comes to nothing. -/
theorem run_own : ∀ l : List Bool, run (num l) l = 0
  | [] => rfl
  | b :: l => by
    show run (step (num (b :: l)) b) l = 0
    have : step (num (b :: l)) b = num l := by
      show step ((if b = true then 1 else 0) + 2 * num l) b = num l
      unfold step
      cases b with
      | false =>
        rw [if_neg (by simp)]
        simp
      | true =>
        rw [if_neg (by simp)]
        simp
        omega
    rw [this]
    exact run_own l
theorem xorL_zeros : ∀ l : List Bool, xorL l (List.replicate l.length false) = l
  | [] => rfl
  | b :: l => by
    show (b != false) :: xorL l (List.replicate l.length false) = b :: l
    rw [xorL_zeros l]
    simp
/-- What a register that holds 0 is made by bits. -/
theorem run_bits (l : List Bool) : run 0 l = run (num l) (List.replicate l.length false) := by
  have h := run_xor l (List.replicate l.length false) (num l) (num l) (by simp)
  rw [Nat.xor_self, xorL_zeros, run_own, Nat.zero_xor] at h
  exact h
/-- No more than 32 bits, one of them turned: it shows. -/
theorem run_burst (l : List Bool) (hl : l.length ≤ 32) (h : run 0 l = 0) : ∀ b ∈ l, b = false := by
  rw [run_bits] at h
  refine num_zero l (run_zeros _ _ ?_ h)
  have h1 := num_lt l
  have h2 : 2 ^ l.length ≤ 2 ^ 32 := Nat.pow_le_pow_right (by omega) hl
  omega
/-- Zeros, a burst, zeros. -/
theorem run_spoilt (p r : Nat) (l : List Bool) (hl : l.length ≤ 32) (h : run 0 (List.replicate p false ++ (l ++ List.replicate r false)) = 0) : ∀ b ∈ l, b = false := by
  rw [run_append, run_append, run_nothing] at h
  exact run_burst l hl (run_zeros r _ (run_lt _ _ (by omega)) h)

/-! ### What a frame's register comes to -/
theorem num_append : ∀ l m : List Bool, num (l ++ m) = num l + 2 ^ l.length * num m
  | [], m => by simp [num]
  | b :: l, m => by
    have := num_append l m
    simp only [List.cons_append, num, List.length_cons, Nat.pow_succ, this]
    rw [Nat.mul_add, Nat.mul_comm (2 ^ l.length) 2, Nat.mul_assoc]
    omega
theorem num_byte : ∀ c : Nat, c < 256 → num (bitsOf [(c : Int)]) = c := by decide +kernel
theorem bits_length (l : List Int) : (bitsOf l).length = 8 * l.length := bitsTo_length _ _
theorem num_le4 (s : Nat) (h : s < 4294967296) : num (bitsOf (le4 s)) = s := by
  have e : le4 s = [((s % 256 : Nat) : Int)] ++ ([((s / 256 % 256 : Nat) : Int)] ++ ([((s / 65536 % 256 : Nat) : Int)] ++ [((s / 16777216 % 256 : Nat) : Int)])) := rfl
  rw [e, bitsOf_append, bitsOf_append, bitsOf_append, num_append, num_append, num_append, num_byte _ (by omega), num_byte _ (by omega), num_byte _ (by omega), num_byte _ (by omega)]
  simp only [bits_length, List.length_cons, List.length_nil]
  omega
/-- What the register of every frame comes to. -/
def restN : Nat := run 4294967295 (List.replicate 32 false)
theorem feed_sum (S : Nat) (hS : S < 4294967296) : feed S (le4 (S ^^^ 4294967295)) = restN := by
  unfold feed restN
  have hl : (bitsOf (le4 (S ^^^ 4294967295))).length = 32 := by rw [bits_length]; rfl
  have h := run_xor (bitsOf (le4 (S ^^^ 4294967295))) (List.replicate 32 false) (S ^^^ 4294967295) 4294967295 (by rw [hl]; simp)
  rw [xor_twice] at h
  have hz := xorL_zeros (bitsOf (le4 (S ^^^ 4294967295)))
  rw [hl] at hz
  have ho := run_own (bitsOf (le4 (S ^^^ 4294967295)))
  rw [num_le4 _ (xor_ones_lt S hS)] at ho
  rw [hz, ho, Nat.zero_xor] at h
  exact h
/-- A row of bytes whose last four are the sum of the others. -/
theorem feed_frame (x : List Int) : feed 4294967295 (x ++ le4 (moreN 0 x)) = restN := by
  rw [feed_append]
  have : moreN 0 x = feed 4294967295 x ^^^ 4294967295 := by
    unfold moreN
    rw [Nat.zero_xor]
  rw [this]
  exact feed_sum _ (feed_lt _ _ (by omega))

/-! ### Bits turned -/
/-- The bit at place j is turned. -/
def flip1 (l : List Int) (j : Nat) : List Int := l.set (j / 8) (((l[j / 8]?.getD 0).toNat ^^^ 2 ^ (j % 8) : Nat) : Int)
/-- The first i bits of B, from place k on, are turned. -/
def flipTo (l : List Int) (k B : Nat) : Nat → List Int
  | 0 => l
  | i + 1 => if B.testBit i = true then flip1 (flipTo l k B i) (k + i) else flipTo l k B i
def someTo (B : Nat) : Nat → Bool
  | 0 => false
  | i + 1 => someTo B i || B.testBit i
def lengthTo (k B m : Nat) : Nat → Bool
  | 0 => false
  | i + 1 => lengthTo k B m i || (B.testBit i && decide ((k + i) / 8 < m))
theorem flip1_length (l : List Int) (j : Nat) : (flip1 l j).length = l.length := List.length_set
theorem flipTo_length (l : List Int) (k B : Nat) : ∀ i, (flipTo l k B i).length = l.length
  | 0 => rfl
  | i + 1 => by
    rw [flipTo]
    split
    · rw [flip1_length, flipTo_length l k B i]
    · exact flipTo_length l k B i
theorem flip1_bd (l : List Int) (j : Nat) (h : ∀ c ∈ l, 0 ≤ c ∧ c ≤ 255) : ∀ c ∈ flip1 l j, 0 ≤ c ∧ c ≤ 255 := by
  intro c hc
  unfold flip1 at hc
  rcases List.mem_or_eq_of_mem_set hc with hc | rfl
  · exact h c hc
  · have hg : (l[j / 8]?.getD 0).toNat < 256 := by
      by_cases hj : j / 8 < l.length
      · have := h l[j / 8] (List.getElem_mem hj)
        simp [hj]
        omega
      · simp [Nat.not_lt.1 hj]
    have h2 : 2 ^ (j % 8) < 256 := Nat.pow_lt_pow_right (by omega) (show j % 8 < 8 by omega)
    have := Nat.xor_lt_two_pow (n := 8) hg h2
    omega
theorem flipTo_bd (l : List Int) (k B : Nat) (h : ∀ c ∈ l, 0 ≤ c ∧ c ≤ 255) : ∀ i, ∀ c ∈ flipTo l k B i, 0 ≤ c ∧ c ≤ 255
  | 0 => h
  | i + 1 => by
    rw [flipTo]
    split
    · exact flip1_bd _ _ (flipTo_bd l k B h i)
    · exact flipTo_bd l k B h i
theorem bitZ_test (l : List Int) (j : Nat) : bitZ l j = (l[j / 8]?.getD 0).toNat.testBit (j % 8) := by
  unfold bitZ
  rw [Nat.testBit_eq_decide_div_mod_eq]
  rfl
theorem flip1_bit (l : List Int) (j p : Nat) (hj : j < 8 * l.length) : bitZ (flip1 l j) p = (bitZ l p != decide (p = j)) := by
  rw [bitZ_test, bitZ_test]
  unfold flip1
  by_cases e : p / 8 = j / 8
  · rw [e, List.getElem?_set_self (by omega), Option.getD_some, Int.toNat_natCast, Nat.testBit_xor, Nat.testBit_two_pow]
    congr 1
    by_cases h : p = j
    · subst h; simp
    · have : ¬ j % 8 = p % 8 := by omega
      simp [h, this]
  · rw [List.getElem?_set_ne (fun h => e h.symm)]
    have : ¬ p = j := fun h => e (by rw [h])
    simp [this]
theorem flipTo_bit (l : List Int) (k B p : Nat) : ∀ i, k + i ≤ 8 * l.length → bitZ (flipTo l k B i) p = (bitZ l p != (decide (k ≤ p ∧ p < k + i) && B.testBit (p - k)))
  | 0, _ => by
    have : ¬ (k ≤ p ∧ p < k + 0) := by omega
    rw [flipTo, decide_eq_false this]
    simp
  | i + 1, h => by
    have ih := flipTo_bit l k B p i (by omega)
    rw [flipTo]
    by_cases e : p = k + i
    · subst e
      have h1 : ¬ (k ≤ k + i ∧ k + i < k + i) := by omega
      have h2 : k ≤ k + i ∧ k + i < k + (i + 1) := by omega
      rw [decide_eq_false h1] at ih
      rw [decide_eq_true h2, show k + i - k = i by omega]
      simp only [Bool.false_and, Bool.bne_false, Bool.true_and] at ih ⊢
      split
      · rename_i hb
        rw [flip1_bit _ _ _ (by rw [flipTo_length]; omega), ih, hb]
        simp
      · rename_i hb
        rw [ih, Bool.eq_false_iff.2 hb]
        simp
    · have h1 : decide (k ≤ p ∧ p < k + (i + 1)) = decide (k ≤ p ∧ p < k + i) := by
        rw [decide_eq_decide]
        omega
      rw [h1, ← ih]
      split
      · rw [flip1_bit _ _ _ (by rw [flipTo_length]; omega), decide_eq_false e]
        simp
      · rfl
theorem someTo_false (l : List Int) (k B : Nat) : ∀ i, someTo B i = false → flipTo l k B i = l
  | 0, _ => rfl
  | i + 1, h => by
    rw [someTo, Bool.or_eq_false_iff] at h
    rw [flipTo, h.2, if_neg (by simp)]
    exact someTo_false l k B i h.1
theorem someTo_true (B : Nat) : ∀ i, someTo B i = true → ∃ j, j < i ∧ B.testBit j = true
  | 0, h => by simp [someTo] at h
  | i + 1, h => by
    rw [someTo, Bool.or_eq_true] at h
    rcases h with h | h
    · obtain ⟨j, h1, h2⟩ := someTo_true B i h
      exact ⟨j, by omega, h2⟩
    · exact ⟨i, by omega, h⟩
theorem lengthTo_some (k B m : Nat) : ∀ i, lengthTo k B m i = true → someTo B i = true
  | 0, h => by simp [lengthTo] at h
  | i + 1, h => by
    rw [lengthTo, Bool.or_eq_true, Bool.and_eq_true] at h
    rw [someTo, Bool.or_eq_true]
    rcases h with h | h
    · exact .inl (lengthTo_some k B m i h)
    · exact .inr h.1
theorem lengthTo_false (l : List Int) (k B m : Nat) : ∀ i, lengthTo k B m i = false → (flipTo l k B i).take m = l.take m
  | 0, _ => rfl
  | i + 1, h => by
    rw [lengthTo, Bool.or_eq_false_iff] at h
    have ih := lengthTo_false l k B m i h.1
    rw [flipTo]
    split
    · rename_i hb
      have h2 := h.2
      rw [hb, Bool.true_and] at h2
      have h3 : ¬ (k + i) / 8 < m := of_decide_eq_false h2
      unfold flip1
      rw [List.take_set_of_le (by omega), ih]
    · exact ih

/-! ### What is opened then -/
/-- The bits that are turned, as a row of their own. -/
theorem bits_turned (l : List Int) (k B i : Nat) (h : k + i ≤ 8 * l.length) :
    bitsOf (flipTo l k B i) = xorL (bitsOf l) (List.replicate k false ++ ((List.range i).map (fun j => B.testBit j) ++ List.replicate (8 * l.length - (k + i)) false)) := by
  apply List.ext_getElem
  · simp [xorL, bitsOf, bitsTo, flipTo_length]; omega
  · intro p h1 h2
    have hp : p < 8 * l.length := by simpa [bitsOf, bitsTo, flipTo_length] using h1
    have e1 : (bitsOf (flipTo l k B i))[p] = bitZ (flipTo l k B i) p := by simp [bitsOf, bitsTo]
    have e2 : ∀ (m : List Bool) (h3 : p < (xorL (bitsOf l) m).length) (h4 : p < m.length), (xorL (bitsOf l) m)[p] = (bitZ l p != m[p]) := by
      intro m h3 h4
      simp [xorL, bitsOf, bitsTo]
    rw [e1, flipTo_bit l k B p i h, e2 _ _ (by simp; omega)]
    congr 1
    by_cases c1 : p < k
    · have : ¬ (k ≤ p ∧ p < k + i) := by omega
      rw [List.getElem_append_left (by simpa using c1), decide_eq_false this]
      simp
    · rw [List.getElem_append_right (by simpa using c1)]
      by_cases c2 : p < k + i
      · have : k ≤ p ∧ p < k + i := by omega
        rw [List.getElem_append_left (by simp; omega), decide_eq_true this]
        simp
      · have : ¬ (k ≤ p ∧ p < k + i) := by omega
        rw [List.getElem_append_right (by simp; omega), decide_eq_false this]
        simp
/-- A row that comes to the same register as it did before its bits were turned has none turned. -/
theorem feed_turned (l : List Int) (k B i : Nat) (hi : i ≤ 32) (h : k + i ≤ 8 * l.length) (hf : feed 4294967295 (flipTo l k B i) = feed 4294967295 l) : someTo B i = false := by
  cases hs : someTo B i with
  | false => rfl
  | true =>
    obtain ⟨j, hj, hb⟩ := someTo_true B i hs
    unfold feed at hf
    rw [bits_turned l k B i h] at hf
    have hx := run_xor (bitsOf l) (List.replicate k false ++ ((List.range i).map (fun j => B.testBit j) ++ List.replicate (8 * l.length - (k + i)) false)) 4294967295 0 (by rw [bits_length]; simp; omega)
    rw [Nat.xor_zero, hf] at hx
    have h0 : run 0 (List.replicate k false ++ ((List.range i).map (fun j => B.testBit j) ++ List.replicate (8 * l.length - (k + i)) false)) = 0 := by
      have e := congrArg (fun x => run 4294967295 (bitsOf l) ^^^ x) hx
      simp only [Nat.xor_self, ← Nat.xor_assoc, Nat.zero_xor] at e
      exact e.symm
    have := run_spoilt k _ _ (by simpa using hi) h0 true (List.mem_map.2 ⟨j, List.mem_range.2 hj, hb⟩)
    cases this
end Go.Proofs.Ytakjilbbhodiiaa
