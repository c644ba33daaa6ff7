/-
  The sum, of no program: one step, bytes fed to it bit by bit (the lowest of each first), and the sum of bytes behind others.
-/
import Derived.Lib.BitFns
namespace Go.Proofs.Ytakjilbbhodiiaa

/-- One bit is fed to the sum. -/
def step (s : Nat) (b : Bool) : Nat := if ((s % 2 == 1) != b) = true then s / 2 ^^^ 3988292384 else s / 2
/-- The bit at place k of bytes, the lowest of each first. -/
def bitZ (zs : List Int) (k : Nat) : Bool := (zs[k / 8]?.getD 0).toNat / 2 ^ (k % 8) % 2 == 1
/-- The first k of them. -/
def bitsTo (zs : List Int) (k : Nat) : List Bool := (List.range k).map (bitZ zs)
theorem bitsTo_succ (zs : List Int) (k : Nat) : bitsTo zs (k + 1) = bitsTo zs k ++ [bitZ zs k] := by simp [bitsTo, List.range_succ]
theorem bitsTo_length (zs : List Int) (k : Nat) : (bitsTo zs k).length = k := by simp [bitsTo]
def run (s : Nat) (l : List Bool) : Nat := l.foldl step s
theorem run_snoc (s : Nat) (l : List Bool) (b : Bool) : run s (l ++ [b]) = step (run s l) b := by simp [run]
theorem run_append (s : Nat) (l m : List Bool) : run s (l ++ m) = run (run s l) m := by simp [run]
theorem step_lt (s : Nat) (b : Bool) (h : s < 4294967296) : step s b < 4294967296 := by
  unfold step
  split
  · have : s / 2 ^^^ 3988292384 < 2 ^ 32 := Nat.xor_lt_two_pow (by omega) (by omega)
    omega
  · omega
theorem run_lt (l : List Bool) : ∀ s : Nat, s < 4294967296 → run s l < 4294967296 := by
  induction l with
  | nil => intro s h; exact h
  | cons b l ih => intro s h; exact ih _ (step_lt s b h)
/-- All of the bytes' bits. -/
def bitsOf (zs : List Int) : List Bool := bitsTo zs (8 * zs.length)
theorem bitZ_left (a b : List Int) (k : Nat) (h : k < 8 * a.length) : bitZ (a ++ b) k = bitZ a k := by
  unfold bitZ
  rw [List.getElem?_append_left (by omega)]
theorem bitZ_right (a b : List Int) (k : Nat) : bitZ (a ++ b) (8 * a.length + k) = bitZ b k := by
  unfold bitZ
  rw [List.getElem?_append_right (by omega)]
  rw [show (8 * a.length + k) / 8 - a.length = k / 8 by omega, show (8 * a.length + k) % 8 = k % 8 by omega]
theorem bitsOf_append (a b : List Int) : bitsOf (a ++ b) = bitsOf a ++ bitsOf b := by
  apply List.ext_getElem
  · simp [bitsOf, bitsTo]; omega
  · intro i h1 h2
    simp only [bitsOf, bitsTo, List.length_map, List.length_range, List.length_append] at h1 h2
    by_cases h : i < 8 * a.length
    · rw [List.getElem_append_left (by simpa [bitsOf, bitsTo] using h)]
      simp [bitsOf, bitsTo, bitZ_left a b i h]
    · rw [List.getElem_append_right (by simpa [bitsOf, bitsTo] using h)]
      have := bitZ_right a b (i - 8 * a.length)
      rw [show 8 * a.length + (i - 8 * a.length) = i by omega] at this
      simp [bitsOf, bitsTo, this]
def feed (s : Nat) (zs : List Int) : Nat := run s (bitsOf zs)
theorem feed_lt (s : Nat) (zs : List Int) (h : s < 4294967296) : feed s zs < 4294967296 := run_lt _ _ h
theorem feed_append (s : Nat) (a b : List Int) : feed s (a ++ b) = feed (feed s a) b := by
  unfold feed
  rw [bitsOf_append, run_append]
theorem feed_nil (s : Nat) : feed s [] = s := rfl
/-- The sum of what s is the sum of, and zs behind it. -/
def moreN (s : Nat) (zs : List Int) : Nat := feed (s ^^^ 4294967295) zs ^^^ 4294967295
theorem xor_ones_lt (s : Nat) (h : s < 4294967296) : s ^^^ 4294967295 < 4294967296 := by
  have : s ^^^ 4294967295 < 2 ^ 32 := Nat.xor_lt_two_pow (by omega) (by omega)
  omega
theorem moreN_lt (s : Nat) (zs : List Int) (h : s < 4294967296) : moreN s zs < 4294967296 := xor_ones_lt _ (feed_lt _ _ (xor_ones_lt _ h))
theorem xor_twice (a b : Nat) : a ^^^ b ^^^ b = a := by rw [Nat.xor_assoc, Nat.xor_self, Nat.xor_zero]
theorem moreN_append (s : Nat) (a b : List Int) : moreN s (a ++ b) = moreN (moreN s a) b := by
  unfold moreN
  rw [feed_append, xor_twice]
theorem moreN_nil (s : Nat) : moreN s [] = s := by
  unfold moreN
  rw [feed_nil, xor_twice]
/-- A bit's number. -/
def bitI (b : Bool) : Int := if b = true then 1 else 0
end Go.Proofs.Ytakjilbbhodiiaa
