/-
  The document's sum: haruspexref03's More and Sum; and that the program is awake.
-/
import Derived.Test.YtakjilbbhodiiaaTeller
import Derived.Lib.SlBytesConst
namespace Go.Proofs.Ytakjilbbhodiiaa
open Go.RowKit

theorem step_up {s : Nat} {x : Bool} (h : (bitI ((s % 2 == 1) != x) == 1) = true) : step s x = s / 2 ^^^ 3988292384 := by
  unfold step
  rw [if_pos]
  cases hv : (s % 2 == 1) != x with
  | true => rfl
  | false => rw [hv] at h; exact absurd h (by decide)
theorem step_down {s : Nat} {x : Bool} (h : (bitI ((s % 2 == 1) != x) == 1) = false) : step s x = s / 2 := by
  unfold step
  rw [if_neg]
  cases hv : (s % 2 == 1) != x with
  | true => rw [hv] at h; exact absurd h (by decide)
  | false => decide
set_option maxRecDepth 100000 in
set_option maxHeartbeats 2000000 in
theorem refMore_some (s b off len cap : Nat) (zs : List Int) (w : World) (hl : zs.length = len) (hz : ∀ j : Nat, 0 ≤ zs[j]?.getD 0 ∧ zs[j]?.getD 0 ≤ 255) (hc : ∀ j, j < len → w.cell? ⟨b, off + j, none⟩ = some (.int .u8 (zs[j]?.getD 0))) (hreach : len ≤ 140737488351232) (hs : s < 4294967296) :
    Calls Try.prog 13 #[.int .u32 (s : Int), .slice (some ⟨b, off, none⟩) len cap] w fun e w' => e = .returned (.int .u32 (moreN s zs : Int)) ∧ w' = w := by
  have ho := ones_walk s hs
  have hs1 := xor_ones_lt s hs
  obtain ⟨S0, hS0⟩ : ∃ S0, s ^^^ 4294967295 = S0 := ⟨_, rfl⟩
  rw [hS0] at ho hs1
  have hm : moreN s zs = run S0 (bitsTo zs (8 * len)) ^^^ 4294967295 := by unfold moreN feed bitsOf; rw [hS0, hl]
  have h8 : IntKind.i64.wrap (8 * (len : Int)) = 8 * (len : Int) := by rw [IntKind.wrap_i64]; omega
  rw [hm]
  clear hm
  go_enter Try.func13, Try.ntmps13
  go_wp2
  go_loopw [5, 6] (fun p i wr => ∃ k : Nat, k ≤ 8 * len ∧ i = .int .i64 k ∧ p = .int .u32 (run S0 (bitsTo zs k) : Int) ∧ wr = w)
    (fun _ i _ => 8 * len - (intOf i).toNat)
  case atStart => exact ⟨0, Nat.zero_le _, rfl, rfl, rfl⟩
  case round =>
    obtain ⟨k, hk, rfl, rfl, rfl⟩ := hrel
    obtain ⟨S, hS⟩ : ∃ S, run S0 (bitsTo zs k) = S := ⟨_, rfl⟩
    have hSlt : S < 4294967296 := by rw [← hS]; exact run_lt _ _ hs1
    rw [hS]
    by_cases hlt : k < 8 * len
    · have hkl : (k : Int) < 8 * (len : Int) := by omega
      obtain ⟨j, hj⟩ : ∃ j, k / 8 = j := ⟨_, rfl⟩
      obtain ⟨q, hq⟩ : ∃ q, k % 8 = q := ⟨_, rfl⟩
      have hcx := hc j (by omega)
      have hbit := bit_walk zs j q (by omega) (hz j)
      rw [show 8 * j + q = k by omega] at hbit
      have ht := turn_walk S (bitZ zs k) hSlt
      have hd := down_walk S hSlt
      have hnew : run S0 (bitsTo zs (k + 1)) = step S (bitZ zs k) := by rw [bitsTo_succ, run_snoc, hS]
      go_wp2
      · rename_i hx
        refine ⟨⟨k + 1, by omega, by simp, by rw [hnew, step_up hx], trivial⟩, by simp [intOf]; omega⟩
      · rename_i hx
        refine ⟨⟨k + 1, by omega, by simp, by rw [hnew, step_down hx]; rfl, trivial⟩, by simp [intOf]; omega⟩
    · obtain rfl : k = 8 * len := by omega
      have hkl : ¬ ((8 * len : Nat) : Int) < 8 * (len : Int) := by omega
      have ho2 := ones_walk S hSlt
      go_wp2
      go_ret
      exact ⟨rfl, rfl⟩
set_option maxHeartbeats 2000000 in
theorem refMore_none (s : Nat) (a : Option Addr) (cap : Nat) (w : World) (hs : s < 4294967296) :
    Calls Try.prog 13 #[.int .u32 (s : Int), .slice a 0 cap] w fun e w' => e = .returned (.int .u32 (s : Int)) ∧ w' = w := by
  have ho := ones_walk s hs
  have ho2 := ones_walk (s ^^^ 4294967295) (xor_ones_lt s hs)
  rw [xor_twice] at ho2
  go_enter Try.func13, Try.ntmps13
  go_wp2
  go_loopw [5, 6] (fun p i wr => p = .int .u32 ((s ^^^ 4294967295 : Nat) : Int) ∧ i = .int .i64 0 ∧ wr = w) (fun _ _ _ => 0)
  case atStart => exact ⟨rfl, rfl, rfl⟩
  case round =>
    obtain ⟨rfl, rfl, rfl⟩ := hrel
    go_wp2
    go_ret
    exact ⟨rfl, rfl⟩
theorem refMore_any (s : Nat) (a : Option Addr) (len cap : Nat) (zs : List Int) (w : World) (hI : IsBytes w a len cap zs) (hreach : len ≤ 140737488351232) (hs : s < 4294967296) :
    Calls Try.prog 13 #[.int .u32 (s : Int), .slice a len cap] w fun e w' => e = .returned (.int .u32 (moreN s zs : Int)) ∧ w' = w := by
  obtain ⟨h1, h2, h3, h4, h5, h6⟩ := hI
  by_cases h : len = 0
  · subst h
    have : zs = [] := List.eq_nil_of_length_eq_zero h1
    subst this
    rw [moreN_nil]
    exact refMore_none s a cap w hs
  · obtain ⟨b, off, rfl, hc⟩ := h6 (by omega)
    exact refMore_some s b off len cap zs w h1 h5 hc hreach hs
set_option maxHeartbeats 400000 in
theorem refSum_any (a : Option Addr) (len cap : Nat) (zs : List Int) (w : World) (hI : IsBytes w a len cap zs) (hreach : len ≤ 140737488351232) :
    Calls Try.prog 11 #[.slice a len cap] w fun e w' => e = .returned (.int .u32 (moreN 0 zs : Int)) ∧ w' = w := by
  have c1 := refMore_any 0 a len cap zs w hI hreach (by omega)
  have C1 : Hid (Calls Try.prog 13 _ _ _) := c1
  clear c1 hI
  go_enter Try.func11, Try.ntmps11
  go_wp2_with (first | (go_at_call 13; refine C1.out.mono ?_; rintro e w1 ⟨rfl, hw1⟩; replace hw1 := hw1.symm; subst hw1))
  go_ret
  exact ⟨rfl, rfl⟩

/-- A new row of bytes is a slice of bytes. -/
theorem isBytes_new (w : World) (fr : Nat × Nat) (zs : List Int) (hb : ∀ c ∈ zs, 0 ≤ c ∧ c ≤ 255) (hl : zs.length ≤ maxLen) :
    IsBytes (w.alloc (.cells (cellsOf zs).toArray 5 fr)) (some ⟨w.heap.size, 0, none⟩) zs.length zs.length zs := by
  refine ⟨rfl, Nat.le_refl _, hl, (by intro h; cases h), fun j => ?_, fun _ => ⟨_, _, rfl, fun j hj => ?_⟩⟩
  · by_cases hj : j < zs.length
    · simpa [hj] using hb zs[j] (List.getElem_mem hj)
    · simp [Nat.not_lt.1 hj]
  · have h0 := World.alloc_heap_new w (.cells (cellsOf zs).toArray 5 fr)
    unfold World.cell?
    rw [show (⟨w.heap.size, 0 + j, none⟩ : Addr).block = w.heap.size from rfl, h0]
    simp [cellsOf, hj]
set_option maxRecDepth 100000 in
theorem digits_sum : moreN 0 [49, 50, 51, 52, 53, 54, 55, 56, 57] = 3421780262 := by decide +kernel
/-- The digits that awake is of. -/
def digitsZ : List Int := [49, 50, 51, 52, 53, 54, 55, 56, 57]
set_option maxHeartbeats 400000 in
theorem awake_any (w : World) : Calls Try.prog 14 #[] w fun e w' => e = .returned (.bool true) ∧ Below w.heap.size w w' := by
  have hcv := Lib.run_convert_bytes_const (P := Try.prog) w 22 5 (cellsOf digitsZ).toArray 9 9 Try.underlying22 Try.underlying5
  have hB0 : Below w.heap.size w (w.alloc (.cells (cellsOf digitsZ).toArray 5 (9, 10))) := (Below.refl _ w).alloc (Nat.le_refl _) _
  have c1 := sum_any _ _ _ _ _ (isBytes_new w (9, 10) digitsZ (by decide) (by unfold maxLen; decide)) (by decide)
  rw [show moreN 0 digitsZ = 3421780262 from digits_sum] at c1
  have C1 : Hid (Calls Try.prog 10 _ _ _) := c1
  clear c1
  simp only [cellsOf, digitsZ, List.map_cons, List.map_nil, List.size_toArray, List.length_cons, List.length_nil, Nat.reduceAdd] at hcv
  go_enter Try.func14, Try.ntmps14
  go_wp2_with (first | (go_at_call 10; refine C1.out.mono ?_; rintro e w1 ⟨rfl, hB1⟩))
  go_ret
  exact ⟨rfl, hB0.trans (hB1.mono hB0.size)⟩
end Go.Proofs.Ytakjilbbhodiiaa
