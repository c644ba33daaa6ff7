/-
  num.Add, num.above and the document's Add; awake.
-/
import Derived.Test.YtddeneaenhoegaaInts
import Derived.Test.YtddeneaenhoegaaSumMath
import Derived.Laws.Externs
namespace Go.Proofs.Ytddeneaenhoegaa
open Go.RowKit

theorem w64 (n : Int) : wrap64 n = (n + 9223372036854775808) % 18446744073709551616 - 9223372036854775808 := by unfold wrap64; omega
theorem wu64 (n : Int) : IntKind.u64.wrap n = n % 18446744073709551616 := by rw [IntKind.wrap_u64]
theorem tup2 {a b : Int} {c d : Int} (h1 : a = b) (h2 : c = d) : Ending.returned (.tuple #[.int .i64 a, .int .i64 c]) = .returned (.tuple #[.int .i64 b, .int .i64 d]) := by rw [h1, h2]
theorem add_over (a b : Int) (h : ¬ (-9223372036854775808 ≤ a + b ∧ a + b < 9223372036854775808)) : addZ a b = (0, 10) := if_neg h
theorem add_fits (a b : Int) (h : -9223372036854775808 ≤ a + b ∧ a + b < 9223372036854775808) : addZ a b = (a + b, 0) := if_pos h

set_option maxHeartbeats 1000000 in
theorem add_any (a b : Int) (w : World) (ha0 : -9223372036854775808 ≤ a) (ha1 : a < 9223372036854775808) (hb0 : -9223372036854775808 ≤ b) (hb1 : b < 9223372036854775808) :
    Calls Try.prog 7 #[.int .i64 a, .int .i64 b] w fun e w' => e = .returned (.tuple #[.int .i64 (addZ a b).1, .int .i64 (addZ a b).2]) ∧ w' = w := by
  by_cases hf : -9223372036854775808 ≤ a + b ∧ a + b < 9223372036854775808
  · rw [add_fits a b hf]
    have h0 := hf.1
    have h1 := hf.2
    clear hf
    obtain ⟨n, hn⟩ : ∃ n, a + b = n := ⟨_, rfl⟩
    have H : Hid (a + b = n) := hn
    rw [hn] at h0 h1
    go_enter Try.func7, Try.ntmps7
    go_wp2
    all_goals go_ret2
    all_goals exact ⟨tup2 (by have := H.out; omega) (by have := H.out; omega), rfl⟩
  · rw [add_over a b hf]
    go_enter Try.func7, Try.ntmps7
    go_wp2
    all_goals go_ret2
    all_goals (have hw := w64 (a + b); exact ⟨tup2 (by omega) (by omega), rfl⟩)
set_option maxHeartbeats 1000000 in
theorem refAdd_any (a b : Int) (w : World) (ha0 : -9223372036854775808 ≤ a) (ha1 : a < 9223372036854775808) (hb0 : -9223372036854775808 ≤ b) (hb1 : b < 9223372036854775808) :
    Calls Try.prog 10 #[.int .i64 a, .int .i64 b] w fun e w' => e = .returned (.tuple #[.int .i64 (addZ a b).1, .int .i64 (addZ a b).2]) ∧ w' = w := by
  by_cases hf : -9223372036854775808 ≤ a + b ∧ a + b < 9223372036854775808
  · rw [add_fits a b hf]
    have h0 := hf.1
    have h1 := hf.2
    clear hf
    go_enter Try.func10, Try.ntmps10
    go_wp2
    all_goals go_ret2
    all_goals exact ⟨tup2 (by omega) (by omega), rfl⟩
  · rw [add_over a b hf]
    go_enter Try.func10, Try.ntmps10
    go_wp2
    all_goals go_ret2
    all_goals exact ⟨tup2 (by omega) (by omega), rfl⟩
set_option maxHeartbeats 400000 in
theorem above_any (n : Int) (w : World) (h0 : -9223372036854775808 ≤ n) (h1 : n < 9223372036854775808) :
    Calls Try.prog 9 #[.int .i64 n] w fun e w' => e = .returned (.int .u64 (aboveZ n)) ∧ w' = w := by
  go_enter Try.func9, Try.ntmps9
  go_wp2
  go_ret
  refine ⟨congrArg Ending.returned (congrArg (Value.int IntKind.u64) ?_), rfl⟩
  have hw := wu64 (n / 9223372036854775808)
  unfold aboveZ
  split <;> omega
set_option maxHeartbeats 400000 in
theorem awake_num (w : World) : Calls Try.prog 4 #[] w fun e w' => e = .returned (.bool true) ∧ w' = w := by
  have c := add_any 1 2 w (by omega) (by omega) (by omega) (by omega)
  rw [add_fits 1 2 (by omega)] at c
  have C1 : Hid (Calls Try.prog 7 _ _ _) := c
  clear c
  go_enter Try.func4, Try.ntmps4
  go_wp2_with (first | (go_at_call 7; refine C1.out.mono ?_; rintro e w1 ⟨rfl, hw1⟩; replace hw1 := hw1.symm; subst hw1))
  go_ret
  exact ⟨rfl, rfl⟩
/-- bits.Add64, which the model stands in for. -/
theorem add64_at (x y : Int) (w : World) (hx : 0 ≤ x) (hy : 0 ≤ y) : (callFunc 8 #[.int .u64 x, .int .u64 y, .int .u64 0]).run Try.prog w =
    .ok (.value (.tuple #[.int .u64 ((x + y + 0) % 18446744073709551616), .int .u64 ((x + y + 0) / 18446744073709551616)])) w := by
  rw [run_callFunc_extern Try.func8 (by kernel_rfl) (by kernel_rfl) (by kernel_rfl) (e := add64Entry) (by kernel_rfl), run_add64 x y 0 hx hy (by omega) (by omega)]
  rfl
end Go.Proofs.Ytddeneaenhoegaa
