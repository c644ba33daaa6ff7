/-
  The walk of the law NumSums.
-/
import Derived.Test.YtddeneaenhoegaaNumRefSum
namespace Go.Proofs.Ytddeneaenhoegaa
open Go.RowKit

set_option maxRecDepth 100000 in
set_option maxHeartbeats 1000000 in
theorem sums_short (a : Option Addr) (len cap : Nat) (zs : List Int) (w : World) (h : IsInts w a len cap zs) (hl : len ≤ 300) :
    Calls Try.prog 3 #[.slice a len cap] w fun e w' => e = .returned (.bool true) ∧ Below w.heap.size w w' := by
  have c1 := sum_any a len cap zs w h hl
  have c2 := refSum_any a len cap zs w h hl
  generalize (sumZ zs).1 = n at c1 c2
  generalize (sumZ zs).2 = e at c1 c2
  have C1 : Hid (Calls Try.prog 5 _ _ _) := c1
  have C2 : Hid (Calls Try.prog 6 _ _ _) := c2
  have hl' : ¬ (300 : Int) < (len : Int) := by omega
  clear c1 c2 h
  go_enter Try.func3, Try.ntmps3
  go_wp2_with (first
    | (go_at_call 5; refine C1.out.mono ?_; clear C1; rintro e w1 ⟨rfl, hw1⟩; replace hw1 := hw1.symm; subst hw1)
    | (go_at_call 6; refine C2.out.mono ?_; clear C2; rintro e w2 ⟨rfl, hB2⟩)
    | (go_at_call 4; refine (awake_num _).mono ?_; rintro e w3 ⟨rfl, hw3⟩; replace hw3 := hw3.symm; subst hw3))
  go_ret
  exact ⟨rfl, hB2⟩
set_option maxHeartbeats 400000 in
theorem sums_long (a : Option Addr) (len cap : Nat) (w : World) (hl : 300 < len) :
    Calls Try.prog 3 #[.slice a len cap] w fun e w' => e = .returned (.bool true) ∧ Below w.heap.size w w' := by
  have hl' : (300 : Int) < (len : Int) := by omega
  go_enter Try.func3, Try.ntmps3
  go_wp2_with (first
    | (go_at_call 4; refine (awake_num _).mono ?_; rintro e w3 ⟨rfl, hw3⟩; replace hw3 := hw3.symm; subst hw3))
  go_ret
  exact ⟨rfl, Below.refl _ _⟩
end Go.Proofs.Ytddeneaenhoegaa
