/-
  typing.ruleOf: which rule a kind of condition has.
-/
import Derived.Test.YtahlmlbfgijcpaaGreatDoorCTypRule
namespace Go.Proofs.YtahlmlbfgijcpaaGreatDoor
open Go.RowKit

/-- The value of a rule: what it is, and what its parts must be. -/
abbrev ruleV (k : Int) (f : Value) : Value := .agg #[.int .i64 k, f]
abbrev allV (p : Nat) : Value := .func (.func 79) #[] #[.pointer (some ⟨p, 0, none⟩)]
set_option maxRecDepth 100000 in
set_option maxHeartbeats 4000000 in
theorem ruleA (k : Int) (w : World) (h : k = 3 ∨ k = 4 ∨ k = 5 ∨ k = 6 ∨ k = 7 ∨ k = 8) : Calls Tryz.prog 39 #[.int .i64 k] w fun e w' => ∃ p, e = .returned (ruleV 2 (allV p)) ∧ w'.cell? ⟨p, 0, none⟩ = some (.int .i64 2) ∧ Below w.heap.size w w' := by
  have A : Hid (∀ d : World, Calls Tryz.prog 56 _ d _) := fun d => allT_any 2 d
  rcases h with rfl | rfl | rfl | rfl | rfl | rfl
  all_goals (
    go_enter Tryz.func39, Tryz.ntmps39
    go_wp2_with (first | (go_at_call 56; refine (A.out _).mono ?_; rintro e w1 ⟨rfl, rfl⟩)))
  all_goals exact bodyPost_ret (v := ruleV 2 (allV (w.heap.size + 1))) (by simp [results, Tryz.results39, go_sem]) rfl ⟨w.heap.size + 1, rfl, by have := box_at (w.alloc (.cells #[.int .i64 2, allV (w.heap.size + 1)] 90)) 2; rwa [World.size_alloc] at this, ((Below.refl _ _).alloc (Nat.le_refl _) _).alloc (by simp) _⟩
set_option maxRecDepth 100000 in
set_option maxHeartbeats 4000000 in
theorem ruleB (k : Int) (w : World) (h : k = 9 ∨ k = 10) : Calls Tryz.prog 39 #[.int .i64 k] w fun e w' => e = .returned (ruleV 1 (.func (.func 57) #[] #[])) ∧ Below w.heap.size w w' := by
  rcases h with rfl | rfl
  all_goals (
    go_enter Tryz.func39, Tryz.ntmps39
    go_wp2)
  all_goals exact bodyPost_ret (v := ruleV 1 (.func (.func 57) #[] #[])) (by simp [results, Tryz.results39, go_sem]) rfl ⟨rfl, (Below.refl _ _).alloc (Nat.le_refl _) _⟩
set_option maxRecDepth 100000 in
set_option maxHeartbeats 4000000 in
theorem ruleC (k : Int) (w : World) (h : k = 11 ∨ k = 12 ∨ k = 13 ∨ k = 14) : Calls Tryz.prog 39 #[.int .i64 k] w fun e w' => e = .returned (ruleV 1 (.func (.func 58) #[] #[])) ∧ Below w.heap.size w w' := by
  rcases h with rfl | rfl | rfl | rfl
  all_goals (
    go_enter Tryz.func39, Tryz.ntmps39
    go_wp2)
  all_goals exact bodyPost_ret (v := ruleV 1 (.func (.func 58) #[] #[])) (by simp [results, Tryz.results39, go_sem]) rfl ⟨rfl, (Below.refl _ _).alloc (Nat.le_refl _) _⟩
set_option maxRecDepth 100000 in
set_option maxHeartbeats 4000000 in
theorem ruleD (k : Int) (w : World) (h : k = 15 ∨ k = 16 ∨ k = 17) : Calls Tryz.prog 39 #[.int .i64 k] w fun e w' => ∃ p, e = .returned (ruleV 1 (allV p)) ∧ w'.cell? ⟨p, 0, none⟩ = some (.int .i64 1) ∧ Below w.heap.size w w' := by
  have A : Hid (∀ d : World, Calls Tryz.prog 56 _ d _) := fun d => allT_any 1 d
  rcases h with rfl | rfl | rfl
  all_goals (
    go_enter Tryz.func39, Tryz.ntmps39
    go_wp2_with (first | (go_at_call 56; refine (A.out _).mono ?_; rintro e w1 ⟨rfl, rfl⟩)))
  all_goals exact bodyPost_ret (v := ruleV 1 (allV (w.heap.size + 1))) (by simp [results, Tryz.results39, go_sem]) rfl ⟨w.heap.size + 1, rfl, by have := box_at (w.alloc (.cells #[.int .i64 1, allV (w.heap.size + 1)] 90)) 1; rwa [World.size_alloc] at this, ((Below.refl _ _).alloc (Nat.le_refl _) _).alloc (by simp) _⟩
end Go.Proofs.YtahlmlbfgijcpaaGreatDoor
