/-
  word.digitsBehind: how many digits come behind what stands behind a \.
-/
import Derived.Test.YtdfmehbnhdhbcaaDoorQuoteTabs
namespace Go.Proofs.YtdfmehbnhdhbcaaDoor
open Go.RowKit

theorem at_esc0 (w : World) : (Instr.index 64 (.agg #[.int .u8 39, .int .i64 0, .int .u8 92, .int .i64 0, .int .u8 120, .int .i64 2]) (.int .i64 0)).run Tryd.prog w = .ok (.agg #[.int .u8 39, .int .i64 0]) w := by kernel_rfl
theorem at_esc1 (w : World) : (Instr.index 64 (.agg #[.int .u8 39, .int .i64 0, .int .u8 92, .int .i64 0, .int .u8 120, .int .i64 2]) (.int .i64 1)).run Tryd.prog w = .ok (.agg #[.int .u8 92, .int .i64 0]) w := by kernel_rfl
theorem at_esc2 (w : World) : (Instr.index 64 (.agg #[.int .u8 39, .int .i64 0, .int .u8 92, .int .i64 0, .int .u8 120, .int .i64 2]) (.int .i64 2)).run Tryd.prog w = .ok (.agg #[.int .u8 120, .int .i64 2]) w := by kernel_rfl
set_option maxRecDepth 100000 in
set_option maxHeartbeats 2000000 in
theorem behind_any (c : Int) (w : World) (hT : Tabs w) : Calls Tryd.prog 35 #[.int .u8 c] w fun e w' => e = .returned (.int .i64 (escZ c)) ∧ Below w.heap.size w w' := by
  obtain ⟨c0, c1, c2, c3, c4, c5⟩ := cells_esc hT
  have i0 := at_esc0
  have i1 := at_esc1
  have i2 := at_esc2
  clear hT
  by_cases h39 : c = 39
  · subst h39
    go_enter Tryd.func35, Tryd.ntmps35
    go_wp2
    refine wp_loop_rounds 1 ?_
    rw [rounds_succ]
    go_wp2
    try rw [Exit.noGoto_ret]
    go_ret
    exact ⟨rfl, (Below.refl _ _).alloc (by simp) _⟩
  by_cases h92 : c = 92
  · subst h92
    go_enter Tryd.func35, Tryd.ntmps35
    go_wp2
    refine wp_loop_rounds 2 ?_
    rw [rounds_succ]
    go_wp2
    rw [rounds_succ]
    go_wp2
    try rw [Exit.noGoto_ret]
    go_ret
    exact ⟨rfl, ((Below.refl _ _).alloc (by simp) _).alloc (by simp) _⟩
  by_cases h120 : c = 120
  · subst h120
    go_enter Tryd.func35, Tryd.ntmps35
    go_wp2
    refine wp_loop_rounds 3 ?_
    rw [rounds_succ]
    go_wp2
    rw [rounds_succ]
    go_wp2
    rw [rounds_succ]
    go_wp2
    try rw [Exit.noGoto_ret]
    go_ret
    exact ⟨rfl, (((Below.refl _ _).alloc (by simp) _).alloc (by simp) _).alloc (by simp; omega) _⟩
  have e : escZ c = -1 := by unfold escZ; rw [if_neg (by omega), if_neg h120]
  rw [e]
  clear e
  go_enter Tryd.func35, Tryd.ntmps35
  go_wp2
  refine wp_loop_rounds 4 ?_
  rw [rounds_succ]
  go_wp2
  rw [rounds_succ]
  go_wp2
  rw [rounds_succ]
  go_wp2
  rw [rounds_succ]
  go_wp2
  go_ret
  exact ⟨rfl, (((Below.refl _ _).alloc (by simp) _).alloc (by simp) _).alloc (by simp; omega) _⟩
end Go.Proofs.YtdfmehbnhdhbcaaDoor
