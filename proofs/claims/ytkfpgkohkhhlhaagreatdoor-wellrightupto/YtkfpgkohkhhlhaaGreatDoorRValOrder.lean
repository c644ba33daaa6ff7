/-
  value.Order answers by K, then by N, then by S's bytes (P6.1).
  value.Right answers what the document's word 'right' says (P6.1).
  The order is an order: plain facts on 'ordZ'.
  Values as they lie in memory, one by itself and in a row; the first place of a name; of no function.
  Conditions (api.Expr) as trees: how many nodes, how deep, their order; plain facts, of no function.
  Names in order, each once: plain facts, of no function.
  Small facts that many texts share: texts that are the same, names as keys, what stays; of no function.
  Conditions as they lie in memory; of no function.
  Patterns (api.Pat) as trees: how many nodes, how deep, which are the same, with other names; plain facts, of no function.
-/
import Derived.Test.YtkfpgkohkhhlhaaGreatDoorRBrief
import Derived.Test.YtkfpgkohkhhlhaaGreatDoorRWlAs
import Derived.LoopN
import Derived.Maps.OwnSet
import Derived.BigQuiet
namespace Go.Proofs.YtkfpgkohkhhlhaaGreatDoor
open Go.RowKit

/-- Two numbers, two texts: -1, 0 or 1. -/
def cmpI (a b : Int) : Int := if a < b then -1 else if b < a then 1 else 0
def cmpS (s t : ByteArray) : Int := if Op.bytesLess s.toList t.toList then -1 else if s.toList == t.toList then 0 else 1
/-- The order. -/
def ordZ (k n : Int) (s : ByteArray) (k' n' : Int) (s' : ByteArray) : Int :=
  if cmpI k k' ≠ 0 then cmpI k k' else if cmpI n n' ≠ 0 then cmpI n n' else cmpS s s'

set_option maxHeartbeats 400000 in
theorem nanInt (a : Int) (w : World) : Calls Tryz.prog 209 #[.int .i64 a] w fun e w' => e = .returned (.bool false) ∧ w' = w := by
  go_enter Tryz.func209, Tryz.ntmps209
  go_wp2
  go_ret
  exact ⟨rfl, rfl⟩
set_option maxHeartbeats 400000 in
theorem nanInt64 (a : Int) (w : World) : Calls Tryz.prog 217 #[.int .i64 a] w fun e w' => e = .returned (.bool false) ∧ w' = w := by
  go_enter Tryz.func217, Tryz.ntmps217
  go_wp2
  go_ret
  exact ⟨rfl, rfl⟩
set_option maxHeartbeats 400000 in
theorem nanStr (a : ByteArray) (w : World) : Calls Tryz.prog 191 #[.string a] w fun e w' => e = .returned (.bool false) ∧ w' = w := by
  go_enter Tryz.func191, Tryz.ntmps191
  go_wp2
  go_ret
  exact ⟨rfl, rfl⟩
set_option maxHeartbeats 1000000 in
theorem cmpInt_any (a b : Int) (w : World) : Calls Tryz.prog 197 #[.int .i64 a, .int .i64 b] w fun e w' => e = .returned (.int .i64 (cmpI a b)) ∧ w' = w := by
  unfold cmpI
  by_cases h : a < b
  · rw [if_pos h]
    go_enter Tryz.func197, Tryz.ntmps197
    go_wp2_with (go_at_call 209; refine (nanInt _ _).mono ?_; rintro e w1 ⟨rfl, hw1⟩; replace hw1 := hw1.symm; subst hw1)
    go_ret
    exact ⟨rfl, rfl⟩
  · rw [if_neg h]
    by_cases h' : b < a
    · rw [if_pos h']
      go_enter Tryz.func197, Tryz.ntmps197
      go_wp2_with (go_at_call 209; refine (nanInt _ _).mono ?_; rintro e w1 ⟨rfl, hw1⟩; replace hw1 := hw1.symm; subst hw1)
      go_ret
      exact ⟨rfl, rfl⟩
    · rw [if_neg h']
      go_enter Tryz.func197, Tryz.ntmps197
      go_wp2_with (go_at_call 209; refine (nanInt _ _).mono ?_; rintro e w1 ⟨rfl, hw1⟩; replace hw1 := hw1.symm; subst hw1)
      go_ret
      exact ⟨rfl, rfl⟩
set_option maxHeartbeats 1000000 in
theorem cmpInt64_any (a b : Int) (w : World) : Calls Tryz.prog 210 #[.int .i64 a, .int .i64 b] w fun e w' => e = .returned (.int .i64 (cmpI a b)) ∧ w' = w := by
  unfold cmpI
  by_cases h : a < b
  · rw [if_pos h]
    go_enter Tryz.func210, Tryz.ntmps210
    go_wp2_with (go_at_call 217; refine (nanInt64 _ _).mono ?_; rintro e w1 ⟨rfl, hw1⟩; replace hw1 := hw1.symm; subst hw1)
    go_ret
    exact ⟨rfl, rfl⟩
  · rw [if_neg h]
    by_cases h' : b < a
    · rw [if_pos h']
      go_enter Tryz.func210, Tryz.ntmps210
      go_wp2_with (go_at_call 217; refine (nanInt64 _ _).mono ?_; rintro e w1 ⟨rfl, hw1⟩; replace hw1 := hw1.symm; subst hw1)
      go_ret
      exact ⟨rfl, rfl⟩
    · rw [if_neg h']
      go_enter Tryz.func210, Tryz.ntmps210
      go_wp2_with (go_at_call 217; refine (nanInt64 _ _).mono ?_; rintro e w1 ⟨rfl, hw1⟩; replace hw1 := hw1.symm; subst hw1)
      go_ret
      exact ⟨rfl, rfl⟩
set_option maxHeartbeats 1000000 in
theorem cmpStr_any (a b : ByteArray) (w : World) : Calls Tryz.prog 199 #[.string a, .string b] w fun e w' => e = .returned (.int .i64 (cmpS a b)) ∧ w' = w := by
  unfold cmpS
  cases h : Op.bytesLess a.toList b.toList with
  | true =>
    rw [if_pos rfl]
    go_enter Tryz.func199, Tryz.ntmps199
    go_wp2_with (go_at_call 191; refine (nanStr _ _).mono ?_; rintro e w1 ⟨rfl, hw1⟩; replace hw1 := hw1.symm; subst hw1)
    go_ret
    exact ⟨rfl, rfl⟩
  | false =>
    rw [if_neg (by simp)]
    cases h' : a.toList == b.toList with
    | true =>
      rw [if_pos rfl]
      go_enter Tryz.func199, Tryz.ntmps199
      go_wp2_with (go_at_call 191; refine (nanStr _ _).mono ?_; rintro e w1 ⟨rfl, hw1⟩; replace hw1 := hw1.symm; subst hw1)
      go_ret
      exact ⟨rfl, rfl⟩
    | false =>
      rw [if_neg (by simp)]
      go_enter Tryz.func199, Tryz.ntmps199
      go_wp2_with (go_at_call 191; refine (nanStr _ _).mono ?_; rintro e w1 ⟨rfl, hw1⟩; replace hw1 := hw1.symm; subst hw1)
      go_ret
      exact ⟨rfl, rfl⟩
set_option maxHeartbeats 1000000 in
/-- cmp.Or of three numbers: the first that is not 0. -/
theorem or_three (b : Nat) (x y z : Int) (w : World) (c0 : w.cell? ⟨b, 0, none⟩ = some (.int .i64 x)) (c1 : w.cell? ⟨b, 1, none⟩ = some (.int .i64 y)) (c2 : w.cell? ⟨b, 2, none⟩ = some (.int .i64 z)) :
    Calls Tryz.prog 196 #[.slice (some ⟨b, 0, none⟩) 3 3] w fun e w' => e = .returned (.int .i64 (if x ≠ 0 then x else if y ≠ 0 then y else z)) ∧ w' = w := by
  by_cases hx : x = 0
  · subst hx
    by_cases hy : y = 0
    · subst hy
      by_cases hz : z = 0
      · subst hz
        simp only [ne_eq, not_true_eq_false, if_false]
        go_enter Tryz.func196, Tryz.ntmps196
        go_wp2
        refine wp_loop_rounds 4 ?_
        rw [rounds_succ]; go_wp2
        rw [rounds_succ]; go_wp2
        rw [rounds_succ]; go_wp2
        rw [rounds_succ]; go_wp2
        go_ret
        exact ⟨rfl, rfl⟩
      · have hz' : (z == 0) = false := by simpa using hz
        simp only [ne_eq, not_true_eq_false, if_false]
        go_enter Tryz.func196, Tryz.ntmps196
        go_wp2
        refine wp_loop_rounds 3 ?_
        rw [rounds_succ]; go_wp2
        rw [rounds_succ]; go_wp2
        rw [rounds_succ]; go_wp2
        go_ret
        exact ⟨rfl, rfl⟩
    · have hy' : (y == 0) = false := by simpa using hy
      simp only [ne_eq, not_true_eq_false, if_false, hy, not_false_eq_true, if_true]
      go_enter Tryz.func196, Tryz.ntmps196
      go_wp2
      refine wp_loop_rounds 2 ?_
      rw [rounds_succ]; go_wp2
      rw [rounds_succ]; go_wp2
      go_ret
      exact ⟨rfl, rfl⟩
  · have hx' : (x == 0) = false := by simpa using hx
    simp only [ne_eq, hx, not_false_eq_true, if_true]
    go_enter Tryz.func196, Tryz.ntmps196
    go_wp2
    refine wp_loop_rounds 1 ?_
    rw [rounds_succ]; go_wp2
    go_ret
    exact ⟨rfl, rfl⟩
set_option maxRecDepth 100000 in
set_option maxHeartbeats 4000000 in
theorem order_any (k n : Int) (s : ByteArray) (k' n' : Int) (s' : ByteArray) (w : World) :
    Calls Tryz.prog 198 #[valV k n s, valV k' n' s'] w fun e w' => e = .returned (.int .i64 (ordZ k n s k' n' s')) ∧ Below w.heap.size w w' := by
  go_enter Tryz.func198, Tryz.ntmps198
  go_wp2_with fail
  have hW0 : Below w.heap.size w ((w.alloc (valO k n s)).alloc (valO k' n' s')) := ((Below.refl _ w).alloc (Nat.le_refl _) _).alloc (by simp) _
  have HC : Hid ((((w.alloc (valO k n s)).alloc (valO k' n' s')).cell? ⟨w.heap.size, 0, none⟩ = some (.int .i64 k)) ∧ (((w.alloc (valO k n s)).alloc (valO k' n' s')).cell? ⟨w.heap.size, 1, none⟩ = some (.int .i64 n)) ∧ (((w.alloc (valO k n s)).alloc (valO k' n' s')).cell? ⟨w.heap.size, 2, none⟩ = some (.string s)) ∧
      (((w.alloc (valO k n s)).alloc (valO k' n' s')).cell? ⟨w.heap.size + 1, 0, none⟩ = some (.int .i64 k')) ∧ (((w.alloc (valO k n s)).alloc (valO k' n' s')).cell? ⟨w.heap.size + 1, 1, none⟩ = some (.int .i64 n')) ∧ (((w.alloc (valO k n s)).alloc (valO k' n' s')).cell? ⟨w.heap.size + 1, 2, none⟩ = some (.string s'))) := by
    refine ⟨?_, ?_, ?_, ?_, ?_, ?_⟩ <;> simp
  generalize (w.alloc (valO k n s)).alloc (valO k' n' s') = W at hW0 HC ⊢
  refine wp_region_noPanic ?_
  refine wp_region_held_drew (S := fun w' => Below W.heap.size W w') (by kernel_rfl) ((Below.refl _ _).drew) (fun hHeld => ?_)
  have hT : Below W.heap.size W W.drew := hHeld
  obtain ⟨d, hd⟩ : ∃ d, d = W.drew := ⟨_, rfl⟩
  rw [← hd] at hHeld hT ⊢
  clear hd
  refine wpAnyH_take (i := 0) (oi := ⟨some 5, .fieldAddr 52 (.tmp 2) 0, 0, _, _, _⟩) (v := ?v0) rfl (by kernel_rfl) (by kernel_rfl) (by kernel_rfl) (fun _ _ _ h => h) (Or.inl ⟨by rfl, ?hy0⟩) hHeld ?rest0
  case hy0 => intro w9 hSw; go_simp; (try with_reducible rfl)
  try simp only [Act.put, s_put, s_0, s_1]
  refine wpAnyH_take (i := 1) (oi := ⟨some 6, .load 3 (.tmp 5), 3, _, _, _⟩) (v := ?v1) rfl (by kernel_rfl) (by kernel_rfl) (by kernel_rfl) (fun _ _ _ h => h) (Or.inl ⟨by rfl, ?hy1⟩) hHeld ?rest1
  case hy1 => intro w9 hSw; have cc := cell_later HC.out.1 hSw; go_simp; (try with_reducible rfl)
  try simp only [Act.put, s_put, s_0, s_1]
  refine wpAnyH_take (i := 2) (oi := ⟨some 7, .fieldAddr 52 (.tmp 3) 0, 0, _, _, _⟩) (v := ?v2) rfl (by kernel_rfl) (by kernel_rfl) (by kernel_rfl) (fun _ _ _ h => h) (Or.inl ⟨by rfl, ?hy2⟩) hHeld ?rest2
  case hy2 => intro w9 hSw; go_simp; (try with_reducible rfl)
  try simp only [Act.put, s_put, s_0, s_1]
  refine wpAnyH_take (i := 3) (oi := ⟨some 8, .load 3 (.tmp 7), 3, _, _, _⟩) (v := ?v3) rfl (by kernel_rfl) (by kernel_rfl) (by kernel_rfl) (fun _ _ _ h => h) (Or.inl ⟨by rfl, ?hy3⟩) hHeld ?rest3
  case hy3 => intro w9 hSw; have cc := cell_later HC.out.2.2.2.1 hSw; go_simp; (try with_reducible rfl)
  try simp only [Act.put, s_put, s_0, s_1]
  refine wpAnyH_take (i := 5) (oi := ⟨some 10, .fieldAddr 52 (.tmp 2) 1, 0, _, _, _⟩) (v := ?v5) rfl (by kernel_rfl) (by kernel_rfl) (by kernel_rfl) (fun _ _ _ h => h) (Or.inl ⟨by rfl, ?hy5⟩) hHeld ?rest5
  case hy5 => intro w9 hSw; go_simp; (try with_reducible rfl)
  try simp only [Act.put, s_put, s_0, s_1]
  refine wpAnyH_take (i := 6) (oi := ⟨some 11, .load 2 (.tmp 10), 2, _, _, _⟩) (v := ?v6) rfl (by kernel_rfl) (by kernel_rfl) (by kernel_rfl) (fun _ _ _ h => h) (Or.inl ⟨by rfl, ?hy6⟩) hHeld ?rest6
  case hy6 => intro w9 hSw; have cc := cell_later HC.out.2.1 hSw; go_simp; (try with_reducible rfl)
  try simp only [Act.put, s_put, s_0, s_1]
  refine wpAnyH_take (i := 7) (oi := ⟨some 12, .fieldAddr 52 (.tmp 3) 1, 0, _, _, _⟩) (v := ?v7) rfl (by kernel_rfl) (by kernel_rfl) (by kernel_rfl) (fun _ _ _ h => h) (Or.inl ⟨by rfl, ?hy7⟩) hHeld ?rest7
  case hy7 => intro w9 hSw; go_simp; (try with_reducible rfl)
  try simp only [Act.put, s_put, s_0, s_1]
  refine wpAnyH_take (i := 8) (oi := ⟨some 13, .load 2 (.tmp 12), 2, _, _, _⟩) (v := ?v8) rfl (by kernel_rfl) (by kernel_rfl) (by kernel_rfl) (fun _ _ _ h => h) (Or.inl ⟨by rfl, ?hy8⟩) hHeld ?rest8
  case hy8 => intro w9 hSw; have cc := cell_later HC.out.2.2.2.2.1 hSw; go_simp; (try with_reducible rfl)
  try simp only [Act.put, s_put, s_0, s_1]
  refine wpAnyH_take (i := 10) (oi := ⟨some 15, .fieldAddr 52 (.tmp 2) 2, 0, _, _, _⟩) (v := ?v10) rfl (by kernel_rfl) (by kernel_rfl) (by kernel_rfl) (fun _ _ _ h => h) (Or.inl ⟨by rfl, ?hy10⟩) hHeld ?rest10
  case hy10 => intro w9 hSw; go_simp; (try with_reducible rfl)
  try simp only [Act.put, s_put, s_0, s_1]
  refine wpAnyH_take (i := 11) (oi := ⟨some 16, .load 9 (.tmp 15), 9, _, _, _⟩) (v := ?v11) rfl (by kernel_rfl) (by kernel_rfl) (by kernel_rfl) (fun _ _ _ h => h) (Or.inl ⟨by rfl, ?hy11⟩) hHeld ?rest11
  case hy11 => intro w9 hSw; have cc := cell_later HC.out.2.2.1 hSw; go_simp; (try with_reducible rfl)
  try simp only [Act.put, s_put, s_0, s_1]
  refine wpAnyH_take (i := 12) (oi := ⟨some 17, .fieldAddr 52 (.tmp 3) 2, 0, _, _, _⟩) (v := ?v12) rfl (by kernel_rfl) (by kernel_rfl) (by kernel_rfl) (fun _ _ _ h => h) (Or.inl ⟨by rfl, ?hy12⟩) hHeld ?rest12
  case hy12 => intro w9 hSw; go_simp; (try with_reducible rfl)
  try simp only [Act.put, s_put, s_0, s_1]
  refine wpAnyH_take (i := 13) (oi := ⟨some 18, .load 9 (.tmp 17), 9, _, _, _⟩) (v := ?v13) rfl (by kernel_rfl) (by kernel_rfl) (by kernel_rfl) (fun _ _ _ h => h) (Or.inl ⟨by rfl, ?hy13⟩) hHeld ?rest13
  case hy13 => intro w9 hSw; have cc := cell_later HC.out.2.2.2.2.2 hSw; go_simp; (try with_reducible rfl)
  try simp only [Act.put, s_put, s_0, s_1]
  refine wpAnyH_ready (rs := [4]) (by kernel_rfl) (by simp) ?_
  refine AllReadyH.cons (o := ⟨some 9, .call { callee := .value (.func 197), args := #[.tmp 6, .tmp 8], argTypes := #[3, 3] }, 3, _, _, _⟩) rfl (fun K hK => ?_) AllReadyH.nil
  go_simp
  refine (cmpInt_any _ _ _).mono ?_
  rintro e x4 ⟨rfl, hx4⟩
  replace hx4 := hx4.symm
  subst hx4
  go_wp2_with fail
  refine hK.out _ _ hHeld (fun _ => ?_)
  clear hK K
  try simp only [Act.put, s_put, s_0, s_1]
  refine wpAnyH_ready (rs := [9]) (by kernel_rfl) (by simp) ?_
  refine AllReadyH.cons (o := ⟨some 14, .call { callee := .value (.func 210), args := #[.tmp 11, .tmp 13], argTypes := #[2, 2] }, 3, _, _, _⟩) rfl (fun K hK => ?_) AllReadyH.nil
  go_simp
  refine (cmpInt64_any _ _ _).mono ?_
  rintro e x9 ⟨rfl, hx9⟩
  replace hx9 := hx9.symm
  subst hx9
  go_wp2_with fail
  refine hK.out _ _ hHeld (fun _ => ?_)
  clear hK K
  try simp only [Act.put, s_put, s_0, s_1]
  refine wpAnyH_ready (rs := [14]) (by kernel_rfl) (by simp) ?_
  refine AllReadyH.cons (o := ⟨some 19, .call { callee := .value (.func 199), args := #[.tmp 16, .tmp 18], argTypes := #[9, 9] }, 3, _, _, _⟩) rfl (fun K hK => ?_) AllReadyH.nil
  go_simp
  refine (cmpStr_any _ _ _).mono ?_
  rintro e x14 ⟨rfl, hx14⟩
  replace hx14 := hx14.symm
  subst hx14
  go_wp2_with fail
  refine hK.out _ _ hHeld (fun _ => ?_)
  clear hK K
  try simp only [Act.put, s_put, s_0, s_1]
  refine wpAnyH_ready (rs := [15]) (by kernel_rfl) (by simp) ?_
  refine AllReadyH.cons (o := ⟨some 20, .buildSlice 39 3 #[(0, .tmp 9), (1, .tmp 14), (2, .tmp 19)], 39, _, _, _⟩) rfl (fun K hK => ?_) AllReadyH.nil
  go_simp
  have hT15 := hHeld.alloc hHeld.size (.cells #[.int .i64 (cmpI k k'), .int .i64 (cmpI n n'), .int .i64 (cmpS s s')] 3)
  refine hK.out _ _ hT15 (fun _ => ?_)
  clear hK K hHeld hT
  have hHeld := hT15
  clear hT15
  have C16 : Calls Tryz.prog 196 #[.slice (some ⟨d.heap.size, 0, none⟩) 3 3] (d.alloc (.cells #[.int .i64 (cmpI k k'), .int .i64 (cmpI n n'), .int .i64 (cmpS s s')] 3)) fun e w' => e = .returned (.int .i64 (ordZ k n s k' n' s')) ∧ w' = (d.alloc (.cells #[.int .i64 (cmpI k k'), .int .i64 (cmpI n n'), .int .i64 (cmpS s s')] 3)) := or_three d.heap.size (cmpI k k') (cmpI n n') (cmpS s s') _ (by simp) (by simp) (by simp)
  generalize d.alloc (.cells #[.int .i64 (cmpI k k'), .int .i64 (cmpI n n'), .int .i64 (cmpS s s')] 3) = D at hHeld C16 ⊢
  refine wpAnyH_ready (rs := [16]) (by kernel_rfl) (by simp) ?_
  refine AllReadyH.cons (o := ⟨some 21, .call { callee := .value (.func 196), args := #[.tmp 20], argTypes := #[39] }, 3, _, _, _⟩) rfl (fun K hK => ?_) AllReadyH.nil
  go_simp
  refine (C16).mono ?_
  rintro e x16 ⟨rfl, hx16⟩
  replace hx16 := hx16.symm
  subst hx16
  go_wp2_with fail
  refine hK.out _ _ hHeld (fun _ => ?_)
  clear hK K
  try simp only [Act.put, s_put, s_0, s_1]
  refine wpAnyH_take (i := 17) (oi := ⟨some 4, .assign (.tmp 21), 3, _, _, _⟩) (v := ?v17) rfl (by kernel_rfl) (by kernel_rfl) (by kernel_rfl) (fun _ _ _ h => h) (Or.inl ⟨by rfl, ?hy17⟩) hHeld ?rest17
  case hy17 => intro w9 hSw; go_simp; (try with_reducible rfl)
  try simp only [Act.put, s_put, s_0, s_1]
  refine wpAnyH_done (by kernel_rfl) ?_ _
  refine NoPanic.normal ?_
  go_wp2
  go_ret
  exact ⟨rfl, hW0.trans (hHeld.mono hW0.size)⟩
end Go.Proofs.YtkfpgkohkhhlhaaGreatDoor
namespace Go.Proofs.YtkfpgkohkhhlhaaGreatDoor
open Go.RowKit

set_option maxHeartbeats 400000 in
theorem right_text0 (s : ByteArray) (w : World) (hl : ¬ 256 < (s.size : Int)) : Calls Tryz.prog 171 #[valV 3 0 s] w fun e w' => e = .returned (.bool true) ∧ Below w.heap.size w w' := by
  have HL : Hid _ := hl
  clear hl
  go_enter Tryz.func171, Tryz.ntmps171
  go_wp2_with fail
  go_region_with (first | (go_at_call 195; refine (text_short _ _ HL.out).mono ?_; rintro e w1 ⟨rfl, rfl⟩))
  all_goals go_wp2
  all_goals go_ret
  all_goals exact ⟨rfl, below_two _ _ _⟩
set_option maxHeartbeats 400000 in
theorem right_text1 (n : Int) (s : ByteArray) (w : World) (hn : (n == 0) = false) (hl : ¬ 256 < (s.size : Int)) : Calls Tryz.prog 171 #[valV 3 n s] w fun e w' => e = .returned (.bool false) ∧ Below w.heap.size w w' := by
  have HL : Hid _ := hl
  clear hl
  go_enter Tryz.func171, Tryz.ntmps171
  go_wp2_with fail
  go_region_with (first | (go_at_call 195; refine (text_short _ _ HL.out).mono ?_; rintro e w1 ⟨rfl, rfl⟩))
  all_goals go_wp2
  all_goals go_ret
  all_goals exact ⟨rfl, below_two _ _ _⟩
set_option maxHeartbeats 400000 in
theorem right_text2 (n : Int) (s : ByteArray) (w : World) (hl : 256 < (s.size : Int)) : Calls Tryz.prog 171 #[valV 3 n s] w fun e w' => e = .returned (.bool false) ∧ Below w.heap.size w w' := by
  have HL : Hid _ := hl
  clear hl
  go_enter Tryz.func171, Tryz.ntmps171
  go_wp2_with fail
  go_region_with (first | (go_at_call 195; refine (text_long _ _ HL.out).mono ?_; rintro e w1 ⟨rfl, rfl⟩))
  all_goals go_wp2
  all_goals go_ret
  all_goals exact ⟨rfl, below_three _ _ _ _⟩
/-- The word 'right'. -/
def rightB (k n : Int) (s : ByteArray) : Bool :=
  if k = 0 then decide (n = 0) && s.toList == []
  else if k = 1 then (decide (n = 0) || decide (n = 1)) && s.toList == []
  else if k = 2 then s.toList == []
  else if k = 3 then decide (n = 0) && decide (s.size ≤ 256)
  else false

theorem empty_str {s : ByteArray} (h : (s.toList == []) = true) : s = ⟨#[]⟩ := by
  rw [ByteArray.toList_eq] at h
  obtain ⟨⟨x⟩⟩ := s
  cases x with
  | nil => rfl
  | cons a l => simp at h
theorem right_any (k n : Int) (s : ByteArray) (w : World) : Calls Tryz.prog 171 #[valV k n s] w fun e w' => e = .returned (.bool (rightB k n s)) ∧ Below w.heap.size w w' := by
  unfold rightB
  by_cases h0 : k = 0
  · subst h0
    rw [if_pos rfl]
    by_cases hn : n = 0
    · subst hn
      cases hs : s.toList == [] with
      | true => obtain rfl := empty_str hs; simpa using right_null0 w
      | false => simpa using right_null2 s w hs
    · simpa [hn] using right_null1 n s w (by simpa using hn)
  · rw [if_neg h0]
    by_cases h1 : k = 1
    · subst h1
      rw [if_pos rfl]
      by_cases hn : n = 0
      · subst hn
        cases hs : s.toList == [] with
        | true => obtain rfl := empty_str hs; simpa using right_bool0 w
        | false => simpa using right_bool2 s w hs
      · by_cases hm : n = 1
        · subst hm
          cases hs : s.toList == [] with
          | true => obtain rfl := empty_str hs; simpa using right_bool1 w
          | false => simpa using right_bool3 s w hs
        · simpa [hn, hm] using right_bool4 n s w (by simpa using hn) (by simpa using hm)
    · rw [if_neg h1]
      by_cases h2 : k = 2
      · subst h2
        rw [if_pos rfl]
        cases hs : s.toList == [] with
        | true => obtain rfl := empty_str hs; exact right_int0 n w
        | false => exact right_int1 n s w hs
      · rw [if_neg h2]
        by_cases h3 : k = 3
        · subst h3
          rw [if_pos rfl]
          by_cases hl : 256 < (s.size : Int)
          · have e : decide (s.size ≤ 256) = false := decide_eq_false (by omega)
            rw [e, Bool.and_false]
            exact right_text2 n s w hl
          · have e : decide (s.size ≤ 256) = true := decide_eq_true (by omega)
            rw [e, Bool.and_true]
            by_cases hn : n = 0
            · subst hn; exact right_text0 s w hl
            · rw [decide_eq_false hn]; exact right_text1 n s w (by simpa using hn) hl
        · rw [if_neg h3]
          exact right_none k n s w (by simpa using h0) (by simpa using h1) (by simpa using h2) (by simpa using h3)
end Go.Proofs.YtkfpgkohkhhlhaaGreatDoor
namespace Go.Proofs.YtkfpgkohkhhlhaaGreatDoor
open Go.RowKit

theorem less_irrefl : ∀ l : List UInt8, Op.bytesLess l l = false
  | [] => rfl
  | a :: l => by simp [Op.bytesLess, less_irrefl l, UInt8.lt_irrefl]
theorem less_total : ∀ l m : List UInt8, l ≠ m → Op.bytesLess l m = !Op.bytesLess m l
  | [], [], h => absurd rfl h
  | [], b :: m, _ => by simp [Op.bytesLess]
  | a :: l, [], _ => by simp [Op.bytesLess]
  | a :: l, b :: m, h => by
    simp only [Op.bytesLess]
    by_cases hab : a = b
    · subst hab
      have := less_total l m (fun e => h (by rw [e]))
      simp [UInt8.lt_irrefl, this]
    · have hba : ¬ b = a := fun e => hab e.symm
      have h1 : (a == b) = false := by simpa using hab
      have h2 : (b == a) = false := by simpa using hba
      rw [h1, h2]
      rcases UInt8.lt_or_lt_of_ne hab with h3 | h3
      · simp [h3, UInt8.lt_asymm h3]
      · simp [h3, UInt8.lt_asymm h3]
theorem less_trans : ∀ l m r : List UInt8, Op.bytesLess l m = true → Op.bytesLess m r = true → Op.bytesLess l r = true
  | _, [], _, h, _ => by simp [Op.bytesLess] at h
  | _, _ :: _, [], _, h => by simp [Op.bytesLess] at h
  | [], _ :: _, _ :: _, _, _ => by simp [Op.bytesLess]
  | a :: l, b :: m, c :: r, h1, h2 => by
    simp only [Op.bytesLess, Bool.or_eq_true, decide_eq_true_eq, Bool.and_eq_true, beq_iff_eq] at h1 h2 ⊢
    rcases h1 with h1 | ⟨rfl, h1⟩
    · rcases h2 with h2 | ⟨rfl, h2⟩
      · exact .inl (UInt8.lt_trans h1 h2)
      · exact .inl h1
    · rcases h2 with h2 | ⟨rfl, h2⟩
      · exact .inl h2
      · exact .inr ⟨rfl, less_trans l m r h1 h2⟩

/-- Two texts: what cmpS says of their bytes. -/
theorem cmpS_cases (s t : ByteArray) : (cmpS s t = -1 ∧ Op.bytesLess s.toList t.toList = true ∧ s.toList ≠ t.toList) ∨ (cmpS s t = 0 ∧ s.toList = t.toList) ∨ (cmpS s t = 1 ∧ Op.bytesLess t.toList s.toList = true ∧ s.toList ≠ t.toList) := by
  unfold cmpS
  by_cases h : s.toList = t.toList
  · rw [h]; simp [less_irrefl]
  · have := less_total _ _ h
    cases h1 : Op.bytesLess s.toList t.toList with
    | true => simp [h]
    | false =>
      rw [h1] at this
      have h2 : Op.bytesLess t.toList s.toList = true := by simpa using this
      simp [h, h2]
theorem cmpI_cases (a b : Int) : (cmpI a b = -1 ∧ a < b) ∨ (cmpI a b = 0 ∧ a = b) ∨ (cmpI a b = 1 ∧ b < a) := by
  unfold cmpI
  by_cases h : a < b
  · simp [h]
  · by_cases h' : b < a
    · simp [h, h']
    · exact .inr (.inl ⟨by simp [h, h'], by omega⟩)

variable (k n : Int) (s : ByteArray) (k' n' : Int) (s' : ByteArray) (k2 n2 : Int) (s2 : ByteArray)
end Go.Proofs.YtkfpgkohkhhlhaaGreatDoor
namespace Go.Proofs.YtkfpgkohkhhlhaaGreatDoor
open Go.RowKit

/-- A value. -/
structure Val where
  k : Int
  n : Int
  s : ByteArray
abbrev Val.v (x : Val) : Value := valV x.k x.n x.s
def val0 : Val := ⟨0, 0, ⟨#[]⟩⟩
/-- The place of the first of some names that is this one. -/
def idx (Nm : Nat → ByteArray) (s : ByteArray) : Nat → Option Nat
  | 0 => none
  | n + 1 => match idx Nm s n with
    | some i => some i
    | none => if Nm n = s then some n else none
theorem idx_some (Nm : Nat → ByteArray) (s : ByteArray) : ∀ (n i : Nat), idx Nm s n = some i → i < n ∧ Nm i = s ∧ ∀ j, j < i → ¬ Nm j = s
  | 0, i, h => by simp [idx] at h
  | n + 1, i, h => by
    simp only [idx] at h
    split at h
    · rename_i j hj
      cases h
      have := idx_some Nm s n i hj
      exact ⟨by omega, this.2⟩
    · rename_i hj
      split at h
      · rename_i e
        cases h
        refine ⟨by omega, e, ?_⟩
        intro j hj' he
        have hnone : ∀ m, idx Nm s m = none → ∀ j, j < m → ¬ Nm j = s := by
          intro m
          induction m with
          | zero => intro _ j hj; omega
          | succ m ih =>
            intro hm j hj
            simp only [idx] at hm
            split at hm
            · cases hm
            · rename_i hi
              split at hm
              · cases hm
              · rename_i e2
                by_cases ej : j = m
                · exact ej ▸ e2
                · exact ih hi j (by omega)
        exact hnone n hj j hj' he
      · cases h
theorem idx_none (Nm : Nat → ByteArray) (s : ByteArray) : ∀ (n : Nat), idx Nm s n = none → ∀ j, j < n → ¬ Nm j = s
  | 0, _, j, hj => by omega
  | n + 1, h, j, hj => by
    simp only [idx] at h
    split at h
    · cases h
    · rename_i hi
      split at h
      · cases h
      · rename_i e2
        by_cases ej : j = n
        · exact ej ▸ e2
        · exact idx_none Nm s n hi j (by omega)
theorem idx_at (Nm : Nat → ByteArray) (s : ByteArray) (n i : Nat) (hi : i < n) (he : Nm i = s) (hl : ∀ j, j < i → ¬ Nm j = s) : idx Nm s n = some i := by
  cases e : idx Nm s n with
  | none => exact absurd he (idx_none Nm s n e i hi)
  | some k =>
    obtain ⟨_, h2, h3⟩ := idx_some Nm s n k e
    rcases Nat.lt_trichotomy k i with h | h | h
    · exact absurd h2 (hl k h)
    · rw [h]
    · exact absurd he (h3 i h)
end Go.Proofs.YtkfpgkohkhhlhaaGreatDoor
namespace Go.Proofs.YtkfpgkohkhhlhaaGreatDoor
open Go.RowKit

/-- A condition: its kind, value, Var and Field; its parts' slice (where it lies, how many, how much room) and the parts. -/
inductive X where
  | nil : X
  | mk (k : Int) (v : Val) (s f : ByteArray) (a : Option Addr) (n cap : Nat) (c : Nat → X) : X
def X.k : X → Int | .nil => 0 | .mk k .. => k
def X.v : X → Val | .nil => val0 | .mk _ v .. => v
def X.s : X → ByteArray | .nil => ⟨#[]⟩ | .mk _ _ s .. => s
def X.f : X → ByteArray | .nil => ⟨#[]⟩ | .mk _ _ _ f .. => f
def X.a : X → Option Addr | .nil => none | .mk _ _ _ _ a .. => a
def X.n : X → Nat | .nil => 0 | .mk _ _ _ _ _ n .. => n
def X.cap : X → Nat | .nil => 0 | .mk _ _ _ _ _ _ cap _ => cap
def X.c : X → Nat → X | .nil => fun _ => .nil | .mk _ _ _ _ _ _ _ c => c
theorem X.ind {P : X → Prop} (h : ∀ x, (∀ i, i < x.n → P (x.c i)) → P x) : ∀ x, P x
  | .nil => h .nil fun _ hi => absurd hi (Nat.not_lt_zero _)
  | .mk k v s f a n cap c => h (.mk k v s f a n cap c) fun i _ => X.ind h (c i)

/-- The first of the first that is not 0. -/
def lexN (f : Nat → Int) : Nat → Int
  | 0 => 0
  | n + 1 => if lexN f n = 0 then f n else lexN f n
def orI (a b : Int) : Int := if a = 0 then b else a
def X.size : X → Nat
  | .nil => 1
  | .mk _ _ _ _ _ n _ c => 1 + sumN (fun i => (c i).size) n
def X.deep : X → Nat
  | .nil => 1
  | .mk _ _ _ _ _ n _ c => maxN (fun i => (c i).deep) n + 1
theorem X.size_eq (x : X) : x.size = 1 + sumN (fun i => (x.c i).size) x.n := by cases x <;> rfl
theorem X.deep_eq (x : X) : x.deep = maxN (fun i => (x.c i).deep) x.n + 1 := by cases x <;> rfl
theorem X.size_part (x : X) (i : Nat) (h : i < x.n) : (x.c i).size < x.size := by
  have := sumN_le (f := fun i => (x.c i).size) h
  rw [x.size_eq]
  omega
theorem X.size_pos (x : X) : 1 ≤ x.size := by rw [x.size_eq]; omega
def ordV (x y : Val) : Int := ordZ x.k x.n x.s y.k y.n y.s
/-- What an order's three answers of three things have to be. -/
def Comp (f g h : Int) : Prop := (f = 0 → g = 0 → h = 0) ∧ (f < 0 → g ≤ 0 → h < 0) ∧ (f ≤ 0 → g < 0 → h < 0)
theorem Comp.or {f g h f' g' h' : Int} (c : Comp f g h) (d : f = 0 → g = 0 → Comp f' g' h') : Comp (orI f f') (orI g g') (orI h h') := by
  obtain ⟨c1, c2, c3⟩ := c
  unfold orI
  by_cases hf : f = 0
  · by_cases hg : g = 0
    · have hh := c1 hf hg
      rw [if_pos hf, if_pos hg, if_pos hh]
      exact d hf hg
    · rw [if_pos hf, if_neg hg]
      refine ⟨fun h1 h2 => absurd h2 hg, fun h1 h2 => ?_, fun h1 h2 => ?_⟩
      · have := c3 (by omega) (by omega); rw [if_neg (by omega)]; exact this
      · have := c3 (by omega) (by omega); rw [if_neg (by omega)]; exact this
  · rw [if_neg hf]
    refine ⟨fun h1 => absurd h1 hf, fun h1 h2 => ?_, fun h1 h2 => ?_⟩
    · have : h < 0 := c2 h1 (by split at h2 <;> omega)
      rw [if_neg (by omega)]; exact this
    · have : h < 0 := c2 (by omega) (by split at h2 <;> omega)
      rw [if_neg (by omega)]; exact this
theorem Comp.lex {f g h : Nat → Int} : ∀ {n : Nat}, (∀ i, i < n → Comp (f i) (g i) (h i)) → Comp (lexN f n) (lexN g n) (lexN h n)
  | 0, _ => ⟨fun _ _ => rfl, fun h => by simp [lexN] at h, fun _ h => by simp [lexN] at h⟩
  | n + 1, c => (Comp.lex fun i hi => c i (by omega)).or fun _ _ => c n (by omega)
theorem cmpS_zero {s t : ByteArray} (h : cmpS s t = 0) : s = t := by
  rcases cmpS_cases s t with h1 | h1 | h1
  · omega
  · have := h1.2
    rw [ByteArray.toList_eq, ByteArray.toList_eq] at this
    exact ByteArray.ext (Array.ext' this)
  · omega
theorem cmpS_self (s : ByteArray) : cmpS s s = 0 := by
  rcases cmpS_cases s s with h1 | h1 | h1
  · exact absurd rfl h1.2.2
  · exact h1.1
  · exact absurd rfl h1.2.2
theorem cmpS_turn (s t : ByteArray) : cmpS t s = -cmpS s t := by
  rcases cmpS_cases s t with h1 | h1 | h1 <;> rcases cmpS_cases t s with h2 | h2 | h2
  · have := less_trans _ _ _ h1.2.1 h2.2.1; rw [less_irrefl] at this; cases this
  · exact absurd h2.2.symm h1.2.2
  · omega
  · exact absurd h1.2.symm h2.2.2
  · omega
  · exact absurd h1.2.symm h2.2.2
  · omega
  · exact absurd h2.2.symm h1.2.2
  · have := less_trans _ _ _ h1.2.1 h2.2.1; rw [less_irrefl] at this; cases this
theorem cmpS_comp (s t r : ByteArray) : Comp (cmpS s t) (cmpS t r) (cmpS s r) := by
  have key : cmpS s t = -1 → cmpS t r = -1 → cmpS s r = -1 := by
    intro h1 h2
    rcases cmpS_cases s t with a | a | a <;> rcases cmpS_cases t r with b | b | b <;> first | omega | skip
    have := less_trans _ _ _ a.2.1 b.2.1
    rcases cmpS_cases s r with c | c | c
    · exact c.1
    · rw [c.2, less_irrefl] at this; cases this
    · have h3 := less_trans _ _ _ this c.2.1; rw [less_irrefl] at h3; cases h3
  have zl : cmpS s t = 0 → cmpS s r = cmpS t r := fun h => by rw [cmpS_zero h]
  have zr : cmpS t r = 0 → cmpS s r = cmpS s t := fun h => by rw [cmpS_zero h]
  have a := cmpS_cases s t
  have b := cmpS_cases t r
  have a' : cmpS s t = -1 ∨ cmpS s t = 0 ∨ cmpS s t = 1 := by rcases a with h | h | h <;> simp [h.1]
  have b' : cmpS t r = -1 ∨ cmpS t r = 0 ∨ cmpS t r = 1 := by rcases b with h | h | h <;> simp [h.1]
  clear a b
  refine ⟨fun h1 h2 => by rw [zl h1]; exact h2, fun h1 h2 => ?_, fun h1 h2 => ?_⟩
  · by_cases e : cmpS t r = 0
    · rw [zr e]; exact h1
    · have := key (by omega) (by omega); omega
  · by_cases e : cmpS s t = 0
    · rw [zl e]; exact h2
    · have := key (by omega) (by omega); omega
theorem cmpI_zero {a b : Int} (h : cmpI a b = 0) : a = b := by
  rcases cmpI_cases a b with h1 | h1 | h1 <;> omega
theorem cmpI_self (a : Int) : cmpI a a = 0 := by unfold cmpI; simp
theorem ordV_eq (x y : Val) : ordV x y = orI (cmpI x.k y.k) (orI (cmpI x.n y.n) (cmpS x.s y.s)) := by
  unfold ordV ordZ orI
  by_cases h1 : cmpI x.k y.k = 0
  · by_cases h2 : cmpI x.n y.n = 0
    · simp [h1, h2]
    · simp [h1, h2]
  · simp [h1]
theorem orI_zero {a b : Int} : orI a b = 0 ↔ a = 0 ∧ b = 0 := by
  unfold orI
  by_cases h : a = 0
  · simp [h]
  · simp [h]
theorem lexN_zero {f : Nat → Int} : ∀ {n : Nat}, lexN f n = 0 ↔ ∀ i, i < n → f i = 0
  | 0 => by simp [lexN]
  | n + 1 => by
    show orI (lexN f n) (f n) = 0 ↔ _
    rw [orI_zero, lexN_zero]
    constructor
    · rintro ⟨h1, h2⟩ i hi
      by_cases e : i = n
      · exact e ▸ h2
      · exact h1 i (by omega)
    · exact fun h => ⟨fun i hi => h i (by omega), h n (by omega)⟩
theorem ordV_zero {x y : Val} : ordV x y = 0 ↔ x = y := by
  rw [ordV_eq, orI_zero, orI_zero]
  constructor
  · rintro ⟨h1, h2, h3⟩
    cases x; cases y
    simp only at h1 h2 h3
    rw [cmpI_zero h1, cmpI_zero h2, cmpS_zero h3]
  · rintro rfl
    exact ⟨cmpI_self _, cmpI_self _, cmpS_self _⟩
end Go.Proofs.YtkfpgkohkhhlhaaGreatDoor
namespace Go.Proofs.YtkfpgkohkhhlhaaGreatDoor
open Go.RowKit

/-- Names by their bytes, each once. -/
def Sorted : List ByteArray → Prop
  | [] => True
  | a :: l => (∀ b ∈ l, cmpS a b < 0) ∧ Sorted l
/-- One into sorted ones, once. -/
def intoL (s : ByteArray) : List ByteArray → List ByteArray
  | [] => [s]
  | a :: l => if cmpS s a < 0 then s :: a :: l else if cmpS s a = 0 then a :: l else a :: intoL s l
theorem mem_into (s x : ByteArray) : ∀ l : List ByteArray, x ∈ intoL s l ↔ x = s ∨ x ∈ l
  | [] => by simp [intoL]
  | a :: l => by
    simp only [intoL]
    split
    · simp
    · split
      · rename_i h
        have := cmpS_zero h
        subst this
        simp
      · simp only [List.mem_cons, mem_into s x l]
        constructor
        · rintro (h | h | h)
          · exact .inr (.inl h)
          · exact .inl h
          · exact .inr (.inr h)
        · rintro (h | h | h)
          · exact .inr (.inl h)
          · exact .inl h
          · exact .inr (.inr h)
theorem less_on {a b c : ByteArray} (h1 : cmpS a b < 0) (h2 : cmpS b c < 0) : cmpS a c < 0 := (cmpS_comp a b c).2.1 h1 (by omega)
theorem sorted_into (s : ByteArray) : ∀ l : List ByteArray, Sorted l → Sorted (intoL s l)
  | [], _ => ⟨fun b hb => by simp at hb, trivial⟩
  | a :: l, h => by
    simp only [intoL]
    split
    · rename_i hs
      refine ⟨fun b hb => ?_, h⟩
      rcases List.mem_cons.1 hb with rfl | hb
      · exact hs
      · exact less_on hs (h.1 b hb)
    · split
      · exact h
      · rename_i h1 h2
        refine ⟨fun b hb => ?_, sorted_into s l h.2⟩
        rcases (mem_into s b l).1 hb with rfl | hb
        · have := cmpS_turn a b; omega
        · exact h.1 b hb
/-- Sorted ones with the same names are the same. -/
theorem sorted_one : ∀ (l m : List ByteArray), Sorted l → Sorted m → (∀ x, x ∈ l ↔ x ∈ m) → l = m
  | [], [], _, _, _ => rfl
  | [], b :: m, _, _, h => absurd ((h b).2 (by simp)) (by simp)
  | a :: l, [], _, _, h => absurd ((h a).1 (by simp)) (by simp)
  | a :: l, b :: m, hl, hm, h => by
    have hab : a = b := by
      rcases List.mem_cons.1 ((h a).1 (by simp)) with e | e
      · exact e
      · rcases List.mem_cons.1 ((h b).2 (by simp)) with f | f
        · exact f.symm
        · have h1 := hm.1 a e
          have h2 := hl.1 b f
          have := cmpS_turn a b
          omega
    subst hab
    have not_mem : ∀ {l : List ByteArray}, (∀ b ∈ l, cmpS a b < 0) → a ∉ l := fun hb ha => by have := hb a ha; rw [cmpS_self] at this; omega
    rw [sorted_one l m hl.2 hm.2 fun x => ?_]
    constructor
    · intro hx
      rcases List.mem_cons.1 ((h x).1 (List.mem_cons_of_mem _ hx)) with e | e
      · subst e; exact absurd hx (not_mem hl.1)
      · exact e
    · intro hx
      rcases List.mem_cons.1 ((h x).2 (List.mem_cons_of_mem _ hx)) with e | e
      · subst e; exact absurd hx (not_mem hm.1)
      · exact e
theorem sorted_nodup : ∀ l : List ByteArray, Sorted l → l.Nodup
  | [], _ => List.nodup_nil
  | a :: l, h => List.nodup_cons.2 ⟨fun ha => by have := h.1 a ha; rw [cmpS_self] at this; omega, sorted_nodup l h.2⟩
/-- Names that are all among others are at most as many. -/
theorem nodup_le : ∀ (l m : List ByteArray), l.Nodup → (∀ x ∈ l, x ∈ m) → l.length ≤ m.length
  | [], _, _, _ => by simp
  | a :: l, m, h, hs => by
    obtain ⟨p, q, rfl⟩ := List.append_of_mem (hs a (by simp))
    obtain ⟨h1, h2⟩ := List.nodup_cons.1 h
    have := nodup_le l (p ++ q) h2 fun x hx => by
      have hm := hs x (List.mem_cons_of_mem _ hx)
      rw [List.mem_append, List.mem_cons] at hm
      rw [List.mem_append]
      rcases hm with hm | hm | hm
      · exact .inl hm
      · exact absurd (hm ▸ hx) h1
      · exact .inr hm
    simp only [List.length_cons, List.length_append] at this ⊢
    omega
/-- The names that a condition's fields have. -/
def hasVar (s : ByteArray) : X → Prop
  | .nil => False
  | .mk k _ v _ _ n _ c => (k = 2 ∧ v = s) ∨ ∃ i, i < n ∧ hasVar s (c i)
theorem hasVar_eq (s : ByteArray) (x : X) : hasVar s x ↔ (x.k = 2 ∧ x.s = s) ∨ ∃ i, i < x.n ∧ hasVar s (x.c i) := by
  cases x with
  | nil => simp [hasVar, X.k, X.n]
  | mk => exact Iff.rfl
/-- The document's Vars: those of the parts, one into the others. -/
def intoAll (l : List ByteArray) : List ByteArray → List ByteArray
  | [] => l
  | s :: m => intoAll (intoL s l) m
theorem mem_intoAll (x : ByteArray) : ∀ m l : List ByteArray, x ∈ intoAll l m ↔ x ∈ l ∨ x ∈ m
  | [], l => by simp [intoAll]
  | s :: m, l => by
    simp only [intoAll, mem_intoAll x m, mem_into, List.mem_cons]
    constructor
    · rintro ((h | h) | h)
      · exact .inr (.inl h)
      · exact .inl h
      · exact .inr (.inr h)
    · rintro (h | h | h)
      · exact .inl (.inr h)
      · exact .inl (.inl h)
      · exact .inr h
theorem sorted_intoAll : ∀ m l : List ByteArray, Sorted l → Sorted (intoAll l m)
  | [], _, h => h
  | s :: m, l, h => sorted_intoAll m _ (sorted_into s l h)
def accN (l : List ByteArray) (f : Nat → List ByteArray) : Nat → List ByteArray
  | 0 => l
  | n + 1 => intoAll (accN l f n) (f n)
def varsX : X → List ByteArray
  | .nil => []
  | .mk k _ s _ _ n _ c => accN (if k = 2 then [s] else []) (fun i => varsX (c i)) n
theorem mem_accN (x : ByteArray) (l : List ByteArray) (f : Nat → List ByteArray) : ∀ n, x ∈ accN l f n ↔ x ∈ l ∨ ∃ i, i < n ∧ x ∈ f i
  | 0 => by simp [accN]
  | n + 1 => by
    simp only [accN, mem_intoAll, mem_accN x l f n]
    constructor
    · rintro ((h | ⟨i, hi, h⟩) | h)
      · exact .inl h
      · exact .inr ⟨i, by omega, h⟩
      · exact .inr ⟨n, by omega, h⟩
    · rintro (h | ⟨i, hi, h⟩)
      · exact .inl (.inl h)
      · by_cases e : i = n
        · exact .inr (e ▸ h)
        · exact .inl (.inr ⟨i, by omega, h⟩)
theorem sorted_accN (l : List ByteArray) (f : Nat → List ByteArray) (h : Sorted l) : ∀ n, Sorted (accN l f n)
  | 0 => h
  | n + 1 => sorted_intoAll _ _ (sorted_accN l f h n)
theorem varsX_eq (x : X) : varsX x = accN (if x.k = 2 then [x.s] else []) (fun i => varsX (x.c i)) x.n := by cases x <;> rfl
theorem sorted_vars (x : X) : Sorted (varsX x) := by
  rw [varsX_eq]
  refine sorted_accN _ _ ?_ _
  split
  · exact ⟨fun b hb => by simp at hb, trivial⟩
  · trivial
theorem mem_vars (t : ByteArray) : ∀ x : X, t ∈ varsX x ↔ hasVar t x := by
  refine X.ind fun x ih => ?_
  rw [varsX_eq, mem_accN, hasVar_eq]
  constructor
  · rintro (h | ⟨i, hi, h⟩)
    · split at h
      · rename_i hk
        simp at h
        exact .inl ⟨hk, h.symm⟩
      · simp at h
    · exact .inr ⟨i, hi, (ih i hi).1 h⟩
  · rintro (⟨hk, e⟩ | ⟨i, hi, h⟩)
    · exact .inl (by rw [if_pos hk]; simp [e])
    · exact .inr ⟨i, hi, (ih i hi).2 h⟩
/-- Sorted names that are just a condition's are what Vars tells. -/
theorem vars_one (l : List ByteArray) (x : X) (h : Sorted l) (hm : ∀ t, t ∈ l ↔ hasVar t x) : l = varsX x :=
  sorted_one l (varsX x) h (sorted_vars x) fun t => (hm t).trans (mem_vars t x).symm
end Go.Proofs.YtkfpgkohkhhlhaaGreatDoor
namespace Go.Proofs.YtkfpgkohkhhlhaaGreatDoor
open Go.RowKit Go.Maps Go.WideMaps

/-- Strings are the same. -/
theorem same_str (s t : ByteArray) : (s.toList == t.toList) = decide (s = t) := by
  by_cases h : s = t
  · subst h; simp
  · rw [decide_eq_false h, beq_eq_false_iff_ne]
    intro he
    apply h
    rw [ByteArray.toList_eq, ByteArray.toList_eq] at he
    exact ByteArray.ext (Array.ext' he)
theorem str_yes {s t : ByteArray} (h : s = t) : (s.toList == t.toList) = true := by rw [same_str]; exact decide_eq_true h
theorem str_not {s t : ByteArray} (h : ¬ s = t) : (s.toList == t.toList) = false := by rw [same_str]; exact decide_eq_false h
theorem str_law : Keyed Tryz.prog 9 := string_keyed Tryz.underlying9
/-- A name as a key. -/
abbrev keyS (s : ByteArray) : Lit := .string s.data.toList
theorem keyS_ne {s t : ByteArray} (h : ¬ s = t) : keyS s ≠ keyS t := by
  intro e
  injection e with e
  exact h (ByteArray.ext (Array.ext' e))
/-- Below, on and on. -/
theorem bd {w w1 : World} (h : Below w.heap.size w w1) (n : Nat) : Below w.heap.size w (w1.drewN n) := h.trans ⟨rfl, rfl, rfl, Nat.le_refl _, fun _ _ => rfl⟩
end Go.Proofs.YtkfpgkohkhhlhaaGreatDoor
namespace Go.Proofs.YtkfpgkohkhhlhaaGreatDoor
open Go.RowKit

abbrev X.slice (x : X) : Value := .slice x.a x.n x.cap
/-- A condition as a value. -/
abbrev X.val (x : X) : Value := .agg #[.int .i64 x.k, .int .i64 x.v.k, .int .i64 x.v.n, .string x.v.s, .string x.s, .string x.f, .slice x.a x.n x.cap]
/-- The seven cells of a node. -/
def Node (w : World) (b o : Nat) (x : X) : Prop :=
  w.cell? ⟨b, o, none⟩ = some (.int .i64 x.k) ∧ w.cell? ⟨b, o + 1, none⟩ = some (.int .i64 x.v.k) ∧ w.cell? ⟨b, o + 2, none⟩ = some (.int .i64 x.v.n) ∧ w.cell? ⟨b, o + 3, none⟩ = some (.string x.v.s) ∧
    w.cell? ⟨b, o + 4, none⟩ = some (.string x.s) ∧ w.cell? ⟨b, o + 5, none⟩ = some (.string x.f) ∧ w.cell? ⟨b, o + 6, none⟩ = some (.slice x.a x.n x.cap)
/-- All that lies below a condition. -/
def IsX (w : World) : X → Prop
  | .nil => True
  | .mk _ _ _ _ a n cap c => n ≤ cap ∧ cap ≤ 9223372036854775807 ∧ ∀ i, i < n → ∃ b o, a = some ⟨b, o, none⟩ ∧ Node w b (o + i * 7) (c i) ∧ IsX w (c i)
theorem isX_eq (w : World) (x : X) : IsX w x ↔ x.n ≤ x.cap ∧ x.cap ≤ 9223372036854775807 ∧ ∀ i, i < x.n → ∃ b o, x.a = some ⟨b, o, none⟩ ∧ Node w b (o + i * 7) (x.c i) ∧ IsX w (x.c i) := by
  cases x with
  | nil => simp [IsX, X.n, X.cap]
  | mk => rfl
theorem IsX.part {w : World} {x : X} (h : IsX w x) {i : Nat} (hi : i < x.n) : ∃ b o, x.a = some ⟨b, o, none⟩ ∧ Node w b (o + i * 7) (x.c i) ∧ IsX w (x.c i) := ((isX_eq w x).1 h).2.2 i hi
theorem IsX.len {w : World} {x : X} (h : IsX w x) : x.n ≤ 9223372036854775807 := by have := (isX_eq w x).1 h; omega
theorem Node.of {w w' : World} {b o : Nat} {x : X} (h : Node w b o x) (hk : ∀ j, j < 7 → w'.cell? ⟨b, o + j, none⟩ = w.cell? ⟨b, o + j, none⟩) : Node w' b o x :=
  ⟨(hk 0 (by omega)).trans h.1, (hk 1 (by omega)).trans h.2.1, (hk 2 (by omega)).trans h.2.2.1, (hk 3 (by omega)).trans h.2.2.2.1, (hk 4 (by omega)).trans h.2.2.2.2.1, (hk 5 (by omega)).trans h.2.2.2.2.2.1, (hk 6 (by omega)).trans h.2.2.2.2.2.2⟩
theorem Node.lt {w : World} {b o : Nat} {x : X} (h : Node w b o x) : b < w.heap.size := by
  have h0 := h.1
  simp only [World.cell?] at h0
  by_cases hb : b < w.heap.size
  · exact hb
  · rw [Array.getElem?_eq_none (by omega)] at h0
    cases h0
theorem Node.later {w w' : World} {b o : Nat} {x : X} (h : Node w b o x) (hB : Below w.heap.size w w') : Node w' b o x := h.of fun j _ => hB.cell (p := ⟨b, o + j, none⟩) h.lt
theorem IsX.later {w w' : World} (hB : Below w.heap.size w w') : ∀ {x : X}, IsX w x → IsX w' x
  | .nil, _ => trivial
  | .mk _ _ _ _ _ _ _ c, h => by
    obtain ⟨h1, h2, h3⟩ := h
    refine ⟨h1, h2, fun i hi => ?_⟩
    obtain ⟨b, o, e, hn, hx⟩ := h3 i hi
    exact ⟨b, o, e, hn.later hB, IsX.later hB hx⟩
/-- What lies below n₀ alone. -/
def XIn (n₀ : Nat) (w : World) : X → Prop
  | .nil => True
  | .mk _ _ _ _ a n cap c => n ≤ cap ∧ cap ≤ 9223372036854775807 ∧ ∀ i, i < n → ∃ b o, a = some ⟨b, o, none⟩ ∧ b < n₀ ∧ Node w b (o + i * 7) (c i) ∧ XIn n₀ w (c i)
theorem xIn_eq (n₀ : Nat) (w : World) (x : X) : XIn n₀ w x ↔ x.n ≤ x.cap ∧ x.cap ≤ 9223372036854775807 ∧ ∀ i, i < x.n → ∃ b o, x.a = some ⟨b, o, none⟩ ∧ b < n₀ ∧ Node w b (o + i * 7) (x.c i) ∧ XIn n₀ w (x.c i) := by
  cases x with
  | nil => simp [XIn, X.n, X.cap]
  | mk => rfl
theorem IsX.inn {w : World} : ∀ {x : X}, IsX w x → XIn w.heap.size w x
  | .nil, _ => trivial
  | .mk _ _ _ _ _ _ _ c, h => by
    obtain ⟨h1, h2, h3⟩ := h
    refine ⟨h1, h2, fun i hi => ?_⟩
    obtain ⟨b, o, e, hn, hx⟩ := h3 i hi
    exact ⟨b, o, e, hn.lt, hn, hx.inn⟩
theorem XIn.is {n₀ : Nat} {w : World} : ∀ {x : X}, XIn n₀ w x → IsX w x
  | .nil, _ => trivial
  | .mk _ _ _ _ _ _ _ c, h => by
    obtain ⟨h1, h2, h3⟩ := h
    refine ⟨h1, h2, fun i hi => ?_⟩
    obtain ⟨b, o, e, _, hn, hx⟩ := h3 i hi
    exact ⟨b, o, e, hn, hx.is⟩
theorem Node.below {n₀ : Nat} {w w' : World} {b o : Nat} {x : X} (h : Node w b o x) (hB : Below n₀ w w') (hb : b < n₀) : Node w' b o x := h.of fun j _ => hB.cell (p := ⟨b, o + j, none⟩) hb
theorem XIn.below {n₀ : Nat} {w w' : World} (hB : Below n₀ w w') : ∀ {x : X}, XIn n₀ w x → XIn n₀ w' x
  | .nil, _ => trivial
  | .mk _ _ _ _ _ _ _ c, h => by
    obtain ⟨h1, h2, h3⟩ := h
    refine ⟨h1, h2, fun i hi => ?_⟩
    obtain ⟨b, o, e, hb, hn, hx⟩ := h3 i hi
    exact ⟨b, o, e, hb, hn.below hB hb, XIn.below hB hx⟩
theorem XIn.mono {n₀ n₁ : Nat} {w : World} (hn : n₀ ≤ n₁) : ∀ {x : X}, XIn n₀ w x → XIn n₁ w x
  | .nil, _ => trivial
  | .mk _ _ _ _ _ _ _ c, h => by
    obtain ⟨h1, h2, h3⟩ := h
    refine ⟨h1, h2, fun i hi => ?_⟩
    obtain ⟨b, o, e, hb, hn', hx⟩ := h3 i hi
    exact ⟨b, o, e, by omega, hn', XIn.mono hn hx⟩
/-- Texts no longer than texts can be. -/
def XOk : X → Prop
  | .nil => True
  | .mk _ _ s f _ n _ c => s.size ≤ maxLen ∧ f.size ≤ maxLen ∧ ∀ i, i < n → XOk (c i)
theorem xOk_eq (x : X) : XOk x ↔ x.s.size ≤ maxLen ∧ x.f.size ≤ maxLen ∧ ∀ i, i < x.n → XOk (x.c i) := by
  cases x with
  | nil => exact ⟨fun _ => ⟨Nat.zero_le _, Nat.zero_le _, fun i hi => absurd hi (Nat.not_lt_zero _)⟩, fun _ => trivial⟩
  | mk => rfl
end Go.Proofs.YtkfpgkohkhhlhaaGreatDoor
namespace Go.Proofs.YtkfpgkohkhhlhaaGreatDoor
open Go.RowKit

/-- A pattern: its kind, Var and Type, Lo and Hi; its parts' slice (where it lies, how many, how much room) and the parts. -/
inductive Pt where
  | nil : Pt
  | mk (k : Int) (s t : ByteArray) (lo hi : Int) (a : Option Addr) (n cap : Nat) (c : Nat → Pt) : Pt
def Pt.k : Pt → Int | .nil => 0 | .mk k .. => k
def Pt.s : Pt → ByteArray | .nil => ⟨#[]⟩ | .mk _ s .. => s
def Pt.t : Pt → ByteArray | .nil => ⟨#[]⟩ | .mk _ _ t .. => t
def Pt.lo : Pt → Int | .nil => 0 | .mk _ _ _ lo .. => lo
def Pt.hi : Pt → Int | .nil => 0 | .mk _ _ _ _ hi .. => hi
def Pt.a : Pt → Option Addr | .nil => none | .mk _ _ _ _ _ a .. => a
def Pt.n : Pt → Nat | .nil => 0 | .mk _ _ _ _ _ _ n .. => n
def Pt.cap : Pt → Nat | .nil => 0 | .mk _ _ _ _ _ _ _ cap _ => cap
def Pt.c : Pt → Nat → Pt | .nil => fun _ => .nil | .mk _ _ _ _ _ _ _ _ c => c
theorem Pt.ind {P : Pt → Prop} (h : ∀ x, (∀ i, i < x.n → P (x.c i)) → P x) : ∀ x, P x
  | .nil => h .nil fun _ hi => absurd hi (Nat.not_lt_zero _)
  | .mk k s t lo hi a n cap c => h (.mk k s t lo hi a n cap c) fun i _ => Pt.ind h (c i)
def Pt.size : Pt → Nat
  | .nil => 1
  | .mk _ _ _ _ _ _ n _ c => 1 + sumN (fun i => (c i).size) n
def Pt.deep : Pt → Nat
  | .nil => 1
  | .mk _ _ _ _ _ _ n _ c => maxN (fun i => (c i).deep) n + 1
theorem Pt.size_eq (x : Pt) : x.size = 1 + sumN (fun i => (x.c i).size) x.n := by cases x <;> rfl
theorem Pt.deep_eq (x : Pt) : x.deep = maxN (fun i => (x.c i).deep) x.n + 1 := by cases x <;> rfl
theorem Pt.size_part (x : Pt) (i : Nat) (h : i < x.n) : (x.c i).size < x.size := by
  have := sumN_le (f := fun i => (x.c i).size) h
  rw [x.size_eq]
  omega
theorem Pt.size_pos (x : Pt) : 1 ≤ x.size := by rw [x.size_eq]; omega
theorem sumN_congr {f g : Nat → Nat} : ∀ {n : Nat}, (∀ i, i < n → f i = g i) → sumN f n = sumN g n
  | 0, _ => rfl
  | n + 1, h => by simp only [sumN]; rw [sumN_congr fun i hi => h i (by omega), h n (by omega)]
theorem Pt.deep_part (x : Pt) (i : Nat) (h : i < x.n) : (x.c i).deep < x.deep := by
  have := maxN_le (f := fun i => (x.c i).deep) h
  rw [x.deep_eq]
  omega
/-- Are all of the first so? -/
def allN (f : Nat → Bool) : Nat → Bool
  | 0 => true
  | n + 1 => allN f n && f n
theorem allN_true {f : Nat → Bool} : ∀ {n : Nat}, allN f n = true ↔ ∀ i, i < n → f i = true
  | 0 => by simp [allN]
  | n + 1 => by
    simp only [allN, Bool.and_eq_true, allN_true]
    constructor
    · rintro ⟨h1, h2⟩ i hi
      by_cases e : i = n
      · exact e ▸ h2
      · exact h1 i (by omega)
    · exact fun h => ⟨fun i hi => h i (by omega), h n (by omega)⟩
theorem allN_false {f : Nat → Bool} {n i : Nat} (hi : i < n) (h : f i = false) : allN f n = false := by
  rw [Bool.eq_false_iff]
  intro e
  rw [allN_true.1 e i hi] at h
  cases h
/-- Same's answer. -/
def sameP : Pt → Pt → Bool
  | .nil, y => decide (0 = y.k) && (decide ((⟨#[]⟩ : ByteArray) = y.s) && (decide ((⟨#[]⟩ : ByteArray) = y.t) && (decide (0 = y.lo) && (decide (0 = y.hi) && (decide (0 = y.n) && true)))))
  | .mk k s t lo hi _ n _ c, y => decide (k = y.k) && (decide (s = y.s) && (decide (t = y.t) && (decide (lo = y.lo) && (decide (hi = y.hi) && (decide (n = y.n) && allN (fun i => sameP (c i) (y.c i)) n)))))
theorem sameP_eq (x y : Pt) : sameP x y = (decide (x.k = y.k) && (decide (x.s = y.s) && (decide (x.t = y.t) && (decide (x.lo = y.lo) && (decide (x.hi = y.hi) && (decide (x.n = y.n) && allN (fun i => sameP (x.c i) (y.c i)) x.n)))))) := by
  cases x <;> rfl
/-- They are the same. -/
def Sm (x y : Pt) : Prop := sameP x y = true
theorem sm_iff (x y : Pt) : Sm x y ↔ x.k = y.k ∧ x.s = y.s ∧ x.t = y.t ∧ x.lo = y.lo ∧ x.hi = y.hi ∧ x.n = y.n ∧ ∀ i, i < x.n → Sm (x.c i) (y.c i) := by
  unfold Sm
  rw [sameP_eq]
  simp only [Bool.and_eq_true, decide_eq_true_eq, allN_true]
theorem Sm.refl : ∀ x : Pt, Sm x x := by
  refine Pt.ind fun x ih => ?_
  exact (sm_iff _ _).2 ⟨rfl, rfl, rfl, rfl, rfl, rfl, ih⟩
theorem Sm.symm : ∀ {x y : Pt}, Sm x y → Sm y x := by
  refine @(Pt.ind fun x ih y h => ?_)
  obtain ⟨h1, h2, h3, h4, h5, h6, h7⟩ := (sm_iff _ _).1 h
  exact (sm_iff _ _).2 ⟨h1.symm, h2.symm, h3.symm, h4.symm, h5.symm, h6.symm, fun i hi => ih i (by omega) (h7 i (by omega))⟩
theorem Sm.trans : ∀ {x y z : Pt}, Sm x y → Sm y z → Sm x z := by
  refine @(Pt.ind fun x ih y z h g => ?_)
  obtain ⟨h1, h2, h3, h4, h5, h6, h7⟩ := (sm_iff _ _).1 h
  obtain ⟨g1, g2, g3, g4, g5, g6, g7⟩ := (sm_iff _ _).1 g
  exact (sm_iff _ _).2 ⟨h1.trans g1, h2.trans g2, h3.trans g3, h4.trans g4, h5.trans g5, h6.trans g6, fun i hi => ih i hi (h7 i hi) (g7 i (by omega))⟩
/-- Has its kind a Var? -/
def nmd (k : Int) : Bool := k == 1 || k == 5 || k == 6
/-- The nodes that have a Var, in the order in which they stand. -/
def usesP : Pt → List Pt
  | .nil => []
  | .mk k s t lo hi a n cap c => (if nmd k = true then [.mk k s t lo hi a n cap c] else []) ++ catN (fun i => usesP (c i)) n
theorem usesP_eq (x : Pt) : usesP x = (if nmd x.k = true then [x] else []) ++ catN (fun i => usesP (x.c i)) x.n := by cases x <;> rfl
/-- All nodes in their order, each with how many lie on the way down to it. -/
def visP (d : Nat) : Pt → List (Nat × Pt)
  | .nil => [(d, .nil)]
  | .mk k s t lo hi a n cap c => (d, .mk k s t lo hi a n cap c) :: catN (fun i => visP (d + 1) (c i)) n
theorem visP_eq (d : Nat) (x : Pt) : visP d x = (d, x) :: catN (fun i => visP (d + 1) (x.c i)) x.n := by cases x <;> rfl
theorem catN_split {α : Type} (f : Nat → List α) : ∀ {n i : Nat}, i < n → ∃ r, catN f n = catN f i ++ (f i ++ r)
  | 0, _, h => by omega
  | n + 1, i, h => by
    by_cases e : i = n
    · subst e; exact ⟨[], by simp [catN]⟩
    · obtain ⟨r, hr⟩ := catN_split f (show i < n by omega)
      exact ⟨r ++ f n, by rw [catN, hr]; simp⟩
theorem catN_congr {α : Type} {f g : Nat → List α} : ∀ {n : Nat}, (∀ i, i < n → f i = g i) → catN f n = catN g n
  | 0, _ => rfl
  | n + 1, h => by rw [catN, catN, catN_congr fun i hi => h i (by omega), h n (by omega)]
theorem catN_map {α β : Type} (g : α → β) (f : Nat → List α) : ∀ n, (catN f n).map g = catN (fun i => (f i).map g) n
  | 0 => rfl
  | n + 1 => by rw [catN, catN, List.map_append, catN_map g f n]
theorem catN_filter {α : Type} (g : α → Bool) (f : Nat → List α) : ∀ n, (catN f n).filter g = catN (fun i => (f i).filter g) n
  | 0 => rfl
  | n + 1 => by rw [catN, catN, List.filter_append, catN_filter g f n]
theorem length_visP : ∀ (x : Pt) (d : Nat), (visP d x).length = x.size := by
  refine Pt.ind fun x ih d => ?_
  have : ∀ m, m ≤ x.n → (catN (fun i => visP (d + 1) (x.c i)) m).length = sumN (fun i => (x.c i).size) m := by
    intro m
    induction m with
    | zero => intro _; rfl
    | succ m ihm => intro hm; simp only [catN, sumN, List.length_append]; rw [ihm (by omega), ih m (by omega)]
  rw [visP_eq, x.size_eq, List.length_cons, this _ (Nat.le_refl _)]
  omega
/-- Of all nodes those that have a Var. -/
theorem uses_visP : ∀ (x : Pt) (d : Nat), ((visP d x).filter fun v => nmd v.2.k).map (·.2) = usesP x := by
  refine Pt.ind fun x ih d => ?_
  have hc : (catN (fun i => ((visP (d + 1) (x.c i)).filter fun v => nmd v.2.k).map (·.2)) x.n) = catN (fun i => usesP (x.c i)) x.n := catN_congr fun i hi => ih i hi (d + 1)
  rw [visP_eq, usesP_eq, List.filter_cons]
  by_cases h : nmd x.k = true
  · rw [if_pos h, if_pos h, List.map_cons, catN_filter, catN_map, hc]
    rfl
  · rw [if_neg h, if_neg h, catN_filter, catN_map, hc]
    rfl
/-- A property of all nodes. -/
theorem visP_all {P : Nat → Pt → Prop} (h : ∀ d x, P d x → ∀ i, i < x.n → P (d + 1) (x.c i)) : ∀ (x : Pt) (d : Nat), P d x → ∀ v ∈ visP d x, P v.1 v.2 := by
  refine Pt.ind fun x ih d hx v hv => ?_
  rw [visP_eq] at hv
  rcases List.mem_cons.1 hv with rfl | hv
  · exact hx
  · obtain ⟨i, hi, hv⟩ := mem_catN.1 hv
    exact ih i hi (d + 1) (h d x hx i hi) v hv
theorem mem_uses {x y : Pt} : y ∈ usesP x ↔ ∃ d, (d, y) ∈ visP 1 x ∧ nmd y.k = true := by
  rw [← uses_visP x 1]
  simp only [List.mem_map, List.mem_filter]
  constructor
  · rintro ⟨⟨d, z⟩, ⟨h1, h2⟩, rfl⟩
    exact ⟨d, h1, h2⟩
  · rintro ⟨d, h1, h2⟩
    exact ⟨(d, y), ⟨h1, h2⟩, rfl⟩
theorem vis_deep : ∀ (x : Pt) (d : Nat), ∀ v ∈ visP d x, v.1 + v.2.deep ≤ d + x.deep ∧ d ≤ v.1 := by
  refine Pt.ind fun x ih d v hv => ?_
  rw [visP_eq] at hv
  rcases List.mem_cons.1 hv with rfl | hv
  · exact ⟨Nat.le_refl _, Nat.le_refl _⟩
  · obtain ⟨i, hi, hv⟩ := mem_catN.1 hv
    have := ih i hi (d + 1) v hv
    have := x.deep_part i hi
    omega
theorem Pt.deep_pos (x : Pt) : 1 ≤ x.deep := by rw [x.deep_eq]; omega
/-- There is a node at the end of the longest way. -/
theorem vis_deepest : ∀ (x : Pt) (d : Nat), ∃ v ∈ visP d x, v.1 + 1 = d + x.deep := by
  refine Pt.ind fun x ih d => ?_
  by_cases h0 : x.n = 0
  · refine ⟨(d, x), by rw [visP_eq]; simp, ?_⟩
    rw [x.deep_eq, h0]
    rfl
  · have key : ∀ m, m ≤ x.n → 0 < m → ∃ i, i < m ∧ (x.c i).deep = maxN (fun i => (x.c i).deep) m := by
      intro m
      induction m with
      | zero => intro _ h; omega
      | succ m ihm =>
        intro hm _
        by_cases e : m = 0
        · subst e; exact ⟨0, by omega, by simp [maxN]⟩
        · obtain ⟨i, hi, q⟩ := ihm (by omega) (by omega)
          simp only [maxN]
          by_cases hle : maxN (fun i => (x.c i).deep) m ≤ (x.c m).deep
          · exact ⟨m, by omega, by omega⟩
          · exact ⟨i, by omega, by omega⟩
    obtain ⟨i, hi, q⟩ := key x.n (Nat.le_refl _) (by omega)
    obtain ⟨v, hv, hd⟩ := ih i hi (d + 1)
    refine ⟨v, by rw [visP_eq]; exact List.mem_cons_of_mem _ (mem_catN.2 ⟨i, hi, hv⟩), ?_⟩
    rw [x.deep_eq, ← q]
    omega
end Go.Proofs.YtkfpgkohkhhlhaaGreatDoor
