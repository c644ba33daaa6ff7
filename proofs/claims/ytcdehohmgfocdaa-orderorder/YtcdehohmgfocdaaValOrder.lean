/-
  value.Order answers by K, then by N, then by S's bytes (P6.1).
-/
import Derived.Test.YtcdehohmgfocdaaValMake
import Derived.Test.YtcdehohmgfocdaaArgs
import Derived.Test.YtcdehohmgfocdaaHeld
import Derived.LoopN
namespace Go.Proofs.Ytcdehohmgfocdaa
open Go.RowKit

/-- Two numbers, two texts: -1, 0 or 1. -/
def cmpI (a b : Int) : Int := if a < b then -1 else if b < a then 1 else 0
def cmpS (s t : ByteArray) : Int := if Op.bytesLess s.toList t.toList then -1 else if s.toList == t.toList then 0 else 1
/-- The order. -/
def ordZ (k n : Int) (s : ByteArray) (k' n' : Int) (s' : ByteArray) : Int :=
  if cmpI k k' ≠ 0 then cmpI k k' else if cmpI n n' ≠ 0 then cmpI n n' else cmpS s s'

set_option maxHeartbeats 400000 in
theorem nanInt (a : Int) (w : World) : Calls Try.prog 88 #[.int .i64 a] w fun e w' => e = .returned (.bool false) ∧ w' = w := by
  go_enter Try.func88, Try.ntmps88
  go_wp2
  go_ret
  exact ⟨rfl, rfl⟩
set_option maxHeartbeats 400000 in
theorem nanInt64 (a : Int) (w : World) : Calls Try.prog 100 #[.int .i64 a] w fun e w' => e = .returned (.bool false) ∧ w' = w := by
  go_enter Try.func100, Try.ntmps100
  go_wp2
  go_ret
  exact ⟨rfl, rfl⟩
set_option maxHeartbeats 400000 in
theorem nanStr (a : ByteArray) (w : World) : Calls Try.prog 87 #[.string a] w fun e w' => e = .returned (.bool false) ∧ w' = w := by
  go_enter Try.func87, Try.ntmps87
  go_wp2
  go_ret
  exact ⟨rfl, rfl⟩
set_option maxHeartbeats 1000000 in
theorem cmpInt_any (a b : Int) (w : World) : Calls Try.prog 68 #[.int .i64 a, .int .i64 b] w fun e w' => e = .returned (.int .i64 (cmpI a b)) ∧ w' = w := by
  unfold cmpI
  by_cases h : a < b
  · rw [if_pos h]
    go_enter Try.func68, Try.ntmps68
    go_wp2_with (go_at_call 88; refine (nanInt _ _).mono ?_; rintro e w1 ⟨rfl, hw1⟩; replace hw1 := hw1.symm; subst hw1)
    go_ret
    exact ⟨rfl, rfl⟩
  · rw [if_neg h]
    by_cases h' : b < a
    · rw [if_pos h']
      go_enter Try.func68, Try.ntmps68
      go_wp2_with (go_at_call 88; refine (nanInt _ _).mono ?_; rintro e w1 ⟨rfl, hw1⟩; replace hw1 := hw1.symm; subst hw1)
      go_ret
      exact ⟨rfl, rfl⟩
    · rw [if_neg h']
      go_enter Try.func68, Try.ntmps68
      go_wp2_with (go_at_call 88; refine (nanInt _ _).mono ?_; rintro e w1 ⟨rfl, hw1⟩; replace hw1 := hw1.symm; subst hw1)
      go_ret
      exact ⟨rfl, rfl⟩
set_option maxHeartbeats 1000000 in
theorem cmpInt64_any (a b : Int) (w : World) : Calls Try.prog 95 #[.int .i64 a, .int .i64 b] w fun e w' => e = .returned (.int .i64 (cmpI a b)) ∧ w' = w := by
  unfold cmpI
  by_cases h : a < b
  · rw [if_pos h]
    go_enter Try.func95, Try.ntmps95
    go_wp2_with (go_at_call 100; refine (nanInt64 _ _).mono ?_; rintro e w1 ⟨rfl, hw1⟩; replace hw1 := hw1.symm; subst hw1)
    go_ret
    exact ⟨rfl, rfl⟩
  · rw [if_neg h]
    by_cases h' : b < a
    · rw [if_pos h']
      go_enter Try.func95, Try.ntmps95
      go_wp2_with (go_at_call 100; refine (nanInt64 _ _).mono ?_; rintro e w1 ⟨rfl, hw1⟩; replace hw1 := hw1.symm; subst hw1)
      go_ret
      exact ⟨rfl, rfl⟩
    · rw [if_neg h']
      go_enter Try.func95, Try.ntmps95
      go_wp2_with (go_at_call 100; refine (nanInt64 _ _).mono ?_; rintro e w1 ⟨rfl, hw1⟩; replace hw1 := hw1.symm; subst hw1)
      go_ret
      exact ⟨rfl, rfl⟩
set_option maxHeartbeats 1000000 in
theorem cmpStr_any (a b : ByteArray) (w : World) : Calls Try.prog 66 #[.string a, .string b] w fun e w' => e = .returned (.int .i64 (cmpS a b)) ∧ w' = w := by
  unfold cmpS
  cases h : Op.bytesLess a.toList b.toList with
  | true =>
    rw [if_pos rfl]
    go_enter Try.func66, Try.ntmps66
    go_wp2_with (go_at_call 87; refine (nanStr _ _).mono ?_; rintro e w1 ⟨rfl, hw1⟩; replace hw1 := hw1.symm; subst hw1)
    go_ret
    exact ⟨rfl, rfl⟩
  | false =>
    rw [if_neg (by simp)]
    cases h' : a.toList == b.toList with
    | true =>
      rw [if_pos rfl]
      go_enter Try.func66, Try.ntmps66
      go_wp2_with (go_at_call 87; refine (nanStr _ _).mono ?_; rintro e w1 ⟨rfl, hw1⟩; replace hw1 := hw1.symm; subst hw1)
      go_ret
      exact ⟨rfl, rfl⟩
    | false =>
      rw [if_neg (by simp)]
      go_enter Try.func66, Try.ntmps66
      go_wp2_with (go_at_call 87; refine (nanStr _ _).mono ?_; rintro e w1 ⟨rfl, hw1⟩; replace hw1 := hw1.symm; subst hw1)
      go_ret
      exact ⟨rfl, rfl⟩
set_option maxHeartbeats 1000000 in
/-- cmp.Or of three numbers: the first that is not 0. -/
theorem or_three (b : Nat) (x y z : Int) (w : World) (c0 : w.cell? ⟨b, 0, none⟩ = some (.int .i64 x)) (c1 : w.cell? ⟨b, 1, none⟩ = some (.int .i64 y)) (c2 : w.cell? ⟨b, 2, none⟩ = some (.int .i64 z)) :
    Calls Try.prog 67 #[.slice (some ⟨b, 0, none⟩) 3 3] w fun e w' => e = .returned (.int .i64 (if x ≠ 0 then x else if y ≠ 0 then y else z)) ∧ w' = w := by
  by_cases hx : x = 0
  · subst hx
    by_cases hy : y = 0
    · subst hy
      by_cases hz : z = 0
      · subst hz
        simp only [ne_eq, not_true_eq_false, if_false]
        go_enter Try.func67, Try.ntmps67
        go_wp2
        refine wp_loop_rounds 4 ?_
        rw [rounds_succ]; go_wp2
        rw [rounds_succ]; go_wp2
        rw [rounds_succ]; go_wp2
        rw [rounds_succ]; go_wp2
        go_ret
        exact ⟨rfl, rfl⟩
      · have hz' : (z == 0) = false := by simpa using hz
        simp only [ne_eq, not_true_eq_false, if_false]
        go_enter Try.func67, Try.ntmps67
        go_wp2
        refine wp_loop_rounds 3 ?_
        rw [rounds_succ]; go_wp2
        rw [rounds_succ]; go_wp2
        rw [rounds_succ]; go_wp2
        go_ret
        exact ⟨rfl, rfl⟩
    · have hy' : (y == 0) = false := by simpa using hy
      simp only [ne_eq, not_true_eq_false, if_false, hy, not_false_eq_true, if_true]
      go_enter Try.func67, Try.ntmps67
      go_wp2
      refine wp_loop_rounds 2 ?_
      rw [rounds_succ]; go_wp2
      rw [rounds_succ]; go_wp2
      go_ret
      exact ⟨rfl, rfl⟩
  · have hx' : (x == 0) = false := by simpa using hx
    simp only [ne_eq, hx, not_false_eq_true, if_true]
    go_enter Try.func67, Try.ntmps67
    go_wp2
    refine wp_loop_rounds 1 ?_
    rw [rounds_succ]; go_wp2
    go_ret
    exact ⟨rfl, rfl⟩
set_option maxRecDepth 100000 in
set_option maxHeartbeats 4000000 in
theorem order_any (k n : Int) (s : ByteArray) (k' n' : Int) (s' : ByteArray) (w : World) :
    Calls Try.prog 83 #[valV k n s, valV k' n' s'] w fun e w' => e = .returned (.int .i64 (ordZ k n s k' n' s')) ∧ Below w.heap.size w w' := by
  go_enter Try.func83, Try.ntmps83
  go_wp2_with fail
  have hW0 : Below w.heap.size w ((w.alloc (valO k n s)).alloc (valO k' n' s')) := ((Below.refl _ w).alloc (Nat.le_refl _) _).alloc (by simp) _
  have HC : Hid ((((w.alloc (valO k n s)).alloc (valO k' n' s')).cell? ⟨w.heap.size, 0, none⟩ = some (.int .i64 k)) ∧ (((w.alloc (valO k n s)).alloc (valO k' n' s')).cell? ⟨w.heap.size, 1, none⟩ = some (.int .i64 n)) ∧ (((w.alloc (valO k n s)).alloc (valO k' n' s')).cell? ⟨w.heap.size, 2, none⟩ = some (.string s)) ∧
      (((w.alloc (valO k n s)).alloc (valO k' n' s')).cell? ⟨w.heap.size + 1, 0, none⟩ = some (.int .i64 k')) ∧ (((w.alloc (valO k n s)).alloc (valO k' n' s')).cell? ⟨w.heap.size + 1, 1, none⟩ = some (.int .i64 n')) ∧ (((w.alloc (valO k n s)).alloc (valO k' n' s')).cell? ⟨w.heap.size + 1, 2, none⟩ = some (.string s'))) := by
    refine ⟨?_, ?_, ?_, ?_, ?_, ?_⟩ <;> simp
  generalize (w.alloc (valO k n s)).alloc (valO k' n' s') = W at hW0 HC ⊢
  refine wp_region_noPanic ?_
  refine wp_region_held_drew (S := fun w' => Below W.heap.size W w') (by kernel_rfl) ((Below.refl _ _).drew) (fun hHeld => ?_)
  have hT : Below W.heap.size W W.drew := hHeld
  obtain ⟨d, hd⟩ : ∃ d, d = W.drew := ⟨_, rfl⟩
  rw [← hd] at hHeld hT ⊢
  clear hd
  refine wpAnyH_take (i := 0) (oi := ⟨some 5, Op.fieldAddr 37 (Operand.tmp 2) 0, 0, _, _, _⟩) (v := ?v0) rfl (by kernel_rfl) (by kernel_rfl) (by kernel_rfl) (fun _ _ _ h => h) (Or.inl ⟨by rfl, ?hy0⟩) hHeld ?rest0
  case hy0 => intro w9 hSw; go_simp; (try with_reducible rfl)
  try simp only [Act.put, List.setIfInBounds_toArray, List.set_cons_zero, List.set_cons_succ]
  refine wpAnyH_take (i := 1) (oi := ⟨some 6, Op.load 3 (Operand.tmp 5), 3, _, _, _⟩) (v := ?v1) rfl (by kernel_rfl) (by kernel_rfl) (by kernel_rfl) (fun _ _ _ h => h) (Or.inl ⟨by rfl, ?hy1⟩) hHeld ?rest1
  case hy1 => intro w9 hSw; have cc := cell_later HC.out.1 hSw; go_simp; (try with_reducible rfl)
  try simp only [Act.put, List.setIfInBounds_toArray, List.set_cons_zero, List.set_cons_succ]
  refine wpAnyH_take (i := 2) (oi := ⟨some 7, Op.fieldAddr 37 (Operand.tmp 3) 0, 0, _, _, _⟩) (v := ?v2) rfl (by kernel_rfl) (by kernel_rfl) (by kernel_rfl) (fun _ _ _ h => h) (Or.inl ⟨by rfl, ?hy2⟩) hHeld ?rest2
  case hy2 => intro w9 hSw; go_simp; (try with_reducible rfl)
  try simp only [Act.put, List.setIfInBounds_toArray, List.set_cons_zero, List.set_cons_succ]
  refine wpAnyH_take (i := 3) (oi := ⟨some 8, Op.load 3 (Operand.tmp 7), 3, _, _, _⟩) (v := ?v3) rfl (by kernel_rfl) (by kernel_rfl) (by kernel_rfl) (fun _ _ _ h => h) (Or.inl ⟨by rfl, ?hy3⟩) hHeld ?rest3
  case hy3 => intro w9 hSw; have cc := cell_later HC.out.2.2.2.1 hSw; go_simp; (try with_reducible rfl)
  try simp only [Act.put, List.setIfInBounds_toArray, List.set_cons_zero, List.set_cons_succ]
  refine wpAnyH_take (i := 5) (oi := ⟨some 10, Op.fieldAddr 37 (Operand.tmp 2) 1, 0, _, _, _⟩) (v := ?v5) rfl (by kernel_rfl) (by kernel_rfl) (by kernel_rfl) (fun _ _ _ h => h) (Or.inl ⟨by rfl, ?hy5⟩) hHeld ?rest5
  case hy5 => intro w9 hSw; go_simp; (try with_reducible rfl)
  try simp only [Act.put, List.setIfInBounds_toArray, List.set_cons_zero, List.set_cons_succ]
  refine wpAnyH_take (i := 6) (oi := ⟨some 11, Op.load 2 (Operand.tmp 10), 2, _, _, _⟩) (v := ?v6) rfl (by kernel_rfl) (by kernel_rfl) (by kernel_rfl) (fun _ _ _ h => h) (Or.inl ⟨by rfl, ?hy6⟩) hHeld ?rest6
  case hy6 => intro w9 hSw; have cc := cell_later HC.out.2.1 hSw; go_simp; (try with_reducible rfl)
  try simp only [Act.put, List.setIfInBounds_toArray, List.set_cons_zero, List.set_cons_succ]
  refine wpAnyH_take (i := 7) (oi := ⟨some 12, Op.fieldAddr 37 (Operand.tmp 3) 1, 0, _, _, _⟩) (v := ?v7) rfl (by kernel_rfl) (by kernel_rfl) (by kernel_rfl) (fun _ _ _ h => h) (Or.inl ⟨by rfl, ?hy7⟩) hHeld ?rest7
  case hy7 => intro w9 hSw; go_simp; (try with_reducible rfl)
  try simp only [Act.put, List.setIfInBounds_toArray, List.set_cons_zero, List.set_cons_succ]
  refine wpAnyH_take (i := 8) (oi := ⟨some 13, Op.load 2 (Operand.tmp 12), 2, _, _, _⟩) (v := ?v8) rfl (by kernel_rfl) (by kernel_rfl) (by kernel_rfl) (fun _ _ _ h => h) (Or.inl ⟨by rfl, ?hy8⟩) hHeld ?rest8
  case hy8 => intro w9 hSw; have cc := cell_later HC.out.2.2.2.2.1 hSw; go_simp; (try with_reducible rfl)
  try simp only [Act.put, List.setIfInBounds_toArray, List.set_cons_zero, List.set_cons_succ]
  refine wpAnyH_take (i := 10) (oi := ⟨some 15, Op.fieldAddr 37 (Operand.tmp 2) 2, 0, _, _, _⟩) (v := ?v10) rfl (by kernel_rfl) (by kernel_rfl) (by kernel_rfl) (fun _ _ _ h => h) (Or.inl ⟨by rfl, ?hy10⟩) hHeld ?rest10
  case hy10 => intro w9 hSw; go_simp; (try with_reducible rfl)
  try simp only [Act.put, List.setIfInBounds_toArray, List.set_cons_zero, List.set_cons_succ]
  refine wpAnyH_take (i := 11) (oi := ⟨some 16, Op.load 9 (Operand.tmp 15), 9, _, _, _⟩) (v := ?v11) rfl (by kernel_rfl) (by kernel_rfl) (by kernel_rfl) (fun _ _ _ h => h) (Or.inl ⟨by rfl, ?hy11⟩) hHeld ?rest11
  case hy11 => intro w9 hSw; have cc := cell_later HC.out.2.2.1 hSw; go_simp; (try with_reducible rfl)
  try simp only [Act.put, List.setIfInBounds_toArray, List.set_cons_zero, List.set_cons_succ]
  refine wpAnyH_take (i := 12) (oi := ⟨some 17, Op.fieldAddr 37 (Operand.tmp 3) 2, 0, _, _, _⟩) (v := ?v12) rfl (by kernel_rfl) (by kernel_rfl) (by kernel_rfl) (fun _ _ _ h => h) (Or.inl ⟨by rfl, ?hy12⟩) hHeld ?rest12
  case hy12 => intro w9 hSw; go_simp; (try with_reducible rfl)
  try simp only [Act.put, List.setIfInBounds_toArray, List.set_cons_zero, List.set_cons_succ]
  refine wpAnyH_take (i := 13) (oi := ⟨some 18, Op.load 9 (Operand.tmp 17), 9, _, _, _⟩) (v := ?v13) rfl (by kernel_rfl) (by kernel_rfl) (by kernel_rfl) (fun _ _ _ h => h) (Or.inl ⟨by rfl, ?hy13⟩) hHeld ?rest13
  case hy13 => intro w9 hSw; have cc := cell_later HC.out.2.2.2.2.2 hSw; go_simp; (try with_reducible rfl)
  try simp only [Act.put, List.setIfInBounds_toArray, List.set_cons_zero, List.set_cons_succ]
  refine wpAnyH_ready (rs := [4]) (by kernel_rfl) (by simp) ?_
  refine AllReadyH.cons (o := ⟨some 9, Op.call { callee := Callee.value (Operand.func 68), args := #[Operand.tmp 6, Operand.tmp 8], argTypes := #[3, 3] }, 3, _, _, _⟩) rfl (fun K hK => ?_) AllReadyH.nil
  go_simp
  refine (cmpInt_any _ _ _).mono ?_
  rintro e x4 ⟨rfl, hx4⟩
  replace hx4 := hx4.symm
  subst hx4
  go_wp2_with fail
  refine hK.out _ _ hHeld (fun _ => ?_)
  clear hK K
  try simp only [Act.put, List.setIfInBounds_toArray, List.set_cons_zero, List.set_cons_succ]
  refine wpAnyH_ready (rs := [9]) (by kernel_rfl) (by simp) ?_
  refine AllReadyH.cons (o := ⟨some 14, Op.call { callee := Callee.value (Operand.func 95), args := #[Operand.tmp 11, Operand.tmp 13], argTypes := #[2, 2] }, 3, _, _, _⟩) rfl (fun K hK => ?_) AllReadyH.nil
  go_simp
  refine (cmpInt64_any _ _ _).mono ?_
  rintro e x9 ⟨rfl, hx9⟩
  replace hx9 := hx9.symm
  subst hx9
  go_wp2_with fail
  refine hK.out _ _ hHeld (fun _ => ?_)
  clear hK K
  try simp only [Act.put, List.setIfInBounds_toArray, List.set_cons_zero, List.set_cons_succ]
  refine wpAnyH_ready (rs := [14]) (by kernel_rfl) (by simp) ?_
  refine AllReadyH.cons (o := ⟨some 19, Op.call { callee := Callee.value (Operand.func 66), args := #[Operand.tmp 16, Operand.tmp 18], argTypes := #[9, 9] }, 3, _, _, _⟩) rfl (fun K hK => ?_) AllReadyH.nil
  go_simp
  refine (cmpStr_any _ _ _).mono ?_
  rintro e x14 ⟨rfl, hx14⟩
  replace hx14 := hx14.symm
  subst hx14
  go_wp2_with fail
  refine hK.out _ _ hHeld (fun _ => ?_)
  clear hK K
  try simp only [Act.put, List.setIfInBounds_toArray, List.set_cons_zero, List.set_cons_succ]
  refine wpAnyH_ready (rs := [15]) (by kernel_rfl) (by simp) ?_
  refine AllReadyH.cons (o := ⟨some 20, Op.buildSlice 50 3 #[(0, Operand.tmp 9), (1, Operand.tmp 14), (2, Operand.tmp 19)], 50, _, _, _⟩) rfl (fun K hK => ?_) AllReadyH.nil
  go_simp
  have hT15 := hHeld.alloc hHeld.size (.cells #[.int .i64 (cmpI k k'), .int .i64 (cmpI n n'), .int .i64 (cmpS s s')] 3)
  refine hK.out _ _ hT15 (fun _ => ?_)
  clear hK K hHeld hT
  have hHeld := hT15
  clear hT15
  have C16 : Calls Try.prog 67 #[.slice (some ⟨d.heap.size, 0, none⟩) 3 3] (d.alloc (.cells #[.int .i64 (cmpI k k'), .int .i64 (cmpI n n'), .int .i64 (cmpS s s')] 3)) fun e w' => e = .returned (.int .i64 (ordZ k n s k' n' s')) ∧ w' = (d.alloc (.cells #[.int .i64 (cmpI k k'), .int .i64 (cmpI n n'), .int .i64 (cmpS s s')] 3)) := or_three d.heap.size (cmpI k k') (cmpI n n') (cmpS s s') _ (by simp) (by simp) (by simp)
  generalize d.alloc (.cells #[.int .i64 (cmpI k k'), .int .i64 (cmpI n n'), .int .i64 (cmpS s s')] 3) = D at hHeld C16 ⊢
  refine wpAnyH_ready (rs := [16]) (by kernel_rfl) (by simp) ?_
  refine AllReadyH.cons (o := ⟨some 21, Op.call { callee := Callee.value (Operand.func 67), args := #[Operand.tmp 20], argTypes := #[50] }, 3, _, _, _⟩) rfl (fun K hK => ?_) AllReadyH.nil
  go_simp
  refine (C16).mono ?_
  rintro e x16 ⟨rfl, hx16⟩
  replace hx16 := hx16.symm
  subst hx16
  go_wp2_with fail
  refine hK.out _ _ hHeld (fun _ => ?_)
  clear hK K
  try simp only [Act.put, List.setIfInBounds_toArray, List.set_cons_zero, List.set_cons_succ]
  refine wpAnyH_take (i := 17) (oi := ⟨some 4, Op.assign (Operand.tmp 21), 3, _, _, _⟩) (v := ?v17) rfl (by kernel_rfl) (by kernel_rfl) (by kernel_rfl) (fun _ _ _ h => h) (Or.inl ⟨by rfl, ?hy17⟩) hHeld ?rest17
  case hy17 => intro w9 hSw; go_simp; (try with_reducible rfl)
  try simp only [Act.put, List.setIfInBounds_toArray, List.set_cons_zero, List.set_cons_succ]
  refine wpAnyH_done (by kernel_rfl) ?_ _
  refine NoPanic.normal ?_
  go_wp2
  go_ret
  exact ⟨rfl, hW0.trans (hHeld.mono hW0.size)⟩
end Go.Proofs.Ytcdehohmgfocdaa
