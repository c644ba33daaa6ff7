/-
  value.Order answers by K, then by N, then by S's bytes (P6.1).
  The order is an order: plain facts on 'ordZ'.
  Values as they lie in memory, one by itself and in a row; the first place of a name; of no function.
  Of what came in: cells of small types, and values.
-/
import Derived.Test.YtahlmlbfgijcpaaGreatDoorCValMake
import Derived.Test.YtahlmlbfgijcpaaGreatDoorCText
import Derived.Test.YtahlmlbfgijcpaaGreatDoorCValRight
import Derived.LoopN
import Derived.Deep.Strs
namespace Go.Proofs.YtahlmlbfgijcpaaGreatDoor
open Go.RowKit

/-- Two numbers, two texts: -1, 0 or 1. -/
def cmpI (a b : Int) : Int := if a < b then -1 else if b < a then 1 else 0
def cmpS (s t : ByteArray) : Int := if Op.bytesLess s.toList t.toList then -1 else if s.toList == t.toList then 0 else 1
/-- The order. -/
def ordZ (k n : Int) (s : ByteArray) (k' n' : Int) (s' : ByteArray) : Int :=
  if cmpI k k' ≠ 0 then cmpI k k' else if cmpI n n' ≠ 0 then cmpI n n' else cmpS s s'

set_option maxHeartbeats 400000 in
theorem nanInt (a : Int) (w : World) : Calls Tryz.prog 84 #[.int .i64 a] w fun e w' => e = .returned (.bool false) ∧ w' = w := by
  go_enter Tryz.func84, Tryz.ntmps84
  go_wp2
  go_ret
  exact ⟨rfl, rfl⟩
set_option maxHeartbeats 400000 in
theorem nanInt64 (a : Int) (w : World) : Calls Tryz.prog 89 #[.int .i64 a] w fun e w' => e = .returned (.bool false) ∧ w' = w := by
  go_enter Tryz.func89, Tryz.ntmps89
  go_wp2
  go_ret
  exact ⟨rfl, rfl⟩
set_option maxHeartbeats 400000 in
theorem nanStr (a : ByteArray) (w : World) : Calls Tryz.prog 86 #[.string a] w fun e w' => e = .returned (.bool false) ∧ w' = w := by
  go_enter Tryz.func86, Tryz.ntmps86
  go_wp2
  go_ret
  exact ⟨rfl, rfl⟩
set_option maxHeartbeats 1000000 in
theorem cmpInt_any (a b : Int) (w : World) : Calls Tryz.prog 74 #[.int .i64 a, .int .i64 b] w fun e w' => e = .returned (.int .i64 (cmpI a b)) ∧ w' = w := by
  unfold cmpI
  by_cases h : a < b
  · rw [if_pos h]
    go_enter Tryz.func74, Tryz.ntmps74
    go_wp2_with (go_at_call 84; refine (nanInt _ _).mono ?_; rintro e w1 ⟨rfl, hw1⟩; replace hw1 := hw1.symm; subst hw1)
    go_ret
    exact ⟨rfl, rfl⟩
  · rw [if_neg h]
    by_cases h' : b < a
    · rw [if_pos h']
      go_enter Tryz.func74, Tryz.ntmps74
      go_wp2_with (go_at_call 84; refine (nanInt _ _).mono ?_; rintro e w1 ⟨rfl, hw1⟩; replace hw1 := hw1.symm; subst hw1)
      go_ret
      exact ⟨rfl, rfl⟩
    · rw [if_neg h']
      go_enter Tryz.func74, Tryz.ntmps74
      go_wp2_with (go_at_call 84; refine (nanInt _ _).mono ?_; rintro e w1 ⟨rfl, hw1⟩; replace hw1 := hw1.symm; subst hw1)
      go_ret
      exact ⟨rfl, rfl⟩
set_option maxHeartbeats 1000000 in
theorem cmpInt64_any (a b : Int) (w : World) : Calls Tryz.prog 85 #[.int .i64 a, .int .i64 b] w fun e w' => e = .returned (.int .i64 (cmpI a b)) ∧ w' = w := by
  unfold cmpI
  by_cases h : a < b
  · rw [if_pos h]
    go_enter Tryz.func85, Tryz.ntmps85
    go_wp2_with (go_at_call 89; refine (nanInt64 _ _).mono ?_; rintro e w1 ⟨rfl, hw1⟩; replace hw1 := hw1.symm; subst hw1)
    go_ret
    exact ⟨rfl, rfl⟩
  · rw [if_neg h]
    by_cases h' : b < a
    · rw [if_pos h']
      go_enter Tryz.func85, Tryz.ntmps85
      go_wp2_with (go_at_call 89; refine (nanInt64 _ _).mono ?_; rintro e w1 ⟨rfl, hw1⟩; replace hw1 := hw1.symm; subst hw1)
      go_ret
      exact ⟨rfl, rfl⟩
    · rw [if_neg h']
      go_enter Tryz.func85, Tryz.ntmps85
      go_wp2_with (go_at_call 89; refine (nanInt64 _ _).mono ?_; rintro e w1 ⟨rfl, hw1⟩; replace hw1 := hw1.symm; subst hw1)
      go_ret
      exact ⟨rfl, rfl⟩
set_option maxHeartbeats 1000000 in
theorem cmpStr_any (a b : ByteArray) (w : World) : Calls Tryz.prog 76 #[.string a, .string b] w fun e w' => e = .returned (.int .i64 (cmpS a b)) ∧ w' = w := by
  unfold cmpS
  cases h : Op.bytesLess a.toList b.toList with
  | true =>
    rw [if_pos rfl]
    go_enter Tryz.func76, Tryz.ntmps76
    go_wp2_with (go_at_call 86; refine (nanStr _ _).mono ?_; rintro e w1 ⟨rfl, hw1⟩; replace hw1 := hw1.symm; subst hw1)
    go_ret
    exact ⟨rfl, rfl⟩
  | false =>
    rw [if_neg (by simp)]
    cases h' : a.toList == b.toList with
    | true =>
      rw [if_pos rfl]
      go_enter Tryz.func76, Tryz.ntmps76
      go_wp2_with (go_at_call 86; refine (nanStr _ _).mono ?_; rintro e w1 ⟨rfl, hw1⟩; replace hw1 := hw1.symm; subst hw1)
      go_ret
      exact ⟨rfl, rfl⟩
    | false =>
      rw [if_neg (by simp)]
      go_enter Tryz.func76, Tryz.ntmps76
      go_wp2_with (go_at_call 86; refine (nanStr _ _).mono ?_; rintro e w1 ⟨rfl, hw1⟩; replace hw1 := hw1.symm; subst hw1)
      go_ret
      exact ⟨rfl, rfl⟩
set_option maxHeartbeats 1000000 in
/-- cmp.Or of three numbers: the first that is not 0. -/
theorem or_three (b : Nat) (x y z : Int) (w : World) (c0 : w.cell? ⟨b, 0, none⟩ = some (.int .i64 x)) (c1 : w.cell? ⟨b, 1, none⟩ = some (.int .i64 y)) (c2 : w.cell? ⟨b, 2, none⟩ = some (.int .i64 z)) :
    Calls Tryz.prog 73 #[.slice (some ⟨b, 0, none⟩) 3 3] w fun e w' => e = .returned (.int .i64 (if x ≠ 0 then x else if y ≠ 0 then y else z)) ∧ w' = w := by
  by_cases hx : x = 0
  · subst hx
    by_cases hy : y = 0
    · subst hy
      by_cases hz : z = 0
      · subst hz
        simp only [ne_eq, not_true_eq_false, if_false]
        go_enter Tryz.func73, Tryz.ntmps73
        go_wp2
        refine wp_loop_rounds 4 ?_
        rw [rounds_succ]; go_wp2
        rw [rounds_succ]; go_wp2
        rw [rounds_succ]; go_wp2
        rw [rounds_succ]; go_wp2
        go_ret
        exact ⟨rfl, rfl⟩
      · have hz' : (z == 0) = false := by simpa using hz
        simp only [ne_eq, not_true_eq_false, if_false]
        go_enter Tryz.func73, Tryz.ntmps73
        go_wp2
        refine wp_loop_rounds 3 ?_
        rw [rounds_succ]; go_wp2
        rw [rounds_succ]; go_wp2
        rw [rounds_succ]; go_wp2
        go_ret
        exact ⟨rfl, rfl⟩
    · have hy' : (y == 0) = false := by simpa using hy
      simp only [ne_eq, not_true_eq_false, if_false, hy, not_false_eq_true, if_true]
      go_enter Tryz.func73, Tryz.ntmps73
      go_wp2
      refine wp_loop_rounds 2 ?_
      rw [rounds_succ]; go_wp2
      rw [rounds_succ]; go_wp2
      go_ret
      exact ⟨rfl, rfl⟩
  · have hx' : (x == 0) = false := by simpa using hx
    simp only [ne_eq, hx, not_false_eq_true, if_true]
    go_enter Tryz.func73, Tryz.ntmps73
    go_wp2
    refine wp_loop_rounds 1 ?_
    rw [rounds_succ]; go_wp2
    go_ret
    exact ⟨rfl, rfl⟩
set_option maxRecDepth 100000 in
set_option maxHeartbeats 4000000 in
theorem order_any (k n : Int) (s : ByteArray) (k' n' : Int) (s' : ByteArray) (w : World) :
    Calls Tryz.prog 75 #[valV k n s, valV k' n' s'] w fun e w' => e = .returned (.int .i64 (ordZ k n s k' n' s')) ∧ Below w.heap.size w w' := by
  go_enter Tryz.func75, Tryz.ntmps75
  go_wp2_with fail
  have hW0 : Below w.heap.size w ((w.alloc (valO k n s)).alloc (valO k' n' s')) := ((Below.refl _ w).alloc (Nat.le_refl _) _).alloc (by simp) _
  have HC : Hid ((((w.alloc (valO k n s)).alloc (valO k' n' s')).cell? ⟨w.heap.size, 0, none⟩ = some (.int .i64 k)) ∧ (((w.alloc (valO k n s)).alloc (valO k' n' s')).cell? ⟨w.heap.size, 1, none⟩ = some (.int .i64 n)) ∧ (((w.alloc (valO k n s)).alloc (valO k' n' s')).cell? ⟨w.heap.size, 2, none⟩ = some (.string s)) ∧
      (((w.alloc (valO k n s)).alloc (valO k' n' s')).cell? ⟨w.heap.size + 1, 0, none⟩ = some (.int .i64 k')) ∧ (((w.alloc (valO k n s)).alloc (valO k' n' s')).cell? ⟨w.heap.size + 1, 1, none⟩ = some (.int .i64 n')) ∧ (((w.alloc (valO k n s)).alloc (valO k' n' s')).cell? ⟨w.heap.size + 1, 2, none⟩ = some (.string s'))) := by
    refine ⟨?_, ?_, ?_, ?_, ?_, ?_⟩ <;> simp
  generalize (w.alloc (valO k n s)).alloc (valO k' n' s') = W at hW0 HC ⊢
  refine wp_region_noPanic ?_
  refine wp_region_held_drew (S := fun w' => Below W.heap.size W w') (by kernel_rfl) ((Below.refl _ _).drew) (fun hHeld => ?_)
  have hT : Below W.heap.size W W.drew := hHeld
  obtain ⟨d, hd⟩ : ∃ d, d = W.drew := ⟨_, rfl⟩
  rw [← hd] at hHeld hT ⊢
  clear hd
  refine wpAnyH_take (i := 0) (oi := ⟨some 5, Op.fieldAddr 25 (Operand.tmp 2) 0, 0, _, _, _⟩) (v := ?v0) rfl (by kernel_rfl) (by kernel_rfl) (by kernel_rfl) (fun _ _ _ h => h) (Or.inl ⟨by rfl, ?hy0⟩) hHeld ?rest0
  case hy0 => intro w9 hSw; go_simp; (try with_reducible rfl)
  try simp only [Act.put, List.setIfInBounds_toArray, List.set_cons_zero, List.set_cons_succ]
  refine wpAnyH_take (i := 1) (oi := ⟨some 6, Op.load 3 (Operand.tmp 5), 3, _, _, _⟩) (v := ?v1) rfl (by kernel_rfl) (by kernel_rfl) (by kernel_rfl) (fun _ _ _ h => h) (Or.inl ⟨by rfl, ?hy1⟩) hHeld ?rest1
  case hy1 => intro w9 hSw; have cc := cell_later HC.out.1 hSw; go_simp; (try with_reducible rfl)
  try simp only [Act.put, List.setIfInBounds_toArray, List.set_cons_zero, List.set_cons_succ]
  refine wpAnyH_take (i := 2) (oi := ⟨some 7, Op.fieldAddr 25 (Operand.tmp 3) 0, 0, _, _, _⟩) (v := ?v2) rfl (by kernel_rfl) (by kernel_rfl) (by kernel_rfl) (fun _ _ _ h => h) (Or.inl ⟨by rfl, ?hy2⟩) hHeld ?rest2
  case hy2 => intro w9 hSw; go_simp; (try with_reducible rfl)
  try simp only [Act.put, List.setIfInBounds_toArray, List.set_cons_zero, List.set_cons_succ]
  refine wpAnyH_take (i := 3) (oi := ⟨some 8, Op.load 3 (Operand.tmp 7), 3, _, _, _⟩) (v := ?v3) rfl (by kernel_rfl) (by kernel_rfl) (by kernel_rfl) (fun _ _ _ h => h) (Or.inl ⟨by rfl, ?hy3⟩) hHeld ?rest3
  case hy3 => intro w9 hSw; have cc := cell_later HC.out.2.2.2.1 hSw; go_simp; (try with_reducible rfl)
  try simp only [Act.put, List.setIfInBounds_toArray, List.set_cons_zero, List.set_cons_succ]
  refine wpAnyH_take (i := 5) (oi := ⟨some 10, Op.fieldAddr 25 (Operand.tmp 2) 1, 0, _, _, _⟩) (v := ?v5) rfl (by kernel_rfl) (by kernel_rfl) (by kernel_rfl) (fun _ _ _ h => h) (Or.inl ⟨by rfl, ?hy5⟩) hHeld ?rest5
  case hy5 => intro w9 hSw; go_simp; (try with_reducible rfl)
  try simp only [Act.put, List.setIfInBounds_toArray, List.set_cons_zero, List.set_cons_succ]
  refine wpAnyH_take (i := 6) (oi := ⟨some 11, Op.load 2 (Operand.tmp 10), 2, _, _, _⟩) (v := ?v6) rfl (by kernel_rfl) (by kernel_rfl) (by kernel_rfl) (fun _ _ _ h => h) (Or.inl ⟨by rfl, ?hy6⟩) hHeld ?rest6
  case hy6 => intro w9 hSw; have cc := cell_later HC.out.2.1 hSw; go_simp; (try with_reducible rfl)
  try simp only [Act.put, List.setIfInBounds_toArray, List.set_cons_zero, List.set_cons_succ]
  refine wpAnyH_take (i := 7) (oi := ⟨some 12, Op.fieldAddr 25 (Operand.tmp 3) 1, 0, _, _, _⟩) (v := ?v7) rfl (by kernel_rfl) (by kernel_rfl) (by kernel_rfl) (fun _ _ _ h => h) (Or.inl ⟨by rfl, ?hy7⟩) hHeld ?rest7
  case hy7 => intro w9 hSw; go_simp; (try with_reducible rfl)
  try simp only [Act.put, List.setIfInBounds_toArray, List.set_cons_zero, List.set_cons_succ]
  refine wpAnyH_take (i := 8) (oi := ⟨some 13, Op.load 2 (Operand.tmp 12), 2, _, _, _⟩) (v := ?v8) rfl (by kernel_rfl) (by kernel_rfl) (by kernel_rfl) (fun _ _ _ h => h) (Or.inl ⟨by rfl, ?hy8⟩) hHeld ?rest8
  case hy8 => intro w9 hSw; have cc := cell_later HC.out.2.2.2.2.1 hSw; go_simp; (try with_reducible rfl)
  try simp only [Act.put, List.setIfInBounds_toArray, List.set_cons_zero, List.set_cons_succ]
  refine wpAnyH_take (i := 10) (oi := ⟨some 15, Op.fieldAddr 25 (Operand.tmp 2) 2, 0, _, _, _⟩) (v := ?v10) rfl (by kernel_rfl) (by kernel_rfl) (by kernel_rfl) (fun _ _ _ h => h) (Or.inl ⟨by rfl, ?hy10⟩) hHeld ?rest10
  case hy10 => intro w9 hSw; go_simp; (try with_reducible rfl)
  try simp only [Act.put, List.setIfInBounds_toArray, List.set_cons_zero, List.set_cons_succ]
  refine wpAnyH_take (i := 11) (oi := ⟨some 16, Op.load 9 (Operand.tmp 15), 9, _, _, _⟩) (v := ?v11) rfl (by kernel_rfl) (by kernel_rfl) (by kernel_rfl) (fun _ _ _ h => h) (Or.inl ⟨by rfl, ?hy11⟩) hHeld ?rest11
  case hy11 => intro w9 hSw; have cc := cell_later HC.out.2.2.1 hSw; go_simp; (try with_reducible rfl)
  try simp only [Act.put, List.setIfInBounds_toArray, List.set_cons_zero, List.set_cons_succ]
  refine wpAnyH_take (i := 12) (oi := ⟨some 17, Op.fieldAddr 25 (Operand.tmp 3) 2, 0, _, _, _⟩) (v := ?v12) rfl (by kernel_rfl) (by kernel_rfl) (by kernel_rfl) (fun _ _ _ h => h) (Or.inl ⟨by rfl, ?hy12⟩) hHeld ?rest12
  case hy12 => intro w9 hSw; go_simp; (try with_reducible rfl)
  try simp only [Act.put, List.setIfInBounds_toArray, List.set_cons_zero, List.set_cons_succ]
  refine wpAnyH_take (i := 13) (oi := ⟨some 18, Op.load 9 (Operand.tmp 17), 9, _, _, _⟩) (v := ?v13) rfl (by kernel_rfl) (by kernel_rfl) (by kernel_rfl) (fun _ _ _ h => h) (Or.inl ⟨by rfl, ?hy13⟩) hHeld ?rest13
  case hy13 => intro w9 hSw; have cc := cell_later HC.out.2.2.2.2.2 hSw; go_simp; (try with_reducible rfl)
  try simp only [Act.put, List.setIfInBounds_toArray, List.set_cons_zero, List.set_cons_succ]
  refine wpAnyH_ready (rs := [4]) (by kernel_rfl) (by simp) ?_
  refine AllReadyH.cons (o := ⟨some 9, Op.call { callee := Callee.value (Operand.func 74), args := #[Operand.tmp 6, Operand.tmp 8], argTypes := #[3, 3] }, 3, _, _, _⟩) rfl (fun K hK => ?_) AllReadyH.nil
  go_simp
  refine (cmpInt_any _ _ _).mono ?_
  rintro e x4 ⟨rfl, hx4⟩
  replace hx4 := hx4.symm
  subst hx4
  go_wp2_with fail
  refine hK.out _ _ hHeld (fun _ => ?_)
  clear hK K
  try simp only [Act.put, List.setIfInBounds_toArray, List.set_cons_zero, List.set_cons_succ]
  refine wpAnyH_ready (rs := [9]) (by kernel_rfl) (by simp) ?_
  refine AllReadyH.cons (o := ⟨some 14, Op.call { callee := Callee.value (Operand.func 85), args := #[Operand.tmp 11, Operand.tmp 13], argTypes := #[2, 2] }, 3, _, _, _⟩) rfl (fun K hK => ?_) AllReadyH.nil
  go_simp
  refine (cmpInt64_any _ _ _).mono ?_
  rintro e x9 ⟨rfl, hx9⟩
  replace hx9 := hx9.symm
  subst hx9
  go_wp2_with fail
  refine hK.out _ _ hHeld (fun _ => ?_)
  clear hK K
  try simp only [Act.put, List.setIfInBounds_toArray, List.set_cons_zero, List.set_cons_succ]
  refine wpAnyH_ready (rs := [14]) (by kernel_rfl) (by simp) ?_
  refine AllReadyH.cons (o := ⟨some 19, Op.call { callee := Callee.value (Operand.func 76), args := #[Operand.tmp 16, Operand.tmp 18], argTypes := #[9, 9] }, 3, _, _, _⟩) rfl (fun K hK => ?_) AllReadyH.nil
  go_simp
  refine (cmpStr_any _ _ _).mono ?_
  rintro e x14 ⟨rfl, hx14⟩
  replace hx14 := hx14.symm
  subst hx14
  go_wp2_with fail
  refine hK.out _ _ hHeld (fun _ => ?_)
  clear hK K
  try simp only [Act.put, List.setIfInBounds_toArray, List.set_cons_zero, List.set_cons_succ]
  refine wpAnyH_ready (rs := [15]) (by kernel_rfl) (by simp) ?_
  refine AllReadyH.cons (o := ⟨some 20, Op.buildSlice 85 3 #[(0, Operand.tmp 9), (1, Operand.tmp 14), (2, Operand.tmp 19)], 85, _, _, _⟩) rfl (fun K hK => ?_) AllReadyH.nil
  go_simp
  have hT15 := hHeld.alloc hHeld.size (.cells #[.int .i64 (cmpI k k'), .int .i64 (cmpI n n'), .int .i64 (cmpS s s')] 3)
  refine hK.out _ _ hT15 (fun _ => ?_)
  clear hK K hHeld hT
  have hHeld := hT15
  clear hT15
  have C16 : Calls Tryz.prog 73 #[.slice (some ⟨d.heap.size, 0, none⟩) 3 3] (d.alloc (.cells #[.int .i64 (cmpI k k'), .int .i64 (cmpI n n'), .int .i64 (cmpS s s')] 3)) fun e w' => e = .returned (.int .i64 (ordZ k n s k' n' s')) ∧ w' = (d.alloc (.cells #[.int .i64 (cmpI k k'), .int .i64 (cmpI n n'), .int .i64 (cmpS s s')] 3)) := or_three d.heap.size (cmpI k k') (cmpI n n') (cmpS s s') _ (by simp) (by simp) (by simp)
  generalize d.alloc (.cells #[.int .i64 (cmpI k k'), .int .i64 (cmpI n n'), .int .i64 (cmpS s s')] 3) = D at hHeld C16 ⊢
  refine wpAnyH_ready (rs := [16]) (by kernel_rfl) (by simp) ?_
  refine AllReadyH.cons (o := ⟨some 21, Op.call { callee := Callee.value (Operand.func 73), args := #[Operand.tmp 20], argTypes := #[85] }, 3, _, _, _⟩) rfl (fun K hK => ?_) AllReadyH.nil
  go_simp
  refine (C16).mono ?_
  rintro e x16 ⟨rfl, hx16⟩
  replace hx16 := hx16.symm
  subst hx16
  go_wp2_with fail
  refine hK.out _ _ hHeld (fun _ => ?_)
  clear hK K
  try simp only [Act.put, List.setIfInBounds_toArray, List.set_cons_zero, List.set_cons_succ]
  refine wpAnyH_take (i := 17) (oi := ⟨some 4, Op.assign (Operand.tmp 21), 3, _, _, _⟩) (v := ?v17) rfl (by kernel_rfl) (by kernel_rfl) (by kernel_rfl) (fun _ _ _ h => h) (Or.inl ⟨by rfl, ?hy17⟩) hHeld ?rest17
  case hy17 => intro w9 hSw; go_simp; (try with_reducible rfl)
  try simp only [Act.put, List.setIfInBounds_toArray, List.set_cons_zero, List.set_cons_succ]
  refine wpAnyH_done (by kernel_rfl) ?_ _
  refine NoPanic.normal ?_
  go_wp2
  go_ret
  exact ⟨rfl, hW0.trans (hHeld.mono hW0.size)⟩
end Go.Proofs.YtahlmlbfgijcpaaGreatDoor
namespace Go.Proofs.YtahlmlbfgijcpaaGreatDoor
open Go.RowKit

theorem less_irrefl : ∀ l : List UInt8, Op.bytesLess l l = false
  | [] => rfl
  | a :: l => by simp [Op.bytesLess, less_irrefl l, UInt8.lt_irrefl]
theorem less_total : ∀ l m : List UInt8, l ≠ m → Op.bytesLess l m = !Op.bytesLess m l
  | [], [], h => absurd rfl h
  | [], b :: m, _ => by simp [Op.bytesLess]
  | a :: l, [], _ => by simp [Op.bytesLess]
  | a :: l, b :: m, h => by
    simp only [Op.bytesLess]
    by_cases hab : a = b
    · subst hab
      have := less_total l m (fun e => h (by rw [e]))
      simp [UInt8.lt_irrefl, this]
    · have hba : ¬ b = a := fun e => hab e.symm
      have h1 : (a == b) = false := by simpa using hab
      have h2 : (b == a) = false := by simpa using hba
      rw [h1, h2]
      rcases UInt8.lt_or_lt_of_ne hab with h3 | h3
      · simp [h3, UInt8.lt_asymm h3]
      · simp [h3, UInt8.lt_asymm h3]
theorem less_trans : ∀ l m r : List UInt8, Op.bytesLess l m = true → Op.bytesLess m r = true → Op.bytesLess l r = true
  | _, [], _, h, _ => by simp [Op.bytesLess] at h
  | _, _ :: _, [], _, h => by simp [Op.bytesLess] at h
  | [], _ :: _, _ :: _, _, _ => by simp [Op.bytesLess]
  | a :: l, b :: m, c :: r, h1, h2 => by
    simp only [Op.bytesLess, Bool.or_eq_true, decide_eq_true_eq, Bool.and_eq_true, beq_iff_eq] at h1 h2 ⊢
    rcases h1 with h1 | ⟨rfl, h1⟩
    · rcases h2 with h2 | ⟨rfl, h2⟩
      · exact .inl (UInt8.lt_trans h1 h2)
      · exact .inl h1
    · rcases h2 with h2 | ⟨rfl, h2⟩
      · exact .inl h2
      · exact .inr ⟨rfl, less_trans l m r h1 h2⟩

/-- Two texts: what cmpS says of their bytes. -/
theorem cmpS_cases (s t : ByteArray) : (cmpS s t = -1 ∧ Op.bytesLess s.toList t.toList = true ∧ s.toList ≠ t.toList) ∨ (cmpS s t = 0 ∧ s.toList = t.toList) ∨ (cmpS s t = 1 ∧ Op.bytesLess t.toList s.toList = true ∧ s.toList ≠ t.toList) := by
  unfold cmpS
  by_cases h : s.toList = t.toList
  · rw [h]; simp [less_irrefl]
  · have := less_total _ _ h
    cases h1 : Op.bytesLess s.toList t.toList with
    | true => simp [h]
    | false =>
      rw [h1] at this
      have h2 : Op.bytesLess t.toList s.toList = true := by simpa using this
      simp [h, h2]
theorem cmpI_cases (a b : Int) : (cmpI a b = -1 ∧ a < b) ∨ (cmpI a b = 0 ∧ a = b) ∨ (cmpI a b = 1 ∧ b < a) := by
  unfold cmpI
  by_cases h : a < b
  · simp [h]
  · by_cases h' : b < a
    · simp [h, h']
    · exact .inr (.inl ⟨by simp [h, h'], by omega⟩)

variable (k n : Int) (s : ByteArray) (k' n' : Int) (s' : ByteArray) (k2 n2 : Int) (s2 : ByteArray)
/-- What it says of two values. -/
theorem ordZ_cases : (ordZ k n s k' n' s' = -1 ∧ (k < k' ∨ (k = k' ∧ (n < n' ∨ (n = n' ∧ Op.bytesLess s.toList s'.toList = true))))) ∨ (ordZ k n s k' n' s' = 0 ∧ k = k' ∧ n = n' ∧ s.toList = s'.toList) ∨
    (ordZ k n s k' n' s' = 1 ∧ (k' < k ∨ (k' = k ∧ (n' < n ∨ (n' = n ∧ Op.bytesLess s'.toList s.toList = true))))) := by
  unfold ordZ
  rcases cmpI_cases k k' with ⟨e, h⟩ | ⟨e, h⟩ | ⟨e, h⟩
  · simp [e, h]
  · subst h
    rcases cmpI_cases n n' with ⟨f, g⟩ | ⟨f, g⟩ | ⟨f, g⟩
    · simp [e, f, g]
    · subst g
      rcases cmpS_cases s s' with ⟨a, b, _⟩ | ⟨a, b⟩ | ⟨a, b, _⟩
      · simp [e, f, a, b]
      · simp [e, f, a, b]
      · simp [e, f, a, b]
    · simp [e, f, g]
  · simp [e, h]
theorem ordZ_turn : ordZ k' n' s' k n s = -ordZ k n s k' n' s' := by
  have irr := less_irrefl s.toList
  rcases ordZ_cases k n s k' n' s' with ⟨e, h⟩ | ⟨e, h⟩ | ⟨e, h⟩ <;> rcases ordZ_cases k' n' s' k n s with ⟨f, g⟩ | ⟨f, g⟩ | ⟨f, g⟩ <;> rw [e, f] <;> try rfl
  · exfalso
    rcases h with h | ⟨h, h' | ⟨h', h2⟩⟩ <;> rcases g with g | ⟨g, g' | ⟨g', g2⟩⟩ <;> try omega
    have := less_trans _ _ _ h2 g2
    rw [irr] at this
    cases this
  · exfalso
    rcases h with h | ⟨h, h' | ⟨h', h2⟩⟩ <;> obtain ⟨g, g', g2⟩ := g <;> try omega
    rw [g2, irr] at h2; cases h2
  · exfalso
    rcases g with g | ⟨g, g' | ⟨g', g2⟩⟩ <;> obtain ⟨h, h', h2⟩ := h <;> try omega
    rw [h2, less_irrefl] at g2; cases g2
  · exfalso
    rcases g with g | ⟨g, g' | ⟨g', g2⟩⟩ <;> obtain ⟨h, h', h2⟩ := h <;> try omega
    rw [h2, less_irrefl] at g2; cases g2
  · exfalso
    rcases h with h | ⟨h, h' | ⟨h', h2⟩⟩ <;> obtain ⟨g, g', g2⟩ := g <;> try omega
    rw [g2, irr] at h2; cases h2
  · exfalso
    rcases h with h | ⟨h, h' | ⟨h', h2⟩⟩ <;> rcases g with g | ⟨g, g' | ⟨g', g2⟩⟩ <;> try omega
    have := less_trans _ _ _ g2 h2
    rw [irr] at this
    cases this
/-- And it goes on. -/
theorem ordZ_trans (h1 : ordZ k n s k' n' s' ≤ 0) (h2 : ordZ k' n' s' k2 n2 s2 ≤ 0) : ordZ k n s k2 n2 s2 ≤ 0 := by
  have irr := less_irrefl s.toList
  rcases ordZ_cases k n s k2 n2 s2 with ⟨e, h⟩ | ⟨e, h⟩ | ⟨e, h⟩
  · omega
  · omega
  · exfalso
    rcases ordZ_cases k n s k' n' s' with ⟨f, g⟩ | ⟨f, g, g', g2⟩ | ⟨f, g⟩
    · rcases ordZ_cases k' n' s' k2 n2 s2 with ⟨a, b⟩ | ⟨a, b, b', b2⟩ | ⟨a, b⟩
      · rcases h with h | ⟨h, h' | ⟨h', hh⟩⟩ <;> rcases g with g | ⟨g, g' | ⟨g', gg⟩⟩ <;> rcases b with b | ⟨b, b' | ⟨b', bb⟩⟩ <;> try omega
        have := less_trans _ _ _ (less_trans _ _ _ gg bb) hh
        rw [irr] at this
        cases this
      · rw [← b2] at h
        rcases h with h | ⟨h, h' | ⟨h', hh⟩⟩ <;> rcases g with g | ⟨g, g' | ⟨g', gg⟩⟩ <;> try omega
        have := less_trans _ _ _ gg hh
        rw [irr] at this
        cases this
      · omega
    · rcases ordZ_cases k' n' s' k2 n2 s2 with ⟨a, b⟩ | ⟨a, b, b', b2⟩ | ⟨a, b⟩
      · rw [← g2] at b
        rcases h with h | ⟨h, h' | ⟨h', hh⟩⟩ <;> rcases b with b | ⟨b, b' | ⟨b', bb⟩⟩ <;> try omega
        have := less_trans _ _ _ bb hh
        rw [irr] at this
        cases this
      · rw [← b2, ← g2] at h
        rcases h with h | ⟨h, h' | ⟨h', hh⟩⟩ <;> try omega
        rw [irr] at hh
        cases hh
      · omega
    · omega
end Go.Proofs.YtahlmlbfgijcpaaGreatDoor
namespace Go.Proofs.YtahlmlbfgijcpaaGreatDoor
open Go.RowKit

/-- A value. -/
structure Val where
  k : Int
  n : Int
  s : ByteArray
abbrev Val.v (x : Val) : Value := valV x.k x.n x.s
def val0 : Val := ⟨0, 0, ⟨#[]⟩⟩
/-- A slice of values. -/
def Vals (w : World) (a : Option Addr) (len : Nat) (V : Nat → Val) : Prop :=
  0 < len → ∃ b off, a = some ⟨b, off, none⟩ ∧ ∀ j, j < len → w.cell? ⟨b, off + j * 3, none⟩ = some (.int .i64 (V j).k) ∧ w.cell? ⟨b, off + j * 3 + 1, none⟩ = some (.int .i64 (V j).n) ∧ w.cell? ⟨b, off + j * 3 + 2, none⟩ = some (.string (V j).s)
theorem Vals.later {w w' : World} {a : Option Addr} {n : Nat} {V : Nat → Val} (h : Vals w a n V) (hB : Below w.heap.size w w') : Vals w' a n V := by
  intro h0
  obtain ⟨b, off, e, hc⟩ := h h0
  exact ⟨b, off, e, fun j hj => ⟨cell_later (hc j hj).1 hB, cell_later (hc j hj).2.1 hB, cell_later (hc j hj).2.2 hB⟩⟩
/-- The place of the first of some names that is this one. -/
def idx (Nm : Nat → ByteArray) (s : ByteArray) : Nat → Option Nat
  | 0 => none
  | n + 1 => match idx Nm s n with
    | some i => some i
    | none => if Nm n = s then some n else none
theorem idx_some (Nm : Nat → ByteArray) (s : ByteArray) : ∀ (n i : Nat), idx Nm s n = some i → i < n ∧ Nm i = s ∧ ∀ j, j < i → ¬ Nm j = s
  | 0, i, h => by simp [idx] at h
  | n + 1, i, h => by
    simp only [idx] at h
    split at h
    · rename_i j hj
      cases h
      have := idx_some Nm s n i hj
      exact ⟨by omega, this.2⟩
    · rename_i hj
      split at h
      · rename_i e
        cases h
        refine ⟨by omega, e, ?_⟩
        intro j hj' he
        have hnone : ∀ m, idx Nm s m = none → ∀ j, j < m → ¬ Nm j = s := by
          intro m
          induction m with
          | zero => intro _ j hj; omega
          | succ m ih =>
            intro hm j hj
            simp only [idx] at hm
            split at hm
            · cases hm
            · rename_i hi
              split at hm
              · cases hm
              · rename_i e2
                by_cases ej : j = m
                · exact ej ▸ e2
                · exact ih hi j (by omega)
        exact hnone n hj j hj' he
      · cases h
theorem idx_none (Nm : Nat → ByteArray) (s : ByteArray) : ∀ (n : Nat), idx Nm s n = none → ∀ j, j < n → ¬ Nm j = s
  | 0, _, j, hj => by omega
  | n + 1, h, j, hj => by
    simp only [idx] at h
    split at h
    · cases h
    · rename_i hi
      split at h
      · cases h
      · rename_i e2
        by_cases ej : j = n
        · exact ej ▸ e2
        · exact idx_none Nm s n hi j (by omega)
theorem idx_at (Nm : Nat → ByteArray) (s : ByteArray) (n i : Nat) (hi : i < n) (he : Nm i = s) (hl : ∀ j, j < i → ¬ Nm j = s) : idx Nm s n = some i := by
  cases e : idx Nm s n with
  | none => exact absurd he (idx_none Nm s n e i hi)
  | some k =>
    obtain ⟨_, h2, h3⟩ := idx_some Nm s n k e
    rcases Nat.lt_trichotomy k i with h | h | h
    · exact absurd h2 (hl k h)
    · rw [h]
    · exact absurd he (h3 i h)
/-- Are two values the same? -/
def eqV (x y : Val) : Bool := decide (x.k = y.k) && (decide (x.n = y.n) && decide (x.s = y.s))
theorem eqV_self (x : Val) : eqV x x = true := by simp [eqV]
/-- Are the first values the same? -/
def eqVs (V U : Nat → Val) : Nat → Bool
  | 0 => true
  | k + 1 => eqVs V U k && eqV (V k) (U k)
theorem eqVs_not (V U : Nat → Val) : ∀ (n j : Nat), j < n → eqV (V j) (U j) = false → eqVs V U n = false
  | 0, j, h, _ => by omega
  | n + 1, j, hj, h => by
    simp only [eqVs]
    by_cases e : j = n
    · subst e; rw [h, Bool.and_false]
    · rw [eqVs_not V U n j (by omega) h, Bool.false_and]
theorem eqVs_self (V : Nat → Val) : ∀ n, eqVs V V n = true
  | 0 => rfl
  | n + 1 => by simp only [eqVs]; rw [eqVs_self V n, eqV_self]; rfl
end Go.Proofs.YtahlmlbfgijcpaaGreatDoor
namespace Go.Proofs.YtahlmlbfgijcpaaGreatDoor
open Go.RowKit Go.ChangeShapes Go.WideShapes

section
variable {H : Type} {enc : TypeId × Value → H} {w : World} {base : Nat} {spare : Nat → Bool} {held : Bool}
theorem val_under : ∃ f0 f1 f2 : Field, Tryz.prog.underlying 25 = some (.struct #[f0, f1, f2]) ∧ f0.offset = 0 ∧ f1.offset = 1 ∧ f2.offset = 2 ∧ f0.type = 3 ∧ f1.type = 2 ∧ f2.type = 9 := ⟨_, _, _, Tryz.underlying25, rfl, rfl, rfl, rfl, rfl, rfl⟩
theorem cells_v : Tryz.prog.cellsOf 25 = 3 := by kernel_rfl
theorem cells_n : Tryz.prog.cellsOf 2 = 1 := by kernel_rfl
theorem cells_i : Tryz.prog.cellsOf 3 = 1 := by kernel_rfl
theorem cells_s : Tryz.prog.cellsOf 9 = 1 := by kernel_rfl
/-- The cells of a value, read. -/
theorem trod_val {fuel : Nat} {cs : List Value} {x : DataW H × List MemPlace} (h : DataW.trod enc Tryz.prog w base spare held fuel 25 cs = some x) :
    ∃ q : Val, cs = [.int .i64 q.k, .int .i64 q.n, .string q.s] := by
  obtain ⟨f0, f1, f2, hu, o0, o1, o2, t0, t1, t2⟩ := val_under
  obtain ⟨y0, y1, y2, m, rfl, hl, g0, g1, g2⟩ := Deep.trod_struct3 hu h
  rw [cells_v] at hl
  rw [o0, t0, cells_i] at g0
  rw [o1, t1, cells_n] at g1
  rw [o2, t2, cells_s] at g2
  match cs, hl with
  | [c0, c1, c2], _ =>
    obtain ⟨k, e0, rfl, w0⟩ := DataW.trod_int Tryz.underlying3 g0
    obtain ⟨n, e1, rfl, w1⟩ := DataW.trod_int Tryz.underlying2 g1
    obtain ⟨s, e2, rfl, w2⟩ := DataW.trod_string Tryz.underlying9 g2
    simp at e0 e1 e2
    subst e0 e1 e2
    exact ⟨⟨k, n, s⟩, rfl⟩
end
end Go.Proofs.YtahlmlbfgijcpaaGreatDoor
