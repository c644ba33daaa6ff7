/-
  value.Order answers by K, then by N, then by S's bytes (P6.1).
  value.Right answers what the document's word 'right' says (P6.1).
  The order is an order: plain facts on 'ordZ'.
  Values as they lie in memory, one by itself and in a row; the first place of a name; of no function.
  Of what came in: how much it is, cells of small types; of no function.
  Names, folded texts: of no program (but for what a rune is in the model).
  word.Name and its small functions: a range over a text's runes is a walk over its bytes.
  A map of names' first places; a name's new name; what is older and stays; of no function.
  A map from names to numbers, by what it tells; marks of loops that are done; of no function.
  Rows of texts as lists; of no function.
-/
import Derived.Test.YtfnfegcjgnbgbaaGreatDoorTBrief
import Derived.Test.YtfnfegcjgnbgbaaGreatDoorTAbNote
import Derived.Test.YtfnfegcjgnbgbaaGreatDoorTTrees
import Derived.LoopN
import Derived.Deep.Strs
import Derived.Lib.SpaceUEq
import Derived.Maps.OwnSet
import Derived.Maps.OwnIn
import Derived.Maps.Views
namespace Go.Proofs.YtfnfegcjgnbgbaaGreatDoor
open Go.RowKit

/-- Two numbers, two texts: -1, 0 or 1. -/
def cmpI (a b : Int) : Int := if a < b then -1 else if b < a then 1 else 0
def cmpS (s t : ByteArray) : Int := if Op.bytesLess s.toList t.toList then -1 else if s.toList == t.toList then 0 else 1
/-- The order. -/
def ordZ (k n : Int) (s : ByteArray) (k' n' : Int) (s' : ByteArray) : Int :=
  if cmpI k k' ≠ 0 then cmpI k k' else if cmpI n n' ≠ 0 then cmpI n n' else cmpS s s'

set_option maxHeartbeats 400000 in
theorem nanInt (a : Int) (w : World) : Calls Tryz.prog 114 #[.int .i64 a] w fun e w' => e = .returned (.bool false) ∧ w' = w := by
  go_enter Tryz.func114, Tryz.ntmps114
  go_wp2
  go_ret
  exact ⟨rfl, rfl⟩
set_option maxHeartbeats 400000 in
theorem nanInt64 (a : Int) (w : World) : Calls Tryz.prog 117 #[.int .i64 a] w fun e w' => e = .returned (.bool false) ∧ w' = w := by
  go_enter Tryz.func117, Tryz.ntmps117
  go_wp2
  go_ret
  exact ⟨rfl, rfl⟩
set_option maxHeartbeats 400000 in
theorem nanStr (a : ByteArray) (w : World) : Calls Tryz.prog 116 #[.string a] w fun e w' => e = .returned (.bool false) ∧ w' = w := by
  go_enter Tryz.func116, Tryz.ntmps116
  go_wp2
  go_ret
  exact ⟨rfl, rfl⟩
set_option maxHeartbeats 1000000 in
theorem cmpInt_any (a b : Int) (w : World) : Calls Tryz.prog 111 #[.int .i64 a, .int .i64 b] w fun e w' => e = .returned (.int .i64 (cmpI a b)) ∧ w' = w := by
  unfold cmpI
  by_cases h : a < b
  · rw [if_pos h]
    go_enter Tryz.func111, Tryz.ntmps111
    go_wp2_with (go_at_call 114; refine (nanInt _ _).mono ?_; rintro e w1 ⟨rfl, hw1⟩; replace hw1 := hw1.symm; subst hw1)
    go_ret
    exact ⟨rfl, rfl⟩
  · rw [if_neg h]
    by_cases h' : b < a
    · rw [if_pos h']
      go_enter Tryz.func111, Tryz.ntmps111
      go_wp2_with (go_at_call 114; refine (nanInt _ _).mono ?_; rintro e w1 ⟨rfl, hw1⟩; replace hw1 := hw1.symm; subst hw1)
      go_ret
      exact ⟨rfl, rfl⟩
    · rw [if_neg h']
      go_enter Tryz.func111, Tryz.ntmps111
      go_wp2_with (go_at_call 114; refine (nanInt _ _).mono ?_; rintro e w1 ⟨rfl, hw1⟩; replace hw1 := hw1.symm; subst hw1)
      go_ret
      exact ⟨rfl, rfl⟩
set_option maxHeartbeats 1000000 in
theorem cmpInt64_any (a b : Int) (w : World) : Calls Tryz.prog 115 #[.int .i64 a, .int .i64 b] w fun e w' => e = .returned (.int .i64 (cmpI a b)) ∧ w' = w := by
  unfold cmpI
  by_cases h : a < b
  · rw [if_pos h]
    go_enter Tryz.func115, Tryz.ntmps115
    go_wp2_with (go_at_call 117; refine (nanInt64 _ _).mono ?_; rintro e w1 ⟨rfl, hw1⟩; replace hw1 := hw1.symm; subst hw1)
    go_ret
    exact ⟨rfl, rfl⟩
  · rw [if_neg h]
    by_cases h' : b < a
    · rw [if_pos h']
      go_enter Tryz.func115, Tryz.ntmps115
      go_wp2_with (go_at_call 117; refine (nanInt64 _ _).mono ?_; rintro e w1 ⟨rfl, hw1⟩; replace hw1 := hw1.symm; subst hw1)
      go_ret
      exact ⟨rfl, rfl⟩
    · rw [if_neg h']
      go_enter Tryz.func115, Tryz.ntmps115
      go_wp2_with (go_at_call 117; refine (nanInt64 _ _).mono ?_; rintro e w1 ⟨rfl, hw1⟩; replace hw1 := hw1.symm; subst hw1)
      go_ret
      exact ⟨rfl, rfl⟩
set_option maxHeartbeats 1000000 in
theorem cmpStr_any (a b : ByteArray) (w : World) : Calls Tryz.prog 113 #[.string a, .string b] w fun e w' => e = .returned (.int .i64 (cmpS a b)) ∧ w' = w := by
  unfold cmpS
  cases h : Op.bytesLess a.toList b.toList with
  | true =>
    rw [if_pos rfl]
    go_enter Tryz.func113, Tryz.ntmps113
    go_wp2_with (go_at_call 116; refine (nanStr _ _).mono ?_; rintro e w1 ⟨rfl, hw1⟩; replace hw1 := hw1.symm; subst hw1)
    go_ret
    exact ⟨rfl, rfl⟩
  | false =>
    rw [if_neg (by simp)]
    cases h' : a.toList == b.toList with
    | true =>
      rw [if_pos rfl]
      go_enter Tryz.func113, Tryz.ntmps113
      go_wp2_with (go_at_call 116; refine (nanStr _ _).mono ?_; rintro e w1 ⟨rfl, hw1⟩; replace hw1 := hw1.symm; subst hw1)
      go_ret
      exact ⟨rfl, rfl⟩
    | false =>
      rw [if_neg (by simp)]
      go_enter Tryz.func113, Tryz.ntmps113
      go_wp2_with (go_at_call 116; refine (nanStr _ _).mono ?_; rintro e w1 ⟨rfl, hw1⟩; replace hw1 := hw1.symm; subst hw1)
      go_ret
      exact ⟨rfl, rfl⟩
set_option maxHeartbeats 1000000 in
/-- cmp.Or of three numbers: the first that is not 0. -/
theorem or_three (b : Nat) (x y z : Int) (w : World) (c0 : w.cell? ⟨b, 0, none⟩ = some (.int .i64 x)) (c1 : w.cell? ⟨b, 1, none⟩ = some (.int .i64 y)) (c2 : w.cell? ⟨b, 2, none⟩ = some (.int .i64 z)) :
    Calls Tryz.prog 110 #[.slice (some ⟨b, 0, none⟩) 3 3] w fun e w' => e = .returned (.int .i64 (if x ≠ 0 then x else if y ≠ 0 then y else z)) ∧ w' = w := by
  by_cases hx : x = 0
  · subst hx
    by_cases hy : y = 0
    · subst hy
      by_cases hz : z = 0
      · subst hz
        simp only [ne_eq, not_true_eq_false, if_false]
        go_enter Tryz.func110, Tryz.ntmps110
        go_wp2
        refine wp_loop_rounds 4 ?_
        rw [rounds_succ]; go_wp2
        rw [rounds_succ]; go_wp2
        rw [rounds_succ]; go_wp2
        rw [rounds_succ]; go_wp2
        go_ret
        exact ⟨rfl, rfl⟩
      · have hz' : (z == 0) = false := by simpa using hz
        simp only [ne_eq, not_true_eq_false, if_false]
        go_enter Tryz.func110, Tryz.ntmps110
        go_wp2
        refine wp_loop_rounds 3 ?_
        rw [rounds_succ]; go_wp2
        rw [rounds_succ]; go_wp2
        rw [rounds_succ]; go_wp2
        go_ret
        exact ⟨rfl, rfl⟩
    · have hy' : (y == 0) = false := by simpa using hy
      simp only [ne_eq, not_true_eq_false, if_false, hy, not_false_eq_true, if_true]
      go_enter Tryz.func110, Tryz.ntmps110
      go_wp2
      refine wp_loop_rounds 2 ?_
      rw [rounds_succ]; go_wp2
      rw [rounds_succ]; go_wp2
      go_ret
      exact ⟨rfl, rfl⟩
  · have hx' : (x == 0) = false := by simpa using hx
    simp only [ne_eq, hx, not_false_eq_true, if_true]
    go_enter Tryz.func110, Tryz.ntmps110
    go_wp2
    refine wp_loop_rounds 1 ?_
    rw [rounds_succ]; go_wp2
    go_ret
    exact ⟨rfl, rfl⟩
set_option maxRecDepth 100000 in
set_option maxHeartbeats 4000000 in
theorem order_any (k n : Int) (s : ByteArray) (k' n' : Int) (s' : ByteArray) (w : World) :
    Calls Tryz.prog 112 #[valV k n s, valV k' n' s'] w fun e w' => e = .returned (.int .i64 (ordZ k n s k' n' s')) ∧ Below w.heap.size w w' := by
  go_enter Tryz.func112, Tryz.ntmps112
  go_wp2_with fail
  have hW0 : Below w.heap.size w ((w.alloc (valO k n s)).alloc (valO k' n' s')) := ((Below.refl _ w).alloc (Nat.le_refl _) _).alloc (by simp) _
  have HC : Hid ((((w.alloc (valO k n s)).alloc (valO k' n' s')).cell? ⟨w.heap.size, 0, none⟩ = some (.int .i64 k)) ∧ (((w.alloc (valO k n s)).alloc (valO k' n' s')).cell? ⟨w.heap.size, 1, none⟩ = some (.int .i64 n)) ∧ (((w.alloc (valO k n s)).alloc (valO k' n' s')).cell? ⟨w.heap.size, 2, none⟩ = some (.string s)) ∧
      (((w.alloc (valO k n s)).alloc (valO k' n' s')).cell? ⟨w.heap.size + 1, 0, none⟩ = some (.int .i64 k')) ∧ (((w.alloc (valO k n s)).alloc (valO k' n' s')).cell? ⟨w.heap.size + 1, 1, none⟩ = some (.int .i64 n')) ∧ (((w.alloc (valO k n s)).alloc (valO k' n' s')).cell? ⟨w.heap.size + 1, 2, none⟩ = some (.string s'))) := by
    refine ⟨?_, ?_, ?_, ?_, ?_, ?_⟩ <;> simp
  generalize (w.alloc (valO k n s)).alloc (valO k' n' s') = W at hW0 HC ⊢
  refine wp_region_noPanic ?_
  refine wp_region_held_drew (S := fun w' => Below W.heap.size W w') (by kernel_rfl) ((Below.refl _ _).drew) (fun hHeld => ?_)
  have hT : Below W.heap.size W W.drew := hHeld
  obtain ⟨d, hd⟩ : ∃ d, d = W.drew := ⟨_, rfl⟩
  rw [← hd] at hHeld hT ⊢
  clear hd
  refine wpAnyH_take (i := 0) (oi := ⟨some 5, .fieldAddr 49 (.tmp 2) 0, 0, _, _, _⟩) (v := ?v0) rfl (by kernel_rfl) (by kernel_rfl) (by kernel_rfl) (fun _ _ _ h => h) (Or.inl ⟨by rfl, ?hy0⟩) hHeld ?rest0
  case hy0 => intro w9 hSw; go_simp; (try with_reducible rfl)
  try simp only [Act.put, s_put, s_0, s_1]
  refine wpAnyH_take (i := 1) (oi := ⟨some 6, .load 3 (.tmp 5), 3, _, _, _⟩) (v := ?v1) rfl (by kernel_rfl) (by kernel_rfl) (by kernel_rfl) (fun _ _ _ h => h) (Or.inl ⟨by rfl, ?hy1⟩) hHeld ?rest1
  case hy1 => intro w9 hSw; have cc := cell_later HC.out.1 hSw; go_simp; (try with_reducible rfl)
  try simp only [Act.put, s_put, s_0, s_1]
  refine wpAnyH_take (i := 2) (oi := ⟨some 7, .fieldAddr 49 (.tmp 3) 0, 0, _, _, _⟩) (v := ?v2) rfl (by kernel_rfl) (by kernel_rfl) (by kernel_rfl) (fun _ _ _ h => h) (Or.inl ⟨by rfl, ?hy2⟩) hHeld ?rest2
  case hy2 => intro w9 hSw; go_simp; (try with_reducible rfl)
  try simp only [Act.put, s_put, s_0, s_1]
  refine wpAnyH_take (i := 3) (oi := ⟨some 8, .load 3 (.tmp 7), 3, _, _, _⟩) (v := ?v3) rfl (by kernel_rfl) (by kernel_rfl) (by kernel_rfl) (fun _ _ _ h => h) (Or.inl ⟨by rfl, ?hy3⟩) hHeld ?rest3
  case hy3 => intro w9 hSw; have cc := cell_later HC.out.2.2.2.1 hSw; go_simp; (try with_reducible rfl)
  try simp only [Act.put, s_put, s_0, s_1]
  refine wpAnyH_take (i := 5) (oi := ⟨some 10, .fieldAddr 49 (.tmp 2) 1, 0, _, _, _⟩) (v := ?v5) rfl (by kernel_rfl) (by kernel_rfl) (by kernel_rfl) (fun _ _ _ h => h) (Or.inl ⟨by rfl, ?hy5⟩) hHeld ?rest5
  case hy5 => intro w9 hSw; go_simp; (try with_reducible rfl)
  try simp only [Act.put, s_put, s_0, s_1]
  refine wpAnyH_take (i := 6) (oi := ⟨some 11, .load 2 (.tmp 10), 2, _, _, _⟩) (v := ?v6) rfl (by kernel_rfl) (by kernel_rfl) (by kernel_rfl) (fun _ _ _ h => h) (Or.inl ⟨by rfl, ?hy6⟩) hHeld ?rest6
  case hy6 => intro w9 hSw; have cc := cell_later HC.out.2.1 hSw; go_simp; (try with_reducible rfl)
  try simp only [Act.put, s_put, s_0, s_1]
  refine wpAnyH_take (i := 7) (oi := ⟨some 12, .fieldAddr 49 (.tmp 3) 1, 0, _, _, _⟩) (v := ?v7) rfl (by kernel_rfl) (by kernel_rfl) (by kernel_rfl) (fun _ _ _ h => h) (Or.inl ⟨by rfl, ?hy7⟩) hHeld ?rest7
  case hy7 => intro w9 hSw; go_simp; (try with_reducible rfl)
  try simp only [Act.put, s_put, s_0, s_1]
  refine wpAnyH_take (i := 8) (oi := ⟨some 13, .load 2 (.tmp 12), 2, _, _, _⟩) (v := ?v8) rfl (by kernel_rfl) (by kernel_rfl) (by kernel_rfl) (fun _ _ _ h => h) (Or.inl ⟨by rfl, ?hy8⟩) hHeld ?rest8
  case hy8 => intro w9 hSw; have cc := cell_later HC.out.2.2.2.2.1 hSw; go_simp; (try with_reducible rfl)
  try simp only [Act.put, s_put, s_0, s_1]
  refine wpAnyH_take (i := 10) (oi := ⟨some 15, .fieldAddr 49 (.tmp 2) 2, 0, _, _, _⟩) (v := ?v10) rfl (by kernel_rfl) (by kernel_rfl) (by kernel_rfl) (fun _ _ _ h => h) (Or.inl ⟨by rfl, ?hy10⟩) hHeld ?rest10
  case hy10 => intro w9 hSw; go_simp; (try with_reducible rfl)
  try simp only [Act.put, s_put, s_0, s_1]
  refine wpAnyH_take (i := 11) (oi := ⟨some 16, .load 9 (.tmp 15), 9, _, _, _⟩) (v := ?v11) rfl (by kernel_rfl) (by kernel_rfl) (by kernel_rfl) (fun _ _ _ h => h) (Or.inl ⟨by rfl, ?hy11⟩) hHeld ?rest11
  case hy11 => intro w9 hSw; have cc := cell_later HC.out.2.2.1 hSw; go_simp; (try with_reducible rfl)
  try simp only [Act.put, s_put, s_0, s_1]
  refine wpAnyH_take (i := 12) (oi := ⟨some 17, .fieldAddr 49 (.tmp 3) 2, 0, _, _, _⟩) (v := ?v12) rfl (by kernel_rfl) (by kernel_rfl) (by kernel_rfl) (fun _ _ _ h => h) (Or.inl ⟨by rfl, ?hy12⟩) hHeld ?rest12
  case hy12 => intro w9 hSw; go_simp; (try with_reducible rfl)
  try simp only [Act.put, s_put, s_0, s_1]
  refine wpAnyH_take (i := 13) (oi := ⟨some 18, .load 9 (.tmp 17), 9, _, _, _⟩) (v := ?v13) rfl (by kernel_rfl) (by kernel_rfl) (by kernel_rfl) (fun _ _ _ h => h) (Or.inl ⟨by rfl, ?hy13⟩) hHeld ?rest13
  case hy13 => intro w9 hSw; have cc := cell_later HC.out.2.2.2.2.2 hSw; go_simp; (try with_reducible rfl)
  try simp only [Act.put, s_put, s_0, s_1]
  refine wpAnyH_ready (rs := [4]) (by kernel_rfl) (by simp) ?_
  refine AllReadyH.cons (o := ⟨some 9, .call { callee := .value (.func 111), args := #[.tmp 6, .tmp 8], argTypes := #[3, 3] }, 3, _, _, _⟩) rfl (fun K hK => ?_) AllReadyH.nil
  go_simp
  refine (cmpInt_any _ _ _).mono ?_
  rintro e x4 ⟨rfl, hx4⟩
  replace hx4 := hx4.symm
  subst hx4
  go_wp2_with fail
  refine hK.out _ _ hHeld (fun _ => ?_)
  clear hK K
  try simp only [Act.put, s_put, s_0, s_1]
  refine wpAnyH_ready (rs := [9]) (by kernel_rfl) (by simp) ?_
  refine AllReadyH.cons (o := ⟨some 14, .call { callee := .value (.func 115), args := #[.tmp 11, .tmp 13], argTypes := #[2, 2] }, 3, _, _, _⟩) rfl (fun K hK => ?_) AllReadyH.nil
  go_simp
  refine (cmpInt64_any _ _ _).mono ?_
  rintro e x9 ⟨rfl, hx9⟩
  replace hx9 := hx9.symm
  subst hx9
  go_wp2_with fail
  refine hK.out _ _ hHeld (fun _ => ?_)
  clear hK K
  try simp only [Act.put, s_put, s_0, s_1]
  refine wpAnyH_ready (rs := [14]) (by kernel_rfl) (by simp) ?_
  refine AllReadyH.cons (o := ⟨some 19, .call { callee := .value (.func 113), args := #[.tmp 16, .tmp 18], argTypes := #[9, 9] }, 3, _, _, _⟩) rfl (fun K hK => ?_) AllReadyH.nil
  go_simp
  refine (cmpStr_any _ _ _).mono ?_
  rintro e x14 ⟨rfl, hx14⟩
  replace hx14 := hx14.symm
  subst hx14
  go_wp2_with fail
  refine hK.out _ _ hHeld (fun _ => ?_)
  clear hK K
  try simp only [Act.put, s_put, s_0, s_1]
  refine wpAnyH_ready (rs := [15]) (by kernel_rfl) (by simp) ?_
  refine AllReadyH.cons (o := ⟨some 20, .buildSlice 39 3 #[(0, .tmp 9), (1, .tmp 14), (2, .tmp 19)], 39, _, _, _⟩) rfl (fun K hK => ?_) AllReadyH.nil
  go_simp
  have hT15 := hHeld.alloc hHeld.size (.cells #[.int .i64 (cmpI k k'), .int .i64 (cmpI n n'), .int .i64 (cmpS s s')] 3)
  refine hK.out _ _ hT15 (fun _ => ?_)
  clear hK K hHeld hT
  have hHeld := hT15
  clear hT15
  have C16 : Calls Tryz.prog 110 #[.slice (some ⟨d.heap.size, 0, none⟩) 3 3] (d.alloc (.cells #[.int .i64 (cmpI k k'), .int .i64 (cmpI n n'), .int .i64 (cmpS s s')] 3)) fun e w' => e = .returned (.int .i64 (ordZ k n s k' n' s')) ∧ w' = (d.alloc (.cells #[.int .i64 (cmpI k k'), .int .i64 (cmpI n n'), .int .i64 (cmpS s s')] 3)) := or_three d.heap.size (cmpI k k') (cmpI n n') (cmpS s s') _ (by simp) (by simp) (by simp)
  generalize d.alloc (.cells #[.int .i64 (cmpI k k'), .int .i64 (cmpI n n'), .int .i64 (cmpS s s')] 3) = D at hHeld C16 ⊢
  refine wpAnyH_ready (rs := [16]) (by kernel_rfl) (by simp) ?_
  refine AllReadyH.cons (o := ⟨some 21, .call { callee := .value (.func 110), args := #[.tmp 20], argTypes := #[39] }, 3, _, _, _⟩) rfl (fun K hK => ?_) AllReadyH.nil
  go_simp
  refine (C16).mono ?_
  rintro e x16 ⟨rfl, hx16⟩
  replace hx16 := hx16.symm
  subst hx16
  go_wp2_with fail
  refine hK.out _ _ hHeld (fun _ => ?_)
  clear hK K
  try simp only [Act.put, s_put, s_0, s_1]
  refine wpAnyH_take (i := 17) (oi := ⟨some 4, .assign (.tmp 21), 3, _, _, _⟩) (v := ?v17) rfl (by kernel_rfl) (by kernel_rfl) (by kernel_rfl) (fun _ _ _ h => h) (Or.inl ⟨by rfl, ?hy17⟩) hHeld ?rest17
  case hy17 => intro w9 hSw; go_simp; (try with_reducible rfl)
  try simp only [Act.put, s_put, s_0, s_1]
  refine wpAnyH_done (by kernel_rfl) ?_ _
  refine NoPanic.normal ?_
  go_wp2
  go_ret
  exact ⟨rfl, hW0.trans (hHeld.mono hW0.size)⟩
end Go.Proofs.YtfnfegcjgnbgbaaGreatDoor
namespace Go.Proofs.YtfnfegcjgnbgbaaGreatDoor
open Go.RowKit

set_option maxHeartbeats 400000 in
theorem right_text0 (s : ByteArray) (w : World) (hl : ¬ 256 < (s.size : Int)) : Calls Tryz.prog 102 #[valV 3 0 s] w fun e w' => e = .returned (.bool true) ∧ Below w.heap.size w w' := by
  have HL : Hid _ := hl
  clear hl
  go_enter Tryz.func102, Tryz.ntmps102
  go_wp2_with fail
  go_region_with (first | (go_at_call 109; refine (text_short _ _ HL.out).mono ?_; rintro e w1 ⟨rfl, rfl⟩))
  all_goals go_wp2
  all_goals go_ret
  all_goals exact ⟨rfl, below_two _ _ _⟩
set_option maxHeartbeats 400000 in
theorem right_text1 (n : Int) (s : ByteArray) (w : World) (hn : (n == 0) = false) (hl : ¬ 256 < (s.size : Int)) : Calls Tryz.prog 102 #[valV 3 n s] w fun e w' => e = .returned (.bool false) ∧ Below w.heap.size w w' := by
  have HL : Hid _ := hl
  clear hl
  go_enter Tryz.func102, Tryz.ntmps102
  go_wp2_with fail
  go_region_with (first | (go_at_call 109; refine (text_short _ _ HL.out).mono ?_; rintro e w1 ⟨rfl, rfl⟩))
  all_goals go_wp2
  all_goals go_ret
  all_goals exact ⟨rfl, below_two _ _ _⟩
set_option maxHeartbeats 400000 in
theorem right_text2 (n : Int) (s : ByteArray) (w : World) (hl : 256 < (s.size : Int)) : Calls Tryz.prog 102 #[valV 3 n s] w fun e w' => e = .returned (.bool false) ∧ Below w.heap.size w w' := by
  have HL : Hid _ := hl
  clear hl
  go_enter Tryz.func102, Tryz.ntmps102
  go_wp2_with fail
  go_region_with (first | (go_at_call 109; refine (text_long _ _ HL.out).mono ?_; rintro e w1 ⟨rfl, rfl⟩))
  all_goals go_wp2
  all_goals go_ret
  all_goals exact ⟨rfl, below_three _ _ _ _⟩
/-- The word 'right'. -/
def rightB (k n : Int) (s : ByteArray) : Bool :=
  if k = 0 then decide (n = 0) && s.toList == []
  else if k = 1 then (decide (n = 0) || decide (n = 1)) && s.toList == []
  else if k = 2 then s.toList == []
  else if k = 3 then decide (n = 0) && decide (s.size ≤ 256)
  else false

theorem empty_str {s : ByteArray} (h : (s.toList == []) = true) : s = ⟨#[]⟩ := by
  rw [ByteArray.toList_eq] at h
  obtain ⟨⟨x⟩⟩ := s
  cases x with
  | nil => rfl
  | cons a l => simp at h
theorem right_any (k n : Int) (s : ByteArray) (w : World) : Calls Tryz.prog 102 #[valV k n s] w fun e w' => e = .returned (.bool (rightB k n s)) ∧ Below w.heap.size w w' := by
  unfold rightB
  by_cases h0 : k = 0
  · subst h0
    rw [if_pos rfl]
    by_cases hn : n = 0
    · subst hn
      cases hs : s.toList == [] with
      | true => obtain rfl := empty_str hs; simpa using right_null0 w
      | false => simpa using right_null2 s w hs
    · simpa [hn] using right_null1 n s w (by simpa using hn)
  · rw [if_neg h0]
    by_cases h1 : k = 1
    · subst h1
      rw [if_pos rfl]
      by_cases hn : n = 0
      · subst hn
        cases hs : s.toList == [] with
        | true => obtain rfl := empty_str hs; simpa using right_bool0 w
        | false => simpa using right_bool2 s w hs
      · by_cases hm : n = 1
        · subst hm
          cases hs : s.toList == [] with
          | true => obtain rfl := empty_str hs; simpa using right_bool1 w
          | false => simpa using right_bool3 s w hs
        · simpa [hn, hm] using right_bool4 n s w (by simpa using hn) (by simpa using hm)
    · rw [if_neg h1]
      by_cases h2 : k = 2
      · subst h2
        rw [if_pos rfl]
        cases hs : s.toList == [] with
        | true => obtain rfl := empty_str hs; exact right_int0 n w
        | false => exact right_int1 n s w hs
      · rw [if_neg h2]
        by_cases h3 : k = 3
        · subst h3
          rw [if_pos rfl]
          by_cases hl : 256 < (s.size : Int)
          · have e : decide (s.size ≤ 256) = false := decide_eq_false (by omega)
            rw [e, Bool.and_false]
            exact right_text2 n s w hl
          · have e : decide (s.size ≤ 256) = true := decide_eq_true (by omega)
            rw [e, Bool.and_true]
            by_cases hn : n = 0
            · subst hn; exact right_text0 s w hl
            · rw [decide_eq_false hn]; exact right_text1 n s w (by simpa using hn) hl
        · rw [if_neg h3]
          exact right_none k n s w (by simpa using h0) (by simpa using h1) (by simpa using h2) (by simpa using h3)
end Go.Proofs.YtfnfegcjgnbgbaaGreatDoor
namespace Go.Proofs.YtfnfegcjgnbgbaaGreatDoor
open Go.RowKit

theorem less_irrefl : ∀ l : List UInt8, Op.bytesLess l l = false
  | [] => rfl
  | a :: l => by simp [Op.bytesLess, less_irrefl l, UInt8.lt_irrefl]
theorem less_total : ∀ l m : List UInt8, l ≠ m → Op.bytesLess l m = !Op.bytesLess m l
  | [], [], h => absurd rfl h
  | [], b :: m, _ => by simp [Op.bytesLess]
  | a :: l, [], _ => by simp [Op.bytesLess]
  | a :: l, b :: m, h => by
    simp only [Op.bytesLess]
    by_cases hab : a = b
    · subst hab
      have := less_total l m (fun e => h (by rw [e]))
      simp [UInt8.lt_irrefl, this]
    · have hba : ¬ b = a := fun e => hab e.symm
      have h1 : (a == b) = false := by simpa using hab
      have h2 : (b == a) = false := by simpa using hba
      rw [h1, h2]
      rcases UInt8.lt_or_lt_of_ne hab with h3 | h3
      · simp [h3, UInt8.lt_asymm h3]
      · simp [h3, UInt8.lt_asymm h3]
/-- Two texts: what cmpS says of their bytes. -/
theorem cmpS_cases (s t : ByteArray) : (cmpS s t = -1 ∧ Op.bytesLess s.toList t.toList = true ∧ s.toList ≠ t.toList) ∨ (cmpS s t = 0 ∧ s.toList = t.toList) ∨ (cmpS s t = 1 ∧ Op.bytesLess t.toList s.toList = true ∧ s.toList ≠ t.toList) := by
  unfold cmpS
  by_cases h : s.toList = t.toList
  · rw [h]; simp [less_irrefl]
  · have := less_total _ _ h
    cases h1 : Op.bytesLess s.toList t.toList with
    | true => simp [h]
    | false =>
      rw [h1] at this
      have h2 : Op.bytesLess t.toList s.toList = true := by simpa using this
      simp [h, h2]
theorem cmpI_cases (a b : Int) : (cmpI a b = -1 ∧ a < b) ∨ (cmpI a b = 0 ∧ a = b) ∨ (cmpI a b = 1 ∧ b < a) := by
  unfold cmpI
  by_cases h : a < b
  · simp [h]
  · by_cases h' : b < a
    · simp [h, h']
    · exact .inr (.inl ⟨by simp [h, h'], by omega⟩)

variable (k n : Int) (s : ByteArray) (k' n' : Int) (s' : ByteArray) (k2 n2 : Int) (s2 : ByteArray)
end Go.Proofs.YtfnfegcjgnbgbaaGreatDoor
namespace Go.Proofs.YtfnfegcjgnbgbaaGreatDoor
open Go.RowKit

/-- A value. -/
structure Val where
  k : Int
  n : Int
  s : ByteArray
abbrev Val.v (x : Val) : Value := valV x.k x.n x.s
def val0 : Val := ⟨0, 0, ⟨#[]⟩⟩
end Go.Proofs.YtfnfegcjgnbgbaaGreatDoor
namespace Go.Proofs.YtfnfegcjgnbgbaaGreatDoor
open Go.RowKit Go.ChangeShapes Go.WideShapes

section
variable {H : Type}
theorem cells_i : Tryz.prog.cellsOf 3 = 1 := by kernel_rfl
theorem cells_s : Tryz.prog.cellsOf 9 = 1 := by kernel_rfl
theorem bulk_app (l r : List (DataW H)) : Rows.uptoBulkAll (l ++ r) = Rows.uptoBulkAll l + Rows.uptoBulkAll r := by
  induction l with
  | nil => simp [Rows.uptoBulkAll]
  | cons x l ih => simp only [List.cons_append, Rows.uptoBulkAll, ih]; omega
theorem bulk_range (D : Nat → DataW H) : ∀ n, Rows.uptoBulkAll ((List.range n).map D) = sumN (fun i => Rows.uptoBulk (D i)) n
  | 0 => rfl
  | n + 1 => by
    rw [List.range_succ, List.map_append, bulk_app, bulk_range D n]
    simp [sumN, Rows.uptoBulkAll]
theorem sumN_mono {f g : Nat → Nat} : ∀ {n : Nat}, (∀ i, i < n → f i ≤ g i) → sumN f n ≤ sumN g n
  | 0, _ => Nat.le_refl _
  | n + 1, h => by
    have h1 := sumN_mono (n := n) fun i hi => h i (by omega)
    have h2 := h n (by omega)
    simp only [sumN]
    omega
theorem add_none (b o j : Nat) : (Addr.mk b o none).add j = ⟨b, o + j, none⟩ := by
  unfold Addr.add
  split
  · simp
  · rfl
end
end Go.Proofs.YtfnfegcjgnbgbaaGreatDoor
namespace Go.Proofs.YtfnfegcjgnbgbaaGreatDoor
open Go.RowKit

def smallB (c : Int) : Bool := decide (97 ≤ c ∧ c ≤ 122)
def laterB (c : Int) : Bool := decide (48 ≤ c ∧ c ≤ 57 ∨ c = 95)
def digitB (c : Int) : Bool := decide (48 ≤ c ∧ c ≤ 57)
def signB (c : Int) : Bool := smallB c || laterB c
def fitsB (s : ByteArray) : Bool := decide (1 ≤ s.size ∧ s.size ≤ 32)
/-- May a byte stand at a place of a name? -/
def okB (c : Int) (j : Nat) : Bool := smallB c || (laterB c && decide (j ≠ 0))
def nameB (s : ByteArray) : Bool := decide (∀ j, j < s.size → okB (byteAt s j) j = true) && fitsB s
theorem nameB_all {s : ByteArray} (h : ∀ j, j < s.size → okB (byteAt s j) j = true) : nameB s = fitsB s := by
  unfold nameB; rw [decide_eq_true h]; simp
theorem nameB_not {s : ByteArray} (j : Nat) (hj : j < s.size) (h : okB (byteAt s j) j = false) : nameB s = false := by
  unfold nameB; rw [decide_eq_false (fun k => by rw [k j hj] at h; cases h)]; simp
/-! ### Runes -/
theorem get!_at (s : ByteArray) (k : Nat) (h : k < s.size) : s.get! k = s[k]'h := by
  have := get_at s k h
  rwa [Nat.add_zero] at this
/-- A rune that is no byte below 128 goes over bytes none of which is below 128, and ends within the text. -/
theorem rune_over (s : ByteArray) (p : Nat) (h : p < s.size) (ha : 128 ≤ byteAt s p) :
    128 ≤ (Utf8.decode s p).1 ∧ 1 ≤ (Utf8.decode s p).2 ∧ p + (Utf8.decode s p).2 ≤ s.size ∧ ∀ j, p ≤ j → j < p + (Utf8.decode s p).2 → 128 ≤ byteAt s j := by
  have hh := decode_high s p h (by have := byteAt_get s p h; omega)
  have hd := Lib.decodeN_conts (s.size - p) (s.get! p).toNat (s.get! (p + 1)).toNat (s.get! (p + 2)).toNat (s.get! (p + 3)).toNat
  rw [← Lib.decode_at] at hd
  obtain ⟨d1, d2, d3, d4⟩ := hd
  refine ⟨hh.1, hh.2, by omega, fun j h1 h2 => ?_⟩
  have key : ∀ k, p + k < s.size → (s.get! (p + k)).toNat / 64 = 2 → 128 ≤ byteAt s (p + k) := by
    intro k hk hq
    rw [get!_at s _ hk] at hq
    have := byteAt_get s _ hk
    omega
  obtain ⟨k, rfl⟩ := Nat.exists_eq_add_of_le h1
  match k, h2 with
  | 0, _ => exact ha
  | 1, h2 => exact key 1 (by omega) (d1 (by omega)).1
  | 2, h2 => exact key 2 (by omega) (d2 (by omega)).1
  | 3, h2 => exact key 3 (by omega) (d3 (by omega)).1
  | k + 4, h2 => omega
theorem rune_byte (s : ByteArray) (p : Nat) (h : p < s.size) (ha : byteAt s p < 128) : Utf8.decode s p = ((byteAt s p).toNat, 1) := by
  have e := byteAt_get s p h
  rw [decode_ascii s p h (by omega)]
  congr 1
  omega
end Go.Proofs.YtfnfegcjgnbgbaaGreatDoor
namespace Go.Proofs.YtfnfegcjgnbgbaaGreatDoor
open Go.RowKit

set_option maxHeartbeats 400000 in
theorem small_any (r : Int) (w : World) : Calls Tryz.prog 91 #[.int .i32 r] w fun e w' => e = .returned (.bool (smallB r)) ∧ w' = w := by
  go_enter Tryz.func91, Tryz.ntmps91
  go_wp2
  all_goals go_ret
  all_goals refine ⟨ret_bool ?_, rfl⟩
  all_goals (unfold smallB; rw [Bool.eq_iff_iff]; simp <;> omega)
set_option maxHeartbeats 400000 in
theorem fits_any (s : ByteArray) (w : World) : Calls Tryz.prog 92 #[.string s] w fun e w' => e = .returned (.bool (fitsB s)) ∧ w' = w := by
  go_enter Tryz.func92, Tryz.ntmps92
  go_wp2
  all_goals go_ret
  all_goals refine ⟨ret_bool ?_, rfl⟩
  all_goals (unfold fitsB; rw [Bool.eq_iff_iff]; simp <;> omega)

theorem below_iter (w : World) (s : ByteArray) (p : Nat) : Below w.heap.size w (w.iter s p) := (Below.refl _ _).alloc (Nat.le_refl _) _

set_option maxRecDepth 100000 in
set_option maxHeartbeats 4000000 in
theorem name_any (s : ByteArray) (w : World) : Calls Tryz.prog 72 #[.string s] w fun e w' => e = .returned (.bool (nameB s)) ∧ Below w.heap.size w w' := by
  obtain ⟨B, hB⟩ : ∃ B, B = nameB s := ⟨_, rfl⟩
  rw [← hB]
  have HB : Hid (B = nameB s) := hB
  clear hB
  have hfit := fun w' => fits_any s w'
  have HF : Hid (∀ w', Calls Tryz.prog 92 _ w' _) := hfit
  clear hfit
  go_enter Tryz.func72, Tryz.ntmps72
  go_wp2
  go_loopw [] (fun w' => ∃ p : Nat, w' = w.iter s p ∧ Hid (∀ j, j < p → j < s.size → okB (byteAt s j) j = true)) (fun w' => s.size - w'.iterPos w.heap.size)
  case atStart => exact ⟨0, rfl, fun j hj => by omega⟩
  case round =>
    obtain ⟨p, rfl, HP⟩ := hrel
    by_cases hp : p < s.size
    · have hbd := byteAt_bd s p
      by_cases ha : byteAt s p < 128
      · have hnx : ∀ ty, (Instr.next (.pointer (some ⟨w.heap.size, 0, none⟩)) true ty).run Tryz.prog (w.iter s p) = .ok (.tuple #[.bool true, .int .i64 p, .int .i32 (byteAt s p)]) (w.iter s (p + 1)) := fun ty => by
          have e := run_next_any (P := Tryz.prog) w s p ty hp
          rw [rune_byte s p hp ha] at e
          rw [e, Int.toNat_of_nonneg hbd.1]
        obtain ⟨c, hc⟩ : ∃ c, c = byteAt s p := ⟨_, rfl⟩
        have HC : Hid (c = byteAt s p) := hc
        rw [← hc] at hnx hbd ha
        clear hc
        by_cases h1 : 97 ≤ c ∧ c ≤ 122
        · have hs : smallB c = true := decide_eq_true h1
          have HO : Hid (okB c p = true) := by show okB c p = true; unfold okB; rw [hs]; rfl
          have HS : Hid (∀ w', Calls Tryz.prog 91 #[.int .i32 c] w' fun e w'' => e = .returned (.bool true) ∧ w'' = w') := fun w' => by have := small_any c w'; rwa [hs] at this
          obtain ⟨h1a, h1b⟩ := h1
          clear hs
          go_wp2_with (first | (go_at_call 91; refine (HS.out _).mono ?_; rintro e w1 ⟨rfl, hw1⟩; replace hw1 := hw1.symm; subst hw1))
          go_roundw
          case rel => exact ⟨p + 1, rfl, fun j hj hjs => if h : j = p then by rw [h, ← HC.out]; exact HO.out else HP.out j (by omega) hjs⟩
          case measure => simp; omega
        · have hs : smallB c = false := decide_eq_false h1
          have HS : Hid (∀ w', Calls Tryz.prog 91 #[.int .i32 c] w' fun e w'' => e = .returned (.bool false) ∧ w'' = w') := fun w' => by have := small_any c w'; rwa [hs] at this
          by_cases h2 : 48 ≤ c ∧ c ≤ 57 ∨ c = 95
          · have hl : laterB c = true := decide_eq_true h2
            by_cases hp0 : p = 0
            · have HO : Hid (okB c p = false) := by show okB c p = false; unfold okB; rw [hs, hl, hp0]; rfl
              subst hp0
              clear hs hl h1
              rcases h2 with ⟨h2a, h2b⟩ | h2
              · go_wp2_with (first | (go_at_call 91; refine (HS.out _).mono ?_; rintro e w1 ⟨rfl, hw1⟩; replace hw1 := hw1.symm; subst hw1))
                try rw [Exit.noGoto_ret]
                go_ret
                exact ⟨ret_bool (by rw [HB.out, nameB_not _ hp (by rw [← HC.out]; exact HO.out)]), below_iter w s _⟩
              · subst h2
                go_wp2_with (first | (go_at_call 91; refine (HS.out _).mono ?_; rintro e w1 ⟨rfl, hw1⟩; replace hw1 := hw1.symm; subst hw1))
                try rw [Exit.noGoto_ret]
                go_ret
                exact ⟨ret_bool (by rw [HB.out, nameB_not _ hp (by rw [← HC.out]; exact HO.out)]), below_iter w s _⟩
            · have HO : Hid (okB c p = true) := by show okB c p = true; unfold okB; rw [hs, hl]; simp [hp0]
              have hp1 : ¬ (p : Int) = 0 := by omega
              clear hs hl h1
              rcases h2 with ⟨h2a, h2b⟩ | h2
              · go_wp2_with (first | (go_at_call 91; refine (HS.out _).mono ?_; rintro e w1 ⟨rfl, hw1⟩; replace hw1 := hw1.symm; subst hw1))
                go_roundw
                case rel => exact ⟨p + 1, rfl, fun j hj hjs => if h : j = p then by rw [h, ← HC.out]; exact HO.out else HP.out j (by omega) hjs⟩
                case measure => simp; omega
              · subst h2
                go_wp2_with (first | (go_at_call 91; refine (HS.out _).mono ?_; rintro e w1 ⟨rfl, hw1⟩; replace hw1 := hw1.symm; subst hw1))
                go_roundw
                case rel => exact ⟨p + 1, rfl, fun j hj hjs => if h : j = p then by rw [h, ← HC.out]; exact HO.out else HP.out j (by omega) hjs⟩
                case measure => simp; omega
          · have hl : laterB c = false := decide_eq_false h2
            have HO : Hid (okB c p = false) := by show okB c p = false; unfold okB; rw [hs, hl]; rfl
            have h95 : ¬ c = 95 := fun h => h2 (.inr h)
            have h95' : (c == (95 : Int)) = false := by simp [h95]
            clear hs hl h1
            by_cases h48 : 48 ≤ c
            · have h57 : ¬ c ≤ 57 := fun h => h2 (.inl ⟨h48, h⟩)
              clear h2
              by_cases hp0 : p = 0
              · subst hp0
                go_wp2_with (first | (go_at_call 91; refine (HS.out _).mono ?_; rintro e w1 ⟨rfl, hw1⟩; replace hw1 := hw1.symm; subst hw1))
                try rw [Exit.noGoto_ret]
                go_ret
                exact ⟨ret_bool (by rw [HB.out, nameB_not _ hp (by rw [← HC.out]; exact HO.out)]), below_iter w s _⟩
              · have hp1 : ¬ (p : Int) = 0 := by omega
                go_wp2_with (first | (go_at_call 91; refine (HS.out _).mono ?_; rintro e w1 ⟨rfl, hw1⟩; replace hw1 := hw1.symm; subst hw1))
                try rw [Exit.noGoto_ret]
                go_ret
                exact ⟨ret_bool (by rw [HB.out, nameB_not _ hp (by rw [← HC.out]; exact HO.out)]), below_iter w s _⟩
            · clear h2
              by_cases hp0 : p = 0
              · subst hp0
                go_wp2_with (first | (go_at_call 91; refine (HS.out _).mono ?_; rintro e w1 ⟨rfl, hw1⟩; replace hw1 := hw1.symm; subst hw1))
                try rw [Exit.noGoto_ret]
                go_ret
                exact ⟨ret_bool (by rw [HB.out, nameB_not _ hp (by rw [← HC.out]; exact HO.out)]), below_iter w s _⟩
              · have hp1 : ¬ (p : Int) = 0 := by omega
                go_wp2_with (first | (go_at_call 91; refine (HS.out _).mono ?_; rintro e w1 ⟨rfl, hw1⟩; replace hw1 := hw1.symm; subst hw1))
                try rw [Exit.noGoto_ret]
                go_ret
                exact ⟨ret_bool (by rw [HB.out, nameB_not _ hp (by rw [← HC.out]; exact HO.out)]), below_iter w s _⟩
      · obtain ⟨r1, r2, _, _⟩ := rune_over s p hp (by omega)
        have hnx : ∀ ty, (Instr.next (.pointer (some ⟨w.heap.size, 0, none⟩)) true ty).run Tryz.prog (w.iter s p) = _ := fun ty => run_next_any (P := Tryz.prog) w s p ty hp
        have HO : Hid (okB (byteAt s p) p = false) := by
          show okB (byteAt s p) p = false
          unfold okB smallB laterB
          rw [decide_eq_false (by omega), decide_eq_false (by omega)]; rfl
        obtain ⟨c, hc⟩ : ∃ c : Int, c = ((Utf8.decode s p).1 : Int) := ⟨_, rfl⟩
        have hc1 : 128 ≤ c := by omega
        rw [← hc] at hnx
        generalize (Utf8.decode s p).2 = q at hnx
        have hs : smallB c = false := decide_eq_false (by omega)
        have HS : Hid (∀ w', Calls Tryz.prog 91 #[.int .i32 c] w' fun e w'' => e = .returned (.bool false) ∧ w'' = w') := fun w' => by have := small_any c w'; rwa [hs] at this
        have h57 : ¬ c ≤ 57 := by omega
        have h48 : 48 ≤ c := by omega
        have h95 : ¬ c = 95 := by omega
        have h95' : (c == (95 : Int)) = false := by simp [h95]
        clear hs ha r1 r2 hbd hc
        by_cases hp0 : p = 0
        · subst hp0
          go_wp2_with (first | (go_at_call 91; refine (HS.out _).mono ?_; rintro e w1 ⟨rfl, hw1⟩; replace hw1 := hw1.symm; subst hw1))
          try rw [Exit.noGoto_ret]
          go_ret
          exact ⟨ret_bool (by rw [HB.out, nameB_not 0 hp HO.out]), below_iter w s _⟩
        · have hp1 : ¬ (p : Int) = 0 := by omega
          go_wp2_with (first | (go_at_call 91; refine (HS.out _).mono ?_; rintro e w1 ⟨rfl, hw1⟩; replace hw1 := hw1.symm; subst hw1))
          try rw [Exit.noGoto_ret]
          go_ret
          exact ⟨ret_bool (by rw [HB.out, nameB_not p hp HO.out]), below_iter w s _⟩
    · have hnx : ∀ ty, (Instr.next (.pointer (some ⟨w.heap.size, 0, none⟩)) true ty).run Tryz.prog (w.iter s p) = _ := fun ty => run_next_end w s p ty hp
      go_wp2_with (first | (go_at_call 92; refine (HF.out _).mono ?_; rintro e w1 ⟨rfl, hw1⟩; replace hw1 := hw1.symm; subst hw1))
      go_ret
      refine ⟨ret_bool ?_, below_iter w s p⟩
      rw [HB.out, nameB_all (fun j hj => HP.out j (by omega) hj)]
end Go.Proofs.YtfnfegcjgnbgbaaGreatDoor
namespace Go.Proofs.YtfnfegcjgnbgbaaGreatDoor
open Go.RowKit Go.Shelf Go.Maps Go.WideMaps

abbrev zeroI : DataW Unit := .lit (.int .i64 0)
theorem ownsMap_ag {B : Nat} {W A : World} (h : Ag B W A) {b n : Nat} {D : DataW Unit} (hb : b < B) (ho : W.ownsMap Tryz.prog 9 (plainElem (H := Unit) Tryz.prog 3) b n D) : A.ownsMap Tryz.prog 9 (plainElem (H := Unit) Tryz.prog 3) b n D := by
  obtain ⟨es, clock, h1, h2⟩ := ho
  exact ⟨es, clock, (h.low b hb).trans h1, h2⟩
theorem ownsMap_below {B : Nat} {W A : World} (h : Below B W A) {b n : Nat} {D : DataW Unit} (hb : b < B) (ho : W.ownsMap Tryz.prog 9 (plainElem (H := Unit) Tryz.prog 3) b n D) : A.ownsMap Tryz.prog 9 (plainElem (H := Unit) Tryz.prog 3) b n D := by
  obtain ⟨es, clock, h1, h2⟩ := ho
  exact ⟨es, clock, (h.block b hb).trans h1, h2⟩
/-- What is older than N1 stays, but for one block. -/
structure Lb (N1 B0 : Nat) (W W' : World) : Prop where
  os : W'.os = W.os
  tape : W'.tape = W.tape
  output : W'.output = W.output
  size : W.heap.size ≤ W'.heap.size
  block : ∀ k, k < N1 → k ≠ B0 → W'.heap[k]? = W.heap[k]?
theorem Lb.refl (N1 B0 : Nat) (W : World) : Lb N1 B0 W W := ⟨rfl, rfl, rfl, Nat.le_refl _, fun _ _ _ => rfl⟩
theorem Lb.trans {N1 B0 : Nat} {A B C : World} (h : Lb N1 B0 A B) (g : Lb N1 B0 B C) : Lb N1 B0 A C :=
  ⟨g.os.trans h.os, g.tape.trans h.tape, g.output.trans h.output, Nat.le_trans h.size g.size, fun k h1 h2 => (g.block k h1 h2).trans (h.block k h1 h2)⟩
theorem Lb.ag {N1 B0 B : Nat} {W A A' W' : World} (h : Ag B W A) (h' : Ag B A' W') (hN : N1 ≤ B) (g : Lb N1 B0 A A') : Lb N1 B0 W W' :=
  ⟨h'.os.trans (g.os.trans h.os), h'.tape.trans (g.tape.trans h.tape), h'.output.trans (g.output.trans h.output), by rw [h'.size, ← h.size]; exact g.size, fun k h1 h2 => (h'.low k (by omega)).trans ((g.block k h1 h2).trans (h.low k (by omega)))⟩
theorem Lb.set {N1 B0 b o : Nat} {W : World} {v : Value} (hb : b = B0 ∨ N1 ≤ b) : Lb N1 B0 W (W.setCell ⟨b, o, none⟩ v) :=
  ⟨rfl, rfl, rfl, Nat.le_of_eq (World.size_setCell ..).symm, fun k h1 h2 => Below.heap_setCell W ⟨b, o, none⟩ v k (fun e => by have e' : k = b := e; omega)⟩
theorem Lb.below {N1 B0 n : Nat} {W W' : World} (h : Lb N1 B0 W W') (hn : n ≤ N1) (hB : n ≤ B0) : Below n W W' := ⟨h.os, h.tape, h.output, h.size, fun k hk => h.block k (by omega) (by omega)⟩
theorem Lb.of_below {N1 B0 : Nat} {W W' : World} (h : Below N1 W W') : Lb N1 B0 W W' := ⟨h.os, h.tape, h.output, h.size, fun k hk _ => h.block k hk⟩

theorem Lb.boxed {N1 B0 : Nat} {W W' : World} (h : Lb N1 B0 W W') {b : Nat} {t : TypeId} {v : Value} (hb : Boxed W b t v) (h1 : b < N1) (h2 : b ≠ B0) : Boxed W' b t v := (h.block b h1 h2).trans hb
theorem Lb.map {N1 B0 : Nat} {W W' : World} (h : Lb N1 B0 W W') {b n : Nat} {D : DataW Unit} (h1 : b < N1) (h2 : b ≠ B0) (ho : W.ownsMap Tryz.prog 9 (plainElem (H := Unit) Tryz.prog 3) b n D) : W'.ownsMap Tryz.prog 9 (plainElem (H := Unit) Tryz.prog 3) b n D := by
  obtain ⟨es, clock, q1, q2⟩ := ho
  exact ⟨es, clock, (h.block b h1 h2).trans q1, q2⟩
end Go.Proofs.YtfnfegcjgnbgbaaGreatDoor
namespace Go.Proofs.YtfnfegcjgnbgbaaGreatDoor
open Go.RowKit Go.Shelf Go.Maps Go.WideMaps

/-- What the map tells of each name. -/
def MapsTo (P : ByteArray → Option Nat) (D : DataW Unit) : Prop :=
  (∀ s, P s = none → Maps.has D (keyS s) = false) ∧ ∀ s j, P s = some j → Maps.has D (keyS s) = true ∧ D.atKey (keyS s) zeroI = .lit (.int .i64 j)
theorem mapsTo_none : MapsTo (fun _ => none) (.map []) := ⟨fun _ _ => rfl, fun _ _ h => by cases h⟩
theorem MapsTo.put {P : ByteArray → Option Nat} {D : DataW Unit} (h : MapsTo P D) (hm : IsMap D) (s : ByteArray) (k : Nat) : MapsTo (fun t => if t = s then some k else P t) (D.put (keyS s) (.lit (.int .i64 k))) := by
  refine ⟨fun t ht => ?_, fun t j ht => ?_⟩
  · by_cases e : t = s
    · simp only [if_pos e] at ht; cases ht
    · simp only [if_neg e] at ht
      rw [has_put_other (keyS_ne e)]
      exact h.1 t ht
  · by_cases e : t = s
    · simp only [if_pos e] at ht
      cases ht
      subst e
      exact ⟨has_put_same hm (by simp [WideAt.IsKeyLit]) _, atKey_put_same hm (by simp [WideAt.IsKeyLit]) _ _⟩
    · simp only [if_neg e] at ht
      rw [has_put_other (keyS_ne e), atKey_put_other (keyS_ne e)]
      exact h.2 t j ht
theorem MapsTo.congr {P Q : ByteArray → Option Nat} {D : DataW Unit} (h : MapsTo P D) (e : ∀ s, Q s = P s) : MapsTo Q D := ⟨fun s hs => h.1 s ((e s).symm.trans hs), fun s j hs => h.2 s j ((e s).symm.trans hs)⟩
set_option maxRecDepth 100000 in
/-- A look-up with both answers. -/
theorem look_to {W : World} {M q : Nat} {D : DataW Unit} {P : ByteArray → Option Nat} {s : ByteArray} (ho : W.ownsMap Tryz.prog 9 (plainElem (H := Unit) Tryz.prog 3) M q D) (hF : MapsTo P D) (hs : s.size ≤ maxLen) :
    ∃ c : Int, (Instr.lookup 104 (.map (some M)) (.string s) true).run Tryz.prog W = .ok (.tuple #[.int .i64 c, .bool (P s).isSome]) W ∧ ∀ j : Nat, P s = some j → c = j := by
  have hkey : keyOf Tryz.prog 9 (.string s) = some (keyS s) := keyOf_string_mk Tryz.underlying9 hs
  obtain ⟨v, ps, hrun, hv⟩ := ho.look_ok str_law Tryz.underlying104 (z := .int .i64 0) rfl (plainElem_int Tryz.underlying3 (WalkArith.wf_i64 (by omega))) hkey
  obtain ⟨c, rfl, hc, hwc⟩ := plainElem_int_inv Tryz.underlying3 hv
  have hc' : D.atKey (keyS s) zeroI = .lit (.int .i64 c) := congrArg Prod.fst hc
  refine ⟨c, ?_, fun j hj => ?_⟩
  · rw [hrun]
    cases e : P s with
    | none => rw [hF.1 s e]; rfl
    | some j => rw [(hF.2 s j e).1]; rfl
  · have := (hF.2 s j hj).2
    rw [hc'] at this
    injection this with e
    injection e with _ e
set_option maxRecDepth 100000 in
/-- A look-up with one. -/
theorem look1_to {W : World} {M q : Nat} {D : DataW Unit} {P : ByteArray → Option Nat} {s : ByteArray} {j : Nat} (ho : W.ownsMap Tryz.prog 9 (plainElem (H := Unit) Tryz.prog 3) M q D) (hF : MapsTo P D) (hs : s.size ≤ maxLen) (hj : P s = some j) :
    (Instr.lookup 104 (.map (some M)) (.string s) false).run Tryz.prog W = .ok (.int .i64 j) W := by
  have hkey : keyOf Tryz.prog 9 (.string s) = some (keyS s) := keyOf_string_mk Tryz.underlying9 hs
  obtain ⟨c, hrun, hc, hwc⟩ := ho.lookup_int (q := .i64) str_law Tryz.underlying104 Tryz.underlying3 rfl hkey
  have h1 := (hF.2 s j hj).2
  have h2 : D.atKey (keyS s) zeroI = .lit (.int .i64 c) := hc
  rw [h2] at h1
  injection h1 with e
  injection e with _ e
  rw [hrun, e]
/-- An append at a step of a region that draws its order, inside a fence, by its run. -/
theorem wpOpIn_append_run {F : Fence} {n : Nat} {P : Program} {w w' : World} {o : Oper} {a : Act} {K : Act → World → Prop} {Q : Exit → Act → World → Prop} (s x : Operand) (t : TypeId)
    (hop : o.op = Op.call { callee := Callee.builtin Builtin.append, args := #[s, x], argTypes := #[t, t] }) (v y v' : Value) (hs : a.eval s = v) (hx : a.eval x = y)
    (hrun : (Builtin.append_ #[t, t] o.type #[v, y]).run P w = .ok v' w') (hK : K (a.put o.dst v') w') : Oper.wpIn F n P o a w K Q := by
  unfold Oper.wpIn
  refine ⟨?_, ?_⟩
  · simp [Oper.about, hop, resolve, Target.leads, Sem.run_pure]
  · rw [Oper.semAt_plain F _ _ (by rw [hop]; intro c hc'; cases hc')]
    simp [execOp, hop, resolve, invoke, builtin, hs, hx, hrun, Result.andThen]
    exact hK
theorem wpListIn_append_run {F : Fence} {n : Nat} {P : Program} {w w' : World} {ops : Array Oper} {rest : List Oper} {o : Oper} {a : Act} {Q : Exit → Act → World → Prop} (hg : o.guard = none) (s x : Operand) (t : TypeId)
    (hop : o.op = Op.call { callee := Callee.builtin Builtin.append, args := #[s, x], argTypes := #[t, t] }) (v y v' : Value) (hs : a.eval s = v) (hx : a.eval x = y)
    (hrun : (Builtin.append_ #[t, t] o.type #[v, y]).run P w = .ok v' w') (hK : wpListIn F n P ops Q rest (a.put o.dst v') w') : wpListIn F n P ops Q (o :: rest) a w :=
  wpListIn_plain hg fun _ hK' => wpOpIn_append_run s x t hop v y v' hs hx hrun (hK' _ _ hK)
set_option maxRecDepth 100000 in
/-- A look-up with both answers, in whatever world holds the map. -/
theorem look_all {W : World} {M q : Nat} {D : DataW Unit} {P : ByteArray → Option Nat} {s : ByteArray} (ho : W.ownsMap Tryz.prog 9 (plainElem (H := Unit) Tryz.prog 3) M q D) (hF : MapsTo P D) (hs : s.size ≤ maxLen) :
    ∃ c : Int, (∀ V : World, V.ownsMap Tryz.prog 9 (plainElem (H := Unit) Tryz.prog 3) M q D → (Instr.lookup 104 (.map (some M)) (.string s) true).run Tryz.prog V = .ok (.tuple #[.int .i64 c, .bool (P s).isSome]) V) ∧ ∀ j : Nat, P s = some j → c = j := by
  have hkey : keyOf Tryz.prog 9 (.string s) = some (keyS s) := keyOf_string_mk Tryz.underlying9 hs
  have one : ∀ V : World, V.ownsMap Tryz.prog 9 (plainElem (H := Unit) Tryz.prog 3) M q D → ∃ c : Int, (Instr.lookup 104 (.map (some M)) (.string s) true).run Tryz.prog V = .ok (.tuple #[.int .i64 c, .bool (P s).isSome]) V ∧ D.atKey (keyS s) zeroI = .lit (.int .i64 c) := fun V hV => by
    obtain ⟨v, ps, hrun, hv⟩ := hV.look_ok str_law Tryz.underlying104 (z := .int .i64 0) rfl (plainElem_int Tryz.underlying3 (WalkArith.wf_i64 (by omega))) hkey
    obtain ⟨c, rfl, hc, hwc⟩ := plainElem_int_inv Tryz.underlying3 hv
    refine ⟨c, ?_, congrArg Prod.fst hc⟩
    rw [hrun]
    cases e : P s with
    | none => rw [hF.1 s e]; rfl
    | some j => rw [(hF.2 s j e).1]; rfl
  obtain ⟨c, _, hc⟩ := one W ho
  refine ⟨c, fun V hV => ?_, fun j hj => ?_⟩
  · obtain ⟨c', h1, h2⟩ := one V hV
    rw [hc] at h2
    injection h2 with e
    injection e with _ e
    rw [e]; exact h1
  · have := (hF.2 s j hj).2
    rw [hc] at this
    injection this with e
    injection e with _ e
end Go.Proofs.YtfnfegcjgnbgbaaGreatDoor
namespace Go.Proofs.YtfnfegcjgnbgbaaGreatDoor
open Go.RowKit

def lstS (S : Nat → ByteArray) : Nat → List ByteArray
  | 0 => []
  | n + 1 => lstS S n ++ [S n]
theorem lstS_len (S : Nat → ByteArray) : ∀ n, (lstS S n).length = n
  | 0 => rfl
  | n + 1 => by simp [lstS, lstS_len S n]
theorem lstS_mem (S : Nat → ByteArray) (t : ByteArray) : ∀ n, t ∈ lstS S n ↔ ∃ j, j < n ∧ S j = t
  | 0 => by simp [lstS]
  | n + 1 => by
    simp only [lstS, List.mem_append, lstS_mem S t n, List.mem_singleton]
    constructor
    · rintro (⟨j, hj, e⟩ | e)
      · exact ⟨j, by omega, e⟩
      · exact ⟨n, by omega, e.symm⟩
    · rintro ⟨j, hj, e⟩
      by_cases h : j < n
      · exact .inl ⟨j, h, e⟩
      · obtain rfl : j = n := by omega
        exact .inr e.symm
end Go.Proofs.YtfnfegcjgnbgbaaGreatDoor
