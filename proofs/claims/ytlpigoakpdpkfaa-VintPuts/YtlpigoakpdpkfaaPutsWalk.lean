/-
  The walk of the law VintPuts, at every slice of bytes that takes at most 2^47 - 4096 bytes (the form's own reach), every number and every int64.
-/
import Derived.Test.YtlpigoakpdpkfaaRefPut
import Derived.Test.YtlpigoakpdpkfaaHeld
namespace Go.Proofs.Ytlpigoakpdpkfaa
open Go.RowKit

set_option maxHeartbeats 4000000 in
theorem puts_walk (a : Option Addr) (len cap : Nat) (zs : List Int) (n : Nat) (i : Int) (w : World) (h : IsBytes w a len cap zs) (hreach : cap ≤ 140737488351232)
    (hn : n < 18446744073709551616) (hi0 : -9223372036854775808 ≤ i) (hi1 : i < 9223372036854775808) :
    Calls Try.prog 3 #[.slice a len cap, .int .u64 n, .int .i64 i] w fun e w' => e = .returned (.bool true) ∧ Below w.heap.size w w' := by
  obtain ⟨X, hX⟩ : ∃ X, X = strOf (zs ++ enc 10 n) := ⟨_, rfl⟩
  obtain ⟨Y, hY⟩ : ∃ Y, Y = strOf (zs ++ enc 10 (turnZ i).toNat) := ⟨_, rfl⟩
  obtain ⟨s, hs⟩ : ∃ s, s = sz 10 n := ⟨_, rfl⟩
  obtain ⟨t, ht⟩ : ∃ t, t = turnZ i := ⟨_, rfl⟩
  obtain ⟨b, hb⟩ : ∃ b, b = backZ (n : Int) := ⟨_, rfl⟩
  have C8 : Hid (∀ w1, Below w.heap.size w w1 → Calls Try.prog 8 #[.slice a len cap, .int .u64 n] w1 fun e w2 =>
      ∃ v, e = .returned v ∧ (∀ w3, Below w2.heap.size w2 w3 → (convert 22 9 v).run Try.prog w3 = .ok (.string X) w3) ∧ Below w1.heap.size w1 w2) := by
    intro w1 hB
    refine (put_any a len cap zs n w1 (h.later hB) hreach hn).mono ?_
    rintro e w2 ⟨rfl, hown, hB2⟩
    exact ⟨_, rfl, fun w3 hB3 => by rw [hX]; exact conv_own (own_below hown hB3), hB2⟩
  have C9 : Hid (∀ w1, Below w.heap.size w w1 → Calls Try.prog 9 #[.slice a len cap, .int .u64 n] w1 fun e w2 =>
      ∃ v, e = .returned v ∧ (∀ w3, Below w2.heap.size w2 w3 → (convert 22 9 v).run Try.prog w3 = .ok (.string X) w3) ∧ Below w1.heap.size w1 w2) := by
    intro w1 hB
    refine (refPut_any a len cap zs n w1 (h.later hB) hreach hn).mono ?_
    rintro e w2 ⟨v, rfl, hown, hB2⟩
    exact ⟨_, rfl, fun w3 hB3 => by rw [hX]; exact conv_own (own_below hown hB3), hB2⟩
  have C10 : Hid (∀ w1, Below w.heap.size w w1 → Calls Try.prog 10 #[.slice a len cap, .int .i64 i] w1 fun e w2 =>
      ∃ v, e = .returned v ∧ (∀ w3, Below w2.heap.size w2 w3 → (convert 22 9 v).run Try.prog w3 = .ok (.string Y) w3) ∧ Below w1.heap.size w1 w2) := by
    intro w1 hB
    refine (putInt_any a len cap zs i w1 (h.later hB) hreach hi0 hi1).mono ?_
    rintro e w2 ⟨rfl, hown, hB2⟩
    exact ⟨_, rfl, fun w3 hB3 => by rw [hY]; exact conv_own (own_below hown hB3), hB2⟩
  have C11 : Hid (∀ w1, Below w.heap.size w w1 → Calls Try.prog 11 #[.slice a len cap, .int .i64 i] w1 fun e w2 =>
      ∃ v, e = .returned v ∧ (∀ w3, Below w2.heap.size w2 w3 → (convert 22 9 v).run Try.prog w3 = .ok (.string Y) w3) ∧ Below w1.heap.size w1 w2) := by
    intro w1 hB
    refine (refPutInt_any a len cap zs i w1 (h.later hB) hreach hi0 hi1).mono ?_
    rintro e w2 ⟨v, rfl, hown, hB2⟩
    exact ⟨_, rfl, fun w3 hB3 => by rw [hY]; exact conv_own (own_below hown hB3), hB2⟩
  have C12 : Hid (∀ w1, Calls Try.prog 12 #[.int .u64 n] w1 fun e w2 => e = .returned (.int .i64 s) ∧ w2 = w1) := by
    intro w1
    have := size_any (n : Int) w1 (by omega) (by omega)
    rwa [Int.toNat_natCast, ← hs] at this
  have C13 : Hid (∀ w1, Calls Try.prog 13 #[.int .u64 n] w1 fun e w2 => e = .returned (.int .i64 s) ∧ Below w1.heap.size w1 w2) := by
    intro w1
    have := refSize_any n w1 hn
    rwa [← hs] at this
  have C14 : Hid (∀ w1, Calls Try.prog 14 #[.int .i64 i] w1 fun e w2 => e = .returned (.int .u64 t) ∧ w2 = w1) := by
    intro w1
    have := turn_any i w1 hi0 hi1
    rwa [← ht] at this
  have C15 : Hid (∀ w1, Calls Try.prog 15 #[.int .i64 i] w1 fun e w2 => e = .returned (.int .u64 t) ∧ w2 = w1) := by
    intro w1
    have := refTurn_any i w1 hi0 hi1
    rwa [← ht] at this
  have C16 : Hid (∀ w1, Calls Try.prog 16 #[.int .u64 n] w1 fun e w2 => e = .returned (.int .i64 b) ∧ w2 = w1) := by
    intro w1
    have := back_any (n : Int) w1 (by omega) (by omega)
    rwa [← hb] at this
  have C17 : Hid (∀ w1, Calls Try.prog 17 #[.int .u64 n] w1 fun e w2 => e = .returned (.int .i64 b) ∧ w2 = w1) := by
    intro w1
    have := refBack_any (n : Int) w1 (by omega) (by omega)
    rwa [← hb] at this
  clear hX hY hs ht hb h
  go_enter Try.func3, Try.ntmps3
  go_wp2
  refine wp_region_noPanic ?_
  refine wp_region_held_drew (S := fun w' => Below w.heap.size w w') (by kernel_rfl) ((Below.refl _ _).drew) (fun hHeld => ?_)
  have hT : Below w.heap.size w w.drew := (Below.refl _ _).drew
  refine wpAnyH_take (i := 0) (oi := ⟨some 7, Op.move (Operand.tmp 0), 22, _, _, _⟩) (v := ?v0) rfl (by kernel_rfl) (by kernel_rfl) (by kernel_rfl) (fun _ _ _ h => h) (Or.inl ⟨by rfl, ?hy0⟩) hHeld ?rest0
  case hy0 => intro w9 hSw; go_simp; (try with_reducible rfl)
  try simp only [Act.put, List.setIfInBounds_toArray, List.set_cons_zero, List.set_cons_succ]
  refine wpAnyH_take (i := 1) (oi := ⟨some 8, Op.move (Operand.tmp 1), 23, _, _, _⟩) (v := ?v1) rfl (by kernel_rfl) (by kernel_rfl) (by kernel_rfl) (fun _ _ _ h => h) (Or.inl ⟨by rfl, ?hy1⟩) hHeld ?rest1
  case hy1 => intro w9 hSw; go_simp; (try with_reducible rfl)
  try simp only [Act.put, List.setIfInBounds_toArray, List.set_cons_zero, List.set_cons_succ]
  refine wpAnyH_take (i := 4) (oi := ⟨some 11, Op.move (Operand.tmp 0), 22, _, _, _⟩) (v := ?v4) rfl (by kernel_rfl) (by kernel_rfl) (by kernel_rfl) (fun _ _ _ h => h) (Or.inl ⟨by rfl, ?hy4⟩) hHeld ?rest4
  case hy4 => intro w9 hSw; go_simp; (try with_reducible rfl)
  try simp only [Act.put, List.setIfInBounds_toArray, List.set_cons_zero, List.set_cons_succ]
  refine wpAnyH_take (i := 5) (oi := ⟨some 12, Op.move (Operand.tmp 1), 23, _, _, _⟩) (v := ?v5) rfl (by kernel_rfl) (by kernel_rfl) (by kernel_rfl) (fun _ _ _ h => h) (Or.inl ⟨by rfl, ?hy5⟩) hHeld ?rest5
  case hy5 => intro w9 hSw; go_simp; (try with_reducible rfl)
  try simp only [Act.put, List.setIfInBounds_toArray, List.set_cons_zero, List.set_cons_succ]
  refine wpAnyH_ready (rs := [2]) (by kernel_rfl) (by simp) ?_
  refine AllReadyH.cons (o := ⟨some 9, Op.call { callee := Callee.value (Operand.func 8), args := #[Operand.tmp 7, Operand.tmp 8], argTypes := #[22, 23] }, 22, _, _, _⟩) rfl (fun K hK => ?_) AllReadyH.nil
  go_simp
  refine (C8.out _ hT).mono ?_
  rintro e x2 ⟨v2, rfl, hc2, hN2⟩
  go_wp2_with fail
  have hT2 : Below w.heap.size w x2 := hT.trans (hN2.mono hT.size)
  refine hK.out _ _ (hHeld.trans (hN2.mono hHeld.size)) (fun _ => held_up (S' := fun w' => Below x2.heap.size x2 w') (fun w' h' => (hHeld.trans (hN2.mono hHeld.size)).trans (h'.mono (Nat.le_trans hHeld.size hN2.size))) _ _ _ _ ?_)
  clear hK K hHeld hT
  have hT : Below w.heap.size w x2 := hT2
  have hHeld : Below x2.heap.size x2 x2 := Below.refl _ _
  clear hT2 hN2
  try simp only [Act.put, List.setIfInBounds_toArray, List.set_cons_zero, List.set_cons_succ]
  refine wpAnyH_take (i := 3) (oi := ⟨some 10, Op.convert 22 9 (Operand.tmp 9), 9, _, _, _⟩) (v := ?v3) rfl (by kernel_rfl) (by kernel_rfl) (by kernel_rfl) (fun _ _ _ h => h) (Or.inl ⟨by rfl, ?hy3⟩) hHeld ?rest3
  case hy3 => intro w9 hSw; go_simp; (try with_reducible rfl)
  try simp only [Act.put, List.setIfInBounds_toArray, List.set_cons_zero, List.set_cons_succ]
  refine wpAnyH_ready (rs := [6]) (by kernel_rfl) (by simp) ?_
  refine AllReadyH.cons (o := ⟨some 13, Op.call { callee := Callee.value (Operand.func 9), args := #[Operand.tmp 11, Operand.tmp 12], argTypes := #[22, 23] }, 22, _, _, _⟩) rfl (fun K hK => ?_) AllReadyH.nil
  go_simp
  refine (C9.out _ hT).mono ?_
  rintro e x6 ⟨v6, rfl, hc6, hN6⟩
  go_wp2_with fail
  have hT6 : Below w.heap.size w x6 := hT.trans (hN6.mono hT.size)
  refine hK.out _ _ (hHeld.trans (hN6.mono hHeld.size)) (fun _ => held_up (S' := fun w' => Below x6.heap.size x6 w') (fun w' h' => (hHeld.trans (hN6.mono hHeld.size)).trans (h'.mono (Nat.le_trans hHeld.size hN6.size))) _ _ _ _ ?_)
  clear hK K hHeld hT
  have hT : Below w.heap.size w x6 := hT6
  have hHeld : Below x6.heap.size x6 x6 := Below.refl _ _
  clear hT6 hN6
  try simp only [Act.put, List.setIfInBounds_toArray, List.set_cons_zero, List.set_cons_succ]
  refine wpAnyH_take (i := 7) (oi := ⟨some 14, Op.convert 22 9 (Operand.tmp 13), 9, _, _, _⟩) (v := ?v7) rfl (by kernel_rfl) (by kernel_rfl) (by kernel_rfl) (fun _ _ _ h => h) (Or.inl ⟨by rfl, ?hy7⟩) hHeld ?rest7
  case hy7 => intro w9 hSw; go_simp; (try with_reducible rfl)
  try simp only [Act.put, List.setIfInBounds_toArray, List.set_cons_zero, List.set_cons_succ]
  refine wpAnyH_take (i := 8) (oi := ⟨some 15, Op.binOp BinOp.eql 9 (Operand.tmp 10) (Operand.tmp 14) 9, 4, _, _, _⟩) (v := ?v8) rfl (by kernel_rfl) (by kernel_rfl) (by kernel_rfl) (fun _ _ _ h => h) (Or.inl ⟨by rfl, ?hy8⟩) hHeld ?rest8
  case hy8 => intro w9 hSw; go_simp; (try with_reducible rfl)
  try simp only [Act.put, List.setIfInBounds_toArray, List.set_cons_zero, List.set_cons_succ]
  refine wpAnyH_take (i := 9) (oi := ⟨some 16, Op.move (Operand.tmp 15), 4, _, _, _⟩) (v := ?v9) rfl (by kernel_rfl) (by kernel_rfl) (by kernel_rfl) (fun _ _ _ h => h) (Or.inl ⟨by rfl, ?hy9⟩) hHeld ?rest9
  case hy9 => intro w9 hSw; go_simp; (try with_reducible rfl)
  try simp only [Act.put, List.setIfInBounds_toArray, List.set_cons_zero, List.set_cons_succ]
  refine wpAnyH_take (i := 10) (oi := ⟨some 17, Op.move (Operand.tmp 0), 22, _, _, _⟩) (v := ?v10) rfl (by kernel_rfl) (by kernel_rfl) (by kernel_rfl) (fun _ _ _ h => h) (Or.inl ⟨by rfl, ?hy10⟩) hHeld ?rest10
  case hy10 => intro w9 hSw; go_simp; (try with_reducible rfl)
  try simp only [Act.put, List.setIfInBounds_toArray, List.set_cons_zero, List.set_cons_succ]
  refine wpAnyH_take (i := 11) (oi := ⟨some 18, Op.move (Operand.tmp 2), 2, _, _, _⟩) (v := ?v11) rfl (by kernel_rfl) (by kernel_rfl) (by kernel_rfl) (fun _ _ _ h => h) (Or.inl ⟨by rfl, ?hy11⟩) hHeld ?rest11
  case hy11 => intro w9 hSw; go_simp; (try with_reducible rfl)
  try simp only [Act.put, List.setIfInBounds_toArray, List.set_cons_zero, List.set_cons_succ]
  refine wpAnyH_take (i := 14) (oi := ⟨some 21, Op.move (Operand.tmp 0), 22, _, _, _⟩) (v := ?v14) rfl (by kernel_rfl) (by kernel_rfl) (by kernel_rfl) (fun _ _ _ h => h) (Or.inl ⟨by rfl, ?hy14⟩) hHeld ?rest14
  case hy14 => intro w9 hSw; go_simp; (try with_reducible rfl)
  try simp only [Act.put, List.setIfInBounds_toArray, List.set_cons_zero, List.set_cons_succ]
  refine wpAnyH_take (i := 15) (oi := ⟨some 22, Op.move (Operand.tmp 2), 2, _, _, _⟩) (v := ?v15) rfl (by kernel_rfl) (by kernel_rfl) (by kernel_rfl) (fun _ _ _ h => h) (Or.inl ⟨by rfl, ?hy15⟩) hHeld ?rest15
  case hy15 => intro w9 hSw; go_simp; (try with_reducible rfl)
  try simp only [Act.put, List.setIfInBounds_toArray, List.set_cons_zero, List.set_cons_succ]
  refine wpAnyH_ready (rs := [12]) (by kernel_rfl) (by simp) ?_
  refine AllReadyH.cons (o := ⟨some 19, Op.call { callee := Callee.value (Operand.func 10), args := #[Operand.tmp 17, Operand.tmp 18], argTypes := #[22, 2] }, 22, _, _, _⟩) rfl (fun K hK => ?_) AllReadyH.nil
  go_simp
  refine (C10.out _ hT).mono ?_
  rintro e x12 ⟨v12, rfl, hc12, hN12⟩
  go_wp2_with fail
  have hT12 : Below w.heap.size w x12 := hT.trans (hN12.mono hT.size)
  refine hK.out _ _ (hHeld.trans (hN12.mono hHeld.size)) (fun _ => held_up (S' := fun w' => Below x12.heap.size x12 w') (fun w' h' => (hHeld.trans (hN12.mono hHeld.size)).trans (h'.mono (Nat.le_trans hHeld.size hN12.size))) _ _ _ _ ?_)
  clear hK K hHeld hT
  have hT : Below w.heap.size w x12 := hT12
  have hHeld : Below x12.heap.size x12 x12 := Below.refl _ _
  clear hT12 hN12
  try simp only [Act.put, List.setIfInBounds_toArray, List.set_cons_zero, List.set_cons_succ]
  refine wpAnyH_take (i := 13) (oi := ⟨some 20, Op.convert 22 9 (Operand.tmp 19), 9, _, _, _⟩) (v := ?v13) rfl (by kernel_rfl) (by kernel_rfl) (by kernel_rfl) (fun _ _ _ h => h) (Or.inl ⟨by rfl, ?hy13⟩) hHeld ?rest13
  case hy13 => intro w9 hSw; go_simp; (try with_reducible rfl)
  try simp only [Act.put, List.setIfInBounds_toArray, List.set_cons_zero, List.set_cons_succ]
  refine wpAnyH_ready (rs := [16]) (by kernel_rfl) (by simp) ?_
  refine AllReadyH.cons (o := ⟨some 23, Op.call { callee := Callee.value (Operand.func 11), args := #[Operand.tmp 21, Operand.tmp 22], argTypes := #[22, 2] }, 22, _, _, _⟩) rfl (fun K hK => ?_) AllReadyH.nil
  go_simp
  refine (C11.out _ hT).mono ?_
  rintro e x16 ⟨v16, rfl, hc16, hN16⟩
  go_wp2_with fail
  have hT16 : Below w.heap.size w x16 := hT.trans (hN16.mono hT.size)
  refine hK.out _ _ (hHeld.trans (hN16.mono hHeld.size)) (fun _ => held_up (S' := fun w' => Below x16.heap.size x16 w') (fun w' h' => (hHeld.trans (hN16.mono hHeld.size)).trans (h'.mono (Nat.le_trans hHeld.size hN16.size))) _ _ _ _ ?_)
  clear hK K hHeld hT
  have hT : Below w.heap.size w x16 := hT16
  have hHeld : Below x16.heap.size x16 x16 := Below.refl _ _
  clear hT16 hN16
  try simp only [Act.put, List.setIfInBounds_toArray, List.set_cons_zero, List.set_cons_succ]
  refine wpAnyH_take (i := 17) (oi := ⟨some 24, Op.convert 22 9 (Operand.tmp 23), 9, _, _, _⟩) (v := ?v17) rfl (by kernel_rfl) (by kernel_rfl) (by kernel_rfl) (fun _ _ _ h => h) (Or.inl ⟨by rfl, ?hy17⟩) hHeld ?rest17
  case hy17 => intro w9 hSw; go_simp; (try with_reducible rfl)
  try simp only [Act.put, List.setIfInBounds_toArray, List.set_cons_zero, List.set_cons_succ]
  refine wpAnyH_take (i := 18) (oi := ⟨some 25, Op.binOp BinOp.eql 9 (Operand.tmp 20) (Operand.tmp 24) 9, 4, _, _, _⟩) (v := ?v18) rfl (by kernel_rfl) (by kernel_rfl) (by kernel_rfl) (fun _ _ _ h => h) (Or.inl ⟨by rfl, ?hy18⟩) hHeld ?rest18
  case hy18 => intro w9 hSw; go_simp; (try with_reducible rfl)
  try simp only [Act.put, List.setIfInBounds_toArray, List.set_cons_zero, List.set_cons_succ]
  refine wpAnyH_take (i := 19) (oi := ⟨some 26, Op.pick (Operand.tmp 16) (Operand.tmp 25) (Operand.const (Value.bool false)), 4, _, _, _⟩) (v := ?v19) rfl (by kernel_rfl) (by kernel_rfl) (by kernel_rfl) (fun _ _ _ h => h) (Or.inl ⟨by rfl, ?hy19⟩) hHeld ?rest19
  case hy19 => intro w9 hSw; go_simp; (try with_reducible rfl)
  try simp only [Act.put, List.setIfInBounds_toArray, List.set_cons_zero, List.set_cons_succ]
  refine wpAnyH_take (i := 20) (oi := ⟨some 27, Op.move (Operand.tmp 26), 4, _, _, _⟩) (v := ?v20) rfl (by kernel_rfl) (by kernel_rfl) (by kernel_rfl) (fun _ _ _ h => h) (Or.inl ⟨by rfl, ?hy20⟩) hHeld ?rest20
  case hy20 => intro w9 hSw; go_simp; (try with_reducible rfl)
  try simp only [Act.put, List.setIfInBounds_toArray, List.set_cons_zero, List.set_cons_succ]
  refine wpAnyH_take (i := 21) (oi := ⟨some 28, Op.move (Operand.tmp 1), 23, _, _, _⟩) (v := ?v21) rfl (by kernel_rfl) (by kernel_rfl) (by kernel_rfl) (fun _ _ _ h => h) (Or.inl ⟨by rfl, ?hy21⟩) hHeld ?rest21
  case hy21 => intro w9 hSw; go_simp; (try with_reducible rfl)
  try simp only [Act.put, List.setIfInBounds_toArray, List.set_cons_zero, List.set_cons_succ]
  refine wpAnyH_take (i := 23) (oi := ⟨some 30, Op.move (Operand.tmp 1), 23, _, _, _⟩) (v := ?v23) rfl (by kernel_rfl) (by kernel_rfl) (by kernel_rfl) (fun _ _ _ h => h) (Or.inl ⟨by rfl, ?hy23⟩) hHeld ?rest23
  case hy23 => intro w9 hSw; go_simp; (try with_reducible rfl)
  try simp only [Act.put, List.setIfInBounds_toArray, List.set_cons_zero, List.set_cons_succ]
  refine wpAnyH_ready (rs := [22]) (by kernel_rfl) (by simp) ?_
  refine AllReadyH.cons (o := ⟨some 29, Op.call { callee := Callee.value (Operand.func 12), args := #[Operand.tmp 28], argTypes := #[23] }, 3, _, _, _⟩) rfl (fun K hK => ?_) AllReadyH.nil
  go_simp
  refine (C12.out _).mono ?_
  rintro e x22 ⟨rfl, hx22⟩
  replace hx22 := hx22.symm
  subst hx22
  go_wp2_with fail
  refine hK.out _ _ hHeld (fun _ => ?_)
  clear hK K
  try simp only [Act.put, List.setIfInBounds_toArray, List.set_cons_zero, List.set_cons_succ]
  refine wpAnyH_ready (rs := [24]) (by kernel_rfl) (by simp) ?_
  refine AllReadyH.cons (o := ⟨some 31, Op.call { callee := Callee.value (Operand.func 13), args := #[Operand.tmp 30], argTypes := #[23] }, 3, _, _, _⟩) rfl (fun K hK => ?_) AllReadyH.nil
  go_simp
  refine (C13.out _).mono ?_
  rintro e x24 ⟨rfl, hN24⟩
  go_wp2_with fail
  have hT24 : Below w.heap.size w x24 := hT.trans (hN24.mono hT.size)
  refine hK.out _ _ (hHeld.trans (hN24.mono hHeld.size)) (fun _ => held_up (S' := fun w' => Below x24.heap.size x24 w') (fun w' h' => (hHeld.trans (hN24.mono hHeld.size)).trans (h'.mono (Nat.le_trans hHeld.size hN24.size))) _ _ _ _ ?_)
  clear hK K hHeld hT
  have hT : Below w.heap.size w x24 := hT24
  have hHeld : Below x24.heap.size x24 x24 := Below.refl _ _
  clear hT24 hN24
  try simp only [Act.put, List.setIfInBounds_toArray, List.set_cons_zero, List.set_cons_succ]
  refine wpAnyH_take (i := 25) (oi := ⟨some 32, Op.binOp BinOp.eql 3 (Operand.tmp 29) (Operand.tmp 31) 3, 4, _, _, _⟩) (v := ?v25) rfl (by kernel_rfl) (by kernel_rfl) (by kernel_rfl) (fun _ _ _ h => h) (Or.inl ⟨by rfl, ?hy25⟩) hHeld ?rest25
  case hy25 => intro w9 hSw; go_simp; (try with_reducible rfl)
  try simp only [Act.put, List.setIfInBounds_toArray, List.set_cons_zero, List.set_cons_succ]
  refine wpAnyH_take (i := 26) (oi := ⟨some 33, Op.pick (Operand.tmp 27) (Operand.tmp 32) (Operand.const (Value.bool false)), 4, _, _, _⟩) (v := ?v26) rfl (by kernel_rfl) (by kernel_rfl) (by kernel_rfl) (fun _ _ _ h => h) (Or.inl ⟨by rfl, ?hy26⟩) hHeld ?rest26
  case hy26 => intro w9 hSw; go_simp; (try with_reducible rfl)
  try simp only [Act.put, List.setIfInBounds_toArray, List.set_cons_zero, List.set_cons_succ]
  refine wpAnyH_take (i := 27) (oi := ⟨some 34, Op.move (Operand.tmp 33), 4, _, _, _⟩) (v := ?v27) rfl (by kernel_rfl) (by kernel_rfl) (by kernel_rfl) (fun _ _ _ h => h) (Or.inl ⟨by rfl, ?hy27⟩) hHeld ?rest27
  case hy27 => intro w9 hSw; go_simp; (try with_reducible rfl)
  try simp only [Act.put, List.setIfInBounds_toArray, List.set_cons_zero, List.set_cons_succ]
  refine wpAnyH_take (i := 28) (oi := ⟨some 35, Op.move (Operand.tmp 2), 2, _, _, _⟩) (v := ?v28) rfl (by kernel_rfl) (by kernel_rfl) (by kernel_rfl) (fun _ _ _ h => h) (Or.inl ⟨by rfl, ?hy28⟩) hHeld ?rest28
  case hy28 => intro w9 hSw; go_simp; (try with_reducible rfl)
  try simp only [Act.put, List.setIfInBounds_toArray, List.set_cons_zero, List.set_cons_succ]
  refine wpAnyH_take (i := 30) (oi := ⟨some 37, Op.move (Operand.tmp 2), 2, _, _, _⟩) (v := ?v30) rfl (by kernel_rfl) (by kernel_rfl) (by kernel_rfl) (fun _ _ _ h => h) (Or.inl ⟨by rfl, ?hy30⟩) hHeld ?rest30
  case hy30 => intro w9 hSw; go_simp; (try with_reducible rfl)
  try simp only [Act.put, List.setIfInBounds_toArray, List.set_cons_zero, List.set_cons_succ]
  refine wpAnyH_ready (rs := [29]) (by kernel_rfl) (by simp) ?_
  refine AllReadyH.cons (o := ⟨some 36, Op.call { callee := Callee.value (Operand.func 14), args := #[Operand.tmp 35], argTypes := #[2] }, 23, _, _, _⟩) rfl (fun K hK => ?_) AllReadyH.nil
  go_simp
  refine (C14.out _).mono ?_
  rintro e x29 ⟨rfl, hx29⟩
  replace hx29 := hx29.symm
  subst hx29
  go_wp2_with fail
  refine hK.out _ _ hHeld (fun _ => ?_)
  clear hK K
  try simp only [Act.put, List.setIfInBounds_toArray, List.set_cons_zero, List.set_cons_succ]
  refine wpAnyH_ready (rs := [31]) (by kernel_rfl) (by simp) ?_
  refine AllReadyH.cons (o := ⟨some 38, Op.call { callee := Callee.value (Operand.func 15), args := #[Operand.tmp 37], argTypes := #[2] }, 23, _, _, _⟩) rfl (fun K hK => ?_) AllReadyH.nil
  go_simp
  refine (C15.out _).mono ?_
  rintro e x31 ⟨rfl, hx31⟩
  replace hx31 := hx31.symm
  subst hx31
  go_wp2_with fail
  refine hK.out _ _ hHeld (fun _ => ?_)
  clear hK K
  try simp only [Act.put, List.setIfInBounds_toArray, List.set_cons_zero, List.set_cons_succ]
  refine wpAnyH_take (i := 32) (oi := ⟨some 39, Op.binOp BinOp.eql 23 (Operand.tmp 36) (Operand.tmp 38) 23, 4, _, _, _⟩) (v := ?v32) rfl (by kernel_rfl) (by kernel_rfl) (by kernel_rfl) (fun _ _ _ h => h) (Or.inl ⟨by rfl, ?hy32⟩) hHeld ?rest32
  case hy32 => intro w9 hSw; go_simp; (try with_reducible rfl)
  try simp only [Act.put, List.setIfInBounds_toArray, List.set_cons_zero, List.set_cons_succ]
  refine wpAnyH_take (i := 33) (oi := ⟨some 40, Op.pick (Operand.tmp 34) (Operand.tmp 39) (Operand.const (Value.bool false)), 4, _, _, _⟩) (v := ?v33) rfl (by kernel_rfl) (by kernel_rfl) (by kernel_rfl) (fun _ _ _ h => h) (Or.inl ⟨by rfl, ?hy33⟩) hHeld ?rest33
  case hy33 => intro w9 hSw; go_simp; (try with_reducible rfl)
  try simp only [Act.put, List.setIfInBounds_toArray, List.set_cons_zero, List.set_cons_succ]
  refine wpAnyH_take (i := 34) (oi := ⟨some 41, Op.move (Operand.tmp 40), 4, _, _, _⟩) (v := ?v34) rfl (by kernel_rfl) (by kernel_rfl) (by kernel_rfl) (fun _ _ _ h => h) (Or.inl ⟨by rfl, ?hy34⟩) hHeld ?rest34
  case hy34 => intro w9 hSw; go_simp; (try with_reducible rfl)
  try simp only [Act.put, List.setIfInBounds_toArray, List.set_cons_zero, List.set_cons_succ]
  refine wpAnyH_take (i := 35) (oi := ⟨some 42, Op.move (Operand.tmp 1), 23, _, _, _⟩) (v := ?v35) rfl (by kernel_rfl) (by kernel_rfl) (by kernel_rfl) (fun _ _ _ h => h) (Or.inl ⟨by rfl, ?hy35⟩) hHeld ?rest35
  case hy35 => intro w9 hSw; go_simp; (try with_reducible rfl)
  try simp only [Act.put, List.setIfInBounds_toArray, List.set_cons_zero, List.set_cons_succ]
  refine wpAnyH_take (i := 37) (oi := ⟨some 44, Op.move (Operand.tmp 1), 23, _, _, _⟩) (v := ?v37) rfl (by kernel_rfl) (by kernel_rfl) (by kernel_rfl) (fun _ _ _ h => h) (Or.inl ⟨by rfl, ?hy37⟩) hHeld ?rest37
  case hy37 => intro w9 hSw; go_simp; (try with_reducible rfl)
  try simp only [Act.put, List.setIfInBounds_toArray, List.set_cons_zero, List.set_cons_succ]
  refine wpAnyH_ready (rs := [36]) (by kernel_rfl) (by simp) ?_
  refine AllReadyH.cons (o := ⟨some 43, Op.call { callee := Callee.value (Operand.func 16), args := #[Operand.tmp 42], argTypes := #[23] }, 2, _, _, _⟩) rfl (fun K hK => ?_) AllReadyH.nil
  go_simp
  refine (C16.out _).mono ?_
  rintro e x36 ⟨rfl, hx36⟩
  replace hx36 := hx36.symm
  subst hx36
  go_wp2_with fail
  refine hK.out _ _ hHeld (fun _ => ?_)
  clear hK K
  try simp only [Act.put, List.setIfInBounds_toArray, List.set_cons_zero, List.set_cons_succ]
  refine wpAnyH_ready (rs := [38]) (by kernel_rfl) (by simp) ?_
  refine AllReadyH.cons (o := ⟨some 45, Op.call { callee := Callee.value (Operand.func 17), args := #[Operand.tmp 44], argTypes := #[23] }, 2, _, _, _⟩) rfl (fun K hK => ?_) AllReadyH.nil
  go_simp
  refine (C17.out _).mono ?_
  rintro e x38 ⟨rfl, hx38⟩
  replace hx38 := hx38.symm
  subst hx38
  go_wp2_with fail
  refine hK.out _ _ hHeld (fun _ => ?_)
  clear hK K
  try simp only [Act.put, List.setIfInBounds_toArray, List.set_cons_zero, List.set_cons_succ]
  refine wpAnyH_take (i := 39) (oi := ⟨some 46, Op.binOp BinOp.eql 2 (Operand.tmp 43) (Operand.tmp 45) 2, 4, _, _, _⟩) (v := ?v39) rfl (by kernel_rfl) (by kernel_rfl) (by kernel_rfl) (fun _ _ _ h => h) (Or.inl ⟨by rfl, ?hy39⟩) hHeld ?rest39
  case hy39 => intro w9 hSw; go_simp; (try with_reducible rfl)
  try simp only [Act.put, List.setIfInBounds_toArray, List.set_cons_zero, List.set_cons_succ]
  refine wpAnyH_take (i := 40) (oi := ⟨some 47, Op.pick (Operand.tmp 41) (Operand.tmp 46) (Operand.const (Value.bool false)), 4, _, _, _⟩) (v := ?v40) rfl (by kernel_rfl) (by kernel_rfl) (by kernel_rfl) (fun _ _ _ h => h) (Or.inl ⟨by rfl, ?hy40⟩) hHeld ?rest40
  case hy40 => intro w9 hSw; go_simp; (try with_reducible rfl)
  try simp only [Act.put, List.setIfInBounds_toArray, List.set_cons_zero, List.set_cons_succ]
  refine wpAnyH_take (i := 41) (oi := ⟨some 48, Op.move (Operand.tmp 47), 4, _, _, _⟩) (v := ?v41) rfl (by kernel_rfl) (by kernel_rfl) (by kernel_rfl) (fun _ _ _ h => h) (Or.inl ⟨by rfl, ?hy41⟩) hHeld ?rest41
  case hy41 => intro w9 hSw; go_simp; (try with_reducible rfl)
  try simp only [Act.put, List.setIfInBounds_toArray, List.set_cons_zero, List.set_cons_succ]
  refine wpAnyH_ready (rs := [42]) (by kernel_rfl) (by simp) ?_
  refine AllReadyH.cons (o := ⟨some 49, Op.call { callee := Callee.value (Operand.func 18), args := #[], argTypes := #[] }, 4, _, _, _⟩) rfl (fun K hK => ?_) AllReadyH.nil
  go_simp
  refine (awake_any _).mono ?_
  rintro e x42 ⟨rfl, hx42⟩
  replace hx42 := hx42.symm
  subst hx42
  go_wp2_with fail
  refine hK.out _ _ hHeld (fun _ => ?_)
  clear hK K
  try simp only [Act.put, List.setIfInBounds_toArray, List.set_cons_zero, List.set_cons_succ]
  refine wpAnyH_take (i := 43) (oi := ⟨some 50, Op.pick (Operand.tmp 48) (Operand.tmp 49) (Operand.const (Value.bool false)), 4, _, _, _⟩) (v := ?v43) rfl (by kernel_rfl) (by kernel_rfl) (by kernel_rfl) (fun _ _ _ h => h) (Or.inl ⟨by rfl, ?hy43⟩) hHeld ?rest43
  case hy43 => intro w9 hSw; go_simp; (try with_reducible rfl)
  try simp only [Act.put, List.setIfInBounds_toArray, List.set_cons_zero, List.set_cons_succ]
  refine wpAnyH_take (i := 44) (oi := ⟨some 6, Op.assign (Operand.tmp 50), 4, _, _, _⟩) (v := ?v44) rfl (by kernel_rfl) (by kernel_rfl) (by kernel_rfl) (fun _ _ _ h => h) (Or.inl ⟨by rfl, ?hy44⟩) hHeld ?rest44
  case hy44 => intro w9 hSw; go_simp; (try with_reducible rfl)
  try simp only [Act.put, List.setIfInBounds_toArray, List.set_cons_zero, List.set_cons_succ]
  refine wpAnyH_done (by kernel_rfl) ?_ _
  refine NoPanic.normal ?_
  go_wp2
  go_ret
  exact ⟨rfl, hT⟩
end Go.Proofs.Ytlpigoakpdpkfaa
