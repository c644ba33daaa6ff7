/-
  The walk of the law FrameOpens: Open and All answer as the document's.
-/
import Derived.Test.YtakjilbbhodiiaaAll
import Derived.Test.YtakjilbbhodiiaaArgs
namespace Go.Proofs.Ytakjilbbhodiiaa
open Go.RowKit

set_option maxRecDepth 100000 in
set_option maxHeartbeats 4000000 in
theorem opens_walk (a : Option Addr) (len cap : Nat) (zs : List Int) (p : Int) (w : World) (hz : IsBytes w a len cap zs) (hl : len ≤ 1048576) :
    Calls Try.prog 4 #[.slice a len cap, .int .i64 p] w fun e w' => e = .returned (.bool true) ∧ Below w.heap.size w w' := by
  have c1 := open_any a len cap zs p w hz (by omega)
  have C1 : Hid (Calls Try.prog 15 _ _ _) := c1
  have HZ : Hid (IsBytes w a len cap zs) := hz
  clear c1 hz
  go_enter Try.func4, Try.ntmps4
  go_wp2_with (first
    | (go_at_call 15; refine C1.out.mono ?_; clear C1; rintro e w1 ⟨v1, rfl, ho1, hB1⟩
       have C2 := refOpen_any a len cap zs p w1 (HZ.out.later hB1) (by omega))
    | (go_at_call 16; refine C2.mono ?_; clear C2; rintro e w2 ⟨v2, rfl, ho2, hB2⟩
       have k2 := hB1.trans (hB2.mono hB1.size)
       have C3 := all_any a len cap zs w2 (HZ.out.later k2) hl)
    | (go_at_call 17; refine C3.mono ?_; clear C3; rintro e w3 ⟨v3, rfl, L3, hB3⟩
       have k3 := k2.trans (hB3.mono k2.size)
       have C4 := refAll_any a len cap zs w3 (HZ.out.later k3) hl)
    | (go_at_call 18; refine C4.mono ?_; clear C4; rintro e w4 ⟨v4, rfl, L4, hB4⟩
       have k4 := k3.trans (hB4.mono k3.size)
       have r1 := conv_own (own_below (own_below (own_below ho1 hB2) hB3) hB4)
       have r2 := conv_own (own_below (own_below ho2 hB3) hB4)
       have L3' := L3.later hB4
       obtain ⟨a3, c3, e3⟩ := L3.form
       obtain ⟨a4, c4, e4⟩ := L4.form
       subst e3 e4))
  generalize hA : allZ zs = A at *
  obtain ⟨L, P, E⟩ := A
  dsimp only at *
  have HL3 : Hid (Lists w4 w2.heap.size (.slice a3 L.length c3) L) := L3'
  have HL4 : Hid (Lists w4 w3.heap.size (.slice a4 L.length c4) L) := L4
  clear L3 L3' L4 hA ho1 ho2 r1 r2
  go_loopw [17] (fun i wr => ∃ k : Nat, k ≤ L.length ∧ i = .int .i64 k ∧ Below w4.heap.size w4 wr) (fun i _ => L.length - (intOf i).toNat)
  case atStart => exact ⟨0, Nat.zero_le _, rfl, Below.refl _ _⟩
  case round =>
    obtain ⟨k, hk, rfl, hB⟩ := hrel
    by_cases hlt : k < L.length
    · obtain ⟨g1, q1, u1, e1, m1, n1, f1, o1⟩ := HL3.out.get k hlt
      obtain ⟨g2, q2, u2, e2, m2, n2, f2, o2⟩ := HL4.out.get k hlt
      injection e1 with e1 _ e1c
      injection e2 with e2 _ e2c
      subst e1 e1c e2 e2c
      have hLm : L.length ≤ 9223372036854775807 := by have := Nat.le_trans m1 n1; unfold maxLen at this; omega
      generalize L[k]?.getD [] = X at o1 o2
      replace f1 := cell_later f1 hB
      replace f2 := cell_later f2 hB
      replace o1 := own_below o1 hB
      replace o2 := own_below o2 hB
      obtain ⟨ua, uc, hu⟩ := own_slice o1
      obtain ⟨xa, xc, hx⟩ := own_slice o2
      subst hu hx
      go_wp2
      refine wp_region_noPanic ?_
      refine wp_region_held_drew (S := fun w' => Below wr.heap.size wr w') (by kernel_rfl) ((Below.refl _ _).drew) (fun hHeld => ?_)
      have hT : Below wr.heap.size wr wr.drew := hHeld
      refine wpAnyH_take (i := 0) (oi := ⟨some 82, Op.move (Operand.tmp 11), 37, _, _, _⟩) (v := ?v0a) rfl (by kernel_rfl) (by kernel_rfl) (by kernel_rfl) (fun _ _ _ h => h) (Or.inl ⟨by rfl, ?hy0a⟩) hHeld ?rest0a
      case hy0a => intro w9 hSw; go_simp; (try with_reducible rfl)
      try simp only [Act.put, List.setIfInBounds_toArray, List.set_cons_zero, List.set_cons_succ]
      refine wpAnyH_take (i := 1) (oi := ⟨some 83, Op.move (Operand.tmp 17), 3, _, _, _⟩) (v := ?v1a) rfl (by kernel_rfl) (by kernel_rfl) (by kernel_rfl) (fun _ _ _ h => h) (Or.inl ⟨by rfl, ?hy1a⟩) hHeld ?rest1a
      case hy1a => intro w9 hSw; go_simp; (try with_reducible rfl)
      try simp only [Act.put, List.setIfInBounds_toArray, List.set_cons_zero, List.set_cons_succ]
      refine wpAnyH_take (i := 2) (oi := ⟨some 84, Op.indexAddr 37 (Operand.tmp 82) (Operand.tmp 83), 0, _, _, _⟩) (v := ?v2a) rfl (by kernel_rfl) (by kernel_rfl) (by kernel_rfl) (fun _ _ _ h => h) (Or.inl ⟨by rfl, ?hy2a⟩) hHeld ?rest2a
      case hy2a => intro w9 hSw; have cc := cell_later f1 hSw; go_simp; (try with_reducible rfl)
      try simp only [Act.put, List.setIfInBounds_toArray, List.set_cons_zero, List.set_cons_succ]
      refine wpAnyH_take (i := 3) (oi := ⟨some 85, Op.load 22 (Operand.tmp 84), 22, _, _, _⟩) (v := ?v3a) rfl (by kernel_rfl) (by kernel_rfl) (by kernel_rfl) (fun _ _ _ h => h) (Or.inl ⟨by rfl, ?hy3a⟩) hHeld ?rest3a
      case hy3a => intro w9 hSw; have cc := cell_later f1 hSw; go_simp; (try with_reducible rfl)
      try simp only [Act.put, List.setIfInBounds_toArray, List.set_cons_zero, List.set_cons_succ]
      refine wpAnyH_take (i := 4) (oi := ⟨some 86, Op.convert 22 9 (Operand.tmp 85), 9, _, _, _⟩) (v := ?v4a) rfl (by kernel_rfl) (by kernel_rfl) (by kernel_rfl) (fun _ _ _ h => h) (Or.inl ⟨by rfl, ?hy4a⟩) hHeld ?rest4a
      case hy4a => intro w9 hSw; have cv := conv_own (own_below o1 hSw); go_simp; (try with_reducible rfl)
      try simp only [Act.put, List.setIfInBounds_toArray, List.set_cons_zero, List.set_cons_succ]
      refine wpAnyH_take (i := 5) (oi := ⟨some 87, Op.move (Operand.tmp 14), 37, _, _, _⟩) (v := ?v5a) rfl (by kernel_rfl) (by kernel_rfl) (by kernel_rfl) (fun _ _ _ h => h) (Or.inl ⟨by rfl, ?hy5a⟩) hHeld ?rest5a
      case hy5a => intro w9 hSw; go_simp; (try with_reducible rfl)
      try simp only [Act.put, List.setIfInBounds_toArray, List.set_cons_zero, List.set_cons_succ]
      refine wpAnyH_take (i := 6) (oi := ⟨some 88, Op.move (Operand.tmp 17), 3, _, _, _⟩) (v := ?v6a) rfl (by kernel_rfl) (by kernel_rfl) (by kernel_rfl) (fun _ _ _ h => h) (Or.inl ⟨by rfl, ?hy6a⟩) hHeld ?rest6a
      case hy6a => intro w9 hSw; go_simp; (try with_reducible rfl)
      try simp only [Act.put, List.setIfInBounds_toArray, List.set_cons_zero, List.set_cons_succ]
      refine wpAnyH_take (i := 7) (oi := ⟨some 89, Op.indexAddr 37 (Operand.tmp 87) (Operand.tmp 88), 0, _, _, _⟩) (v := ?v7a) rfl (by kernel_rfl) (by kernel_rfl) (by kernel_rfl) (fun _ _ _ h => h) (Or.inl ⟨by rfl, ?hy7a⟩) hHeld ?rest7a
      case hy7a => intro w9 hSw; have cc := cell_later f2 hSw; go_simp; (try with_reducible rfl)
      try simp only [Act.put, List.setIfInBounds_toArray, List.set_cons_zero, List.set_cons_succ]
      refine wpAnyH_take (i := 8) (oi := ⟨some 90, Op.load 22 (Operand.tmp 89), 22, _, _, _⟩) (v := ?v8a) rfl (by kernel_rfl) (by kernel_rfl) (by kernel_rfl) (fun _ _ _ h => h) (Or.inl ⟨by rfl, ?hy8a⟩) hHeld ?rest8a
      case hy8a => intro w9 hSw; have cc := cell_later f2 hSw; go_simp; (try with_reducible rfl)
      try simp only [Act.put, List.setIfInBounds_toArray, List.set_cons_zero, List.set_cons_succ]
      refine wpAnyH_take (i := 9) (oi := ⟨some 91, Op.convert 22 9 (Operand.tmp 90), 9, _, _, _⟩) (v := ?v9a) rfl (by kernel_rfl) (by kernel_rfl) (by kernel_rfl) (fun _ _ _ h => h) (Or.inl ⟨by rfl, ?hy9a⟩) hHeld ?rest9a
      case hy9a => intro w9 hSw; have cv := conv_own (own_below o2 hSw); go_simp; (try with_reducible rfl)
      try simp only [Act.put, List.setIfInBounds_toArray, List.set_cons_zero, List.set_cons_succ]
      refine wpAnyH_take (i := 10) (oi := ⟨some 92, Op.binOp BinOp.neq 9 (Operand.tmp 86) (Operand.tmp 91) 9, 4, _, _, _⟩) (v := ?v10a) rfl (by kernel_rfl) (by kernel_rfl) (by kernel_rfl) (fun _ _ _ h => h) (Or.inl ⟨by rfl, ?hy10a⟩) hHeld ?rest10a
      case hy10a => intro w9 hSw; go_simp; (try with_reducible rfl)
      try simp only [Act.put, List.setIfInBounds_toArray, List.set_cons_zero, List.set_cons_succ]
      refine wpAnyH_done (by kernel_rfl) ?_ _
      refine NoPanic.normal ?_
      go_wp2
      go_roundw
      case rel => exact ⟨k + 1, by omega, by go_num, hB.trans (hT.mono hB.size)⟩
      case measure => simp [intOf]; omega
    · obtain rfl : k = L.length := by omega
      go_wp2_with (first | (go_at_call 14; refine (awake_any _).mono ?_; rintro e w8 ⟨rfl, hB8⟩))
      go_ret
      have k5 := k4.trans (hB.mono k4.size)
      exact ⟨rfl, k5.trans (hB8.mono k5.size)⟩
end Go.Proofs.Ytakjilbbhodiiaa
