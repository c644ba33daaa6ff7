/-
  ExprTells' walk: of two conditions.
-/
import Derived.Test.YtbmbdiimbhfeaaaExprRefRight
import Derived.Test.YtbmbdiimbhfeaaaExprDeep
import Derived.Test.YtbmbdiimbhfeaaaExprRefOrder
import Derived.Test.YtbmbdiimbhfeaaaExprNames
import Derived.Deep.DeepCutAuto
namespace Go.Proofs.Ytbmbdiimbhfeaaa
open Go.RowKit

set_option maxRecDepth 100000 in
set_option maxHeartbeats 2000000 in
theorem exprTells_nx (x y : X) (w : World) (hX : IsX w x) (hlx : decide (szZ x ≤ 400) = false) :
    Calls Try.prog 3 #[x.val, y.val] w fun e w' => e = .returned (.bool true) ∧ Below w.heap.size w w' := by
  obtain ⟨A, hA, hB, hs, hn, hm⟩ := two_boxes x y w
  obtain ⟨a0, a1, a2, a3, a4, a5, a6⟩ := hn.at0
  have HB : Hid (Below w.heap.size w A) := hB
  have L1 : Hid (Calls Try.prog 7 #[x.val] A fun e w' => e = .returned (.bool false) ∧ Below A.heap.size A w') := by have := light_any x A (hX.later hB); rw [hlx] at this; exact this
  have W1 : Hid (∀ d, Calls Try.prog 8 #[] d fun e w' => e = .returned (.bool true) ∧ Below d.heap.size d w') := fun d => awake_any d
  clear hB hn hm hX hlx
  go_enter Try.func3, Try.ntmps3
  go_wp2_with (first
    | (go_at_call 7; refine L1.out.mono ?_; clear L1; rintro e w1 ⟨rfl, hB1⟩)
    | (go_at_call 8; refine (W1.out _).mono ?_; clear W1; rintro e w2 ⟨rfl, hB2⟩))
  go_ret
  exact ⟨rfl, HB.out.trans ((hB1.trans (hB2.mono hB1.size)).mono (by omega))⟩
set_option maxRecDepth 100000 in
set_option maxHeartbeats 2000000 in
theorem exprTells_ny (x y : X) (w : World) (hX : IsX w x) (hY : IsX w y) (hlx : decide (szZ x ≤ 400) = true) (hly : decide (szZ y ≤ 400) = false) :
    Calls Try.prog 3 #[x.val, y.val] w fun e w' => e = .returned (.bool true) ∧ Below w.heap.size w w' := by
  obtain ⟨A, hA, hB, hs, hn, hm⟩ := two_boxes x y w
  obtain ⟨a0, a1, a2, a3, a4, a5, a6⟩ := hn.at0
  have HB : Hid (Below w.heap.size w A) := hB
  have NY : Hid (Node A (w.heap.size + 1) 0 y) := hm
  have L1 : Hid (Calls Try.prog 7 #[x.val] A fun e w' => e = .returned (.bool true) ∧ Below A.heap.size A w') := by have := light_any x A (hX.later hB); rw [hlx] at this; exact this
  have L2 : Hid (∀ d, Below A.heap.size A d → Calls Try.prog 7 #[y.val] d fun e w' => e = .returned (.bool false) ∧ Below d.heap.size d w') := fun d h => by have := light_any y d ((hY.later hB).later h); rw [hly] at this; exact this
  have W1 : Hid (∀ d, Calls Try.prog 8 #[] d fun e w' => e = .returned (.bool true) ∧ Below d.heap.size d w') := fun d => awake_any d
  clear hB hn hm hX hY hlx hly
  go_enter Try.func3, Try.ntmps3
  go_wp2_with (first
    | (go_at_call 7; refine L1.out.mono ?_; clear L1; rintro e w1 ⟨rfl, hB1⟩; obtain ⟨b0, b1, b2, b3, b4, b5, b6⟩ := (NY.out.later hB1).at0)
    | (go_at_call 7; refine (L2.out _ hB1).mono ?_; clear L2; rintro e w2 ⟨rfl, hB2⟩)
    | (go_at_call 8; refine (W1.out _).mono ?_; clear W1; rintro e w3 ⟨rfl, hB3⟩))
  go_ret
  have hB12 := hB1.trans (hB2.mono hB1.size)
  exact ⟨rfl, HB.out.trans ((hB12.trans (hB3.mono hB12.size)).mono (by omega))⟩
set_option maxRecDepth 100000 in
set_option maxHeartbeats 8000000 in
theorem exprTells_yes (x y : X) (w : World) (hX : IsX w x) (hY : IsX w y) (ok : XOk x) (hsm : x.size ≤ 1048576) (hlx : decide (szZ x ≤ 400) = true) (hly : decide (szZ y ≤ 400) = true) :
    Calls Try.prog 3 #[x.val, y.val] w fun e w' => e = .returned (.bool true) ∧ Below w.heap.size w w' := by
  obtain ⟨A, hA, hB, hs, hn, hm⟩ := two_boxes x y w
  obtain ⟨a0, a1, a2, a3, a4, a5, a6⟩ := hn.at0
  have HB : Hid (Below w.heap.size w A) := hB
  have NX : Hid (Node A w.heap.size 0 x) := hn
  have NY : Hid (Node A (w.heap.size + 1) 0 y) := hm
  have xa : ∀ d, Below A.heap.size A d → IsX d x := fun d h => (hX.later hB).later h
  have ya : ∀ d, Below A.heap.size A d → IsX d y := fun d h => (hY.later hB).later h
  have L1 : Hid (Calls Try.prog 7 #[x.val] A fun e w' => e = .returned (.bool true) ∧ Below A.heap.size A w') := by have := light_any x A (hX.later hB); rw [hlx] at this; exact this
  have L2 : Hid (∀ d, Below A.heap.size A d → Calls Try.prog 7 #[y.val] d fun e w' => e = .returned (.bool true) ∧ Below d.heap.size d w') := fun d h => by have := light_any y d (ya d h); rw [hly] at this; exact this
  have W1 : Hid (∀ d, Calls Try.prog 8 #[] d fun e w' => e = .returned (.bool true) ∧ Below d.heap.size d w') := fun d => awake_any d
  have K1 : Hid (∀ d, Below A.heap.size A d → Calls Try.prog 9 #[x.val] d fun e w' => ∃ r : Int, e = .returned (.int .i64 r) ∧ Hid (ChkX x r) ∧ Below d.heap.size d w') := fun d h => check_any x d (xa d h)
  have K2 : Hid (∀ d, Below A.heap.size A d → Calls Try.prog 10 #[x.val] d fun e w' => ∃ r : Int, e = .returned (.int .i64 r) ∧ Hid (ChkX x r) ∧ Below d.heap.size d w') := fun d h => refCheck_any x d (xa d h) ok hsm
  obtain ⟨sz, hsz⟩ : ∃ sz : Int, sz = x.size := ⟨_, rfl⟩
  have S1 : Hid (∀ d, Below A.heap.size A d → Calls Try.prog 11 #[x.val] d fun e w' => e = .returned (.int .i64 sz) ∧ Below d.heap.size d w') := fun d h => by have := size_any x d (xa d h); rw [cnt_small _ hsm, ← hsz] at this; exact this
  have S2 : Hid (∀ d, Below A.heap.size A d → Calls Try.prog 12 #[x.val] d fun e w' => e = .returned (.int .i64 sz) ∧ Below d.heap.size d w') := fun d h => by have := refSize_any x d (xa d h); rw [szZ_small _ hsm, ← hsz] at this; exact this
  obtain ⟨dp, hdp⟩ : ∃ dp : Int, dp = x.deep := ⟨_, rfl⟩
  have D1 : Hid (∀ d, Below A.heap.size A d → Calls Try.prog 13 #[x.val] d fun e w' => e = .returned (.int .i64 dp) ∧ Below d.heap.size d w') := fun d h => by have := deep_any x d (xa d h) hsm; rw [← hdp] at this; exact this
  have D2 : Hid (∀ d, Below A.heap.size A d → Calls Try.prog 14 #[x.val] d fun e w' => e = .returned (.int .i64 dp) ∧ Below d.heap.size d w') := fun d h => by have := refDeep_any x d (xa d h) hsm; rw [← hdp] at this; exact this
  obtain ⟨od, hod⟩ : ∃ od : Int, od = ordX x y := ⟨_, rfl⟩
  obtain ⟨sm, hsmm⟩ : ∃ sm : Bool, sm = (ordX x y == 0) := ⟨_, rfl⟩
  have M1 : Hid (∀ d, Below A.heap.size A d → Calls Try.prog 15 #[x.val, y.val] d fun e w' => e = .returned (.bool sm) ∧ Below d.heap.size d w') := fun d h => by rw [hsmm]; exact same_any x y d (xa d h) (ya d h)
  have M2 : Hid (∀ d, Below A.heap.size A d → Calls Try.prog 16 #[x.val, y.val] d fun e w' => e = .returned (.bool sm) ∧ Below d.heap.size d w') := fun d h => by rw [hsmm]; exact refSame_any x y d (xa d h) (ya d h)
  have O1 : Hid (∀ d, Below A.heap.size A d → Calls Try.prog 17 #[x.val, y.val] d fun e w' => e = .returned (.int .i64 od) ∧ Below d.heap.size d w') := fun d h => by rw [hod]; exact orderX_any x y d (xa d h) (ya d h)
  have O2 : Hid (∀ d, Below A.heap.size A d → Calls Try.prog 18 #[x.val, y.val] d fun e w' => e = .returned (.int .i64 od) ∧ Below d.heap.size d w') := fun d h => by rw [hod]; exact refOrder_any x y d (xa d h) (ya d h)
  obtain ⟨nv, hnv⟩ : ∃ nv, nv = (varsX x).length := ⟨_, rfl⟩
  have HNV : Hid (nv ≤ 1048576) := by show nv ≤ 1048576; rw [hnv]; have := vars_len x; omega
  have V1 : Hid (∀ d, Below A.heap.size A d → Calls Try.prog 20 #[x.val] d fun e w' => ∃ v, e = .returned v ∧ Hid (w'.ownsRow d.heap.size 9 1 v nv (cellsS (varsX x))) ∧ Below d.heap.size d w') := fun d h => by rw [hnv]; exact vars_any x d (xa d h) hsm
  have V2 : Hid (∀ d, Below A.heap.size A d → Calls Try.prog 21 #[x.val] d fun e w' => ∃ v, e = .returned v ∧ Hid (w'.ownsRow d.heap.size 9 1 v nv (cellsS (varsX x))) ∧ Below d.heap.size d w') := fun d h => by rw [hnv]; exact refVars_any x d (xa d h) hsm
  clear hB hn hm hX hY hlx hly xa ya ok hsm hsz hdp hod hsmm hnv
  go_enter Try.func3, Try.ntmps3
  go_wp2_with (first
    | (go_at_call 7; refine L1.out.mono ?_; clear L1; rintro e w1 ⟨rfl, hB1⟩; obtain ⟨b0, b1, b2, b3, b4, b5, b6⟩ := (NY.out.later hB1).at0)
    | (go_at_call 7; refine (L2.out _ hB1).mono ?_; clear L2; rintro e W ⟨rfl, hB2⟩))
  have hW := hB1.trans (hB2.mono hB1.size)
  have HW : Hid (Below A.heap.size A W) := hW
  have PX : Hid (Node W w.heap.size 0 x) := NX.out.later hW
  have PY : Hid (Node W (w.heap.size + 1) 0 y) := NY.out.later hW
  clear hW hB1 hB2 b0 b1 b2 b3 b4 b5 b6 a0 a1 a2 a3 a4 a5 a6
  refine wp_region_noPanic ?_
  refine wp_region_held_drew (S := fun w' => Below W.heap.size W w') (by kernel_rfl) ((Below.refl _ _).drew) (fun hHeld => ?_)
  have hT : Below W.heap.size W W.drew := hHeld
  obtain ⟨d, hd⟩ : ∃ d, d = W.drew := ⟨_, rfl⟩
  rw [← hd] at hHeld hT ⊢
  clear hd
  refine wpAnyH_take (i := 0) (oi := ⟨some 14, Op.load 26 (Operand.tmp 2), 26, _, _, _⟩) (v := ?v0) rfl (by kernel_rfl) (by kernel_rfl) (by kernel_rfl) (fun _ _ _ h => h) (Or.inl ⟨by rfl, ?hy0⟩) hHeld ?rest0
  case hy0 => intro w9 hSw; obtain ⟨d0, d1, d2, d3, d4, d5, d6⟩ := (PX.out.later hSw).at0; go_simp; (try with_reducible rfl)
  try simp only [Act.put, List.setIfInBounds_toArray, List.set_cons_zero, List.set_cons_succ]
  refine wpAnyH_take (i := 2) (oi := ⟨some 16, Op.load 26 (Operand.tmp 2), 26, _, _, _⟩) (v := ?v2) rfl (by kernel_rfl) (by kernel_rfl) (by kernel_rfl) (fun _ _ _ h => h) (Or.inl ⟨by rfl, ?hy2⟩) hHeld ?rest2
  case hy2 => intro w9 hSw; obtain ⟨d0, d1, d2, d3, d4, d5, d6⟩ := (PX.out.later hSw).at0; go_simp; (try with_reducible rfl)
  try simp only [Act.put, List.setIfInBounds_toArray, List.set_cons_zero, List.set_cons_succ]
  refine wpAnyH_ready (rs := [1]) (by kernel_rfl) (by simp) ?_
  refine AllReadyH.cons (o := ⟨some 15, Op.call { callee := Callee.value (Operand.func 9), args := #[Operand.tmp 14], argTypes := #[26] }, 29, _, _, _⟩) rfl (fun K hK => ?_) AllReadyH.nil
  go_simp
  refine (K1.out _ (HW.out.trans (hT.mono HW.out.size))).mono ?_
  rintro e x1 ⟨r1, rfl, hc1, hN1⟩
  go_wp2_with fail
  have hT1 : Below W.heap.size W x1 := hT.trans (hN1.mono hT.size)
  refine hK.out _ _ (hHeld.trans (hN1.mono hHeld.size)) (fun _ => held_up (S' := fun w' => Below x1.heap.size x1 w') (fun w' h' => (hHeld.trans (hN1.mono hHeld.size)).trans (h'.mono (Nat.le_trans hHeld.size hN1.size))) _ _ _ _ ?_)
  clear hK K hHeld hT
  have hT : Below W.heap.size W x1 := hT1
  have hHeld : Below x1.heap.size x1 x1 := Below.refl _ _
  clear hT1 hN1
  try simp only [Act.put, List.setIfInBounds_toArray, List.set_cons_zero, List.set_cons_succ]
  refine wpAnyH_ready (rs := [3]) (by kernel_rfl) (by simp) ?_
  refine AllReadyH.cons (o := ⟨some 17, Op.call { callee := Callee.value (Operand.func 10), args := #[Operand.tmp 16], argTypes := #[26] }, 3, _, _, _⟩) rfl (fun K hK => ?_) AllReadyH.nil
  go_simp
  refine (K2.out _ (HW.out.trans (hT.mono HW.out.size))).mono ?_
  rintro e x3 ⟨r3, rfl, hc3, hN3⟩
  obtain rfl : r1 = r3 := ChkX.one hc1.out hc3.out
  go_wp2_with fail
  have hT3 : Below W.heap.size W x3 := hT.trans (hN3.mono hT.size)
  refine hK.out _ _ (hHeld.trans (hN3.mono hHeld.size)) (fun _ => held_up (S' := fun w' => Below x3.heap.size x3 w') (fun w' h' => (hHeld.trans (hN3.mono hHeld.size)).trans (h'.mono (Nat.le_trans hHeld.size hN3.size))) _ _ _ _ ?_)
  clear hK K hHeld hT
  have hT : Below W.heap.size W x3 := hT3
  have hHeld : Below x3.heap.size x3 x3 := Below.refl _ _
  clear hT3 hN3
  try simp only [Act.put, List.setIfInBounds_toArray, List.set_cons_zero, List.set_cons_succ]
  refine wpAnyH_take (i := 4) (oi := ⟨some 18, Op.binOp BinOp.eql 3 (Operand.tmp 15) (Operand.tmp 17) 3, 4, _, _, _⟩) (v := ?v4) rfl (by kernel_rfl) (by kernel_rfl) (by kernel_rfl) (fun _ _ _ h => h) (Or.inl ⟨by rfl, ?hy4⟩) hHeld ?rest4
  case hy4 => intro w9 hSw; go_simp; (try with_reducible rfl)
  try simp only [Act.put, List.setIfInBounds_toArray, List.set_cons_zero, List.set_cons_succ]
  refine wpAnyH_take (i := 5) (oi := ⟨some 19, Op.move (Operand.tmp 18), 4, _, _, _⟩) (v := ?v5) rfl (by kernel_rfl) (by kernel_rfl) (by kernel_rfl) (fun _ _ _ h => h) (Or.inl ⟨by rfl, ?hy5⟩) hHeld ?rest5
  case hy5 => intro w9 hSw; go_simp; (try with_reducible rfl)
  try simp only [Act.put, List.setIfInBounds_toArray, List.set_cons_zero, List.set_cons_succ]
  refine wpAnyH_take (i := 6) (oi := ⟨some 20, Op.load 26 (Operand.tmp 2), 26, _, _, _⟩) (v := ?v6) rfl (by kernel_rfl) (by kernel_rfl) (by kernel_rfl) (fun _ _ _ h => h) (Or.inl ⟨by rfl, ?hy6⟩) hHeld ?rest6
  case hy6 => intro w9 hSw; obtain ⟨d0, d1, d2, d3, d4, d5, d6⟩ := (PX.out.later (hT.trans (hSw.mono hT.size))).at0; go_simp; (try with_reducible rfl)
  try simp only [Act.put, List.setIfInBounds_toArray, List.set_cons_zero, List.set_cons_succ]
  refine wpAnyH_take (i := 8) (oi := ⟨some 22, Op.load 26 (Operand.tmp 2), 26, _, _, _⟩) (v := ?v8) rfl (by kernel_rfl) (by kernel_rfl) (by kernel_rfl) (fun _ _ _ h => h) (Or.inl ⟨by rfl, ?hy8⟩) hHeld ?rest8
  case hy8 => intro w9 hSw; obtain ⟨d0, d1, d2, d3, d4, d5, d6⟩ := (PX.out.later (hT.trans (hSw.mono hT.size))).at0; go_simp; (try with_reducible rfl)
  try simp only [Act.put, List.setIfInBounds_toArray, List.set_cons_zero, List.set_cons_succ]
  refine wpAnyH_ready (rs := [7]) (by kernel_rfl) (by simp) ?_
  refine AllReadyH.cons (o := ⟨some 21, Op.call { callee := Callee.value (Operand.func 11), args := #[Operand.tmp 20], argTypes := #[26] }, 3, _, _, _⟩) rfl (fun K hK => ?_) AllReadyH.nil
  go_simp
  refine (S1.out _ (HW.out.trans (hT.mono HW.out.size))).mono ?_
  rintro e x7 ⟨rfl, hN7⟩
  go_wp2_with fail
  have hT7 : Below W.heap.size W x7 := hT.trans (hN7.mono hT.size)
  refine hK.out _ _ (hHeld.trans (hN7.mono hHeld.size)) (fun _ => held_up (S' := fun w' => Below x7.heap.size x7 w') (fun w' h' => (hHeld.trans (hN7.mono hHeld.size)).trans (h'.mono (Nat.le_trans hHeld.size hN7.size))) _ _ _ _ ?_)
  clear hK K hHeld hT
  have hT : Below W.heap.size W x7 := hT7
  have hHeld : Below x7.heap.size x7 x7 := Below.refl _ _
  clear hT7 hN7
  try simp only [Act.put, List.setIfInBounds_toArray, List.set_cons_zero, List.set_cons_succ]
  refine wpAnyH_ready (rs := [9]) (by kernel_rfl) (by simp) ?_
  refine AllReadyH.cons (o := ⟨some 23, Op.call { callee := Callee.value (Operand.func 12), args := #[Operand.tmp 22], argTypes := #[26] }, 3, _, _, _⟩) rfl (fun K hK => ?_) AllReadyH.nil
  go_simp
  refine (S2.out _ (HW.out.trans (hT.mono HW.out.size))).mono ?_
  rintro e x9 ⟨rfl, hN9⟩
  go_wp2_with fail
  have hT9 : Below W.heap.size W x9 := hT.trans (hN9.mono hT.size)
  refine hK.out _ _ (hHeld.trans (hN9.mono hHeld.size)) (fun _ => held_up (S' := fun w' => Below x9.heap.size x9 w') (fun w' h' => (hHeld.trans (hN9.mono hHeld.size)).trans (h'.mono (Nat.le_trans hHeld.size hN9.size))) _ _ _ _ ?_)
  clear hK K hHeld hT
  have hT : Below W.heap.size W x9 := hT9
  have hHeld : Below x9.heap.size x9 x9 := Below.refl _ _
  clear hT9 hN9
  try simp only [Act.put, List.setIfInBounds_toArray, List.set_cons_zero, List.set_cons_succ]
  refine wpAnyH_take (i := 10) (oi := ⟨some 24, Op.binOp BinOp.eql 3 (Operand.tmp 21) (Operand.tmp 23) 3, 4, _, _, _⟩) (v := ?v10) rfl (by kernel_rfl) (by kernel_rfl) (by kernel_rfl) (fun _ _ _ h => h) (Or.inl ⟨by rfl, ?hy10⟩) hHeld ?rest10
  case hy10 => intro w9 hSw; go_simp; (try with_reducible rfl)
  try simp only [Act.put, List.setIfInBounds_toArray, List.set_cons_zero, List.set_cons_succ]
  refine wpAnyH_take (i := 11) (oi := ⟨some 25, Op.pick (Operand.tmp 19) (Operand.tmp 24) (Operand.const (Value.bool false)), 4, _, _, _⟩) (v := ?v11) rfl (by kernel_rfl) (by kernel_rfl) (by kernel_rfl) (fun _ _ _ h => h) (Or.inl ⟨by rfl, ?hy11⟩) hHeld ?rest11
  case hy11 => intro w9 hSw; go_simp; (try with_reducible rfl)
  try simp only [Act.put, List.setIfInBounds_toArray, List.set_cons_zero, List.set_cons_succ]
  refine wpAnyH_take (i := 12) (oi := ⟨some 26, Op.move (Operand.tmp 25), 4, _, _, _⟩) (v := ?v12) rfl (by kernel_rfl) (by kernel_rfl) (by kernel_rfl) (fun _ _ _ h => h) (Or.inl ⟨by rfl, ?hy12⟩) hHeld ?rest12
  case hy12 => intro w9 hSw; go_simp; (try with_reducible rfl)
  try simp only [Act.put, List.setIfInBounds_toArray, List.set_cons_zero, List.set_cons_succ]
  refine wpAnyH_take (i := 13) (oi := ⟨some 27, Op.load 26 (Operand.tmp 2), 26, _, _, _⟩) (v := ?v13) rfl (by kernel_rfl) (by kernel_rfl) (by kernel_rfl) (fun _ _ _ h => h) (Or.inl ⟨by rfl, ?hy13⟩) hHeld ?rest13
  case hy13 => intro w9 hSw; obtain ⟨d0, d1, d2, d3, d4, d5, d6⟩ := (PX.out.later (hT.trans (hSw.mono hT.size))).at0; go_simp; (try with_reducible rfl)
  try simp only [Act.put, List.setIfInBounds_toArray, List.set_cons_zero, List.set_cons_succ]
  refine wpAnyH_take (i := 15) (oi := ⟨some 29, Op.load 26 (Operand.tmp 2), 26, _, _, _⟩) (v := ?v15) rfl (by kernel_rfl) (by kernel_rfl) (by kernel_rfl) (fun _ _ _ h => h) (Or.inl ⟨by rfl, ?hy15⟩) hHeld ?rest15
  case hy15 => intro w9 hSw; obtain ⟨d0, d1, d2, d3, d4, d5, d6⟩ := (PX.out.later (hT.trans (hSw.mono hT.size))).at0; go_simp; (try with_reducible rfl)
  try simp only [Act.put, List.setIfInBounds_toArray, List.set_cons_zero, List.set_cons_succ]
  refine wpAnyH_ready (rs := [14]) (by kernel_rfl) (by simp) ?_
  refine AllReadyH.cons (o := ⟨some 28, Op.call { callee := Callee.value (Operand.func 13), args := #[Operand.tmp 27], argTypes := #[26] }, 3, _, _, _⟩) rfl (fun K hK => ?_) AllReadyH.nil
  go_simp
  refine (D1.out _ (HW.out.trans (hT.mono HW.out.size))).mono ?_
  rintro e x14 ⟨rfl, hN14⟩
  go_wp2_with fail
  have hT14 : Below W.heap.size W x14 := hT.trans (hN14.mono hT.size)
  refine hK.out _ _ (hHeld.trans (hN14.mono hHeld.size)) (fun _ => held_up (S' := fun w' => Below x14.heap.size x14 w') (fun w' h' => (hHeld.trans (hN14.mono hHeld.size)).trans (h'.mono (Nat.le_trans hHeld.size hN14.size))) _ _ _ _ ?_)
  clear hK K hHeld hT
  have hT : Below W.heap.size W x14 := hT14
  have hHeld : Below x14.heap.size x14 x14 := Below.refl _ _
  clear hT14 hN14
  try simp only [Act.put, List.setIfInBounds_toArray, List.set_cons_zero, List.set_cons_succ]
  refine wpAnyH_ready (rs := [16]) (by kernel_rfl) (by simp) ?_
  refine AllReadyH.cons (o := ⟨some 30, Op.call { callee := Callee.value (Operand.func 14), args := #[Operand.tmp 29], argTypes := #[26] }, 3, _, _, _⟩) rfl (fun K hK => ?_) AllReadyH.nil
  go_simp
  refine (D2.out _ (HW.out.trans (hT.mono HW.out.size))).mono ?_
  rintro e x16 ⟨rfl, hN16⟩
  go_wp2_with fail
  have hT16 : Below W.heap.size W x16 := hT.trans (hN16.mono hT.size)
  refine hK.out _ _ (hHeld.trans (hN16.mono hHeld.size)) (fun _ => held_up (S' := fun w' => Below x16.heap.size x16 w') (fun w' h' => (hHeld.trans (hN16.mono hHeld.size)).trans (h'.mono (Nat.le_trans hHeld.size hN16.size))) _ _ _ _ ?_)
  clear hK K hHeld hT
  have hT : Below W.heap.size W x16 := hT16
  have hHeld : Below x16.heap.size x16 x16 := Below.refl _ _
  clear hT16 hN16
  try simp only [Act.put, List.setIfInBounds_toArray, List.set_cons_zero, List.set_cons_succ]
  refine wpAnyH_take (i := 17) (oi := ⟨some 31, Op.binOp BinOp.eql 3 (Operand.tmp 28) (Operand.tmp 30) 3, 4, _, _, _⟩) (v := ?v17) rfl (by kernel_rfl) (by kernel_rfl) (by kernel_rfl) (fun _ _ _ h => h) (Or.inl ⟨by rfl, ?hy17⟩) hHeld ?rest17
  case hy17 => intro w9 hSw; go_simp; (try with_reducible rfl)
  try simp only [Act.put, List.setIfInBounds_toArray, List.set_cons_zero, List.set_cons_succ]
  refine wpAnyH_take (i := 18) (oi := ⟨some 32, Op.pick (Operand.tmp 26) (Operand.tmp 31) (Operand.const (Value.bool false)), 4, _, _, _⟩) (v := ?v18) rfl (by kernel_rfl) (by kernel_rfl) (by kernel_rfl) (fun _ _ _ h => h) (Or.inl ⟨by rfl, ?hy18⟩) hHeld ?rest18
  case hy18 => intro w9 hSw; go_simp; (try with_reducible rfl)
  try simp only [Act.put, List.setIfInBounds_toArray, List.set_cons_zero, List.set_cons_succ]
  refine wpAnyH_take (i := 19) (oi := ⟨some 33, Op.move (Operand.tmp 32), 4, _, _, _⟩) (v := ?v19) rfl (by kernel_rfl) (by kernel_rfl) (by kernel_rfl) (fun _ _ _ h => h) (Or.inl ⟨by rfl, ?hy19⟩) hHeld ?rest19
  case hy19 => intro w9 hSw; go_simp; (try with_reducible rfl)
  try simp only [Act.put, List.setIfInBounds_toArray, List.set_cons_zero, List.set_cons_succ]
  refine wpAnyH_take (i := 20) (oi := ⟨some 34, Op.load 26 (Operand.tmp 2), 26, _, _, _⟩) (v := ?v20) rfl (by kernel_rfl) (by kernel_rfl) (by kernel_rfl) (fun _ _ _ h => h) (Or.inl ⟨by rfl, ?hy20⟩) hHeld ?rest20
  case hy20 => intro w9 hSw; obtain ⟨d0, d1, d2, d3, d4, d5, d6⟩ := (PX.out.later (hT.trans (hSw.mono hT.size))).at0; go_simp; (try with_reducible rfl)
  try simp only [Act.put, List.setIfInBounds_toArray, List.set_cons_zero, List.set_cons_succ]
  refine wpAnyH_take (i := 21) (oi := ⟨some 35, Op.load 26 (Operand.tmp 3), 26, _, _, _⟩) (v := ?v21) rfl (by kernel_rfl) (by kernel_rfl) (by kernel_rfl) (fun _ _ _ h => h) (Or.inl ⟨by rfl, ?hy21⟩) hHeld ?rest21
  case hy21 => intro w9 hSw; obtain ⟨d0, d1, d2, d3, d4, d5, d6⟩ := (PY.out.later (hT.trans (hSw.mono hT.size))).at0; go_simp; (try with_reducible rfl)
  try simp only [Act.put, List.setIfInBounds_toArray, List.set_cons_zero, List.set_cons_succ]
  refine wpAnyH_take (i := 23) (oi := ⟨some 37, Op.load 26 (Operand.tmp 2), 26, _, _, _⟩) (v := ?v23) rfl (by kernel_rfl) (by kernel_rfl) (by kernel_rfl) (fun _ _ _ h => h) (Or.inl ⟨by rfl, ?hy23⟩) hHeld ?rest23
  case hy23 => intro w9 hSw; obtain ⟨d0, d1, d2, d3, d4, d5, d6⟩ := (PX.out.later (hT.trans (hSw.mono hT.size))).at0; go_simp; (try with_reducible rfl)
  try simp only [Act.put, List.setIfInBounds_toArray, List.set_cons_zero, List.set_cons_succ]
  refine wpAnyH_take (i := 24) (oi := ⟨some 38, Op.load 26 (Operand.tmp 3), 26, _, _, _⟩) (v := ?v24) rfl (by kernel_rfl) (by kernel_rfl) (by kernel_rfl) (fun _ _ _ h => h) (Or.inl ⟨by rfl, ?hy24⟩) hHeld ?rest24
  case hy24 => intro w9 hSw; obtain ⟨d0, d1, d2, d3, d4, d5, d6⟩ := (PY.out.later (hT.trans (hSw.mono hT.size))).at0; go_simp; (try with_reducible rfl)
  try simp only [Act.put, List.setIfInBounds_toArray, List.set_cons_zero, List.set_cons_succ]
  refine wpAnyH_ready (rs := [22]) (by kernel_rfl) (by simp) ?_
  refine AllReadyH.cons (o := ⟨some 36, Op.call { callee := Callee.value (Operand.func 15), args := #[Operand.tmp 34, Operand.tmp 35], argTypes := #[26, 26] }, 4, _, _, _⟩) rfl (fun K hK => ?_) AllReadyH.nil
  go_simp
  refine (M1.out _ (HW.out.trans (hT.mono HW.out.size))).mono ?_
  rintro e x22 ⟨rfl, hN22⟩
  go_wp2_with fail
  have hT22 : Below W.heap.size W x22 := hT.trans (hN22.mono hT.size)
  refine hK.out _ _ (hHeld.trans (hN22.mono hHeld.size)) (fun _ => held_up (S' := fun w' => Below x22.heap.size x22 w') (fun w' h' => (hHeld.trans (hN22.mono hHeld.size)).trans (h'.mono (Nat.le_trans hHeld.size hN22.size))) _ _ _ _ ?_)
  clear hK K hHeld hT
  have hT : Below W.heap.size W x22 := hT22
  have hHeld : Below x22.heap.size x22 x22 := Below.refl _ _
  clear hT22 hN22
  try simp only [Act.put, List.setIfInBounds_toArray, List.set_cons_zero, List.set_cons_succ]
  refine wpAnyH_ready (rs := [25]) (by kernel_rfl) (by simp) ?_
  refine AllReadyH.cons (o := ⟨some 39, Op.call { callee := Callee.value (Operand.func 16), args := #[Operand.tmp 37, Operand.tmp 38], argTypes := #[26, 26] }, 4, _, _, _⟩) rfl (fun K hK => ?_) AllReadyH.nil
  go_simp
  refine (M2.out _ (HW.out.trans (hT.mono HW.out.size))).mono ?_
  rintro e x25 ⟨rfl, hN25⟩
  go_wp2_with fail
  have hT25 : Below W.heap.size W x25 := hT.trans (hN25.mono hT.size)
  refine hK.out _ _ (hHeld.trans (hN25.mono hHeld.size)) (fun _ => held_up (S' := fun w' => Below x25.heap.size x25 w') (fun w' h' => (hHeld.trans (hN25.mono hHeld.size)).trans (h'.mono (Nat.le_trans hHeld.size hN25.size))) _ _ _ _ ?_)
  clear hK K hHeld hT
  have hT : Below W.heap.size W x25 := hT25
  have hHeld : Below x25.heap.size x25 x25 := Below.refl _ _
  clear hT25 hN25
  try simp only [Act.put, List.setIfInBounds_toArray, List.set_cons_zero, List.set_cons_succ]
  refine wpAnyH_take (i := 26) (oi := ⟨some 40, Op.binOp BinOp.eql 4 (Operand.tmp 36) (Operand.tmp 39) 4, 4, _, _, _⟩) (v := ?v26) rfl (by kernel_rfl) (by kernel_rfl) (by kernel_rfl) (fun _ _ _ h => h) (Or.inl ⟨by rfl, ?hy26⟩) hHeld ?rest26
  case hy26 => intro w9 hSw; go_simp; (try with_reducible rfl)
  try simp only [Act.put, List.setIfInBounds_toArray, List.set_cons_zero, List.set_cons_succ]
  refine wpAnyH_take (i := 27) (oi := ⟨some 41, Op.pick (Operand.tmp 33) (Operand.tmp 40) (Operand.const (Value.bool false)), 4, _, _, _⟩) (v := ?v27) rfl (by kernel_rfl) (by kernel_rfl) (by kernel_rfl) (fun _ _ _ h => h) (Or.inl ⟨by rfl, ?hy27⟩) hHeld ?rest27
  case hy27 => intro w9 hSw; go_simp; (try with_reducible rfl)
  try simp only [Act.put, List.setIfInBounds_toArray, List.set_cons_zero, List.set_cons_succ]
  refine wpAnyH_take (i := 28) (oi := ⟨some 42, Op.move (Operand.tmp 41), 4, _, _, _⟩) (v := ?v28) rfl (by kernel_rfl) (by kernel_rfl) (by kernel_rfl) (fun _ _ _ h => h) (Or.inl ⟨by rfl, ?hy28⟩) hHeld ?rest28
  case hy28 => intro w9 hSw; go_simp; (try with_reducible rfl)
  try simp only [Act.put, List.setIfInBounds_toArray, List.set_cons_zero, List.set_cons_succ]
  refine wpAnyH_take (i := 29) (oi := ⟨some 43, Op.load 26 (Operand.tmp 2), 26, _, _, _⟩) (v := ?v29) rfl (by kernel_rfl) (by kernel_rfl) (by kernel_rfl) (fun _ _ _ h => h) (Or.inl ⟨by rfl, ?hy29⟩) hHeld ?rest29
  case hy29 => intro w9 hSw; obtain ⟨d0, d1, d2, d3, d4, d5, d6⟩ := (PX.out.later (hT.trans (hSw.mono hT.size))).at0; go_simp; (try with_reducible rfl)
  try simp only [Act.put, List.setIfInBounds_toArray, List.set_cons_zero, List.set_cons_succ]
  refine wpAnyH_take (i := 30) (oi := ⟨some 44, Op.load 26 (Operand.tmp 3), 26, _, _, _⟩) (v := ?v30) rfl (by kernel_rfl) (by kernel_rfl) (by kernel_rfl) (fun _ _ _ h => h) (Or.inl ⟨by rfl, ?hy30⟩) hHeld ?rest30
  case hy30 => intro w9 hSw; obtain ⟨d0, d1, d2, d3, d4, d5, d6⟩ := (PY.out.later (hT.trans (hSw.mono hT.size))).at0; go_simp; (try with_reducible rfl)
  try simp only [Act.put, List.setIfInBounds_toArray, List.set_cons_zero, List.set_cons_succ]
  refine wpAnyH_take (i := 32) (oi := ⟨some 46, Op.load 26 (Operand.tmp 2), 26, _, _, _⟩) (v := ?v32) rfl (by kernel_rfl) (by kernel_rfl) (by kernel_rfl) (fun _ _ _ h => h) (Or.inl ⟨by rfl, ?hy32⟩) hHeld ?rest32
  case hy32 => intro w9 hSw; obtain ⟨d0, d1, d2, d3, d4, d5, d6⟩ := (PX.out.later (hT.trans (hSw.mono hT.size))).at0; go_simp; (try with_reducible rfl)
  try simp only [Act.put, List.setIfInBounds_toArray, List.set_cons_zero, List.set_cons_succ]
  refine wpAnyH_take (i := 33) (oi := ⟨some 47, Op.load 26 (Operand.tmp 3), 26, _, _, _⟩) (v := ?v33) rfl (by kernel_rfl) (by kernel_rfl) (by kernel_rfl) (fun _ _ _ h => h) (Or.inl ⟨by rfl, ?hy33⟩) hHeld ?rest33
  case hy33 => intro w9 hSw; obtain ⟨d0, d1, d2, d3, d4, d5, d6⟩ := (PY.out.later (hT.trans (hSw.mono hT.size))).at0; go_simp; (try with_reducible rfl)
  try simp only [Act.put, List.setIfInBounds_toArray, List.set_cons_zero, List.set_cons_succ]
  refine wpAnyH_ready (rs := [31]) (by kernel_rfl) (by simp) ?_
  refine AllReadyH.cons (o := ⟨some 45, Op.call { callee := Callee.value (Operand.func 17), args := #[Operand.tmp 43, Operand.tmp 44], argTypes := #[26, 26] }, 3, _, _, _⟩) rfl (fun K hK => ?_) AllReadyH.nil
  go_simp
  refine (O1.out _ (HW.out.trans (hT.mono HW.out.size))).mono ?_
  rintro e x31 ⟨rfl, hN31⟩
  go_wp2_with fail
  have hT31 : Below W.heap.size W x31 := hT.trans (hN31.mono hT.size)
  refine hK.out _ _ (hHeld.trans (hN31.mono hHeld.size)) (fun _ => held_up (S' := fun w' => Below x31.heap.size x31 w') (fun w' h' => (hHeld.trans (hN31.mono hHeld.size)).trans (h'.mono (Nat.le_trans hHeld.size hN31.size))) _ _ _ _ ?_)
  clear hK K hHeld hT
  have hT : Below W.heap.size W x31 := hT31
  have hHeld : Below x31.heap.size x31 x31 := Below.refl _ _
  clear hT31 hN31
  try simp only [Act.put, List.setIfInBounds_toArray, List.set_cons_zero, List.set_cons_succ]
  refine wpAnyH_ready (rs := [34]) (by kernel_rfl) (by simp) ?_
  refine AllReadyH.cons (o := ⟨some 48, Op.call { callee := Callee.value (Operand.func 18), args := #[Operand.tmp 46, Operand.tmp 47], argTypes := #[26, 26] }, 3, _, _, _⟩) rfl (fun K hK => ?_) AllReadyH.nil
  go_simp
  refine (O2.out _ (HW.out.trans (hT.mono HW.out.size))).mono ?_
  rintro e x34 ⟨rfl, hN34⟩
  go_wp2_with fail
  have hT34 : Below W.heap.size W x34 := hT.trans (hN34.mono hT.size)
  refine hK.out _ _ (hHeld.trans (hN34.mono hHeld.size)) (fun _ => held_up (S' := fun w' => Below x34.heap.size x34 w') (fun w' h' => (hHeld.trans (hN34.mono hHeld.size)).trans (h'.mono (Nat.le_trans hHeld.size hN34.size))) _ _ _ _ ?_)
  clear hK K hHeld hT
  have hT : Below W.heap.size W x34 := hT34
  have hHeld : Below x34.heap.size x34 x34 := Below.refl _ _
  clear hT34 hN34
  try simp only [Act.put, List.setIfInBounds_toArray, List.set_cons_zero, List.set_cons_succ]
  refine wpAnyH_take (i := 35) (oi := ⟨some 49, Op.binOp BinOp.eql 3 (Operand.tmp 45) (Operand.tmp 48) 3, 4, _, _, _⟩) (v := ?v35) rfl (by kernel_rfl) (by kernel_rfl) (by kernel_rfl) (fun _ _ _ h => h) (Or.inl ⟨by rfl, ?hy35⟩) hHeld ?rest35
  case hy35 => intro w9 hSw; go_simp; (try with_reducible rfl)
  try simp only [Act.put, List.setIfInBounds_toArray, List.set_cons_zero, List.set_cons_succ]
  refine wpAnyH_take (i := 36) (oi := ⟨some 50, Op.pick (Operand.tmp 42) (Operand.tmp 49) (Operand.const (Value.bool false)), 4, _, _, _⟩) (v := ?v36) rfl (by kernel_rfl) (by kernel_rfl) (by kernel_rfl) (fun _ _ _ h => h) (Or.inl ⟨by rfl, ?hy36⟩) hHeld ?rest36
  case hy36 => intro w9 hSw; go_simp; (try with_reducible rfl)
  try simp only [Act.put, List.setIfInBounds_toArray, List.set_cons_zero, List.set_cons_succ]
  refine wpAnyH_take (i := 37) (oi := ⟨some 51, Op.move (Operand.tmp 50), 4, _, _, _⟩) (v := ?v37) rfl (by kernel_rfl) (by kernel_rfl) (by kernel_rfl) (fun _ _ _ h => h) (Or.inl ⟨by rfl, ?hy37⟩) hHeld ?rest37
  case hy37 => intro w9 hSw; go_simp; (try with_reducible rfl)
  try simp only [Act.put, List.setIfInBounds_toArray, List.set_cons_zero, List.set_cons_succ]
  refine wpAnyH_take (i := 38) (oi := ⟨some 52, Op.load 26 (Operand.tmp 2), 26, _, _, _⟩) (v := ?v38) rfl (by kernel_rfl) (by kernel_rfl) (by kernel_rfl) (fun _ _ _ h => h) (Or.inl ⟨by rfl, ?hy38⟩) hHeld ?rest38
  case hy38 => intro w9 hSw; obtain ⟨d0, d1, d2, d3, d4, d5, d6⟩ := (PX.out.later (hT.trans (hSw.mono hT.size))).at0; go_simp; (try with_reducible rfl)
  try simp only [Act.put, List.setIfInBounds_toArray, List.set_cons_zero, List.set_cons_succ]
  refine wpAnyH_take (i := 40) (oi := ⟨some 54, Op.load 26 (Operand.tmp 2), 26, _, _, _⟩) (v := ?v40) rfl (by kernel_rfl) (by kernel_rfl) (by kernel_rfl) (fun _ _ _ h => h) (Or.inl ⟨by rfl, ?hy40⟩) hHeld ?rest40
  case hy40 => intro w9 hSw; obtain ⟨d0, d1, d2, d3, d4, d5, d6⟩ := (PX.out.later (hT.trans (hSw.mono hT.size))).at0; go_simp; (try with_reducible rfl)
  try simp only [Act.put, List.setIfInBounds_toArray, List.set_cons_zero, List.set_cons_succ]
  refine wpAnyH_ready (rs := [39]) (by kernel_rfl) (by simp) ?_
  refine AllReadyH.cons (o := ⟨some 53, Op.call { callee := Callee.value (Operand.func 20), args := #[Operand.tmp 52], argTypes := #[26] }, 35, _, _, _⟩) rfl (fun K hK => ?_) AllReadyH.nil
  go_simp
  refine (V1.out _ (HW.out.trans (hT.mono HW.out.size))).mono ?_
  rintro e x39 ⟨v39, rfl, ho39, hN39⟩
  obtain ⟨a39, cap39, rfl, hx39, -, -⟩ := own_txs ho39.out
  have HX39 : Hid (Txs x39 a39 nv (atS (varsX x))) := hx39
  clear hx39 ho39
  go_wp2_with fail
  have hT39 : Below W.heap.size W x39 := hT.trans (hN39.mono hT.size)
  refine hK.out _ _ (hHeld.trans (hN39.mono hHeld.size)) (fun _ => held_up (S' := fun w' => Below x39.heap.size x39 w') (fun w' h' => (hHeld.trans (hN39.mono hHeld.size)).trans (h'.mono (Nat.le_trans hHeld.size hN39.size))) _ _ _ _ ?_)
  clear hK K hHeld hT
  have hT : Below W.heap.size W x39 := hT39
  have hHeld : Below x39.heap.size x39 x39 := Below.refl _ _
  clear hT39 hN39
  try simp only [Act.put, List.setIfInBounds_toArray, List.set_cons_zero, List.set_cons_succ]
  refine wpAnyH_ready (rs := [41]) (by kernel_rfl) (by simp) ?_
  refine AllReadyH.cons (o := ⟨some 55, Op.call { callee := Callee.value (Operand.func 21), args := #[Operand.tmp 54], argTypes := #[26] }, 35, _, _, _⟩) rfl (fun K hK => ?_) AllReadyH.nil
  go_simp
  refine (V2.out _ (HW.out.trans (hT.mono HW.out.size))).mono ?_
  rintro e x41 ⟨v41, rfl, ho41, hN41⟩
  obtain ⟨a41, cap41, rfl, hx41, -, -⟩ := own_txs ho41.out
  have C42 : Hid (Calls Try.prog 19 #[.slice a39 nv cap39, .slice a41 nv cap41] x41 fun e w2 => e = .returned (.bool true) ∧ Below x41.heap.size x41 w2) := names_same a39 a41 nv cap39 cap41 _ x41 (HX39.out.later hN41) hx41 HNV.out
  clear hx41 ho41 HX39
  go_wp2_with fail
  have hT41 : Below W.heap.size W x41 := hT.trans (hN41.mono hT.size)
  refine hK.out _ _ (hHeld.trans (hN41.mono hHeld.size)) (fun _ => held_up (S' := fun w' => Below x41.heap.size x41 w') (fun w' h' => (hHeld.trans (hN41.mono hHeld.size)).trans (h'.mono (Nat.le_trans hHeld.size hN41.size))) _ _ _ _ ?_)
  clear hK K hHeld hT
  have hT : Below W.heap.size W x41 := hT41
  have hHeld : Below x41.heap.size x41 x41 := Below.refl _ _
  clear hT41 hN41
  try simp only [Act.put, List.setIfInBounds_toArray, List.set_cons_zero, List.set_cons_succ]
  refine wpAnyH_ready (rs := [42]) (by kernel_rfl) (by simp) ?_
  refine AllReadyH.cons (o := ⟨some 56, Op.call { callee := Callee.value (Operand.func 19), args := #[Operand.tmp 53, Operand.tmp 55], argTypes := #[35, 35] }, 4, _, _, _⟩) rfl (fun K hK => ?_) AllReadyH.nil
  go_simp
  refine (C42.out).mono ?_
  rintro e x42 ⟨rfl, hN42⟩
  go_wp2_with fail
  have hT42 : Below W.heap.size W x42 := hT.trans (hN42.mono hT.size)
  refine hK.out _ _ (hHeld.trans (hN42.mono hHeld.size)) (fun _ => held_up (S' := fun w' => Below x42.heap.size x42 w') (fun w' h' => (hHeld.trans (hN42.mono hHeld.size)).trans (h'.mono (Nat.le_trans hHeld.size hN42.size))) _ _ _ _ ?_)
  clear hK K hHeld hT
  have hT : Below W.heap.size W x42 := hT42
  have hHeld : Below x42.heap.size x42 x42 := Below.refl _ _
  clear hT42 hN42
  try simp only [Act.put, List.setIfInBounds_toArray, List.set_cons_zero, List.set_cons_succ]
  refine wpAnyH_take (i := 43) (oi := ⟨some 57, Op.pick (Operand.tmp 51) (Operand.tmp 56) (Operand.const (Value.bool false)), 4, _, _, _⟩) (v := ?v43) rfl (by kernel_rfl) (by kernel_rfl) (by kernel_rfl) (fun _ _ _ h => h) (Or.inl ⟨by rfl, ?hy43⟩) hHeld ?rest43
  case hy43 => intro w9 hSw; go_simp; (try with_reducible rfl)
  try simp only [Act.put, List.setIfInBounds_toArray, List.set_cons_zero, List.set_cons_succ]
  refine wpAnyH_take (i := 44) (oi := ⟨some 58, Op.move (Operand.tmp 57), 4, _, _, _⟩) (v := ?v44) rfl (by kernel_rfl) (by kernel_rfl) (by kernel_rfl) (fun _ _ _ h => h) (Or.inl ⟨by rfl, ?hy44⟩) hHeld ?rest44
  case hy44 => intro w9 hSw; go_simp; (try with_reducible rfl)
  try simp only [Act.put, List.setIfInBounds_toArray, List.set_cons_zero, List.set_cons_succ]
  refine wpAnyH_ready (rs := [45]) (by kernel_rfl) (by simp) ?_
  refine AllReadyH.cons (o := ⟨some 59, Op.call { callee := Callee.value (Operand.func 8), args := #[], argTypes := #[] }, 4, _, _, _⟩) rfl (fun K hK => ?_) AllReadyH.nil
  go_simp
  refine (W1.out _).mono ?_
  rintro e x45 ⟨rfl, hN45⟩
  go_wp2_with fail
  have hT45 : Below W.heap.size W x45 := hT.trans (hN45.mono hT.size)
  refine hK.out _ _ (hHeld.trans (hN45.mono hHeld.size)) (fun _ => held_up (S' := fun w' => Below x45.heap.size x45 w') (fun w' h' => (hHeld.trans (hN45.mono hHeld.size)).trans (h'.mono (Nat.le_trans hHeld.size hN45.size))) _ _ _ _ ?_)
  clear hK K hHeld hT
  have hT : Below W.heap.size W x45 := hT45
  have hHeld : Below x45.heap.size x45 x45 := Below.refl _ _
  clear hT45 hN45
  try simp only [Act.put, List.setIfInBounds_toArray, List.set_cons_zero, List.set_cons_succ]
  refine wpAnyH_take (i := 46) (oi := ⟨some 60, Op.pick (Operand.tmp 58) (Operand.tmp 59) (Operand.const (Value.bool false)), 4, _, _, _⟩) (v := ?v46) rfl (by kernel_rfl) (by kernel_rfl) (by kernel_rfl) (fun _ _ _ h => h) (Or.inl ⟨by rfl, ?hy46⟩) hHeld ?rest46
  case hy46 => intro w9 hSw; go_simp; (try with_reducible rfl)
  try simp only [Act.put, List.setIfInBounds_toArray, List.set_cons_zero, List.set_cons_succ]
  refine wpAnyH_take (i := 47) (oi := ⟨some 4, Op.assign (Operand.tmp 60), 4, _, _, _⟩) (v := ?v47) rfl (by kernel_rfl) (by kernel_rfl) (by kernel_rfl) (fun _ _ _ h => h) (Or.inl ⟨by rfl, ?hy47⟩) hHeld ?rest47
  case hy47 => intro w9 hSw; go_simp; (try with_reducible rfl)
  try simp only [Act.put, List.setIfInBounds_toArray, List.set_cons_zero, List.set_cons_succ]
  refine wpAnyH_done (by kernel_rfl) ?_ _
  refine NoPanic.normal ?_
  go_wp2
  go_ret
  exact ⟨rfl, HB.out.trans ((HW.out.trans (hT.mono HW.out.size)).mono (by omega))⟩
theorem exprTells_walk (x y : X) (w : World) (hX : IsX w x) (hY : IsX w y) (ok : XOk x) (hsm : x.size ≤ 1048576) :
    Calls Try.prog 3 #[x.val, y.val] w fun e w' => e = .returned (.bool true) ∧ Below w.heap.size w w' := by
  cases hlx : decide (szZ x ≤ 400) with
  | false => exact exprTells_nx x y w hX hlx
  | true =>
    cases hly : decide (szZ y ≤ 400) with
    | false => exact exprTells_ny x y w hX hY hlx hly
    | true => exact exprTells_yes x y w hX hY ok hsm hlx hly
end Go.Proofs.Ytbmbdiimbhfeaaa
