/-
  PatRenames' walk: a pattern with other names.
-/
import Derived.Test.YtjclelmbpmlioaaPatRefRename
import Derived.Test.YtjclelmbpmlioaaPatRefSame
import Derived.Test.YtjclelmbpmlioaaPatSize
import Derived.Deep.DeepCutAuto
namespace Go.Proofs.Ytjclelmbpmlioaa
open Go.RowKit

theorem both_sameP {d : World} {y z G : Pt} (hy : IsP d y) (hz : IsP d z) (h1 : Sm y G) (h2 : Sm z G) : Calls Try.prog 8 #[y.val, z.val] d fun e w' => e = .returned (.bool true) ∧ Below d.heap.size d w' := by
  have := refSameP_any y z d hy hz
  rw [show sameP y z = true from h1.trans h2.symm] at this
  exact this
set_option maxRecDepth 100000 in
set_option maxHeartbeats 2000000 in
theorem patRenames_no (x : Pt) (a1 a2 : Option Addr) (m1 m2 c1 c2 : Nat) (w : World) (hX : IsP w x) (hlx : decide (szP x ≤ 300) = false) :
    Calls Try.prog 3 #[x.val, .slice a1 m1 c1, .slice a2 m2 c2] w fun e w' => e = .returned (.bool true) ∧ Below w.heap.size w w' := by
  obtain ⟨A, hA, hB, hs, hn⟩ := boxP_one x w
  obtain ⟨a0, a1', a2', a3, a4', a5⟩ := hn.at0
  have HB : Hid (Below w.heap.size w A) := hB
  have L1 : Hid (Calls Try.prog 6 #[x.val] A fun e w' => e = .returned (.bool false) ∧ Below A.heap.size A w') := by have := lightP_wide x A (hX.later hB); rw [hlx] at this; exact this
  have W1 : Hid (∀ d, Calls Try.prog 7 #[] d fun e w' => e = .returned (.bool true) ∧ Below d.heap.size d w') := fun d => awake12_any d
  clear hB hn hX hlx
  go_enter Try.func3, Try.ntmps3
  go_wp2_with (first
    | (go_at_call 6; refine L1.out.mono ?_; clear L1; rintro e w1 ⟨rfl, hB1⟩)
    | (go_at_call 7; refine (W1.out _).mono ?_; clear W1; rintro e w2 ⟨rfl, hB2⟩))
  go_ret
  exact ⟨rfl, HB.out.trans ((hB1.trans (hB2.mono hB1.size)).mono (by omega))⟩
set_option maxRecDepth 100000 in
set_option maxHeartbeats 8000000 in
theorem patRenames_yes (x : Pt) (a1 a2 : Option Addr) (m1 m2 c1 c2 : Nat) (S T : Nat → ByteArray) (w : World) (hX : IsP w x) (hok : POk x) (hsm : WdP x) (hS : Txs w a1 m1 S) (hT : Txs w a2 m2 T) (hm1 : m1 ≤ 9223372036854775807) (hm2 : m2 ≤ 9223372036854775807) (hc1 : m1 ≤ c1) (hcm : c1 ≤ 9223372036854775807) (zS : ∀ j, j < m1 → (S j).size ≤ maxLen)
    (hlx : decide (szP x ≤ 300) = true) :
    Calls Try.prog 3 #[x.val, .slice a1 m1 c1, .slice a2 m2 c2] w fun e w' => e = .returned (.bool true) ∧ Below w.heap.size w w' := by
  obtain ⟨A, hA, hB, hs, hn⟩ := boxP_one x w
  obtain ⟨a0, a1', a2', a3, a4', a5⟩ := hn.at0
  have HB : Hid (Below w.heap.size w A) := hB
  have NX : Hid (NodeP A w.heap.size 0 x) := hn
  have L1 : Hid (Calls Try.prog 6 #[x.val] A fun e w' => e = .returned (.bool true) ∧ Below A.heap.size A w') := by have := lightP_wide x A (hX.later hB); rw [hlx] at this; exact this
  have W1 : Hid (∀ d, Calls Try.prog 7 #[] d fun e w' => e = .returned (.bool true) ∧ Below d.heap.size d w') := fun d => awake12_any d
  obtain ⟨G, hG⟩ : ∃ G, G = renP (nameX S T (min m1 m2)) x := ⟨_, rfl⟩
  have R1' : Hid (∀ d, Below A.heap.size A d → Calls Try.prog 9 #[x.val, .slice a1 m1 c1, .slice a2 m2 c2] d fun e w' => ∃ y : Pt, e = .returned y.val ∧ Hid (IsP w' y ∧ Sm y G) ∧ Below d.heap.size d w') := fun d h => by
    have hd := hB.trans (h.mono (by omega))
    refine (renameP_wide x a1 a2 m1 m2 c1 c2 S T d (hX.later hd) hsm hok (hS.later hd) (hT.later hd) hm1 hm2 hc1 hcm zS).mono ?_
    rintro e w' ⟨y, rfl, q1, q2, _, q3⟩
    exact ⟨y, rfl, ⟨q1.is, by rw [hG]; exact q2⟩, q3⟩
  have R2' : Hid (∀ d, Below A.heap.size A d → Calls Try.prog 10 #[x.val, .slice a1 m1 c1, .slice a2 m2 c2] d fun e w' => ∃ y : Pt, e = .returned y.val ∧ Hid (IsP w' y ∧ Sm y G) ∧ Below d.heap.size d w') := fun d h => by
    have hd := hB.trans (h.mono (by omega))
    refine (refRenameP_wide a1 a2 m1 m2 c1 c2 S T hm1 hm2 x d (hX.later hd) hsm (hS.later hd) (hT.later hd)).mono ?_
    rintro e w' ⟨y, rfl, q1, q2, _, q3⟩
    exact ⟨y, rfl, ⟨q1, by rw [hG]; exact q2⟩, q3⟩
  clear hB hn hX hlx hok hsm hS hT hm1 hm2 hc1 hcm zS hG
  go_enter Try.func3, Try.ntmps3
  go_upto_region 3 with (first
    | (go_at_call 6; refine L1.out.mono ?_; clear L1; rintro e w1 ⟨rfl, hB1⟩))
  generalize w1 = W at *
  have HW : Hid (Below A.heap.size A W) := hB1
  have PX : Hid (NodeP W w.heap.size 0 x) := NX.out.later hB1
  have R1 : Hid (∀ d, Below W.heap.size W d → Calls Try.prog 9 #[x.val, .slice a1 m1 c1, .slice a2 m2 c2] d fun e w' => ∃ y : Pt, e = .returned y.val ∧ Hid (IsP w' y ∧ Sm y G) ∧ Below d.heap.size d w') := fun d h => R1'.out d (hB1.trans (h.mono hB1.size))
  have R2 : Hid (∀ d, Below W.heap.size W d → Calls Try.prog 10 #[x.val, .slice a1 m1 c1, .slice a2 m2 c2] d fun e w' => ∃ y : Pt, e = .returned y.val ∧ Hid (IsP w' y ∧ Sm y G) ∧ Below d.heap.size d w') := fun d h => R2'.out d (hB1.trans (h.mono hB1.size))
  clear R1' R2' hB1 NX a0 a1' a2' a3 a4' a5
  refine wp_region_noPanic ?_
  refine wp_region_held_drew (S := fun w' => Below W.heap.size W w') (by kernel_rfl) ((Below.refl _ _).drew) (fun hHeld => ?_)
  have hT : Below W.heap.size W W.drew := hHeld
  obtain ⟨d, hdw⟩ : ∃ d, d = W.drew := ⟨_, rfl⟩
  rw [← hdw] at hHeld hT ⊢
  clear hdw
  refine wpAnyH_take (i := 0) (oi := ⟨some 11, Op.load 24 (Operand.tmp 3), 24, _, _, _⟩) (v := ?v0) rfl (by kernel_rfl) (by kernel_rfl) (by kernel_rfl) (fun _ _ _ h => h) (Or.inl ⟨by rfl, ?hy0⟩) hHeld ?rest0
  case hy0 => intro w9 hSw; obtain ⟨d0, d1, d2, d3, d4, d5⟩ := (PX.out.later hSw).at0; go_simp; (try with_reducible rfl)
  try simp only [Act.put, List.setIfInBounds_toArray, List.set_cons_zero, List.set_cons_succ]
  refine wpAnyH_take (i := 1) (oi := ⟨some 12, Op.move (Operand.tmp 1), 25, _, _, _⟩) (v := ?v1) rfl (by kernel_rfl) (by kernel_rfl) (by kernel_rfl) (fun _ _ _ h => h) (Or.inl ⟨by rfl, ?hy1⟩) hHeld ?rest1
  case hy1 => intro w9 hSw; go_simp; (try with_reducible rfl)
  try simp only [Act.put, List.setIfInBounds_toArray, List.set_cons_zero, List.set_cons_succ]
  refine wpAnyH_take (i := 2) (oi := ⟨some 13, Op.move (Operand.tmp 2), 25, _, _, _⟩) (v := ?v2) rfl (by kernel_rfl) (by kernel_rfl) (by kernel_rfl) (fun _ _ _ h => h) (Or.inl ⟨by rfl, ?hy2⟩) hHeld ?rest2
  case hy2 => intro w9 hSw; go_simp; (try with_reducible rfl)
  try simp only [Act.put, List.setIfInBounds_toArray, List.set_cons_zero, List.set_cons_succ]
  refine wpAnyH_take (i := 4) (oi := ⟨some 15, Op.load 24 (Operand.tmp 3), 24, _, _, _⟩) (v := ?v4) rfl (by kernel_rfl) (by kernel_rfl) (by kernel_rfl) (fun _ _ _ h => h) (Or.inl ⟨by rfl, ?hy4⟩) hHeld ?rest4
  case hy4 => intro w9 hSw; obtain ⟨d0, d1, d2, d3, d4, d5⟩ := (PX.out.later hSw).at0; go_simp; (try with_reducible rfl)
  try simp only [Act.put, List.setIfInBounds_toArray, List.set_cons_zero, List.set_cons_succ]
  refine wpAnyH_take (i := 5) (oi := ⟨some 16, Op.move (Operand.tmp 1), 25, _, _, _⟩) (v := ?v5) rfl (by kernel_rfl) (by kernel_rfl) (by kernel_rfl) (fun _ _ _ h => h) (Or.inl ⟨by rfl, ?hy5⟩) hHeld ?rest5
  case hy5 => intro w9 hSw; go_simp; (try with_reducible rfl)
  try simp only [Act.put, List.setIfInBounds_toArray, List.set_cons_zero, List.set_cons_succ]
  refine wpAnyH_take (i := 6) (oi := ⟨some 17, Op.move (Operand.tmp 2), 25, _, _, _⟩) (v := ?v6) rfl (by kernel_rfl) (by kernel_rfl) (by kernel_rfl) (fun _ _ _ h => h) (Or.inl ⟨by rfl, ?hy6⟩) hHeld ?rest6
  case hy6 => intro w9 hSw; go_simp; (try with_reducible rfl)
  try simp only [Act.put, List.setIfInBounds_toArray, List.set_cons_zero, List.set_cons_succ]
  refine wpAnyH_ready (rs := [3]) (by kernel_rfl) (by simp) ?_
  refine AllReadyH.cons (o := ⟨some 14, Op.call { callee := Callee.value (Operand.func 9), args := #[Operand.tmp 11, Operand.tmp 12, Operand.tmp 13], argTypes := #[24, 25, 25] }, 24, _, _, _⟩) rfl (fun K hK => ?_) AllReadyH.nil
  go_simp
  refine (R1.out _ hT).mono ?_
  rintro e x3 ⟨y3, rfl, h3, hN3⟩
  go_wp2_with fail
  have hT3 : Below W.heap.size W x3 := hT.trans (hN3.mono hT.size)
  refine hK.out _ _ (hHeld.trans (hN3.mono hHeld.size)) (fun _ => held_up (S' := fun w' => Below x3.heap.size x3 w') (fun w' h' => (hHeld.trans (hN3.mono hHeld.size)).trans (h'.mono (Nat.le_trans hHeld.size hN3.size))) _ _ _ _ ?_)
  clear hK K hHeld hT
  have hT : Below W.heap.size W x3 := hT3
  have hHeld : Below x3.heap.size x3 x3 := Below.refl _ _
  clear hT3 hN3
  try simp only [Act.put, List.setIfInBounds_toArray, List.set_cons_zero, List.set_cons_succ]
  refine wpAnyH_ready (rs := [7]) (by kernel_rfl) (by simp) ?_
  refine AllReadyH.cons (o := ⟨some 18, Op.call { callee := Callee.value (Operand.func 10), args := #[Operand.tmp 15, Operand.tmp 16, Operand.tmp 17], argTypes := #[24, 25, 25] }, 24, _, _, _⟩) rfl (fun K hK => ?_) AllReadyH.nil
  go_simp
  refine (R2.out _ hT).mono ?_
  rintro e x7 ⟨y7, rfl, h7, hN7⟩
  have C8 : Hid (Calls Try.prog 8 #[y3.val, y7.val] x7 fun e w2 => e = .returned (.bool true) ∧ Below x7.heap.size x7 w2) := both_sameP (h3.out.1.later hN7) h7.out.1 h3.out.2 h7.out.2
  go_wp2_with fail
  have hT7 : Below W.heap.size W x7 := hT.trans (hN7.mono hT.size)
  refine hK.out _ _ (hHeld.trans (hN7.mono hHeld.size)) (fun _ => held_up (S' := fun w' => Below x7.heap.size x7 w') (fun w' h' => (hHeld.trans (hN7.mono hHeld.size)).trans (h'.mono (Nat.le_trans hHeld.size hN7.size))) _ _ _ _ ?_)
  clear hK K hHeld hT
  have hT : Below W.heap.size W x7 := hT7
  have hHeld : Below x7.heap.size x7 x7 := Below.refl _ _
  clear hT7 hN7
  try simp only [Act.put, List.setIfInBounds_toArray, List.set_cons_zero, List.set_cons_succ]
  refine wpAnyH_ready (rs := [8]) (by kernel_rfl) (by simp) ?_
  refine AllReadyH.cons (o := ⟨some 19, Op.call { callee := Callee.value (Operand.func 8), args := #[Operand.tmp 14, Operand.tmp 18], argTypes := #[24, 24] }, 4, _, _, _⟩) rfl (fun K hK => ?_) AllReadyH.nil
  go_simp
  refine (C8.out).mono ?_
  rintro e x8 ⟨rfl, hN8⟩
  go_wp2_with fail
  have hT8 : Below W.heap.size W x8 := hT.trans (hN8.mono hT.size)
  refine hK.out _ _ (hHeld.trans (hN8.mono hHeld.size)) (fun _ => held_up (S' := fun w' => Below x8.heap.size x8 w') (fun w' h' => (hHeld.trans (hN8.mono hHeld.size)).trans (h'.mono (Nat.le_trans hHeld.size hN8.size))) _ _ _ _ ?_)
  clear hK K hHeld hT
  have hT : Below W.heap.size W x8 := hT8
  have hHeld : Below x8.heap.size x8 x8 := Below.refl _ _
  clear hT8 hN8
  try simp only [Act.put, List.setIfInBounds_toArray, List.set_cons_zero, List.set_cons_succ]
  refine wpAnyH_take (i := 9) (oi := ⟨some 20, Op.move (Operand.tmp 19), 4, _, _, _⟩) (v := ?v9) rfl (by kernel_rfl) (by kernel_rfl) (by kernel_rfl) (fun _ _ _ h => h) (Or.inl ⟨by rfl, ?hy9⟩) hHeld ?rest9
  case hy9 => intro w9 hSw; go_simp; (try with_reducible rfl)
  try simp only [Act.put, List.setIfInBounds_toArray, List.set_cons_zero, List.set_cons_succ]
  refine wpAnyH_ready (rs := [10]) (by kernel_rfl) (by simp) ?_
  refine AllReadyH.cons (o := ⟨some 21, Op.call { callee := Callee.value (Operand.func 7), args := #[], argTypes := #[] }, 4, _, _, _⟩) rfl (fun K hK => ?_) AllReadyH.nil
  go_simp
  refine (W1.out _).mono ?_
  rintro e x10 ⟨rfl, hN10⟩
  go_wp2_with fail
  have hT10 : Below W.heap.size W x10 := hT.trans (hN10.mono hT.size)
  refine hK.out _ _ (hHeld.trans (hN10.mono hHeld.size)) (fun _ => held_up (S' := fun w' => Below x10.heap.size x10 w') (fun w' h' => (hHeld.trans (hN10.mono hHeld.size)).trans (h'.mono (Nat.le_trans hHeld.size hN10.size))) _ _ _ _ ?_)
  clear hK K hHeld hT
  have hT : Below W.heap.size W x10 := hT10
  have hHeld : Below x10.heap.size x10 x10 := Below.refl _ _
  clear hT10 hN10
  try simp only [Act.put, List.setIfInBounds_toArray, List.set_cons_zero, List.set_cons_succ]
  refine wpAnyH_take (i := 11) (oi := ⟨some 22, Op.pick (Operand.tmp 20) (Operand.tmp 21) (Operand.const (Value.bool false)), 4, _, _, _⟩) (v := ?v11) rfl (by kernel_rfl) (by kernel_rfl) (by kernel_rfl) (fun _ _ _ h => h) (Or.inl ⟨by rfl, ?hy11⟩) hHeld ?rest11
  case hy11 => intro w9 hSw; go_simp; (try with_reducible rfl)
  try simp only [Act.put, List.setIfInBounds_toArray, List.set_cons_zero, List.set_cons_succ]
  refine wpAnyH_take (i := 12) (oi := ⟨some 6, Op.assign (Operand.tmp 22), 4, _, _, _⟩) (v := ?v12) rfl (by kernel_rfl) (by kernel_rfl) (by kernel_rfl) (fun _ _ _ h => h) (Or.inl ⟨by rfl, ?hy12⟩) hHeld ?rest12
  case hy12 => intro w9 hSw; go_simp; (try with_reducible rfl)
  try simp only [Act.put, List.setIfInBounds_toArray, List.set_cons_zero, List.set_cons_succ]
  refine wpAnyH_done (by kernel_rfl) ?_ _
  refine NoPanic.normal ?_
  go_wp2
  go_ret
  exact ⟨rfl, HB.out.trans ((HW.out.trans (hT.mono HW.out.size)).mono (by omega))⟩
theorem patRenames_walk (x : Pt) (a1 a2 : Option Addr) (m1 m2 c1 c2 : Nat) (S T : Nat → ByteArray) (w : World) (hX : IsP w x) (hok : POk x) (hsm : WdP x) (hS : Txs w a1 m1 S) (hT : Txs w a2 m2 T) (hm1 : m1 ≤ 9223372036854775807) (hm2 : m2 ≤ 9223372036854775807) (hc1 : m1 ≤ c1) (hcm : c1 ≤ 9223372036854775807) (zS : ∀ j, j < m1 → (S j).size ≤ maxLen) :
    Calls Try.prog 3 #[x.val, .slice a1 m1 c1, .slice a2 m2 c2] w fun e w' => e = .returned (.bool true) ∧ Below w.heap.size w w' := by
  cases hlx : decide (szP x ≤ 300) with
  | false => exact patRenames_no x a1 a2 m1 m2 c1 c2 w hX hlx
  | true => exact patRenames_yes x a1 a2 m1 m2 c1 c2 S T w hX hok hsm hS hT hm1 hm2 hc1 hcm zS hlx
end Go.Proofs.Ytjclelmbpmlioaa
