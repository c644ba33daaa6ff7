/-
  ExprMakes' walk: a condition with other names, and parts joined.
-/
import Derived.Test.YtbmbdiimbhfeaaaExprJoin
import Derived.Test.YtbmbdiimbhfeaaaExprRefOrder
import Derived.Deep.DeepCutAuto
namespace Go.Proofs.Ytbmbdiimbhfeaaa
open Go.RowKit

theorem both_same {d : World} {y z G : X} (hy : IsX d y) (hz : IsX d z) (h1 : ordX y G = 0) (h2 : ordX z G = 0) : Calls Try.prog 16 #[y.val, z.val] d fun e w' => e = .returned (.bool true) ∧ Below d.heap.size d w' := by
  have := refSame_any y z d hy hz
  rw [ordX_ztrans h1 (ordX_zsymm h2)] at this
  exact this
set_option maxRecDepth 100000 in
set_option maxHeartbeats 2000000 in
theorem exprMakes_nx (x : X) (a1 a2 a4 : Option Addr) (m1 m2 m4 c1 c2 c4 : Nat) (k : Int) (w : World) (hX : IsX w x) (hlx : decide (szZ x ≤ 400) = false) :
    Calls Try.prog 4 #[x.val, .slice a1 m1 c1, .slice a2 m2 c2, .int .i64 k, .slice a4 m4 c4] w fun e w' => e = .returned (.bool true) ∧ Below w.heap.size w w' := by
  obtain ⟨A, hA, hB, hs, hn⟩ := box_one x w
  obtain ⟨a0, a1', a2', a3, a4', a5, a6⟩ := hn.at0
  have HB : Hid (Below w.heap.size w A) := hB
  have L1 : Hid (Calls Try.prog 7 #[x.val] A fun e w' => e = .returned (.bool false) ∧ Below A.heap.size A w') := by have := light_any x A (hX.later hB); rw [hlx] at this; exact this
  have W1 : Hid (∀ d, Calls Try.prog 8 #[] d fun e w' => e = .returned (.bool true) ∧ Below d.heap.size d w') := fun d => awake_any d
  clear hB hn hX hlx
  go_enter Try.func4, Try.ntmps4
  go_wp2_with (first
    | (go_at_call 7; refine L1.out.mono ?_; clear L1; rintro e w1 ⟨rfl, hB1⟩)
    | (go_at_call 8; refine (W1.out _).mono ?_; clear W1; rintro e w2 ⟨rfl, hB2⟩))
  go_ret
  exact ⟨rfl, HB.out.trans ((hB1.trans (hB2.mono hB1.size)).mono (by omega))⟩
set_option maxRecDepth 100000 in
set_option maxHeartbeats 2000000 in
theorem exprMakes_long (x : X) (a1 a2 a4 : Option Addr) (m1 m2 m4 c1 c2 c4 : Nat) (k : Int) (w : World) (hX : IsX w x) (hlx : decide (szZ x ≤ 400) = true) (hl : 30 < m4) :
    Calls Try.prog 4 #[x.val, .slice a1 m1 c1, .slice a2 m2 c2, .int .i64 k, .slice a4 m4 c4] w fun e w' => e = .returned (.bool true) ∧ Below w.heap.size w w' := by
  obtain ⟨A, hA, hB, hs, hn⟩ := box_one x w
  obtain ⟨a0, a1', a2', a3, a4', a5, a6⟩ := hn.at0
  have HB : Hid (Below w.heap.size w A) := hB
  have L1 : Hid (Calls Try.prog 7 #[x.val] A fun e w' => e = .returned (.bool true) ∧ Below A.heap.size A w') := by have := light_any x A (hX.later hB); rw [hlx] at this; exact this
  have W1 : Hid (∀ d, Calls Try.prog 8 #[] d fun e w' => e = .returned (.bool true) ∧ Below d.heap.size d w') := fun d => awake_any d
  have hl' : (30 : Int) < (m4 : Int) := by omega
  clear hB hn hX hlx hl
  go_enter Try.func4, Try.ntmps4
  go_wp2_with (first
    | (go_at_call 7; refine L1.out.mono ?_; clear L1; rintro e w1 ⟨rfl, hB1⟩)
    | (go_at_call 8; refine (W1.out _).mono ?_; clear W1; rintro e w2 ⟨rfl, hB2⟩))
  go_ret
  exact ⟨rfl, HB.out.trans ((hB1.trans (hB2.mono hB1.size)).mono (by omega))⟩
set_option maxRecDepth 100000 in
set_option maxHeartbeats 4000000 in
theorem exprMakes_ny (x : X) (a1 a2 a4 : Option Addr) (m1 m2 m4 c1 c2 c4 : Nat) (k : Int) (c : Nat → X) (w : World) (hX : IsX w x) (hL : IsX w (X.all a4 m4 c4 c)) (hlx : decide (szZ x ≤ 400) = true) (hl : ¬ 30 < m4) (p : Nat) (hp : p < m4) (hpn : decide (szZ (c p) ≤ 400) = false) (hpy : ∀ j, j < p → decide (szZ (c j) ≤ 400) = true) :
    Calls Try.prog 4 #[x.val, .slice a1 m1 c1, .slice a2 m2 c2, .int .i64 k, .slice a4 m4 c4] w fun e w' => e = .returned (.bool true) ∧ Below w.heap.size w w' := by
  obtain ⟨A, hA, hB, hs, hn⟩ := box_one x w
  obtain ⟨a0, a1', a2', a3, a4', a5, a6⟩ := hn.at0
  have HB : Hid (Below w.heap.size w A) := hB
  have L1 : Hid (Calls Try.prog 7 #[x.val] A fun e w' => e = .returned (.bool true) ∧ Below A.heap.size A w') := by have := light_any x A (hX.later hB); rw [hlx] at this; exact this
  have L2 : Hid (∀ j d, j < m4 → IsX d (c j) → Calls Try.prog 7 #[(c j).val] d fun e w' => e = .returned (.bool (decide (szZ (c j) ≤ 400))) ∧ Below d.heap.size d w') := fun j d _ h => light_any (c j) d h
  have W1 : Hid (∀ d, Calls Try.prog 8 #[] d fun e w' => e = .returned (.bool true) ∧ Below d.heap.size d w') := fun d => awake_any d
  have hl' : ¬ (30 : Int) < (m4 : Int) := by omega
  have hm4 : m4 ≤ 30 := by omega
  have HX : Hid (IsX A (X.all a4 m4 c4 c)) := hL.later hB
  have HP : Hid (p < m4) := hp
  have HPN : Hid (decide (szZ (c p) ≤ 400) = false) := hpn
  have HPY : Hid (∀ j, j < p → decide (szZ (c j) ≤ 400) = true) := hpy
  clear hB hn hX hlx hl hL hp hpn hpy
  go_enter Try.func4, Try.ntmps4
  go_wp2_with (first
    | (go_at_call 7; refine L1.out.mono ?_; clear L1; rintro e w1 ⟨rfl, hB1⟩))
  have HB1 : Hid (Below A.heap.size A w1) := hB1
  clear hB1 a0 a1' a2' a3 a4' a5 a6
  go_loopw [11] (fun i wr => ∃ q : Nat, q ≤ p ∧ i = .int .i64 q ∧ Below A.heap.size A wr) (fun i _ => p - (intOf i).toNat)
  case atStart => exact ⟨0, Nat.zero_le _, rfl, HB1.out⟩
  case round =>
    obtain ⟨q, hq, rfl, hBr⟩ := hrel
    have hqm : q < m4 := by have := HP.out; omega
    obtain ⟨b, o, ea, hn, hx⟩ := (HX.out.later hBr).part hqm
    have ea' : a4 = some ⟨b, o, none⟩ := ea
    subst ea'
    have hn' : Node wr b (o + q * 7) (c q) := hn
    have hx' : IsX wr (c q) := hx
    obtain ⟨d0, d1, d2, d3, d4, d5, d6⟩ := hn'
    have lq := L2.out q wr hqm hx'
    have HQM : Hid (q < m4) := hqm
    by_cases hqp : q = p
    · have hf : decide (szZ (c q) ≤ 400) = false := by rw [hqp]; exact HPN.out
      rw [hf] at lq
      have HQP : Hid (q = p) := hqp
      clear ea hn hx hx' hf hqp
      go_wp2_with (first
        | (go_at_call 7; refine lq.mono ?_; clear lq; rintro e w3 ⟨rfl, hB3⟩)
        | (go_at_call 8; refine (W1.out _).mono ?_; clear W1; rintro e w4 ⟨rfl, hB4⟩))
      go_ret
      have h34 := hB3.trans (hB4.mono hB3.size)
      exact ⟨rfl, HB.out.trans ((hBr.trans (h34.mono hBr.size)).mono (by omega))⟩
    · rw [HPY.out q (by omega)] at lq
      have HQP : Hid (¬ q = p) := hqp
      clear ea hn hx hx' hqp
      go_wp2_with (first
        | (go_at_call 7; refine lq.mono ?_; clear lq; rintro e w3 ⟨rfl, hB3⟩))
      go_roundw
      case rel => exact ⟨q + 1, by have := HQP.out; omega, by go_num, hBr.trans (hB3.mono hBr.size)⟩
      case measure => have := HQP.out; simp [intOf]; omega
set_option maxRecDepth 100000 in
set_option maxHeartbeats 8000000 in
theorem exprMakes_yes (x : X) (a1 a2 a4 : Option Addr) (m1 m2 m4 c1 c2 c4 : Nat) (S T : Nat → ByteArray) (k : Int) (c : Nat → X) (w : World) (hX : IsX w x) (hok : XOk x) (hsm : x.size ≤ 1048576) (hS : Txs w a1 m1 S) (hT : Txs w a2 m2 T) (hm1 : m1 ≤ 1048576) (hm2 : m2 ≤ 1048576) (hc1 : m1 ≤ c1) (hcm : c1 ≤ 9223372036854775807) (zS : ∀ j, j < m1 → (S j).size ≤ maxLen)
    (hL : IsX w (X.all a4 m4 c4 c)) (hLs : (X.all a4 m4 c4 c).size ≤ 1048576) (hlx : decide (szZ x ≤ 400) = true) (hl : ¬ 30 < m4) (hpy : ∀ j, j < m4 → decide (szZ (c j) ≤ 400) = true) :
    Calls Try.prog 4 #[x.val, .slice a1 m1 c1, .slice a2 m2 c2, .int .i64 k, .slice a4 m4 c4] w fun e w' => e = .returned (.bool true) ∧ Below w.heap.size w w' := by
  obtain ⟨A, hA, hB, hs, hn⟩ := box_one x w
  obtain ⟨a0, a1', a2', a3, a4', a5, a6⟩ := hn.at0
  have HB : Hid (Below w.heap.size w A) := hB
  have NX : Hid (Node A w.heap.size 0 x) := hn
  have L1 : Hid (Calls Try.prog 7 #[x.val] A fun e w' => e = .returned (.bool true) ∧ Below A.heap.size A w') := by have := light_any x A (hX.later hB); rw [hlx] at this; exact this
  have L2 : Hid (∀ j d, j < m4 → IsX d (c j) → Calls Try.prog 7 #[(c j).val] d fun e w' => e = .returned (.bool true) ∧ Below d.heap.size d w') := fun j d hj h => by have := light_any (c j) d h; rw [hpy j hj] at this; exact this
  have W1 : Hid (∀ d, Calls Try.prog 8 #[] d fun e w' => e = .returned (.bool true) ∧ Below d.heap.size d w') := fun d => awake_any d
  obtain ⟨G, hG⟩ : ∃ G, G = renX (nameX S T (min m1 m2)) x := ⟨_, rfl⟩
  obtain ⟨J, hJ⟩ : ∃ J, J = joinZ k c m4 := ⟨_, rfl⟩
  have R1 : Hid (∀ d, Below A.heap.size A d → Calls Try.prog 22 #[x.val, .slice a1 m1 c1, .slice a2 m2 c2] d fun e w' => ∃ y : X, e = .returned y.val ∧ Hid (IsX w' y ∧ ordX y G = 0) ∧ Below d.heap.size d w') := fun d h => by
    have hd := hB.trans (h.mono (by omega))
    refine (rename_any x a1 a2 m1 m2 c1 c2 S T d (hX.later hd) hsm hok (hS.later hd) (hT.later hd) hm1 hm2 hc1 hcm zS).mono ?_
    rintro e w' ⟨y, rfl, q1, q2, q3⟩
    exact ⟨y, rfl, ⟨q1.is, by rw [hG]; exact q2⟩, q3⟩
  have R2 : Hid (∀ d, Below A.heap.size A d → Calls Try.prog 23 #[x.val, .slice a1 m1 c1, .slice a2 m2 c2] d fun e w' => ∃ y : X, e = .returned y.val ∧ Hid (IsX w' y ∧ ordX y G = 0) ∧ Below d.heap.size d w') := fun d h => by
    have hd := hB.trans (h.mono (by omega))
    refine (refRename_any a1 a2 m1 m2 c1 c2 S T hm1 hm2 x d (hX.later hd) hsm (hS.later hd) (hT.later hd)).mono ?_
    rintro e w' ⟨y, rfl, q1, q2, _, q3⟩
    exact ⟨y, rfl, ⟨q1, by rw [hG]; exact q2⟩, q3⟩
  have J1 : Hid (∀ d, Below A.heap.size A d → Calls Try.prog 24 #[.int .i64 k, .slice a4 m4 c4] d fun e w' => ∃ y : X, e = .returned y.val ∧ Hid (IsX w' y ∧ ordX y J = 0) ∧ Below d.heap.size d w') := fun d h => by
    have hd := hB.trans (h.mono (by omega))
    refine (join_any k a4 m4 c4 c d (hL.later hd) hLs).mono ?_
    rintro e w' ⟨y, rfl, q1, q2, q3⟩
    exact ⟨y, rfl, ⟨q1, by rw [hJ]; exact q2⟩, q3⟩
  have J2 : Hid (∀ d, Below A.heap.size A d → Calls Try.prog 25 #[.int .i64 k, .slice a4 m4 c4] d fun e w' => ∃ y : X, e = .returned y.val ∧ Hid (IsX w' y ∧ ordX y J = 0) ∧ Below d.heap.size d w') := fun d h => by
    have hd := hB.trans (h.mono (by omega))
    refine (refJoin_any k a4 m4 c4 c d (hL.later hd) hLs).mono ?_
    rintro e w' ⟨y, rfl, q1, q2, q3⟩
    exact ⟨y, rfl, ⟨q1, by rw [hJ]; exact q2⟩, q3⟩
  have hl' : ¬ (30 : Int) < (m4 : Int) := by omega
  have hm4 : m4 ≤ 30 := by omega
  have HX : Hid (IsX A (X.all a4 m4 c4 c)) := hL.later hB
  clear hB hn hX hlx hl hL hLs hpy hok hsm hS hT hm1 hm2 hc1 hcm zS hG hJ
  go_enter Try.func4, Try.ntmps4
  go_wp2_with (first
    | (go_at_call 7; refine L1.out.mono ?_; clear L1; rintro e w1 ⟨rfl, hB1⟩))
  have HB1 : Hid (Below A.heap.size A w1) := hB1
  clear hB1 a0 a1' a2' a3 a4' a5 a6
  go_loopw [11] (fun i wr => ∃ q : Nat, q ≤ m4 ∧ i = .int .i64 q ∧ Below A.heap.size A wr) (fun i _ => m4 - (intOf i).toNat)
  case atStart => exact ⟨0, Nat.zero_le _, rfl, HB1.out⟩
  case round =>
    obtain ⟨q, hq, rfl, hBr⟩ := hrel
    by_cases hqm : q < m4
    · obtain ⟨b, o, ea, hn, hx⟩ := (HX.out.later hBr).part hqm
      have ea' : a4 = some ⟨b, o, none⟩ := ea
      subst ea'
      have hn' : Node wr b (o + q * 7) (c q) := hn
      have hx' : IsX wr (c q) := hx
      obtain ⟨d0, d1, d2, d3, d4, d5, d6⟩ := hn'
      have lq := L2.out q wr hqm hx'
      have HQM : Hid (q < m4) := hqm
      clear ea hn hx hx'
      go_wp2_with (first
        | (go_at_call 7; refine lq.mono ?_; clear lq; rintro e w3 ⟨rfl, hB3⟩))
      go_roundw
      case rel => exact ⟨q + 1, HQM.out, by go_num, hBr.trans (hB3.mono hBr.size)⟩
      case measure => have := HQM.out; simp [intOf]; omega
    · obtain rfl : q = m4 := by omega
      generalize wr = W at *
      have HW : Hid (Below A.heap.size A W) := hBr
      have PX : Hid (Node W w.heap.size 0 x) := NX.out.later hBr
      have R1' : Hid (∀ d, Below W.heap.size W d → Calls Try.prog 22 #[x.val, .slice a1 m1 c1, .slice a2 m2 c2] d fun e w' => ∃ y : X, e = .returned y.val ∧ Hid (IsX w' y ∧ ordX y G = 0) ∧ Below d.heap.size d w') := fun d h => R1.out d (hBr.trans (h.mono hBr.size))
      have R2' : Hid (∀ d, Below W.heap.size W d → Calls Try.prog 23 #[x.val, .slice a1 m1 c1, .slice a2 m2 c2] d fun e w' => ∃ y : X, e = .returned y.val ∧ Hid (IsX w' y ∧ ordX y G = 0) ∧ Below d.heap.size d w') := fun d h => R2.out d (hBr.trans (h.mono hBr.size))
      have J1' : Hid (∀ d, Below W.heap.size W d → Calls Try.prog 24 #[.int .i64 k, .slice a4 q c4] d fun e w' => ∃ y : X, e = .returned y.val ∧ Hid (IsX w' y ∧ ordX y J = 0) ∧ Below d.heap.size d w') := fun d h => J1.out d (hBr.trans (h.mono hBr.size))
      have J2' : Hid (∀ d, Below W.heap.size W d → Calls Try.prog 25 #[.int .i64 k, .slice a4 q c4] d fun e w' => ∃ y : X, e = .returned y.val ∧ Hid (IsX w' y ∧ ordX y J = 0) ∧ Below d.heap.size d w') := fun d h => J2.out d (hBr.trans (h.mono hBr.size))
      clear R1 R2 J1 J2 hBr hqm hq HX L2 NX
      go_wp2
      refine wp_region_noPanic ?_
      refine wp_region_held_drew (S := fun w' => Below W.heap.size W w') (by kernel_rfl) ((Below.refl _ _).drew) (fun hHeld => ?_)
      have hT : Below W.heap.size W W.drew := hHeld
      obtain ⟨d, hdw⟩ : ∃ d, d = W.drew := ⟨_, rfl⟩
      rw [← hdw] at hHeld hT ⊢
      clear hdw
      refine wpAnyH_take (i := 0) (oi := ⟨some 34, Op.load 26 (Operand.tmp 5), 26, _, _, _⟩) (v := ?v0) rfl (by kernel_rfl) (by kernel_rfl) (by kernel_rfl) (fun _ _ _ h => h) (Or.inl ⟨by rfl, ?hy0⟩) hHeld ?rest0
      case hy0 => intro w9 hSw; obtain ⟨d0, d1, d2, d3, d4, d5, d6⟩ := (PX.out.later hSw).at0; go_simp; (try with_reducible rfl)
      try simp only [Act.put, List.setIfInBounds_toArray, List.set_cons_zero, List.set_cons_succ]
      refine wpAnyH_take (i := 1) (oi := ⟨some 35, Op.move (Operand.tmp 1), 35, _, _, _⟩) (v := ?v1) rfl (by kernel_rfl) (by kernel_rfl) (by kernel_rfl) (fun _ _ _ h => h) (Or.inl ⟨by rfl, ?hy1⟩) hHeld ?rest1
      case hy1 => intro w9 hSw; go_simp; (try with_reducible rfl)
      try simp only [Act.put, List.setIfInBounds_toArray, List.set_cons_zero, List.set_cons_succ]
      refine wpAnyH_take (i := 2) (oi := ⟨some 36, Op.move (Operand.tmp 2), 35, _, _, _⟩) (v := ?v2) rfl (by kernel_rfl) (by kernel_rfl) (by kernel_rfl) (fun _ _ _ h => h) (Or.inl ⟨by rfl, ?hy2⟩) hHeld ?rest2
      case hy2 => intro w9 hSw; go_simp; (try with_reducible rfl)
      try simp only [Act.put, List.setIfInBounds_toArray, List.set_cons_zero, List.set_cons_succ]
      refine wpAnyH_take (i := 4) (oi := ⟨some 38, Op.load 26 (Operand.tmp 5), 26, _, _, _⟩) (v := ?v4) rfl (by kernel_rfl) (by kernel_rfl) (by kernel_rfl) (fun _ _ _ h => h) (Or.inl ⟨by rfl, ?hy4⟩) hHeld ?rest4
      case hy4 => intro w9 hSw; obtain ⟨d0, d1, d2, d3, d4, d5, d6⟩ := (PX.out.later hSw).at0; go_simp; (try with_reducible rfl)
      try simp only [Act.put, List.setIfInBounds_toArray, List.set_cons_zero, List.set_cons_succ]
      refine wpAnyH_take (i := 5) (oi := ⟨some 39, Op.move (Operand.tmp 1), 35, _, _, _⟩) (v := ?v5) rfl (by kernel_rfl) (by kernel_rfl) (by kernel_rfl) (fun _ _ _ h => h) (Or.inl ⟨by rfl, ?hy5⟩) hHeld ?rest5
      case hy5 => intro w9 hSw; go_simp; (try with_reducible rfl)
      try simp only [Act.put, List.setIfInBounds_toArray, List.set_cons_zero, List.set_cons_succ]
      refine wpAnyH_take (i := 6) (oi := ⟨some 40, Op.move (Operand.tmp 2), 35, _, _, _⟩) (v := ?v6) rfl (by kernel_rfl) (by kernel_rfl) (by kernel_rfl) (fun _ _ _ h => h) (Or.inl ⟨by rfl, ?hy6⟩) hHeld ?rest6
      case hy6 => intro w9 hSw; go_simp; (try with_reducible rfl)
      try simp only [Act.put, List.setIfInBounds_toArray, List.set_cons_zero, List.set_cons_succ]
      refine wpAnyH_ready (rs := [3]) (by kernel_rfl) (by simp) ?_
      refine AllReadyH.cons (o := ⟨some 37, Op.call { callee := Callee.value (Operand.func 22), args := #[Operand.tmp 34, Operand.tmp 35, Operand.tmp 36], argTypes := #[26, 35, 35] }, 26, _, _, _⟩) rfl (fun K hK => ?_) AllReadyH.nil
      go_simp
      refine (R1'.out _ hT).mono ?_
      rintro e x3 ⟨y3, rfl, h3, hN3⟩
      go_wp2_with fail
      have hT3 : Below W.heap.size W x3 := hT.trans (hN3.mono hT.size)
      refine hK.out _ _ (hHeld.trans (hN3.mono hHeld.size)) (fun _ => held_up (S' := fun w' => Below x3.heap.size x3 w') (fun w' h' => (hHeld.trans (hN3.mono hHeld.size)).trans (h'.mono (Nat.le_trans hHeld.size hN3.size))) _ _ _ _ ?_)
      clear hK K hHeld hT
      have hT : Below W.heap.size W x3 := hT3
      have hHeld : Below x3.heap.size x3 x3 := Below.refl _ _
      clear hT3 hN3
      try simp only [Act.put, List.setIfInBounds_toArray, List.set_cons_zero, List.set_cons_succ]
      refine wpAnyH_ready (rs := [7]) (by kernel_rfl) (by simp) ?_
      refine AllReadyH.cons (o := ⟨some 41, Op.call { callee := Callee.value (Operand.func 23), args := #[Operand.tmp 38, Operand.tmp 39, Operand.tmp 40], argTypes := #[26, 35, 35] }, 26, _, _, _⟩) rfl (fun K hK => ?_) AllReadyH.nil
      go_simp
      refine (R2'.out _ hT).mono ?_
      rintro e x7 ⟨y7, rfl, h7, hN7⟩
      have C8 : Hid (Calls Try.prog 16 #[y3.val, y7.val] x7 fun e w2 => e = .returned (.bool true) ∧ Below x7.heap.size x7 w2) := both_same (h3.out.1.later hN7) h7.out.1 h3.out.2 h7.out.2
      go_wp2_with fail
      have hT7 : Below W.heap.size W x7 := hT.trans (hN7.mono hT.size)
      refine hK.out _ _ (hHeld.trans (hN7.mono hHeld.size)) (fun _ => held_up (S' := fun w' => Below x7.heap.size x7 w') (fun w' h' => (hHeld.trans (hN7.mono hHeld.size)).trans (h'.mono (Nat.le_trans hHeld.size hN7.size))) _ _ _ _ ?_)
      clear hK K hHeld hT
      have hT : Below W.heap.size W x7 := hT7
      have hHeld : Below x7.heap.size x7 x7 := Below.refl _ _
      clear hT7 hN7
      try simp only [Act.put, List.setIfInBounds_toArray, List.set_cons_zero, List.set_cons_succ]
      refine wpAnyH_ready (rs := [8]) (by kernel_rfl) (by simp) ?_
      refine AllReadyH.cons (o := ⟨some 42, Op.call { callee := Callee.value (Operand.func 16), args := #[Operand.tmp 37, Operand.tmp 41], argTypes := #[26, 26] }, 4, _, _, _⟩) rfl (fun K hK => ?_) AllReadyH.nil
      go_simp
      refine (C8.out).mono ?_
      rintro e x8 ⟨rfl, hN8⟩
      go_wp2_with fail
      have hT8 : Below W.heap.size W x8 := hT.trans (hN8.mono hT.size)
      refine hK.out _ _ (hHeld.trans (hN8.mono hHeld.size)) (fun _ => held_up (S' := fun w' => Below x8.heap.size x8 w') (fun w' h' => (hHeld.trans (hN8.mono hHeld.size)).trans (h'.mono (Nat.le_trans hHeld.size hN8.size))) _ _ _ _ ?_)
      clear hK K hHeld hT
      have hT : Below W.heap.size W x8 := hT8
      have hHeld : Below x8.heap.size x8 x8 := Below.refl _ _
      clear hT8 hN8
      try simp only [Act.put, List.setIfInBounds_toArray, List.set_cons_zero, List.set_cons_succ]
      refine wpAnyH_take (i := 9) (oi := ⟨some 43, Op.move (Operand.tmp 42), 4, _, _, _⟩) (v := ?v9) rfl (by kernel_rfl) (by kernel_rfl) (by kernel_rfl) (fun _ _ _ h => h) (Or.inl ⟨by rfl, ?hy9⟩) hHeld ?rest9
      case hy9 => intro w9 hSw; go_simp; (try with_reducible rfl)
      try simp only [Act.put, List.setIfInBounds_toArray, List.set_cons_zero, List.set_cons_succ]
      refine wpAnyH_take (i := 10) (oi := ⟨some 44, Op.move (Operand.tmp 3), 3, _, _, _⟩) (v := ?v10) rfl (by kernel_rfl) (by kernel_rfl) (by kernel_rfl) (fun _ _ _ h => h) (Or.inl ⟨by rfl, ?hy10⟩) hHeld ?rest10
      case hy10 => intro w9 hSw; go_simp; (try with_reducible rfl)
      try simp only [Act.put, List.setIfInBounds_toArray, List.set_cons_zero, List.set_cons_succ]
      refine wpAnyH_take (i := 11) (oi := ⟨some 45, Op.move (Operand.tmp 4), 24, _, _, _⟩) (v := ?v11) rfl (by kernel_rfl) (by kernel_rfl) (by kernel_rfl) (fun _ _ _ h => h) (Or.inl ⟨by rfl, ?hy11⟩) hHeld ?rest11
      case hy11 => intro w9 hSw; go_simp; (try with_reducible rfl)
      try simp only [Act.put, List.setIfInBounds_toArray, List.set_cons_zero, List.set_cons_succ]
      refine wpAnyH_take (i := 13) (oi := ⟨some 47, Op.move (Operand.tmp 3), 3, _, _, _⟩) (v := ?v13) rfl (by kernel_rfl) (by kernel_rfl) (by kernel_rfl) (fun _ _ _ h => h) (Or.inl ⟨by rfl, ?hy13⟩) hHeld ?rest13
      case hy13 => intro w9 hSw; go_simp; (try with_reducible rfl)
      try simp only [Act.put, List.setIfInBounds_toArray, List.set_cons_zero, List.set_cons_succ]
      refine wpAnyH_take (i := 14) (oi := ⟨some 48, Op.move (Operand.tmp 4), 24, _, _, _⟩) (v := ?v14) rfl (by kernel_rfl) (by kernel_rfl) (by kernel_rfl) (fun _ _ _ h => h) (Or.inl ⟨by rfl, ?hy14⟩) hHeld ?rest14
      case hy14 => intro w9 hSw; go_simp; (try with_reducible rfl)
      try simp only [Act.put, List.setIfInBounds_toArray, List.set_cons_zero, List.set_cons_succ]
      refine wpAnyH_ready (rs := [12]) (by kernel_rfl) (by simp) ?_
      refine AllReadyH.cons (o := ⟨some 46, Op.call { callee := Callee.value (Operand.func 24), args := #[Operand.tmp 44, Operand.tmp 45], argTypes := #[3, 24] }, 26, _, _, _⟩) rfl (fun K hK => ?_) AllReadyH.nil
      go_simp
      refine (J1'.out _ hT).mono ?_
      rintro e x12 ⟨y12, rfl, h12, hN12⟩
      go_wp2_with fail
      have hT12 : Below W.heap.size W x12 := hT.trans (hN12.mono hT.size)
      refine hK.out _ _ (hHeld.trans (hN12.mono hHeld.size)) (fun _ => held_up (S' := fun w' => Below x12.heap.size x12 w') (fun w' h' => (hHeld.trans (hN12.mono hHeld.size)).trans (h'.mono (Nat.le_trans hHeld.size hN12.size))) _ _ _ _ ?_)
      clear hK K hHeld hT
      have hT : Below W.heap.size W x12 := hT12
      have hHeld : Below x12.heap.size x12 x12 := Below.refl _ _
      clear hT12 hN12
      try simp only [Act.put, List.setIfInBounds_toArray, List.set_cons_zero, List.set_cons_succ]
      refine wpAnyH_ready (rs := [15]) (by kernel_rfl) (by simp) ?_
      refine AllReadyH.cons (o := ⟨some 49, Op.call { callee := Callee.value (Operand.func 25), args := #[Operand.tmp 47, Operand.tmp 48], argTypes := #[3, 24] }, 26, _, _, _⟩) rfl (fun K hK => ?_) AllReadyH.nil
      go_simp
      refine (J2'.out _ hT).mono ?_
      rintro e x15 ⟨y15, rfl, h15, hN15⟩
      have C16 : Hid (Calls Try.prog 16 #[y12.val, y15.val] x15 fun e w2 => e = .returned (.bool true) ∧ Below x15.heap.size x15 w2) := both_same (h12.out.1.later hN15) h15.out.1 h12.out.2 h15.out.2
      go_wp2_with fail
      have hT15 : Below W.heap.size W x15 := hT.trans (hN15.mono hT.size)
      refine hK.out _ _ (hHeld.trans (hN15.mono hHeld.size)) (fun _ => held_up (S' := fun w' => Below x15.heap.size x15 w') (fun w' h' => (hHeld.trans (hN15.mono hHeld.size)).trans (h'.mono (Nat.le_trans hHeld.size hN15.size))) _ _ _ _ ?_)
      clear hK K hHeld hT
      have hT : Below W.heap.size W x15 := hT15
      have hHeld : Below x15.heap.size x15 x15 := Below.refl _ _
      clear hT15 hN15
      try simp only [Act.put, List.setIfInBounds_toArray, List.set_cons_zero, List.set_cons_succ]
      refine wpAnyH_ready (rs := [16]) (by kernel_rfl) (by simp) ?_
      refine AllReadyH.cons (o := ⟨some 50, Op.call { callee := Callee.value (Operand.func 16), args := #[Operand.tmp 46, Operand.tmp 49], argTypes := #[26, 26] }, 4, _, _, _⟩) rfl (fun K hK => ?_) AllReadyH.nil
      go_simp
      refine (C16.out).mono ?_
      rintro e x16 ⟨rfl, hN16⟩
      go_wp2_with fail
      have hT16 : Below W.heap.size W x16 := hT.trans (hN16.mono hT.size)
      refine hK.out _ _ (hHeld.trans (hN16.mono hHeld.size)) (fun _ => held_up (S' := fun w' => Below x16.heap.size x16 w') (fun w' h' => (hHeld.trans (hN16.mono hHeld.size)).trans (h'.mono (Nat.le_trans hHeld.size hN16.size))) _ _ _ _ ?_)
      clear hK K hHeld hT
      have hT : Below W.heap.size W x16 := hT16
      have hHeld : Below x16.heap.size x16 x16 := Below.refl _ _
      clear hT16 hN16
      try simp only [Act.put, List.setIfInBounds_toArray, List.set_cons_zero, List.set_cons_succ]
      refine wpAnyH_take (i := 17) (oi := ⟨some 51, Op.pick (Operand.tmp 43) (Operand.tmp 50) (Operand.const (Value.bool false)), 4, _, _, _⟩) (v := ?v17) rfl (by kernel_rfl) (by kernel_rfl) (by kernel_rfl) (fun _ _ _ h => h) (Or.inl ⟨by rfl, ?hy17⟩) hHeld ?rest17
      case hy17 => intro w9 hSw; go_simp; (try with_reducible rfl)
      try simp only [Act.put, List.setIfInBounds_toArray, List.set_cons_zero, List.set_cons_succ]
      refine wpAnyH_take (i := 18) (oi := ⟨some 52, Op.move (Operand.tmp 51), 4, _, _, _⟩) (v := ?v18) rfl (by kernel_rfl) (by kernel_rfl) (by kernel_rfl) (fun _ _ _ h => h) (Or.inl ⟨by rfl, ?hy18⟩) hHeld ?rest18
      case hy18 => intro w9 hSw; go_simp; (try with_reducible rfl)
      try simp only [Act.put, List.setIfInBounds_toArray, List.set_cons_zero, List.set_cons_succ]
      refine wpAnyH_ready (rs := [19]) (by kernel_rfl) (by simp) ?_
      refine AllReadyH.cons (o := ⟨some 53, Op.call { callee := Callee.value (Operand.func 8), args := #[], argTypes := #[] }, 4, _, _, _⟩) rfl (fun K hK => ?_) AllReadyH.nil
      go_simp
      refine (W1.out _).mono ?_
      rintro e x19 ⟨rfl, hN19⟩
      go_wp2_with fail
      have hT19 : Below W.heap.size W x19 := hT.trans (hN19.mono hT.size)
      refine hK.out _ _ (hHeld.trans (hN19.mono hHeld.size)) (fun _ => held_up (S' := fun w' => Below x19.heap.size x19 w') (fun w' h' => (hHeld.trans (hN19.mono hHeld.size)).trans (h'.mono (Nat.le_trans hHeld.size hN19.size))) _ _ _ _ ?_)
      clear hK K hHeld hT
      have hT : Below W.heap.size W x19 := hT19
      have hHeld : Below x19.heap.size x19 x19 := Below.refl _ _
      clear hT19 hN19
      try simp only [Act.put, List.setIfInBounds_toArray, List.set_cons_zero, List.set_cons_succ]
      refine wpAnyH_take (i := 20) (oi := ⟨some 54, Op.pick (Operand.tmp 52) (Operand.tmp 53) (Operand.const (Value.bool false)), 4, _, _, _⟩) (v := ?v20) rfl (by kernel_rfl) (by kernel_rfl) (by kernel_rfl) (fun _ _ _ h => h) (Or.inl ⟨by rfl, ?hy20⟩) hHeld ?rest20
      case hy20 => intro w9 hSw; go_simp; (try with_reducible rfl)
      try simp only [Act.put, List.setIfInBounds_toArray, List.set_cons_zero, List.set_cons_succ]
      refine wpAnyH_take (i := 21) (oi := ⟨some 10, Op.assign (Operand.tmp 54), 4, _, _, _⟩) (v := ?v21) rfl (by kernel_rfl) (by kernel_rfl) (by kernel_rfl) (fun _ _ _ h => h) (Or.inl ⟨by rfl, ?hy21⟩) hHeld ?rest21
      case hy21 => intro w9 hSw; go_simp; (try with_reducible rfl)
      try simp only [Act.put, List.setIfInBounds_toArray, List.set_cons_zero, List.set_cons_succ]
      refine wpAnyH_done (by kernel_rfl) ?_ _
      refine NoPanic.normal ?_
      go_wp2
      go_ret
      exact ⟨rfl, HB.out.trans ((HW.out.trans (hT.mono HW.out.size)).mono (by omega))⟩
/-- The first that is too great, if any. -/
theorem first_false {f : Nat → Bool} : ∀ n : Nat, (∀ j, j < n → f j = true) ∨ ∃ p, p < n ∧ f p = false ∧ ∀ j, j < p → f j = true
  | 0 => .inl fun j hj => absurd hj (Nat.not_lt_zero _)
  | n + 1 => by
    rcases first_false (f := f) n with h | ⟨p, h1, h2, h3⟩
    · cases e : f n with
      | true =>
        refine .inl fun j hj => ?_
        by_cases q : j = n
        · rw [q]; exact e
        · exact h j (by omega)
      | false => exact .inr ⟨n, by omega, e, h⟩
    · exact .inr ⟨p, by omega, h2, h3⟩
theorem exprMakes_walk (x : X) (a1 a2 a4 : Option Addr) (m1 m2 m4 c1 c2 c4 : Nat) (S T : Nat → ByteArray) (k : Int) (c : Nat → X) (w : World) (hX : IsX w x) (hok : XOk x) (hsm : x.size ≤ 1048576) (hS : Txs w a1 m1 S) (hT : Txs w a2 m2 T) (hm1 : m1 ≤ 1048576) (hm2 : m2 ≤ 1048576) (hc1 : m1 ≤ c1) (hcm : c1 ≤ 9223372036854775807) (zS : ∀ j, j < m1 → (S j).size ≤ maxLen)
    (hL : IsX w (X.all a4 m4 c4 c)) (hLs : (X.all a4 m4 c4 c).size ≤ 1048576) :
    Calls Try.prog 4 #[x.val, .slice a1 m1 c1, .slice a2 m2 c2, .int .i64 k, .slice a4 m4 c4] w fun e w' => e = .returned (.bool true) ∧ Below w.heap.size w w' := by
  cases hlx : decide (szZ x ≤ 400) with
  | false => exact exprMakes_nx x a1 a2 a4 m1 m2 m4 c1 c2 c4 k w hX hlx
  | true =>
    by_cases hl : 30 < m4
    · exact exprMakes_long x a1 a2 a4 m1 m2 m4 c1 c2 c4 k w hX hlx hl
    · rcases first_false (f := fun j => decide (szZ (c j) ≤ 400)) m4 with h | ⟨p, h1, h2, h3⟩
      · exact exprMakes_yes x a1 a2 a4 m1 m2 m4 c1 c2 c4 S T k c w hX hok hsm hS hT hm1 hm2 hc1 hcm zS hL hLs hlx hl h
      · exact exprMakes_ny x a1 a2 a4 m1 m2 m4 c1 c2 c4 k c w hX hL hlx hl p h1 h2 h3
end Go.Proofs.Ytbmbdiimbhfeaaa
