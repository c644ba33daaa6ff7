/-
  ExprRenamed's walk, where the new name is none of the condition's.
-/
import Derived.Test.YtbmbdiimbhfeaaaExprRenamedWalk
namespace Go.Proofs.Ytbmbdiimbhfeaaa
open Go.RowKit

set_option maxRecDepth 100000 in
set_option maxHeartbeats 8000000 in
theorem exprRenamed_yes (x : X) (v u : ByteArray) (w : World) (hX : IsX w x) (hok : XOk x) (hsm : x.size ≤ 1048576) (hlx : decide (szZ x ≤ 400) = true) (hu : ¬ hasVar u x) (zv : v.size ≤ maxLen) (zu : u.size ≤ maxLen) :
    Calls Try.prog 6 #[x.val, .string v, .string u] w fun e w' => e = .returned (.bool true) ∧ Below w.heap.size w w' := by
  obtain ⟨A, hA, hB, hs, hn⟩ := box_one x w
  obtain ⟨a0, a1, a2, a3, a4, a5, a6⟩ := hn.at0
  have HB : Hid (Below w.heap.size w A) := hB
  have NX : Hid (Node A w.heap.size 0 x) := hn
  have L1 : Hid (Calls Try.prog 7 #[x.val] A fun e w' => e = .returned (.bool true) ∧ Below A.heap.size A w') := by have := light_any x A (hX.later hB); rw [hlx] at this; exact this
  have W1 : Hid (∀ d, Calls Try.prog 8 #[] d fun e w' => e = .returned (.bool true) ∧ Below d.heap.size d w') := fun d => awake_any d
  obtain ⟨nv, hnv⟩ : ∃ nv, nv = (varsX x).length := ⟨_, rfl⟩
  have HNV : Hid (nv ≤ 1048576) := by show nv ≤ 1048576; rw [hnv]; have := vars_len x; omega
  have V1 : Hid (∀ d, Below A.heap.size A d → Calls Try.prog 20 #[x.val] d fun e w' => ∃ v, e = .returned v ∧ Hid (w'.ownsRow d.heap.size 9 1 v nv (cellsS (varsX x))) ∧ Below d.heap.size d w') := fun d h => by rw [hnv]; exact vars_any x d ((hX.later hB).later h) hsm
  have HN : Hid (nv = (varsX x).length) := hnv
  obtain ⟨S, hS⟩ : ∃ S, S = atS (varsX x) := ⟨_, rfl⟩
  have HS : Hid (S = atS (varsX x)) := hS
  have HPN : Hid (∀ j, j < nv → ¬ S j = u) := fun j hj e => by
    rw [hS] at e
    refine hu ((mem_vars _ _).1 ?_)
    rw [← lstS_all (varsX x), lstS_mem]
    exact ⟨j, hnv ▸ hj, e⟩
  have HX0 : Hid (IsX A x) := hX.later hB
  have HU : Hid (¬ hasVar u x) := hu
  have HO : Hid (XOk x) := hok
  have HM : Hid (x.size ≤ 1048576) := hsm
  have HZ : Hid (v.size ≤ maxLen ∧ u.size ≤ maxLen) := ⟨zv, zu⟩
  clear hB hn hX hlx hnv hS hsm hu hok zv zu
  go_enter Try.func6, Try.ntmps6
  go_wp2_with (first
    | (go_at_call 7; refine L1.out.mono ?_; clear L1; rintro e w1 ⟨rfl, hB1⟩; obtain ⟨b0, b1, b2, b3, b4, b5, b6⟩ := (NX.out.later hB1).at0)
    | (go_at_call 20; refine (V1.out _ hB1).mono ?_; clear V1; rintro e w2 ⟨vv, rfl, ho, hB2⟩; obtain ⟨al, capl, rfl, hx, -, hcl⟩ := own_txs ho.out; clear ho))
  rw [← HS.out] at hx
  have HX : Hid (Txs w2 al nv S) := hx
  have HA2 : Hid (Below A.heap.size A w2) := hB1.trans (hB2.mono hB1.size)
  clear hx hB1 hB2 b0 b1 b2 b3 b4 b5 b6 a0 a1 a2 a3 a4 a5 a6
  go_loopw [8, 9] (fun b8 i wr => ∃ k : Nat, k ≤ nv ∧ i = .int .i64 k ∧ b8 = .bool (hasB S v k) ∧ wr = w2) (fun _ i _ => nv - (intOf i).toNat)
  case atStart => exact ⟨0, Nat.zero_le _, rfl, rfl, rfl⟩
  case round =>
    obtain ⟨k, hk, rfl, rfl, hwr⟩ := hrel
    subst hwr
    have hnv := HNV.out
    by_cases hlt : k < nv
    · have HLT : Hid (k < nv) := hlt
      obtain ⟨b, o, rfl, hc⟩ := HX.out (by omega)
      have ck := hc k hlt
      have hne : ((S k).toList == u.toList) = false := by
        rw [beq_eq_false_iff_ne]
        exact fun q => HPN.out k hlt (bytes_eq q)
      clear hc hlt
      cases hh : hasB S v k with
      | true =>
        have HH : Hid (hasB S v (k + 1) = true) := by show hasB S v (k + 1) = true; simp [hasB, hh]
        clear hh
        go_wp2
        go_roundw
        case rel => exact ⟨k + 1, HLT.out, by go_num, by rw [HH.out], by first | trivial | rfl⟩
        case measure => have := HLT.out; simp [intOf]; omega
      | false =>
        have HH : Hid (hasB S v (k + 1) = ((S k).toList == v.toList)) := by show hasB S v (k + 1) = _; simp [hasB, hh]
        clear hh
        go_wp2
        go_roundw
        case rel => exact ⟨k + 1, HLT.out, by go_num, by rw [HH.out], by first | trivial | rfl⟩
        case measure => have := HLT.out; simp [intOf]; omega
    · obtain rfl : k = nv := by omega
      clear hlt hk
      obtain ⟨hd, hhd⟩ : ∃ hd, hd = hasB S v k := ⟨_, rfl⟩
      rw [← hhd]
      have HD : Hid (hd = hasB S v k) := hhd
      clear hhd
      go_upto_region 11 with (fail)
      obtain ⟨a0, a1, a2, a3, a4, a5, a6⟩ := (NX.out.later HA2.out).at0
      have R1 := rename_one x v u wr (HX0.out.later HA2.out) HO.out HM.out HZ.out.1
      go_upto_region 12 with (first | (go_at_call 22; refine R1.mono ?_; clear R1; rintro e w3 ⟨y, rfl, hy, hya, hB3⟩))
      clear a0 a1 a2 a3 a4 a5 a6
      obtain ⟨D2, p1, e2, ep1, hBD, hND, hXD⟩ := boxed_x y w3 hya.out.is
      rw [e2, ← ep1]
      have H2 : Hid (Below A.heap.size A D2) := (HA2.out.trans (hB3.mono HA2.out.size)).trans (hBD.mono (Nat.le_trans HA2.out.size hB3.size))
      have NY : Hid (Node D2 p1 0 y) := hND
      have HY0 : Hid (IsX D2 y) := hXD
      have HYO : Hid (XOk y) := xOk_one hy.out HZ.out.2 HO.out
      have HYS : Hid (y.size = x.size) := ren_size hy.out
      have HYM : Hid (y.size ≤ 1048576) := by show y.size ≤ 1048576; rw [HYS.out]; exact HM.out
      clear e2 ep1 hBD hND hXD hya hB3
      obtain ⟨a0, a1, a2, a3, a4, a5, a6⟩ := NY.out.at0
      have R2 := rename_one y u v D2 HY0.out HYO.out HYM.out HZ.out.2
      go_upto_region 13 with (first | (go_at_call 22; refine R2.mono ?_; clear R2; rintro e w4 ⟨z, rfl, hz, hza, hB4⟩))
      clear a0 a1 a2 a3 a4 a5 a6
      obtain ⟨D3, p2, e3, ep2, hBD, hND, hXD⟩ := boxed_x z w4 hza.out.is
      rw [e3, ← ep2]
      have H23 : Hid (Below D2.heap.size D2 D3) := hB4.trans (hBD.mono hB4.size)
      have H3 : Hid (Below A.heap.size A D3) := H2.out.trans (H23.out.mono H2.out.size)
      have NZ : Hid (Node D3 p2 0 z) := hND
      have HZ0 : Hid (IsX D3 z) := hXD
      clear e3 ep2 hBD hND hXD hza hB4
      obtain ⟨a0, a1, a2, a3, a4, a5, a6⟩ := (NY.out.later H23.out).at0
      have hvl : (varsX y).length = k := (ren_len hy.out HU.out).trans HN.out.symm
      have V2 := vars_any y D3 (HY0.out.later H23.out) HYM.out
      rw [hvl] at V2
      obtain ⟨S2, hS2⟩ : ∃ S2, S2 = atS (varsX y) := ⟨_, rfl⟩
      have HE : Hid (hasB S2 u k = hd) := by
        have := hasB_eq (ren_has hy.out HU.out)
        rw [hvl, ← HN.out, ← HS.out, ← hS2] at this
        show hasB S2 u k = hd
        rw [this, HD.out]
      have HSame : Hid (ordX x z = 0) := ren_back hy.out HU.out hz.out
      go_upto_region 15 with (first | (go_at_call 20; refine V2.mono ?_; clear V2; rintro e W ⟨vv2, rfl, ho2, hB5⟩; obtain ⟨am, capm, rfl, hx2, -, hcl2⟩ := own_txs ho2; clear ho2))
      rw [← hS2] at hx2
      have HX2 : Hid (Txs W am k S2) := hx2
      have H35 : Hid (Below D3.heap.size D3 W) := hB5
      clear hx2 hB5 hS2 hvl a0 a1 a2 a3 a4 a5 a6
      go_upto_region 16 with (fail)
      have PX : Hid (Node W w.heap.size 0 x) := (NX.out.later H3.out).later H35.out
      have PY : Hid (Node W p1 0 y) := (NY.out.later H23.out).later H35.out
      have PZ : Hid (Node W p2 0 z) := NZ.out.later H35.out
      have HW : Hid (Below A.heap.size A W) := H3.out.trans (H35.out.mono H3.out.size)
      obtain ⟨sz, hsz⟩ : ∃ sz : Int, sz = cnt x.size := ⟨_, rfl⟩
      have SM : Hid (∀ d, Below W.heap.size W d → Calls Try.prog 15 #[x.val, z.val] d fun e w' => e = .returned (.bool true) ∧ Below d.heap.size d w') := fun d h => by
        have := same_any x z d ((HX0.out.later HW.out).later h) ((HZ0.out.later H35.out).later h)
        rw [HSame.out] at this
        exact this
      have Z1 : Hid (∀ d, Below W.heap.size W d → Calls Try.prog 11 #[y.val] d fun e w' => e = .returned (.int .i64 sz) ∧ Below d.heap.size d w') := fun d h => by
        have := size_any y d (((HY0.out.later H23.out).later H35.out).later h)
        rw [HYS.out, ← hsz] at this
        exact this
      have Z2 : Hid (∀ d, Below W.heap.size W d → Calls Try.prog 11 #[x.val] d fun e w' => e = .returned (.int .i64 sz) ∧ Below d.heap.size d w') := fun d h => by
        have := size_any x d ((HX0.out.later HW.out).later h)
        rw [← hsz] at this
        exact this
      generalize wr = wo at *
      clear hsz HX HA2 NX HX0 NY HY0 NZ HZ0 H2 H23 H3 H35 hy hz HSame HYS HYM HYO HU HO HM HZ HD HPN HS HN
      go_loopw [13, 14] (fun b13 i wr => ∃ q : Nat, q ≤ k ∧ i = .int .i64 q ∧ b13 = .bool (hasB S2 u q) ∧ wr = W) (fun _ i _ => k - (intOf i).toNat)
      case atStart => exact ⟨0, Nat.zero_le _, rfl, rfl, rfl⟩
      case round =>
      obtain ⟨q, hq, rfl, rfl, hwr⟩ := hrel
      subst hwr
      by_cases hlt : q < k
      · have HLT : Hid (q < k) := hlt
        obtain ⟨b, o, rfl, hc⟩ := HX2.out (by omega)
        have ck := hc q hlt
        clear hc hlt
        cases hh : hasB S2 u q with
        | true =>
          have HH : Hid (hasB S2 u (q + 1) = true) := by show hasB S2 u (q + 1) = true; simp [hasB, hh]
          clear hh
          go_wp2
          go_roundw
          case rel => exact ⟨q + 1, HLT.out, by go_num, by rw [HH.out], by first | trivial | rfl⟩
          case measure => have := HLT.out; simp [intOf]; omega
        | false =>
          have HH : Hid (hasB S2 u (q + 1) = ((S2 q).toList == u.toList)) := by show hasB S2 u (q + 1) = _; simp [hasB, hh]
          clear hh
          go_wp2
          go_roundw
          case rel => exact ⟨q + 1, HLT.out, by go_num, by rw [HH.out], by first | trivial | rfl⟩
          case measure => have := HLT.out; simp [intOf]; omega
      · obtain rfl : q = k := by omega
        clear hlt hq
        rw [HE.out]
        clear HE HX2
        generalize wr = W at *
        go_wp2
        refine wp_region_noPanic ?_
        refine wp_region_held_drew (S := fun w' => Below W.heap.size W w') (by kernel_rfl) ((Below.refl _ _).drew) (fun hHeld => ?_)
        have hT : Below W.heap.size W W.drew := hHeld
        obtain ⟨d, hdw⟩ : ∃ d, d = W.drew := ⟨_, rfl⟩
        rw [← hdw] at hHeld hT ⊢
        clear hdw
        refine wpAnyH_take (i := 0) (oi := ⟨some 72, Op.load 26 (Operand.tmp 3), 26, _, _, _⟩) (v := ?v0) rfl (by kernel_rfl) (by kernel_rfl) (by kernel_rfl) (fun _ _ _ h => h) (Or.inl ⟨by rfl, ?hy0⟩) hHeld ?rest0
        case hy0 => intro w9 hSw; obtain ⟨d0, d1, d2, d3, d4, d5, d6⟩ := (PX.out.later hSw).at0; go_simp; (try with_reducible rfl)
        try simp only [Act.put, List.setIfInBounds_toArray, List.set_cons_zero, List.set_cons_succ]
        refine wpAnyH_take (i := 1) (oi := ⟨some 73, Op.load 26 (Operand.tmp 11), 26, _, _, _⟩) (v := ?v1) rfl (by kernel_rfl) (by kernel_rfl) (by kernel_rfl) (fun _ _ _ h => h) (Or.inl ⟨by rfl, ?hy1⟩) hHeld ?rest1
        case hy1 => intro w9 hSw; obtain ⟨d0, d1, d2, d3, d4, d5, d6⟩ := (PZ.out.later hSw).at0; go_simp; (try with_reducible rfl)
        try simp only [Act.put, List.setIfInBounds_toArray, List.set_cons_zero, List.set_cons_succ]
        refine wpAnyH_ready (rs := [2]) (by kernel_rfl) (by simp) ?_
        refine AllReadyH.cons (o := ⟨some 74, Op.call { callee := Callee.value (Operand.func 15), args := #[Operand.tmp 72, Operand.tmp 73], argTypes := #[26, 26] }, 4, _, _, _⟩) rfl (fun K hK => ?_) AllReadyH.nil
        go_simp
        refine (SM.out _ hT).mono ?_
        rintro e x2 ⟨rfl, hN2⟩
        go_wp2_with fail
        have hT2 : Below W.heap.size W x2 := hT.trans (hN2.mono hT.size)
        refine hK.out _ _ (hHeld.trans (hN2.mono hHeld.size)) (fun _ => held_up (S' := fun w' => Below x2.heap.size x2 w') (fun w' h' => (hHeld.trans (hN2.mono hHeld.size)).trans (h'.mono (Nat.le_trans hHeld.size hN2.size))) _ _ _ _ ?_)
        clear hK K hHeld hT
        have hT : Below W.heap.size W x2 := hT2
        have hHeld : Below x2.heap.size x2 x2 := Below.refl _ _
        clear hT2 hN2
        try simp only [Act.put, List.setIfInBounds_toArray, List.set_cons_zero, List.set_cons_succ]
        refine wpAnyH_take (i := 3) (oi := ⟨some 75, Op.move (Operand.tmp 74), 4, _, _, _⟩) (v := ?v3) rfl (by kernel_rfl) (by kernel_rfl) (by kernel_rfl) (fun _ _ _ h => h) (Or.inl ⟨by rfl, ?hy3⟩) hHeld ?rest3
        case hy3 => intro w9 hSw; go_simp; (try with_reducible rfl)
        try simp only [Act.put, List.setIfInBounds_toArray, List.set_cons_zero, List.set_cons_succ]
        refine wpAnyH_take (i := 4) (oi := ⟨some 76, Op.move (Operand.tmp 13), 4, _, _, _⟩) (v := ?v4) rfl (by kernel_rfl) (by kernel_rfl) (by kernel_rfl) (fun _ _ _ h => h) (Or.inl ⟨by rfl, ?hy4⟩) hHeld ?rest4
        case hy4 => intro w9 hSw; go_simp; (try with_reducible rfl)
        try simp only [Act.put, List.setIfInBounds_toArray, List.set_cons_zero, List.set_cons_succ]
        refine wpAnyH_take (i := 5) (oi := ⟨some 77, Op.move (Operand.tmp 8), 4, _, _, _⟩) (v := ?v5) rfl (by kernel_rfl) (by kernel_rfl) (by kernel_rfl) (fun _ _ _ h => h) (Or.inl ⟨by rfl, ?hy5⟩) hHeld ?rest5
        case hy5 => intro w9 hSw; go_simp; (try with_reducible rfl)
        try simp only [Act.put, List.setIfInBounds_toArray, List.set_cons_zero, List.set_cons_succ]
        refine wpAnyH_take (i := 6) (oi := ⟨some 78, Op.binOp BinOp.eql 4 (Operand.tmp 76) (Operand.tmp 77) 4, 4, _, _, _⟩) (v := ?v6) rfl (by kernel_rfl) (by kernel_rfl) (by kernel_rfl) (fun _ _ _ h => h) (Or.inl ⟨by rfl, ?hy6⟩) hHeld ?rest6
        case hy6 => intro w9 hSw; go_simp; (try with_reducible rfl)
        try simp only [Act.put, List.setIfInBounds_toArray, List.set_cons_zero, List.set_cons_succ]
        refine wpAnyH_take (i := 7) (oi := ⟨some 79, Op.pick (Operand.tmp 75) (Operand.tmp 78) (Operand.const (Value.bool false)), 4, _, _, _⟩) (v := ?v7) rfl (by kernel_rfl) (by kernel_rfl) (by kernel_rfl) (fun _ _ _ h => h) (Or.inl ⟨by rfl, ?hy7⟩) hHeld ?rest7
        case hy7 => intro w9 hSw; go_simp; (try with_reducible rfl)
        try simp only [Act.put, List.setIfInBounds_toArray, List.set_cons_zero, List.set_cons_succ]
        refine wpAnyH_take (i := 8) (oi := ⟨some 80, Op.move (Operand.tmp 79), 4, _, _, _⟩) (v := ?v8) rfl (by kernel_rfl) (by kernel_rfl) (by kernel_rfl) (fun _ _ _ h => h) (Or.inl ⟨by rfl, ?hy8⟩) hHeld ?rest8
        case hy8 => intro w9 hSw; go_simp; (try with_reducible rfl)
        try simp only [Act.put, List.setIfInBounds_toArray, List.set_cons_zero, List.set_cons_succ]
        refine wpAnyH_take (i := 9) (oi := ⟨some 81, Op.move (Operand.tmp 12), 35, _, _, _⟩) (v := ?v9) rfl (by kernel_rfl) (by kernel_rfl) (by kernel_rfl) (fun _ _ _ h => h) (Or.inl ⟨by rfl, ?hy9⟩) hHeld ?rest9
        case hy9 => intro w9 hSw; go_simp; (try with_reducible rfl)
        try simp only [Act.put, List.setIfInBounds_toArray, List.set_cons_zero, List.set_cons_succ]
        refine wpAnyH_take (i := 10) (oi := ⟨some 82, Op.call { callee := Callee.builtin Builtin.len, args := #[Operand.tmp 81], argTypes := #[35] }, 3, _, _, _⟩) (v := ?v10) rfl (by kernel_rfl) (by kernel_rfl) (by kernel_rfl) (fun _ _ _ h => h) (Or.inl ⟨by rfl, ?hy10⟩) hHeld ?rest10
        case hy10 => intro w9 hSw; go_simp; (try with_reducible rfl)
        try simp only [Act.put, List.setIfInBounds_toArray, List.set_cons_zero, List.set_cons_succ]
        refine wpAnyH_take (i := 11) (oi := ⟨some 83, Op.move (Operand.tmp 7), 35, _, _, _⟩) (v := ?v11) rfl (by kernel_rfl) (by kernel_rfl) (by kernel_rfl) (fun _ _ _ h => h) (Or.inl ⟨by rfl, ?hy11⟩) hHeld ?rest11
        case hy11 => intro w9 hSw; go_simp; (try with_reducible rfl)
        try simp only [Act.put, List.setIfInBounds_toArray, List.set_cons_zero, List.set_cons_succ]
        refine wpAnyH_take (i := 12) (oi := ⟨some 84, Op.call { callee := Callee.builtin Builtin.len, args := #[Operand.tmp 83], argTypes := #[35] }, 3, _, _, _⟩) (v := ?v12) rfl (by kernel_rfl) (by kernel_rfl) (by kernel_rfl) (fun _ _ _ h => h) (Or.inl ⟨by rfl, ?hy12⟩) hHeld ?rest12
        case hy12 => intro w9 hSw; go_simp; (try with_reducible rfl)
        try simp only [Act.put, List.setIfInBounds_toArray, List.set_cons_zero, List.set_cons_succ]
        refine wpAnyH_take (i := 13) (oi := ⟨some 85, Op.binOp BinOp.eql 3 (Operand.tmp 82) (Operand.tmp 84) 3, 4, _, _, _⟩) (v := ?v13) rfl (by kernel_rfl) (by kernel_rfl) (by kernel_rfl) (fun _ _ _ h => h) (Or.inl ⟨by rfl, ?hy13⟩) hHeld ?rest13
        case hy13 => intro w9 hSw; go_simp; (try with_reducible rfl)
        try simp only [Act.put, List.setIfInBounds_toArray, List.set_cons_zero, List.set_cons_succ]
        refine wpAnyH_take (i := 14) (oi := ⟨some 86, Op.pick (Operand.tmp 80) (Operand.tmp 85) (Operand.const (Value.bool false)), 4, _, _, _⟩) (v := ?v14) rfl (by kernel_rfl) (by kernel_rfl) (by kernel_rfl) (fun _ _ _ h => h) (Or.inl ⟨by rfl, ?hy14⟩) hHeld ?rest14
        case hy14 => intro w9 hSw; go_simp; (try with_reducible rfl)
        try simp only [Act.put, List.setIfInBounds_toArray, List.set_cons_zero, List.set_cons_succ]
        refine wpAnyH_take (i := 15) (oi := ⟨some 87, Op.move (Operand.tmp 86), 4, _, _, _⟩) (v := ?v15) rfl (by kernel_rfl) (by kernel_rfl) (by kernel_rfl) (fun _ _ _ h => h) (Or.inl ⟨by rfl, ?hy15⟩) hHeld ?rest15
        case hy15 => intro w9 hSw; go_simp; (try with_reducible rfl)
        try simp only [Act.put, List.setIfInBounds_toArray, List.set_cons_zero, List.set_cons_succ]
        refine wpAnyH_take (i := 16) (oi := ⟨some 88, Op.load 26 (Operand.tmp 10), 26, _, _, _⟩) (v := ?v16) rfl (by kernel_rfl) (by kernel_rfl) (by kernel_rfl) (fun _ _ _ h => h) (Or.inl ⟨by rfl, ?hy16⟩) hHeld ?rest16
        case hy16 => intro w9 hSw; obtain ⟨d0, d1, d2, d3, d4, d5, d6⟩ := (PY.out.later (hT.trans (hSw.mono hT.size))).at0; go_simp; (try with_reducible rfl)
        try simp only [Act.put, List.setIfInBounds_toArray, List.set_cons_zero, List.set_cons_succ]
        refine wpAnyH_take (i := 18) (oi := ⟨some 90, Op.load 26 (Operand.tmp 3), 26, _, _, _⟩) (v := ?v18) rfl (by kernel_rfl) (by kernel_rfl) (by kernel_rfl) (fun _ _ _ h => h) (Or.inl ⟨by rfl, ?hy18⟩) hHeld ?rest18
        case hy18 => intro w9 hSw; obtain ⟨d0, d1, d2, d3, d4, d5, d6⟩ := (PX.out.later (hT.trans (hSw.mono hT.size))).at0; go_simp; (try with_reducible rfl)
        try simp only [Act.put, List.setIfInBounds_toArray, List.set_cons_zero, List.set_cons_succ]
        refine wpAnyH_ready (rs := [17]) (by kernel_rfl) (by simp) ?_
        refine AllReadyH.cons (o := ⟨some 89, Op.call { callee := Callee.value (Operand.func 11), args := #[Operand.tmp 88], argTypes := #[26] }, 3, _, _, _⟩) rfl (fun K hK => ?_) AllReadyH.nil
        go_simp
        refine (Z1.out _ hT).mono ?_
        rintro e x17 ⟨rfl, hN17⟩
        go_wp2_with fail
        have hT17 : Below W.heap.size W x17 := hT.trans (hN17.mono hT.size)
        refine hK.out _ _ (hHeld.trans (hN17.mono hHeld.size)) (fun _ => held_up (S' := fun w' => Below x17.heap.size x17 w') (fun w' h' => (hHeld.trans (hN17.mono hHeld.size)).trans (h'.mono (Nat.le_trans hHeld.size hN17.size))) _ _ _ _ ?_)
        clear hK K hHeld hT
        have hT : Below W.heap.size W x17 := hT17
        have hHeld : Below x17.heap.size x17 x17 := Below.refl _ _
        clear hT17 hN17
        try simp only [Act.put, List.setIfInBounds_toArray, List.set_cons_zero, List.set_cons_succ]
        refine wpAnyH_ready (rs := [19]) (by kernel_rfl) (by simp) ?_
        refine AllReadyH.cons (o := ⟨some 91, Op.call { callee := Callee.value (Operand.func 11), args := #[Operand.tmp 90], argTypes := #[26] }, 3, _, _, _⟩) rfl (fun K hK => ?_) AllReadyH.nil
        go_simp
        refine (Z2.out _ hT).mono ?_
        rintro e x19 ⟨rfl, hN19⟩
        go_wp2_with fail
        have hT19 : Below W.heap.size W x19 := hT.trans (hN19.mono hT.size)
        refine hK.out _ _ (hHeld.trans (hN19.mono hHeld.size)) (fun _ => held_up (S' := fun w' => Below x19.heap.size x19 w') (fun w' h' => (hHeld.trans (hN19.mono hHeld.size)).trans (h'.mono (Nat.le_trans hHeld.size hN19.size))) _ _ _ _ ?_)
        clear hK K hHeld hT
        have hT : Below W.heap.size W x19 := hT19
        have hHeld : Below x19.heap.size x19 x19 := Below.refl _ _
        clear hT19 hN19
        try simp only [Act.put, List.setIfInBounds_toArray, List.set_cons_zero, List.set_cons_succ]
        refine wpAnyH_take (i := 20) (oi := ⟨some 92, Op.binOp BinOp.eql 3 (Operand.tmp 89) (Operand.tmp 91) 3, 4, _, _, _⟩) (v := ?v20) rfl (by kernel_rfl) (by kernel_rfl) (by kernel_rfl) (fun _ _ _ h => h) (Or.inl ⟨by rfl, ?hy20⟩) hHeld ?rest20
        case hy20 => intro w9 hSw; go_simp; (try with_reducible rfl)
        try simp only [Act.put, List.setIfInBounds_toArray, List.set_cons_zero, List.set_cons_succ]
        refine wpAnyH_take (i := 21) (oi := ⟨some 93, Op.pick (Operand.tmp 87) (Operand.tmp 92) (Operand.const (Value.bool false)), 4, _, _, _⟩) (v := ?v21) rfl (by kernel_rfl) (by kernel_rfl) (by kernel_rfl) (fun _ _ _ h => h) (Or.inl ⟨by rfl, ?hy21⟩) hHeld ?rest21
        case hy21 => intro w9 hSw; go_simp; (try with_reducible rfl)
        try simp only [Act.put, List.setIfInBounds_toArray, List.set_cons_zero, List.set_cons_succ]
        refine wpAnyH_take (i := 22) (oi := ⟨some 94, Op.move (Operand.tmp 93), 4, _, _, _⟩) (v := ?v22) rfl (by kernel_rfl) (by kernel_rfl) (by kernel_rfl) (fun _ _ _ h => h) (Or.inl ⟨by rfl, ?hy22⟩) hHeld ?rest22
        case hy22 => intro w9 hSw; go_simp; (try with_reducible rfl)
        try simp only [Act.put, List.setIfInBounds_toArray, List.set_cons_zero, List.set_cons_succ]
        refine wpAnyH_ready (rs := [23]) (by kernel_rfl) (by simp) ?_
        refine AllReadyH.cons (o := ⟨some 95, Op.call { callee := Callee.value (Operand.func 8), args := #[], argTypes := #[] }, 4, _, _, _⟩) rfl (fun K hK => ?_) AllReadyH.nil
        go_simp
        refine (W1.out _).mono ?_
        rintro e x23 ⟨rfl, hN23⟩
        go_wp2_with fail
        have hT23 : Below W.heap.size W x23 := hT.trans (hN23.mono hT.size)
        refine hK.out _ _ (hHeld.trans (hN23.mono hHeld.size)) (fun _ => held_up (S' := fun w' => Below x23.heap.size x23 w') (fun w' h' => (hHeld.trans (hN23.mono hHeld.size)).trans (h'.mono (Nat.le_trans hHeld.size hN23.size))) _ _ _ _ ?_)
        clear hK K hHeld hT
        have hT : Below W.heap.size W x23 := hT23
        have hHeld : Below x23.heap.size x23 x23 := Below.refl _ _
        clear hT23 hN23
        try simp only [Act.put, List.setIfInBounds_toArray, List.set_cons_zero, List.set_cons_succ]
        refine wpAnyH_take (i := 24) (oi := ⟨some 96, Op.pick (Operand.tmp 94) (Operand.tmp 95) (Operand.const (Value.bool false)), 4, _, _, _⟩) (v := ?v24) rfl (by kernel_rfl) (by kernel_rfl) (by kernel_rfl) (fun _ _ _ h => h) (Or.inl ⟨by rfl, ?hy24⟩) hHeld ?rest24
        case hy24 => intro w9 hSw; go_simp; (try with_reducible rfl)
        try simp only [Act.put, List.setIfInBounds_toArray, List.set_cons_zero, List.set_cons_succ]
        refine wpAnyH_take (i := 25) (oi := ⟨some 6, Op.assign (Operand.tmp 96), 4, _, _, _⟩) (v := ?v25) rfl (by kernel_rfl) (by kernel_rfl) (by kernel_rfl) (fun _ _ _ h => h) (Or.inl ⟨by rfl, ?hy25⟩) hHeld ?rest25
        case hy25 => intro w9 hSw; go_simp; (try with_reducible rfl)
        try simp only [Act.put, List.setIfInBounds_toArray, List.set_cons_zero, List.set_cons_succ]
        refine wpAnyH_done (by kernel_rfl) ?_ _
        refine NoPanic.normal ?_
        go_wp2
        go_ret
        exact ⟨rfl, HB.out.trans ((HW.out.trans (hT.mono HW.out.size)).mono (by omega))⟩
theorem exprRenamed_walk (x : X) (v u : ByteArray) (w : World) (hX : IsX w x) (hok : XOk x) (hsm : x.size ≤ 1048576) (zv : v.size ≤ maxLen) (zu : u.size ≤ maxLen) :
    Calls Try.prog 6 #[x.val, .string v, .string u] w fun e w' => e = .returned (.bool true) ∧ Below w.heap.size w w' := by
  cases hlx : decide (szZ x ≤ 400) with
  | false => exact exprRenamed_no x v u w hX hlx
  | true =>
    cases hf : fstS (atS (varsX x)) u (varsX x).length with
    | some p =>
      obtain ⟨h1, h2, h3⟩ := fstS_some hf
      exact exprRenamed_has x v u w hX hsm hlx p h1 h2 h3
    | none =>
      refine exprRenamed_yes x v u w hX hok hsm hlx (fun hu => ?_) zv zu
      rw [← mem_vars, ← lstS_all (varsX x), lstS_mem] at hu
      obtain ⟨j, hj, e⟩ := hu
      exact fstS_none hf j hj e
end Go.Proofs.Ytbmbdiimbhfeaaa
