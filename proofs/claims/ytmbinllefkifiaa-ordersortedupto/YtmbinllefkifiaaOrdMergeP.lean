/-
  order.merged, of patterns.
-/
import Derived.Test.YtmbinllefkifiaaOrdRows
import Derived.Test.YtmbinllefkifiaaExprSame
import Derived.WalkMore
namespace Go.Proofs.Ytmbinllefkifiaa
open Go.RowKit

def lenOf : Value → Nat | .slice _ n _ => n | _ => 0
set_option maxRecDepth 100000 in
set_option maxHeartbeats 8000000 in
theorem mergedP_any (c : Pt → Pt → Int) (b1 o1 k1 b2 o2 k2 : Nat) (A B : List Pt) (w : World) (h1 : RwP w b1 o1 A) (h2 : RwP w b2 o2 B) (l1 : A.length ≤ k1) (l2 : B.length ≤ k2) (m1 : k1 ≤ 9223372036854775807) (m2 : k2 ≤ 9223372036854775807) (hn : A.length + B.length ≤ 1048576)
    (hC : ∀ x ∈ A, ∀ y ∈ B, ∀ d, Below w.heap.size w d → Calls Try.prog 9 #[y.val, x.val] d fun e w' => e = .returned (.int .i64 (c y x)) ∧ Below d.heap.size d w') :
    Calls Try.prog 56 #[.slice (some ⟨b1, o1, none⟩) A.length k1, .slice (some ⟨b2, o2, none⟩) B.length k2, .func (.func 9) #[] #[]] w fun e w' => ∃ v, e = .returned v ∧ w'.ownsRow w.heap.size 24 6 v (A.length + B.length) (rowLP (A.merge B (mle c))) ∧ Below w.heap.size w w' := by
  obtain ⟨n1, e1⟩ : ∃ n1, n1 = A.length := ⟨_, rfl⟩
  obtain ⟨n2, e2⟩ : ∃ n2, n2 = B.length := ⟨_, rfl⟩
  rw [← e1] at l1 hn ⊢
  rw [← e2] at l2 hn ⊢
  have H1 : Hid (RwP w b1 o1 A) := h1
  have H2 : Hid (RwP w b2 o2 B) := h2
  have E1 : Hid (n1 = A.length) := e1
  have E2 : Hid (n2 = B.length) := e2
  have HC : Hid (∀ x ∈ A, ∀ y ∈ B, ∀ d, Below w.heap.size w d → Calls Try.prog 9 #[y.val, x.val] d fun e w' => e = .returned (.int .i64 (c y x)) ∧ Below d.heap.size d w') := hC
  obtain ⟨R, hR⟩ : ∃ R, R = A.merge B (mle c) := ⟨_, rfl⟩
  rw [← hR]
  have HR : Hid (R = A.merge B (mle c)) := hR
  obtain ⟨N, hN⟩ : ∃ N, N = n1 + n2 := ⟨_, rfl⟩
  rw [← hN]
  have HN : Hid (N = n1 + n2) := hN
  obtain ⟨i0, hi, hz0, hz1, hz2⟩ := info_parts infoP
  clear h1 h2 e1 e2 hC hR hN
  go_enter Try.func56, Try.ntmps56
  go_wp2
  go_step3
  go_wp2_with (first
    | (at_make; refine wpList_make_own _ rfl _ _ 22 rfl w.heap.size 24 i0 _ 6 Try.underlying22 hi hz0 hz1 .i64 .i64 _ (n1 + n2) rfl rfl (by simp) (by rw [hz2]; omega) (by unfold maxLen; omega) (Nat.le_refl _) ?_; intro w1 own1 grow1; have hB1 : Below w.heap.size w w1 := (Below.refl _ _).grown grow1 (Nat.le_refl _) (fun k e => by cases e)))
  go_step3
  go_wp2_with fail
  go_loopw [0, 1, 7] (fun u0 u1 u7 wr => ∃ (A' B' O : List Pt) (n1 n2 no b1 o1 k1 b2 o2 k2 : Nat), u0 = .slice (some ⟨b1, o1, none⟩) n1 k1 ∧ u1 = .slice (some ⟨b2, o2, none⟩) n2 k2 ∧ n1 ≤ k1 ∧ n2 ≤ k2 ∧ k1 ≤ 9223372036854775807 ∧ k2 ≤ 9223372036854775807 ∧
    Hid (RwP w b1 o1 A' ∧ RwP w b2 o2 B' ∧ A'.length = n1 ∧ B'.length = n2 ∧ O.length = no ∧ no + n1 + n2 = N ∧ (∀ x ∈ A', x ∈ A) ∧ (∀ y ∈ B', y ∈ B) ∧ O ++ A'.merge B' (mle c) = R) ∧ Hid (wr.ownsRow w.heap.size 24 6 u7 no (rowLP O)) ∧ Below w.heap.size w wr) (fun u0 u1 _ _ => lenOf u0 + lenOf u1)
  case atStart => exact ⟨A, B, [], n1, n2, 0, b1, o1, k1, b2, o2, k2, rfl, rfl, l1, l2, m1, m2, ⟨H1.out, H2.out, E1.out.symm, E2.out.symm, rfl, by have := HN.out; omega, fun _ h => h, fun _ h => h, HR.out.symm⟩, own1, hB1⟩
  case round =>
    obtain ⟨A', B', O, n1, n2, no, b1, o1, k1, b2, o2, k2, rfl, rfl, l1, l2, m1, m2, HI, HO, hB⟩ := hrel
    have HBD : Hid (no + n1 + n2 ≤ 1048576) := by have := HI.out.2.2.2.2.2.1; have := HN.out; show _ ≤ _; omega
    by_cases z1 : n1 = 0
    · obtain ⟨r1, r2, q1, q2, q3, q4, -, -, q7⟩ := HI.out
      have eM : A'.merge B' (mle c) = A' ++ B' := by
        rw [List.length_eq_zero_iff.1 (q1.trans z1)]; simp
      obtain ⟨v8, w8, run8, own8, hB8⟩ := pushLP HO.out hB.size b1 o1 n1 k1 A' (r1.later hB) q1 (by have := HBD.out; omega)
      have hB18 := hB.trans hB8
      obtain ⟨v9, w9, run9, own9, hB9⟩ := pushLP own8 hB18.size b2 o2 n2 k2 B' (r2.later hB18) q2 (by have := HBD.out; omega)
      have HF : Hid (w9.ownsRow w.heap.size 24 6 v9 N (rowLP R) ∧ Below w.heap.size w w9) := ⟨by rw [← q4, ← q7, eM, rowLP_app, rowLP_app, ← List.append_assoc]; exact own9, hB18.trans hB9⟩
      have R8 : Hid (_ = _) := run8
      have R9 : Hid (_ = _) := run9
      clear r1 r2 q1 q2 q3 q4 q7 eM own8 own9 hB8 hB9 hB18 run8 run9 HI HO
      subst z1
      go_wp2_with (first
        | (at_builtin; refine wpList_append_run rfl (.tmp 51) (.tmp 52) 22 rfl _ _ _ rfl rfl R9.out ?_)
        | (at_builtin; refine wpList_append_run rfl (.tmp 49) (.tmp 50) 22 rfl _ _ _ rfl rfl R8.out ?_))
      rw [Exit.noGoto_ret]
      go_ret
      exact ⟨_, rfl, HF.out.1, HF.out.2⟩
    · by_cases z2 : n2 = 0
      · obtain ⟨r1, r2, q1, q2, q3, q4, -, -, q7⟩ := HI.out
        have eM : A'.merge B' (mle c) = A' ++ B' := by
          rw [List.length_eq_zero_iff.1 (q2.trans z2)]; simp
        obtain ⟨v8, w8, run8, own8, hB8⟩ := pushLP HO.out hB.size b1 o1 n1 k1 A' (r1.later hB) q1 (by have := HBD.out; omega)
        have hB18 := hB.trans hB8
        obtain ⟨v9, w9, run9, own9, hB9⟩ := pushLP own8 hB18.size b2 o2 n2 k2 B' (r2.later hB18) q2 (by have := HBD.out; omega)
        have HF : Hid (w9.ownsRow w.heap.size 24 6 v9 N (rowLP R) ∧ Below w.heap.size w w9) := ⟨by rw [← q4, ← q7, eM, rowLP_app, rowLP_app, ← List.append_assoc]; exact own9, hB18.trans hB9⟩
        have R8 : Hid (_ = _) := run8
        have R9 : Hid (_ = _) := run9
        clear r1 r2 q1 q2 q3 q4 q7 eM own8 own9 hB8 hB9 hB18 run8 run9 HI HO
        subst z2
        have z1' : (((n1 : Nat) : Int) == 0) = false := by simpa using z1
        go_wp2_with (first
          | (at_builtin; refine wpList_append_run rfl (.tmp 51) (.tmp 52) 22 rfl _ _ _ rfl rfl R9.out ?_)
          | (at_builtin; refine wpList_append_run rfl (.tmp 49) (.tmp 50) 22 rfl _ _ _ rfl rfl R8.out ?_))
        rw [Exit.noGoto_ret]
        go_ret
        exact ⟨_, rfl, HF.out.1, HF.out.2⟩
      · obtain ⟨x, A'', rfl⟩ : ∃ x A'', A' = x :: A'' := by
          have := HI.out.2.2.1
          cases A' with
          | nil => simp at this; omega
          | cons x A'' => exact ⟨x, A'', rfl⟩
        obtain ⟨y, B'', rfl⟩ : ∃ y B'', B' = y :: B'' := by
          have := HI.out.2.2.2.1
          cases B' with
          | nil => simp at this; omega
          | cons y B'' => exact ⟨y, B'', rfl⟩
        have M1 : Hid (NodeP w b1 o1 x) := HI.out.1.head
        have M2 : Hid (NodeP w b2 o2 y) := HI.out.2.1.head
        have N1 : Hid (NodeP wr b1 o1 x) := M1.out.later hB
        have N2 : Hid (NodeP wr b2 o2 y) := M2.out.later hB
        obtain ⟨q, hqq⟩ : ∃ q, q = c y x := ⟨_, rfl⟩
        have HQ : Hid (q = c y x) := hqq
        have hc : Hid (∀ d, Below wr.heap.size wr d → Calls Try.prog 9 #[y.val, x.val] d fun e w' => e = .returned (.int .i64 q) ∧ Below d.heap.size d w') := fun d h => by
          rw [hqq]
          exact HC.out x (HI.out.2.2.2.2.2.2.1 x (by simp)) y (HI.out.2.2.2.2.2.2.2.1 y (by simp)) d (hB.trans (h.mono hB.size))
        have z1' : (((n1 : Nat) : Int) == 0) = false := by simpa using z1
        have z2' : (((n2 : Nat) : Int) == 0) = false := by simpa using z2
        have g1 : (1 : Int) ≤ (n1 : Int) := by omega
        have g2 : (1 : Int) ≤ (n2 : Int) := by omega
        have p1 : 0 < n1 := by omega
        have p2 : 0 < n2 := by omega
        clear hqq
        by_cases hq : q < 0
        · have hq' := hq
          go_wp2_with fail
          refine wp_region_noPanic ?_
          refine wp_region_held_drew (S := fun w' => Below wr.heap.size wr w') (by kernel_rfl) ((Below.refl _ _).drew) (fun hHeld => ?_)
          have hT : Below wr.heap.size wr wr.drew := hHeld
          obtain ⟨d, hd⟩ : ∃ d, d = wr.drew := ⟨_, rfl⟩
          rw [← hd] at hHeld hT ⊢
          clear hd
          refine wpAnyH_take (i := 0) (oi := ⟨some 32, Op.move (Operand.tmp 2), 27, _, _, _⟩) (v := ?v0a) rfl (by kernel_rfl) (by kernel_rfl) (by kernel_rfl) (fun _ _ _ h => h) (Or.inl ⟨by rfl, ?hy0a⟩) hHeld ?rest0a
          case hy0a => intro w9 hSw; go_simp; (try with_reducible rfl)
          try simp only [Act.put, List.setIfInBounds_toArray, List.set_cons_zero, List.set_cons_succ]
          refine wpAnyH_take (i := 1) (oi := ⟨some 33, Op.move (Operand.tmp 1), 22, _, _, _⟩) (v := ?v1a) rfl (by kernel_rfl) (by kernel_rfl) (by kernel_rfl) (fun _ _ _ h => h) (Or.inl ⟨by rfl, ?hy1a⟩) hHeld ?rest1a
          case hy1a => intro w9 hSw; go_simp; (try with_reducible rfl)
          try simp only [Act.put, List.setIfInBounds_toArray, List.set_cons_zero, List.set_cons_succ]
          refine wpAnyH_take (i := 2) (oi := ⟨some 34, Op.indexAddr 22 (Operand.tmp 33) (Operand.const (Value.int IntKind.i64 0)), 0, _, _, _⟩) (v := ?v2a) rfl (by kernel_rfl) (by kernel_rfl) (by kernel_rfl) (fun _ _ _ h => h) (Or.inl ⟨by rfl, ?hy2a⟩) hHeld ?rest2a
          case hy2a => intro w9 hSw; go_simp; (try with_reducible rfl)
          try simp only [Act.put, List.setIfInBounds_toArray, List.set_cons_zero, List.set_cons_succ]
          refine wpAnyH_take (i := 3) (oi := ⟨some 35, Op.load 24 (Operand.tmp 34), 24, _, _, _⟩) (v := ?v3a) rfl (by kernel_rfl) (by kernel_rfl) (by kernel_rfl) (fun _ _ _ h => h) (Or.inl ⟨by rfl, ?hy3a⟩) hHeld ?rest3a
          case hy3a => intro w9 hSw; obtain ⟨d0, d1, d2, d3, d4, d5⟩ := N2.out.later hSw; go_simp; (try with_reducible rfl)
          try simp only [Act.put, List.setIfInBounds_toArray, List.set_cons_zero, List.set_cons_succ]
          refine wpAnyH_take (i := 4) (oi := ⟨some 36, Op.move (Operand.tmp 0), 22, _, _, _⟩) (v := ?v4a) rfl (by kernel_rfl) (by kernel_rfl) (by kernel_rfl) (fun _ _ _ h => h) (Or.inl ⟨by rfl, ?hy4a⟩) hHeld ?rest4a
          case hy4a => intro w9 hSw; go_simp; (try with_reducible rfl)
          try simp only [Act.put, List.setIfInBounds_toArray, List.set_cons_zero, List.set_cons_succ]
          refine wpAnyH_take (i := 5) (oi := ⟨some 37, Op.indexAddr 22 (Operand.tmp 36) (Operand.const (Value.int IntKind.i64 0)), 0, _, _, _⟩) (v := ?v5a) rfl (by kernel_rfl) (by kernel_rfl) (by kernel_rfl) (fun _ _ _ h => h) (Or.inl ⟨by rfl, ?hy5a⟩) hHeld ?rest5a
          case hy5a => intro w9 hSw; go_simp; (try with_reducible rfl)
          try simp only [Act.put, List.setIfInBounds_toArray, List.set_cons_zero, List.set_cons_succ]
          refine wpAnyH_take (i := 6) (oi := ⟨some 38, Op.load 24 (Operand.tmp 37), 24, _, _, _⟩) (v := ?v6a) rfl (by kernel_rfl) (by kernel_rfl) (by kernel_rfl) (fun _ _ _ h => h) (Or.inl ⟨by rfl, ?hy6a⟩) hHeld ?rest6a
          case hy6a => intro w9 hSw; obtain ⟨d0, d1, d2, d3, d4, d5⟩ := N1.out.later hSw; go_simp; (try with_reducible rfl)
          try simp only [Act.put, List.setIfInBounds_toArray, List.set_cons_zero, List.set_cons_succ]
          refine wpAnyH_ready (rs := [7]) (by kernel_rfl) (by simp) ?_
          refine AllReadyH.cons (o := ⟨some 39, Op.call { callee := Callee.value (Operand.tmp 32), args := #[Operand.tmp 35, Operand.tmp 38], argTypes := #[24, 24] }, 3, _, _, _⟩) rfl (fun K hK => ?_) AllReadyH.nil
          go_simp
          refine (hc.out _ hHeld).mono ?_
          rintro e x7 ⟨rfl, hN7⟩
          go_wp2_with fail
          have hT7 : Below wr.heap.size wr x7 := hT.trans (hN7.mono hT.size)
          refine hK.out _ _ (hHeld.trans (hN7.mono hHeld.size)) (fun _ => held_up (S' := fun w' => Below x7.heap.size x7 w') (fun w' h' => (hHeld.trans (hN7.mono hHeld.size)).trans (h'.mono (Nat.le_trans hHeld.size hN7.size))) _ _ _ _ ?_)
          clear hK K hHeld hT
          have hT : Below wr.heap.size wr x7 := hT7
          have hHeld : Below x7.heap.size x7 x7 := Below.refl _ _
          clear hT7 hN7
          try simp only [Act.put, List.setIfInBounds_toArray, List.set_cons_zero, List.set_cons_succ]
          refine wpAnyH_take (i := 8) (oi := ⟨some 40, Op.binOp BinOp.lss 3 (Operand.tmp 39) (Operand.const (Value.int IntKind.i64 0)) 3, 4, _, _, _⟩) (v := ?v8a) rfl (by kernel_rfl) (by kernel_rfl) (by kernel_rfl) (fun _ _ _ h => h) (Or.inl ⟨by rfl, ?hy8a⟩) hHeld ?rest8a
          case hy8a => intro w9 hSw; go_simp; (try with_reducible rfl)
          try simp only [Act.put, List.setIfInBounds_toArray, List.set_cons_zero, List.set_cons_succ]
          refine wpAnyH_take (i := 9) (oi := ⟨some 31, Op.assign (Operand.tmp 40), 4, _, _, _⟩) (v := ?v9a) rfl (by kernel_rfl) (by kernel_rfl) (by kernel_rfl) (fun _ _ _ h => h) (Or.inl ⟨by rfl, ?hy9a⟩) hHeld ?rest9a
          case hy9a => intro w9 hSw; go_simp; (try with_reducible rfl)
          try simp only [Act.put, List.setIfInBounds_toArray, List.set_cons_zero, List.set_cons_succ]
          refine wpAnyH_done (by kernel_rfl) ?_ _
          refine NoPanic.normal ?_
          have hB7 : Below w.heap.size w x7 := hB.trans (hT.mono hB.size)
          have HO7 : Hid (x7.ownsRow w.heap.size 24 6 u7 no (rowLP O)) := own_laterS HO.out hT
          clear hT hHeld hc HO
          go_wp2_with fail
          refine wp_region_noPanic ?_
          refine wp_region_held_drew (S := fun w' => Below w.heap.size w w') (by kernel_rfl) (hB7.drew) (fun hHeld => ?_)
          obtain ⟨d, hd⟩ : ∃ d, d = x7.drew := ⟨_, rfl⟩
          have HOd : Hid (d.ownsRow w.heap.size 24 6 u7 no (rowLP O)) := by rw [hd]; exact HO7.out.drew
          rw [← hd] at hHeld ⊢
          clear hd
          refine wpAnyH_take (i := 0) (oi := ⟨some 41, Op.move (Operand.tmp 7), 22, _, _, _⟩) (v := ?v0c) rfl (by kernel_rfl) (by kernel_rfl) (by kernel_rfl) (fun _ _ _ h => h) (Or.inl ⟨by rfl, ?hy0c⟩) hHeld ?rest0c
          case hy0c => intro w9 hSw; go_simp; (try with_reducible rfl)
          try simp only [Act.put, List.setIfInBounds_toArray, List.set_cons_zero, List.set_cons_succ]
          refine wpAnyH_take (i := 1) (oi := ⟨some 42, Op.move (Operand.tmp 1), 22, _, _, _⟩) (v := ?v1c) rfl (by kernel_rfl) (by kernel_rfl) (by kernel_rfl) (fun _ _ _ h => h) (Or.inl ⟨by rfl, ?hy1c⟩) hHeld ?rest1c
          case hy1c => intro w9 hSw; go_simp; (try with_reducible rfl)
          try simp only [Act.put, List.setIfInBounds_toArray, List.set_cons_zero, List.set_cons_succ]
          refine wpAnyH_take (i := 2) (oi := ⟨some 43, Op.indexAddr 22 (Operand.tmp 42) (Operand.const (Value.int IntKind.i64 0)), 0, _, _, _⟩) (v := ?v2c) rfl (by kernel_rfl) (by kernel_rfl) (by kernel_rfl) (fun _ _ _ h => h) (Or.inl ⟨by rfl, ?hy2c⟩) hHeld ?rest2c
          case hy2c => intro w9 hSw; go_simp; (try with_reducible rfl)
          try simp only [Act.put, List.setIfInBounds_toArray, List.set_cons_zero, List.set_cons_succ]
          refine wpAnyH_take (i := 3) (oi := ⟨some 44, Op.load 24 (Operand.tmp 43), 24, _, _, _⟩) (v := ?v3c) rfl (by kernel_rfl) (by kernel_rfl) (by kernel_rfl) (fun _ _ _ h => h) (Or.inl ⟨by rfl, ?hy3c⟩) hHeld ?rest3c
          case hy3c => intro w9 hSw; obtain ⟨d0, d1, d2, d3, d4, d5⟩ := M2.out.later hSw; go_simp; (try with_reducible rfl)
          try simp only [Act.put, List.setIfInBounds_toArray, List.set_cons_zero, List.set_cons_succ]
          refine wpAnyH_take (i := 6) (oi := ⟨some 47, Op.move (Operand.tmp 1), 22, _, _, _⟩) (v := ?v6c) rfl (by kernel_rfl) (by kernel_rfl) (by kernel_rfl) (fun _ _ _ h => h) (Or.inl ⟨by rfl, ?hy6c⟩) hHeld ?rest6c
          case hy6c => intro w9 hSw; go_simp; (try with_reducible rfl)
          try simp only [Act.put, List.setIfInBounds_toArray, List.set_cons_zero, List.set_cons_succ]
          refine wpAnyH_take (i := 7) (oi := ⟨some 48, Op.slice 22 (Operand.tmp 47) (some (Operand.const (Value.int IntKind.i64 1))) none none, 22, _, _, _⟩) (v := .slice (some ⟨b2, if k2 = 1 then o2 else o2 + 6, none⟩) (n2 - 1) (k2 - 1)) rfl (by kernel_rfl) (by kernel_rfl) (by kernel_rfl) (fun _ _ _ h => h) (Or.inl ⟨by rfl, ?hy7c⟩) hHeld ?rest7c
          case hy7c => intro w9 hSw; go_simp; first | rfl | (split <;> simp_all)
          try simp only [Act.put, List.setIfInBounds_toArray, List.set_cons_zero, List.set_cons_succ]
          refine wpAnyH_ready (rs := [4]) (by kernel_rfl) (by simp) ?_
          refine AllReadyH.cons (o := ⟨some 45, Op.buildSlice 22 1 #[(0, Operand.tmp 44)], 22, _, _, _⟩) rfl (fun K hK => ?_) AllReadyH.nil
          go_simp
          refine hK.out _ _ (hHeld.alloc hHeld.size _) (fun _ => ?_)
          clear hK K
          try simp only [Act.put, List.setIfInBounds_toArray, List.set_cons_zero, List.set_cons_succ]
          obtain ⟨v9, w9, run9, own9, hB9⟩ := push1P HOd.out hHeld.size (by have := HBD.out; omega) y
          refine wpAnyH_ready (rs := [5]) (by kernel_rfl) (by simp) ?_
          refine AllReadyH.cons (o := ⟨some 46, Op.call { callee := Callee.builtin Builtin.append, args := #[Operand.tmp 41, Operand.tmp 45], argTypes := #[22, 22] }, 22, _, _, _⟩) rfl (fun K hK => ?_) AllReadyH.nil
          try rw [if_pos (by rfl)]
          refine wpOp_append_run15 (.tmp 41) (.tmp 45) 22 rfl _ _ _ rfl rfl run9 ?_
          refine hK.out _ _ (hHeld.trans hB9) (fun _ => ?_)
          clear hK K run9
          have hB10 := hHeld.trans hB9
          clear hHeld
          have hHeld := hB10
          try simp only [Act.put, List.setIfInBounds_toArray, List.set_cons_zero, List.set_cons_succ]
          refine wpAnyH_take (i := 8) (oi := ⟨some 7, Op.assign (Operand.tmp 46), 22, _, _, _⟩) (v := ?v8c) rfl (by kernel_rfl) (by kernel_rfl) (by kernel_rfl) (fun _ _ _ h => h) (Or.inl ⟨by rfl, ?hy8c⟩) hHeld ?rest8c
          case hy8c => intro w9 hSw; go_simp; (try with_reducible rfl)
          try simp only [Act.put, List.setIfInBounds_toArray, List.set_cons_zero, List.set_cons_succ]
          refine wpAnyH_take (i := 9) (oi := ⟨some 1, Op.assign (Operand.tmp 48), 22, _, _, _⟩) (v := ?v9c) rfl (by kernel_rfl) (by kernel_rfl) (by kernel_rfl) (fun _ _ _ h => h) (Or.inl ⟨by rfl, ?hy9c⟩) hHeld ?rest9c
          case hy9c => intro w9 hSw; go_simp; (try with_reducible rfl)
          try simp only [Act.put, List.setIfInBounds_toArray, List.set_cons_zero, List.set_cons_succ]
          refine wpAnyH_done (by kernel_rfl) ?_ _
          refine NoPanic.normal ?_
          go_wp2
          go_roundw
          case rel =>
            obtain ⟨r1, r2, q1, q2, q3, q4, q5, q6, q7⟩ := HI.out
            refine ⟨x :: A'', B'', O ++ [y], n1, n2 - 1, no + 1, b1, o1, k1, b2, if k2 = 1 then o2 else o2 + 6, k2 - 1, rfl, rfl, l1, by omega, m1, by omega, ⟨r1, r2.cut (by simp at q2; omega), q1, by simp at q2 ⊢; omega, by simp [q3], by omega, q5, fun z hz => q6 z (List.mem_cons_of_mem _ hz), ?_⟩, by show World.ownsRow _ _ _ _ _ _ _; rw [rowLP_app]; exact own9, hB10⟩
            rw [← q7, List.cons_merge_cons, if_neg (by simp only [mle, decide_eq_true_eq]; rw [← HQ.out]; exact fun h => h hq)]
            simp
          case measure => simp only [lenOf]; omega
        · have hq' := hq
          go_wp2_with fail
          refine wp_region_noPanic ?_
          refine wp_region_held_drew (S := fun w' => Below wr.heap.size wr w') (by kernel_rfl) ((Below.refl _ _).drew) (fun hHeld => ?_)
          have hT : Below wr.heap.size wr wr.drew := hHeld
          obtain ⟨d, hd⟩ : ∃ d, d = wr.drew := ⟨_, rfl⟩
          rw [← hd] at hHeld hT ⊢
          clear hd
          refine wpAnyH_take (i := 0) (oi := ⟨some 32, Op.move (Operand.tmp 2), 27, _, _, _⟩) (v := ?v0b) rfl (by kernel_rfl) (by kernel_rfl) (by kernel_rfl) (fun _ _ _ h => h) (Or.inl ⟨by rfl, ?hy0b⟩) hHeld ?rest0b
          case hy0b => intro w9 hSw; go_simp; (try with_reducible rfl)
          try simp only [Act.put, List.setIfInBounds_toArray, List.set_cons_zero, List.set_cons_succ]
          refine wpAnyH_take (i := 1) (oi := ⟨some 33, Op.move (Operand.tmp 1), 22, _, _, _⟩) (v := ?v1b) rfl (by kernel_rfl) (by kernel_rfl) (by kernel_rfl) (fun _ _ _ h => h) (Or.inl ⟨by rfl, ?hy1b⟩) hHeld ?rest1b
          case hy1b => intro w9 hSw; go_simp; (try with_reducible rfl)
          try simp only [Act.put, List.setIfInBounds_toArray, List.set_cons_zero, List.set_cons_succ]
          refine wpAnyH_take (i := 2) (oi := ⟨some 34, Op.indexAddr 22 (Operand.tmp 33) (Operand.const (Value.int IntKind.i64 0)), 0, _, _, _⟩) (v := ?v2b) rfl (by kernel_rfl) (by kernel_rfl) (by kernel_rfl) (fun _ _ _ h => h) (Or.inl ⟨by rfl, ?hy2b⟩) hHeld ?rest2b
          case hy2b => intro w9 hSw; go_simp; (try with_reducible rfl)
          try simp only [Act.put, List.setIfInBounds_toArray, List.set_cons_zero, List.set_cons_succ]
          refine wpAnyH_take (i := 3) (oi := ⟨some 35, Op.load 24 (Operand.tmp 34), 24, _, _, _⟩) (v := ?v3b) rfl (by kernel_rfl) (by kernel_rfl) (by kernel_rfl) (fun _ _ _ h => h) (Or.inl ⟨by rfl, ?hy3b⟩) hHeld ?rest3b
          case hy3b => intro w9 hSw; obtain ⟨d0, d1, d2, d3, d4, d5⟩ := N2.out.later hSw; go_simp; (try with_reducible rfl)
          try simp only [Act.put, List.setIfInBounds_toArray, List.set_cons_zero, List.set_cons_succ]
          refine wpAnyH_take (i := 4) (oi := ⟨some 36, Op.move (Operand.tmp 0), 22, _, _, _⟩) (v := ?v4b) rfl (by kernel_rfl) (by kernel_rfl) (by kernel_rfl) (fun _ _ _ h => h) (Or.inl ⟨by rfl, ?hy4b⟩) hHeld ?rest4b
          case hy4b => intro w9 hSw; go_simp; (try with_reducible rfl)
          try simp only [Act.put, List.setIfInBounds_toArray, List.set_cons_zero, List.set_cons_succ]
          refine wpAnyH_take (i := 5) (oi := ⟨some 37, Op.indexAddr 22 (Operand.tmp 36) (Operand.const (Value.int IntKind.i64 0)), 0, _, _, _⟩) (v := ?v5b) rfl (by kernel_rfl) (by kernel_rfl) (by kernel_rfl) (fun _ _ _ h => h) (Or.inl ⟨by rfl, ?hy5b⟩) hHeld ?rest5b
          case hy5b => intro w9 hSw; go_simp; (try with_reducible rfl)
          try simp only [Act.put, List.setIfInBounds_toArray, List.set_cons_zero, List.set_cons_succ]
          refine wpAnyH_take (i := 6) (oi := ⟨some 38, Op.load 24 (Operand.tmp 37), 24, _, _, _⟩) (v := ?v6b) rfl (by kernel_rfl) (by kernel_rfl) (by kernel_rfl) (fun _ _ _ h => h) (Or.inl ⟨by rfl, ?hy6b⟩) hHeld ?rest6b
          case hy6b => intro w9 hSw; obtain ⟨d0, d1, d2, d3, d4, d5⟩ := N1.out.later hSw; go_simp; (try with_reducible rfl)
          try simp only [Act.put, List.setIfInBounds_toArray, List.set_cons_zero, List.set_cons_succ]
          refine wpAnyH_ready (rs := [7]) (by kernel_rfl) (by simp) ?_
          refine AllReadyH.cons (o := ⟨some 39, Op.call { callee := Callee.value (Operand.tmp 32), args := #[Operand.tmp 35, Operand.tmp 38], argTypes := #[24, 24] }, 3, _, _, _⟩) rfl (fun K hK => ?_) AllReadyH.nil
          go_simp
          refine (hc.out _ hHeld).mono ?_
          rintro e x7 ⟨rfl, hN7⟩
          go_wp2_with fail
          have hT7 : Below wr.heap.size wr x7 := hT.trans (hN7.mono hT.size)
          refine hK.out _ _ (hHeld.trans (hN7.mono hHeld.size)) (fun _ => held_up (S' := fun w' => Below x7.heap.size x7 w') (fun w' h' => (hHeld.trans (hN7.mono hHeld.size)).trans (h'.mono (Nat.le_trans hHeld.size hN7.size))) _ _ _ _ ?_)
          clear hK K hHeld hT
          have hT : Below wr.heap.size wr x7 := hT7
          have hHeld : Below x7.heap.size x7 x7 := Below.refl _ _
          clear hT7 hN7
          try simp only [Act.put, List.setIfInBounds_toArray, List.set_cons_zero, List.set_cons_succ]
          refine wpAnyH_take (i := 8) (oi := ⟨some 40, Op.binOp BinOp.lss 3 (Operand.tmp 39) (Operand.const (Value.int IntKind.i64 0)) 3, 4, _, _, _⟩) (v := ?v8b) rfl (by kernel_rfl) (by kernel_rfl) (by kernel_rfl) (fun _ _ _ h => h) (Or.inl ⟨by rfl, ?hy8b⟩) hHeld ?rest8b
          case hy8b => intro w9 hSw; go_simp; (try with_reducible rfl)
          try simp only [Act.put, List.setIfInBounds_toArray, List.set_cons_zero, List.set_cons_succ]
          refine wpAnyH_take (i := 9) (oi := ⟨some 31, Op.assign (Operand.tmp 40), 4, _, _, _⟩) (v := ?v9b) rfl (by kernel_rfl) (by kernel_rfl) (by kernel_rfl) (fun _ _ _ h => h) (Or.inl ⟨by rfl, ?hy9b⟩) hHeld ?rest9b
          case hy9b => intro w9 hSw; go_simp; (try with_reducible rfl)
          try simp only [Act.put, List.setIfInBounds_toArray, List.set_cons_zero, List.set_cons_succ]
          refine wpAnyH_done (by kernel_rfl) ?_ _
          refine NoPanic.normal ?_
          have hB7 : Below w.heap.size w x7 := hB.trans (hT.mono hB.size)
          have HO7 : Hid (x7.ownsRow w.heap.size 24 6 u7 no (rowLP O)) := own_laterS HO.out hT
          clear hT hHeld hc HO
          go_wp2_with fail
          refine wp_region_noPanic ?_
          refine wp_region_held_drew (S := fun w' => Below w.heap.size w w') (by kernel_rfl) (hB7.drew) (fun hHeld => ?_)
          obtain ⟨d, hd⟩ : ∃ d, d = x7.drew := ⟨_, rfl⟩
          have HOd : Hid (d.ownsRow w.heap.size 24 6 u7 no (rowLP O)) := by rw [hd]; exact HO7.out.drew
          rw [← hd] at hHeld ⊢
          clear hd
          refine wpAnyH_take (i := 0) (oi := ⟨some 14, Op.move (Operand.tmp 7), 22, _, _, _⟩) (v := ?v0d) rfl (by kernel_rfl) (by kernel_rfl) (by kernel_rfl) (fun _ _ _ h => h) (Or.inl ⟨by rfl, ?hy0d⟩) hHeld ?rest0d
          case hy0d => intro w9 hSw; go_simp; (try with_reducible rfl)
          try simp only [Act.put, List.setIfInBounds_toArray, List.set_cons_zero, List.set_cons_succ]
          refine wpAnyH_take (i := 1) (oi := ⟨some 15, Op.move (Operand.tmp 0), 22, _, _, _⟩) (v := ?v1d) rfl (by kernel_rfl) (by kernel_rfl) (by kernel_rfl) (fun _ _ _ h => h) (Or.inl ⟨by rfl, ?hy1d⟩) hHeld ?rest1d
          case hy1d => intro w9 hSw; go_simp; (try with_reducible rfl)
          try simp only [Act.put, List.setIfInBounds_toArray, List.set_cons_zero, List.set_cons_succ]
          refine wpAnyH_take (i := 2) (oi := ⟨some 16, Op.indexAddr 22 (Operand.tmp 15) (Operand.const (Value.int IntKind.i64 0)), 0, _, _, _⟩) (v := ?v2d) rfl (by kernel_rfl) (by kernel_rfl) (by kernel_rfl) (fun _ _ _ h => h) (Or.inl ⟨by rfl, ?hy2d⟩) hHeld ?rest2d
          case hy2d => intro w9 hSw; go_simp; (try with_reducible rfl)
          try simp only [Act.put, List.setIfInBounds_toArray, List.set_cons_zero, List.set_cons_succ]
          refine wpAnyH_take (i := 3) (oi := ⟨some 17, Op.load 24 (Operand.tmp 16), 24, _, _, _⟩) (v := ?v3d) rfl (by kernel_rfl) (by kernel_rfl) (by kernel_rfl) (fun _ _ _ h => h) (Or.inl ⟨by rfl, ?hy3d⟩) hHeld ?rest3d
          case hy3d => intro w9 hSw; obtain ⟨d0, d1, d2, d3, d4, d5⟩ := M1.out.later hSw; go_simp; (try with_reducible rfl)
          try simp only [Act.put, List.setIfInBounds_toArray, List.set_cons_zero, List.set_cons_succ]
          refine wpAnyH_take (i := 6) (oi := ⟨some 20, Op.move (Operand.tmp 0), 22, _, _, _⟩) (v := ?v6d) rfl (by kernel_rfl) (by kernel_rfl) (by kernel_rfl) (fun _ _ _ h => h) (Or.inl ⟨by rfl, ?hy6d⟩) hHeld ?rest6d
          case hy6d => intro w9 hSw; go_simp; (try with_reducible rfl)
          try simp only [Act.put, List.setIfInBounds_toArray, List.set_cons_zero, List.set_cons_succ]
          refine wpAnyH_take (i := 7) (oi := ⟨some 21, Op.slice 22 (Operand.tmp 20) (some (Operand.const (Value.int IntKind.i64 1))) none none, 22, _, _, _⟩) (v := .slice (some ⟨b1, if k1 = 1 then o1 else o1 + 6, none⟩) (n1 - 1) (k1 - 1)) rfl (by kernel_rfl) (by kernel_rfl) (by kernel_rfl) (fun _ _ _ h => h) (Or.inl ⟨by rfl, ?hy7d⟩) hHeld ?rest7d
          case hy7d => intro w9 hSw; go_simp; first | rfl | (split <;> simp_all)
          try simp only [Act.put, List.setIfInBounds_toArray, List.set_cons_zero, List.set_cons_succ]
          refine wpAnyH_ready (rs := [4]) (by kernel_rfl) (by simp) ?_
          refine AllReadyH.cons (o := ⟨some 18, Op.buildSlice 22 1 #[(0, Operand.tmp 17)], 22, _, _, _⟩) rfl (fun K hK => ?_) AllReadyH.nil
          go_simp
          refine hK.out _ _ (hHeld.alloc hHeld.size _) (fun _ => ?_)
          clear hK K
          try simp only [Act.put, List.setIfInBounds_toArray, List.set_cons_zero, List.set_cons_succ]
          obtain ⟨v9, w9, run9, own9, hB9⟩ := push1P HOd.out hHeld.size (by have := HBD.out; omega) x
          refine wpAnyH_ready (rs := [5]) (by kernel_rfl) (by simp) ?_
          refine AllReadyH.cons (o := ⟨some 19, Op.call { callee := Callee.builtin Builtin.append, args := #[Operand.tmp 14, Operand.tmp 18], argTypes := #[22, 22] }, 22, _, _, _⟩) rfl (fun K hK => ?_) AllReadyH.nil
          try rw [if_pos (by rfl)]
          refine wpOp_append_run15 (.tmp 14) (.tmp 18) 22 rfl _ _ _ rfl rfl run9 ?_
          refine hK.out _ _ (hHeld.trans hB9) (fun _ => ?_)
          clear hK K run9
          have hB10 := hHeld.trans hB9
          clear hHeld
          have hHeld := hB10
          try simp only [Act.put, List.setIfInBounds_toArray, List.set_cons_zero, List.set_cons_succ]
          refine wpAnyH_take (i := 8) (oi := ⟨some 7, Op.assign (Operand.tmp 19), 22, _, _, _⟩) (v := ?v8d) rfl (by kernel_rfl) (by kernel_rfl) (by kernel_rfl) (fun _ _ _ h => h) (Or.inl ⟨by rfl, ?hy8d⟩) hHeld ?rest8d
          case hy8d => intro w9 hSw; go_simp; (try with_reducible rfl)
          try simp only [Act.put, List.setIfInBounds_toArray, List.set_cons_zero, List.set_cons_succ]
          refine wpAnyH_take (i := 9) (oi := ⟨some 0, Op.assign (Operand.tmp 21), 22, _, _, _⟩) (v := ?v9d) rfl (by kernel_rfl) (by kernel_rfl) (by kernel_rfl) (fun _ _ _ h => h) (Or.inl ⟨by rfl, ?hy9d⟩) hHeld ?rest9d
          case hy9d => intro w9 hSw; go_simp; (try with_reducible rfl)
          try simp only [Act.put, List.setIfInBounds_toArray, List.set_cons_zero]
          refine wpAnyH_done (by kernel_rfl) ?_ _
          refine NoPanic.normal ?_
          go_wp2
          go_roundw
          case rel =>
            obtain ⟨r1, r2, q1, q2, q3, q4, q5, q6, q7⟩ := HI.out
            refine ⟨A'', y :: B'', O ++ [x], n1 - 1, n2, no + 1, b1, if k1 = 1 then o1 else o1 + 6, k1 - 1, b2, o2, k2, rfl, rfl, by omega, l2, by omega, m2, ⟨r1.cut (by simp at q1; omega), r2, by simp at q1 ⊢; omega, q2, by simp [q3], by omega, fun z hz => q5 z (List.mem_cons_of_mem _ hz), q6, ?_⟩, by show World.ownsRow _ _ _ _ _ _ _; rw [rowLP_app]; exact own9, hB10⟩
            rw [← q7, List.cons_merge_cons, if_pos (by simp only [mle, decide_eq_true_eq]; rw [← HQ.out]; omega)]
            simp
          case measure => simp only [lenOf]; omega
end Go.Proofs.Ytmbinllefkifiaa
