/-
  order.merged, of conditions.
  order.sorted, of conditions.
-/
import Derived.Test.YtcdehohmgfocdaaSBrief
import Derived.Test.YtcdehohmgfocdaaSOrdRows
import Derived.WalkMore
namespace Go.Proofs.Ytcdehohmgfocdaa
open Go.RowKit

set_option maxRecDepth 100000 in
set_option maxHeartbeats 8000000 in
theorem mergedX_any (c : X → X → Int) (b1 o1 k1 b2 o2 k2 : Nat) (A B : List X) (w : World) (h1 : RwX w b1 o1 A) (h2 : RwX w b2 o2 B) (l1 : A.length ≤ k1) (l2 : B.length ≤ k2) (m1 : k1 ≤ 9223372036854775807) (m2 : k2 ≤ 9223372036854775807) (hn : A.length + B.length ≤ 1048576)
    (hC : ∀ x ∈ A, ∀ y ∈ B, ∀ d, Below w.heap.size w d → Calls Try.prog 36 #[y.val, x.val] d fun e w' => e = .returned (.int .i64 (c y x)) ∧ Below d.heap.size d w') :
    Calls Try.prog 58 #[.slice (some ⟨b1, o1, none⟩) A.length k1, .slice (some ⟨b2, o2, none⟩) B.length k2, .func (.func 36) #[] #[]] w fun e w' => ∃ v, e = .returned v ∧ w'.ownsRow w.heap.size 39 7 v (A.length + B.length) (rowLX (A.merge B (mle c))) ∧ Below w.heap.size w w' := by
  obtain ⟨n1, e1⟩ : ∃ n1, n1 = A.length := ⟨_, rfl⟩
  obtain ⟨n2, e2⟩ : ∃ n2, n2 = B.length := ⟨_, rfl⟩
  rw [← e1] at l1 hn ⊢
  rw [← e2] at l2 hn ⊢
  have H1 : Hid (RwX w b1 o1 A) := h1
  have H2 : Hid (RwX w b2 o2 B) := h2
  have E1 : Hid (n1 = A.length) := e1
  have E2 : Hid (n2 = B.length) := e2
  have HC : Hid (∀ x ∈ A, ∀ y ∈ B, ∀ d, Below w.heap.size w d → Calls Try.prog 36 #[y.val, x.val] d fun e w' => e = .returned (.int .i64 (c y x)) ∧ Below d.heap.size d w') := hC
  obtain ⟨R, hR⟩ : ∃ R, R = A.merge B (mle c) := ⟨_, rfl⟩
  rw [← hR]
  have HR : Hid (R = A.merge B (mle c)) := hR
  obtain ⟨N, hN⟩ : ∃ N, N = n1 + n2 := ⟨_, rfl⟩
  rw [← hN]
  have HN : Hid (N = n1 + n2) := hN
  obtain ⟨i0, hi, hz0, hz1, hz2⟩ := info_parts infoX
  clear h1 h2 e1 e2 hC hR hN
  go_enter Try.func58, Try.ntmps58
  go_wp2
  go_step3
  go_wp2_with (first
    | (at_make; refine wpList_make_own _ rfl _ _ 23 rfl w.heap.size 39 i0 _ 7 Try.underlying23 hi hz0 hz1 .i64 .i64 _ (n1 + n2) rfl rfl (by simp) (by rw [hz2]; omega) (by unfold maxLen; omega) (Nat.le_refl _) ?_; intro w1 own1 grow1; have hB1 : Below w.heap.size w w1 := (Below.refl _ _).grown grow1 (Nat.le_refl _) (fun k e => by cases e)))
  go_step3
  go_wp2_with fail
  go_loopw [0, 1, 7] (fun u0 u1 u7 wr => ∃ (A' B' O : List X) (n1 n2 no b1 o1 k1 b2 o2 k2 : Nat), u0 = .slice (some ⟨b1, o1, none⟩) n1 k1 ∧ u1 = .slice (some ⟨b2, o2, none⟩) n2 k2 ∧ n1 ≤ k1 ∧ n2 ≤ k2 ∧ k1 ≤ 9223372036854775807 ∧ k2 ≤ 9223372036854775807 ∧
    Hid (RwX w b1 o1 A' ∧ RwX w b2 o2 B' ∧ A'.length = n1 ∧ B'.length = n2 ∧ O.length = no ∧ no + n1 + n2 = N ∧ (∀ x ∈ A', x ∈ A) ∧ (∀ y ∈ B', y ∈ B) ∧ O ++ A'.merge B' (mle c) = R) ∧ Hid (wr.ownsRow w.heap.size 39 7 u7 no (rowLX O)) ∧ Below w.heap.size w wr) (fun u0 u1 _ _ => lenOf u0 + lenOf u1)
  case atStart => exact ⟨A, B, [], n1, n2, 0, b1, o1, k1, b2, o2, k2, rfl, rfl, l1, l2, m1, m2, ⟨H1.out, H2.out, E1.out.symm, E2.out.symm, rfl, by have := HN.out; omega, fun _ h => h, fun _ h => h, HR.out.symm⟩, own1, hB1⟩
  case round =>
    obtain ⟨A', B', O, n1, n2, no, b1, o1, k1, b2, o2, k2, rfl, rfl, l1, l2, m1, m2, HI, HO, hB⟩ := hrel
    have HBD : Hid (no + n1 + n2 ≤ 1048576) := by have := HI.out.2.2.2.2.2.1; have := HN.out; show _ ≤ _; omega
    by_cases z1 : n1 = 0
    · obtain ⟨r1, r2, q1, q2, q3, q4, -, -, q7⟩ := HI.out
      have eM : A'.merge B' (mle c) = A' ++ B' := by
        rw [List.length_eq_zero_iff.1 (q1.trans z1)]; simp
      obtain ⟨v8, w8, run8, own8, hB8⟩ := pushLX HO.out hB.size b1 o1 n1 k1 A' (r1.later hB) q1 (by have := HBD.out; omega)
      have hB18 := hB.trans hB8
      obtain ⟨v9, w9, run9, own9, hB9⟩ := pushLX own8 hB18.size b2 o2 n2 k2 B' (r2.later hB18) q2 (by have := HBD.out; omega)
      have HF : Hid (w9.ownsRow w.heap.size 39 7 v9 N (rowLX R) ∧ Below w.heap.size w w9) := ⟨by rw [← q4, ← q7, eM, rowLX_app, rowLX_app, ← List.append_assoc]; exact own9, hB18.trans hB9⟩
      have R8 : Hid (_ = _) := run8
      have R9 : Hid (_ = _) := run9
      clear r1 r2 q1 q2 q3 q4 q7 eM own8 own9 hB8 hB9 hB18 run8 run9 HI HO
      subst z1
      go_wp2_with (first
        | (at_builtin; refine wpList_append_run rfl (.tmp 51) (.tmp 52) 23 rfl _ _ _ rfl rfl R9.out ?_)
        | (at_builtin; refine wpList_append_run rfl (.tmp 49) (.tmp 50) 23 rfl _ _ _ rfl rfl R8.out ?_))
      rw [Exit.noGoto_ret]
      go_ret
      exact ⟨_, rfl, HF.out.1, HF.out.2⟩
    · by_cases z2 : n2 = 0
      · obtain ⟨r1, r2, q1, q2, q3, q4, -, -, q7⟩ := HI.out
        have eM : A'.merge B' (mle c) = A' ++ B' := by
          rw [List.length_eq_zero_iff.1 (q2.trans z2)]; simp
        obtain ⟨v8, w8, run8, own8, hB8⟩ := pushLX HO.out hB.size b1 o1 n1 k1 A' (r1.later hB) q1 (by have := HBD.out; omega)
        have hB18 := hB.trans hB8
        obtain ⟨v9, w9, run9, own9, hB9⟩ := pushLX own8 hB18.size b2 o2 n2 k2 B' (r2.later hB18) q2 (by have := HBD.out; omega)
        have HF : Hid (w9.ownsRow w.heap.size 39 7 v9 N (rowLX R) ∧ Below w.heap.size w w9) := ⟨by rw [← q4, ← q7, eM, rowLX_app, rowLX_app, ← List.append_assoc]; exact own9, hB18.trans hB9⟩
        have R8 : Hid (_ = _) := run8
        have R9 : Hid (_ = _) := run9
        clear r1 r2 q1 q2 q3 q4 q7 eM own8 own9 hB8 hB9 hB18 run8 run9 HI HO
        subst z2
        have z1' : (((n1 : Nat) : Int) == 0) = false := by simpa using z1
        go_wp2_with (first
          | (at_builtin; refine wpList_append_run rfl (.tmp 51) (.tmp 52) 23 rfl _ _ _ rfl rfl R9.out ?_)
          | (at_builtin; refine wpList_append_run rfl (.tmp 49) (.tmp 50) 23 rfl _ _ _ rfl rfl R8.out ?_))
        rw [Exit.noGoto_ret]
        go_ret
        exact ⟨_, rfl, HF.out.1, HF.out.2⟩
      · obtain ⟨x, A'', rfl⟩ : ∃ x A'', A' = x :: A'' := by
          have := HI.out.2.2.1
          cases A' with
          | nil => simp at this; omega
          | cons x A'' => exact ⟨x, A'', rfl⟩
        obtain ⟨y, B'', rfl⟩ : ∃ y B'', B' = y :: B'' := by
          have := HI.out.2.2.2.1
          cases B' with
          | nil => simp at this; omega
          | cons y B'' => exact ⟨y, B'', rfl⟩
        have M1 : Hid (Node w b1 o1 x) := HI.out.1.head
        have M2 : Hid (Node w b2 o2 y) := HI.out.2.1.head
        have N1 : Hid (Node wr b1 o1 x) := M1.out.later hB
        have N2 : Hid (Node wr b2 o2 y) := M2.out.later hB
        obtain ⟨q, hqq⟩ : ∃ q, q = c y x := ⟨_, rfl⟩
        have HQ : Hid (q = c y x) := hqq
        have hc : Hid (∀ d, Below wr.heap.size wr d → Calls Try.prog 36 #[y.val, x.val] d fun e w' => e = .returned (.int .i64 q) ∧ Below d.heap.size d w') := fun d h => by
          rw [hqq]
          exact HC.out x (HI.out.2.2.2.2.2.2.1 x (by simp)) y (HI.out.2.2.2.2.2.2.2.1 y (by simp)) d (hB.trans (h.mono hB.size))
        have z1' : (((n1 : Nat) : Int) == 0) = false := by simpa using z1
        have z2' : (((n2 : Nat) : Int) == 0) = false := by simpa using z2
        have g1 : (1 : Int) ≤ (n1 : Int) := by omega
        have g2 : (1 : Int) ≤ (n2 : Int) := by omega
        have p1 : 0 < n1 := by omega
        have p2 : 0 < n2 := by omega
        clear hqq
        by_cases hq : q < 0
        · have hq' := hq
          go_wp2_with fail
          refine wp_region_noPanic ?_
          refine wp_region_held_drew (S := fun w' => Below wr.heap.size wr w') (by kernel_rfl) ((Below.refl _ _).drew) (fun hHeld => ?_)
          have hT : Below wr.heap.size wr wr.drew := hHeld
          obtain ⟨d, hd⟩ : ∃ d, d = wr.drew := ⟨_, rfl⟩
          rw [← hd] at hHeld hT ⊢
          clear hd
          refine wpAnyH_take (i := 0) (oi := ⟨some 32, .move (.tmp 2), 60, _, _, _⟩) (v := ?v0a) rfl (by kernel_rfl) (by kernel_rfl) (by kernel_rfl) (fun _ _ _ h => h) (Or.inl ⟨by rfl, ?hy0a⟩) hHeld ?rest0a
          case hy0a => intro w9 hSw; go_simp; (try with_reducible rfl)
          try simp only [Act.put, s_put, s_0, s_1]
          refine wpAnyH_take (i := 1) (oi := ⟨some 33, .move (.tmp 1), 23, _, _, _⟩) (v := ?v1a) rfl (by kernel_rfl) (by kernel_rfl) (by kernel_rfl) (fun _ _ _ h => h) (Or.inl ⟨by rfl, ?hy1a⟩) hHeld ?rest1a
          case hy1a => intro w9 hSw; go_simp; (try with_reducible rfl)
          try simp only [Act.put, s_put, s_0, s_1]
          refine wpAnyH_take (i := 2) (oi := ⟨some 34, .indexAddr 23 (.tmp 33) (.const (Value.int IntKind.i64 0)), 0, _, _, _⟩) (v := ?v2a) rfl (by kernel_rfl) (by kernel_rfl) (by kernel_rfl) (fun _ _ _ h => h) (Or.inl ⟨by rfl, ?hy2a⟩) hHeld ?rest2a
          case hy2a => intro w9 hSw; go_simp; (try with_reducible rfl)
          try simp only [Act.put, s_put, s_0, s_1]
          refine wpAnyH_take (i := 3) (oi := ⟨some 35, .load 39 (.tmp 34), 39, _, _, _⟩) (v := ?v3a) rfl (by kernel_rfl) (by kernel_rfl) (by kernel_rfl) (fun _ _ _ h => h) (Or.inl ⟨by rfl, ?hy3a⟩) hHeld ?rest3a
          case hy3a => intro w9 hSw; obtain ⟨d0, d1, d2, d3, d4, d5, d6⟩ := N2.out.later hSw; go_simp; (try with_reducible rfl)
          try simp only [Act.put, s_put, s_0, s_1]
          refine wpAnyH_take (i := 4) (oi := ⟨some 36, .move (.tmp 0), 23, _, _, _⟩) (v := ?v4a) rfl (by kernel_rfl) (by kernel_rfl) (by kernel_rfl) (fun _ _ _ h => h) (Or.inl ⟨by rfl, ?hy4a⟩) hHeld ?rest4a
          case hy4a => intro w9 hSw; go_simp; (try with_reducible rfl)
          try simp only [Act.put, s_put, s_0, s_1]
          refine wpAnyH_take (i := 5) (oi := ⟨some 37, .indexAddr 23 (.tmp 36) (.const (Value.int IntKind.i64 0)), 0, _, _, _⟩) (v := ?v5a) rfl (by kernel_rfl) (by kernel_rfl) (by kernel_rfl) (fun _ _ _ h => h) (Or.inl ⟨by rfl, ?hy5a⟩) hHeld ?rest5a
          case hy5a => intro w9 hSw; go_simp; (try with_reducible rfl)
          try simp only [Act.put, s_put, s_0, s_1]
          refine wpAnyH_take (i := 6) (oi := ⟨some 38, .load 39 (.tmp 37), 39, _, _, _⟩) (v := ?v6a) rfl (by kernel_rfl) (by kernel_rfl) (by kernel_rfl) (fun _ _ _ h => h) (Or.inl ⟨by rfl, ?hy6a⟩) hHeld ?rest6a
          case hy6a => intro w9 hSw; obtain ⟨d0, d1, d2, d3, d4, d5, d6⟩ := N1.out.later hSw; go_simp; (try with_reducible rfl)
          try simp only [Act.put, s_put, s_0, s_1]
          refine wpAnyH_ready (rs := [7]) (by kernel_rfl) (by simp) ?_
          refine AllReadyH.cons (o := ⟨some 39, .call { callee := .value (.tmp 32), args := #[.tmp 35, .tmp 38], argTypes := #[39, 39] }, 3, _, _, _⟩) rfl (fun K hK => ?_) AllReadyH.nil
          go_simp
          refine (hc.out _ hHeld).mono ?_
          rintro e x7 ⟨rfl, hN7⟩
          go_wp2_with fail
          have hT7 : Below wr.heap.size wr x7 := hT.trans (hN7.mono hT.size)
          refine hK.out _ _ (hHeld.trans (hN7.mono hHeld.size)) (fun _ => held_up (S' := fun w' => Below x7.heap.size x7 w') (fun w' h' => (hHeld.trans (hN7.mono hHeld.size)).trans (h'.mono (Nat.le_trans hHeld.size hN7.size))) _ _ _ _ ?_)
          clear hK K hHeld hT
          have hT : Below wr.heap.size wr x7 := hT7
          have hHeld : Below x7.heap.size x7 x7 := Below.refl _ _
          clear hT7 hN7
          try simp only [Act.put, s_put, s_0, s_1]
          refine wpAnyH_take (i := 8) (oi := ⟨some 40, .binOp BinOp.lss 3 (.tmp 39) (.const (Value.int IntKind.i64 0)) 3, 4, _, _, _⟩) (v := ?v8a) rfl (by kernel_rfl) (by kernel_rfl) (by kernel_rfl) (fun _ _ _ h => h) (Or.inl ⟨by rfl, ?hy8a⟩) hHeld ?rest8a
          case hy8a => intro w9 hSw; go_simp; (try with_reducible rfl)
          try simp only [Act.put, s_put, s_0, s_1]
          refine wpAnyH_take (i := 9) (oi := ⟨some 31, .assign (.tmp 40), 4, _, _, _⟩) (v := ?v9a) rfl (by kernel_rfl) (by kernel_rfl) (by kernel_rfl) (fun _ _ _ h => h) (Or.inl ⟨by rfl, ?hy9a⟩) hHeld ?rest9a
          case hy9a => intro w9 hSw; go_simp; (try with_reducible rfl)
          try simp only [Act.put, s_put, s_0, s_1]
          refine wpAnyH_done (by kernel_rfl) ?_ _
          refine NoPanic.normal ?_
          have hB7 : Below w.heap.size w x7 := hB.trans (hT.mono hB.size)
          have HO7 : Hid (x7.ownsRow w.heap.size 39 7 u7 no (rowLX O)) := own_laterS HO.out hT
          clear hT hHeld hc HO
          go_wp2_with fail
          refine wp_region_noPanic ?_
          refine wp_region_held_drew (S := fun w' => Below w.heap.size w w') (by kernel_rfl) (hB7.drew) (fun hHeld => ?_)
          obtain ⟨d, hd⟩ : ∃ d, d = x7.drew := ⟨_, rfl⟩
          have HOd : Hid (d.ownsRow w.heap.size 39 7 u7 no (rowLX O)) := by rw [hd]; exact HO7.out.drew
          rw [← hd] at hHeld ⊢
          clear hd
          refine wpAnyH_take (i := 0) (oi := ⟨some 41, .move (.tmp 7), 23, _, _, _⟩) (v := ?v0c) rfl (by kernel_rfl) (by kernel_rfl) (by kernel_rfl) (fun _ _ _ h => h) (Or.inl ⟨by rfl, ?hy0c⟩) hHeld ?rest0c
          case hy0c => intro w9 hSw; go_simp; (try with_reducible rfl)
          try simp only [Act.put, s_put, s_0, s_1]
          refine wpAnyH_take (i := 1) (oi := ⟨some 42, .move (.tmp 1), 23, _, _, _⟩) (v := ?v1c) rfl (by kernel_rfl) (by kernel_rfl) (by kernel_rfl) (fun _ _ _ h => h) (Or.inl ⟨by rfl, ?hy1c⟩) hHeld ?rest1c
          case hy1c => intro w9 hSw; go_simp; (try with_reducible rfl)
          try simp only [Act.put, s_put, s_0, s_1]
          refine wpAnyH_take (i := 2) (oi := ⟨some 43, .indexAddr 23 (.tmp 42) (.const (Value.int IntKind.i64 0)), 0, _, _, _⟩) (v := ?v2c) rfl (by kernel_rfl) (by kernel_rfl) (by kernel_rfl) (fun _ _ _ h => h) (Or.inl ⟨by rfl, ?hy2c⟩) hHeld ?rest2c
          case hy2c => intro w9 hSw; go_simp; (try with_reducible rfl)
          try simp only [Act.put, s_put, s_0, s_1]
          refine wpAnyH_take (i := 3) (oi := ⟨some 44, .load 39 (.tmp 43), 39, _, _, _⟩) (v := ?v3c) rfl (by kernel_rfl) (by kernel_rfl) (by kernel_rfl) (fun _ _ _ h => h) (Or.inl ⟨by rfl, ?hy3c⟩) hHeld ?rest3c
          case hy3c => intro w9 hSw; obtain ⟨d0, d1, d2, d3, d4, d5, d6⟩ := M2.out.later hSw; go_simp; (try with_reducible rfl)
          try simp only [Act.put, s_put, s_0, s_1]
          refine wpAnyH_take (i := 6) (oi := ⟨some 47, .move (.tmp 1), 23, _, _, _⟩) (v := ?v6c) rfl (by kernel_rfl) (by kernel_rfl) (by kernel_rfl) (fun _ _ _ h => h) (Or.inl ⟨by rfl, ?hy6c⟩) hHeld ?rest6c
          case hy6c => intro w9 hSw; go_simp; (try with_reducible rfl)
          try simp only [Act.put, s_put, s_0, s_1]
          refine wpAnyH_take (i := 7) (oi := ⟨some 48, .slice 23 (.tmp 47) (some (.const (Value.int IntKind.i64 1))) none none, 23, _, _, _⟩) (v := .slice (some ⟨b2, if k2 = 1 then o2 else o2 + 7, none⟩) (n2 - 1) (k2 - 1)) rfl (by kernel_rfl) (by kernel_rfl) (by kernel_rfl) (fun _ _ _ h => h) (Or.inl ⟨by rfl, ?hy7c⟩) hHeld ?rest7c
          case hy7c => intro w9 hSw; go_simp; first | rfl | (split <;> simp_all)
          try simp only [Act.put, s_put, s_0, s_1]
          refine wpAnyH_ready (rs := [4]) (by kernel_rfl) (by simp) ?_
          refine AllReadyH.cons (o := ⟨some 45, .buildSlice 23 1 #[(0, .tmp 44)], 23, _, _, _⟩) rfl (fun K hK => ?_) AllReadyH.nil
          go_simp
          refine hK.out _ _ (hHeld.alloc hHeld.size _) (fun _ => ?_)
          clear hK K
          try simp only [Act.put, s_put, s_0, s_1]
          obtain ⟨v9, w9, run9, own9, hB9⟩ := push1X HOd.out hHeld.size (by have := HBD.out; omega) y
          refine wpAnyH_ready (rs := [5]) (by kernel_rfl) (by simp) ?_
          refine AllReadyH.cons (o := ⟨some 46, .call { callee := .builtin Builtin.append, args := #[.tmp 41, .tmp 45], argTypes := #[23, 23] }, 23, _, _, _⟩) rfl (fun K hK => ?_) AllReadyH.nil
          try rw [if_pos (by rfl)]
          refine wpOp_append_run15 (.tmp 41) (.tmp 45) 23 rfl _ _ _ rfl rfl run9 ?_
          refine hK.out _ _ (hHeld.trans hB9) (fun _ => ?_)
          clear hK K run9
          have hB10 := hHeld.trans hB9
          clear hHeld
          have hHeld := hB10
          try simp only [Act.put, s_put, s_0, s_1]
          refine wpAnyH_take (i := 8) (oi := ⟨some 7, .assign (.tmp 46), 23, _, _, _⟩) (v := ?v8c) rfl (by kernel_rfl) (by kernel_rfl) (by kernel_rfl) (fun _ _ _ h => h) (Or.inl ⟨by rfl, ?hy8c⟩) hHeld ?rest8c
          case hy8c => intro w9 hSw; go_simp; (try with_reducible rfl)
          try simp only [Act.put, s_put, s_0, s_1]
          refine wpAnyH_take (i := 9) (oi := ⟨some 1, .assign (.tmp 48), 23, _, _, _⟩) (v := ?v9c) rfl (by kernel_rfl) (by kernel_rfl) (by kernel_rfl) (fun _ _ _ h => h) (Or.inl ⟨by rfl, ?hy9c⟩) hHeld ?rest9c
          case hy9c => intro w9 hSw; go_simp; (try with_reducible rfl)
          try simp only [Act.put, s_put, s_0, s_1]
          refine wpAnyH_done (by kernel_rfl) ?_ _
          refine NoPanic.normal ?_
          go_wp2
          go_roundw
          case rel =>
            obtain ⟨r1, r2, q1, q2, q3, q4, q5, q6, q7⟩ := HI.out
            refine ⟨x :: A'', B'', O ++ [y], n1, n2 - 1, no + 1, b1, o1, k1, b2, if k2 = 1 then o2 else o2 + 7, k2 - 1, rfl, rfl, l1, by omega, m1, by omega, ⟨r1, r2.cut (by simp at q2; omega), q1, by simp at q2 ⊢; omega, by simp [q3], by omega, q5, fun z hz => q6 z (List.mem_cons_of_mem _ hz), ?_⟩, by show World.ownsRow _ _ _ _ _ _ _; rw [rowLX_app]; exact own9, hB10⟩
            rw [← q7, List.cons_merge_cons, if_neg (by simp only [mle, decide_eq_true_eq]; rw [← HQ.out]; exact fun h => h hq)]
            simp
          case measure => simp only [lenOf]; omega
        · have hq' := hq
          go_wp2_with fail
          refine wp_region_noPanic ?_
          refine wp_region_held_drew (S := fun w' => Below wr.heap.size wr w') (by kernel_rfl) ((Below.refl _ _).drew) (fun hHeld => ?_)
          have hT : Below wr.heap.size wr wr.drew := hHeld
          obtain ⟨d, hd⟩ : ∃ d, d = wr.drew := ⟨_, rfl⟩
          rw [← hd] at hHeld hT ⊢
          clear hd
          refine wpAnyH_take (i := 0) (oi := ⟨some 32, .move (.tmp 2), 60, _, _, _⟩) (v := ?v0b) rfl (by kernel_rfl) (by kernel_rfl) (by kernel_rfl) (fun _ _ _ h => h) (Or.inl ⟨by rfl, ?hy0b⟩) hHeld ?rest0b
          case hy0b => intro w9 hSw; go_simp; (try with_reducible rfl)
          try simp only [Act.put, s_put, s_0, s_1]
          refine wpAnyH_take (i := 1) (oi := ⟨some 33, .move (.tmp 1), 23, _, _, _⟩) (v := ?v1b) rfl (by kernel_rfl) (by kernel_rfl) (by kernel_rfl) (fun _ _ _ h => h) (Or.inl ⟨by rfl, ?hy1b⟩) hHeld ?rest1b
          case hy1b => intro w9 hSw; go_simp; (try with_reducible rfl)
          try simp only [Act.put, s_put, s_0, s_1]
          refine wpAnyH_take (i := 2) (oi := ⟨some 34, .indexAddr 23 (.tmp 33) (.const (Value.int IntKind.i64 0)), 0, _, _, _⟩) (v := ?v2b) rfl (by kernel_rfl) (by kernel_rfl) (by kernel_rfl) (fun _ _ _ h => h) (Or.inl ⟨by rfl, ?hy2b⟩) hHeld ?rest2b
          case hy2b => intro w9 hSw; go_simp; (try with_reducible rfl)
          try simp only [Act.put, s_put, s_0, s_1]
          refine wpAnyH_take (i := 3) (oi := ⟨some 35, .load 39 (.tmp 34), 39, _, _, _⟩) (v := ?v3b) rfl (by kernel_rfl) (by kernel_rfl) (by kernel_rfl) (fun _ _ _ h => h) (Or.inl ⟨by rfl, ?hy3b⟩) hHeld ?rest3b
          case hy3b => intro w9 hSw; obtain ⟨d0, d1, d2, d3, d4, d5, d6⟩ := N2.out.later hSw; go_simp; (try with_reducible rfl)
          try simp only [Act.put, s_put, s_0, s_1]
          refine wpAnyH_take (i := 4) (oi := ⟨some 36, .move (.tmp 0), 23, _, _, _⟩) (v := ?v4b) rfl (by kernel_rfl) (by kernel_rfl) (by kernel_rfl) (fun _ _ _ h => h) (Or.inl ⟨by rfl, ?hy4b⟩) hHeld ?rest4b
          case hy4b => intro w9 hSw; go_simp; (try with_reducible rfl)
          try simp only [Act.put, s_put, s_0, s_1]
          refine wpAnyH_take (i := 5) (oi := ⟨some 37, .indexAddr 23 (.tmp 36) (.const (Value.int IntKind.i64 0)), 0, _, _, _⟩) (v := ?v5b) rfl (by kernel_rfl) (by kernel_rfl) (by kernel_rfl) (fun _ _ _ h => h) (Or.inl ⟨by rfl, ?hy5b⟩) hHeld ?rest5b
          case hy5b => intro w9 hSw; go_simp; (try with_reducible rfl)
          try simp only [Act.put, s_put, s_0, s_1]
          refine wpAnyH_take (i := 6) (oi := ⟨some 38, .load 39 (.tmp 37), 39, _, _, _⟩) (v := ?v6b) rfl (by kernel_rfl) (by kernel_rfl) (by kernel_rfl) (fun _ _ _ h => h) (Or.inl ⟨by rfl, ?hy6b⟩) hHeld ?rest6b
          case hy6b => intro w9 hSw; obtain ⟨d0, d1, d2, d3, d4, d5, d6⟩ := N1.out.later hSw; go_simp; (try with_reducible rfl)
          try simp only [Act.put, s_put, s_0, s_1]
          refine wpAnyH_ready (rs := [7]) (by kernel_rfl) (by simp) ?_
          refine AllReadyH.cons (o := ⟨some 39, .call { callee := .value (.tmp 32), args := #[.tmp 35, .tmp 38], argTypes := #[39, 39] }, 3, _, _, _⟩) rfl (fun K hK => ?_) AllReadyH.nil
          go_simp
          refine (hc.out _ hHeld).mono ?_
          rintro e x7 ⟨rfl, hN7⟩
          go_wp2_with fail
          have hT7 : Below wr.heap.size wr x7 := hT.trans (hN7.mono hT.size)
          refine hK.out _ _ (hHeld.trans (hN7.mono hHeld.size)) (fun _ => held_up (S' := fun w' => Below x7.heap.size x7 w') (fun w' h' => (hHeld.trans (hN7.mono hHeld.size)).trans (h'.mono (Nat.le_trans hHeld.size hN7.size))) _ _ _ _ ?_)
          clear hK K hHeld hT
          have hT : Below wr.heap.size wr x7 := hT7
          have hHeld : Below x7.heap.size x7 x7 := Below.refl _ _
          clear hT7 hN7
          try simp only [Act.put, s_put, s_0, s_1]
          refine wpAnyH_take (i := 8) (oi := ⟨some 40, .binOp BinOp.lss 3 (.tmp 39) (.const (Value.int IntKind.i64 0)) 3, 4, _, _, _⟩) (v := ?v8b) rfl (by kernel_rfl) (by kernel_rfl) (by kernel_rfl) (fun _ _ _ h => h) (Or.inl ⟨by rfl, ?hy8b⟩) hHeld ?rest8b
          case hy8b => intro w9 hSw; go_simp; (try with_reducible rfl)
          try simp only [Act.put, s_put, s_0, s_1]
          refine wpAnyH_take (i := 9) (oi := ⟨some 31, .assign (.tmp 40), 4, _, _, _⟩) (v := ?v9b) rfl (by kernel_rfl) (by kernel_rfl) (by kernel_rfl) (fun _ _ _ h => h) (Or.inl ⟨by rfl, ?hy9b⟩) hHeld ?rest9b
          case hy9b => intro w9 hSw; go_simp; (try with_reducible rfl)
          try simp only [Act.put, s_put, s_0, s_1]
          refine wpAnyH_done (by kernel_rfl) ?_ _
          refine NoPanic.normal ?_
          have hB7 : Below w.heap.size w x7 := hB.trans (hT.mono hB.size)
          have HO7 : Hid (x7.ownsRow w.heap.size 39 7 u7 no (rowLX O)) := own_laterS HO.out hT
          clear hT hHeld hc HO
          go_wp2_with fail
          refine wp_region_noPanic ?_
          refine wp_region_held_drew (S := fun w' => Below w.heap.size w w') (by kernel_rfl) (hB7.drew) (fun hHeld => ?_)
          obtain ⟨d, hd⟩ : ∃ d, d = x7.drew := ⟨_, rfl⟩
          have HOd : Hid (d.ownsRow w.heap.size 39 7 u7 no (rowLX O)) := by rw [hd]; exact HO7.out.drew
          rw [← hd] at hHeld ⊢
          clear hd
          refine wpAnyH_take (i := 0) (oi := ⟨some 14, .move (.tmp 7), 23, _, _, _⟩) (v := ?v0d) rfl (by kernel_rfl) (by kernel_rfl) (by kernel_rfl) (fun _ _ _ h => h) (Or.inl ⟨by rfl, ?hy0d⟩) hHeld ?rest0d
          case hy0d => intro w9 hSw; go_simp; (try with_reducible rfl)
          try simp only [Act.put, s_put, s_0, s_1]
          refine wpAnyH_take (i := 1) (oi := ⟨some 15, .move (.tmp 0), 23, _, _, _⟩) (v := ?v1d) rfl (by kernel_rfl) (by kernel_rfl) (by kernel_rfl) (fun _ _ _ h => h) (Or.inl ⟨by rfl, ?hy1d⟩) hHeld ?rest1d
          case hy1d => intro w9 hSw; go_simp; (try with_reducible rfl)
          try simp only [Act.put, s_put, s_0, s_1]
          refine wpAnyH_take (i := 2) (oi := ⟨some 16, .indexAddr 23 (.tmp 15) (.const (Value.int IntKind.i64 0)), 0, _, _, _⟩) (v := ?v2d) rfl (by kernel_rfl) (by kernel_rfl) (by kernel_rfl) (fun _ _ _ h => h) (Or.inl ⟨by rfl, ?hy2d⟩) hHeld ?rest2d
          case hy2d => intro w9 hSw; go_simp; (try with_reducible rfl)
          try simp only [Act.put, s_put, s_0, s_1]
          refine wpAnyH_take (i := 3) (oi := ⟨some 17, .load 39 (.tmp 16), 39, _, _, _⟩) (v := ?v3d) rfl (by kernel_rfl) (by kernel_rfl) (by kernel_rfl) (fun _ _ _ h => h) (Or.inl ⟨by rfl, ?hy3d⟩) hHeld ?rest3d
          case hy3d => intro w9 hSw; obtain ⟨d0, d1, d2, d3, d4, d5, d6⟩ := M1.out.later hSw; go_simp; (try with_reducible rfl)
          try simp only [Act.put, s_put, s_0, s_1]
          refine wpAnyH_take (i := 6) (oi := ⟨some 20, .move (.tmp 0), 23, _, _, _⟩) (v := ?v6d) rfl (by kernel_rfl) (by kernel_rfl) (by kernel_rfl) (fun _ _ _ h => h) (Or.inl ⟨by rfl, ?hy6d⟩) hHeld ?rest6d
          case hy6d => intro w9 hSw; go_simp; (try with_reducible rfl)
          try simp only [Act.put, s_put, s_0, s_1]
          refine wpAnyH_take (i := 7) (oi := ⟨some 21, .slice 23 (.tmp 20) (some (.const (Value.int IntKind.i64 1))) none none, 23, _, _, _⟩) (v := .slice (some ⟨b1, if k1 = 1 then o1 else o1 + 7, none⟩) (n1 - 1) (k1 - 1)) rfl (by kernel_rfl) (by kernel_rfl) (by kernel_rfl) (fun _ _ _ h => h) (Or.inl ⟨by rfl, ?hy7d⟩) hHeld ?rest7d
          case hy7d => intro w9 hSw; go_simp; first | rfl | (split <;> simp_all)
          try simp only [Act.put, s_put, s_0, s_1]
          refine wpAnyH_ready (rs := [4]) (by kernel_rfl) (by simp) ?_
          refine AllReadyH.cons (o := ⟨some 18, .buildSlice 23 1 #[(0, .tmp 17)], 23, _, _, _⟩) rfl (fun K hK => ?_) AllReadyH.nil
          go_simp
          refine hK.out _ _ (hHeld.alloc hHeld.size _) (fun _ => ?_)
          clear hK K
          try simp only [Act.put, s_put, s_0, s_1]
          obtain ⟨v9, w9, run9, own9, hB9⟩ := push1X HOd.out hHeld.size (by have := HBD.out; omega) x
          refine wpAnyH_ready (rs := [5]) (by kernel_rfl) (by simp) ?_
          refine AllReadyH.cons (o := ⟨some 19, .call { callee := .builtin Builtin.append, args := #[.tmp 14, .tmp 18], argTypes := #[23, 23] }, 23, _, _, _⟩) rfl (fun K hK => ?_) AllReadyH.nil
          try rw [if_pos (by rfl)]
          refine wpOp_append_run15 (.tmp 14) (.tmp 18) 23 rfl _ _ _ rfl rfl run9 ?_
          refine hK.out _ _ (hHeld.trans hB9) (fun _ => ?_)
          clear hK K run9
          have hB10 := hHeld.trans hB9
          clear hHeld
          have hHeld := hB10
          try simp only [Act.put, s_put, s_0, s_1]
          refine wpAnyH_take (i := 8) (oi := ⟨some 7, .assign (.tmp 19), 23, _, _, _⟩) (v := ?v8d) rfl (by kernel_rfl) (by kernel_rfl) (by kernel_rfl) (fun _ _ _ h => h) (Or.inl ⟨by rfl, ?hy8d⟩) hHeld ?rest8d
          case hy8d => intro w9 hSw; go_simp; (try with_reducible rfl)
          try simp only [Act.put, s_put, s_0, s_1]
          refine wpAnyH_take (i := 9) (oi := ⟨some 0, .assign (.tmp 21), 23, _, _, _⟩) (v := ?v9d) rfl (by kernel_rfl) (by kernel_rfl) (by kernel_rfl) (fun _ _ _ h => h) (Or.inl ⟨by rfl, ?hy9d⟩) hHeld ?rest9d
          case hy9d => intro w9 hSw; go_simp; (try with_reducible rfl)
          try simp only [Act.put, s_put, s_0]
          refine wpAnyH_done (by kernel_rfl) ?_ _
          refine NoPanic.normal ?_
          go_wp2
          go_roundw
          case rel =>
            obtain ⟨r1, r2, q1, q2, q3, q4, q5, q6, q7⟩ := HI.out
            refine ⟨A'', y :: B'', O ++ [x], n1 - 1, n2, no + 1, b1, if k1 = 1 then o1 else o1 + 7, k1 - 1, b2, o2, k2, rfl, rfl, by omega, l2, by omega, m2, ⟨r1.cut (by simp at q1; omega), r2, by simp at q1 ⊢; omega, q2, by simp [q3], by omega, fun z hz => q5 z (List.mem_cons_of_mem _ hz), q6, ?_⟩, by show World.ownsRow _ _ _ _ _ _ _; rw [rowLX_app]; exact own9, hB10⟩
            rw [← q7, List.cons_merge_cons, if_pos (by simp only [mle, decide_eq_true_eq]; rw [← HQ.out]; omega)]
            simp
          case measure => simp only [lenOf]; omega
end Go.Proofs.Ytcdehohmgfocdaa
namespace Go.Proofs.Ytcdehohmgfocdaa
open Go.RowKit

set_option maxRecDepth 100000 in
set_option maxHeartbeats 8000000 in
theorem sortedX_any (c : X → X → Int) (h3 : Ord3 c) : ∀ (n : Nat) (a : Option Addr) (cap : Nat) (L : List X) (w : World), L.length = n → (0 < n → ∃ b o, a = some ⟨b, o, none⟩ ∧ RwX w b o L) → n ≤ cap → cap ≤ 9223372036854775807 → n ≤ 1048576 →
    (∀ x ∈ L, ∀ y ∈ L, ∀ d, Below w.heap.size w d → Calls Try.prog 36 #[x.val, y.val] d fun e w' => e = .returned (.int .i64 (c x y)) ∧ Below d.heap.size d w') →
    Calls Try.prog 35 #[.slice a n cap, .func (.func 36) #[] #[]] w fun e w' => ∃ v r, e = .returned v ∧ Hid (w'.ownsRow w.heap.size 39 7 v n (rowLX r) ∧ St c L r) ∧ Below w.heap.size w w' := by
  intro n
  induction n using Nat.strongRecOn with
  | ind n ih =>
  intro a cap L w hL hR hc hm hn hC
  by_cases h2 : n < 2
  · have hcl := clone_any a n cap (fun i => L.getD i .nil) w (fun i hi => by
      obtain ⟨b, o, e, hr⟩ := hR (by omega)
      exact ⟨b, o, e, hr i _ (by simp [show i < L.length by omega])⟩) hn
    have hrl : rowX (fun i => L.getD i .nil) n = rowLX L := by rw [← hL]; exact rowX_getD L
    rw [hrl] at hcl
    have HS : Hid (St c L L) := St.refl (by
      match L, hL with
      | [], _ => exact List.Pairwise.nil
      | [x], _ => exact List.pairwise_singleton _ _
      | x :: y :: L, e => simp at e; omega)
    have h2' : ((n : Nat) : Int) < 2 := by omega
    clear ih hR hC hL
    go_enter Try.func35, Try.ntmps35
    go_wp2_with (go_at_call 57; refine hcl.mono ?_; clear hcl; rintro e w2 ⟨v, rfl, own2, hB2⟩)
    go_ret
    exact ⟨_, L, rfl, ⟨own2, HS.out⟩, hB2⟩
  · obtain ⟨b, o, rfl, hr⟩ := hR (by omega)
    obtain ⟨h, hh⟩ : ∃ h, h = n / 2 := ⟨_, rfl⟩
    have e1 : (L.take h).length = h := by rw [List.length_take]; omega
    have e2 : (L.drop h).length = n - h := by rw [List.length_drop]; omega
    have S1 : Hid (∀ d, Below w.heap.size w d → Calls Try.prog 35 #[.slice (some ⟨b, o, none⟩) h cap, .func (.func 36) #[] #[]] d fun e w' => ∃ v r, e = .returned v ∧ Hid (w'.ownsRow d.heap.size 39 7 v h (rowLX r) ∧ St c (L.take h) r) ∧ Below d.heap.size d w') := fun d hd =>
      ih h (by omega) (some ⟨b, o, none⟩) cap (L.take h) d e1 (fun _ => ⟨b, o, rfl, (hr.later hd).take h⟩) (by omega) hm (by omega) fun x hx y hy W hW => hC x (List.mem_of_mem_take hx) y (List.mem_of_mem_take hy) W (hd.trans (hW.mono hd.size))
    have S2 : Hid (∀ d, Below w.heap.size w d → Calls Try.prog 35 #[.slice (some ⟨b, o + h * 7, none⟩) (n - h) (cap - h), .func (.func 36) #[] #[]] d fun e w' => ∃ v r, e = .returned v ∧ Hid (w'.ownsRow d.heap.size 39 7 v (n - h) (rowLX r) ∧ St c (L.drop h) r) ∧ Below d.heap.size d w') := fun d hd =>
      ih (n - h) (by omega) (some ⟨b, o + h * 7, none⟩) (cap - h) (L.drop h) d e2 (fun _ => ⟨b, o + h * 7, rfl, (hr.later hd).drop h⟩) (by omega) (by omega) (by omega) fun x hx y hy W hW => hC x (List.mem_of_mem_drop hx) y (List.mem_of_mem_drop hy) W (hd.trans (hW.mono hd.size))
    have MG : Hid (∀ (B4 : Nat) (v4 : Value) (r4 : List X) (v9 : Value) (r9 : List X) (x4 x9 : World), Below w.heap.size w x4 → Below x4.heap.size x4 x9 → Hid (x4.ownsRow B4 39 7 v4 h (rowLX r4) ∧ St c (L.take h) r4) → Hid (x9.ownsRow x4.heap.size 39 7 v9 (n - h) (rowLX r9) ∧ St c (L.drop h) r9) →
        Calls Try.prog 58 #[v4, v9, .func (.func 36) #[] #[]] x9 fun e w' => ∃ v, e = .returned v ∧ Hid (w'.ownsRow x9.heap.size 39 7 v n (rowLX (r4.merge r9 (mle c))) ∧ St c L (r4.merge r9 (mle c))) ∧ Below x9.heap.size x9 w') := fun B4 v4 r4 v9 r9 x4 x9 hb4 hb9 g4 g9 => by
      have l4 := g4.out.2.perm.length_eq
      have l9 := g9.out.2.perm.length_eq
      rw [e1] at l4
      rw [e2] at l9
      obtain ⟨q4, k4, rfl, a1, a2, _, _, a5⟩ := ownLX (own_laterS g4.out.1 hb9) l4 (by omega)
      obtain ⟨q9, k9, rfl, b1, b2, _, _, b5⟩ := ownLX g9.out.1 l9 (by omega)
      have hw9 : Below w.heap.size w x9 := hb4.trans (hb9.mono hb4.size)
      have key := mergedX_any c q4 0 k4 q9 0 k9 r4 r9 x9 a5 b5 (by omega) (by omega) (by unfold maxLen at a2; omega) (by unfold maxLen at b2; omega) (by omega) fun x hx y hy d hd => hC y (List.mem_of_mem_drop (g9.out.2.perm.mem_iff.1 hy)) x (List.mem_of_mem_take (g4.out.2.perm.mem_iff.1 hx)) d (hw9.trans (hd.mono hw9.size))
      rw [l4, l9] at key
      refine key.mono ?_
      rintro e w' ⟨v, rfl, own, hB⟩
      have hs := St.merge h3 g4.out.2 g9.out.2
      rw [List.take_append_drop] at hs
      rw [show h + (n - h) = n by omega] at own
      exact ⟨v, rfl, ⟨own, hs⟩, hB⟩
    have HH : Hid (h < n ∧ n ≤ cap) := ⟨by omega, hc⟩
    have hh1 : (n : Int) / 2 = (h : Int) := by omega
    have hh2 : Int.tdiv (n : Int) 2 = (h : Int) := by rw [Int.tdiv_eq_ediv_of_nonneg (by omega)]; omega
    have hh3 : (h : Int) ≤ (cap : Int) := by omega
    have hh4 : (h : Int) ≤ (n : Int) := by omega
    have h2' : ¬ ((n : Nat) : Int) < 2 := by omega
    clear ih hR hC hL hh e1 e2 hr
    go_enter Try.func35, Try.ntmps35
    go_wp2_with fail
    refine wp_region_noPanic ?_
    refine wp_region_held_drew (S := fun w' => Below w.heap.size w w') (by kernel_rfl) ((Below.refl _ _).drew) (fun hHeld => ?_)
    have hT : Below w.heap.size w w.drew := hHeld
    obtain ⟨d, hd⟩ : ∃ d, d = w.drew := ⟨_, rfl⟩
    rw [← hd] at hHeld hT ⊢
    clear hd
    refine wpAnyH_take (i := 0) (oi := ⟨some 14, .move (.tmp 0), 23, _, _, _⟩) (v := ?v0) rfl (by kernel_rfl) (by kernel_rfl) (by kernel_rfl) (fun _ _ _ h => h) (Or.inl ⟨by rfl, ?hy0⟩) hHeld ?rest0
    case hy0 => intro w9 hSw; go_simp; (try with_reducible rfl)
    try simp only [Act.put, s_put, s_0, s_1]
    refine wpAnyH_take (i := 1) (oi := ⟨some 15, .move (.tmp 5), 3, _, _, _⟩) (v := ?v1) rfl (by kernel_rfl) (by kernel_rfl) (by kernel_rfl) (fun _ _ _ h => h) (Or.inl ⟨by rfl, ?hy1⟩) hHeld ?rest1
    case hy1 => intro w9 hSw; go_simp; (try with_reducible rfl)
    try simp only [Act.put, s_put, s_0, s_1]
    refine wpAnyH_take (i := 2) (oi := ⟨some 16, .slice 23 (.tmp 14) none (some (.tmp 15)) none, 23, _, _, _⟩) (v := .slice (some ⟨b, o, none⟩) h cap) rfl (by kernel_rfl) (by kernel_rfl) (by kernel_rfl) (fun _ _ _ h => h) (Or.inl ⟨by rfl, ?hy2⟩) hHeld ?rest2
    case hy2 => intro w9 hSw; go_simp
    try simp only [Act.put, s_put, s_0, s_1]
    refine wpAnyH_take (i := 3) (oi := ⟨some 17, .move (.tmp 1), 60, _, _, _⟩) (v := ?v3) rfl (by kernel_rfl) (by kernel_rfl) (by kernel_rfl) (fun _ _ _ h => h) (Or.inl ⟨by rfl, ?hy3⟩) hHeld ?rest3
    case hy3 => intro w9 hSw; go_simp; (try with_reducible rfl)
    try simp only [Act.put, s_put, s_0, s_1]
    refine wpAnyH_take (i := 5) (oi := ⟨some 19, .move (.tmp 0), 23, _, _, _⟩) (v := ?v5) rfl (by kernel_rfl) (by kernel_rfl) (by kernel_rfl) (fun _ _ _ h => h) (Or.inl ⟨by rfl, ?hy5⟩) hHeld ?rest5
    case hy5 => intro w9 hSw; go_simp; (try with_reducible rfl)
    try simp only [Act.put, s_put, s_0, s_1]
    refine wpAnyH_take (i := 6) (oi := ⟨some 20, .move (.tmp 5), 3, _, _, _⟩) (v := ?v6) rfl (by kernel_rfl) (by kernel_rfl) (by kernel_rfl) (fun _ _ _ h => h) (Or.inl ⟨by rfl, ?hy6⟩) hHeld ?rest6
    case hy6 => intro w9 hSw; go_simp; (try with_reducible rfl)
    try simp only [Act.put, s_put, s_0, s_1]
    refine wpAnyH_take (i := 7) (oi := ⟨some 21, .slice 23 (.tmp 19) (some (.tmp 20)) none none, 23, _, _, _⟩) (v := .slice (some ⟨b, o + h * 7, none⟩) (n - h) (cap - h)) rfl (by kernel_rfl) (by kernel_rfl) (by kernel_rfl) (fun _ _ _ h => h) (Or.inl ⟨by rfl, ?hy7⟩) hHeld ?rest7
    case hy7 => intro w9 hSw; go_simp; try (have := HH.out; omega)
    try simp only [Act.put, s_put, s_0, s_1]
    refine wpAnyH_take (i := 8) (oi := ⟨some 22, .move (.tmp 1), 60, _, _, _⟩) (v := ?v8) rfl (by kernel_rfl) (by kernel_rfl) (by kernel_rfl) (fun _ _ _ h => h) (Or.inl ⟨by rfl, ?hy8⟩) hHeld ?rest8
    case hy8 => intro w9 hSw; go_simp; (try with_reducible rfl)
    try simp only [Act.put, s_put, s_0, s_1]
    refine wpAnyH_take (i := 10) (oi := ⟨some 24, .move (.tmp 1), 60, _, _, _⟩) (v := ?v10) rfl (by kernel_rfl) (by kernel_rfl) (by kernel_rfl) (fun _ _ _ h => h) (Or.inl ⟨by rfl, ?hy10⟩) hHeld ?rest10
    case hy10 => intro w9 hSw; go_simp; (try with_reducible rfl)
    try simp only [Act.put, s_put, s_0, s_1]
    refine wpAnyH_ready (rs := [4]) (by kernel_rfl) (by simp) ?_
    refine AllReadyH.cons (o := ⟨some 18, .call { callee := .value (.func 35), args := #[.tmp 16, .tmp 17], argTypes := #[23, 60] }, 23, _, _, _⟩) rfl (fun K hK => ?_) AllReadyH.nil
    go_simp
    refine (S1.out _ hT).mono ?_
    rintro e x4 ⟨v4, r4, rfl, hr4, hN4⟩
    go_wp2_with fail
    have hT4 : Below w.heap.size w x4 := hT.trans (hN4.mono hT.size)
    refine hK.out _ _ (hHeld.trans (hN4.mono hHeld.size)) (fun _ => held_up (S' := fun w' => Below x4.heap.size x4 w') (fun w' h' => (hHeld.trans (hN4.mono hHeld.size)).trans (h'.mono (Nat.le_trans hHeld.size hN4.size))) _ _ _ _ ?_)
    clear hK K hHeld hT
    have hT : Below w.heap.size w x4 := hT4
    have hHeld : Below x4.heap.size x4 x4 := Below.refl _ _
    clear hT4 hN4
    try simp only [Act.put, s_put, s_0, s_1]
    refine wpAnyH_ready (rs := [9]) (by kernel_rfl) (by simp) ?_
    refine AllReadyH.cons (o := ⟨some 23, .call { callee := .value (.func 35), args := #[.tmp 21, .tmp 22], argTypes := #[23, 60] }, 23, _, _, _⟩) rfl (fun K hK => ?_) AllReadyH.nil
    go_simp
    refine (S2.out _ hT).mono ?_
    rintro e x9 ⟨v9, r9, rfl, hr9, hN9⟩
    have C11 := MG.out _ v4 r4 v9 r9 x4 x9 hT hN9 hr4 hr9
    go_wp2_with fail
    have hT9 : Below w.heap.size w x9 := hT.trans (hN9.mono hT.size)
    refine hK.out _ _ (hHeld.trans (hN9.mono hHeld.size)) (fun _ => held_up (S' := fun w' => Below x9.heap.size x9 w') (fun w' h' => (hHeld.trans (hN9.mono hHeld.size)).trans (h'.mono (Nat.le_trans hHeld.size hN9.size))) _ _ _ _ ?_)
    clear hK K hHeld hT
    have hT : Below w.heap.size w x9 := hT9
    have hHeld : Below x9.heap.size x9 x9 := Below.refl _ _
    clear hT9 hN9
    try simp only [Act.put, s_put, s_0, s_1]
    refine wpAnyH_ready (rs := [11]) (by kernel_rfl) (by simp) ?_
    refine AllReadyH.cons (o := ⟨some 25, .call { callee := .value (.func 58), args := #[.tmp 18, .tmp 23, .tmp 24], argTypes := #[23, 23, 60] }, 23, _, _, _⟩) rfl (fun K hK => ?_) AllReadyH.nil
    go_simp
    refine (C11).mono ?_
    rintro e x11 ⟨v11, rfl, hr11, hN11⟩
    have hz11 := hT.size
    go_wp2_with fail
    have hT11 : Below w.heap.size w x11 := hT.trans (hN11.mono hT.size)
    refine hK.out _ _ (hHeld.trans (hN11.mono hHeld.size)) (fun _ => held_up (S' := fun w' => Below x11.heap.size x11 w') (fun w' h' => (hHeld.trans (hN11.mono hHeld.size)).trans (h'.mono (Nat.le_trans hHeld.size hN11.size))) _ _ _ _ ?_)
    clear hK K hHeld hT
    have hT : Below w.heap.size w x11 := hT11
    have hHeld : Below x11.heap.size x11 x11 := Below.refl _ _
    clear hT11 hN11
    try simp only [Act.put, s_put, s_0, s_1]
    refine wpAnyH_take (i := 12) (oi := ⟨some 4, .assign (.tmp 25), 23, _, _, _⟩) (v := ?v12) rfl (by kernel_rfl) (by kernel_rfl) (by kernel_rfl) (fun _ _ _ h => h) (Or.inl ⟨by rfl, ?hy12⟩) hHeld ?rest12
    case hy12 => intro w9 hSw; go_simp; (try with_reducible rfl)
    try simp only [Act.put, s_put, s_0, s_1]
    refine wpAnyH_done (by kernel_rfl) ?_ _
    refine NoPanic.normal ?_
    go_wp2
    go_ret
    exact ⟨_, _, rfl, ⟨own_low15 hr11.out.1 hz11, hr11.out.2⟩, hT⟩
end Go.Proofs.Ytcdehohmgfocdaa
