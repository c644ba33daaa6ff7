/-
  order.sorted, of patterns.
-/
import Derived.Test.YtmbinllefkifiaaOrdMergeP
namespace Go.Proofs.Ytmbinllefkifiaa
open Go.RowKit

set_option maxRecDepth 100000 in
set_option maxHeartbeats 8000000 in
theorem sortedP_any (c : Pt → Pt → Int) (h3 : Ord3 c) : ∀ (n : Nat) (a : Option Addr) (cap : Nat) (L : List Pt) (w : World), L.length = n → (0 < n → ∃ b o, a = some ⟨b, o, none⟩ ∧ RwP w b o L) → n ≤ cap → cap ≤ 9223372036854775807 → n ≤ 1048576 →
    (∀ x ∈ L, ∀ y ∈ L, ∀ d, Below w.heap.size w d → Calls Try.prog 9 #[x.val, y.val] d fun e w' => e = .returned (.int .i64 (c x y)) ∧ Below d.heap.size d w') →
    Calls Try.prog 32 #[.slice a n cap, .func (.func 9) #[] #[]] w fun e w' => ∃ v r, e = .returned v ∧ Hid (w'.ownsRow w.heap.size 24 6 v n (rowLP r) ∧ St c L r) ∧ Below w.heap.size w w' := by
  intro n
  induction n using Nat.strongRecOn with
  | ind n ih =>
  intro a cap L w hL hR hc hm hn hC
  by_cases h2 : n < 2
  · have hcl := cloneP_any a n cap (fun i => L.getD i .nil) w (fun i hi => by
      obtain ⟨b, o, e, hr⟩ := hR (by omega)
      exact ⟨b, o, e, hr i _ (by simp [show i < L.length by omega])⟩) hn
    have hrl : rowP (fun i => L.getD i .nil) n = rowLP L := by rw [← hL]; exact rowP_getD L
    rw [hrl] at hcl
    have HS : Hid (St c L L) := St.refl (by
      match L, hL with
      | [], _ => exact List.Pairwise.nil
      | [x], _ => exact List.pairwise_singleton _ _
      | x :: y :: L, e => simp at e; omega)
    have h2' : ((n : Nat) : Int) < 2 := by omega
    clear ih hR hC hL
    go_enter Try.func32, Try.ntmps32
    go_wp2_with (go_at_call 55; refine hcl.mono ?_; clear hcl; rintro e w2 ⟨v, rfl, own2, hB2⟩)
    go_ret
    exact ⟨_, L, rfl, ⟨own2, HS.out⟩, hB2⟩
  · obtain ⟨b, o, rfl, hr⟩ := hR (by omega)
    obtain ⟨h, hh⟩ : ∃ h, h = n / 2 := ⟨_, rfl⟩
    have e1 : (L.take h).length = h := by rw [List.length_take]; omega
    have e2 : (L.drop h).length = n - h := by rw [List.length_drop]; omega
    have S1 : Hid (∀ d, Below w.heap.size w d → Calls Try.prog 32 #[.slice (some ⟨b, o, none⟩) h cap, .func (.func 9) #[] #[]] d fun e w' => ∃ v r, e = .returned v ∧ Hid (w'.ownsRow d.heap.size 24 6 v h (rowLP r) ∧ St c (L.take h) r) ∧ Below d.heap.size d w') := fun d hd =>
      ih h (by omega) (some ⟨b, o, none⟩) cap (L.take h) d e1 (fun _ => ⟨b, o, rfl, (hr.later hd).take h⟩) (by omega) hm (by omega) fun x hx y hy W hW => hC x (List.mem_of_mem_take hx) y (List.mem_of_mem_take hy) W (hd.trans (hW.mono hd.size))
    have S2 : Hid (∀ d, Below w.heap.size w d → Calls Try.prog 32 #[.slice (some ⟨b, o + h * 6, none⟩) (n - h) (cap - h), .func (.func 9) #[] #[]] d fun e w' => ∃ v r, e = .returned v ∧ Hid (w'.ownsRow d.heap.size 24 6 v (n - h) (rowLP r) ∧ St c (L.drop h) r) ∧ Below d.heap.size d w') := fun d hd =>
      ih (n - h) (by omega) (some ⟨b, o + h * 6, none⟩) (cap - h) (L.drop h) d e2 (fun _ => ⟨b, o + h * 6, rfl, (hr.later hd).drop h⟩) (by omega) (by omega) (by omega) fun x hx y hy W hW => hC x (List.mem_of_mem_drop hx) y (List.mem_of_mem_drop hy) W (hd.trans (hW.mono hd.size))
    have MG : Hid (∀ (B4 : Nat) (v4 : Value) (r4 : List Pt) (v9 : Value) (r9 : List Pt) (x4 x9 : World), Below w.heap.size w x4 → Below x4.heap.size x4 x9 → Hid (x4.ownsRow B4 24 6 v4 h (rowLP r4) ∧ St c (L.take h) r4) → Hid (x9.ownsRow x4.heap.size 24 6 v9 (n - h) (rowLP r9) ∧ St c (L.drop h) r9) →
        Calls Try.prog 56 #[v4, v9, .func (.func 9) #[] #[]] x9 fun e w' => ∃ v, e = .returned v ∧ Hid (w'.ownsRow x9.heap.size 24 6 v n (rowLP (r4.merge r9 (mle c))) ∧ St c L (r4.merge r9 (mle c))) ∧ Below x9.heap.size x9 w') := fun B4 v4 r4 v9 r9 x4 x9 hb4 hb9 g4 g9 => by
      have l4 := g4.out.2.perm.length_eq
      have l9 := g9.out.2.perm.length_eq
      rw [e1] at l4
      rw [e2] at l9
      obtain ⟨q4, k4, rfl, a1, a2, _, _, a5⟩ := ownLP (own_laterS g4.out.1 hb9) l4 (by omega)
      obtain ⟨q9, k9, rfl, b1, b2, _, _, b5⟩ := ownLP g9.out.1 l9 (by omega)
      have hw9 : Below w.heap.size w x9 := hb4.trans (hb9.mono hb4.size)
      have key := mergedP_any c q4 0 k4 q9 0 k9 r4 r9 x9 a5 b5 (by omega) (by omega) (by unfold maxLen at a2; omega) (by unfold maxLen at b2; omega) (by omega) fun x hx y hy d hd => hC y (List.mem_of_mem_drop (g9.out.2.perm.mem_iff.1 hy)) x (List.mem_of_mem_take (g4.out.2.perm.mem_iff.1 hx)) d (hw9.trans (hd.mono hw9.size))
      rw [l4, l9] at key
      refine key.mono ?_
      rintro e w' ⟨v, rfl, own, hB⟩
      have hs := St.merge h3 g4.out.2 g9.out.2
      rw [List.take_append_drop] at hs
      rw [show h + (n - h) = n by omega] at own
      exact ⟨v, rfl, ⟨own, hs⟩, hB⟩
    have HH : Hid (h < n ∧ n ≤ cap) := ⟨by omega, hc⟩
    have hh1 : (n : Int) / 2 = (h : Int) := by omega
    have hh2 : Int.tdiv (n : Int) 2 = (h : Int) := by rw [Int.tdiv_eq_ediv_of_nonneg (by omega)]; omega
    have hh3 : (h : Int) ≤ (cap : Int) := by omega
    have hh4 : (h : Int) ≤ (n : Int) := by omega
    have h2' : ¬ ((n : Nat) : Int) < 2 := by omega
    clear ih hR hC hL hh e1 e2 hr
    go_enter Try.func32, Try.ntmps32
    go_wp2_with fail
    refine wp_region_noPanic ?_
    refine wp_region_held_drew (S := fun w' => Below w.heap.size w w') (by kernel_rfl) ((Below.refl _ _).drew) (fun hHeld => ?_)
    have hT : Below w.heap.size w w.drew := hHeld
    obtain ⟨d, hd⟩ : ∃ d, d = w.drew := ⟨_, rfl⟩
    rw [← hd] at hHeld hT ⊢
    clear hd
    refine wpAnyH_take (i := 0) (oi := ⟨some 14, Op.move (Operand.tmp 0), 22, _, _, _⟩) (v := ?v0) rfl (by kernel_rfl) (by kernel_rfl) (by kernel_rfl) (fun _ _ _ h => h) (Or.inl ⟨by rfl, ?hy0⟩) hHeld ?rest0
    case hy0 => intro w9 hSw; go_simp; (try with_reducible rfl)
    try simp only [Act.put, List.setIfInBounds_toArray, List.set_cons_zero, List.set_cons_succ]
    refine wpAnyH_take (i := 1) (oi := ⟨some 15, Op.move (Operand.tmp 5), 3, _, _, _⟩) (v := ?v1) rfl (by kernel_rfl) (by kernel_rfl) (by kernel_rfl) (fun _ _ _ h => h) (Or.inl ⟨by rfl, ?hy1⟩) hHeld ?rest1
    case hy1 => intro w9 hSw; go_simp; (try with_reducible rfl)
    try simp only [Act.put, List.setIfInBounds_toArray, List.set_cons_zero, List.set_cons_succ]
    refine wpAnyH_take (i := 2) (oi := ⟨some 16, Op.slice 22 (Operand.tmp 14) none (some (Operand.tmp 15)) none, 22, _, _, _⟩) (v := .slice (some ⟨b, o, none⟩) h cap) rfl (by kernel_rfl) (by kernel_rfl) (by kernel_rfl) (fun _ _ _ h => h) (Or.inl ⟨by rfl, ?hy2⟩) hHeld ?rest2
    case hy2 => intro w9 hSw; go_simp
    try simp only [Act.put, List.setIfInBounds_toArray, List.set_cons_zero, List.set_cons_succ]
    refine wpAnyH_take (i := 3) (oi := ⟨some 17, Op.move (Operand.tmp 1), 27, _, _, _⟩) (v := ?v3) rfl (by kernel_rfl) (by kernel_rfl) (by kernel_rfl) (fun _ _ _ h => h) (Or.inl ⟨by rfl, ?hy3⟩) hHeld ?rest3
    case hy3 => intro w9 hSw; go_simp; (try with_reducible rfl)
    try simp only [Act.put, List.setIfInBounds_toArray, List.set_cons_zero, List.set_cons_succ]
    refine wpAnyH_take (i := 5) (oi := ⟨some 19, Op.move (Operand.tmp 0), 22, _, _, _⟩) (v := ?v5) rfl (by kernel_rfl) (by kernel_rfl) (by kernel_rfl) (fun _ _ _ h => h) (Or.inl ⟨by rfl, ?hy5⟩) hHeld ?rest5
    case hy5 => intro w9 hSw; go_simp; (try with_reducible rfl)
    try simp only [Act.put, List.setIfInBounds_toArray, List.set_cons_zero, List.set_cons_succ]
    refine wpAnyH_take (i := 6) (oi := ⟨some 20, Op.move (Operand.tmp 5), 3, _, _, _⟩) (v := ?v6) rfl (by kernel_rfl) (by kernel_rfl) (by kernel_rfl) (fun _ _ _ h => h) (Or.inl ⟨by rfl, ?hy6⟩) hHeld ?rest6
    case hy6 => intro w9 hSw; go_simp; (try with_reducible rfl)
    try simp only [Act.put, List.setIfInBounds_toArray, List.set_cons_zero, List.set_cons_succ]
    refine wpAnyH_take (i := 7) (oi := ⟨some 21, Op.slice 22 (Operand.tmp 19) (some (Operand.tmp 20)) none none, 22, _, _, _⟩) (v := .slice (some ⟨b, o + h * 6, none⟩) (n - h) (cap - h)) rfl (by kernel_rfl) (by kernel_rfl) (by kernel_rfl) (fun _ _ _ h => h) (Or.inl ⟨by rfl, ?hy7⟩) hHeld ?rest7
    case hy7 => intro w9 hSw; go_simp; try (have := HH.out; omega)
    try simp only [Act.put, List.setIfInBounds_toArray, List.set_cons_zero, List.set_cons_succ]
    refine wpAnyH_take (i := 8) (oi := ⟨some 22, Op.move (Operand.tmp 1), 27, _, _, _⟩) (v := ?v8) rfl (by kernel_rfl) (by kernel_rfl) (by kernel_rfl) (fun _ _ _ h => h) (Or.inl ⟨by rfl, ?hy8⟩) hHeld ?rest8
    case hy8 => intro w9 hSw; go_simp; (try with_reducible rfl)
    try simp only [Act.put, List.setIfInBounds_toArray, List.set_cons_zero, List.set_cons_succ]
    refine wpAnyH_take (i := 10) (oi := ⟨some 24, Op.move (Operand.tmp 1), 27, _, _, _⟩) (v := ?v10) rfl (by kernel_rfl) (by kernel_rfl) (by kernel_rfl) (fun _ _ _ h => h) (Or.inl ⟨by rfl, ?hy10⟩) hHeld ?rest10
    case hy10 => intro w9 hSw; go_simp; (try with_reducible rfl)
    try simp only [Act.put, List.setIfInBounds_toArray, List.set_cons_zero, List.set_cons_succ]
    refine wpAnyH_ready (rs := [4]) (by kernel_rfl) (by simp) ?_
    refine AllReadyH.cons (o := ⟨some 18, Op.call { callee := Callee.value (Operand.func 32), args := #[Operand.tmp 16, Operand.tmp 17], argTypes := #[22, 27] }, 22, _, _, _⟩) rfl (fun K hK => ?_) AllReadyH.nil
    go_simp
    refine (S1.out _ hT).mono ?_
    rintro e x4 ⟨v4, r4, rfl, hr4, hN4⟩
    go_wp2_with fail
    have hT4 : Below w.heap.size w x4 := hT.trans (hN4.mono hT.size)
    refine hK.out _ _ (hHeld.trans (hN4.mono hHeld.size)) (fun _ => held_up (S' := fun w' => Below x4.heap.size x4 w') (fun w' h' => (hHeld.trans (hN4.mono hHeld.size)).trans (h'.mono (Nat.le_trans hHeld.size hN4.size))) _ _ _ _ ?_)
    clear hK K hHeld hT
    have hT : Below w.heap.size w x4 := hT4
    have hHeld : Below x4.heap.size x4 x4 := Below.refl _ _
    clear hT4 hN4
    try simp only [Act.put, List.setIfInBounds_toArray, List.set_cons_zero, List.set_cons_succ]
    refine wpAnyH_ready (rs := [9]) (by kernel_rfl) (by simp) ?_
    refine AllReadyH.cons (o := ⟨some 23, Op.call { callee := Callee.value (Operand.func 32), args := #[Operand.tmp 21, Operand.tmp 22], argTypes := #[22, 27] }, 22, _, _, _⟩) rfl (fun K hK => ?_) AllReadyH.nil
    go_simp
    refine (S2.out _ hT).mono ?_
    rintro e x9 ⟨v9, r9, rfl, hr9, hN9⟩
    have C11 := MG.out _ v4 r4 v9 r9 x4 x9 hT hN9 hr4 hr9
    go_wp2_with fail
    have hT9 : Below w.heap.size w x9 := hT.trans (hN9.mono hT.size)
    refine hK.out _ _ (hHeld.trans (hN9.mono hHeld.size)) (fun _ => held_up (S' := fun w' => Below x9.heap.size x9 w') (fun w' h' => (hHeld.trans (hN9.mono hHeld.size)).trans (h'.mono (Nat.le_trans hHeld.size hN9.size))) _ _ _ _ ?_)
    clear hK K hHeld hT
    have hT : Below w.heap.size w x9 := hT9
    have hHeld : Below x9.heap.size x9 x9 := Below.refl _ _
    clear hT9 hN9
    try simp only [Act.put, List.setIfInBounds_toArray, List.set_cons_zero, List.set_cons_succ]
    refine wpAnyH_ready (rs := [11]) (by kernel_rfl) (by simp) ?_
    refine AllReadyH.cons (o := ⟨some 25, Op.call { callee := Callee.value (Operand.func 56), args := #[Operand.tmp 18, Operand.tmp 23, Operand.tmp 24], argTypes := #[22, 22, 27] }, 22, _, _, _⟩) rfl (fun K hK => ?_) AllReadyH.nil
    go_simp
    refine (C11).mono ?_
    rintro e x11 ⟨v11, rfl, hr11, hN11⟩
    have hz11 := hT.size
    go_wp2_with fail
    have hT11 : Below w.heap.size w x11 := hT.trans (hN11.mono hT.size)
    refine hK.out _ _ (hHeld.trans (hN11.mono hHeld.size)) (fun _ => held_up (S' := fun w' => Below x11.heap.size x11 w') (fun w' h' => (hHeld.trans (hN11.mono hHeld.size)).trans (h'.mono (Nat.le_trans hHeld.size hN11.size))) _ _ _ _ ?_)
    clear hK K hHeld hT
    have hT : Below w.heap.size w x11 := hT11
    have hHeld : Below x11.heap.size x11 x11 := Below.refl _ _
    clear hT11 hN11
    try simp only [Act.put, List.setIfInBounds_toArray, List.set_cons_zero, List.set_cons_succ]
    refine wpAnyH_take (i := 12) (oi := ⟨some 4, Op.assign (Operand.tmp 25), 22, _, _, _⟩) (v := ?v12) rfl (by kernel_rfl) (by kernel_rfl) (by kernel_rfl) (fun _ _ _ h => h) (Or.inl ⟨by rfl, ?hy12⟩) hHeld ?rest12
    case hy12 => intro w9 hSw; go_simp; (try with_reducible rfl)
    try simp only [Act.put, List.setIfInBounds_toArray, List.set_cons_zero, List.set_cons_succ]
    refine wpAnyH_done (by kernel_rfl) ?_ _
    refine NoPanic.normal ?_
    go_wp2
    go_ret
    exact ⟨_, _, rfl, ⟨own_low15 hr11.out.1 hz11, hr11.out.2⟩, hT⟩
end Go.Proofs.Ytmbinllefkifiaa
