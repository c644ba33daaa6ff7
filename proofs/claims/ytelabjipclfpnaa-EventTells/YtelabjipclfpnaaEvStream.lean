/-
  event.Check and event.Stream (P8.1).
-/
import Derived.Test.YtelabjipclfpnaaEvRefusal
import Derived.Test.YtelabjipclfpnaaSchBook
namespace Go.Proofs.Ytelabjipclfpnaa
open Go.RowKit

set_option maxRecDepth 100000 in
set_option maxHeartbeats 2000000 in
theorem evCheck_any (a : Option Addr) (n cap : Nat) (Q : Nat → Sch) (x : Evt) (w : World) (H : Schs w a n Q) (hn : n ≤ 9223372036854775807) (HE : IsEvt w x) :
    Calls Try.prog 13 #[.slice a n cap, evtV x.ty x.t x.v] w fun e w' => e = .returned (.int .i64 (evZ n Q x)) ∧ Below w.heap.size w w' := by
  have c4 : ∀ d, Below w.heap.size w d → Calls Try.prog 20 #[.int .i64 (bookZ n Q), .slice a n cap, evtV x.ty x.t x.v] d fun e w' => e = .returned (.int .i64 (evZ n Q x)) ∧ Below d.heap.size d w' := fun d hd => refusal_any (bookZ n Q) a n cap Q x d (H.later hd) hn (HE.later hd)
  have c1 : ∀ d, Below w.heap.size w d → Calls Try.prog 19 #[.slice a n cap] d fun e w' => e = .returned (.int .i64 (bookZ n Q)) ∧ Below d.heap.size d w' := fun d hd => book_any a n cap Q d (H.later hd)
  generalize bookZ n Q = z at c1 c4
  generalize evZ n Q x = y at c4 ⊢
  obtain ⟨ty, t, va, vl, vc, vs⟩ := x
  simp only [Evt.v] at c4 ⊢
  have hB0 : Below w.heap.size w (w.alloc (evtO ty t (.slice va vl vc))) := (Below.refl _ _).alloc (Nat.le_refl _) _
  have x0 : (w.alloc (evtO ty t (.slice va vl vc))).cell? ⟨w.heap.size, 0, none⟩ = some (.string ty) := by simp
  have x1 : (w.alloc (evtO ty t (.slice va vl vc))).cell? ⟨w.heap.size, 1, none⟩ = some (.int .i64 t) := by simp
  have x2 : (w.alloc (evtO ty t (.slice va vl vc))).cell? ⟨w.heap.size, 2, none⟩ = some (.slice va vl vc) := by simp
  clear H HE
  go_enter Try.func13, Try.ntmps13
  go_upto_region 1 with fail
  obtain ⟨W, hW⟩ : ∃ W, W = w.alloc (evtO ty t (.slice va vl vc)) := ⟨_, rfl⟩
  rw [← hW] at hB0 x0 x1 x2
  rw [← hW]
  clear hW
  have C1 : Hid (∀ d, Below W.heap.size W d → Calls Try.prog 19 _ d _) := fun d hd => c1 d (bt hB0 hd)
  have C4 : Hid (∀ d, Below W.heap.size W d → Calls Try.prog 20 _ d _) := fun d hd => c4 d (bt hB0 hd)
  clear c1 c4
  refine wp_region_noPanic ?_
  refine wp_region_held_drew (S := fun w' => Below W.heap.size W w') (by kernel_rfl) ((Below.refl _ _).drew) (fun hHeld => ?_)
  have hT : Below W.heap.size W W.drew := hHeld
  obtain ⟨d, hd⟩ : ∃ d, d = W.drew := ⟨_, rfl⟩
  rw [← hd] at hHeld hT ⊢
  clear hd
  refine wpAnyH_take (i := 0) (oi := ⟨some 5, Op.move (Operand.tmp 0), 22, _, _, _⟩) (v := ?v0) rfl (by kernel_rfl) (by kernel_rfl) (by kernel_rfl) (fun _ _ _ h => h) (Or.inl ⟨by rfl, ?hy0⟩) hHeld ?rest0
  case hy0 => intro w9 hSw; go_simp; (try with_reducible rfl)
  try simp only [Act.put, List.setIfInBounds_toArray, List.set_cons_zero, List.set_cons_succ]
  refine wpAnyH_take (i := 2) (oi := ⟨some 7, Op.move (Operand.tmp 0), 22, _, _, _⟩) (v := ?v2) rfl (by kernel_rfl) (by kernel_rfl) (by kernel_rfl) (fun _ _ _ h => h) (Or.inl ⟨by rfl, ?hy2⟩) hHeld ?rest2
  case hy2 => intro w9 hSw; go_simp; (try with_reducible rfl)
  try simp only [Act.put, List.setIfInBounds_toArray, List.set_cons_zero, List.set_cons_succ]
  refine wpAnyH_take (i := 3) (oi := ⟨some 8, Op.load 26 (Operand.tmp 3), 26, _, _, _⟩) (v := ?v3) rfl (by kernel_rfl) (by kernel_rfl) (by kernel_rfl) (fun _ _ _ h => h) (Or.inl ⟨by rfl, ?hy3⟩) hHeld ?rest3
  case hy3 => intro w9 hSw; have c0 := cell_later x0 hSw; have c1 := cell_later x1 hSw; have c2 := cell_later x2 hSw; go_simp; (try with_reducible rfl)
  try simp only [Act.put, List.setIfInBounds_toArray, List.set_cons_zero, List.set_cons_succ]
  refine wpAnyH_ready (rs := [1]) (by kernel_rfl) (by simp) ?_
  refine AllReadyH.cons (o := ⟨some 6, Op.call { callee := Callee.value (Operand.func 19), args := #[Operand.tmp 5], argTypes := #[22] }, 28, _, _, _⟩) rfl (fun K hK => ?_) AllReadyH.nil
  go_simp
  refine (C1.out _ hHeld).mono ?_
  rintro e x1 ⟨rfl, hN1⟩
  go_wp2_with fail
  have hT1 : Below W.heap.size W x1 := hT.trans (hN1.mono hT.size)
  refine hK.out _ _ (hHeld.trans (hN1.mono hHeld.size)) (fun _ => held_up (S' := fun w' => Below x1.heap.size x1 w') (fun w' h' => (hHeld.trans (hN1.mono hHeld.size)).trans (h'.mono (Nat.le_trans hHeld.size hN1.size))) _ _ _ _ ?_)
  clear hK K hHeld hT
  have hT : Below W.heap.size W x1 := hT1
  have hHeld : Below x1.heap.size x1 x1 := Below.refl _ _
  clear hT1 hN1
  try simp only [Act.put, List.setIfInBounds_toArray, List.set_cons_zero, List.set_cons_succ]
  refine wpAnyH_ready (rs := [4]) (by kernel_rfl) (by simp) ?_
  refine AllReadyH.cons (o := ⟨some 9, Op.call { callee := Callee.value (Operand.func 20), args := #[Operand.tmp 6, Operand.tmp 7, Operand.tmp 8], argTypes := #[28, 22, 26] }, 28, _, _, _⟩) rfl (fun K hK => ?_) AllReadyH.nil
  go_simp
  refine (C4.out _ hT).mono ?_
  rintro e x4 ⟨rfl, hN4⟩
  go_wp2_with fail
  have hT4 : Below W.heap.size W x4 := hT.trans (hN4.mono hT.size)
  refine hK.out _ _ (hHeld.trans (hN4.mono hHeld.size)) (fun _ => held_up (S' := fun w' => Below x4.heap.size x4 w') (fun w' h' => (hHeld.trans (hN4.mono hHeld.size)).trans (h'.mono (Nat.le_trans hHeld.size hN4.size))) _ _ _ _ ?_)
  clear hK K hHeld hT
  have hT : Below W.heap.size W x4 := hT4
  have hHeld : Below x4.heap.size x4 x4 := Below.refl _ _
  clear hT4 hN4
  try simp only [Act.put, List.setIfInBounds_toArray, List.set_cons_zero, List.set_cons_succ]
  refine wpAnyH_take (i := 5) (oi := ⟨some 4, Op.assign (Operand.tmp 9), 28, _, _, _⟩) (v := ?v5) rfl (by kernel_rfl) (by kernel_rfl) (by kernel_rfl) (fun _ _ _ h => h) (Or.inl ⟨by rfl, ?hy5⟩) hHeld ?rest5
  case hy5 => intro w9 hSw; go_simp; (try with_reducible rfl)
  try simp only [Act.put, List.setIfInBounds_toArray, List.set_cons_zero, List.set_cons_succ]
  refine wpAnyH_done (by kernel_rfl) ?_ _
  refine NoPanic.normal ?_
  go_wp2
  go_ret
  exact ⟨rfl, bt hB0 hT⟩
set_option maxRecDepth 100000 in
set_option maxHeartbeats 2000000 in
theorem stream_long (a : Option Addr) (n cap : Nat) (sa : Option Addr) (m sc : Nat) (w : World) (hm : ¬ m ≤ 4096) :
    Calls Try.prog 7 #[.slice a n cap, .slice sa m sc] w fun e w' => e = .returned (.tuple #[.int .i64 0, .int .i64 2]) ∧ Below w.heap.size w w' := by
  have h : 4096 < (m : Int) := by omega
  go_enter Try.func7, Try.ntmps7
  go_wp2
  exact bodyPost_ret (v := .tuple #[.int .i64 0, .int .i64 2]) (by simp [results, Try.results7, go_sem]) rfl ⟨rfl, Below.refl _ _⟩
set_option maxRecDepth 100000 in
set_option maxHeartbeats 4000000 in
theorem stream_few (a : Option Addr) (n cap : Nat) (Q : Nat → Sch) (sa : Option Addr) (m sc : Nat) (E : Nat → Evt) (w : World) (H : Schs w a n Q) (hn : n ≤ 9223372036854775807) (HE : Evts w sa m E) (hm : m ≤ 4096) (i : Nat) (c : Int) (hi : i ≤ m) (hb : ∀ j, j < i → badAt n Q E j = 0) (h1 : i < m → c = badAt n Q E i ∧ ¬ c = 0) (h2 : i = m → c = 0) :
    Calls Try.prog 7 #[.slice a n cap, .slice sa m sc] w fun e w' => e = .returned (.tuple #[.int .i64 i, .int .i64 c]) ∧ Below w.heap.size w w' := by
  have h0 : ¬ 4096 < (m : Int) := by omega
  have C1 : Hid (Calls Try.prog 19 #[.slice a n cap] w fun e w' => e = .returned (.int .i64 (bookZ n Q)) ∧ Below w.heap.size w w') := book_any a n cap Q w H
  have HQ : Hid (Schs w a n Q) := H
  have HV : Hid (Evts w sa m E) := HE
  have HB : Hid (∀ j, j < i → badAt n Q E j = 0) := hb
  have H1 : Hid (i < m → c = badAt n Q E i ∧ ¬ c = 0) := h1
  have H2 : Hid (i = m → c = 0) := h2
  obtain ⟨z, hz⟩ : ∃ z, z = bookZ n Q := ⟨_, rfl⟩
  rw [← hz] at C1
  have HZ : Hid (z = bookZ n Q) := hz
  clear H HE hb h1 h2 hz
  go_enter Try.func7, Try.ntmps7
  go_wp2_with (first | (go_at_call 19; refine C1.out.mono ?_; rintro e w1 ⟨rfl, hB1⟩))
  clear C1
  go_loopw [17] (fun v wr => ∃ k : Nat, k ≤ i ∧ v = .int .i64 k ∧ Below w.heap.size w wr) (fun v _ => m - (intOf v).toNat)
  case atStart => exact ⟨0, Nat.zero_le _, rfl, hB1⟩
  case round =>
    clear hB1
    obtain ⟨k, hk, rfl, hB⟩ := hrel
    by_cases hkm : k < m
    · have HG := HV.out.later hB
      obtain ⟨b, off, rfl, hc⟩ := HG.1 (by omega)
      have f0 := (hc k hkm).1
      have f1 := (hc k hkm).2.1
      have f2 := (hc k hkm).2.2
      obtain ⟨p, hp⟩ : ∃ p : Nat, p = k - 1 := ⟨_, rfl⟩
      have HP : Hid (wr.cell? ⟨b, off + p * 3 + 1, none⟩ = some (.int .i64 (E p).t)) := (hc p (by omega)).2.1
      have hB3 : Below wr.heap.size wr (wr.alloc (evtO (E k).ty (E k).t (E k).v)) := (Below.refl _ _).alloc (Nat.le_refl _) _
      have C7 : Hid (Calls Try.prog 20 #[.int .i64 z, .slice a n cap, evtV (E k).ty (E k).t (E k).v] (wr.alloc (evtO (E k).ty (E k).t (E k).v)) fun e w' => e = .returned (.int .i64 (chkE z (schOf n Q (E k).ty) (E k))) ∧ Below (wr.alloc (evtO (E k).ty (E k).t (E k).v)).heap.size (wr.alloc (evtO (E k).ty (E k).t (E k).v)) w') := refusal_any z a n cap Q (E k) _ ((HQ.out.later hB).later hB3) hn ((HG.2 k hkm).later hB3)
      obtain ⟨y, hy⟩ : ∃ y, y = evZ n Q (E k) := ⟨_, rfl⟩
      rw [show chkE z (schOf n Q (E k).ty) (E k) = y by rw [hy, HZ.out]; rfl] at C7
      have HY : Hid (y = evZ n Q (E k)) := hy
      have X1 : Hid ((wr.alloc (evtO (E k).ty (E k).t (E k).v)).cell? ⟨wr.heap.size, 1, none⟩ = some (.int .i64 (E k).t)) := by
        show (wr.alloc (evtO (E k).ty (E k).t (E k).v)).cell? ⟨wr.heap.size, 1, none⟩ = some (.int .i64 (E k).t)
        simp
      have HB3 : Hid (Below wr.heap.size wr (wr.alloc (evtO (E k).ty (E k).t (E k).v))) := hB3
      clear hc hy HG hB3
      go_upto_region 8 with (first | (go_at_call 20; refine C7.out.mono ?_; rintro e W ⟨rfl, hB7⟩))
      have x1 := cell_later X1.out hB7
      have g1 := cell_later (cell_later HP.out HB3.out) hB7
      have hBW : Hid (Below w.heap.size w W) := bt (bt hB HB3.out) hB7
      have hpm : p < m := by omega
      have HPP : Hid (p = k - 1) := hp
      clear f0 f1 f2 C7 X1 HB3 hB7 HP hp
      generalize wr.heap.size = bs at x1 ⊢
      by_cases hy : y = 0
      · subst hy
        have hw : IntKind.i64.wrap ((k : Int) - 1) = (k : Int) - 1 := by rw [IntKind.wrap_i64]; omega
        have hmax : (if IntKind.i64.wrap ((k : Int) - 1) < 0 then 0 else IntKind.i64.wrap ((k : Int) - 1)) = (p : Int) := by rw [hw, HPP.out]; split <;> omega
        have HM : Hid ((if IntKind.i64.wrap ((k : Int) - 1) < 0 then 0 else IntKind.i64.wrap ((k : Int) - 1)) = (p : Int)) := hmax
        clear hw hmax
        refine wp_region_noPanic ?_
        refine wp_region_held_drew (S := fun w' => Below W.heap.size W w') (by kernel_rfl) ((Below.refl _ _).drew) (fun hHeld => ?_)
        have hT : Below W.heap.size W W.drew := hHeld
        obtain ⟨d, hd⟩ : ∃ d, d = W.drew := ⟨_, rfl⟩
        rw [← hd] at hHeld hT ⊢
        clear hd
        refine wpAnyH_take (i := 0) (oi := ⟨some 27, Op.move (Operand.tmp 9), 28, _, _, _⟩) (v := ?v0) rfl (by kernel_rfl) (by kernel_rfl) (by kernel_rfl) (fun _ _ _ h => h) (Or.inl ⟨by rfl, ?hy0⟩) hHeld ?rest0
        case hy0 => intro w9 hSw; go_simp; (try with_reducible rfl)
        try simp only [Act.put, List.setIfInBounds_toArray, List.set_cons_zero, List.set_cons_succ]
        refine wpAnyH_take (i := 1) (oi := ⟨some 28, Op.binOp BinOp.eql 28 (Operand.tmp 27) (Operand.const (Value.int IntKind.i64 0)) 28, 4, _, _, _⟩) (v := ?v1) rfl (by kernel_rfl) (by kernel_rfl) (by kernel_rfl) (fun _ _ _ h => h) (Or.inl ⟨by rfl, ?hy1⟩) hHeld ?rest1
        case hy1 => intro w9 hSw; go_simp; (try with_reducible rfl)
        try simp only [Act.put, List.setIfInBounds_toArray, List.set_cons_zero, List.set_cons_succ]
        refine wpAnyH_take (i := 2) (oi := ⟨some 29, Op.move (Operand.tmp 28), 4, _, _, _⟩) (v := ?v2) rfl (by kernel_rfl) (by kernel_rfl) (by kernel_rfl) (fun _ _ _ h => h) (Or.inl ⟨by rfl, ?hy2⟩) hHeld ?rest2
        case hy2 => intro w9 hSw; go_simp; (try with_reducible rfl)
        try simp only [Act.put, List.setIfInBounds_toArray, List.set_cons_zero, List.set_cons_succ]
        refine wpAnyH_take (i := 3) (oi := ⟨some 30, Op.fieldAddr 26 (Operand.tmp 8) 1, 0, _, _, _⟩) (v := ?v3) rfl (by kernel_rfl) (by kernel_rfl) (by kernel_rfl) (fun _ _ _ h => h) (Or.inl ⟨by rfl, ?hy3⟩) hHeld ?rest3
        case hy3 => intro w9 hSw; go_simp; (try with_reducible rfl)
        try simp only [Act.put, List.setIfInBounds_toArray, List.set_cons_zero, List.set_cons_succ]
        refine wpAnyH_take (i := 4) (oi := ⟨some 31, Op.load 2 (Operand.tmp 30), 2, _, _, _⟩) (v := ?v4) rfl (by kernel_rfl) (by kernel_rfl) (by kernel_rfl) (fun _ _ _ h => h) (Or.inl ⟨by rfl, ?hy4⟩) hHeld ?rest4
        case hy4 => intro w9 hSw; have c0 := cell_later x1 hSw; go_simp; (try with_reducible rfl)
        try simp only [Act.put, List.setIfInBounds_toArray, List.set_cons_zero, List.set_cons_succ]
        refine wpAnyH_take (i := 5) (oi := ⟨some 32, Op.move (Operand.tmp 1), 23, _, _, _⟩) (v := ?v5) rfl (by kernel_rfl) (by kernel_rfl) (by kernel_rfl) (fun _ _ _ h => h) (Or.inl ⟨by rfl, ?hy5⟩) hHeld ?rest5
        case hy5 => intro w9 hSw; go_simp; (try with_reducible rfl)
        try simp only [Act.put, List.setIfInBounds_toArray, List.set_cons_zero, List.set_cons_succ]
        refine wpAnyH_take (i := 6) (oi := ⟨some 33, Op.move (Operand.tmp 7), 3, _, _, _⟩) (v := ?v6) rfl (by kernel_rfl) (by kernel_rfl) (by kernel_rfl) (fun _ _ _ h => h) (Or.inl ⟨by rfl, ?hy6⟩) hHeld ?rest6
        case hy6 => intro w9 hSw; go_simp; (try with_reducible rfl)
        try simp only [Act.put, List.setIfInBounds_toArray, List.set_cons_zero, List.set_cons_succ]
        refine wpAnyH_take (i := 7) (oi := ⟨some 34, Op.binOp BinOp.sub 3 (Operand.tmp 33) (Operand.const (Value.int IntKind.i64 1)) 3, 3, _, _, _⟩) (v := ?v7) rfl (by kernel_rfl) (by kernel_rfl) (by kernel_rfl) (fun _ _ _ h => h) (Or.inl ⟨by rfl, ?hy7⟩) hHeld ?rest7
        case hy7 => intro w9 hSw; go_simp; (try with_reducible rfl)
        try simp only [Act.put, List.setIfInBounds_toArray, List.set_cons_zero, List.set_cons_succ]
        refine wpAnyH_take (i := 8) (oi := ⟨some 35, Op.call { callee := Callee.builtin Builtin.max, args := #[Operand.tmp 34, Operand.const (Value.int IntKind.i64 0)], argTypes := #[3, 3] }, 3, _, _, _⟩) (v := .int .i64 (p : Nat)) rfl (by kernel_rfl) (by kernel_rfl) (by kernel_rfl) (fun _ _ _ h => h) (Or.inl ⟨by rfl, ?hy8⟩) hHeld ?rest8
        case hy8 => intro w9 hSw; go_simp; exact HM.out
        try simp only [Act.put, List.setIfInBounds_toArray, List.set_cons_zero, List.set_cons_succ]
        refine wpAnyH_take (i := 9) (oi := ⟨some 36, Op.indexAddr 23 (Operand.tmp 32) (Operand.tmp 35), 0, _, _, _⟩) (v := ?v9) rfl (by kernel_rfl) (by kernel_rfl) (by kernel_rfl) (fun _ _ _ h => h) (Or.inl ⟨by rfl, ?hy9⟩) hHeld ?rest9
        case hy9 => intro w9 hSw; go_simp; (try with_reducible rfl)
        try simp only [Act.put, List.setIfInBounds_toArray, List.set_cons_zero, List.set_cons_succ]
        refine wpAnyH_take (i := 10) (oi := ⟨some 37, Op.fieldAddr 26 (Operand.tmp 36) 1, 0, _, _, _⟩) (v := ?v10) rfl (by kernel_rfl) (by kernel_rfl) (by kernel_rfl) (fun _ _ _ h => h) (Or.inl ⟨by rfl, ?hy10⟩) hHeld ?rest10
        case hy10 => intro w9 hSw; go_simp; (try with_reducible rfl)
        try simp only [Act.put, List.setIfInBounds_toArray, List.set_cons_zero, List.set_cons_succ]
        refine wpAnyH_take (i := 11) (oi := ⟨some 38, Op.load 2 (Operand.tmp 37), 2, _, _, _⟩) (v := ?v11) rfl (by kernel_rfl) (by kernel_rfl) (by kernel_rfl) (fun _ _ _ h => h) (Or.inl ⟨by rfl, ?hy11⟩) hHeld ?rest11
        case hy11 => intro w9 hSw; have c0 := cell_later g1 hSw; go_simp; (try with_reducible rfl)
        try simp only [Act.put, List.setIfInBounds_toArray, List.set_cons_zero, List.set_cons_succ]
        refine wpAnyH_take (i := 12) (oi := ⟨some 39, Op.binOp BinOp.lss 2 (Operand.tmp 31) (Operand.tmp 38) 2, 4, _, _, _⟩) (v := ?v12) rfl (by kernel_rfl) (by kernel_rfl) (by kernel_rfl) (fun _ _ _ h => h) (Or.inl ⟨by rfl, ?hy12⟩) hHeld ?rest12
        case hy12 => intro w9 hSw; go_simp; (try with_reducible rfl)
        try simp only [Act.put, List.setIfInBounds_toArray, List.set_cons_zero, List.set_cons_succ]
        refine wpAnyH_take (i := 13) (oi := ⟨some 40, Op.pick (Operand.tmp 29) (Operand.tmp 39) (Operand.const (Value.bool false)), 4, _, _, _⟩) (v := ?v13) rfl (by kernel_rfl) (by kernel_rfl) (by kernel_rfl) (fun _ _ _ h => h) (Or.inl ⟨by rfl, ?hy13⟩) hHeld ?rest13
        case hy13 => intro w9 hSw; go_simp; (try with_reducible rfl)
        try simp only [Act.put, List.setIfInBounds_toArray, List.set_cons_zero, List.set_cons_succ]
        refine wpAnyH_take (i := 14) (oi := ⟨some 26, Op.assign (Operand.tmp 40), 4, _, _, _⟩) (v := ?v14) rfl (by kernel_rfl) (by kernel_rfl) (by kernel_rfl) (fun _ _ _ h => h) (Or.inl ⟨by rfl, ?hy14⟩) hHeld ?rest14
        case hy14 => intro w9 hSw; go_simp; (try with_reducible rfl)
        try simp only [Act.put, List.setIfInBounds_toArray, List.set_cons_zero, List.set_cons_succ]
        refine wpAnyH_done (by kernel_rfl) ?_ _
        refine NoPanic.normal ?_
        clear x1 g1 HM
        by_cases hlt : (E k).t < (E p).t
        · have hk0 : 0 < k := by
            rcases Nat.eq_zero_or_pos k with h | h
            · have e1 := HPP.out
              rw [h] at e1 hlt
              rw [e1] at hlt
              exact absurd hlt (by simp)
            · exact h
          have hbad : badAt n Q E k = 11 := by
            unfold badAt
            rw [if_pos HY.out.symm, if_pos ⟨hk0, HPP.out ▸ hlt⟩]
          have hki : k = i := by
            rcases Nat.lt_or_ge k i with h | h
            · have := HB.out k h; omega
            · omega
          subst hki
          have hc : c = 11 := (H1.out hkm).1.trans hbad
          subst hc
          clear hbad
          go_wp2
          try rw [Exit.noGoto_ret]
          exact bodyPost_ret (v := .tuple #[.int .i64 k, .int .i64 11]) (by simp [results, Try.results7, go_sem]) rfl ⟨rfl, bt hBW.out hT⟩
        · have hbad : badAt n Q E k = 0 := by
            unfold badAt
            rw [if_pos HY.out.symm, if_neg (by rw [← HPP.out]; intro h; exact hlt h.2)]
          have hki : k < i := by
            rcases Nat.lt_or_ge k i with h | h
            · exact h
            · have e1 : k = i := by omega
              subst e1
              exact absurd ((H1.out hkm).1.trans hbad) (H1.out hkm).2
          clear hbad
          go_wp2
          go_roundw
          case rel => exact ⟨k + 1, by omega, by go_num, bt hBW.out hT⟩
          case measure => simp [intOf]; omega
      · have hy1 : (y == 0) = false := by simpa using hy
        refine wp_region_noPanic ?_
        refine wp_region_held_drew (S := fun w' => Below W.heap.size W w') (by kernel_rfl) ((Below.refl _ _).drew) (fun hHeld => ?_)
        have hT : Below W.heap.size W W.drew := hHeld
        obtain ⟨d, hd⟩ : ∃ d, d = W.drew := ⟨_, rfl⟩
        rw [← hd] at hHeld hT ⊢
        clear hd
        refine wpAnyH_take (i := 0) (oi := ⟨some 27, Op.move (Operand.tmp 9), 28, _, _, _⟩) (v := ?v0n) rfl (by kernel_rfl) (by kernel_rfl) (by kernel_rfl) (fun _ _ _ h => h) (Or.inl ⟨by rfl, ?hy0n⟩) hHeld ?rest0n
        case hy0n => intro w9 hSw; go_simp; (try with_reducible rfl)
        try simp only [Act.put, List.setIfInBounds_toArray, List.set_cons_zero, List.set_cons_succ]
        refine wpAnyH_take (i := 1) (oi := ⟨some 28, Op.binOp BinOp.eql 28 (Operand.tmp 27) (Operand.const (Value.int IntKind.i64 0)) 28, 4, _, _, _⟩) (v := ?v1n) rfl (by kernel_rfl) (by kernel_rfl) (by kernel_rfl) (fun _ _ _ h => h) (Or.inl ⟨by rfl, ?hy1n⟩) hHeld ?rest1n
        case hy1n => intro w9 hSw; go_simp; (try with_reducible rfl)
        try simp only [Act.put, List.setIfInBounds_toArray, List.set_cons_zero, List.set_cons_succ]
        refine wpAnyH_take (i := 2) (oi := ⟨some 29, Op.move (Operand.tmp 28), 4, _, _, _⟩) (v := ?v2n) rfl (by kernel_rfl) (by kernel_rfl) (by kernel_rfl) (fun _ _ _ h => h) (Or.inl ⟨by rfl, ?hy2n⟩) hHeld ?rest2n
        case hy2n => intro w9 hSw; go_simp; (try with_reducible rfl)
        try simp only [Act.put, List.setIfInBounds_toArray, List.set_cons_zero, List.set_cons_succ]
        refine wpAnyH_take (i := 3) (oi := ⟨some 30, Op.fieldAddr 26 (Operand.tmp 8) 1, 0, _, _, _⟩) (v := undef) rfl (by kernel_rfl) (by kernel_rfl) (by kernel_rfl) (fun _ _ _ h => h) (Or.inr ⟨by rfl, rfl⟩) hHeld ?rest3n
        try simp only [Act.put, List.setIfInBounds_toArray, List.set_cons_zero, List.set_cons_succ]
        refine wpAnyH_take (i := 4) (oi := ⟨some 31, Op.load 2 (Operand.tmp 30), 2, _, _, _⟩) (v := undef) rfl (by kernel_rfl) (by kernel_rfl) (by kernel_rfl) (fun _ _ _ h => h) (Or.inr ⟨by rfl, rfl⟩) hHeld ?rest4n
        try simp only [Act.put, List.setIfInBounds_toArray, List.set_cons_zero, List.set_cons_succ]
        refine wpAnyH_take (i := 5) (oi := ⟨some 32, Op.move (Operand.tmp 1), 23, _, _, _⟩) (v := undef) rfl (by kernel_rfl) (by kernel_rfl) (by kernel_rfl) (fun _ _ _ h => h) (Or.inr ⟨by rfl, rfl⟩) hHeld ?rest5n
        try simp only [Act.put, List.setIfInBounds_toArray, List.set_cons_zero, List.set_cons_succ]
        refine wpAnyH_take (i := 6) (oi := ⟨some 33, Op.move (Operand.tmp 7), 3, _, _, _⟩) (v := undef) rfl (by kernel_rfl) (by kernel_rfl) (by kernel_rfl) (fun _ _ _ h => h) (Or.inr ⟨by rfl, rfl⟩) hHeld ?rest6n
        try simp only [Act.put, List.setIfInBounds_toArray, List.set_cons_zero, List.set_cons_succ]
        refine wpAnyH_take (i := 7) (oi := ⟨some 34, Op.binOp BinOp.sub 3 (Operand.tmp 33) (Operand.const (Value.int IntKind.i64 1)) 3, 3, _, _, _⟩) (v := undef) rfl (by kernel_rfl) (by kernel_rfl) (by kernel_rfl) (fun _ _ _ h => h) (Or.inr ⟨by rfl, rfl⟩) hHeld ?rest7n
        try simp only [Act.put, List.setIfInBounds_toArray, List.set_cons_zero, List.set_cons_succ]
        refine wpAnyH_take (i := 8) (oi := ⟨some 35, Op.call { callee := Callee.builtin Builtin.max, args := #[Operand.tmp 34, Operand.const (Value.int IntKind.i64 0)], argTypes := #[3, 3] }, 3, _, _, _⟩) (v := undef) rfl (by kernel_rfl) (by kernel_rfl) (by kernel_rfl) (fun _ _ _ h => h) (Or.inr ⟨by rfl, rfl⟩) hHeld ?rest8n
        try simp only [Act.put, List.setIfInBounds_toArray, List.set_cons_zero, List.set_cons_succ]
        refine wpAnyH_take (i := 9) (oi := ⟨some 36, Op.indexAddr 23 (Operand.tmp 32) (Operand.tmp 35), 0, _, _, _⟩) (v := undef) rfl (by kernel_rfl) (by kernel_rfl) (by kernel_rfl) (fun _ _ _ h => h) (Or.inr ⟨by rfl, rfl⟩) hHeld ?rest9n
        try simp only [Act.put, List.setIfInBounds_toArray, List.set_cons_zero, List.set_cons_succ]
        refine wpAnyH_take (i := 10) (oi := ⟨some 37, Op.fieldAddr 26 (Operand.tmp 36) 1, 0, _, _, _⟩) (v := undef) rfl (by kernel_rfl) (by kernel_rfl) (by kernel_rfl) (fun _ _ _ h => h) (Or.inr ⟨by rfl, rfl⟩) hHeld ?rest10n
        try simp only [Act.put, List.setIfInBounds_toArray, List.set_cons_zero, List.set_cons_succ]
        refine wpAnyH_take (i := 11) (oi := ⟨some 38, Op.load 2 (Operand.tmp 37), 2, _, _, _⟩) (v := undef) rfl (by kernel_rfl) (by kernel_rfl) (by kernel_rfl) (fun _ _ _ h => h) (Or.inr ⟨by rfl, rfl⟩) hHeld ?rest11n
        try simp only [Act.put, List.setIfInBounds_toArray, List.set_cons_zero, List.set_cons_succ]
        refine wpAnyH_take (i := 12) (oi := ⟨some 39, Op.binOp BinOp.lss 2 (Operand.tmp 31) (Operand.tmp 38) 2, 4, _, _, _⟩) (v := undef) rfl (by kernel_rfl) (by kernel_rfl) (by kernel_rfl) (fun _ _ _ h => h) (Or.inr ⟨by rfl, rfl⟩) hHeld ?rest12n
        try simp only [Act.put, List.setIfInBounds_toArray, List.set_cons_zero, List.set_cons_succ]
        refine wpAnyH_take (i := 13) (oi := ⟨some 40, Op.pick (Operand.tmp 29) (Operand.tmp 39) (Operand.const (Value.bool false)), 4, _, _, _⟩) (v := ?v13n) rfl (by kernel_rfl) (by kernel_rfl) (by kernel_rfl) (fun _ _ _ h => h) (Or.inl ⟨by rfl, ?hy13n⟩) hHeld ?rest13n
        case hy13n => intro w9 hSw; go_simp; (try with_reducible rfl)
        try simp only [Act.put, List.setIfInBounds_toArray, List.set_cons_zero, List.set_cons_succ]
        refine wpAnyH_take (i := 14) (oi := ⟨some 26, Op.assign (Operand.tmp 40), 4, _, _, _⟩) (v := ?v14n) rfl (by kernel_rfl) (by kernel_rfl) (by kernel_rfl) (fun _ _ _ h => h) (Or.inl ⟨by rfl, ?hy14n⟩) hHeld ?rest14n
        case hy14n => intro w9 hSw; go_simp; (try with_reducible rfl)
        try simp only [Act.put, List.setIfInBounds_toArray, List.set_cons_zero, List.set_cons_succ]
        refine wpAnyH_done (by kernel_rfl) ?_ _
        refine NoPanic.normal ?_
        clear x1 g1
        have hbad : badAt n Q E k = y := by
          unfold badAt
          rw [← HY.out, if_neg hy]
        have hki : k = i := by
          rcases Nat.lt_or_ge k i with h | h
          · have := HB.out k h; omega
          · omega
        subst hki
        have hc : c = y := (H1.out hkm).1.trans hbad
        subst hc
        clear hbad HY
        go_wp2
        try rw [Exit.noGoto_ret]
        exact bodyPost_ret (v := .tuple #[.int .i64 k, .int .i64 c]) (by simp [results, Try.results7, go_sem]) rfl ⟨rfl, bt hBW.out hT⟩
    · obtain rfl : k = m := by omega
      obtain rfl : k = i := by omega
      have hc : c = 0 := H2.out rfl
      subst hc
      go_wp2
      exact bodyPost_ret (v := .tuple #[.int .i64 k, .int .i64 0]) (by simp [results, Try.results7, go_sem]) rfl ⟨rfl, hB⟩
end Go.Proofs.Ytelabjipclfpnaa
