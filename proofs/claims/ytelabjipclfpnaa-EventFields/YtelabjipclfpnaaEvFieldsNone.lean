/-
  EventFields' walk (P8.2), where the event may be: the field is not there.
-/
import Derived.Test.YtelabjipclfpnaaEvFieldsWalk
namespace Go.Proofs.Ytelabjipclfpnaa
open Go.RowKit

set_option maxRecDepth 100000 in
set_option maxHeartbeats 8000000 in
theorem fields_none (a : Option Addr) (n cap : Nat) (Q : Nat → Sch) (x : Evt) (f : ByteArray) (w : World) (H : Schs w a n Q) (hn : n ≤ 9223372036854775807) (HE : IsEvt w x) (hm : ∀ k, k < n → (Q k).nm = x.ty → (Q k).l = x.l ∧ ∀ j, j < x.l → getE n Q x ((Q k).fn j) = some (x.vs j))
    (c1 : ∀ d, Below w.heap.size w d → Calls Try.prog 9 #[.slice a n cap, evtV x.ty x.t x.v, .string f] d fun e w' => e = .returned (.tuple #[valV 0 0 ⟨#[]⟩, .bool false]) ∧ Below d.heap.size d w')
    (c2 : ∀ d, Below w.heap.size w d → Calls Try.prog 13 #[.slice a n cap, evtV x.ty x.t x.v] d fun e w' => e = .returned (.int .i64 0) ∧ Below d.heap.size d w')
    (c4 : ∀ d, Below w.heap.size w d → Calls Try.prog 15 #[.slice a n cap, .string x.ty, .string f] d fun e w' => e = .returned (.bool false) ∧ Below d.heap.size d w') :
    Calls Try.prog 5 #[.slice a n cap, evtV x.ty x.t x.v, .string f] w fun e w' => e = .returned (.bool true) ∧ Below w.heap.size w w' := by
  have c11 : ∀ g d, Below w.heap.size w d → Calls Try.prog 9 #[.slice a n cap, evtV x.ty x.t x.v, .string g] d fun e w' => e = .returned (.tuple #[((getE n Q x g).getD val0).v, .bool (getE n Q x g).isSome]) ∧ Below d.heap.size d w' := fun g d hd => evGet_any a n cap Q x g d (H.later hd) hn (HE.later hd)
  have HM : Hid (∀ k, k < n → (Q k).nm = x.ty → (Q k).l = x.l ∧ ∀ j, j < x.l → getE n Q x ((Q k).fn j) = some (x.vs j)) := hm
  have HV0 : Hid (IsEvt w x) := HE
  have HQ : Hid (Schs w a n Q) := H
  obtain ⟨G, hG⟩ : ∃ G : ByteArray → Option Val, G = getE n Q x := ⟨_, rfl⟩
  rw [← hG] at HM
  simp only [← hG] at c11
  obtain ⟨ty, t, va, vl, vc, vs⟩ := x
  simp only [Evt.v] at c1 c2 c4 c11 HM ⊢
  have hB0 : Below w.heap.size w (w.alloc (evtO ty t (.slice va vl vc))) := (Below.refl _ _).alloc (Nat.le_refl _) _
  have X := Box3.new 26 w (.string ty) (.int .i64 t) (.slice va vl vc)
  have HX : Hid (Box3 26 (w.alloc (evtO ty t (.slice va vl vc))) w.heap.size (.string ty) (.int .i64 t) (.slice va vl vc)) := X
  have C1 : Hid (∀ d, _ → Calls Try.prog 9 _ d _) := c1
  have C2 : Hid (∀ d, _ → Calls Try.prog 13 _ d _) := c2
  have C4 : Hid (∀ d, _ → Calls Try.prog 15 _ d _) := c4
  have CC : Hid (∀ g d, _ → Calls Try.prog 9 _ d _) := c11
  clear c1 c2 c4 c11 X hm HE H hG
  go_enter Try.func5, Try.ntmps5
  go_upto_region 1 with fail
  obtain ⟨W, hW⟩ : ∃ W, W = w.alloc (evtO ty t (.slice va vl vc)) := ⟨_, rfl⟩
  obtain ⟨p, hp⟩ : ∃ p, p = w.heap.size := ⟨_, rfl⟩
  rw [← hW, ← hp] at HX
  rw [← hW] at hB0
  rw [← hW, ← hp]
  clear hW hp
  obtain ⟨x0, x1, x2⟩ := HX.out.cells
  go_upto_region 2 with (first | (go_at_call 9; refine (C1.out _ hB0).mono ?_; rintro e w1 ⟨rfl, hB1⟩))
  have hB2 : Below w1.heap.size w1 (w1.alloc (valO 0 0 ⟨#[]⟩)) := (Below.refl _ _).alloc (Nat.le_refl _) _
  have HB2 : Hid (Below w.heap.size w (w1.alloc (valO 0 0 ⟨#[]⟩))) := bt (bt hB0 hB1) hB2
  have V := Box3.new 34 w1 (.int .i64 0) (.int .i64 0) (.string ⟨#[]⟩)
  have HV : Hid (Box3 34 (w1.alloc (valO 0 0 ⟨#[]⟩)) w1.heap.size (.int .i64 0) (.int .i64 0) (.string ⟨#[]⟩)) := V
  have HY : Hid (Box3 26 (w1.alloc (valO 0 0 ⟨#[]⟩)) p (.string ty) (.int .i64 t) (.slice va vl vc)) := (HX.out.keep hB1).keep hB2
  obtain ⟨W2, hW2⟩ : ∃ W2, W2 = w1.alloc (valO 0 0 ⟨#[]⟩) := ⟨_, rfl⟩
  obtain ⟨r, hr⟩ : ∃ r, r = w1.heap.size := ⟨_, rfl⟩
  rw [← hW2, ← hr] at HV
  rw [← hW2] at HB2 HY
  rw [← hW2, ← hr]
  clear hW2 hr V hB2 x0 x1 x2 hB1 C1 HX hB0
  obtain ⟨x0, x1, x2⟩ := HY.out.cells
  go_wp2_with (first
    | (go_at_call 13
       refine (C2.out _ HB2.out).mono ?_
       rintro e w2 ⟨rfl, hB3⟩
       have HB3 : Hid (Below w.heap.size w w2) := bt HB2.out hB3
       have HY3 := HY.out.keep hB3
       obtain ⟨u0, u1, u2⟩ := HY3.cells
       have HW3 := HV.out.keep hB3)
    | (go_at_call 15
       refine (C4.out _ HB3.out).mono ?_
       rintro e w4 ⟨rfl, hB5⟩
       have HB5 : Hid (Below w.heap.size w w4) := bt HB3.out hB5
       obtain ⟨y0, y1, y2⟩ := (HW3.keep hB5).cells
       have HZ : Hid (Box3 26 w4 p (.string ty) (.int .i64 t) (.slice va vl vc)) := HY3.keep hB5))
  clear y0 y1 y2 HW3 HY3 u0 u1 u2 x0 x1 x2 hB3 hB5 C2 C4 HV HY HB2 HB3
  have HB5' := HB5.out
  clear HB5
  go_loopw [9] (fun v wr => ∃ k : Nat, k ≤ n ∧ v = .int .i64 k ∧ Below w4.heap.size w4 wr) (fun v _ => n - (intOf v).toNat)
  case atStart => exact ⟨0, Nat.zero_le _, rfl, Below.refl _ _⟩
  case round =>
    obtain ⟨k, hk, rfl, hB⟩ := hrel
    obtain ⟨x0, x1, x2⟩ := (HZ.out.keep hB).cells
    by_cases hkn : k < n
    · have HG := HQ.out.later (bt HB5' hB)
      obtain ⟨b, off, rfl, hc⟩ := HG.1 (by omega)
      have n0 : wr.cell? ⟨b, off + k * 2, none⟩ = some (.string (Q k).nm) := (hc k hkn).1.1
      have n1 : wr.cell? ⟨b, off + k * 2 + 1, none⟩ = some (Q k).v := (hc k hkn).1.2
      have HF : Hid (Flds wr (Q k).a (Q k).l (Q k).fn (Q k).fk) := (HG.2 k hkn).1
      clear hc HG
      by_cases he : (Q k).nm = ty
      · have hs := str_yes he
        obtain ⟨e1, e2⟩ := HM.out k hkn he
        have E2 : Hid (∀ j, j < vl → G ((Q k).fn j) = some (vs j)) := e2
        have hE := (HV0.out.later (bt HB5' hB)).1
        generalize Q k = q at n0 n1 HF he hs e1 E2
        obtain ⟨S, fa, fl, fc, fn, fk⟩ := q
        simp only [Sch.v] at n0 n1 HF he hs e1 E2
        subst e1
        clear he
        have hfl : fl ≤ 9223372036854775807 := HV0.out.2
        have HVV : Hid (Vals wr va fl vs) := hE
        clear hE
        go_wp2_with fail
        refine wp_region_noPanic ?_
        refine wp_region_held_drew (S := fun w' => Below wr.heap.size wr w') (by kernel_rfl) ((Below.refl _ _).drew) (fun hHeld => ?_)
        have hT : Below wr.heap.size wr wr.drew := hHeld
        obtain ⟨d, hd⟩ : ∃ d, d = wr.drew := ⟨_, rfl⟩
        rw [← hd] at hHeld hT ⊢
        clear hd
        refine wpAnyH_take (i := 0) (oi := ⟨some 55, Op.move (Operand.tmp 0), 22, _, _, _⟩) (v := ?v0y) rfl (by kernel_rfl) (by kernel_rfl) (by kernel_rfl) (fun _ _ _ h => h) (Or.inl ⟨by rfl, ?hy0y⟩) hHeld ?rest0y
        case hy0y => intro w9 hSw; go_simp; (try with_reducible rfl)
        try simp only [Act.put, List.setIfInBounds_toArray, List.set_cons_zero, List.set_cons_succ]
        refine wpAnyH_take (i := 1) (oi := ⟨some 56, Op.move (Operand.tmp 9), 3, _, _, _⟩) (v := ?v1y) rfl (by kernel_rfl) (by kernel_rfl) (by kernel_rfl) (fun _ _ _ h => h) (Or.inl ⟨by rfl, ?hy1y⟩) hHeld ?rest1y
        case hy1y => intro w9 hSw; go_simp; (try with_reducible rfl)
        try simp only [Act.put, List.setIfInBounds_toArray, List.set_cons_zero, List.set_cons_succ]
        refine wpAnyH_take (i := 2) (oi := ⟨some 57, Op.indexAddr 22 (Operand.tmp 55) (Operand.tmp 56), 0, _, _, _⟩) (v := ?v2y) rfl (by kernel_rfl) (by kernel_rfl) (by kernel_rfl) (fun _ _ _ h => h) (Or.inl ⟨by rfl, ?hy2y⟩) hHeld ?rest2y
        case hy2y => intro w9 hSw; go_simp; (try with_reducible rfl)
        try simp only [Act.put, List.setIfInBounds_toArray, List.set_cons_zero, List.set_cons_succ]
        refine wpAnyH_take (i := 3) (oi := ⟨some 58, Op.fieldAddr 50 (Operand.tmp 57) 0, 0, _, _, _⟩) (v := ?v3y) rfl (by kernel_rfl) (by kernel_rfl) (by kernel_rfl) (fun _ _ _ h => h) (Or.inl ⟨by rfl, ?hy3y⟩) hHeld ?rest3y
        case hy3y => intro w9 hSw; go_simp; (try with_reducible rfl)
        try simp only [Act.put, List.setIfInBounds_toArray, List.set_cons_zero, List.set_cons_succ]
        refine wpAnyH_take (i := 4) (oi := ⟨some 59, Op.load 9 (Operand.tmp 58), 9, _, _, _⟩) (v := ?v4y) rfl (by kernel_rfl) (by kernel_rfl) (by kernel_rfl) (fun _ _ _ h => h) (Or.inl ⟨by rfl, ?hy4y⟩) hHeld ?rest4y
        case hy4y => intro w9 hSw; have c0 := cell_later n0 hSw; go_simp; (try with_reducible rfl)
        try simp only [Act.put, List.setIfInBounds_toArray, List.set_cons_zero, List.set_cons_succ]
        refine wpAnyH_take (i := 5) (oi := ⟨some 60, Op.fieldAddr 26 (Operand.tmp 4) 0, 0, _, _, _⟩) (v := ?v5y) rfl (by kernel_rfl) (by kernel_rfl) (by kernel_rfl) (fun _ _ _ h => h) (Or.inl ⟨by rfl, ?hy5y⟩) hHeld ?rest5y
        case hy5y => intro w9 hSw; go_simp; (try with_reducible rfl)
        try simp only [Act.put, List.setIfInBounds_toArray, List.set_cons_zero, List.set_cons_succ]
        refine wpAnyH_take (i := 6) (oi := ⟨some 61, Op.load 9 (Operand.tmp 60), 9, _, _, _⟩) (v := ?v6y) rfl (by kernel_rfl) (by kernel_rfl) (by kernel_rfl) (fun _ _ _ h => h) (Or.inl ⟨by rfl, ?hy6y⟩) hHeld ?rest6y
        case hy6y => intro w9 hSw; have c0 := cell_later x0 hSw; go_simp; (try with_reducible rfl)
        try simp only [Act.put, List.setIfInBounds_toArray, List.set_cons_zero, List.set_cons_succ]
        refine wpAnyH_take (i := 7) (oi := ⟨some 62, Op.binOp BinOp.neq 9 (Operand.tmp 59) (Operand.tmp 61) 9, 4, _, _, _⟩) (v := ?v7y) rfl (by kernel_rfl) (by kernel_rfl) (by kernel_rfl) (fun _ _ _ h => h) (Or.inl ⟨by rfl, ?hy7y⟩) hHeld ?rest7y
        case hy7y => intro w9 hSw; go_simp; (try with_reducible rfl)
        try simp only [Act.put, List.setIfInBounds_toArray, List.set_cons_zero, List.set_cons_succ]
        refine wpAnyH_done (by kernel_rfl) ?_ _
        refine NoPanic.normal ?_
        go_wp2_with fail
        refine wp_region_noPanic ?_
        refine wp_region_held_drew (S := fun w' => Below wr.heap.size wr w') (by kernel_rfl) hT.drew (fun hHeld => ?_)
        obtain ⟨d2, hd2⟩ : ∃ d2, d2 = d.drew := ⟨_, rfl⟩
        rw [← hd2] at hHeld ⊢
        clear hd2
        refine wpAnyH_take (i := 0) (oi := ⟨some 63, Op.move (Operand.tmp 0), 22, _, _, _⟩) (v := ?v0t) rfl (by kernel_rfl) (by kernel_rfl) (by kernel_rfl) (fun _ _ _ h => h) (Or.inl ⟨by rfl, ?hy0t⟩) hHeld ?rest0t
        case hy0t => intro w9 hSw; go_simp; (try with_reducible rfl)
        try simp only [Act.put, List.setIfInBounds_toArray, List.set_cons_zero, List.set_cons_succ]
        refine wpAnyH_take (i := 1) (oi := ⟨some 64, Op.move (Operand.tmp 9), 3, _, _, _⟩) (v := ?v1t) rfl (by kernel_rfl) (by kernel_rfl) (by kernel_rfl) (fun _ _ _ h => h) (Or.inl ⟨by rfl, ?hy1t⟩) hHeld ?rest1t
        case hy1t => intro w9 hSw; go_simp; (try with_reducible rfl)
        try simp only [Act.put, List.setIfInBounds_toArray, List.set_cons_zero, List.set_cons_succ]
        refine wpAnyH_take (i := 2) (oi := ⟨some 65, Op.indexAddr 22 (Operand.tmp 63) (Operand.tmp 64), 0, _, _, _⟩) (v := ?v2t) rfl (by kernel_rfl) (by kernel_rfl) (by kernel_rfl) (fun _ _ _ h => h) (Or.inl ⟨by rfl, ?hy2t⟩) hHeld ?rest2t
        case hy2t => intro w9 hSw; go_simp; (try with_reducible rfl)
        try simp only [Act.put, List.setIfInBounds_toArray, List.set_cons_zero, List.set_cons_succ]
        refine wpAnyH_take (i := 3) (oi := ⟨some 66, Op.fieldAddr 50 (Operand.tmp 65) 1, 0, _, _, _⟩) (v := ?v3t) rfl (by kernel_rfl) (by kernel_rfl) (by kernel_rfl) (fun _ _ _ h => h) (Or.inl ⟨by rfl, ?hy3t⟩) hHeld ?rest3t
        case hy3t => intro w9 hSw; go_simp; (try with_reducible rfl)
        try simp only [Act.put, List.setIfInBounds_toArray, List.set_cons_zero, List.set_cons_succ]
        refine wpAnyH_take (i := 4) (oi := ⟨some 67, Op.load 48 (Operand.tmp 66), 48, _, _, _⟩) (v := ?v4t) rfl (by kernel_rfl) (by kernel_rfl) (by kernel_rfl) (fun _ _ _ h => h) (Or.inl ⟨by rfl, ?hy4t⟩) hHeld ?rest4t
        case hy4t => intro w9 hSw; have c0 := cell_later n1 hSw; go_simp; (try with_reducible rfl)
        try simp only [Act.put, List.setIfInBounds_toArray, List.set_cons_zero, List.set_cons_succ]
        refine wpAnyH_take (i := 5) (oi := ⟨some 68, Op.call { callee := Callee.builtin Builtin.len, args := #[Operand.tmp 67], argTypes := #[48] }, 3, _, _, _⟩) (v := ?v5t) rfl (by kernel_rfl) (by kernel_rfl) (by kernel_rfl) (fun _ _ _ h => h) (Or.inl ⟨by rfl, ?hy5t⟩) hHeld ?rest5t
        case hy5t => intro w9 hSw; go_simp; (try with_reducible rfl)
        try simp only [Act.put, List.setIfInBounds_toArray, List.set_cons_zero, List.set_cons_succ]
        refine wpAnyH_take (i := 6) (oi := ⟨some 69, Op.fieldAddr 26 (Operand.tmp 4) 2, 0, _, _, _⟩) (v := ?v6t) rfl (by kernel_rfl) (by kernel_rfl) (by kernel_rfl) (fun _ _ _ h => h) (Or.inl ⟨by rfl, ?hy6t⟩) hHeld ?rest6t
        case hy6t => intro w9 hSw; go_simp; (try with_reducible rfl)
        try simp only [Act.put, List.setIfInBounds_toArray, List.set_cons_zero, List.set_cons_succ]
        refine wpAnyH_take (i := 7) (oi := ⟨some 70, Op.load 24 (Operand.tmp 69), 24, _, _, _⟩) (v := ?v7t) rfl (by kernel_rfl) (by kernel_rfl) (by kernel_rfl) (fun _ _ _ h => h) (Or.inl ⟨by rfl, ?hy7t⟩) hHeld ?rest7t
        case hy7t => intro w9 hSw; have c0 := cell_later x2 hSw; go_simp; (try with_reducible rfl)
        try simp only [Act.put, List.setIfInBounds_toArray, List.set_cons_zero, List.set_cons_succ]
        refine wpAnyH_take (i := 8) (oi := ⟨some 71, Op.call { callee := Callee.builtin Builtin.len, args := #[Operand.tmp 70], argTypes := #[24] }, 3, _, _, _⟩) (v := ?v8t) rfl (by kernel_rfl) (by kernel_rfl) (by kernel_rfl) (fun _ _ _ h => h) (Or.inl ⟨by rfl, ?hy8t⟩) hHeld ?rest8t
        case hy8t => intro w9 hSw; go_simp; (try with_reducible rfl)
        try simp only [Act.put, List.setIfInBounds_toArray, List.set_cons_zero, List.set_cons_succ]
        refine wpAnyH_take (i := 9) (oi := ⟨some 72, Op.binOp BinOp.neq 3 (Operand.tmp 68) (Operand.tmp 71) 3, 4, _, _, _⟩) (v := ?v9t) rfl (by kernel_rfl) (by kernel_rfl) (by kernel_rfl) (fun _ _ _ h => h) (Or.inl ⟨by rfl, ?hy9t⟩) hHeld ?rest9t
        case hy9t => intro w9 hSw; go_simp; (try with_reducible rfl)
        try simp only [Act.put, List.setIfInBounds_toArray, List.set_cons_zero, List.set_cons_succ]
        refine wpAnyH_done (by kernel_rfl) ?_ _
        refine NoPanic.normal ?_
        go_wp2_with fail
        have HC : Hid (Below wr.heap.size wr d2 ∧ wr.cell? ⟨b, off + k * 2 + 1, none⟩ = some (.slice fa fl fc)) := ⟨hHeld, n1⟩
        have HXX : Hid (Box3 26 wr p (.string ty) (.int .i64 t) (.slice va fl vc)) := HZ.out.keep hB
        clear x0 x1 x2 n0 n1 hHeld hT hs
        generalize wr = wo at *
        go_loopw [10] (fun v wr => ∃ j : Nat, j ≤ fl ∧ v = .int .i64 j ∧ Below wo.heap.size wo wr) (fun v _ => fl - (intOf v).toNat)
        case atStart => exact ⟨0, Nat.zero_le _, rfl, HC.out.1⟩
        case round =>
          obtain ⟨j, hj, rfl, hBi⟩ := hrel
          obtain ⟨x0, x1, x2⟩ := (HXX.out.keep hBi).cells
          by_cases hjl : j < fl
          · have HJ : Hid (j < fl) := hjl
            have n1 := cell_later HC.out.2 hBi
            obtain ⟨b2, off2, rfl, hc2⟩ := (HF.out.later hBi) (by omega)
            have h0 := (hc2 j hjl).1.1
            obtain ⟨b3, off3, rfl, hc3⟩ := (HVV.out.later hBi) (by omega)
            obtain ⟨g0, g1, g2⟩ := hc3 j hjl
            have C11 : Hid (∀ d, Below wr.heap.size wr d → Calls Try.prog 9 #[.slice (some ⟨b, off, none⟩) n cap, evtV ty t (.slice (some ⟨b3, off3, none⟩) fl vc), .string (fn j)] d fun e w' => e = .returned (.tuple #[valV (vs j).k (vs j).n (vs j).s, .bool true]) ∧ Below d.heap.size d w') := fun d hd => by
              have := CC.out (fn j) d (bt HB5' (bt hB (bt hBi hd)))
              rw [E2.out j hjl] at this
              exact this
            clear hc2 hc3
            go_wp2_with fail
            refine wp_region_noPanic ?_
            refine wp_region_held_drew (S := fun w' => Below wr.heap.size wr w') (by kernel_rfl) ((Below.refl _ _).drew) (fun hHeld => ?_)
            have hT : Below wr.heap.size wr wr.drew := hHeld
            obtain ⟨d, hd⟩ : ∃ d, d = wr.drew := ⟨_, rfl⟩
            rw [← hd] at hHeld hT ⊢
            clear hd
            refine wpAnyH_take (i := 0) (oi := ⟨some 81, Op.move (Operand.tmp 0), 22, _, _, _⟩) (v := ?v0f) rfl (by kernel_rfl) (by kernel_rfl) (by kernel_rfl) (fun _ _ _ h => h) (Or.inl ⟨by rfl, ?hy0f⟩) hHeld ?rest0f
            case hy0f => intro w9 hSw; go_simp; (try with_reducible rfl)
            try simp only [Act.put, List.setIfInBounds_toArray, List.set_cons_zero, List.set_cons_succ]
            refine wpAnyH_take (i := 1) (oi := ⟨some 82, Op.load 26 (Operand.tmp 4), 26, _, _, _⟩) (v := ?v1f) rfl (by kernel_rfl) (by kernel_rfl) (by kernel_rfl) (fun _ _ _ h => h) (Or.inl ⟨by rfl, ?hy1f⟩) hHeld ?rest1f
            case hy1f => intro w9 hSw; have c0 := cell_later x0 hSw; have c1 := cell_later x1 hSw; have c2 := cell_later x2 hSw; go_simp; (try with_reducible rfl)
            try simp only [Act.put, List.setIfInBounds_toArray, List.set_cons_zero, List.set_cons_succ]
            refine wpAnyH_take (i := 2) (oi := ⟨some 83, Op.move (Operand.tmp 0), 22, _, _, _⟩) (v := ?v2f) rfl (by kernel_rfl) (by kernel_rfl) (by kernel_rfl) (fun _ _ _ h => h) (Or.inl ⟨by rfl, ?hy2f⟩) hHeld ?rest2f
            case hy2f => intro w9 hSw; go_simp; (try with_reducible rfl)
            try simp only [Act.put, List.setIfInBounds_toArray, List.set_cons_zero, List.set_cons_succ]
            refine wpAnyH_take (i := 3) (oi := ⟨some 84, Op.move (Operand.tmp 9), 3, _, _, _⟩) (v := ?v3f) rfl (by kernel_rfl) (by kernel_rfl) (by kernel_rfl) (fun _ _ _ h => h) (Or.inl ⟨by rfl, ?hy3f⟩) hHeld ?rest3f
            case hy3f => intro w9 hSw; go_simp; (try with_reducible rfl)
            try simp only [Act.put, List.setIfInBounds_toArray, List.set_cons_zero, List.set_cons_succ]
            refine wpAnyH_take (i := 4) (oi := ⟨some 85, Op.indexAddr 22 (Operand.tmp 83) (Operand.tmp 84), 0, _, _, _⟩) (v := ?v4f) rfl (by kernel_rfl) (by kernel_rfl) (by kernel_rfl) (fun _ _ _ h => h) (Or.inl ⟨by rfl, ?hy4f⟩) hHeld ?rest4f
            case hy4f => intro w9 hSw; go_simp; (try with_reducible rfl)
            try simp only [Act.put, List.setIfInBounds_toArray, List.set_cons_zero, List.set_cons_succ]
            refine wpAnyH_take (i := 5) (oi := ⟨some 86, Op.fieldAddr 50 (Operand.tmp 85) 1, 0, _, _, _⟩) (v := ?v5f) rfl (by kernel_rfl) (by kernel_rfl) (by kernel_rfl) (fun _ _ _ h => h) (Or.inl ⟨by rfl, ?hy5f⟩) hHeld ?rest5f
            case hy5f => intro w9 hSw; go_simp; (try with_reducible rfl)
            try simp only [Act.put, List.setIfInBounds_toArray, List.set_cons_zero, List.set_cons_succ]
            refine wpAnyH_take (i := 6) (oi := ⟨some 87, Op.load 48 (Operand.tmp 86), 48, _, _, _⟩) (v := ?v6f) rfl (by kernel_rfl) (by kernel_rfl) (by kernel_rfl) (fun _ _ _ h => h) (Or.inl ⟨by rfl, ?hy6f⟩) hHeld ?rest6f
            case hy6f => intro w9 hSw; have c0 := cell_later n1 hSw; go_simp; (try with_reducible rfl)
            try simp only [Act.put, List.setIfInBounds_toArray, List.set_cons_zero, List.set_cons_succ]
            refine wpAnyH_take (i := 7) (oi := ⟨some 88, Op.move (Operand.tmp 10), 3, _, _, _⟩) (v := ?v7f) rfl (by kernel_rfl) (by kernel_rfl) (by kernel_rfl) (fun _ _ _ h => h) (Or.inl ⟨by rfl, ?hy7f⟩) hHeld ?rest7f
            case hy7f => intro w9 hSw; go_simp; (try with_reducible rfl)
            try simp only [Act.put, List.setIfInBounds_toArray, List.set_cons_zero, List.set_cons_succ]
            refine wpAnyH_take (i := 8) (oi := ⟨some 89, Op.indexAddr 48 (Operand.tmp 87) (Operand.tmp 88), 0, _, _, _⟩) (v := ?v8f) rfl (by kernel_rfl) (by kernel_rfl) (by kernel_rfl) (fun _ _ _ h => h) (Or.inl ⟨by rfl, ?hy8f⟩) hHeld ?rest8f
            case hy8f => intro w9 hSw; go_simp; (try with_reducible rfl)
            try simp only [Act.put, List.setIfInBounds_toArray, List.set_cons_zero, List.set_cons_succ]
            refine wpAnyH_take (i := 9) (oi := ⟨some 90, Op.fieldAddr 52 (Operand.tmp 89) 0, 0, _, _, _⟩) (v := ?v9f) rfl (by kernel_rfl) (by kernel_rfl) (by kernel_rfl) (fun _ _ _ h => h) (Or.inl ⟨by rfl, ?hy9f⟩) hHeld ?rest9f
            case hy9f => intro w9 hSw; go_simp; (try with_reducible rfl)
            try simp only [Act.put, List.setIfInBounds_toArray, List.set_cons_zero, List.set_cons_succ]
            refine wpAnyH_take (i := 10) (oi := ⟨some 91, Op.load 9 (Operand.tmp 90), 9, _, _, _⟩) (v := ?v10f) rfl (by kernel_rfl) (by kernel_rfl) (by kernel_rfl) (fun _ _ _ h => h) (Or.inl ⟨by rfl, ?hy10f⟩) hHeld ?rest10f
            case hy10f => intro w9 hSw; have c0 := cell_later h0 hSw; go_simp; (try with_reducible rfl)
            try simp only [Act.put, List.setIfInBounds_toArray, List.set_cons_zero, List.set_cons_succ]
            refine wpAnyH_ready (rs := [11, 15]) (by kernel_rfl) (by simp) ?_
            refine AllReadyH.cons (o := ⟨some 92, Op.call { callee := Callee.value (Operand.func 9), args := #[Operand.tmp 81, Operand.tmp 82, Operand.tmp 91], argTypes := #[22, 26, 9] }, 35, _, _, _⟩) rfl (fun K hK => ?wayA) (AllReadyH.cons (o := ⟨some 11, Op.alloc 34, 0, _, _, _⟩) rfl (fun K hK => ?wayB) AllReadyH.nil)
            case wayA =>
              go_simp
              refine (C11.out _ hHeld).mono ?_
              rintro e x11 ⟨rfl, hN11⟩
              go_wp2_with fail
              have hT11 : Below wr.heap.size wr x11 := hT.trans (hN11.mono hT.size)
              refine hK.out _ _ (hHeld.trans (hN11.mono hHeld.size)) (fun _ => held_up (S' := fun w' => Below x11.heap.size x11 w') (fun w' h' => (hHeld.trans (hN11.mono hHeld.size)).trans (h'.mono (Nat.le_trans hHeld.size hN11.size))) _ _ _ _ ?_)
              clear hK K hHeld hT
              have hHeld : Below x11.heap.size x11 x11 := Below.refl _ _
              clear hN11
              try simp only [Act.put, List.setIfInBounds_toArray, List.set_cons_zero, List.set_cons_succ]
              refine wpAnyH_take (i := 12) (oi := ⟨some 80, Op.move (Operand.tmp 92), 35, _, _, _⟩) (v := ?v12a) rfl (by kernel_rfl) (by kernel_rfl) (by kernel_rfl) (fun _ _ _ h => h) (Or.inl ⟨by rfl, ?hy12a⟩) hHeld ?rest12a
              case hy12a => intro w9 hSw; go_simp; (try with_reducible rfl)
              try simp only [Act.put, List.setIfInBounds_toArray, List.set_cons_zero, List.set_cons_succ]
              refine wpAnyH_take (i := 13) (oi := ⟨some 93, Op.extract (Operand.tmp 80) 0, 34, _, _, _⟩) (v := ?v13a) rfl (by kernel_rfl) (by kernel_rfl) (by kernel_rfl) (fun _ _ _ h => h) (Or.inl ⟨by rfl, ?hy13a⟩) hHeld ?rest13a
              case hy13a => intro w9 hSw; go_simp; (try with_reducible rfl)
              try simp only [Act.put, List.setIfInBounds_toArray, List.set_cons_zero, List.set_cons_succ]
              refine wpAnyH_take (i := 14) (oi := ⟨some 94, Op.extract (Operand.tmp 80) 1, 4, _, _, _⟩) (v := ?v14a) rfl (by kernel_rfl) (by kernel_rfl) (by kernel_rfl) (fun _ _ _ h => h) (Or.inl ⟨by rfl, ?hy14a⟩) hHeld ?rest14a
              case hy14a => intro w9 hSw; go_simp; (try with_reducible rfl)
              try simp only [Act.put, List.setIfInBounds_toArray, List.set_cons_zero, List.set_cons_succ]
              refine wpAnyH_ready (rs := [15]) (by kernel_rfl) (by simp) ?_
              refine AllReadyH.cons (o := ⟨some 11, Op.alloc 34, 0, _, _, _⟩) rfl (fun K hK => ?_) AllReadyH.nil
              go_simp
              refine hK.out _ _ ((Below.refl _ x11).alloc (Nat.le_refl _) _) (fun hHeld => ?_)
              clear hK K
              try simp only [Act.put, List.setIfInBounds_toArray, List.set_cons_zero, List.set_cons_succ]
              refine wpAnyH_ready (rs := [16]) (by kernel_rfl) (by simp) ?_
              refine AllReadyH.cons (o := ⟨none, Op.store 34 (Operand.tmp 11) (Operand.tmp 93), 0, _, _, _⟩) rfl (fun K hK => ?_) AllReadyH.nil
              go_simp
              refine hK.out _ _ ((Below.refl _ x11).alloc (Nat.le_refl _) _) (fun hHeld => ?_)
              clear hK K
              try simp only [Act.put, List.setIfInBounds_toArray, List.set_cons_zero, List.set_cons_succ]
              refine wpAnyH_take (i := 17) (oi := ⟨some 12, Op.assign (Operand.tmp 94), 4, _, _, _⟩) (v := ?v17a) rfl (by kernel_rfl) (by kernel_rfl) (by kernel_rfl) (fun _ _ _ h => h) (Or.inl ⟨by rfl, ?hy17a⟩) hHeld ?rest17a
              case hy17a => intro w9 hSw; go_simp; (try with_reducible rfl)
              try simp only [Act.put, List.setIfInBounds_toArray, List.set_cons_zero, List.set_cons_succ]
              refine wpAnyH_done (by kernel_rfl) ?_ _
              refine NoPanic.normal ?_
              have BY := Box3.new 34 x11 (.int .i64 (vs j).k) (.int .i64 (vs j).n) (.string (vs j).s)
              have hX : Below wr.heap.size wr (x11.alloc (valO (vs j).k (vs j).n (vs j).s)) := bt hT11 hHeld
              obtain ⟨X, hXX⟩ : ∃ X, X = x11.alloc (valO (vs j).k (vs j).n (vs j).s) := ⟨_, rfl⟩
              obtain ⟨r2, hr2⟩ : ∃ r2, r2 = x11.heap.size := ⟨_, rfl⟩
              rw [← hXX, ← hr2] at BY
              rw [← hXX] at hX
              rw [← hXX, ← hr2]
              clear hXX hr2 hT11
              clear hHeld C11
              obtain ⟨y0, y1, y2⟩ := BY.cells
              have xx2 := cell_later x2 hX
              have q0 := cell_later g0 hX
              have q1 := cell_later g1 hX
              have q2 := cell_later g2 hX
              clear x0 x1 x2 n1 h0 g0 g1 g2
              go_wp2_with fail
              refine wp_region_noPanic ?_
              refine wp_region_held_drew (S := fun w' => Below X.heap.size X w') (by kernel_rfl) ((Below.refl _ _).drew) (fun hHeld => ?_)
              have hT : Below X.heap.size X X.drew := hHeld
              obtain ⟨d, hd⟩ : ∃ d, d = X.drew := ⟨_, rfl⟩
              rw [← hd] at hHeld hT ⊢
              clear hd
              refine wpAnyH_take (i := 0) (oi := ⟨some 95, Op.move (Operand.tmp 12), 4, _, _, _⟩) (v := ?v0a) rfl (by kernel_rfl) (by kernel_rfl) (by kernel_rfl) (fun _ _ _ h => h) (Or.inl ⟨by rfl, ?hy0a⟩) hHeld ?rest0a
              case hy0a => intro w9 hSw; go_simp; (try with_reducible rfl)
              try simp only [Act.put, List.setIfInBounds_toArray, List.set_cons_zero, List.set_cons_succ]
              refine wpAnyH_take (i := 1) (oi := ⟨some 96, Op.unOp UnOp.not 4 (Operand.tmp 95), 4, _, _, _⟩) (v := ?v1a) rfl (by kernel_rfl) (by kernel_rfl) (by kernel_rfl) (fun _ _ _ h => h) (Or.inl ⟨by rfl, ?hy1a⟩) hHeld ?rest1a
              case hy1a => intro w9 hSw; go_simp; (try with_reducible rfl)
              try simp only [Act.put, List.setIfInBounds_toArray, List.set_cons_zero, List.set_cons_succ]
              refine wpAnyH_take (i := 2) (oi := ⟨some 97, Op.move (Operand.tmp 96), 4, _, _, _⟩) (v := ?v2a) rfl (by kernel_rfl) (by kernel_rfl) (by kernel_rfl) (fun _ _ _ h => h) (Or.inl ⟨by rfl, ?hy2a⟩) hHeld ?rest2a
              case hy2a => intro w9 hSw; go_simp; (try with_reducible rfl)
              try simp only [Act.put, List.setIfInBounds_toArray, List.set_cons_zero, List.set_cons_succ]
              refine wpAnyH_take (i := 3) (oi := ⟨some 98, Op.load 34 (Operand.tmp 11), 34, _, _, _⟩) (v := ?v3a) rfl (by kernel_rfl) (by kernel_rfl) (by kernel_rfl) (fun _ _ _ h => h) (Or.inl ⟨by rfl, ?hy3a⟩) hHeld ?rest3a
              case hy3a => intro w9 hSw; have c0 := cell_later y0 hSw; have c1 := cell_later y1 hSw; have c2 := cell_later y2 hSw; go_simp; (try with_reducible rfl)
              try simp only [Act.put, List.setIfInBounds_toArray, List.set_cons_zero, List.set_cons_succ]
              refine wpAnyH_take (i := 4) (oi := ⟨some 99, Op.fieldAddr 26 (Operand.tmp 4) 2, 0, _, _, _⟩) (v := ?v4a) rfl (by kernel_rfl) (by kernel_rfl) (by kernel_rfl) (fun _ _ _ h => h) (Or.inl ⟨by rfl, ?hy4a⟩) hHeld ?rest4a
              case hy4a => intro w9 hSw; go_simp; (try with_reducible rfl)
              try simp only [Act.put, List.setIfInBounds_toArray, List.set_cons_zero, List.set_cons_succ]
              refine wpAnyH_take (i := 5) (oi := ⟨some 100, Op.load 24 (Operand.tmp 99), 24, _, _, _⟩) (v := ?v5a) rfl (by kernel_rfl) (by kernel_rfl) (by kernel_rfl) (fun _ _ _ h => h) (Or.inl ⟨by rfl, ?hy5a⟩) hHeld ?rest5a
              case hy5a => intro w9 hSw; have c0 := cell_later xx2 hSw; go_simp; (try with_reducible rfl)
              try simp only [Act.put, List.setIfInBounds_toArray, List.set_cons_zero, List.set_cons_succ]
              refine wpAnyH_take (i := 6) (oi := ⟨some 101, Op.move (Operand.tmp 10), 3, _, _, _⟩) (v := ?v6a) rfl (by kernel_rfl) (by kernel_rfl) (by kernel_rfl) (fun _ _ _ h => h) (Or.inl ⟨by rfl, ?hy6a⟩) hHeld ?rest6a
              case hy6a => intro w9 hSw; go_simp; (try with_reducible rfl)
              try simp only [Act.put, List.setIfInBounds_toArray, List.set_cons_zero, List.set_cons_succ]
              refine wpAnyH_take (i := 7) (oi := ⟨some 102, Op.indexAddr 24 (Operand.tmp 100) (Operand.tmp 101), 0, _, _, _⟩) (v := ?v7a) rfl (by kernel_rfl) (by kernel_rfl) (by kernel_rfl) (fun _ _ _ h => h) (Or.inl ⟨by rfl, ?hy7a⟩) hHeld ?rest7a
              case hy7a => intro w9 hSw; go_simp; (try with_reducible rfl)
              try simp only [Act.put, List.setIfInBounds_toArray, List.set_cons_zero, List.set_cons_succ]
              refine wpAnyH_take (i := 8) (oi := ⟨some 103, Op.load 34 (Operand.tmp 102), 34, _, _, _⟩) (v := ?v8a) rfl (by kernel_rfl) (by kernel_rfl) (by kernel_rfl) (fun _ _ _ h => h) (Or.inl ⟨by rfl, ?hy8a⟩) hHeld ?rest8a
              case hy8a => intro w9 hSw; have c0 := cell_later q0 hSw; have c1 := cell_later q1 hSw; have c2 := cell_later q2 hSw; go_simp; (try with_reducible rfl)
              try simp only [Act.put, List.setIfInBounds_toArray, List.set_cons_zero, List.set_cons_succ]
              refine wpAnyH_take (i := 9) (oi := ⟨some 104, Op.binOp BinOp.neq 34 (Operand.tmp 98) (Operand.tmp 103) 34, 4, _, _, _⟩) (v := ?v9a) rfl (by kernel_rfl) (by kernel_rfl) (by kernel_rfl) (fun _ _ _ h => h) (Or.inl ⟨by rfl, ?hy9a⟩) hHeld ?rest9a
              case hy9a => intro w9 hSw; go_simp; (try with_reducible rfl)
              try simp only [Act.put, List.setIfInBounds_toArray, List.set_cons_zero, List.set_cons_succ]
              refine wpAnyH_take (i := 10) (oi := ⟨some 105, Op.pick (Operand.tmp 97) (Operand.const (Value.bool true)) (Operand.tmp 104), 4, _, _, _⟩) (v := ?v10a) rfl (by kernel_rfl) (by kernel_rfl) (by kernel_rfl) (fun _ _ _ h => h) (Or.inl ⟨by rfl, ?hy10a⟩) hHeld ?rest10a
              case hy10a => intro w9 hSw; go_simp; (try with_reducible rfl)
              try simp only [Act.put, List.setIfInBounds_toArray, List.set_cons_zero, List.set_cons_succ]
              refine wpAnyH_done (by kernel_rfl) ?_ _
              refine NoPanic.normal ?_
              go_wp2
              go_roundw
              case rel => exact ⟨j + 1, HJ.out, by go_num, bt hBi (bt hX hT)⟩
              case measure => have := HJ.out; simp [intOf]; omega
            case wayB =>
              go_simp
              have hA : Below wr.heap.size wr (d.alloc (valO 0 0 ⟨#[]⟩)) := hHeld.alloc hHeld.size _
              refine hK.out _ _ hA (fun _ => ?_)
              clear hK K
              have BX := Box3.new 34 d (.int .i64 0) (.int .i64 0) (.string ⟨#[]⟩)
              have hle : wr.heap.size ≤ d.heap.size := hHeld.size
              obtain ⟨D, hD⟩ : ∃ D, D = d.alloc (valO 0 0 ⟨#[]⟩) := ⟨_, rfl⟩
              obtain ⟨r2, hr2⟩ : ∃ r2, r2 = d.heap.size := ⟨_, rfl⟩
              rw [← hD, ← hr2] at BX
              rw [← hD] at hA
              rw [← hr2] at hle
              rw [← hD, ← hr2]
              clear hD hr2 hHeld hT
              try simp only [Act.put, List.setIfInBounds_toArray, List.set_cons_zero, List.set_cons_succ]
              refine wpAnyH_ready (rs := [11]) (by kernel_rfl) (by simp) ?_
              refine AllReadyH.cons (o := ⟨some 92, Op.call { callee := Callee.value (Operand.func 9), args := #[Operand.tmp 81, Operand.tmp 82, Operand.tmp 91], argTypes := #[22, 26, 9] }, 35, _, _, _⟩) rfl (fun K hK => ?_) AllReadyH.nil
              go_simp
              refine (C11.out _ hA).mono ?_
              rintro e x11 ⟨rfl, hN11⟩
              go_wp2_with fail
              have hHeld : Below wr.heap.size wr x11 := bt hA hN11
              have BX1 := BX.keep hN11
              refine hK.out _ _ hHeld (fun _ => ?_)
              clear hK K
              try simp only [Act.put, List.setIfInBounds_toArray, List.set_cons_zero, List.set_cons_succ]
              refine wpAnyH_take (i := 12) (oi := ⟨some 80, Op.move (Operand.tmp 92), 35, _, _, _⟩) (v := ?v12b) rfl (by kernel_rfl) (by kernel_rfl) (by kernel_rfl) (fun _ _ _ h => h) (Or.inl ⟨by rfl, ?hy12b⟩) hHeld ?rest12b
              case hy12b => intro w9 hSw; go_simp; (try with_reducible rfl)
              try simp only [Act.put, List.setIfInBounds_toArray, List.set_cons_zero, List.set_cons_succ]
              refine wpAnyH_take (i := 13) (oi := ⟨some 93, Op.extract (Operand.tmp 80) 0, 34, _, _, _⟩) (v := ?v13b) rfl (by kernel_rfl) (by kernel_rfl) (by kernel_rfl) (fun _ _ _ h => h) (Or.inl ⟨by rfl, ?hy13b⟩) hHeld ?rest13b
              case hy13b => intro w9 hSw; go_simp; (try with_reducible rfl)
              try simp only [Act.put, List.setIfInBounds_toArray, List.set_cons_zero, List.set_cons_succ]
              refine wpAnyH_take (i := 14) (oi := ⟨some 94, Op.extract (Operand.tmp 80) 1, 4, _, _, _⟩) (v := ?v14b) rfl (by kernel_rfl) (by kernel_rfl) (by kernel_rfl) (fun _ _ _ h => h) (Or.inl ⟨by rfl, ?hy14b⟩) hHeld ?rest14b
              case hy14b => intro w9 hSw; go_simp; (try with_reducible rfl)
              try simp only [Act.put, List.setIfInBounds_toArray, List.set_cons_zero, List.set_cons_succ]
              obtain ⟨y0, y1, y2⟩ := BX1.cells
              have z0 := BX1.frozen 0
              have z1 := BX1.frozen 1
              have z2 := BX1.frozen 2
              refine wpAnyH_ready (rs := [16]) (by kernel_rfl) (by simp) ?_
              refine AllReadyH.cons (o := ⟨none, Op.store 34 (Operand.tmp 11) (Operand.tmp 93), 0, _, _, _⟩) rfl (fun K hK => ?_) AllReadyH.nil
              go_simp
              refine hK.out _ _ (((hHeld.setCell hle _).setCell hle _).setCell hle _) (fun hHeld => ?_)
              clear hK K
              try simp only [Act.put, List.setIfInBounds_toArray, List.set_cons_zero, List.set_cons_succ]
              refine wpAnyH_take (i := 17) (oi := ⟨some 12, Op.assign (Operand.tmp 94), 4, _, _, _⟩) (v := ?v17b) rfl (by kernel_rfl) (by kernel_rfl) (by kernel_rfl) (fun _ _ _ h => h) (Or.inl ⟨by rfl, ?hy17b⟩) hHeld ?rest17b
              case hy17b => intro w9 hSw; go_simp; (try with_reducible rfl)
              try simp only [Act.put, List.setIfInBounds_toArray, List.set_cons_zero, List.set_cons_succ]
              refine wpAnyH_done (by kernel_rfl) ?_ _
              refine NoPanic.normal ?_
              have BY := BX1.set (.int .i64 (vs j).k) (.int .i64 (vs j).n) (.string (vs j).s)
              have hX := hHeld
              clear y0 y1 y2 z0 z1 z2 BX1 BX
              obtain ⟨X, hXX⟩ : ∃ X, X = ((x11.setCell ⟨r2, 0, none⟩ (.int .i64 (vs j).k)).setCell ⟨r2, 1, none⟩ (.int .i64 (vs j).n)).setCell ⟨r2, 2, none⟩ (.string (vs j).s) := ⟨_, rfl⟩
              rw [← hXX] at BY hX
              rw [← hXX]
              clear hXX hN11 hA hle
              clear hHeld C11
              obtain ⟨y0, y1, y2⟩ := BY.cells
              have xx2 := cell_later x2 hX
              have q0 := cell_later g0 hX
              have q1 := cell_later g1 hX
              have q2 := cell_later g2 hX
              clear x0 x1 x2 n1 h0 g0 g1 g2
              go_wp2_with fail
              refine wp_region_noPanic ?_
              refine wp_region_held_drew (S := fun w' => Below X.heap.size X w') (by kernel_rfl) ((Below.refl _ _).drew) (fun hHeld => ?_)
              have hT : Below X.heap.size X X.drew := hHeld
              obtain ⟨d, hd⟩ : ∃ d, d = X.drew := ⟨_, rfl⟩
              rw [← hd] at hHeld hT ⊢
              clear hd
              refine wpAnyH_take (i := 0) (oi := ⟨some 95, Op.move (Operand.tmp 12), 4, _, _, _⟩) (v := ?v0b) rfl (by kernel_rfl) (by kernel_rfl) (by kernel_rfl) (fun _ _ _ h => h) (Or.inl ⟨by rfl, ?hy0b⟩) hHeld ?rest0b
              case hy0b => intro w9 hSw; go_simp; (try with_reducible rfl)
              try simp only [Act.put, List.setIfInBounds_toArray, List.set_cons_zero, List.set_cons_succ]
              refine wpAnyH_take (i := 1) (oi := ⟨some 96, Op.unOp UnOp.not 4 (Operand.tmp 95), 4, _, _, _⟩) (v := ?v1b) rfl (by kernel_rfl) (by kernel_rfl) (by kernel_rfl) (fun _ _ _ h => h) (Or.inl ⟨by rfl, ?hy1b⟩) hHeld ?rest1b
              case hy1b => intro w9 hSw; go_simp; (try with_reducible rfl)
              try simp only [Act.put, List.setIfInBounds_toArray, List.set_cons_zero, List.set_cons_succ]
              refine wpAnyH_take (i := 2) (oi := ⟨some 97, Op.move (Operand.tmp 96), 4, _, _, _⟩) (v := ?v2b) rfl (by kernel_rfl) (by kernel_rfl) (by kernel_rfl) (fun _ _ _ h => h) (Or.inl ⟨by rfl, ?hy2b⟩) hHeld ?rest2b
              case hy2b => intro w9 hSw; go_simp; (try with_reducible rfl)
              try simp only [Act.put, List.setIfInBounds_toArray, List.set_cons_zero, List.set_cons_succ]
              refine wpAnyH_take (i := 3) (oi := ⟨some 98, Op.load 34 (Operand.tmp 11), 34, _, _, _⟩) (v := ?v3b) rfl (by kernel_rfl) (by kernel_rfl) (by kernel_rfl) (fun _ _ _ h => h) (Or.inl ⟨by rfl, ?hy3b⟩) hHeld ?rest3b
              case hy3b => intro w9 hSw; have c0 := cell_later y0 hSw; have c1 := cell_later y1 hSw; have c2 := cell_later y2 hSw; go_simp; (try with_reducible rfl)
              try simp only [Act.put, List.setIfInBounds_toArray, List.set_cons_zero, List.set_cons_succ]
              refine wpAnyH_take (i := 4) (oi := ⟨some 99, Op.fieldAddr 26 (Operand.tmp 4) 2, 0, _, _, _⟩) (v := ?v4b) rfl (by kernel_rfl) (by kernel_rfl) (by kernel_rfl) (fun _ _ _ h => h) (Or.inl ⟨by rfl, ?hy4b⟩) hHeld ?rest4b
              case hy4b => intro w9 hSw; go_simp; (try with_reducible rfl)
              try simp only [Act.put, List.setIfInBounds_toArray, List.set_cons_zero, List.set_cons_succ]
              refine wpAnyH_take (i := 5) (oi := ⟨some 100, Op.load 24 (Operand.tmp 99), 24, _, _, _⟩) (v := ?v5b) rfl (by kernel_rfl) (by kernel_rfl) (by kernel_rfl) (fun _ _ _ h => h) (Or.inl ⟨by rfl, ?hy5b⟩) hHeld ?rest5b
              case hy5b => intro w9 hSw; have c0 := cell_later xx2 hSw; go_simp; (try with_reducible rfl)
              try simp only [Act.put, List.setIfInBounds_toArray, List.set_cons_zero, List.set_cons_succ]
              refine wpAnyH_take (i := 6) (oi := ⟨some 101, Op.move (Operand.tmp 10), 3, _, _, _⟩) (v := ?v6b) rfl (by kernel_rfl) (by kernel_rfl) (by kernel_rfl) (fun _ _ _ h => h) (Or.inl ⟨by rfl, ?hy6b⟩) hHeld ?rest6b
              case hy6b => intro w9 hSw; go_simp; (try with_reducible rfl)
              try simp only [Act.put, List.setIfInBounds_toArray, List.set_cons_zero, List.set_cons_succ]
              refine wpAnyH_take (i := 7) (oi := ⟨some 102, Op.indexAddr 24 (Operand.tmp 100) (Operand.tmp 101), 0, _, _, _⟩) (v := ?v7b) rfl (by kernel_rfl) (by kernel_rfl) (by kernel_rfl) (fun _ _ _ h => h) (Or.inl ⟨by rfl, ?hy7b⟩) hHeld ?rest7b
              case hy7b => intro w9 hSw; go_simp; (try with_reducible rfl)
              try simp only [Act.put, List.setIfInBounds_toArray, List.set_cons_zero, List.set_cons_succ]
              refine wpAnyH_take (i := 8) (oi := ⟨some 103, Op.load 34 (Operand.tmp 102), 34, _, _, _⟩) (v := ?v8b) rfl (by kernel_rfl) (by kernel_rfl) (by kernel_rfl) (fun _ _ _ h => h) (Or.inl ⟨by rfl, ?hy8b⟩) hHeld ?rest8b
              case hy8b => intro w9 hSw; have c0 := cell_later q0 hSw; have c1 := cell_later q1 hSw; have c2 := cell_later q2 hSw; go_simp; (try with_reducible rfl)
              try simp only [Act.put, List.setIfInBounds_toArray, List.set_cons_zero, List.set_cons_succ]
              refine wpAnyH_take (i := 9) (oi := ⟨some 104, Op.binOp BinOp.neq 34 (Operand.tmp 98) (Operand.tmp 103) 34, 4, _, _, _⟩) (v := ?v9b) rfl (by kernel_rfl) (by kernel_rfl) (by kernel_rfl) (fun _ _ _ h => h) (Or.inl ⟨by rfl, ?hy9b⟩) hHeld ?rest9b
              case hy9b => intro w9 hSw; go_simp; (try with_reducible rfl)
              try simp only [Act.put, List.setIfInBounds_toArray, List.set_cons_zero, List.set_cons_succ]
              refine wpAnyH_take (i := 10) (oi := ⟨some 105, Op.pick (Operand.tmp 97) (Operand.const (Value.bool true)) (Operand.tmp 104), 4, _, _, _⟩) (v := ?v10b) rfl (by kernel_rfl) (by kernel_rfl) (by kernel_rfl) (fun _ _ _ h => h) (Or.inl ⟨by rfl, ?hy10b⟩) hHeld ?rest10b
              case hy10b => intro w9 hSw; go_simp; (try with_reducible rfl)
              try simp only [Act.put, List.setIfInBounds_toArray, List.set_cons_zero, List.set_cons_succ]
              refine wpAnyH_done (by kernel_rfl) ?_ _
              refine NoPanic.normal ?_
              go_wp2
              go_roundw
              case rel => exact ⟨j + 1, HJ.out, by go_num, bt hBi (bt hX hT)⟩
              case measure => have := HJ.out; simp [intOf]; omega
          · go_wp2
            go_roundw
            case rel => exact ⟨k + 1, by omega, by go_num, bt hB hBi⟩
            case measure => simp [intOf]; omega
      · have hs := str_not he
        go_wp2_with fail
        refine wp_region_noPanic ?_
        refine wp_region_held_drew (S := fun w' => Below wr.heap.size wr w') (by kernel_rfl) ((Below.refl _ _).drew) (fun hHeld => ?_)
        have hT : Below wr.heap.size wr wr.drew := hHeld
        obtain ⟨d, hd⟩ : ∃ d, d = wr.drew := ⟨_, rfl⟩
        rw [← hd] at hHeld hT ⊢
        clear hd
        refine wpAnyH_take (i := 0) (oi := ⟨some 55, Op.move (Operand.tmp 0), 22, _, _, _⟩) (v := ?v0n) rfl (by kernel_rfl) (by kernel_rfl) (by kernel_rfl) (fun _ _ _ h => h) (Or.inl ⟨by rfl, ?hy0n⟩) hHeld ?rest0n
        case hy0n => intro w9 hSw; go_simp; (try with_reducible rfl)
        try simp only [Act.put, List.setIfInBounds_toArray, List.set_cons_zero, List.set_cons_succ]
        refine wpAnyH_take (i := 1) (oi := ⟨some 56, Op.move (Operand.tmp 9), 3, _, _, _⟩) (v := ?v1n) rfl (by kernel_rfl) (by kernel_rfl) (by kernel_rfl) (fun _ _ _ h => h) (Or.inl ⟨by rfl, ?hy1n⟩) hHeld ?rest1n
        case hy1n => intro w9 hSw; go_simp; (try with_reducible rfl)
        try simp only [Act.put, List.setIfInBounds_toArray, List.set_cons_zero, List.set_cons_succ]
        refine wpAnyH_take (i := 2) (oi := ⟨some 57, Op.indexAddr 22 (Operand.tmp 55) (Operand.tmp 56), 0, _, _, _⟩) (v := ?v2n) rfl (by kernel_rfl) (by kernel_rfl) (by kernel_rfl) (fun _ _ _ h => h) (Or.inl ⟨by rfl, ?hy2n⟩) hHeld ?rest2n
        case hy2n => intro w9 hSw; go_simp; (try with_reducible rfl)
        try simp only [Act.put, List.setIfInBounds_toArray, List.set_cons_zero, List.set_cons_succ]
        refine wpAnyH_take (i := 3) (oi := ⟨some 58, Op.fieldAddr 50 (Operand.tmp 57) 0, 0, _, _, _⟩) (v := ?v3n) rfl (by kernel_rfl) (by kernel_rfl) (by kernel_rfl) (fun _ _ _ h => h) (Or.inl ⟨by rfl, ?hy3n⟩) hHeld ?rest3n
        case hy3n => intro w9 hSw; go_simp; (try with_reducible rfl)
        try simp only [Act.put, List.setIfInBounds_toArray, List.set_cons_zero, List.set_cons_succ]
        refine wpAnyH_take (i := 4) (oi := ⟨some 59, Op.load 9 (Operand.tmp 58), 9, _, _, _⟩) (v := ?v4n) rfl (by kernel_rfl) (by kernel_rfl) (by kernel_rfl) (fun _ _ _ h => h) (Or.inl ⟨by rfl, ?hy4n⟩) hHeld ?rest4n
        case hy4n => intro w9 hSw; have c0 := cell_later n0 hSw; go_simp; (try with_reducible rfl)
        try simp only [Act.put, List.setIfInBounds_toArray, List.set_cons_zero, List.set_cons_succ]
        refine wpAnyH_take (i := 5) (oi := ⟨some 60, Op.fieldAddr 26 (Operand.tmp 4) 0, 0, _, _, _⟩) (v := ?v5n) rfl (by kernel_rfl) (by kernel_rfl) (by kernel_rfl) (fun _ _ _ h => h) (Or.inl ⟨by rfl, ?hy5n⟩) hHeld ?rest5n
        case hy5n => intro w9 hSw; go_simp; (try with_reducible rfl)
        try simp only [Act.put, List.setIfInBounds_toArray, List.set_cons_zero, List.set_cons_succ]
        refine wpAnyH_take (i := 6) (oi := ⟨some 61, Op.load 9 (Operand.tmp 60), 9, _, _, _⟩) (v := ?v6n) rfl (by kernel_rfl) (by kernel_rfl) (by kernel_rfl) (fun _ _ _ h => h) (Or.inl ⟨by rfl, ?hy6n⟩) hHeld ?rest6n
        case hy6n => intro w9 hSw; have c0 := cell_later x0 hSw; go_simp; (try with_reducible rfl)
        try simp only [Act.put, List.setIfInBounds_toArray, List.set_cons_zero, List.set_cons_succ]
        refine wpAnyH_take (i := 7) (oi := ⟨some 62, Op.binOp BinOp.neq 9 (Operand.tmp 59) (Operand.tmp 61) 9, 4, _, _, _⟩) (v := ?v7n) rfl (by kernel_rfl) (by kernel_rfl) (by kernel_rfl) (fun _ _ _ h => h) (Or.inl ⟨by rfl, ?hy7n⟩) hHeld ?rest7n
        case hy7n => intro w9 hSw; go_simp; (try with_reducible rfl)
        try simp only [Act.put, List.setIfInBounds_toArray, List.set_cons_zero, List.set_cons_succ]
        refine wpAnyH_done (by kernel_rfl) ?_ _
        refine NoPanic.normal ?_
        go_wp2
        go_roundw
        case rel => exact ⟨k + 1, by omega, by go_num, bt hB hT⟩
        case measure => simp [intOf]; omega
    · go_wp2_with (first | (go_at_call 6; refine (awake_any _).mono ?_; rintro e w9 ⟨rfl, hB9⟩))
      go_ret
      exact ⟨rfl, bt HB5' (bt hB hB9)⟩
end Go.Proofs.Ytelabjipclfpnaa
