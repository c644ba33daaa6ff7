/-
  The document's Check of an event (haruspexref08, P8.1).
-/
import Derived.Test.YtelabjipclfpnaaEvGet
import Derived.Test.YtelabjipclfpnaaRefFits
import Derived.Test.YtelabjipclfpnaaSchRefBook
import Derived.Test.YtelabjipclfpnaaHeld
import Derived.Deep.RegionHeld3
namespace Go.Proofs.Ytelabjipclfpnaa
open Go.RowKit

set_option maxRecDepth 100000 in
set_option maxHeartbeats 4000000 in
theorem rc_book (a : Option Addr) (n cap : Nat) (ty : ByteArray) (t : Int) (va : Option Addr) (vl vc : Nat) (z : Int) (i : Nat) (b : Bool) (w : World) (hz : (z == 0) = false)
    (c1 : ∀ d, Below w.heap.size w d → Calls Try.prog 25 #[.slice a n cap] d fun e w' => e = .returned (.int .i64 z) ∧ Below d.heap.size d w')
    (c2 : ∀ d, Below w.heap.size w d → Calls Try.prog 23 #[.slice a n cap, .string ty] d fun e w' => e = .returned (.tuple #[.int .i64 i, .bool b]) ∧ Below d.heap.size d w') :
    Calls Try.prog 14 #[.slice a n cap, evtV ty t (.slice va vl vc)] w fun e w' => e = .returned (.int .i64 1) ∧ Below w.heap.size w w' := by
  have hB0 : Below w.heap.size w (w.alloc (evtO ty t (.slice va vl vc))) := (Below.refl _ _).alloc (Nat.le_refl _) _
  have X := Box3.new 26 w (.string ty) (.int .i64 t) (.slice va vl vc)
  have HX : Hid (Box3 26 (w.alloc (evtO ty t (.slice va vl vc))) w.heap.size (.string ty) (.int .i64 t) (.slice va vl vc)) := X
  have C1 : Hid (∀ d, _ → Calls Try.prog 25 _ d _) := c1
  have C2 : Hid (∀ d, _ → Calls Try.prog 23 _ d _) := c2
  clear c1 c2 X
  go_enter Try.func14, Try.ntmps14
  go_upto_region 1 with fail
  obtain ⟨W, hW⟩ : ∃ W, W = w.alloc (evtO ty t (.slice va vl vc)) := ⟨_, rfl⟩
  obtain ⟨p, hp⟩ : ∃ p, p = w.heap.size := ⟨_, rfl⟩
  rw [← hW, ← hp] at HX
  rw [← hW] at hB0
  rw [← hW, ← hp]
  clear hW hp
  go_wp2_with (first | (go_at_call 25; refine (C1.out _ hB0).mono ?_; rintro e w1 ⟨rfl, hB1⟩))
  go_ret
  exact ⟨rfl, bt hB0 hB1⟩
set_option maxRecDepth 100000 in
set_option maxHeartbeats 4000000 in
theorem rc_none (a : Option Addr) (n cap : Nat) (ty : ByteArray) (t : Int) (va : Option Addr) (vl vc : Nat) (z : Int) (i : Nat) (b : Bool) (w : World) (hz : z = 0) (hb : b = false)
    (c1 : ∀ d, Below w.heap.size w d → Calls Try.prog 25 #[.slice a n cap] d fun e w' => e = .returned (.int .i64 z) ∧ Below d.heap.size d w')
    (c2 : ∀ d, Below w.heap.size w d → Calls Try.prog 23 #[.slice a n cap, .string ty] d fun e w' => e = .returned (.tuple #[.int .i64 i, .bool b]) ∧ Below d.heap.size d w') :
    Calls Try.prog 14 #[.slice a n cap, evtV ty t (.slice va vl vc)] w fun e w' => e = .returned (.int .i64 6) ∧ Below w.heap.size w w' := by
  subst hz hb
  have hB0 : Below w.heap.size w (w.alloc (evtO ty t (.slice va vl vc))) := (Below.refl _ _).alloc (Nat.le_refl _) _
  have X := Box3.new 26 w (.string ty) (.int .i64 t) (.slice va vl vc)
  have HX : Hid (Box3 26 (w.alloc (evtO ty t (.slice va vl vc))) w.heap.size (.string ty) (.int .i64 t) (.slice va vl vc)) := X
  have C1 : Hid (∀ d, _ → Calls Try.prog 25 _ d _) := c1
  have C2 : Hid (∀ d, _ → Calls Try.prog 23 _ d _) := c2
  clear c1 c2 X
  go_enter Try.func14, Try.ntmps14
  go_upto_region 1 with fail
  obtain ⟨W, hW⟩ : ∃ W, W = w.alloc (evtO ty t (.slice va vl vc)) := ⟨_, rfl⟩
  obtain ⟨p, hp⟩ : ∃ p, p = w.heap.size := ⟨_, rfl⟩
  rw [← hW, ← hp] at HX
  rw [← hW] at hB0
  rw [← hW, ← hp]
  clear hW hp
  go_upto_region 4 with (first
    | (go_at_call 25
       refine (C1.out _ hB0).mono ?_
       rintro e w1 ⟨rfl, hB1⟩
       obtain ⟨u0, u1, u2⟩ := (HX.out.keep hB1).cells)
    | (go_at_call 23; refine (C2.out _ (bt hB0 hB1)).mono ?_; rintro e w2 ⟨rfl, hB2⟩))
  obtain ⟨x0, x1, x2⟩ := ((HX.out.keep hB1).keep hB2).cells
  have HY : Hid (Box3 26 w2 p (.string ty) (.int .i64 t) (.slice va vl vc)) := (HX.out.keep hB1).keep hB2
  have HB : Hid (Below w.heap.size w w2) := bt (bt hB0 hB1) hB2
  clear u0 u1 u2 hB0 hB1 hB2 C1 C2 HX
  go_wp2
  go_ret
  exact ⟨rfl, HB.out⟩
set_option maxRecDepth 100000 in
set_option maxHeartbeats 4000000 in
theorem rc_time (a : Option Addr) (n cap : Nat) (ty : ByteArray) (t : Int) (va : Option Addr) (vl vc : Nat) (z : Int) (i : Nat) (b : Bool) (w : World) (hz : z = 0) (hb : b = true) (ht : t < 0)
    (c1 : ∀ d, Below w.heap.size w d → Calls Try.prog 25 #[.slice a n cap] d fun e w' => e = .returned (.int .i64 z) ∧ Below d.heap.size d w')
    (c2 : ∀ d, Below w.heap.size w d → Calls Try.prog 23 #[.slice a n cap, .string ty] d fun e w' => e = .returned (.tuple #[.int .i64 i, .bool b]) ∧ Below d.heap.size d w') :
    Calls Try.prog 14 #[.slice a n cap, evtV ty t (.slice va vl vc)] w fun e w' => e = .returned (.int .i64 1) ∧ Below w.heap.size w w' := by
  subst hz hb
  have hB0 : Below w.heap.size w (w.alloc (evtO ty t (.slice va vl vc))) := (Below.refl _ _).alloc (Nat.le_refl _) _
  have X := Box3.new 26 w (.string ty) (.int .i64 t) (.slice va vl vc)
  have HX : Hid (Box3 26 (w.alloc (evtO ty t (.slice va vl vc))) w.heap.size (.string ty) (.int .i64 t) (.slice va vl vc)) := X
  have C1 : Hid (∀ d, _ → Calls Try.prog 25 _ d _) := c1
  have C2 : Hid (∀ d, _ → Calls Try.prog 23 _ d _) := c2
  clear c1 c2 X
  go_enter Try.func14, Try.ntmps14
  go_upto_region 1 with fail
  obtain ⟨W, hW⟩ : ∃ W, W = w.alloc (evtO ty t (.slice va vl vc)) := ⟨_, rfl⟩
  obtain ⟨p, hp⟩ : ∃ p, p = w.heap.size := ⟨_, rfl⟩
  rw [← hW, ← hp] at HX
  rw [← hW] at hB0
  rw [← hW, ← hp]
  clear hW hp
  go_upto_region 4 with (first
    | (go_at_call 25
       refine (C1.out _ hB0).mono ?_
       rintro e w1 ⟨rfl, hB1⟩
       obtain ⟨u0, u1, u2⟩ := (HX.out.keep hB1).cells)
    | (go_at_call 23; refine (C2.out _ (bt hB0 hB1)).mono ?_; rintro e w2 ⟨rfl, hB2⟩))
  obtain ⟨x0, x1, x2⟩ := ((HX.out.keep hB1).keep hB2).cells
  have HY : Hid (Box3 26 w2 p (.string ty) (.int .i64 t) (.slice va vl vc)) := (HX.out.keep hB1).keep hB2
  have HB : Hid (Below w.heap.size w w2) := bt (bt hB0 hB1) hB2
  clear u0 u1 u2 hB0 hB1 hB2 C1 C2 HX
  go_wp2
  go_ret
  exact ⟨rfl, HB.out⟩
set_option maxRecDepth 100000 in
set_option maxHeartbeats 4000000 in
theorem rc_form (a : Option Addr) (n cap : Nat) (ty : ByteArray) (t : Int) (va : Option Addr) (vl vc : Nat) (z : Int) (i : Nat) (b : Bool) (w : World) (Q : Nat → Sch) (H : Schs w a n Q) (hn : n ≤ 9223372036854775807) (hi : i < n) (hz : z = 0) (hb : b = true) (ht : ¬ t < 0) (hl : (((Q i).l : Int) == vl) = false)
    (c1 : ∀ d, Below w.heap.size w d → Calls Try.prog 25 #[.slice a n cap] d fun e w' => e = .returned (.int .i64 z) ∧ Below d.heap.size d w')
    (c2 : ∀ d, Below w.heap.size w d → Calls Try.prog 23 #[.slice a n cap, .string ty] d fun e w' => e = .returned (.tuple #[.int .i64 i, .bool b]) ∧ Below d.heap.size d w') :
    Calls Try.prog 14 #[.slice a n cap, evtV ty t (.slice va vl vc)] w fun e w' => e = .returned (.int .i64 4) ∧ Below w.heap.size w w' := by
  subst hz hb
  have HQ : Hid (Schs w a n Q) := H
  clear H
  have hB0 : Below w.heap.size w (w.alloc (evtO ty t (.slice va vl vc))) := (Below.refl _ _).alloc (Nat.le_refl _) _
  have X := Box3.new 26 w (.string ty) (.int .i64 t) (.slice va vl vc)
  have HX : Hid (Box3 26 (w.alloc (evtO ty t (.slice va vl vc))) w.heap.size (.string ty) (.int .i64 t) (.slice va vl vc)) := X
  have C1 : Hid (∀ d, _ → Calls Try.prog 25 _ d _) := c1
  have C2 : Hid (∀ d, _ → Calls Try.prog 23 _ d _) := c2
  clear c1 c2 X
  go_enter Try.func14, Try.ntmps14
  go_upto_region 1 with fail
  obtain ⟨W, hW⟩ : ∃ W, W = w.alloc (evtO ty t (.slice va vl vc)) := ⟨_, rfl⟩
  obtain ⟨p, hp⟩ : ∃ p, p = w.heap.size := ⟨_, rfl⟩
  rw [← hW, ← hp] at HX
  rw [← hW] at hB0
  rw [← hW, ← hp]
  clear hW hp
  go_upto_region 4 with (first
    | (go_at_call 25
       refine (C1.out _ hB0).mono ?_
       rintro e w1 ⟨rfl, hB1⟩
       obtain ⟨u0, u1, u2⟩ := (HX.out.keep hB1).cells)
    | (go_at_call 23; refine (C2.out _ (bt hB0 hB1)).mono ?_; rintro e w2 ⟨rfl, hB2⟩))
  obtain ⟨x0, x1, x2⟩ := ((HX.out.keep hB1).keep hB2).cells
  have HY : Hid (Box3 26 w2 p (.string ty) (.int .i64 t) (.slice va vl vc)) := (HX.out.keep hB1).keep hB2
  have HB : Hid (Below w.heap.size w w2) := bt (bt hB0 hB1) hB2
  clear u0 u1 u2 hB0 hB1 hB2 C1 C2 HX
  obtain ⟨b, off, rfl, hc⟩ := (HQ.out.later HB.out).1 (by omega)
  have n1 : w2.cell? ⟨b, off + i * 2 + 1, none⟩ = some (Q i).v := (hc i hi).1.2
  clear hc HQ
  generalize Q i = q at n1 hl
  obtain ⟨S, fa, fl, fc, fn, fk⟩ := q
  simp only [Sch.v] at n1 hl
  go_wp2
  go_ret
  exact ⟨rfl, HB.out⟩
set_option maxRecDepth 100000 in
set_option maxHeartbeats 4000000 in
theorem rc_fit (a : Option Addr) (n cap : Nat) (ty : ByteArray) (t : Int) (va : Option Addr) (vl vc : Nat) (z : Int) (i : Nat) (b : Bool) (w : World) (Q : Nat → Sch) (V : Nat → Val) (H : Schs w a n Q) (hn : n ≤ 9223372036854775807) (hi : i < n) (HE : Vals w va vl V) (hv : vl ≤ 9223372036854775807) (hz : z = 0) (hb : b = true) (ht : ¬ t < 0) (hl : vl = (Q i).l) (r : Int) (hr : r = if fitTo V (Q i).fk (Q i).l = true then 0 else 5)
    (c1 : ∀ d, Below w.heap.size w d → Calls Try.prog 25 #[.slice a n cap] d fun e w' => e = .returned (.int .i64 z) ∧ Below d.heap.size d w')
    (c2 : ∀ d, Below w.heap.size w d → Calls Try.prog 23 #[.slice a n cap, .string ty] d fun e w' => e = .returned (.tuple #[.int .i64 i, .bool b]) ∧ Below d.heap.size d w') :
    Calls Try.prog 14 #[.slice a n cap, evtV ty t (.slice va vl vc)] w fun e w' => e = .returned (.int .i64 r) ∧ Below w.heap.size w w' := by
  subst hz hb
  have HQ : Hid (Schs w a n Q) := H
  have HVV : Hid (Vals w va vl V) := HE
  have HR : Hid (r = if fitTo V (Q i).fk (Q i).l = true then 0 else 5) := hr
  have HL : Hid (vl = (Q i).l) := hl
  clear H HE hr hl
  have hB0 : Below w.heap.size w (w.alloc (evtO ty t (.slice va vl vc))) := (Below.refl _ _).alloc (Nat.le_refl _) _
  have X := Box3.new 26 w (.string ty) (.int .i64 t) (.slice va vl vc)
  have HX : Hid (Box3 26 (w.alloc (evtO ty t (.slice va vl vc))) w.heap.size (.string ty) (.int .i64 t) (.slice va vl vc)) := X
  have C1 : Hid (∀ d, _ → Calls Try.prog 25 _ d _) := c1
  have C2 : Hid (∀ d, _ → Calls Try.prog 23 _ d _) := c2
  clear c1 c2 X
  go_enter Try.func14, Try.ntmps14
  go_upto_region 1 with fail
  obtain ⟨W, hW⟩ : ∃ W, W = w.alloc (evtO ty t (.slice va vl vc)) := ⟨_, rfl⟩
  obtain ⟨p, hp⟩ : ∃ p, p = w.heap.size := ⟨_, rfl⟩
  rw [← hW, ← hp] at HX
  rw [← hW] at hB0
  rw [← hW, ← hp]
  clear hW hp
  go_upto_region 4 with (first
    | (go_at_call 25
       refine (C1.out _ hB0).mono ?_
       rintro e w1 ⟨rfl, hB1⟩
       obtain ⟨u0, u1, u2⟩ := (HX.out.keep hB1).cells)
    | (go_at_call 23; refine (C2.out _ (bt hB0 hB1)).mono ?_; rintro e w2 ⟨rfl, hB2⟩))
  obtain ⟨x0, x1, x2⟩ := ((HX.out.keep hB1).keep hB2).cells
  have HY : Hid (Box3 26 w2 p (.string ty) (.int .i64 t) (.slice va vl vc)) := (HX.out.keep hB1).keep hB2
  have HB : Hid (Below w.heap.size w w2) := bt (bt hB0 hB1) hB2
  clear u0 u1 u2 hB0 hB1 hB2 C1 C2 HX
  obtain ⟨b, off, rfl, hc⟩ := (HQ.out.later HB.out).1 (by omega)
  have n1 : w2.cell? ⟨b, off + i * 2 + 1, none⟩ = some (Q i).v := (hc i hi).1.2
  have HF : Hid (Flds w2 (Q i).a (Q i).l (Q i).fn (Q i).fk) := ((HQ.out.later HB.out).2 i hi).1
  clear hc HQ
  have hl := HL.out
  clear HL
  generalize Q i = q at n1 hl HF HR
  obtain ⟨S, fa, fl, fc, fn, fk⟩ := q
  simp only [Sch.v] at n1 hl HF HR
  subst hl
  go_wp2_with fail
  clear x0 x1 x2 n1
  go_loopw [8] (fun v wr => ∃ k : Nat, k ≤ vl ∧ v = .int .i64 k ∧ Hid (fitTo V fk k = true) ∧ Below w2.heap.size w2 wr) (fun v _ => vl - (intOf v).toNat)
  case atStart => exact ⟨0, Nat.zero_le _, rfl, rfl, Below.refl _ _⟩
  case round =>
    obtain ⟨k, hk, rfl, HA, hB⟩ := hrel
    obtain ⟨x0, x1, x2⟩ := (HY.out.keep hB).cells
    by_cases hkn : k < vl
    · obtain ⟨b2, off2, rfl, hc2⟩ := (HF.out.later hB) (by omega)
      obtain ⟨b3, off3, rfl, hc3⟩ := (HVV.out.later (bt HB.out hB)) (by omega)
      have h1 : wr.cell? ⟨b2, off2 + k * 2 + 1, none⟩ = some (.int .i64 (fk k)) := (hc2 k hkn).1.2
      obtain ⟨g0, g1, g2⟩ := hc3 k hkn
      obtain ⟨y, hy⟩ : ∃ y, y = fitsV (V k).k (V k).n (V k).s (fk k) := ⟨_, rfl⟩
      have C10 : Hid (∀ d, Below wr.heap.size wr d → Calls Try.prog 26 #[valV (V k).k (V k).n (V k).s, .int .i64 (fk k)] d fun e w' => e = .returned (.bool y) ∧ Below d.heap.size d w') := fun d _ => by rw [hy]; exact refFits_any _ _ _ _ d
      have HY2 : Hid (y = fitsV (V k).k (V k).n (V k).s (fk k)) := hy
      have HJ : Hid (k < vl) := hkn
      clear hc2 hc3 hy
      go_wp2_with fail
      refine wp_region_noPanic ?_
      refine wp_region_held_drew (S := fun w' => Below wr.heap.size wr w') (by kernel_rfl) ((Below.refl _ _).drew) (fun hHeld => ?_)
      have hT : Below wr.heap.size wr wr.drew := hHeld
      obtain ⟨d, hd⟩ : ∃ d, d = wr.drew := ⟨_, rfl⟩
      rw [← hd] at hHeld hT ⊢
      clear hd
      refine wpAnyH_take (i := 0) (oi := ⟨some 48, Op.fieldAddr 26 (Operand.tmp 3) 2, 0, _, _, _⟩) (v := ?v0) rfl (by kernel_rfl) (by kernel_rfl) (by kernel_rfl) (fun _ _ _ h => h) (Or.inl ⟨by rfl, ?hy0⟩) hHeld ?rest0
      case hy0 => intro w9 hSw; go_simp; (try with_reducible rfl)
      try simp only [Act.put, List.setIfInBounds_toArray, List.set_cons_zero, List.set_cons_succ]
      refine wpAnyH_take (i := 1) (oi := ⟨some 49, Op.load 24 (Operand.tmp 48), 24, _, _, _⟩) (v := ?v1) rfl (by kernel_rfl) (by kernel_rfl) (by kernel_rfl) (fun _ _ _ h => h) (Or.inl ⟨by rfl, ?hy1⟩) hHeld ?rest1
      case hy1 => intro w9 hSw; have c0 := cell_later x2 hSw; go_simp; (try with_reducible rfl)
      try simp only [Act.put, List.setIfInBounds_toArray, List.set_cons_zero, List.set_cons_succ]
      refine wpAnyH_take (i := 2) (oi := ⟨some 50, Op.move (Operand.tmp 8), 3, _, _, _⟩) (v := ?v2) rfl (by kernel_rfl) (by kernel_rfl) (by kernel_rfl) (fun _ _ _ h => h) (Or.inl ⟨by rfl, ?hy2⟩) hHeld ?rest2
      case hy2 => intro w9 hSw; go_simp; (try with_reducible rfl)
      try simp only [Act.put, List.setIfInBounds_toArray, List.set_cons_zero, List.set_cons_succ]
      refine wpAnyH_take (i := 3) (oi := ⟨some 51, Op.indexAddr 24 (Operand.tmp 49) (Operand.tmp 50), 0, _, _, _⟩) (v := ?v3) rfl (by kernel_rfl) (by kernel_rfl) (by kernel_rfl) (fun _ _ _ h => h) (Or.inl ⟨by rfl, ?hy3⟩) hHeld ?rest3
      case hy3 => intro w9 hSw; go_simp; (try with_reducible rfl)
      try simp only [Act.put, List.setIfInBounds_toArray, List.set_cons_zero, List.set_cons_succ]
      refine wpAnyH_take (i := 4) (oi := ⟨some 52, Op.load 34 (Operand.tmp 51), 34, _, _, _⟩) (v := ?v4) rfl (by kernel_rfl) (by kernel_rfl) (by kernel_rfl) (fun _ _ _ h => h) (Or.inl ⟨by rfl, ?hy4⟩) hHeld ?rest4
      case hy4 => intro w9 hSw; have c0 := cell_later g0 hSw; have c1 := cell_later g1 hSw; have c2 := cell_later g2 hSw; go_simp; (try with_reducible rfl)
      try simp only [Act.put, List.setIfInBounds_toArray, List.set_cons_zero, List.set_cons_succ]
      refine wpAnyH_take (i := 5) (oi := ⟨some 53, Op.move (Operand.tmp 7), 48, _, _, _⟩) (v := ?v5) rfl (by kernel_rfl) (by kernel_rfl) (by kernel_rfl) (fun _ _ _ h => h) (Or.inl ⟨by rfl, ?hy5⟩) hHeld ?rest5
      case hy5 => intro w9 hSw; go_simp; (try with_reducible rfl)
      try simp only [Act.put, List.setIfInBounds_toArray, List.set_cons_zero, List.set_cons_succ]
      refine wpAnyH_take (i := 6) (oi := ⟨some 54, Op.move (Operand.tmp 8), 3, _, _, _⟩) (v := ?v6) rfl (by kernel_rfl) (by kernel_rfl) (by kernel_rfl) (fun _ _ _ h => h) (Or.inl ⟨by rfl, ?hy6⟩) hHeld ?rest6
      case hy6 => intro w9 hSw; go_simp; (try with_reducible rfl)
      try simp only [Act.put, List.setIfInBounds_toArray, List.set_cons_zero, List.set_cons_succ]
      refine wpAnyH_take (i := 7) (oi := ⟨some 55, Op.indexAddr 48 (Operand.tmp 53) (Operand.tmp 54), 0, _, _, _⟩) (v := ?v7) rfl (by kernel_rfl) (by kernel_rfl) (by kernel_rfl) (fun _ _ _ h => h) (Or.inl ⟨by rfl, ?hy7⟩) hHeld ?rest7
      case hy7 => intro w9 hSw; go_simp; (try with_reducible rfl)
      try simp only [Act.put, List.setIfInBounds_toArray, List.set_cons_zero, List.set_cons_succ]
      refine wpAnyH_take (i := 8) (oi := ⟨some 56, Op.fieldAddr 52 (Operand.tmp 55) 1, 0, _, _, _⟩) (v := ?v8) rfl (by kernel_rfl) (by kernel_rfl) (by kernel_rfl) (fun _ _ _ h => h) (Or.inl ⟨by rfl, ?hy8⟩) hHeld ?rest8
      case hy8 => intro w9 hSw; go_simp; (try with_reducible rfl)
      try simp only [Act.put, List.setIfInBounds_toArray, List.set_cons_zero, List.set_cons_succ]
      refine wpAnyH_take (i := 9) (oi := ⟨some 57, Op.load 3 (Operand.tmp 56), 3, _, _, _⟩) (v := ?v9) rfl (by kernel_rfl) (by kernel_rfl) (by kernel_rfl) (fun _ _ _ h => h) (Or.inl ⟨by rfl, ?hy9⟩) hHeld ?rest9
      case hy9 => intro w9 hSw; have c0 := cell_later h1 hSw; go_simp; (try with_reducible rfl)
      try simp only [Act.put, List.setIfInBounds_toArray, List.set_cons_zero, List.set_cons_succ]
      refine wpAnyH_ready (rs := [10]) (by kernel_rfl) (by simp) ?_
      refine AllReadyH.cons (o := ⟨some 58, Op.call { callee := Callee.value (Operand.func 26), args := #[Operand.tmp 52, Operand.tmp 57], argTypes := #[34, 3] }, 4, _, _, _⟩) rfl (fun K hK => ?_) AllReadyH.nil
      go_simp
      refine (C10.out _ hHeld).mono ?_
      rintro e x10 ⟨rfl, hN10⟩
      go_wp2_with fail
      have hT10 : Below wr.heap.size wr x10 := hT.trans (hN10.mono hT.size)
      refine hK.out _ _ (hHeld.trans (hN10.mono hHeld.size)) (fun _ => held_up (S' := fun w' => Below x10.heap.size x10 w') (fun w' h' => (hHeld.trans (hN10.mono hHeld.size)).trans (h'.mono (Nat.le_trans hHeld.size hN10.size))) _ _ _ _ ?_)
      clear hK K hHeld hT
      have hT : Below wr.heap.size wr x10 := hT10
      have hHeld : Below x10.heap.size x10 x10 := Below.refl _ _
      clear hT10 hN10
      try simp only [Act.put, List.setIfInBounds_toArray, List.set_cons_zero, List.set_cons_succ]
      refine wpAnyH_take (i := 11) (oi := ⟨some 59, Op.unOp UnOp.not 4 (Operand.tmp 58), 4, _, _, _⟩) (v := ?v11) rfl (by kernel_rfl) (by kernel_rfl) (by kernel_rfl) (fun _ _ _ h => h) (Or.inl ⟨by rfl, ?hy11⟩) hHeld ?rest11
      case hy11 => intro w9 hSw; go_simp; (try with_reducible rfl)
      try simp only [Act.put, List.setIfInBounds_toArray, List.set_cons_zero, List.set_cons_succ]
      refine wpAnyH_done (by kernel_rfl) ?_ _
      refine NoPanic.normal ?_
      clear g0 g1 g2 h1 x0 x1 x2 C10
      cases y with
      | true =>
        go_wp2
        go_roundw
        case rel => exact ⟨k + 1, HJ.out, by go_num, by show fitTo V fk (k + 1) = true; simp only [fitTo]; rw [HA.out, ← HY2.out]; rfl, bt hB hT⟩
        case measure => have := HJ.out; simp [intOf]; omega
      | false =>
        go_wp2
        try rw [Exit.noGoto_ret]
        go_ret
        exact ⟨ret_int (by rw [HR.out, fitTo_not V fk vl k HJ.out HY2.out.symm]; rfl), bt HB.out (bt hB hT)⟩
    · obtain rfl : k = vl := by omega
      go_wp2
      go_ret
      exact ⟨ret_int (by rw [HR.out, HA.out]; rfl), bt HB.out hB⟩
/-- The document's Check. -/
theorem refEvCheck_any (a : Option Addr) (n cap : Nat) (Q : Nat → Sch) (x : Evt) (w : World) (H : Schs w a n Q) (hn : n ≤ 9223372036854775807) (HE : IsEvt w x) :
    Calls Try.prog 14 #[.slice a n cap, evtV x.ty x.t x.v] w fun e w' => e = .returned (.int .i64 (evZ n Q x)) ∧ Below w.heap.size w w' := by
  have c1 := fun d hd => refBook_any a n cap Q d (H.later (w' := d) hd)
  unfold evZ chkE schOf
  cases hi : idx (fun j => (Q j).nm) x.ty n with
  | none =>
    have c2 := fun d hd => refFind_none a n cap _ _ x.ty d (H.later (w' := d) hd).1 hn (idx_none _ x.ty n hi)
    by_cases hz : bookZ n Q = 0
    · rw [if_pos hz]
      exact rc_none a n cap x.ty x.t x.a x.l x.c _ 0 false w hz rfl c1 c2
    · rw [if_neg hz]
      exact rc_book a n cap x.ty x.t x.a x.l x.c _ 0 false w (by simpa using hz) c1 c2
  | some i =>
    obtain ⟨h1, h2, h3⟩ := idx_some _ x.ty n i hi
    have c2 := fun d hd => refFind_some a n cap i _ _ x.ty d (H.later (w' := d) hd).1 hn h1 h2 h3
    by_cases hz : bookZ n Q = 0
    · rw [if_pos hz]
      show Calls _ _ _ _ fun e w' => e = .returned (.int .i64 (if x.t < 0 then 1 else if x.l = (Q i).l then (if fitTo x.vs (Q i).fk (Q i).l = true then 0 else 5) else 4)) ∧ Below w.heap.size w w'
      by_cases ht : x.t < 0
      · rw [if_pos ht]
        exact rc_time a n cap x.ty x.t x.a x.l x.c _ i true w hz rfl ht c1 c2
      · rw [if_neg ht]
        by_cases hl : x.l = (Q i).l
        · rw [if_pos hl]
          exact rc_fit a n cap x.ty x.t x.a x.l x.c _ i true w Q x.vs H hn h1 HE.1 HE.2 hz rfl ht hl _ rfl c1 c2
        · rw [if_neg hl]
          exact rc_form a n cap x.ty x.t x.a x.l x.c _ i true w Q H hn h1 hz rfl ht (by simp; omega) c1 c2
    · rw [if_neg hz]
      exact rc_book a n cap x.ty x.t x.a x.l x.c _ i true w (by simpa using hz) c1 c2
end Go.Proofs.Ytelabjipclfpnaa
