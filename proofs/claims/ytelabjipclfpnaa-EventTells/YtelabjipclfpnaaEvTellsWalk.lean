/-
  EventTells' walk (P8.1, P8.2): what is told of events is what the document tells; at most 200 of them.
-/
import Derived.Test.YtelabjipclfpnaaEvRefStream
import Derived.Test.YtelabjipclfpnaaEvRefGet
import Derived.Test.YtelabjipclfpnaaEvSpan
import Derived.Test.YtelabjipclfpnaaEvRefSame
import Derived.Test.YtelabjipclfpnaaEvAwake
namespace Go.Proofs.Ytelabjipclfpnaa
open Go.RowKit

set_option maxRecDepth 100000 in
set_option maxHeartbeats 2000000 in
theorem evTells_big (a : Option Addr) (n cap : Nat) (sa : Option Addr) (m sc : Nat) (ty : ByteArray) (t : Int) (va : Option Addr) (vl vc : Nat) (nm f : ByteArray) (u v : Int) (w : World) (h1 : 200 < m) (h2 : m ≤ 4096) :
    Calls Try.prog 3 #[.slice a n cap, .slice sa m sc, evtV ty t (.slice va vl vc), .string nm, .string f, .int .i64 u, .int .i64 v] w fun e w' => e = .returned (.bool true) ∧ Below w.heap.size w w' := by
  have h3 : (m : Int) > 200 := by omega
  have h4 : (m : Int) ≤ 4096 := by omega
  have hB0 : Below w.heap.size w (w.alloc (evtO ty t (.slice va vl vc))) := (Below.refl _ _).alloc (Nat.le_refl _) _
  go_enter Try.func3, Try.ntmps3
  go_wp2_with (first | (go_at_call 6; refine (awake_any _).mono ?_; rintro e w1 ⟨rfl, hB1⟩))
  go_ret
  exact ⟨rfl, bt hB0 hB1⟩
set_option maxRecDepth 100000 in
set_option maxHeartbeats 8000000 in
theorem evTells_few (a : Option Addr) (n cap : Nat) (Q : Nat → Sch) (sa : Option Addr) (m sc : Nat) (E : Nat → Evt) (x : Evt) (nm f : ByteArray) (u v : Int) (w : World) (H : Schs w a n Q) (hn : n ≤ 9223372036854775807) (HE : Evts w sa m E) (hm : m ≤ 9223372036854775807) (HV : IsEvt w x) (h1 : ¬ (m : Int) > 200) :
    Calls Try.prog 3 #[.slice a n cap, .slice sa m sc, evtV x.ty x.t x.v, .string nm, .string f, .int .i64 u, .int .i64 v] w fun e w' => e = .returned (.bool true) ∧ Below w.heap.size w w' := by
  obtain ⟨i, c, b1, b2⟩ := both_stream a n cap Q sa m sc E w H hn HE
  obtain ⟨z, k, b5, b6⟩ := both_span sa m sc E u v w HE hm
  have b3 : ∀ d, Below w.heap.size w d → Calls Try.prog 9 #[.slice a n cap, evtV x.ty x.t x.v, .string f] d fun e w' => e = .returned (.tuple #[((getE n Q x f).getD val0).v, .bool (getE n Q x f).isSome]) ∧ Below d.heap.size d w' := fun d hd => evGet_any a n cap Q x f d (H.later hd) hn (HV.later hd)
  have b4 : ∀ d, Below w.heap.size w d → Calls Try.prog 10 #[.slice a n cap, evtV x.ty x.t x.v, .string f] d fun e w' => e = .returned (.tuple #[((getE n Q x f).getD val0).v, .bool (getE n Q x f).isSome]) ∧ Below d.heap.size d w' := fun d hd => refGet_any a n cap Q x f d (H.later hd) hn (HV.later hd)
  have b7 : ∀ d, Below w.heap.size w d → Calls Try.prog 13 #[.slice a n cap, evtV x.ty x.t x.v] d fun e w' => e = .returned (.int .i64 (evZ n Q x)) ∧ Below d.heap.size d w' := fun d hd => evCheck_any a n cap Q x d (H.later hd) hn (HV.later hd)
  have b8 : ∀ d, Below w.heap.size w d → Calls Try.prog 14 #[.slice a n cap, evtV x.ty x.t x.v] d fun e w' => e = .returned (.int .i64 (evZ n Q x)) ∧ Below d.heap.size d w' := fun d hd => refEvCheck_any a n cap Q x d (H.later hd) hn (HV.later hd)
  have b9 : ∀ d, Below w.heap.size w d → Calls Try.prog 15 #[.slice a n cap, .string nm, .string f] d fun e w' => e = .returned (.bool (plc n Q nm f).isSome) ∧ Below d.heap.size d w' := fun d hd => has_any a n cap Q nm f d (H.later hd) hn
  have b10 : ∀ d, Below w.heap.size w d → Calls Try.prog 16 #[.slice a n cap, .string nm, .string f] d fun e w' => e = .returned (.bool (plc n Q nm f).isSome) ∧ Below d.heap.size d w' := fun d hd => refHas_any a n cap Q nm f d (H.later hd) hn
  have b11 : ∀ j, j < m → ∀ d, Below w.heap.size w d → Calls Try.prog 17 #[evtV (E j).ty (E j).t (E j).v, evtV x.ty x.t x.v] d fun e w' => e = .returned (.bool (sameE (E j) x)) ∧ Below d.heap.size d w' := fun j hj d hd => evSame_any (E j) x d ((HE.2 j hj).later hd) (HV.later hd)
  have b12 : ∀ j, j < m → ∀ d, Below w.heap.size w d → Calls Try.prog 18 #[evtV (E j).ty (E j).t (E j).v, evtV x.ty x.t x.v] d fun e w' => e = .returned (.bool (sameE (E j) x)) ∧ Below d.heap.size d w' := fun j hj d hd => refSame_any (E j) x d ((HE.2 j hj).later hd) (HV.later hd)
  have b13 : ∀ d, Below w.heap.size w d → Calls Try.prog 17 #[evtV x.ty x.t x.v, evtV x.ty x.t x.v] d fun e w' => e = .returned (.bool true) ∧ Below d.heap.size d w' := fun d hd => by have := evSame_any x x d (HV.later hd) (HV.later hd); rwa [sameE_self] at this
  generalize (getE n Q x f).getD val0 = vv at b3 b4
  generalize (getE n Q x f).isSome = ok at b3 b4
  generalize evZ n Q x = ez at b7 b8
  generalize (plc n Q nm f).isSome = hs at b9 b10
  obtain ⟨G, hG⟩ : ∃ G : Nat → Bool, G = fun j => sameE (E j) x := ⟨_, rfl⟩
  have g11 : ∀ j, j < m → ∀ d, Below w.heap.size w d → Calls Try.prog 17 #[evtV (E j).ty (E j).t (E j).v, evtV x.ty x.t x.v] d fun e w' => e = .returned (.bool (G j)) ∧ Below d.heap.size d w' := by rw [hG]; exact b11
  have g12 : ∀ j, j < m → ∀ d, Below w.heap.size w d → Calls Try.prog 18 #[evtV (E j).ty (E j).t (E j).v, evtV x.ty x.t x.v] d fun e w' => e = .returned (.bool (G j)) ∧ Below d.heap.size d w' := by rw [hG]; exact b12
  clear b11 b12 hG HV H
  obtain ⟨ty, t, va, vl, vc, vs⟩ := x
  simp only [Evt.v] at b3 b4 b7 b8 g11 g12 b13 ⊢
  have B1 : Hid (∀ d, _ → Calls Try.prog 7 _ d _) := b1
  have B2 : Hid (∀ d, _ → Calls Try.prog 8 _ d _) := b2
  have B3 : Hid (∀ d, _ → Calls Try.prog 9 _ d _) := b3
  have B4 : Hid (∀ d, _ → Calls Try.prog 10 _ d _) := b4
  have B5 : Hid (∀ d, _ → Calls Try.prog 11 _ d _) := b5
  have B6 : Hid (∀ d, _ → Calls Try.prog 12 _ d _) := b6
  have B7 : Hid (∀ d, _ → Calls Try.prog 13 _ d _) := b7
  have B8 : Hid (∀ d, _ → Calls Try.prog 14 _ d _) := b8
  have B9 : Hid (∀ d, _ → Calls Try.prog 15 _ d _) := b9
  have B10 : Hid (∀ d, _ → Calls Try.prog 16 _ d _) := b10
  have B11 : Hid (∀ j, j < m → ∀ d, _ → Calls Try.prog 17 _ d _) := g11
  have B12 : Hid (∀ j, j < m → ∀ d, _ → Calls Try.prog 18 _ d _) := g12
  have B13 : Hid (∀ d, _ → Calls Try.prog 17 _ d _) := b13
  have HEE : Hid (Evts w sa m E) := HE
  clear b1 b2 b3 b4 b5 b6 b7 b8 b9 b10 g11 g12 b13 HE
  have hB0 : Below w.heap.size w (w.alloc (evtO ty t (.slice va vl vc))) := (Below.refl _ _).alloc (Nat.le_refl _) _
  have X := Box3.new 26 w (.string ty) (.int .i64 t) (.slice va vl vc)
  have HX : Hid (Box3 26 (w.alloc (evtO ty t (.slice va vl vc))) w.heap.size (.string ty) (.int .i64 t) (.slice va vl vc)) := X
  clear X
  go_enter Try.func3, Try.ntmps3
  go_upto_region 1 with fail
  obtain ⟨W, hW⟩ : ∃ W, W = w.alloc (evtO ty t (.slice va vl vc)) := ⟨_, rfl⟩
  obtain ⟨p, hp⟩ : ∃ p, p = w.heap.size := ⟨_, rfl⟩
  rw [← hW, ← hp] at HX
  rw [← hW] at hB0
  rw [← hW, ← hp]
  have HB0 : Hid (Below w.heap.size w W) := hB0
  clear hW hp hB0
  go_upto_region 5 with (first
    | (go_at_call 7
       refine (B1.out _ HB0.out).mono ?_
       rintro e w1 ⟨rfl, l1⟩
       have L1 : Hid (Below w.heap.size w w1) := bt HB0.out l1
       have X1 : Hid (Box3 26 w1 p (.string ty) (.int .i64 t) (.slice va vl vc)) := HX.out.keep l1
       clear l1)
    | (go_at_call 8
       refine (B2.out _ L1.out).mono ?_
       rintro e w2 ⟨rfl, l2⟩
       have L2 : Hid (Below w.heap.size w w2) := bt L1.out l2
       have X2 : Hid (Box3 26 w2 p (.string ty) (.int .i64 t) (.slice va vl vc)) := X1.out.keep l2
       clear l2))
  clear B1 B2 L1 X1 HB0 HX
  obtain ⟨x0, x1, x2⟩ := X2.out.cells
  go_upto_region 6 with (first
    | (go_at_call 9
       refine (B3.out _ L2.out).mono ?_
       rintro e w3 ⟨rfl, l3⟩
       have L3 : Hid (Below w.heap.size w w3) := bt L2.out l3
       have X3 : Hid (Box3 26 w3 p (.string ty) (.int .i64 t) (.slice va vl vc)) := X2.out.keep l3
       clear l3))
  clear B3 L2 X2 x0 x1 x2
  have l4 : Below w3.heap.size w3 (w3.alloc (valO vv.k vv.n vv.s)) := (Below.refl _ _).alloc (Nat.le_refl _) _
  have X4 : Hid (Box3 26 (w3.alloc (valO vv.k vv.n vv.s)) p (.string ty) (.int .i64 t) (.slice va vl vc)) := X3.out.keep l4
  have L4 : Hid (Below w.heap.size w (w3.alloc (valO vv.k vv.n vv.s))) := bt L3.out l4
  have Y4 : Hid (Box3 34 (w3.alloc (valO vv.k vv.n vv.s)) w3.heap.size (.int .i64 vv.k) (.int .i64 vv.n) (.string vv.s)) := Box3.new 34 w3 (.int .i64 vv.k) (.int .i64 vv.n) (.string vv.s)
  obtain ⟨w4, hw4⟩ : ∃ w4, w4 = w3.alloc (valO vv.k vv.n vv.s) := ⟨_, rfl⟩
  obtain ⟨r1, hr1⟩ : ∃ r1, r1 = w3.heap.size := ⟨_, rfl⟩
  rw [← hw4] at X4 L4
  rw [← hw4, ← hr1] at Y4
  rw [← hw4, ← hr1]
  clear hw4 hr1 l4 X3 L3
  obtain ⟨x0, x1, x2⟩ := X4.out.cells
  go_upto_region 7 with (first
    | (go_at_call 10
       refine (B4.out _ L4.out).mono ?_
       rintro e w5 ⟨rfl, l5⟩
       have L5 : Hid (Below w.heap.size w w5) := bt L4.out l5
       have X5 : Hid (Box3 26 w5 p (.string ty) (.int .i64 t) (.slice va vl vc)) := X4.out.keep l5
       have Y5 : Hid (Box3 34 w5 r1 (.int .i64 vv.k) (.int .i64 vv.n) (.string vv.s)) := Y4.out.keep l5
       clear l5))
  clear B4 L4 X4 Y4 x0 x1 x2
  have l6 : Below w5.heap.size w5 (w5.alloc (valO vv.k vv.n vv.s)) := (Below.refl _ _).alloc (Nat.le_refl _) _
  have X6 : Hid (Box3 26 (w5.alloc (valO vv.k vv.n vv.s)) p (.string ty) (.int .i64 t) (.slice va vl vc)) := X5.out.keep l6
  have Y6 : Hid (Box3 34 (w5.alloc (valO vv.k vv.n vv.s)) r1 (.int .i64 vv.k) (.int .i64 vv.n) (.string vv.s)) := Y5.out.keep l6
  have L6 : Hid (Below w.heap.size w (w5.alloc (valO vv.k vv.n vv.s))) := bt L5.out l6
  have Z6 : Hid (Box3 34 (w5.alloc (valO vv.k vv.n vv.s)) w5.heap.size (.int .i64 vv.k) (.int .i64 vv.n) (.string vv.s)) := Box3.new 34 w5 (.int .i64 vv.k) (.int .i64 vv.n) (.string vv.s)
  obtain ⟨w6, hw6⟩ : ∃ w6, w6 = w5.alloc (valO vv.k vv.n vv.s) := ⟨_, rfl⟩
  obtain ⟨r2, hr2⟩ : ∃ r2, r2 = w5.heap.size := ⟨_, rfl⟩
  rw [← hw6] at X6 L6 Y6
  rw [← hw6, ← hr2] at Z6
  rw [← hw6, ← hr2]
  clear hw6 hr2 l6 X5 L5 Y5
  go_upto_region 9 with (first
    | (go_at_call 11
       refine (B5.out _ L6.out).mono ?_
       rintro e w7 ⟨rfl, l7⟩)
    | (go_at_call 12
       refine (B6.out _ (bt L6.out l7)).mono ?_
       rintro e wz ⟨rfl, l8⟩))
  have LZ : Hid (Below w.heap.size w wz) := bt (bt L6.out l7) l8
  have XZ : Hid (Box3 26 wz p (.string ty) (.int .i64 t) (.slice va vl vc)) := (X6.out.keep l7).keep l8
  obtain ⟨x0, x1, x2⟩ := XZ.out.cells
  obtain ⟨y0, y1, y2⟩ := ((Y6.out.keep l7).keep l8).cells
  obtain ⟨z0, z1, z2⟩ := ((Z6.out.keep l7).keep l8).cells
  clear B5 B6 L6 X6 Y6 Z6 l7 l8
  have C1 : Hid (∀ d, Below wz.heap.size wz d → Calls Try.prog 13 #[.slice a n cap, evtV ty t (.slice va vl vc)] d fun e w' => e = .returned (.int .i64 ez) ∧ Below d.heap.size d w') := fun d hd => B7.out d (bt LZ.out hd)
  have C2 : Hid (∀ d, Below wz.heap.size wz d → Calls Try.prog 14 #[.slice a n cap, evtV ty t (.slice va vl vc)] d fun e w' => e = .returned (.int .i64 ez) ∧ Below d.heap.size d w') := fun d hd => B8.out d (bt LZ.out hd)
  have C3 : Hid (∀ d, Below wz.heap.size wz d → Calls Try.prog 15 #[.slice a n cap, .string nm, .string f] d fun e w' => e = .returned (.bool hs) ∧ Below d.heap.size d w') := fun d hd => B9.out d (bt LZ.out hd)
  have C4 : Hid (∀ d, Below wz.heap.size wz d → Calls Try.prog 16 #[.slice a n cap, .string nm, .string f] d fun e w' => e = .returned (.bool hs) ∧ Below d.heap.size d w') := fun d hd => B10.out d (bt LZ.out hd)
  clear B7 B8 B9 B10
  refine wp_region_noPanic ?_
  refine wp_region_held_drew (S := fun w' => Below wz.heap.size wz w') (by kernel_rfl) ((Below.refl _ _).drew) (fun hHeld => ?_)
  have hT : Below wz.heap.size wz wz.drew := hHeld
  obtain ⟨d, hd⟩ : ∃ d, d = wz.drew := ⟨_, rfl⟩
  rw [← hd] at hHeld hT ⊢
  clear hd
  refine wpAnyH_take (i := 0) (oi := ⟨some 77, Op.move (Operand.tmp 15), 3, _, _, _⟩) (v := ?v0p) rfl (by kernel_rfl) (by kernel_rfl) (by kernel_rfl) (fun _ _ _ h => h) (Or.inl ⟨by rfl, ?hy0p⟩) hHeld ?rest0p
  case hy0p => intro w9 hSw; go_simp; (try with_reducible rfl)
  try simp only [Act.put, List.setIfInBounds_toArray, List.set_cons_zero, List.set_cons_succ]
  refine wpAnyH_take (i := 1) (oi := ⟨some 78, Op.move (Operand.tmp 17), 3, _, _, _⟩) (v := ?v1p) rfl (by kernel_rfl) (by kernel_rfl) (by kernel_rfl) (fun _ _ _ h => h) (Or.inl ⟨by rfl, ?hy1p⟩) hHeld ?rest1p
  case hy1p => intro w9 hSw; go_simp; (try with_reducible rfl)
  try simp only [Act.put, List.setIfInBounds_toArray, List.set_cons_zero, List.set_cons_succ]
  refine wpAnyH_take (i := 2) (oi := ⟨some 79, Op.binOp BinOp.neq 3 (Operand.tmp 77) (Operand.tmp 78) 3, 4, _, _, _⟩) (v := ?v2p) rfl (by kernel_rfl) (by kernel_rfl) (by kernel_rfl) (fun _ _ _ h => h) (Or.inl ⟨by rfl, ?hy2p⟩) hHeld ?rest2p
  case hy2p => intro w9 hSw; go_simp; (try with_reducible rfl)
  try simp only [Act.put, List.setIfInBounds_toArray, List.set_cons_zero, List.set_cons_succ]
  refine wpAnyH_take (i := 3) (oi := ⟨some 80, Op.move (Operand.tmp 79), 4, _, _, _⟩) (v := ?v3p) rfl (by kernel_rfl) (by kernel_rfl) (by kernel_rfl) (fun _ _ _ h => h) (Or.inl ⟨by rfl, ?hy3p⟩) hHeld ?rest3p
  case hy3p => intro w9 hSw; go_simp; (try with_reducible rfl)
  try simp only [Act.put, List.setIfInBounds_toArray, List.set_cons_zero, List.set_cons_succ]
  refine wpAnyH_take (i := 4) (oi := ⟨some 81, Op.move (Operand.tmp 16), 28, _, _, _⟩) (v := ?v4p) rfl (by kernel_rfl) (by kernel_rfl) (by kernel_rfl) (fun _ _ _ h => h) (Or.inl ⟨by rfl, ?hy4p⟩) hHeld ?rest4p
  case hy4p => intro w9 hSw; go_simp; (try with_reducible rfl)
  try simp only [Act.put, List.setIfInBounds_toArray, List.set_cons_zero, List.set_cons_succ]
  refine wpAnyH_take (i := 5) (oi := ⟨some 82, Op.move (Operand.tmp 18), 3, _, _, _⟩) (v := ?v5p) rfl (by kernel_rfl) (by kernel_rfl) (by kernel_rfl) (fun _ _ _ h => h) (Or.inl ⟨by rfl, ?hy5p⟩) hHeld ?rest5p
  case hy5p => intro w9 hSw; go_simp; (try with_reducible rfl)
  try simp only [Act.put, List.setIfInBounds_toArray, List.set_cons_zero, List.set_cons_succ]
  refine wpAnyH_take (i := 6) (oi := ⟨some 83, Op.binOp BinOp.neq 3 (Operand.tmp 81) (Operand.tmp 82) 3, 4, _, _, _⟩) (v := ?v6p) rfl (by kernel_rfl) (by kernel_rfl) (by kernel_rfl) (fun _ _ _ h => h) (Or.inl ⟨by rfl, ?hy6p⟩) hHeld ?rest6p
  case hy6p => intro w9 hSw; go_simp; (try with_reducible rfl)
  try simp only [Act.put, List.setIfInBounds_toArray, List.set_cons_zero, List.set_cons_succ]
  refine wpAnyH_take (i := 7) (oi := ⟨some 84, Op.pick (Operand.tmp 80) (Operand.const (Value.bool true)) (Operand.tmp 83), 4, _, _, _⟩) (v := ?v7p) rfl (by kernel_rfl) (by kernel_rfl) (by kernel_rfl) (fun _ _ _ h => h) (Or.inl ⟨by rfl, ?hy7p⟩) hHeld ?rest7p
  case hy7p => intro w9 hSw; go_simp; (try with_reducible rfl)
  try simp only [Act.put, List.setIfInBounds_toArray, List.set_cons_zero, List.set_cons_succ]
  refine wpAnyH_take (i := 8) (oi := ⟨some 85, Op.move (Operand.tmp 84), 4, _, _, _⟩) (v := ?v8p) rfl (by kernel_rfl) (by kernel_rfl) (by kernel_rfl) (fun _ _ _ h => h) (Or.inl ⟨by rfl, ?hy8p⟩) hHeld ?rest8p
  case hy8p => intro w9 hSw; go_simp; (try with_reducible rfl)
  try simp only [Act.put, List.setIfInBounds_toArray, List.set_cons_zero, List.set_cons_succ]
  refine wpAnyH_take (i := 9) (oi := ⟨some 86, Op.load 34 (Operand.tmp 19), 34, _, _, _⟩) (v := ?v9p) rfl (by kernel_rfl) (by kernel_rfl) (by kernel_rfl) (fun _ _ _ h => h) (Or.inl ⟨by rfl, ?hy9p⟩) hHeld ?rest9p
  case hy9p => intro w9 hSw; have c0 := cell_later y0 hSw; have c1 := cell_later y1 hSw; have c2 := cell_later y2 hSw; go_simp; (try with_reducible rfl)
  try simp only [Act.put, List.setIfInBounds_toArray, List.set_cons_zero, List.set_cons_succ]
  refine wpAnyH_take (i := 10) (oi := ⟨some 87, Op.load 34 (Operand.tmp 21), 34, _, _, _⟩) (v := ?v10p) rfl (by kernel_rfl) (by kernel_rfl) (by kernel_rfl) (fun _ _ _ h => h) (Or.inl ⟨by rfl, ?hy10p⟩) hHeld ?rest10p
  case hy10p => intro w9 hSw; have c0 := cell_later z0 hSw; have c1 := cell_later z1 hSw; have c2 := cell_later z2 hSw; go_simp; (try with_reducible rfl)
  try simp only [Act.put, List.setIfInBounds_toArray, List.set_cons_zero, List.set_cons_succ]
  refine wpAnyH_take (i := 11) (oi := ⟨some 88, Op.binOp BinOp.neq 34 (Operand.tmp 86) (Operand.tmp 87) 34, 4, _, _, _⟩) (v := ?v11p) rfl (by kernel_rfl) (by kernel_rfl) (by kernel_rfl) (fun _ _ _ h => h) (Or.inl ⟨by rfl, ?hy11p⟩) hHeld ?rest11p
  case hy11p => intro w9 hSw; go_simp; (try with_reducible rfl)
  try simp only [Act.put, List.setIfInBounds_toArray, List.set_cons_zero, List.set_cons_succ]
  refine wpAnyH_take (i := 12) (oi := ⟨some 89, Op.pick (Operand.tmp 85) (Operand.const (Value.bool true)) (Operand.tmp 88), 4, _, _, _⟩) (v := ?v12p) rfl (by kernel_rfl) (by kernel_rfl) (by kernel_rfl) (fun _ _ _ h => h) (Or.inl ⟨by rfl, ?hy12p⟩) hHeld ?rest12p
  case hy12p => intro w9 hSw; go_simp; (try with_reducible rfl)
  try simp only [Act.put, List.setIfInBounds_toArray, List.set_cons_zero, List.set_cons_succ]
  refine wpAnyH_take (i := 13) (oi := ⟨some 90, Op.move (Operand.tmp 89), 4, _, _, _⟩) (v := ?v13p) rfl (by kernel_rfl) (by kernel_rfl) (by kernel_rfl) (fun _ _ _ h => h) (Or.inl ⟨by rfl, ?hy13p⟩) hHeld ?rest13p
  case hy13p => intro w9 hSw; go_simp; (try with_reducible rfl)
  try simp only [Act.put, List.setIfInBounds_toArray, List.set_cons_zero, List.set_cons_succ]
  refine wpAnyH_take (i := 14) (oi := ⟨some 91, Op.move (Operand.tmp 20), 4, _, _, _⟩) (v := ?v14p) rfl (by kernel_rfl) (by kernel_rfl) (by kernel_rfl) (fun _ _ _ h => h) (Or.inl ⟨by rfl, ?hy14p⟩) hHeld ?rest14p
  case hy14p => intro w9 hSw; go_simp; (try with_reducible rfl)
  try simp only [Act.put, List.setIfInBounds_toArray, List.set_cons_zero, List.set_cons_succ]
  refine wpAnyH_take (i := 15) (oi := ⟨some 92, Op.move (Operand.tmp 22), 4, _, _, _⟩) (v := ?v15p) rfl (by kernel_rfl) (by kernel_rfl) (by kernel_rfl) (fun _ _ _ h => h) (Or.inl ⟨by rfl, ?hy15p⟩) hHeld ?rest15p
  case hy15p => intro w9 hSw; go_simp; (try with_reducible rfl)
  try simp only [Act.put, List.setIfInBounds_toArray, List.set_cons_zero, List.set_cons_succ]
  refine wpAnyH_take (i := 16) (oi := ⟨some 93, Op.binOp BinOp.neq 4 (Operand.tmp 91) (Operand.tmp 92) 4, 4, _, _, _⟩) (v := ?v16p) rfl (by kernel_rfl) (by kernel_rfl) (by kernel_rfl) (fun _ _ _ h => h) (Or.inl ⟨by rfl, ?hy16p⟩) hHeld ?rest16p
  case hy16p => intro w9 hSw; go_simp; (try with_reducible rfl)
  try simp only [Act.put, List.setIfInBounds_toArray, List.set_cons_zero, List.set_cons_succ]
  refine wpAnyH_take (i := 17) (oi := ⟨some 94, Op.pick (Operand.tmp 90) (Operand.const (Value.bool true)) (Operand.tmp 93), 4, _, _, _⟩) (v := ?v17p) rfl (by kernel_rfl) (by kernel_rfl) (by kernel_rfl) (fun _ _ _ h => h) (Or.inl ⟨by rfl, ?hy17p⟩) hHeld ?rest17p
  case hy17p => intro w9 hSw; go_simp; (try with_reducible rfl)
  try simp only [Act.put, List.setIfInBounds_toArray, List.set_cons_zero, List.set_cons_succ]
  refine wpAnyH_take (i := 18) (oi := ⟨some 95, Op.move (Operand.tmp 94), 4, _, _, _⟩) (v := ?v18p) rfl (by kernel_rfl) (by kernel_rfl) (by kernel_rfl) (fun _ _ _ h => h) (Or.inl ⟨by rfl, ?hy18p⟩) hHeld ?rest18p
  case hy18p => intro w9 hSw; go_simp; (try with_reducible rfl)
  try simp only [Act.put, List.setIfInBounds_toArray, List.set_cons_zero, List.set_cons_succ]
  refine wpAnyH_take (i := 19) (oi := ⟨some 96, Op.move (Operand.tmp 23), 2, _, _, _⟩) (v := ?v19p) rfl (by kernel_rfl) (by kernel_rfl) (by kernel_rfl) (fun _ _ _ h => h) (Or.inl ⟨by rfl, ?hy19p⟩) hHeld ?rest19p
  case hy19p => intro w9 hSw; go_simp; (try with_reducible rfl)
  try simp only [Act.put, List.setIfInBounds_toArray, List.set_cons_zero, List.set_cons_succ]
  refine wpAnyH_take (i := 20) (oi := ⟨some 97, Op.move (Operand.tmp 25), 2, _, _, _⟩) (v := ?v20p) rfl (by kernel_rfl) (by kernel_rfl) (by kernel_rfl) (fun _ _ _ h => h) (Or.inl ⟨by rfl, ?hy20p⟩) hHeld ?rest20p
  case hy20p => intro w9 hSw; go_simp; (try with_reducible rfl)
  try simp only [Act.put, List.setIfInBounds_toArray, List.set_cons_zero, List.set_cons_succ]
  refine wpAnyH_take (i := 21) (oi := ⟨some 98, Op.binOp BinOp.neq 2 (Operand.tmp 96) (Operand.tmp 97) 2, 4, _, _, _⟩) (v := ?v21p) rfl (by kernel_rfl) (by kernel_rfl) (by kernel_rfl) (fun _ _ _ h => h) (Or.inl ⟨by rfl, ?hy21p⟩) hHeld ?rest21p
  case hy21p => intro w9 hSw; go_simp; (try with_reducible rfl)
  try simp only [Act.put, List.setIfInBounds_toArray, List.set_cons_zero, List.set_cons_succ]
  refine wpAnyH_take (i := 22) (oi := ⟨some 99, Op.pick (Operand.tmp 95) (Operand.const (Value.bool true)) (Operand.tmp 98), 4, _, _, _⟩) (v := ?v22p) rfl (by kernel_rfl) (by kernel_rfl) (by kernel_rfl) (fun _ _ _ h => h) (Or.inl ⟨by rfl, ?hy22p⟩) hHeld ?rest22p
  case hy22p => intro w9 hSw; go_simp; (try with_reducible rfl)
  try simp only [Act.put, List.setIfInBounds_toArray, List.set_cons_zero, List.set_cons_succ]
  refine wpAnyH_take (i := 23) (oi := ⟨some 100, Op.move (Operand.tmp 99), 4, _, _, _⟩) (v := ?v23p) rfl (by kernel_rfl) (by kernel_rfl) (by kernel_rfl) (fun _ _ _ h => h) (Or.inl ⟨by rfl, ?hy23p⟩) hHeld ?rest23p
  case hy23p => intro w9 hSw; go_simp; (try with_reducible rfl)
  try simp only [Act.put, List.setIfInBounds_toArray, List.set_cons_zero, List.set_cons_succ]
  refine wpAnyH_take (i := 24) (oi := ⟨some 101, Op.move (Operand.tmp 24), 28, _, _, _⟩) (v := ?v24p) rfl (by kernel_rfl) (by kernel_rfl) (by kernel_rfl) (fun _ _ _ h => h) (Or.inl ⟨by rfl, ?hy24p⟩) hHeld ?rest24p
  case hy24p => intro w9 hSw; go_simp; (try with_reducible rfl)
  try simp only [Act.put, List.setIfInBounds_toArray, List.set_cons_zero, List.set_cons_succ]
  refine wpAnyH_take (i := 25) (oi := ⟨some 102, Op.move (Operand.tmp 26), 3, _, _, _⟩) (v := ?v25p) rfl (by kernel_rfl) (by kernel_rfl) (by kernel_rfl) (fun _ _ _ h => h) (Or.inl ⟨by rfl, ?hy25p⟩) hHeld ?rest25p
  case hy25p => intro w9 hSw; go_simp; (try with_reducible rfl)
  try simp only [Act.put, List.setIfInBounds_toArray, List.set_cons_zero, List.set_cons_succ]
  refine wpAnyH_take (i := 26) (oi := ⟨some 103, Op.binOp BinOp.neq 3 (Operand.tmp 101) (Operand.tmp 102) 3, 4, _, _, _⟩) (v := ?v26p) rfl (by kernel_rfl) (by kernel_rfl) (by kernel_rfl) (fun _ _ _ h => h) (Or.inl ⟨by rfl, ?hy26p⟩) hHeld ?rest26p
  case hy26p => intro w9 hSw; go_simp; (try with_reducible rfl)
  try simp only [Act.put, List.setIfInBounds_toArray, List.set_cons_zero, List.set_cons_succ]
  refine wpAnyH_take (i := 27) (oi := ⟨some 104, Op.pick (Operand.tmp 100) (Operand.const (Value.bool true)) (Operand.tmp 103), 4, _, _, _⟩) (v := ?v27p) rfl (by kernel_rfl) (by kernel_rfl) (by kernel_rfl) (fun _ _ _ h => h) (Or.inl ⟨by rfl, ?hy27p⟩) hHeld ?rest27p
  case hy27p => intro w9 hSw; go_simp; (try with_reducible rfl)
  try simp only [Act.put, List.setIfInBounds_toArray, List.set_cons_zero, List.set_cons_succ]
  refine wpAnyH_take (i := 28) (oi := ⟨some 105, Op.move (Operand.tmp 104), 4, _, _, _⟩) (v := ?v28p) rfl (by kernel_rfl) (by kernel_rfl) (by kernel_rfl) (fun _ _ _ h => h) (Or.inl ⟨by rfl, ?hy28p⟩) hHeld ?rest28p
  case hy28p => intro w9 hSw; go_simp; (try with_reducible rfl)
  try simp only [Act.put, List.setIfInBounds_toArray, List.set_cons_zero, List.set_cons_succ]
  refine wpAnyH_take (i := 29) (oi := ⟨some 106, Op.move (Operand.tmp 0), 22, _, _, _⟩) (v := ?v29p) rfl (by kernel_rfl) (by kernel_rfl) (by kernel_rfl) (fun _ _ _ h => h) (Or.inl ⟨by rfl, ?hy29p⟩) hHeld ?rest29p
  case hy29p => intro w9 hSw; go_simp; (try with_reducible rfl)
  try simp only [Act.put, List.setIfInBounds_toArray, List.set_cons_zero, List.set_cons_succ]
  refine wpAnyH_take (i := 30) (oi := ⟨some 107, Op.load 26 (Operand.tmp 9), 26, _, _, _⟩) (v := ?v30p) rfl (by kernel_rfl) (by kernel_rfl) (by kernel_rfl) (fun _ _ _ h => h) (Or.inl ⟨by rfl, ?hy30p⟩) hHeld ?rest30p
  case hy30p => intro w9 hSw; have c0 := cell_later x0 hSw; have c1 := cell_later x1 hSw; have c2 := cell_later x2 hSw; go_simp; (try with_reducible rfl)
  try simp only [Act.put, List.setIfInBounds_toArray, List.set_cons_zero, List.set_cons_succ]
  refine wpAnyH_take (i := 32) (oi := ⟨some 109, Op.move (Operand.tmp 0), 22, _, _, _⟩) (v := ?v32p) rfl (by kernel_rfl) (by kernel_rfl) (by kernel_rfl) (fun _ _ _ h => h) (Or.inl ⟨by rfl, ?hy32p⟩) hHeld ?rest32p
  case hy32p => intro w9 hSw; go_simp; (try with_reducible rfl)
  try simp only [Act.put, List.setIfInBounds_toArray, List.set_cons_zero, List.set_cons_succ]
  refine wpAnyH_take (i := 33) (oi := ⟨some 110, Op.load 26 (Operand.tmp 9), 26, _, _, _⟩) (v := ?v33p) rfl (by kernel_rfl) (by kernel_rfl) (by kernel_rfl) (fun _ _ _ h => h) (Or.inl ⟨by rfl, ?hy33p⟩) hHeld ?rest33p
  case hy33p => intro w9 hSw; have c0 := cell_later x0 hSw; have c1 := cell_later x1 hSw; have c2 := cell_later x2 hSw; go_simp; (try with_reducible rfl)
  try simp only [Act.put, List.setIfInBounds_toArray, List.set_cons_zero, List.set_cons_succ]
  refine wpAnyH_ready (rs := [31]) (by kernel_rfl) (by simp) ?_
  refine AllReadyH.cons (o := ⟨some 108, Op.call { callee := Callee.value (Operand.func 13), args := #[Operand.tmp 106, Operand.tmp 107], argTypes := #[22, 26] }, 28, _, _, _⟩) rfl (fun K hK => ?_) AllReadyH.nil
  go_simp
  refine (C1.out _ hHeld).mono ?_
  rintro e x31 ⟨rfl, hN31⟩
  go_wp2_with fail
  have hT31 : Below wz.heap.size wz x31 := hT.trans (hN31.mono hT.size)
  refine hK.out _ _ (hHeld.trans (hN31.mono hHeld.size)) (fun _ => held_up (S' := fun w' => Below x31.heap.size x31 w') (fun w' h' => (hHeld.trans (hN31.mono hHeld.size)).trans (h'.mono (Nat.le_trans hHeld.size hN31.size))) _ _ _ _ ?_)
  clear hK K hHeld hT
  have hT : Below wz.heap.size wz x31 := hT31
  have hHeld : Below x31.heap.size x31 x31 := Below.refl _ _
  clear hT31 hN31
  try simp only [Act.put, List.setIfInBounds_toArray, List.set_cons_zero, List.set_cons_succ]
  refine wpAnyH_ready (rs := [34]) (by kernel_rfl) (by simp) ?_
  refine AllReadyH.cons (o := ⟨some 111, Op.call { callee := Callee.value (Operand.func 14), args := #[Operand.tmp 109, Operand.tmp 110], argTypes := #[22, 26] }, 3, _, _, _⟩) rfl (fun K hK => ?_) AllReadyH.nil
  go_simp
  refine (C2.out _ hT).mono ?_
  rintro e x34 ⟨rfl, hN34⟩
  go_wp2_with fail
  have hT34 : Below wz.heap.size wz x34 := hT.trans (hN34.mono hT.size)
  refine hK.out _ _ (hHeld.trans (hN34.mono hHeld.size)) (fun _ => held_up (S' := fun w' => Below x34.heap.size x34 w') (fun w' h' => (hHeld.trans (hN34.mono hHeld.size)).trans (h'.mono (Nat.le_trans hHeld.size hN34.size))) _ _ _ _ ?_)
  clear hK K hHeld hT
  have hT : Below wz.heap.size wz x34 := hT34
  have hHeld : Below x34.heap.size x34 x34 := Below.refl _ _
  clear hT34 hN34
  try simp only [Act.put, List.setIfInBounds_toArray, List.set_cons_zero, List.set_cons_succ]
  refine wpAnyH_take (i := 35) (oi := ⟨some 112, Op.binOp BinOp.neq 3 (Operand.tmp 108) (Operand.tmp 111) 3, 4, _, _, _⟩) (v := ?v35p) rfl (by kernel_rfl) (by kernel_rfl) (by kernel_rfl) (fun _ _ _ h => h) (Or.inl ⟨by rfl, ?hy35p⟩) hHeld ?rest35p
  case hy35p => intro w9 hSw; go_simp; (try with_reducible rfl)
  try simp only [Act.put, List.setIfInBounds_toArray, List.set_cons_zero, List.set_cons_succ]
  refine wpAnyH_take (i := 36) (oi := ⟨some 113, Op.pick (Operand.tmp 105) (Operand.const (Value.bool true)) (Operand.tmp 112), 4, _, _, _⟩) (v := ?v36p) rfl (by kernel_rfl) (by kernel_rfl) (by kernel_rfl) (fun _ _ _ h => h) (Or.inl ⟨by rfl, ?hy36p⟩) hHeld ?rest36p
  case hy36p => intro w9 hSw; go_simp; (try with_reducible rfl)
  try simp only [Act.put, List.setIfInBounds_toArray, List.set_cons_zero, List.set_cons_succ]
  refine wpAnyH_take (i := 37) (oi := ⟨some 114, Op.move (Operand.tmp 113), 4, _, _, _⟩) (v := ?v37p) rfl (by kernel_rfl) (by kernel_rfl) (by kernel_rfl) (fun _ _ _ h => h) (Or.inl ⟨by rfl, ?hy37p⟩) hHeld ?rest37p
  case hy37p => intro w9 hSw; go_simp; (try with_reducible rfl)
  try simp only [Act.put, List.setIfInBounds_toArray, List.set_cons_zero, List.set_cons_succ]
  refine wpAnyH_take (i := 38) (oi := ⟨some 115, Op.move (Operand.tmp 0), 22, _, _, _⟩) (v := ?v38p) rfl (by kernel_rfl) (by kernel_rfl) (by kernel_rfl) (fun _ _ _ h => h) (Or.inl ⟨by rfl, ?hy38p⟩) hHeld ?rest38p
  case hy38p => intro w9 hSw; go_simp; (try with_reducible rfl)
  try simp only [Act.put, List.setIfInBounds_toArray, List.set_cons_zero, List.set_cons_succ]
  refine wpAnyH_take (i := 39) (oi := ⟨some 116, Op.move (Operand.tmp 3), 9, _, _, _⟩) (v := ?v39p) rfl (by kernel_rfl) (by kernel_rfl) (by kernel_rfl) (fun _ _ _ h => h) (Or.inl ⟨by rfl, ?hy39p⟩) hHeld ?rest39p
  case hy39p => intro w9 hSw; go_simp; (try with_reducible rfl)
  try simp only [Act.put, List.setIfInBounds_toArray, List.set_cons_zero, List.set_cons_succ]
  refine wpAnyH_take (i := 40) (oi := ⟨some 117, Op.move (Operand.tmp 4), 9, _, _, _⟩) (v := ?v40p) rfl (by kernel_rfl) (by kernel_rfl) (by kernel_rfl) (fun _ _ _ h => h) (Or.inl ⟨by rfl, ?hy40p⟩) hHeld ?rest40p
  case hy40p => intro w9 hSw; go_simp; (try with_reducible rfl)
  try simp only [Act.put, List.setIfInBounds_toArray, List.set_cons_zero, List.set_cons_succ]
  refine wpAnyH_take (i := 42) (oi := ⟨some 119, Op.move (Operand.tmp 0), 22, _, _, _⟩) (v := ?v42p) rfl (by kernel_rfl) (by kernel_rfl) (by kernel_rfl) (fun _ _ _ h => h) (Or.inl ⟨by rfl, ?hy42p⟩) hHeld ?rest42p
  case hy42p => intro w9 hSw; go_simp; (try with_reducible rfl)
  try simp only [Act.put, List.setIfInBounds_toArray, List.set_cons_zero, List.set_cons_succ]
  refine wpAnyH_take (i := 43) (oi := ⟨some 120, Op.move (Operand.tmp 3), 9, _, _, _⟩) (v := ?v43p) rfl (by kernel_rfl) (by kernel_rfl) (by kernel_rfl) (fun _ _ _ h => h) (Or.inl ⟨by rfl, ?hy43p⟩) hHeld ?rest43p
  case hy43p => intro w9 hSw; go_simp; (try with_reducible rfl)
  try simp only [Act.put, List.setIfInBounds_toArray, List.set_cons_zero, List.set_cons_succ]
  refine wpAnyH_take (i := 44) (oi := ⟨some 121, Op.move (Operand.tmp 4), 9, _, _, _⟩) (v := ?v44p) rfl (by kernel_rfl) (by kernel_rfl) (by kernel_rfl) (fun _ _ _ h => h) (Or.inl ⟨by rfl, ?hy44p⟩) hHeld ?rest44p
  case hy44p => intro w9 hSw; go_simp; (try with_reducible rfl)
  try simp only [Act.put, List.setIfInBounds_toArray, List.set_cons_zero, List.set_cons_succ]
  refine wpAnyH_ready (rs := [41]) (by kernel_rfl) (by simp) ?_
  refine AllReadyH.cons (o := ⟨some 118, Op.call { callee := Callee.value (Operand.func 15), args := #[Operand.tmp 115, Operand.tmp 116, Operand.tmp 117], argTypes := #[22, 9, 9] }, 4, _, _, _⟩) rfl (fun K hK => ?_) AllReadyH.nil
  go_simp
  refine (C3.out _ hT).mono ?_
  rintro e x41 ⟨rfl, hN41⟩
  go_wp2_with fail
  have hT41 : Below wz.heap.size wz x41 := hT.trans (hN41.mono hT.size)
  refine hK.out _ _ (hHeld.trans (hN41.mono hHeld.size)) (fun _ => held_up (S' := fun w' => Below x41.heap.size x41 w') (fun w' h' => (hHeld.trans (hN41.mono hHeld.size)).trans (h'.mono (Nat.le_trans hHeld.size hN41.size))) _ _ _ _ ?_)
  clear hK K hHeld hT
  have hT : Below wz.heap.size wz x41 := hT41
  have hHeld : Below x41.heap.size x41 x41 := Below.refl _ _
  clear hT41 hN41
  try simp only [Act.put, List.setIfInBounds_toArray, List.set_cons_zero, List.set_cons_succ]
  refine wpAnyH_ready (rs := [45]) (by kernel_rfl) (by simp) ?_
  refine AllReadyH.cons (o := ⟨some 122, Op.call { callee := Callee.value (Operand.func 16), args := #[Operand.tmp 119, Operand.tmp 120, Operand.tmp 121], argTypes := #[22, 9, 9] }, 4, _, _, _⟩) rfl (fun K hK => ?_) AllReadyH.nil
  go_simp
  refine (C4.out _ hT).mono ?_
  rintro e x45 ⟨rfl, hN45⟩
  go_wp2_with fail
  have hT45 : Below wz.heap.size wz x45 := hT.trans (hN45.mono hT.size)
  refine hK.out _ _ (hHeld.trans (hN45.mono hHeld.size)) (fun _ => held_up (S' := fun w' => Below x45.heap.size x45 w') (fun w' h' => (hHeld.trans (hN45.mono hHeld.size)).trans (h'.mono (Nat.le_trans hHeld.size hN45.size))) _ _ _ _ ?_)
  clear hK K hHeld hT
  have hT : Below wz.heap.size wz x45 := hT45
  have hHeld : Below x45.heap.size x45 x45 := Below.refl _ _
  clear hT45 hN45
  try simp only [Act.put, List.setIfInBounds_toArray, List.set_cons_zero, List.set_cons_succ]
  refine wpAnyH_take (i := 46) (oi := ⟨some 123, Op.binOp BinOp.neq 4 (Operand.tmp 118) (Operand.tmp 122) 4, 4, _, _, _⟩) (v := ?v46p) rfl (by kernel_rfl) (by kernel_rfl) (by kernel_rfl) (fun _ _ _ h => h) (Or.inl ⟨by rfl, ?hy46p⟩) hHeld ?rest46p
  case hy46p => intro w9 hSw; go_simp; (try with_reducible rfl)
  try simp only [Act.put, List.setIfInBounds_toArray, List.set_cons_zero, List.set_cons_succ]
  refine wpAnyH_take (i := 47) (oi := ⟨some 124, Op.pick (Operand.tmp 114) (Operand.const (Value.bool true)) (Operand.tmp 123), 4, _, _, _⟩) (v := ?v47p) rfl (by kernel_rfl) (by kernel_rfl) (by kernel_rfl) (fun _ _ _ h => h) (Or.inl ⟨by rfl, ?hy47p⟩) hHeld ?rest47p
  case hy47p => intro w9 hSw; go_simp; (try with_reducible rfl)
  try simp only [Act.put, List.setIfInBounds_toArray, List.set_cons_zero, List.set_cons_succ]
  refine wpAnyH_done (by kernel_rfl) ?_ _
  refine NoPanic.normal ?_
  clear hHeld C1 C2 C3 C4 x0 x1 x2 y0 y1 y2 z0 z1 z2
  go_wp2_with fail
  have hTT : Hid (Below wz.heap.size wz x45) := hT
  clear hT
  go_loopw [27] (fun v wr => ∃ q : Nat, q ≤ m ∧ v = .int .i64 q ∧ Below wz.heap.size wz wr) (fun v _ => m - (intOf v).toNat)
  case atStart => exact ⟨0, Nat.zero_le _, rfl, hTT.out⟩
  case round =>
    obtain ⟨q, hq, rfl, hB⟩ := hrel
    obtain ⟨x0, x1, x2⟩ := (XZ.out.keep hB).cells
    by_cases hqm : q < m
    · have C1 : Hid (∀ d, Below wr.heap.size wr d → Calls Try.prog 17 #[evtV (E q).ty (E q).t (E q).v, evtV ty t (.slice va vl vc)] d fun e w' => e = .returned (.bool (G q)) ∧ Below d.heap.size d w') := fun d hd => B11.out q hqm d (bt LZ.out (bt hB hd))
      have C2 : Hid (∀ d, Below wr.heap.size wr d → Calls Try.prog 18 #[evtV (E q).ty (E q).t (E q).v, evtV ty t (.slice va vl vc)] d fun e w' => e = .returned (.bool (G q)) ∧ Below d.heap.size d w') := fun d hd => B12.out q hqm d (bt LZ.out (bt hB hd))
      obtain ⟨b, off, rfl, hc⟩ := (HEE.out.later (bt LZ.out hB)).1 (by omega)
      obtain ⟨f0, f1, f2⟩ := hc q hqm
      have HJ : Hid (q < m) := hqm
      generalize G q = yb at C1 C2
      clear hc
      go_wp2_with fail
      refine wp_region_noPanic ?_
      refine wp_region_held_drew (S := fun w' => Below wr.heap.size wr w') (by kernel_rfl) ((Below.refl _ _).drew) (fun hHeld => ?_)
      have hT : Below wr.heap.size wr wr.drew := hHeld
      obtain ⟨d, hd⟩ : ∃ d, d = wr.drew := ⟨_, rfl⟩
      rw [← hd] at hHeld hT ⊢
      clear hd
      refine wpAnyH_take (i := 0) (oi := ⟨some 131, Op.move (Operand.tmp 1), 23, _, _, _⟩) (v := ?v0q) rfl (by kernel_rfl) (by kernel_rfl) (by kernel_rfl) (fun _ _ _ h => h) (Or.inl ⟨by rfl, ?hy0q⟩) hHeld ?rest0q
      case hy0q => intro w9 hSw; go_simp; (try with_reducible rfl)
      try simp only [Act.put, List.setIfInBounds_toArray, List.set_cons_zero, List.set_cons_succ]
      refine wpAnyH_take (i := 1) (oi := ⟨some 132, Op.move (Operand.tmp 27), 3, _, _, _⟩) (v := ?v1q) rfl (by kernel_rfl) (by kernel_rfl) (by kernel_rfl) (fun _ _ _ h => h) (Or.inl ⟨by rfl, ?hy1q⟩) hHeld ?rest1q
      case hy1q => intro w9 hSw; go_simp; (try with_reducible rfl)
      try simp only [Act.put, List.setIfInBounds_toArray, List.set_cons_zero, List.set_cons_succ]
      refine wpAnyH_take (i := 2) (oi := ⟨some 133, Op.indexAddr 23 (Operand.tmp 131) (Operand.tmp 132), 0, _, _, _⟩) (v := ?v2q) rfl (by kernel_rfl) (by kernel_rfl) (by kernel_rfl) (fun _ _ _ h => h) (Or.inl ⟨by rfl, ?hy2q⟩) hHeld ?rest2q
      case hy2q => intro w9 hSw; go_simp; (try with_reducible rfl)
      try simp only [Act.put, List.setIfInBounds_toArray, List.set_cons_zero, List.set_cons_succ]
      refine wpAnyH_take (i := 3) (oi := ⟨some 134, Op.load 26 (Operand.tmp 133), 26, _, _, _⟩) (v := ?v3q) rfl (by kernel_rfl) (by kernel_rfl) (by kernel_rfl) (fun _ _ _ h => h) (Or.inl ⟨by rfl, ?hy3q⟩) hHeld ?rest3q
      case hy3q => intro w9 hSw; have c0 := cell_later f0 hSw; have c1 := cell_later f1 hSw; have c2 := cell_later f2 hSw; go_simp; (try with_reducible rfl)
      try simp only [Act.put, List.setIfInBounds_toArray, List.set_cons_zero, List.set_cons_succ]
      refine wpAnyH_take (i := 4) (oi := ⟨some 135, Op.load 26 (Operand.tmp 9), 26, _, _, _⟩) (v := ?v4q) rfl (by kernel_rfl) (by kernel_rfl) (by kernel_rfl) (fun _ _ _ h => h) (Or.inl ⟨by rfl, ?hy4q⟩) hHeld ?rest4q
      case hy4q => intro w9 hSw; have c0 := cell_later x0 hSw; have c1 := cell_later x1 hSw; have c2 := cell_later x2 hSw; go_simp; (try with_reducible rfl)
      try simp only [Act.put, List.setIfInBounds_toArray, List.set_cons_zero, List.set_cons_succ]
      refine wpAnyH_take (i := 6) (oi := ⟨some 137, Op.move (Operand.tmp 1), 23, _, _, _⟩) (v := ?v6q) rfl (by kernel_rfl) (by kernel_rfl) (by kernel_rfl) (fun _ _ _ h => h) (Or.inl ⟨by rfl, ?hy6q⟩) hHeld ?rest6q
      case hy6q => intro w9 hSw; go_simp; (try with_reducible rfl)
      try simp only [Act.put, List.setIfInBounds_toArray, List.set_cons_zero, List.set_cons_succ]
      refine wpAnyH_take (i := 7) (oi := ⟨some 138, Op.move (Operand.tmp 27), 3, _, _, _⟩) (v := ?v7q) rfl (by kernel_rfl) (by kernel_rfl) (by kernel_rfl) (fun _ _ _ h => h) (Or.inl ⟨by rfl, ?hy7q⟩) hHeld ?rest7q
      case hy7q => intro w9 hSw; go_simp; (try with_reducible rfl)
      try simp only [Act.put, List.setIfInBounds_toArray, List.set_cons_zero, List.set_cons_succ]
      refine wpAnyH_take (i := 8) (oi := ⟨some 139, Op.indexAddr 23 (Operand.tmp 137) (Operand.tmp 138), 0, _, _, _⟩) (v := ?v8q) rfl (by kernel_rfl) (by kernel_rfl) (by kernel_rfl) (fun _ _ _ h => h) (Or.inl ⟨by rfl, ?hy8q⟩) hHeld ?rest8q
      case hy8q => intro w9 hSw; go_simp; (try with_reducible rfl)
      try simp only [Act.put, List.setIfInBounds_toArray, List.set_cons_zero, List.set_cons_succ]
      refine wpAnyH_take (i := 9) (oi := ⟨some 140, Op.load 26 (Operand.tmp 139), 26, _, _, _⟩) (v := ?v9q) rfl (by kernel_rfl) (by kernel_rfl) (by kernel_rfl) (fun _ _ _ h => h) (Or.inl ⟨by rfl, ?hy9q⟩) hHeld ?rest9q
      case hy9q => intro w9 hSw; have c0 := cell_later f0 hSw; have c1 := cell_later f1 hSw; have c2 := cell_later f2 hSw; go_simp; (try with_reducible rfl)
      try simp only [Act.put, List.setIfInBounds_toArray, List.set_cons_zero, List.set_cons_succ]
      refine wpAnyH_take (i := 10) (oi := ⟨some 141, Op.load 26 (Operand.tmp 9), 26, _, _, _⟩) (v := ?v10q) rfl (by kernel_rfl) (by kernel_rfl) (by kernel_rfl) (fun _ _ _ h => h) (Or.inl ⟨by rfl, ?hy10q⟩) hHeld ?rest10q
      case hy10q => intro w9 hSw; have c0 := cell_later x0 hSw; have c1 := cell_later x1 hSw; have c2 := cell_later x2 hSw; go_simp; (try with_reducible rfl)
      try simp only [Act.put, List.setIfInBounds_toArray, List.set_cons_zero, List.set_cons_succ]
      refine wpAnyH_ready (rs := [5]) (by kernel_rfl) (by simp) ?_
      refine AllReadyH.cons (o := ⟨some 136, Op.call { callee := Callee.value (Operand.func 17), args := #[Operand.tmp 134, Operand.tmp 135], argTypes := #[26, 26] }, 4, _, _, _⟩) rfl (fun K hK => ?_) AllReadyH.nil
      go_simp
      refine (C1.out _ hHeld).mono ?_
      rintro e x5 ⟨rfl, hN5⟩
      go_wp2_with fail
      have hT5 : Below wr.heap.size wr x5 := hT.trans (hN5.mono hT.size)
      refine hK.out _ _ (hHeld.trans (hN5.mono hHeld.size)) (fun _ => held_up (S' := fun w' => Below x5.heap.size x5 w') (fun w' h' => (hHeld.trans (hN5.mono hHeld.size)).trans (h'.mono (Nat.le_trans hHeld.size hN5.size))) _ _ _ _ ?_)
      clear hK K hHeld hT
      have hT : Below wr.heap.size wr x5 := hT5
      have hHeld : Below x5.heap.size x5 x5 := Below.refl _ _
      clear hT5 hN5
      try simp only [Act.put, List.setIfInBounds_toArray, List.set_cons_zero, List.set_cons_succ]
      refine wpAnyH_ready (rs := [11]) (by kernel_rfl) (by simp) ?_
      refine AllReadyH.cons (o := ⟨some 142, Op.call { callee := Callee.value (Operand.func 18), args := #[Operand.tmp 140, Operand.tmp 141], argTypes := #[26, 26] }, 4, _, _, _⟩) rfl (fun K hK => ?_) AllReadyH.nil
      go_simp
      refine (C2.out _ hT).mono ?_
      rintro e x11 ⟨rfl, hN11⟩
      go_wp2_with fail
      have hT11 : Below wr.heap.size wr x11 := hT.trans (hN11.mono hT.size)
      refine hK.out _ _ (hHeld.trans (hN11.mono hHeld.size)) (fun _ => held_up (S' := fun w' => Below x11.heap.size x11 w') (fun w' h' => (hHeld.trans (hN11.mono hHeld.size)).trans (h'.mono (Nat.le_trans hHeld.size hN11.size))) _ _ _ _ ?_)
      clear hK K hHeld hT
      have hT : Below wr.heap.size wr x11 := hT11
      have hHeld : Below x11.heap.size x11 x11 := Below.refl _ _
      clear hT11 hN11
      try simp only [Act.put, List.setIfInBounds_toArray, List.set_cons_zero, List.set_cons_succ]
      refine wpAnyH_take (i := 12) (oi := ⟨some 143, Op.binOp BinOp.neq 4 (Operand.tmp 136) (Operand.tmp 142) 4, 4, _, _, _⟩) (v := ?v12q) rfl (by kernel_rfl) (by kernel_rfl) (by kernel_rfl) (fun _ _ _ h => h) (Or.inl ⟨by rfl, ?hy12q⟩) hHeld ?rest12q
      case hy12q => intro w9 hSw; go_simp; (try with_reducible rfl)
      try simp only [Act.put, List.setIfInBounds_toArray, List.set_cons_zero, List.set_cons_succ]
      refine wpAnyH_done (by kernel_rfl) ?_ _
      refine NoPanic.normal ?_
      go_wp2
      go_roundw
      case rel => exact ⟨q + 1, HJ.out, by go_num, bt hB hT⟩
      case measure => have := HJ.out; simp [intOf]; omega
    · have C3 : Hid (Calls Try.prog 17 #[evtV ty t (.slice va vl vc), evtV ty t (.slice va vl vc)] wr fun e w' => e = .returned (.bool true) ∧ Below wr.heap.size wr w') := B13.out wr (bt LZ.out hB)
      go_wp2_with (first
        | (go_at_call 17; refine C3.out.mono ?_; rintro e w8 ⟨rfl, hB8⟩)
        | (go_at_call 6; refine (awake_any _).mono ?_; rintro e w9 ⟨rfl, hB9⟩))
      go_ret
      exact ⟨rfl, bt LZ.out (bt hB (bt hB8 hB9))⟩
end Go.Proofs.Ytelabjipclfpnaa
