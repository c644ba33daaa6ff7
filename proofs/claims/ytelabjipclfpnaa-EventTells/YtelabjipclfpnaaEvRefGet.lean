/-
  The document's Get and Has (haruspexref08, P8.2).
-/
import Derived.Test.YtelabjipclfpnaaEvGet
import Derived.Test.YtelabjipclfpnaaSchRef
namespace Go.Proofs.Ytelabjipclfpnaa
open Go.RowKit

set_option maxRecDepth 100000 in
set_option maxHeartbeats 2000000 in
theorem rget_none (a : Option Addr) (n cap : Nat) (ty : ByteArray) (t : Int) (va : Option Addr) (vl vc : Nat) (f : ByteArray) (i : Nat) (w : World) 
    (c1 : ∀ d, Below w.heap.size w d → Calls Try.prog 23 #[.slice a n cap, .string ty] d fun e w' => e = .returned (.tuple #[.int .i64 i, .bool false]) ∧ Below d.heap.size d w') :
    Calls Try.prog 10 #[.slice a n cap, evtV ty t (.slice va vl vc), .string f] w fun e w' => e = .returned (.tuple #[valV 0 0 ⟨#[]⟩, .bool false]) ∧ Below w.heap.size w w' := by
  obtain ⟨hB0, hX, hY⟩ := get_start w ty t (.slice va vl vc)
  have C1 : Hid (∀ d, _ → Calls Try.prog 23 _ d _) := c1
  clear c1
  go_enter Try.func10, Try.ntmps10
  go_upto_region 1 with fail
  obtain ⟨W, hW⟩ : ∃ W, W = ((w.alloc (evtO ty t (.slice va vl vc))).alloc (valO 0 0 ⟨#[]⟩)) := ⟨_, rfl⟩
  obtain ⟨p, hp⟩ : ∃ p, p = w.heap.size := ⟨_, rfl⟩
  obtain ⟨q, hq⟩ : ∃ q, q = w.heap.size + 1 := ⟨_, rfl⟩
  have hpq : ¬ p = q := by omega
  have hqp : ¬ q = p := by omega
  have HL : Hid (w.heap.size ≤ q) := by show w.heap.size ≤ q; omega
  rw [← hW, ← hq, ← hp]
  rw [← hW] at hB0
  rw [← hW, ← hp] at hX
  rw [← hW, ← hq] at hY
  have HX : Hid (Box3 26 W p (.string ty) (.int .i64 t) (.slice va vl vc)) := hX
  have HY : Hid (Box3 34 W q (.int .i64 0) (.int .i64 0) (.string ⟨#[]⟩)) := hY
  have x0 := hX.cells.1
  clear hW hp hq hX hY
  go_upto_region 2 with (first | (go_at_call 23; refine (C1.out _ hB0).mono ?_; rintro e w1 ⟨rfl, hB1⟩))
  clear C1 x0
  have HB : Hid (Below w.heap.size w w1) := bt hB0 hB1
  have Y1 := HY.out.keep hB1
  obtain ⟨y0, y1, y2⟩ := Y1.cells
  have z0 := Y1.frozen 0
  have z1 := Y1.frozen 1
  have z2 := Y1.frozen 2
  clear Y1 hB0 hB1 HX HY
  go_wp2
  exact bodyPost_ret (v := .tuple #[valV 0 0 ⟨#[]⟩, .bool false]) (by simp [results, Try.results10, go_sem, y0, y1, y2]) rfl ⟨rfl, ((HB.out.setCell HL.out _).setCell HL.out _).setCell HL.out _⟩
set_option maxRecDepth 100000 in
set_option maxHeartbeats 2000000 in
theorem rget_miss (a : Option Addr) (n cap : Nat) (ty : ByteArray) (t : Int) (va : Option Addr) (vl vc : Nat) (f : ByteArray) (i : Nat) (w : World) (Q : Nat → Sch) (H : Schs w a n Q) (hn : n ≤ 9223372036854775807) (hi : i < n) (k : Nat) (kk : Int) (g : Bool) (hg : g = false)
    (c1 : ∀ d, Below w.heap.size w d → Calls Try.prog 23 #[.slice a n cap, .string ty] d fun e w' => e = .returned (.tuple #[.int .i64 i, .bool true]) ∧ Below d.heap.size d w')
    (c2 : ∀ d, Below w.heap.size w d → Calls Try.prog 24 #[schV (Q i).nm (Q i).v, .string f] d fun e w' => e = .returned (.tuple #[.int .i64 k, .int .i64 kk, .bool g]) ∧ Below d.heap.size d w') :
    Calls Try.prog 10 #[.slice a n cap, evtV ty t (.slice va vl vc), .string f] w fun e w' => e = .returned (.tuple #[valV 0 0 ⟨#[]⟩, .bool false]) ∧ Below w.heap.size w w' := by
  subst hg
  have C2 : Hid (∀ d, Below w.heap.size w d → Calls Try.prog 24 #[schV (Q i).nm (Q i).v, .string f] d fun e w' => e = .returned (.tuple #[.int .i64 k, .int .i64 kk, .bool false]) ∧ Below d.heap.size d w') := c2
  have HQ : Hid (Schs w a n Q) := H
  clear c2 H
  obtain ⟨hB0, hX, hY⟩ := get_start w ty t (.slice va vl vc)
  have C1 : Hid (∀ d, _ → Calls Try.prog 23 _ d _) := c1
  clear c1
  go_enter Try.func10, Try.ntmps10
  go_upto_region 1 with fail
  obtain ⟨W, hW⟩ : ∃ W, W = ((w.alloc (evtO ty t (.slice va vl vc))).alloc (valO 0 0 ⟨#[]⟩)) := ⟨_, rfl⟩
  obtain ⟨p, hp⟩ : ∃ p, p = w.heap.size := ⟨_, rfl⟩
  obtain ⟨q, hq⟩ : ∃ q, q = w.heap.size + 1 := ⟨_, rfl⟩
  have hpq : ¬ p = q := by omega
  have hqp : ¬ q = p := by omega
  have HL : Hid (w.heap.size ≤ q) := by show w.heap.size ≤ q; omega
  rw [← hW, ← hq, ← hp]
  rw [← hW] at hB0
  rw [← hW, ← hp] at hX
  rw [← hW, ← hq] at hY
  have HX : Hid (Box3 26 W p (.string ty) (.int .i64 t) (.slice va vl vc)) := hX
  have HY : Hid (Box3 34 W q (.int .i64 0) (.int .i64 0) (.string ⟨#[]⟩)) := hY
  have x0 := hX.cells.1
  clear hW hp hq hX hY
  go_upto_region 2 with (first | (go_at_call 23; refine (C1.out _ hB0).mono ?_; rintro e w1 ⟨rfl, hB1⟩))
  clear C1 x0
  obtain ⟨b, off, rfl, hc⟩ := (HQ.out.later (bt hB0 hB1)).1 (by omega)
  have n0 : w1.cell? ⟨b, off + i * 2, none⟩ = some (.string (Q i).nm) := (hc i hi).1.1
  have n1 : w1.cell? ⟨b, off + i * 2 + 1, none⟩ = some (Q i).v := (hc i hi).1.2
  clear hc HQ
  generalize Q i = qq at n0 n1 C2
  obtain ⟨S, fa, fl, fc, fn, fk⟩ := qq
  simp only [Sch.v] at n0 n1 C2
  go_upto_region 5 with (first | (go_at_call 24; refine (C2.out _ (bt hB0 hB1)).mono ?_; rintro e w2 ⟨rfl, hB2⟩))
  have x2 := ((HX.out.keep hB1).keep hB2).cells.2.2
  have HB : Hid (Below w.heap.size w w2) := bt (bt hB0 hB1) hB2
  have Y1 := (HY.out.keep hB1).keep hB2
  obtain ⟨y0, y1, y2⟩ := Y1.cells
  have z0 := Y1.frozen 0
  have z1 := Y1.frozen 1
  have z2 := Y1.frozen 2
  clear Y1 hB0 hB1 hB2 HX HY C2 n0 n1
  go_wp2
  exact bodyPost_ret (v := .tuple #[valV 0 0 ⟨#[]⟩, .bool false]) (by simp [results, Try.results10, go_sem, y0, y1, y2]) rfl ⟨rfl, ((HB.out.setCell HL.out _).setCell HL.out _).setCell HL.out _⟩
set_option maxRecDepth 100000 in
set_option maxHeartbeats 2000000 in
theorem rget_few (a : Option Addr) (n cap : Nat) (ty : ByteArray) (t : Int) (va : Option Addr) (vl vc : Nat) (f : ByteArray) (i : Nat) (w : World) (Q : Nat → Sch) (H : Schs w a n Q) (hn : n ≤ 9223372036854775807) (hi : i < n) (k : Nat) (kk : Int) (g : Bool) (hg : g = true) (hk : ¬ k < vl)
    (c1 : ∀ d, Below w.heap.size w d → Calls Try.prog 23 #[.slice a n cap, .string ty] d fun e w' => e = .returned (.tuple #[.int .i64 i, .bool true]) ∧ Below d.heap.size d w')
    (c2 : ∀ d, Below w.heap.size w d → Calls Try.prog 24 #[schV (Q i).nm (Q i).v, .string f] d fun e w' => e = .returned (.tuple #[.int .i64 k, .int .i64 kk, .bool g]) ∧ Below d.heap.size d w') :
    Calls Try.prog 10 #[.slice a n cap, evtV ty t (.slice va vl vc), .string f] w fun e w' => e = .returned (.tuple #[valV 0 0 ⟨#[]⟩, .bool false]) ∧ Below w.heap.size w w' := by
  subst hg
  have C2 : Hid (∀ d, Below w.heap.size w d → Calls Try.prog 24 #[schV (Q i).nm (Q i).v, .string f] d fun e w' => e = .returned (.tuple #[.int .i64 k, .int .i64 kk, .bool true]) ∧ Below d.heap.size d w') := c2
  have HQ : Hid (Schs w a n Q) := H
  clear c2 H
  have hk2 : (k : Int) ≥ vl := by omega
  obtain ⟨hB0, hX, hY⟩ := get_start w ty t (.slice va vl vc)
  have C1 : Hid (∀ d, _ → Calls Try.prog 23 _ d _) := c1
  clear c1
  go_enter Try.func10, Try.ntmps10
  go_upto_region 1 with fail
  obtain ⟨W, hW⟩ : ∃ W, W = ((w.alloc (evtO ty t (.slice va vl vc))).alloc (valO 0 0 ⟨#[]⟩)) := ⟨_, rfl⟩
  obtain ⟨p, hp⟩ : ∃ p, p = w.heap.size := ⟨_, rfl⟩
  obtain ⟨q, hq⟩ : ∃ q, q = w.heap.size + 1 := ⟨_, rfl⟩
  have hpq : ¬ p = q := by omega
  have hqp : ¬ q = p := by omega
  have HL : Hid (w.heap.size ≤ q) := by show w.heap.size ≤ q; omega
  rw [← hW, ← hq, ← hp]
  rw [← hW] at hB0
  rw [← hW, ← hp] at hX
  rw [← hW, ← hq] at hY
  have HX : Hid (Box3 26 W p (.string ty) (.int .i64 t) (.slice va vl vc)) := hX
  have HY : Hid (Box3 34 W q (.int .i64 0) (.int .i64 0) (.string ⟨#[]⟩)) := hY
  have x0 := hX.cells.1
  clear hW hp hq hX hY
  go_upto_region 2 with (first | (go_at_call 23; refine (C1.out _ hB0).mono ?_; rintro e w1 ⟨rfl, hB1⟩))
  clear C1 x0
  obtain ⟨b, off, rfl, hc⟩ := (HQ.out.later (bt hB0 hB1)).1 (by omega)
  have n0 : w1.cell? ⟨b, off + i * 2, none⟩ = some (.string (Q i).nm) := (hc i hi).1.1
  have n1 : w1.cell? ⟨b, off + i * 2 + 1, none⟩ = some (Q i).v := (hc i hi).1.2
  clear hc HQ
  generalize Q i = qq at n0 n1 C2
  obtain ⟨S, fa, fl, fc, fn, fk⟩ := qq
  simp only [Sch.v] at n0 n1 C2
  go_upto_region 5 with (first | (go_at_call 24; refine (C2.out _ (bt hB0 hB1)).mono ?_; rintro e w2 ⟨rfl, hB2⟩))
  have x2 := ((HX.out.keep hB1).keep hB2).cells.2.2
  have HB : Hid (Below w.heap.size w w2) := bt (bt hB0 hB1) hB2
  have Y1 := (HY.out.keep hB1).keep hB2
  obtain ⟨y0, y1, y2⟩ := Y1.cells
  have z0 := Y1.frozen 0
  have z1 := Y1.frozen 1
  have z2 := Y1.frozen 2
  clear Y1 hB0 hB1 hB2 HX HY C2 n0 n1
  go_wp2
  exact bodyPost_ret (v := .tuple #[valV 0 0 ⟨#[]⟩, .bool false]) (by simp [results, Try.results10, go_sem, y0, y1, y2]) rfl ⟨rfl, ((HB.out.setCell HL.out _).setCell HL.out _).setCell HL.out _⟩
set_option maxRecDepth 100000 in
set_option maxHeartbeats 2000000 in
theorem rget_at (a : Option Addr) (n cap : Nat) (ty : ByteArray) (t : Int) (va : Option Addr) (vl vc : Nat) (f : ByteArray) (i : Nat) (w : World) (Q : Nat → Sch) (H : Schs w a n Q) (hn : n ≤ 9223372036854775807) (hi : i < n) (k : Nat) (kk : Int) (g : Bool) (V : Nat → Val) (HE : Vals w va vl V) (hv : vl ≤ 9223372036854775807) (hg : g = true) (hk : k < vl)
    (c1 : ∀ d, Below w.heap.size w d → Calls Try.prog 23 #[.slice a n cap, .string ty] d fun e w' => e = .returned (.tuple #[.int .i64 i, .bool true]) ∧ Below d.heap.size d w')
    (c2 : ∀ d, Below w.heap.size w d → Calls Try.prog 24 #[schV (Q i).nm (Q i).v, .string f] d fun e w' => e = .returned (.tuple #[.int .i64 k, .int .i64 kk, .bool g]) ∧ Below d.heap.size d w') :
    Calls Try.prog 10 #[.slice a n cap, evtV ty t (.slice va vl vc), .string f] w fun e w' => e = .returned (.tuple #[valV (V k).k (V k).n (V k).s, .bool true]) ∧ Below w.heap.size w w' := by
  subst hg
  have C2 : Hid (∀ d, Below w.heap.size w d → Calls Try.prog 24 #[schV (Q i).nm (Q i).v, .string f] d fun e w' => e = .returned (.tuple #[.int .i64 k, .int .i64 kk, .bool true]) ∧ Below d.heap.size d w') := c2
  have HQ : Hid (Schs w a n Q) := H
  clear c2 H
  have hk2 : ¬ (k : Int) ≥ vl := by omega
  have HV : Hid (Vals w va vl V) := HE
  clear HE
  obtain ⟨hB0, hX, hY⟩ := get_start w ty t (.slice va vl vc)
  have C1 : Hid (∀ d, _ → Calls Try.prog 23 _ d _) := c1
  clear c1
  go_enter Try.func10, Try.ntmps10
  go_upto_region 1 with fail
  obtain ⟨W, hW⟩ : ∃ W, W = ((w.alloc (evtO ty t (.slice va vl vc))).alloc (valO 0 0 ⟨#[]⟩)) := ⟨_, rfl⟩
  obtain ⟨p, hp⟩ : ∃ p, p = w.heap.size := ⟨_, rfl⟩
  obtain ⟨q, hq⟩ : ∃ q, q = w.heap.size + 1 := ⟨_, rfl⟩
  have hpq : ¬ p = q := by omega
  have hqp : ¬ q = p := by omega
  have HL : Hid (w.heap.size ≤ q) := by show w.heap.size ≤ q; omega
  rw [← hW, ← hq, ← hp]
  rw [← hW] at hB0
  rw [← hW, ← hp] at hX
  rw [← hW, ← hq] at hY
  have HX : Hid (Box3 26 W p (.string ty) (.int .i64 t) (.slice va vl vc)) := hX
  have HY : Hid (Box3 34 W q (.int .i64 0) (.int .i64 0) (.string ⟨#[]⟩)) := hY
  have x0 := hX.cells.1
  clear hW hp hq hX hY
  go_upto_region 2 with (first | (go_at_call 23; refine (C1.out _ hB0).mono ?_; rintro e w1 ⟨rfl, hB1⟩))
  clear C1 x0
  obtain ⟨b, off, rfl, hc⟩ := (HQ.out.later (bt hB0 hB1)).1 (by omega)
  have n0 : w1.cell? ⟨b, off + i * 2, none⟩ = some (.string (Q i).nm) := (hc i hi).1.1
  have n1 : w1.cell? ⟨b, off + i * 2 + 1, none⟩ = some (Q i).v := (hc i hi).1.2
  clear hc HQ
  generalize Q i = qq at n0 n1 C2
  obtain ⟨S, fa, fl, fc, fn, fk⟩ := qq
  simp only [Sch.v] at n0 n1 C2
  go_upto_region 5 with (first | (go_at_call 24; refine (C2.out _ (bt hB0 hB1)).mono ?_; rintro e w2 ⟨rfl, hB2⟩))
  have x2 := ((HX.out.keep hB1).keep hB2).cells.2.2
  have HB : Hid (Below w.heap.size w w2) := bt (bt hB0 hB1) hB2
  have Y1 := (HY.out.keep hB1).keep hB2
  obtain ⟨y0, y1, y2⟩ := Y1.cells
  have z0 := Y1.frozen 0
  have z1 := Y1.frozen 1
  have z2 := Y1.frozen 2
  clear Y1 hB0 hB1 hB2 HX HY C2 n0 n1
  obtain ⟨b3, off3, rfl, hc3⟩ := (HV.out.later HB.out) (by omega)
  obtain ⟨g0, g1, g2⟩ := hc3 k hk
  clear hc3 HV
  go_wp2
  exact bodyPost_ret (v := .tuple #[valV (V k).k (V k).n (V k).s, .bool true]) (by simp [results, Try.results10, go_sem, y0, y1, y2]) rfl ⟨rfl, ((HB.out.setCell HL.out _).setCell HL.out _).setCell HL.out _⟩
theorem refGet_any (a : Option Addr) (n cap : Nat) (Q : Nat → Sch) (x : Evt) (f : ByteArray) (w : World) (H : Schs w a n Q) (hn : n ≤ 9223372036854775807) (HE : IsEvt w x) :
    Calls Try.prog 10 #[.slice a n cap, evtV x.ty x.t x.v, .string f] w fun e w' => e = .returned (.tuple #[((getE n Q x f).getD val0).v, .bool (getE n Q x f).isSome]) ∧ Below w.heap.size w w' := by
  unfold getE plc schOf
  cases hi : idx (fun j => (Q j).nm) x.ty n with
  | none => exact rget_none a n cap x.ty x.t x.a x.l x.c f 0 w fun d hd => refFind_none a n cap _ _ x.ty d (H.later hd).1 hn (idx_none _ x.ty n hi)
  | some i =>
    obtain ⟨h1, h2, h3⟩ := idx_some _ x.ty n i hi
    have c1 := fun d hd => refFind_some a n cap i _ _ x.ty d (H.later (w' := d) hd).1 hn h1 h2 h3
    have hq := H.2 i h1
    show Calls _ _ _ _ fun e w' => e = .returned (.tuple #[((Option.bind (idx (Q i).fn f (Q i).l) fun k => if k < x.l then some (x.vs k) else none).getD val0).v, .bool (Option.bind (idx (Q i).fn f (Q i).l) fun k => if k < x.l then some (x.vs k) else none).isSome]) ∧ Below w.heap.size w w'
    cases hk : idx (Q i).fn f (Q i).l with
    | none => exact rget_miss a n cap x.ty x.t x.a x.l x.c f i w Q H hn h1 0 0 false rfl c1 fun d hd => refField_none (Q i).nm _ _ _ _ _ f d (hq.1.later hd) hq.2 (idx_none _ f _ hk)
    | some k =>
      obtain ⟨g1, g2, g3⟩ := idx_some _ f _ k hk
      have c2 := fun d hd => refField_some (Q i).nm (Q i).a (Q i).l (Q i).c k _ _ f d (hq.1.later (w' := d) hd) hq.2 g1 g2 g3
      by_cases hl : k < x.l
      · rw [show (Option.bind (some k) fun k => if k < x.l then some (x.vs k) else none) = some (x.vs k) by simp [hl]]
        exact rget_at a n cap x.ty x.t x.a x.l x.c f i w Q H hn h1 k _ true x.vs HE.1 HE.2 rfl hl c1 c2
      · rw [show (Option.bind (some k) fun k => if k < x.l then some (x.vs k) else none) = none by simp [hl]]
        exact rget_few a n cap x.ty x.t x.a x.l x.c f i w Q H hn h1 k _ true rfl hl c1 c2
set_option maxRecDepth 100000 in
set_option maxHeartbeats 2000000 in
theorem rhas_none (a : Option Addr) (n cap : Nat) (ty f : ByteArray) (i : Nat) (w : World)
    (c1 : ∀ d, Below w.heap.size w d → Calls Try.prog 23 #[.slice a n cap, .string ty] d fun e w' => e = .returned (.tuple #[.int .i64 i, .bool false]) ∧ Below d.heap.size d w') :
    Calls Try.prog 16 #[.slice a n cap, .string ty, .string f] w fun e w' => e = .returned (.bool false) ∧ Below w.heap.size w w' := by
  have C1 : Hid (∀ d, _ → Calls Try.prog 23 _ d _) := c1
  clear c1
  go_enter Try.func16, Try.ntmps16
  go_wp2_with (first | (go_at_call 23; refine (C1.out _ (Below.refl _ _)).mono ?_; rintro e w1 ⟨rfl, hB1⟩))
  go_ret
  exact ⟨rfl, hB1⟩
set_option maxRecDepth 100000 in
set_option maxHeartbeats 2000000 in
theorem rhas_some (a : Option Addr) (n cap : Nat) (ty f : ByteArray) (i : Nat) (w : World) (Q : Nat → Sch) (H : Schs w a n Q) (hn : n ≤ 9223372036854775807) (hi : i < n) (k : Nat) (kk : Int) (g : Bool) 
    (c1 : ∀ d, Below w.heap.size w d → Calls Try.prog 23 #[.slice a n cap, .string ty] d fun e w' => e = .returned (.tuple #[.int .i64 i, .bool true]) ∧ Below d.heap.size d w')
    (c2 : ∀ d, Below w.heap.size w d → Calls Try.prog 24 #[schV (Q i).nm (Q i).v, .string f] d fun e w' => e = .returned (.tuple #[.int .i64 k, .int .i64 kk, .bool g]) ∧ Below d.heap.size d w') :
    Calls Try.prog 16 #[.slice a n cap, .string ty, .string f] w fun e w' => e = .returned (.bool g) ∧ Below w.heap.size w w' := by
  have C1 : Hid (∀ d, _ → Calls Try.prog 23 _ d _) := c1
  have C2 : Hid (∀ d, Below w.heap.size w d → Calls Try.prog 24 #[schV (Q i).nm (Q i).v, .string f] d fun e w' => e = .returned (.tuple #[.int .i64 k, .int .i64 kk, .bool g]) ∧ Below d.heap.size d w') := c2
  have HQ : Hid (Schs w a n Q) := H
  clear c1 c2 H
  go_enter Try.func16, Try.ntmps16
  go_upto_region 2 with (first | (go_at_call 23; refine (C1.out _ (Below.refl _ _)).mono ?_; rintro e w1 ⟨rfl, hB1⟩))
  obtain ⟨b, off, rfl, hc⟩ := (HQ.out.later hB1).1 (by omega)
  have n0 : w1.cell? ⟨b, off + i * 2, none⟩ = some (.string (Q i).nm) := (hc i hi).1.1
  have n1 : w1.cell? ⟨b, off + i * 2 + 1, none⟩ = some (Q i).v := (hc i hi).1.2
  clear hc HQ C1
  generalize Q i = qq at n0 n1 C2
  obtain ⟨S, fa, fl, fc, fn, fk⟩ := qq
  simp only [Sch.v] at n0 n1 C2
  go_wp2_with (first | (go_at_call 24; refine (C2.out _ hB1).mono ?_; rintro e w2 ⟨rfl, hB2⟩))
  go_ret
  exact ⟨rfl, bt hB1 hB2⟩
theorem refHas_any (a : Option Addr) (n cap : Nat) (Q : Nat → Sch) (s f : ByteArray) (w : World) (H : Schs w a n Q) (hn : n ≤ 9223372036854775807) :
    Calls Try.prog 16 #[.slice a n cap, .string s, .string f] w fun e w' => e = .returned (.bool (plc n Q s f).isSome) ∧ Below w.heap.size w w' := by
  unfold plc schOf
  cases hi : idx (fun j => (Q j).nm) s n with
  | none => exact rhas_none a n cap s f 0 w fun d hd => refFind_none a n cap _ _ s d (H.later hd).1 hn (idx_none _ s n hi)
  | some i =>
    obtain ⟨h1, h2, h3⟩ := idx_some _ s n i hi
    have c1 := fun d hd => refFind_some a n cap i _ _ s d (H.later (w' := d) hd).1 hn h1 h2 h3
    have hq := H.2 i h1
    show Calls _ _ _ _ fun e w' => e = .returned (.bool (idx (Q i).fn f (Q i).l).isSome) ∧ Below w.heap.size w w'
    cases hk : idx (Q i).fn f (Q i).l with
    | none => exact rhas_some a n cap s f i w Q H hn h1 0 0 false c1 fun d hd => refField_none (Q i).nm _ _ _ _ _ f d (hq.1.later hd) hq.2 (idx_none _ f _ hk)
    | some k =>
      obtain ⟨g1, g2, g3⟩ := idx_some _ f _ k hk
      exact rhas_some a n cap s f i w Q H hn h1 k _ true c1 fun d hd => refField_some (Q i).nm _ _ _ k _ _ f d (hq.1.later hd) hq.2 g1 g2 g3
end Go.Proofs.Ytelabjipclfpnaa
