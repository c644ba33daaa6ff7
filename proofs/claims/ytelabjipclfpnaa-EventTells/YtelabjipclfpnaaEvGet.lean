/-
  event.Get (P8.2).
-/
import Derived.Test.YtelabjipclfpnaaEvOf
namespace Go.Proofs.Ytelabjipclfpnaa
open Go.RowKit

/-- Three cells in a block of their own. -/
def Box3 (t : TypeId) (w : World) (b : Nat) (x y z : Value) : Prop := w.heap[b]? = some (.cells #[x, y, z] t)
theorem Box3.keep {t : TypeId} {w w' : World} {b : Nat} {x y z : Value} (h : Box3 t w b x y z) (hk : Below w.heap.size w w') : Box3 t w' b x y z := keep_below hk _ _ _ h
theorem Box3.new (t : TypeId) (w : World) (x y z : Value) : Box3 t (w.alloc (.cells #[x, y, z] t)) w.heap.size x y z := heap_alloc_new w _
theorem Box3.cells {t : TypeId} {w : World} {b : Nat} {x y z : Value} (h : Box3 t w b x y z) : w.cell? ⟨b, 0, none⟩ = some x ∧ w.cell? ⟨b, 1, none⟩ = some y ∧ w.cell? ⟨b, 2, none⟩ = some z := by
  unfold Box3 at h
  refine ⟨?_, ?_, ?_⟩ <;> simp [World.cell?, h]
theorem Box3.frozen {t : TypeId} {w : World} {b : Nat} {x y z : Value} (h : Box3 t w b x y z) (i : Nat) : w.frozen? ⟨b, i, none⟩ = false := by
  unfold Box3 at h
  simp [World.frozen?, h]
theorem Box3.set {t : TypeId} {w : World} {b : Nat} {x y z : Value} (h : Box3 t w b x y z) (x' y' z' : Value) : Box3 t (((w.setCell ⟨b, 0, none⟩ x').setCell ⟨b, 1, none⟩ y').setCell ⟨b, 2, none⟩ z') b x' y' z' := by
  unfold Box3 at h ⊢
  simp [World.setCell, Array.getElem?_modify, h]
/-- What Get starts with: its event in a block, its answer in another, the schemas as they were. -/
theorem get_start (w : World) (ty : ByteArray) (t : Int) (v : Value) :
    Below w.heap.size w ((w.alloc (evtO ty t v)).alloc (valO 0 0 ⟨#[]⟩)) ∧ Box3 26 ((w.alloc (evtO ty t v)).alloc (valO 0 0 ⟨#[]⟩)) w.heap.size (.string ty) (.int .i64 t) v ∧ Box3 34 ((w.alloc (evtO ty t v)).alloc (valO 0 0 ⟨#[]⟩)) (w.heap.size + 1) (.int .i64 0) (.int .i64 0) (.string ⟨#[]⟩) := by
  have h1 : Below w.heap.size w (w.alloc (evtO ty t v)) := (Below.refl _ _).alloc (Nat.le_refl _) _
  have h2 : Below (w.alloc (evtO ty t v)).heap.size (w.alloc (evtO ty t v)) ((w.alloc (evtO ty t v)).alloc (valO 0 0 ⟨#[]⟩)) := (Below.refl _ _).alloc (Nat.le_refl _) _
  have h3 := Box3.new 34 (w.alloc (evtO ty t v)) (.int .i64 0) (.int .i64 0) (.string ⟨#[]⟩)
  have e : (w.alloc (evtO ty t v)).heap.size = w.heap.size + 1 := by simp
  rw [e] at h3
  exact ⟨bt h1 h2, (Box3.new 26 w (.string ty) (.int .i64 t) v).keep h2, h3⟩
set_option maxRecDepth 100000 in
set_option maxHeartbeats 2000000 in
theorem get_no (a : Option Addr) (n cap : Nat) (ty : ByteArray) (t : Int) (va : Option Addr) (vl vc : Nat) (f : ByteArray) (i : Nat) (g : Bool) (w : World) (hg : g = false)
    (c1 : ∀ d, Below w.heap.size w d → Calls Try.prog 21 #[.slice a n cap, .string ty, .string f] d fun e w' => e = .returned (.tuple #[.int .i64 i, .bool g]) ∧ Below d.heap.size d w') :
    Calls Try.prog 9 #[.slice a n cap, evtV ty t (.slice va vl vc), .string f] w fun e w' => e = .returned (.tuple #[valV 0 0 ⟨#[]⟩, .bool false]) ∧ Below w.heap.size w w' := by
  subst hg
  obtain ⟨hB0, hX, hY⟩ := get_start w ty t (.slice va vl vc)
  have C1 : Hid (∀ d, _ → Calls Try.prog 21 _ d _) := c1
  clear c1
  go_enter Try.func9, Try.ntmps9
  go_upto_region 1 with fail
  obtain ⟨W, hW⟩ : ∃ W, W = ((w.alloc (evtO ty t (.slice va vl vc))).alloc (valO 0 0 ⟨#[]⟩)) := ⟨_, rfl⟩
  obtain ⟨p, hp⟩ : ∃ p, p = w.heap.size := ⟨_, rfl⟩
  obtain ⟨q, hq⟩ : ∃ q, q = w.heap.size + 1 := ⟨_, rfl⟩
  have hpq : ¬ p = q := by omega
  have hqp : ¬ q = p := by omega
  have HL : Hid (w.heap.size ≤ q) := by show w.heap.size ≤ q; omega
  rw [← hW, ← hq, ← hp]
  rw [← hW] at hB0
  rw [← hW, ← hp] at hX
  rw [← hW, ← hq] at hY
  have HX : Hid (Box3 26 W p (.string ty) (.int .i64 t) (.slice va vl vc)) := hX
  have HY : Hid (Box3 34 W q (.int .i64 0) (.int .i64 0) (.string ⟨#[]⟩)) := hY
  have x0 := hX.cells.1
  clear hW hp hq hX hY
  go_upto_region 2 with (first | (go_at_call 21; refine (C1.out _ hB0).mono ?_; rintro e w1 ⟨rfl, hB1⟩))
  clear C1 x0
  have x2 := (HX.out.keep hB1).cells.2.2
  go_wp2_with (first
    | (go_at_call 22
       refine (null_below _).mono ?_
       rintro e w2 ⟨rfl, hB2⟩
       have HB : Hid (Below w.heap.size w w2) := bt (bt hB0 hB1) hB2
       have Y2 : Box3 34 w2 q (.int .i64 0) (.int .i64 0) (.string ⟨#[]⟩) := (HY.out.keep hB1).keep hB2
       obtain ⟨y0, y1, y2⟩ := Y2.cells
       have z0 := Y2.frozen 0
       have z1 := Y2.frozen 1
       have z2 := Y2.frozen 2
       clear Y2))
  exact bodyPost_ret (v := .tuple #[valV 0 0 ⟨#[]⟩, .bool false]) (by simp [results, Try.results9, go_sem, y0, y1, y2]) rfl ⟨rfl, ((HB.out.setCell HL.out _).setCell HL.out _).setCell HL.out _⟩
set_option maxRecDepth 100000 in
set_option maxHeartbeats 2000000 in
theorem get_few (a : Option Addr) (n cap : Nat) (ty : ByteArray) (t : Int) (va : Option Addr) (vl vc : Nat) (f : ByteArray) (i : Nat) (g : Bool) (w : World) (hg : g = true) (hi : ¬ i < vl)
    (c1 : ∀ d, Below w.heap.size w d → Calls Try.prog 21 #[.slice a n cap, .string ty, .string f] d fun e w' => e = .returned (.tuple #[.int .i64 i, .bool g]) ∧ Below d.heap.size d w') :
    Calls Try.prog 9 #[.slice a n cap, evtV ty t (.slice va vl vc), .string f] w fun e w' => e = .returned (.tuple #[valV 0 0 ⟨#[]⟩, .bool false]) ∧ Below w.heap.size w w' := by
  subst hg
  have hi2 : (i : Int) ≥ vl := by omega
  obtain ⟨hB0, hX, hY⟩ := get_start w ty t (.slice va vl vc)
  have C1 : Hid (∀ d, _ → Calls Try.prog 21 _ d _) := c1
  clear c1
  go_enter Try.func9, Try.ntmps9
  go_upto_region 1 with fail
  obtain ⟨W, hW⟩ : ∃ W, W = ((w.alloc (evtO ty t (.slice va vl vc))).alloc (valO 0 0 ⟨#[]⟩)) := ⟨_, rfl⟩
  obtain ⟨p, hp⟩ : ∃ p, p = w.heap.size := ⟨_, rfl⟩
  obtain ⟨q, hq⟩ : ∃ q, q = w.heap.size + 1 := ⟨_, rfl⟩
  have hpq : ¬ p = q := by omega
  have hqp : ¬ q = p := by omega
  have HL : Hid (w.heap.size ≤ q) := by show w.heap.size ≤ q; omega
  rw [← hW, ← hq, ← hp]
  rw [← hW] at hB0
  rw [← hW, ← hp] at hX
  rw [← hW, ← hq] at hY
  have HX : Hid (Box3 26 W p (.string ty) (.int .i64 t) (.slice va vl vc)) := hX
  have HY : Hid (Box3 34 W q (.int .i64 0) (.int .i64 0) (.string ⟨#[]⟩)) := hY
  have x0 := hX.cells.1
  clear hW hp hq hX hY
  go_upto_region 2 with (first | (go_at_call 21; refine (C1.out _ hB0).mono ?_; rintro e w1 ⟨rfl, hB1⟩))
  clear C1 x0
  have x2 := (HX.out.keep hB1).cells.2.2
  go_wp2_with (first
    | (go_at_call 22
       refine (null_below _).mono ?_
       rintro e w2 ⟨rfl, hB2⟩
       have HB : Hid (Below w.heap.size w w2) := bt (bt hB0 hB1) hB2
       have Y2 : Box3 34 w2 q (.int .i64 0) (.int .i64 0) (.string ⟨#[]⟩) := (HY.out.keep hB1).keep hB2
       obtain ⟨y0, y1, y2⟩ := Y2.cells
       have z0 := Y2.frozen 0
       have z1 := Y2.frozen 1
       have z2 := Y2.frozen 2
       clear Y2))
  exact bodyPost_ret (v := .tuple #[valV 0 0 ⟨#[]⟩, .bool false]) (by simp [results, Try.results9, go_sem, y0, y1, y2]) rfl ⟨rfl, ((HB.out.setCell HL.out _).setCell HL.out _).setCell HL.out _⟩
set_option maxRecDepth 100000 in
set_option maxHeartbeats 2000000 in
theorem get_at (a : Option Addr) (n cap : Nat) (ty : ByteArray) (t : Int) (va : Option Addr) (vl vc : Nat) (f : ByteArray) (i : Nat) (g : Bool) (w : World) (V : Nat → Val) (H : Vals w va vl V) (hv : vl ≤ 9223372036854775807) (hg : g = true) (hi : i < vl)
    (c1 : ∀ d, Below w.heap.size w d → Calls Try.prog 21 #[.slice a n cap, .string ty, .string f] d fun e w' => e = .returned (.tuple #[.int .i64 i, .bool g]) ∧ Below d.heap.size d w') :
    Calls Try.prog 9 #[.slice a n cap, evtV ty t (.slice va vl vc), .string f] w fun e w' => e = .returned (.tuple #[valV (V i).k (V i).n (V i).s, .bool true]) ∧ Below w.heap.size w w' := by
  subst hg
  have hi2 : ¬ (i : Int) ≥ vl := by omega
  have HV : Hid (Vals w va vl V) := H
  clear H
  obtain ⟨hB0, hX, hY⟩ := get_start w ty t (.slice va vl vc)
  have C1 : Hid (∀ d, _ → Calls Try.prog 21 _ d _) := c1
  clear c1
  go_enter Try.func9, Try.ntmps9
  go_upto_region 1 with fail
  obtain ⟨W, hW⟩ : ∃ W, W = ((w.alloc (evtO ty t (.slice va vl vc))).alloc (valO 0 0 ⟨#[]⟩)) := ⟨_, rfl⟩
  obtain ⟨p, hp⟩ : ∃ p, p = w.heap.size := ⟨_, rfl⟩
  obtain ⟨q, hq⟩ : ∃ q, q = w.heap.size + 1 := ⟨_, rfl⟩
  have hpq : ¬ p = q := by omega
  have hqp : ¬ q = p := by omega
  have HL : Hid (w.heap.size ≤ q) := by show w.heap.size ≤ q; omega
  rw [← hW, ← hq, ← hp]
  rw [← hW] at hB0
  rw [← hW, ← hp] at hX
  rw [← hW, ← hq] at hY
  have HX : Hid (Box3 26 W p (.string ty) (.int .i64 t) (.slice va vl vc)) := hX
  have HY : Hid (Box3 34 W q (.int .i64 0) (.int .i64 0) (.string ⟨#[]⟩)) := hY
  have x0 := hX.cells.1
  clear hW hp hq hX hY
  go_upto_region 2 with (first | (go_at_call 21; refine (C1.out _ hB0).mono ?_; rintro e w1 ⟨rfl, hB1⟩))
  clear C1 x0
  have x2 := (HX.out.keep hB1).cells.2.2
  have HB : Hid (Below w.heap.size w w1) := bt hB0 hB1
  have Y1 := HY.out.keep hB1
  obtain ⟨b, off, rfl, hc⟩ := (HV.out.later HB.out) (by omega)
  obtain ⟨g0, g1, g2⟩ := hc i hi
  obtain ⟨y0, y1, y2⟩ := Y1.cells
  have z0 := Y1.frozen 0
  have z1 := Y1.frozen 1
  have z2 := Y1.frozen 2
  clear Y1 hc hB0 hB1 HX HY HV
  go_wp2
  exact bodyPost_ret (v := .tuple #[valV (V i).k (V i).n (V i).s, .bool true]) (by simp [results, Try.results9, go_sem, y0, y1, y2]) rfl ⟨rfl, ((HB.out.setCell HL.out _).setCell HL.out _).setCell HL.out _⟩
theorem evGet_any (a : Option Addr) (n cap : Nat) (Q : Nat → Sch) (x : Evt) (f : ByteArray) (w : World) (H : Schs w a n Q) (hn : n ≤ 9223372036854775807) (HE : IsEvt w x) :
    Calls Try.prog 9 #[.slice a n cap, evtV x.ty x.t x.v, .string f] w fun e w' => e = .returned (.tuple #[((getE n Q x f).getD val0).v, .bool (getE n Q x f).isSome]) ∧ Below w.heap.size w w' := by
  have c1 := fun d hd => place_any a n cap Q x.ty f d (H.later (w' := d) hd) hn
  unfold getE
  cases hk : plc n Q x.ty f with
  | none =>
    rw [hk] at c1
    exact get_no a n cap x.ty x.t x.a x.l x.c f 0 false w rfl c1
  | some k =>
    rw [hk] at c1
    by_cases hl : k < x.l
    · rw [show (Option.bind (some k) fun k => if k < x.l then some (x.vs k) else none) = some (x.vs k) by simp [hl]]
      exact get_at a n cap x.ty x.t x.a x.l x.c f k true w x.vs HE.1 HE.2 rfl hl c1
    · rw [show (Option.bind (some k) fun k => if k < x.l then some (x.vs k) else none) = none by simp [hl]]
      exact get_few a n cap x.ty x.t x.a x.l x.c f k true w rfl hl c1
end Go.Proofs.Ytelabjipclfpnaa
