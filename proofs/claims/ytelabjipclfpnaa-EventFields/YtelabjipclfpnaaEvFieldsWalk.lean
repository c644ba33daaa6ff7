/-
  EventFields' walk (P8.2): an event that may be has a value for each field of its schema, and for no other one.
-/
import Derived.Test.YtelabjipclfpnaaEvStream
import Derived.Test.YtelabjipclfpnaaEvAwake
import Derived.Test.YtelabjipclfpnaaEvGet
namespace Go.Proofs.Ytelabjipclfpnaa
open Go.RowKit

theorem bookZ_ok {n : Nat} {Q : Nat → Sch} (h : bookZ n Q = 0) : n ≤ 16 ∧ (∀ j, j < n → (Q j).chk = 0) ∧ ∀ i j, i < j → j < n → ¬ (Q i).nm = (Q j).nm := by
  unfold bookZ at h
  split at h
  · omega
  · split at h
    · split at h
      · omega
      · rename_i h1 h2 h3
        exact ⟨by omega, chks_ok Q n h2, dupB_not _ n (by simpa using h3)⟩
    · contradiction
theorem evZ_ok {n : Nat} {Q : Nat → Sch} {x : Evt} (h : evZ n Q x = 0) : bookZ n Q = 0 ∧ ∃ y, schOf n Q x.ty = some y ∧ x.l = y.l := by
  unfold evZ chkE at h
  split at h
  · rename_i hb
    refine ⟨hb, ?_⟩
    split at h
    · omega
    · rename_i y hy
      refine ⟨y, hy, ?_⟩
      split at h
      · omega
      · split at h
        · assumption
        · omega
  · omega
theorem fields_math (n : Nat) (Q : Nat → Sch) (x : Evt) (h : evZ n Q x = 0) : ∀ k, k < n → (Q k).nm = x.ty → (Q k).l = x.l ∧ ∀ j, j < x.l → getE n Q x ((Q k).fn j) = some (x.vs j) := by
  intro k hk he
  obtain ⟨hb, y, hy, hl⟩ := evZ_ok h
  obtain ⟨_, hc, hd⟩ := bookZ_ok hb
  have hs : schOf n Q x.ty = some (Q k) := by
    unfold schOf
    rw [idx_at (fun j => (Q j).nm) x.ty n k hk he (fun j hj hj2 => hd j k hj hk (hj2.trans he.symm))]
    rfl
  rw [hs] at hy
  cases hy
  refine ⟨hl.symm, fun j hj => ?_⟩
  obtain ⟨_, _, hdf, _⟩ := chkZ_ok (hc k hk)
  have hp : plc n Q x.ty ((Q k).fn j) = some j := by
    unfold plc
    rw [hs]
    exact idx_at (Q k).fn _ (Q k).l j (by omega) rfl (fun i hi => dupB_not _ _ hdf i j hi (by omega))
  unfold getE
  rw [hp]
  simp [hj]
theorem fields_has (n : Nat) (Q : Nat → Sch) (x : Evt) (f : ByteArray) (h : evZ n Q x = 0) : (getE n Q x f).isSome = (plc n Q x.ty f).isSome := by
  obtain ⟨hb, y, hy, hl⟩ := evZ_ok h
  unfold getE
  cases hp : plc n Q x.ty f with
  | none => rfl
  | some k =>
    unfold plc at hp
    rw [hy] at hp
    have := (idx_some y.fn f y.l k hp).1
    simp [show k < x.l by omega]
set_option maxRecDepth 100000 in
set_option maxHeartbeats 4000000 in
theorem fields_bad (a : Option Addr) (n cap : Nat) (x : Evt) (f : ByteArray) (o : Option Val) (y : Int) (w : World) (hy : ¬ y = 0)
    (c1 : ∀ d, Below w.heap.size w d → Calls Try.prog 9 #[.slice a n cap, evtV x.ty x.t x.v, .string f] d fun e w' => e = .returned (.tuple #[(o.getD val0).v, .bool o.isSome]) ∧ Below d.heap.size d w')
    (c2 : ∀ d, Below w.heap.size w d → Calls Try.prog 13 #[.slice a n cap, evtV x.ty x.t x.v] d fun e w' => e = .returned (.int .i64 y) ∧ Below d.heap.size d w') :
    Calls Try.prog 5 #[.slice a n cap, evtV x.ty x.t x.v, .string f] w fun e w' => e = .returned (.bool true) ∧ Below w.heap.size w w' := by
  have hy1 : (y == 0) = false := by simpa using hy
  obtain ⟨ty, t, va, vl, vc, vs⟩ := x
  simp only [Evt.v] at c1 c2 ⊢
  have hB0 : Below w.heap.size w (w.alloc (evtO ty t (.slice va vl vc))) := (Below.refl _ _).alloc (Nat.le_refl _) _
  have X := Box3.new 26 w (.string ty) (.int .i64 t) (.slice va vl vc)
  have HX : Hid (Box3 26 (w.alloc (evtO ty t (.slice va vl vc))) w.heap.size (.string ty) (.int .i64 t) (.slice va vl vc)) := X
  have C1 : Hid (∀ d, _ → Calls Try.prog 9 _ d _) := c1
  have C2 : Hid (∀ d, _ → Calls Try.prog 13 _ d _) := c2
  clear c1 c2 X hy
  go_enter Try.func5, Try.ntmps5
  go_upto_region 1 with fail
  obtain ⟨W, hW⟩ : ∃ W, W = w.alloc (evtO ty t (.slice va vl vc)) := ⟨_, rfl⟩
  obtain ⟨p, hp⟩ : ∃ p, p = w.heap.size := ⟨_, rfl⟩
  rw [← hW, ← hp] at HX
  rw [← hW] at hB0
  rw [← hW, ← hp]
  clear hW hp
  obtain ⟨x0, x1, x2⟩ := HX.out.cells
  cases o with
  | some v =>
    go_upto_region 2 with (first | (go_at_call 9; refine (C1.out _ hB0).mono ?_; rintro e w1 ⟨rfl, hB1⟩))
    have hB2 : Below w1.heap.size w1 (w1.alloc (valO (v).k (v).n (v).s)) := (Below.refl _ _).alloc (Nat.le_refl _) _
    have HB2 : Hid (Below w.heap.size w (w1.alloc (valO (v).k (v).n (v).s))) := bt (bt hB0 hB1) hB2
    have V := Box3.new 34 w1 (.int .i64 (v).k) (.int .i64 (v).n) (.string (v).s)
    have HV : Hid (Box3 34 (w1.alloc (valO (v).k (v).n (v).s)) w1.heap.size (.int .i64 (v).k) (.int .i64 (v).n) (.string (v).s)) := V
    have HY : Hid (Box3 26 (w1.alloc (valO (v).k (v).n (v).s)) p (.string ty) (.int .i64 t) (.slice va vl vc)) := (HX.out.keep hB1).keep hB2
    obtain ⟨W2, hW2⟩ : ∃ W2, W2 = w1.alloc (valO (v).k (v).n (v).s) := ⟨_, rfl⟩
    obtain ⟨r, hr⟩ : ∃ r, r = w1.heap.size := ⟨_, rfl⟩
    rw [← hW2, ← hr] at HV
    rw [← hW2] at HB2 HY
    rw [← hW2, ← hr]
    clear hW2 hr V hB2 x0 x1 x2 hB1 C1 HX hB0
    obtain ⟨x0, x1, x2⟩ := HY.out.cells
    go_wp2_with (first
      | (go_at_call 13
         refine (C2.out _ HB2.out).mono ?_
         rintro e w2 ⟨rfl, hB3⟩
         have HB3 : Hid (Below w.heap.size w w2) := bt HB2.out hB3
         obtain ⟨y0, y1, y2⟩ := (HV.out.keep hB3).cells)
      | (go_at_call 6; refine (awake_any _).mono ?_; rintro e w3 ⟨rfl, hB4⟩))
    go_ret
    exact ⟨rfl, bt HB3.out hB4⟩
  | none =>
    replace C1 : Hid (∀ d, Below w.heap.size w d → Calls Try.prog 9 #[.slice a n cap, evtV ty t (.slice va vl vc), .string f] d fun e w' => e = .returned (.tuple #[valV 0 0 ⟨#[]⟩, .bool false]) ∧ Below d.heap.size d w') := C1
    go_upto_region 2 with (first | (go_at_call 9; refine (C1.out _ hB0).mono ?_; rintro e w1 ⟨rfl, hB1⟩))
    have hB2 : Below w1.heap.size w1 (w1.alloc (valO 0 0 ⟨#[]⟩)) := (Below.refl _ _).alloc (Nat.le_refl _) _
    have HB2 : Hid (Below w.heap.size w (w1.alloc (valO 0 0 ⟨#[]⟩))) := bt (bt hB0 hB1) hB2
    have V := Box3.new 34 w1 (.int .i64 0) (.int .i64 0) (.string ⟨#[]⟩)
    have HV : Hid (Box3 34 (w1.alloc (valO 0 0 ⟨#[]⟩)) w1.heap.size (.int .i64 0) (.int .i64 0) (.string ⟨#[]⟩)) := V
    have HY : Hid (Box3 26 (w1.alloc (valO 0 0 ⟨#[]⟩)) p (.string ty) (.int .i64 t) (.slice va vl vc)) := (HX.out.keep hB1).keep hB2
    obtain ⟨W2, hW2⟩ : ∃ W2, W2 = w1.alloc (valO 0 0 ⟨#[]⟩) := ⟨_, rfl⟩
    obtain ⟨r, hr⟩ : ∃ r, r = w1.heap.size := ⟨_, rfl⟩
    rw [← hW2, ← hr] at HV
    rw [← hW2] at HB2 HY
    rw [← hW2, ← hr]
    clear hW2 hr V hB2 x0 x1 x2 hB1 C1 HX hB0
    obtain ⟨x0, x1, x2⟩ := HY.out.cells
    go_wp2_with (first
      | (go_at_call 13
         refine (C2.out _ HB2.out).mono ?_
         rintro e w2 ⟨rfl, hB3⟩
         have HB3 : Hid (Below w.heap.size w w2) := bt HB2.out hB3
         obtain ⟨y0, y1, y2⟩ := (HV.out.keep hB3).cells)
      | (go_at_call 6; refine (awake_any _).mono ?_; rintro e w3 ⟨rfl, hB4⟩))
    go_ret
    exact ⟨rfl, bt HB3.out hB4⟩
end Go.Proofs.Ytelabjipclfpnaa
