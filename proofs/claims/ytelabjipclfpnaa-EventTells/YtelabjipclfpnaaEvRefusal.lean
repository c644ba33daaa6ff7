/-
  event.refusal and event.Check (P8.1).
-/
import Derived.Test.YtelabjipclfpnaaEvFit
import Derived.Test.YtelabjipclfpnaaEvOf
namespace Go.Proofs.Ytelabjipclfpnaa
open Go.RowKit

set_option maxRecDepth 100000 in
set_option maxHeartbeats 2000000 in
theorem refusal_book (z : Int) (a : Option Addr) (n cap : Nat) (ty : ByteArray) (t : Int) (va : Option Addr) (vl vc : Nat) (nm : ByteArray) (fa : Option Addr) (fl fc : Nat) (b : Bool) (w : World) (hz : (z == 0) = false)
    (c1 : ∀ d, Below w.heap.size w d → Calls Try.prog 31 #[.slice a n cap, .string ty] d fun e w' => e = .returned (.tuple #[schV nm (.slice fa fl fc), .bool b]) ∧ Below d.heap.size d w') :
    Calls Try.prog 20 #[.int .i64 z, .slice a n cap, evtV ty t (.slice va vl vc)] w fun e w' => e = .returned (.int .i64 1) ∧ Below w.heap.size w w' := by
  have hB0 : Below w.heap.size w (w.alloc (evtO ty t (.slice va vl vc))) := (Below.refl _ _).alloc (Nat.le_refl _) _
  have C1 : Hid (Calls Try.prog 31 _ _ _) := c1 _ hB0
  have HX : Hid ((w.alloc (evtO ty t (.slice va vl vc))).cell? ⟨w.heap.size, 1, none⟩ = some (.int .i64 t) ∧ (w.alloc (evtO ty t (.slice va vl vc))).cell? ⟨w.heap.size, 2, none⟩ = some (.slice va vl vc)) := ⟨by simp, by simp⟩
  clear c1
  go_enter Try.func20, Try.ntmps20
  go_upto_region 2 with (first | (go_at_call 31; refine C1.out.mono ?_; rintro e w1 ⟨rfl, hB1⟩))
  have hB2 : Below w1.heap.size w1 (w1.alloc (schO nm (.slice fa fl fc))) := (Below.refl _ _).alloc (Nat.le_refl _) _
  have x1 := cell_later (cell_later HX.out.1 hB1) hB2
  have x2 := cell_later (cell_later HX.out.2 hB1) hB2
  have y1 : (w1.alloc (schO nm (.slice fa fl fc))).cell? ⟨w1.heap.size, 1, none⟩ = some (.slice fa fl fc) := by simp
  have HB : Hid (Below w.heap.size w (w1.alloc (schO nm (.slice fa fl fc)))) := bt (bt hB0 hB1) hB2
  clear hB0 hB1 hB2 HX C1
  generalize w1.alloc (schO nm (.slice fa fl fc)) = W at x1 x2 y1 HB ⊢
  generalize w1.heap.size = p at y1 ⊢
  obtain ⟨q, hq⟩ : ∃ q, q = w.heap.size := ⟨_, rfl⟩
  rw [← hq] at x1 x2
  rw [← hq]
  clear hq
  go_wp2
  go_ret
  exact ⟨rfl, HB.out⟩
set_option maxRecDepth 100000 in
set_option maxHeartbeats 2000000 in
theorem refusal_time (z : Int) (a : Option Addr) (n cap : Nat) (ty : ByteArray) (t : Int) (va : Option Addr) (vl vc : Nat) (nm : ByteArray) (fa : Option Addr) (fl fc : Nat) (b : Bool) (w : World) (hz : z = 0) (hb : b = true) (ht : t < 0)
    (c1 : ∀ d, Below w.heap.size w d → Calls Try.prog 31 #[.slice a n cap, .string ty] d fun e w' => e = .returned (.tuple #[schV nm (.slice fa fl fc), .bool b]) ∧ Below d.heap.size d w') :
    Calls Try.prog 20 #[.int .i64 z, .slice a n cap, evtV ty t (.slice va vl vc)] w fun e w' => e = .returned (.int .i64 1) ∧ Below w.heap.size w w' := by
  subst hz hb
  have hB0 : Below w.heap.size w (w.alloc (evtO ty t (.slice va vl vc))) := (Below.refl _ _).alloc (Nat.le_refl _) _
  have C1 : Hid (Calls Try.prog 31 _ _ _) := c1 _ hB0
  have HX : Hid ((w.alloc (evtO ty t (.slice va vl vc))).cell? ⟨w.heap.size, 1, none⟩ = some (.int .i64 t) ∧ (w.alloc (evtO ty t (.slice va vl vc))).cell? ⟨w.heap.size, 2, none⟩ = some (.slice va vl vc)) := ⟨by simp, by simp⟩
  clear c1
  go_enter Try.func20, Try.ntmps20
  go_upto_region 2 with (first | (go_at_call 31; refine C1.out.mono ?_; rintro e w1 ⟨rfl, hB1⟩))
  have hB2 : Below w1.heap.size w1 (w1.alloc (schO nm (.slice fa fl fc))) := (Below.refl _ _).alloc (Nat.le_refl _) _
  have x1 := cell_later (cell_later HX.out.1 hB1) hB2
  have x2 := cell_later (cell_later HX.out.2 hB1) hB2
  have y1 : (w1.alloc (schO nm (.slice fa fl fc))).cell? ⟨w1.heap.size, 1, none⟩ = some (.slice fa fl fc) := by simp
  have HB : Hid (Below w.heap.size w (w1.alloc (schO nm (.slice fa fl fc)))) := bt (bt hB0 hB1) hB2
  clear hB0 hB1 hB2 HX C1
  generalize w1.alloc (schO nm (.slice fa fl fc)) = W at x1 x2 y1 HB ⊢
  generalize w1.heap.size = p at y1 ⊢
  obtain ⟨q, hq⟩ : ∃ q, q = w.heap.size := ⟨_, rfl⟩
  rw [← hq] at x1 x2
  rw [← hq]
  clear hq
  go_wp2
  go_ret
  exact ⟨rfl, HB.out⟩
set_option maxRecDepth 100000 in
set_option maxHeartbeats 2000000 in
theorem refusal_none (z : Int) (a : Option Addr) (n cap : Nat) (ty : ByteArray) (t : Int) (va : Option Addr) (vl vc : Nat) (nm : ByteArray) (fa : Option Addr) (fl fc : Nat) (b : Bool) (w : World) (hz : z = 0) (hb : b = false)
    (c1 : ∀ d, Below w.heap.size w d → Calls Try.prog 31 #[.slice a n cap, .string ty] d fun e w' => e = .returned (.tuple #[schV nm (.slice fa fl fc), .bool b]) ∧ Below d.heap.size d w') :
    Calls Try.prog 20 #[.int .i64 z, .slice a n cap, evtV ty t (.slice va vl vc)] w fun e w' => e = .returned (.int .i64 6) ∧ Below w.heap.size w w' := by
  subst hz hb
  have hB0 : Below w.heap.size w (w.alloc (evtO ty t (.slice va vl vc))) := (Below.refl _ _).alloc (Nat.le_refl _) _
  have C1 : Hid (Calls Try.prog 31 _ _ _) := c1 _ hB0
  have HX : Hid ((w.alloc (evtO ty t (.slice va vl vc))).cell? ⟨w.heap.size, 1, none⟩ = some (.int .i64 t) ∧ (w.alloc (evtO ty t (.slice va vl vc))).cell? ⟨w.heap.size, 2, none⟩ = some (.slice va vl vc)) := ⟨by simp, by simp⟩
  clear c1
  go_enter Try.func20, Try.ntmps20
  go_upto_region 2 with (first | (go_at_call 31; refine C1.out.mono ?_; rintro e w1 ⟨rfl, hB1⟩))
  have hB2 : Below w1.heap.size w1 (w1.alloc (schO nm (.slice fa fl fc))) := (Below.refl _ _).alloc (Nat.le_refl _) _
  have x1 := cell_later (cell_later HX.out.1 hB1) hB2
  have x2 := cell_later (cell_later HX.out.2 hB1) hB2
  have y1 : (w1.alloc (schO nm (.slice fa fl fc))).cell? ⟨w1.heap.size, 1, none⟩ = some (.slice fa fl fc) := by simp
  have HB : Hid (Below w.heap.size w (w1.alloc (schO nm (.slice fa fl fc)))) := bt (bt hB0 hB1) hB2
  clear hB0 hB1 hB2 HX C1
  generalize w1.alloc (schO nm (.slice fa fl fc)) = W at x1 x2 y1 HB ⊢
  generalize w1.heap.size = p at y1 ⊢
  obtain ⟨q, hq⟩ : ∃ q, q = w.heap.size := ⟨_, rfl⟩
  rw [← hq] at x1 x2
  rw [← hq]
  clear hq
  go_wp2
  go_ret
  exact ⟨rfl, HB.out⟩
set_option maxRecDepth 100000 in
set_option maxHeartbeats 2000000 in
theorem refusal_form (z : Int) (a : Option Addr) (n cap : Nat) (ty : ByteArray) (t : Int) (va : Option Addr) (vl vc : Nat) (nm : ByteArray) (fa : Option Addr) (fl fc : Nat) (b : Bool) (w : World) (hz : z = 0) (hb : b = true) (ht : ¬ t < 0) (hl : ((vl : Int) == fl) = false)
    (c1 : ∀ d, Below w.heap.size w d → Calls Try.prog 31 #[.slice a n cap, .string ty] d fun e w' => e = .returned (.tuple #[schV nm (.slice fa fl fc), .bool b]) ∧ Below d.heap.size d w') :
    Calls Try.prog 20 #[.int .i64 z, .slice a n cap, evtV ty t (.slice va vl vc)] w fun e w' => e = .returned (.int .i64 4) ∧ Below w.heap.size w w' := by
  subst hz hb
  have hB0 : Below w.heap.size w (w.alloc (evtO ty t (.slice va vl vc))) := (Below.refl _ _).alloc (Nat.le_refl _) _
  have C1 : Hid (Calls Try.prog 31 _ _ _) := c1 _ hB0
  have HX : Hid ((w.alloc (evtO ty t (.slice va vl vc))).cell? ⟨w.heap.size, 1, none⟩ = some (.int .i64 t) ∧ (w.alloc (evtO ty t (.slice va vl vc))).cell? ⟨w.heap.size, 2, none⟩ = some (.slice va vl vc)) := ⟨by simp, by simp⟩
  clear c1
  go_enter Try.func20, Try.ntmps20
  go_upto_region 2 with (first | (go_at_call 31; refine C1.out.mono ?_; rintro e w1 ⟨rfl, hB1⟩))
  have hB2 : Below w1.heap.size w1 (w1.alloc (schO nm (.slice fa fl fc))) := (Below.refl _ _).alloc (Nat.le_refl _) _
  have x1 := cell_later (cell_later HX.out.1 hB1) hB2
  have x2 := cell_later (cell_later HX.out.2 hB1) hB2
  have y1 : (w1.alloc (schO nm (.slice fa fl fc))).cell? ⟨w1.heap.size, 1, none⟩ = some (.slice fa fl fc) := by simp
  have HB : Hid (Below w.heap.size w (w1.alloc (schO nm (.slice fa fl fc)))) := bt (bt hB0 hB1) hB2
  clear hB0 hB1 hB2 HX C1
  generalize w1.alloc (schO nm (.slice fa fl fc)) = W at x1 x2 y1 HB ⊢
  generalize w1.heap.size = p at y1 ⊢
  obtain ⟨q, hq⟩ : ∃ q, q = w.heap.size := ⟨_, rfl⟩
  rw [← hq] at x1 x2
  rw [← hq]
  clear hq
  go_wp2
  go_ret
  exact ⟨rfl, HB.out⟩
set_option maxRecDepth 100000 in
set_option maxHeartbeats 2000000 in
theorem refusal_type (z : Int) (a : Option Addr) (n cap : Nat) (ty : ByteArray) (t : Int) (va : Option Addr) (vl vc : Nat) (nm : ByteArray) (fa : Option Addr) (fl fc : Nat) (b g : Bool) (w : World) (hz : z = 0) (hb : b = true) (ht : ¬ t < 0) (hl : vl = fl) (hg : g = false)
    (c1 : ∀ d, Below w.heap.size w d → Calls Try.prog 31 #[.slice a n cap, .string ty] d fun e w' => e = .returned (.tuple #[schV nm (.slice fa fl fc), .bool b]) ∧ Below d.heap.size d w')
    (c2 : ∀ d, Below w.heap.size w d → Calls Try.prog 32 #[.slice va vl vc, .slice fa fl fc] d fun e w' => e = .returned (.bool g) ∧ Below d.heap.size d w') :
    Calls Try.prog 20 #[.int .i64 z, .slice a n cap, evtV ty t (.slice va vl vc)] w fun e w' => e = .returned (.int .i64 5) ∧ Below w.heap.size w w' := by
  subst hz hb hl hg
  have hB0 : Below w.heap.size w (w.alloc (evtO ty t (.slice va vl vc))) := (Below.refl _ _).alloc (Nat.le_refl _) _
  have C1 : Hid (Calls Try.prog 31 _ _ _) := c1 _ hB0
  have HX : Hid ((w.alloc (evtO ty t (.slice va vl vc))).cell? ⟨w.heap.size, 1, none⟩ = some (.int .i64 t) ∧ (w.alloc (evtO ty t (.slice va vl vc))).cell? ⟨w.heap.size, 2, none⟩ = some (.slice va vl vc)) := ⟨by simp, by simp⟩
  have C2 : Hid (∀ d, _ → Calls Try.prog 32 _ d _) := c2
  clear c2
  clear c1
  go_enter Try.func20, Try.ntmps20
  go_upto_region 2 with (first | (go_at_call 31; refine C1.out.mono ?_; rintro e w1 ⟨rfl, hB1⟩))
  have hB2 : Below w1.heap.size w1 (w1.alloc (schO nm (.slice fa vl fc))) := (Below.refl _ _).alloc (Nat.le_refl _) _
  have x1 := cell_later (cell_later HX.out.1 hB1) hB2
  have x2 := cell_later (cell_later HX.out.2 hB1) hB2
  have y1 : (w1.alloc (schO nm (.slice fa vl fc))).cell? ⟨w1.heap.size, 1, none⟩ = some (.slice fa vl fc) := by simp
  have HB : Hid (Below w.heap.size w (w1.alloc (schO nm (.slice fa vl fc)))) := bt (bt hB0 hB1) hB2
  clear hB0 hB1 hB2 HX C1
  generalize w1.alloc (schO nm (.slice fa vl fc)) = W at x1 x2 y1 HB ⊢
  generalize w1.heap.size = p at y1 ⊢
  obtain ⟨q, hq⟩ : ∃ q, q = w.heap.size := ⟨_, rfl⟩
  rw [← hq] at x1 x2
  rw [← hq]
  clear hq
  go_wp2_with (first | (go_at_call 32; refine (C2.out _ HB.out).mono ?_; rintro e w2 ⟨rfl, hB3⟩))
  go_ret
  exact ⟨rfl, bt HB.out hB3⟩
set_option maxRecDepth 100000 in
set_option maxHeartbeats 2000000 in
theorem refusal_ok (z : Int) (a : Option Addr) (n cap : Nat) (ty : ByteArray) (t : Int) (va : Option Addr) (vl vc : Nat) (nm : ByteArray) (fa : Option Addr) (fl fc : Nat) (b g : Bool) (w : World) (hz : z = 0) (hb : b = true) (ht : ¬ t < 0) (hl : vl = fl) (hg : g = true)
    (c1 : ∀ d, Below w.heap.size w d → Calls Try.prog 31 #[.slice a n cap, .string ty] d fun e w' => e = .returned (.tuple #[schV nm (.slice fa fl fc), .bool b]) ∧ Below d.heap.size d w')
    (c2 : ∀ d, Below w.heap.size w d → Calls Try.prog 32 #[.slice va vl vc, .slice fa fl fc] d fun e w' => e = .returned (.bool g) ∧ Below d.heap.size d w') :
    Calls Try.prog 20 #[.int .i64 z, .slice a n cap, evtV ty t (.slice va vl vc)] w fun e w' => e = .returned (.int .i64 0) ∧ Below w.heap.size w w' := by
  subst hz hb hl hg
  have hB0 : Below w.heap.size w (w.alloc (evtO ty t (.slice va vl vc))) := (Below.refl _ _).alloc (Nat.le_refl _) _
  have C1 : Hid (Calls Try.prog 31 _ _ _) := c1 _ hB0
  have HX : Hid ((w.alloc (evtO ty t (.slice va vl vc))).cell? ⟨w.heap.size, 1, none⟩ = some (.int .i64 t) ∧ (w.alloc (evtO ty t (.slice va vl vc))).cell? ⟨w.heap.size, 2, none⟩ = some (.slice va vl vc)) := ⟨by simp, by simp⟩
  have C2 : Hid (∀ d, _ → Calls Try.prog 32 _ d _) := c2
  clear c2
  clear c1
  go_enter Try.func20, Try.ntmps20
  go_upto_region 2 with (first | (go_at_call 31; refine C1.out.mono ?_; rintro e w1 ⟨rfl, hB1⟩))
  have hB2 : Below w1.heap.size w1 (w1.alloc (schO nm (.slice fa vl fc))) := (Below.refl _ _).alloc (Nat.le_refl _) _
  have x1 := cell_later (cell_later HX.out.1 hB1) hB2
  have x2 := cell_later (cell_later HX.out.2 hB1) hB2
  have y1 : (w1.alloc (schO nm (.slice fa vl fc))).cell? ⟨w1.heap.size, 1, none⟩ = some (.slice fa vl fc) := by simp
  have HB : Hid (Below w.heap.size w (w1.alloc (schO nm (.slice fa vl fc)))) := bt (bt hB0 hB1) hB2
  clear hB0 hB1 hB2 HX C1
  generalize w1.alloc (schO nm (.slice fa vl fc)) = W at x1 x2 y1 HB ⊢
  generalize w1.heap.size = p at y1 ⊢
  obtain ⟨q, hq⟩ : ∃ q, q = w.heap.size := ⟨_, rfl⟩
  rw [← hq] at x1 x2
  rw [← hq]
  clear hq
  go_wp2_with (first | (go_at_call 32; refine (C2.out _ HB.out).mono ?_; rintro e w2 ⟨rfl, hB3⟩))
  go_ret
  exact ⟨rfl, bt HB.out hB3⟩
/-- A refusal, once it is known what Book says. -/
theorem refusal_any (z : Int) (a : Option Addr) (n cap : Nat) (Q : Nat → Sch) (x : Evt) (w : World) (H : Schs w a n Q) (hn : n ≤ 9223372036854775807) (HE : IsEvt w x) :
    Calls Try.prog 20 #[.int .i64 z, .slice a n cap, evtV x.ty x.t x.v] w fun e w' => e = .returned (.int .i64 (chkE z (schOf n Q x.ty) x)) ∧ Below w.heap.size w w' := by
  unfold chkE schOf
  cases hi : idx (fun j => (Q j).nm) x.ty n with
  | none =>
    have c1 := fun d hd => of_none a n cap Q x.ty d (H.later (w' := d) hd) hn (idx_none _ x.ty n hi)
    by_cases hz : z = 0
    · rw [if_pos hz]
      exact refusal_none z a n cap x.ty x.t x.a x.l x.c _ _ _ _ false w hz rfl c1
    · rw [if_neg hz]
      exact refusal_book z a n cap x.ty x.t x.a x.l x.c _ _ _ _ false w (by simpa using hz) c1
  | some i =>
    obtain ⟨h1, h2, h3⟩ := idx_some _ x.ty n i hi
    have c1 := fun d hd => of_some a n cap i Q x.ty d (H.later (w' := d) hd) hn h1 h2 h3
    by_cases hz : z = 0
    · rw [if_pos hz]
      show Calls _ _ _ _ fun e w' => e = .returned (.int .i64 (if x.t < 0 then 1 else if x.l = (Q i).l then (if fitTo x.vs (Q i).fk (Q i).l = true then 0 else 5) else 4)) ∧ Below w.heap.size w w'
      by_cases ht : x.t < 0
      · rw [if_pos ht]
        exact refusal_time z a n cap x.ty x.t x.a x.l x.c _ _ _ _ true w hz rfl ht c1
      · rw [if_neg ht]
        by_cases hl : x.l = (Q i).l
        · rw [if_pos hl]
          have c2 : ∀ d, Below w.heap.size w d → Calls Try.prog 32 #[.slice x.a x.l x.c, (Q i).v] d fun e w' => e = .returned (.bool (fitTo x.vs (Q i).fk (Q i).l)) ∧ Below d.heap.size d w' := by
            intro d hd
            have hv := (HE.later hd).1
            rw [hl] at hv ⊢
            exact fit_any x.a x.c x.vs (Q i).a (Q i).l (Q i).c _ _ d hv ((H.2 i h1).1.later hd) (H.2 i h1).2
          cases hg : fitTo x.vs (Q i).fk (Q i).l with
          | true => exact refusal_ok z a n cap x.ty x.t x.a x.l x.c _ _ _ _ true _ w hz rfl ht hl hg c1 c2
          | false => exact refusal_type z a n cap x.ty x.t x.a x.l x.c _ _ _ _ true _ w hz rfl ht hl hg c1 c2
        · rw [if_neg hl]
          exact refusal_form z a n cap x.ty x.t x.a x.l x.c _ _ _ _ true w hz rfl ht (by simp; omega) c1
    · rw [if_neg hz]
      exact refusal_book z a n cap x.ty x.t x.a x.l x.c _ _ _ _ true w (by simpa using hz) c1
end Go.Proofs.Ytelabjipclfpnaa
