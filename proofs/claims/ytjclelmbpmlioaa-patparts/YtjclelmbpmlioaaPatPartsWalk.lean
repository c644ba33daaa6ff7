/-
  PatParts' walk: a part of a right pattern is right.
-/
import Derived.Test.YtjclelmbpmlioaaPatAt
import Derived.Test.YtjclelmbpmlioaaPatTail
import Derived.Test.YtjclelmbpmlioaaPatSame
import Derived.Test.YtjclelmbpmlioaaPatMade
import Derived.Test.YtjclelmbpmlioaaPatCheckF
import Derived.Deep.DeepCutAuto
namespace Go.Proofs.Ytjclelmbpmlioaa
open Go.RowKit

theorem atK_right {x : Pt} {Z : Nat → Int} (h : chkP x = 0) : ∀ {m : Nat} {y : Pt}, atK x Z m = some y → chkP y = 0
  | 0, y, e => by cases e; exact h
  | m + 1, y, e => by
    cases hq : atK x Z m with
    | none => simp only [atK, hq] at e; cases e
    | some q =>
      simp only [atK, hq] at e
      split at e
      · rename_i hz
        cases e
        exact chkP_part (atK_right h hq) (by omega)
      · cases e
theorem atK_size {x : Pt} {Z : Nat → Int} : ∀ {m : Nat} {y : Pt}, atK x Z m = some y → y.size ≤ x.size
  | 0, y, e => by cases e; exact Nat.le_refl _
  | m + 1, y, e => by
    cases hq : atK x Z m with
    | none => simp only [atK, hq] at e; cases e
    | some q =>
      simp only [atK, hq] at e
      split at e
      · rename_i hz
        cases e
        have h1 := q.size_part (Z m).toNat (by omega)
        have h2 := atK_size hq
        omega
      · cases e
theorem isP_nil (w : World) : IsP w .nil := (isP_eq w .nil).2 ⟨Nat.le_refl _, by decide, fun i hi => absurd hi (Nat.not_lt_zero _)⟩
/-- At, whatever it answers. -/
theorem at_both (x : Pt) (a : Option Addr) (m cap : Nat) (Z : Nat → Int) (w : World) (hX : IsP w x) (hsm : WdP x) (hZ : Ints .i64 w a m Z) (hm : m ≤ 9223372036854775807) :
    ∃ ok : Bool, Calls Try.prog 11 #[x.val, .slice a m cap] w fun e w' => ∃ q : Pt, e = .returned (.tuple #[q.val, .bool ok]) ∧ IsP w' q ∧ (ok = true → chkP x = 0 → chkP q = 0) ∧ (ok = false → q = .nil) ∧ Below w.heap.size w w' := by
  cases hy : atK x Z m with
  | none =>
    refine ⟨false, (at_no x a m cap Z w hX hZ hm hy).mono ?_⟩
    rintro e w' ⟨rfl, hB⟩
    exact ⟨.nil, rfl, isP_nil _, fun h => (by cases h), fun _ => rfl, hB⟩
  | some y =>
    refine ⟨true, (at_yesW x y a m cap Z w hX hsm hZ hm hy).mono ?_⟩
    rintro e w' ⟨q, rfl, hq, hs, _, hB⟩
    exact ⟨q, rfl, hq.is, fun _ h => (chkP_sm hs).trans (atK_right h hy), fun h => (by cases h), hB⟩
/-- Tail, whatever it answers. -/
theorem tail_both (x : Pt) (hsm : x.size ≤ 1048576) :
    ∃ is : Bool, ∀ w, IsP w x → Calls Try.prog 14 #[x.val] w fun e w' => ∃ t : Pt, e = .returned (.tuple #[t.val, .bool is]) ∧ (is = true → (t.k != 6) = false) ∧ Below w.heap.size w w' := by
  by_cases h : ∃ q, HasTail x q
  · obtain ⟨q, h⟩ := h
    refine ⟨true, fun w hX => (tail_yes x q w hX hsm h).mono ?_⟩
    rintro e w' ⟨y, rfl, _, hs, _, hB⟩
    exact ⟨y, rfl, fun _ => by rw [((sm_iff _ _).1 hs).1.trans h.2.2]; rfl, hB⟩
  · refine ⟨false, fun w hX => (tail_no x w hX (fun q hq => h ⟨q, hq⟩)).mono ?_⟩
    rintro e w' ⟨rfl, hB⟩
    exact ⟨.nil, rfl, fun h => (by cases h), hB⟩
theorem made_six {x : Pt} {z : Int} (h : MadeZ x z) (hc : chkP x = 0) : (z != 0) = true ∨ (z = 0 ∧ (x.k != 6) = true) := by
  rcases h with ⟨h1, _⟩ | ⟨_, h1, h2⟩ | ⟨_, _, h2⟩
  · exact absurd hc h1
  · exact .inr ⟨h2, by simpa using h1.1⟩
  · exact .inl (by rw [h2]; rfl)
/-- A new box, and a pattern put into it. -/
theorem boxP_put (q : Pt) (w : World) : ∃ A W, w.alloc (.cells zeroP 24) = A ∧ A.heap[w.heap.size]? = some (.cells zeroP 24 (0, 0)) ∧
    (((((A.setCell ⟨w.heap.size, 0, none⟩ (.int .i64 q.k)).setCell ⟨w.heap.size, 1, none⟩ (.string q.s)).setCell ⟨w.heap.size, 2, none⟩ (.string q.t)).setCell ⟨w.heap.size, 3, none⟩ (.int .i64 q.lo)).setCell ⟨w.heap.size, 4, none⟩ (.int .i64 q.hi)).setCell ⟨w.heap.size, 5, none⟩ (.slice q.a q.n q.cap) = W ∧
    Below w.heap.size w W ∧ NodeP W w.heap.size 0 q ∧ W.heap.size = w.heap.size + 1 := by
  have h0 : (w.alloc (.cells zeroP 24)).heap[w.heap.size]? = some (.cells zeroP 24 (0, 0)) := World.alloc_heap_new w _
  exact ⟨_, _, rfl, h0, rfl, below_set6 ((Below.refl _ w).alloc (Nat.le_refl _) _) (Nat.le_refl _), nodeP_box (heap_set6 (z := .nil) h0), by simp⟩
set_option maxRecDepth 100000 in
set_option maxHeartbeats 800000 in
theorem patParts_walk (x : Pt) (a : Option Addr) (m cap : Nat) (Z : Nat → Int) (w : World) (hX : IsP w x) (hok : POk x) (hsm : WdP x) (hZ : Ints .i64 w a m Z) (hm : m ≤ 9223372036854775807) :
    Calls Try.prog 4 #[x.val, .slice a m cap] w fun e w' => e = .returned (.bool true) ∧ Below w.heap.size w w' := by
  obtain ⟨A, hA, hB, hs, hn⟩ := boxP_one x w
  obtain ⟨a0, a1, a2, a3, a4, a5⟩ := hn.at0
  have HB : Hid (Below w.heap.size w A) := hB
  have NX : Hid (NodeP A w.heap.size 0 x) := hn
  have HX : Hid (IsP A x) := hX.later hB
  have HZ : Ints .i64 A a m Z := fun h0 => by
    obtain ⟨b, o, e, hc⟩ := hZ h0
    exact ⟨b, o, e, fun j hj => ⟨cell_later (hc j hj).1 hB, (hc j hj).2⟩⟩
  obtain ⟨ok, AT⟩ := at_both x a m cap Z A HX.out hsm HZ hm
  have W1 : Hid (∀ d, Calls Try.prog 7 #[] d fun e w' => e = .returned (.bool true) ∧ Below d.heap.size d w') := fun d => awake12_any d
  have HOK : Hid (POk x) := hok
  clear hB hn hX hsm hok hZ HZ hm
  go_enter Try.func4, Try.ntmps4
  go_upto_region 2 with (first
    | (go_at_call 11; refine AT.mono ?_; clear AT; rintro e w1 ⟨q, rfl, hq, hq1, hq2, hB1⟩; obtain ⟨C, W, hC, hCb, hCW, hCB, hCn, hCs⟩ := boxP_put q w1; obtain ⟨⟨g0, g1, g2, g3, g4, g5⟩, f0, f1, f2, f3, f4, f5⟩ := zero_cells hCb))
  try rw [hCW]
  have hxW : NodeP W w.heap.size 0 x := (NX.out.later hB1).later hCB
  have hBW : Below A.heap.size A W := hB1.trans (hCB.mono hB1.size)
  have hqW : IsP W q := hq.later hCB
  have hlt1 : w1.heap.size < W.heap.size := by rw [hCs]; omega
  clear hq g0 g1 g2 g3 g4 g5 f0 f1 f2 f3 f4 f5 hC hCb hCB hCs hCW NX a0 a1 a2 a3 a4 a5 hA
  obtain ⟨e0, e1, e2, e3, e4, e5⟩ := hxW.at0
  obtain ⟨z, hz⟩ : ∃ z, z = chkP x := ⟨_, rfl⟩
  have hck : Hid (∀ d, Below W.heap.size W d → Calls Try.prog 12 #[x.val] d fun e w' => e = .returned (.int .i64 z) ∧ Below d.heap.size d w') := fun d hd => by
    rw [hz]; exact checkPF_any x d (HX.out.later (hBW.trans (hd.mono hBW.size)))
  have HBW : Hid (Below A.heap.size A W) := hBW
  have NXW : Hid (NodeP W w.heap.size 0 x) := hxW
  have NQW : Hid (NodeP W w1.heap.size 0 q) := hCn
  have HQW : Hid (IsP W q) := hqW
  clear hxW hBW hqW hCn hB1
  by_cases hz0 : z = 0
  · subst hz0
    have HC : Hid (chkP x = 0) := hz.symm
    have HQ1 : Hid (ok = true → chkP q = 0) := fun h => hq1 h hz.symm
    have HS : Hid (x.size ≤ 1048576) := by have := (chkP_zero.1 HC.out).1; show _ ≤ _; omega
    obtain ⟨is, TL⟩ := tail_both x HS.out
    clear hq1 hq2 hz
    go_upto_region 5 with (first
      | (go_at_call 12; refine (hck.out W (Below.refl _ _)).mono ?_; clear hck; rintro e w2 ⟨rfl, hB2⟩; obtain ⟨k0, k1, k2, k3, k4, k5⟩ := (NXW.out.later hB2).at0)
      | (go_at_call 14; refine (TL w2 (HX.out.later (HBW.out.trans (hB2.mono HBW.out.size)))).mono ?_; clear TL; rintro e w3 ⟨t, rfl, ht6, hB3⟩; obtain ⟨C, V, hC, hCb, hCV, hCB, hCn, hCs⟩ := boxP_put t w3; obtain ⟨⟨g0, g1, g2, g3, g4, g5⟩, f0, f1, f2, f3, f4, f5⟩ := zero_cells hCb; clear k0 k1 k2 k3 k4 k5))
    try rw [hCV]
    have hWV : Below W.heap.size W V := (hB2.trans (hB3.mono hB2.size)).trans (hCB.mono (by have := hB2.size; have := hB3.size; omega))
    have HWV : Hid (Below A.heap.size A V) := HBW.out.trans (hWV.mono HBW.out.size)
    have NX2 : Hid (NodeP V w.heap.size 0 x) := NXW.out.later hWV
    have NT2 : Hid (NodeP V w3.heap.size 0 t) := hCn
    have hnq := NQW.out.later hWV
    have HQV : Hid (IsP V q) := HQW.out.later hWV
    clear hC hCb hCV hCB hCn hCs g0 g1 g2 g3 g4 g5 f0 f1 f2 f3 f4 f5 hB2 hB3 hWV e0 e1 e2 e3 e4 e5 hlt1 NXW NQW HQW HBW
    have hcq : Hid (ok = true → Calls Try.prog 12 #[q.val] V fun e w' => e = .returned (.int .i64 0) ∧ Below V.heap.size V w') := fun h => by
      have := checkPF_any q V HQV.out
      rw [HQ1.out h] at this
      exact this
    have HMD : Hid (∀ d, Below V.heap.size V d → Calls Try.prog 15 #[x.val] d fun e w' => ∃ z : Int, e = .returned (.int .i64 z) ∧ Hid ((z != 0) = true ∨ (z = 0 ∧ (x.k != 6) = true)) ∧ Below d.heap.size d w') := fun d hd => by
      refine (madeP_any x d (HX.out.later (HWV.out.trans (hd.mono HWV.out.size))) HS.out HOK.out).mono ?_
      rintro e w' ⟨z, rfl, h1, h2⟩
      exact ⟨z, rfl, made_six h1 HC.out, h2⟩
    obtain ⟨n0, n1, n2, n3, n4, n5⟩ := NX2.out.at0
    obtain ⟨m0, m1, m2, m3, m4, m5⟩ := hnq.at0
    obtain ⟨r0, r1, r2, r3, r4, r5⟩ := NT2.out.at0
    clear hnq HQ1 HC HQV r1 r2 r3 r4 r5
    cases ok with
    | true =>
      have hcq' := hcq.out rfl
      clear hcq
      cases is with
      | true =>
        have t6 := ht6 rfl
        go_wp2_with (first
          | (go_at_call 12; refine hcq'.mono ?_; clear hcq'; rintro e w5 ⟨rfl, hB5⟩; obtain ⟨p0, p1, p2, p3, p4, p5⟩ := (NX2.out.later hB5).at0; have s0 := (NT2.out.later hB5).at0.1)
          | (go_at_call 15; refine (HMD.out w5 hB5).mono ?_; clear HMD; rintro e w6 ⟨z2, rfl, hm, hB6⟩; have v0 := ((NX2.out.later hB5).later hB6).at0.1; rcases hm.out with hz2 | ⟨rfl, hk6⟩)
          | (go_at_call 7; refine (W1.out _).mono ?_; rintro e w7 ⟨rfl, hB7⟩))
        all_goals (go_ret; exact ⟨rfl, HB.out.trans ((HWV.out.trans ((hB5.trans ((hB6.trans (hB7.mono hB6.size)).mono hB5.size)).mono HWV.out.size)).mono (by omega))⟩)
      | false =>
        clear ht6
        go_wp2_with (first
          | (go_at_call 12; refine hcq'.mono ?_; clear hcq'; rintro e w5 ⟨rfl, hB5⟩; obtain ⟨p0, p1, p2, p3, p4, p5⟩ := (NX2.out.later hB5).at0)
          | (go_at_call 15; refine (HMD.out w5 hB5).mono ?_; clear HMD; rintro e w6 ⟨z2, rfl, hm, hB6⟩; have v0 := ((NX2.out.later hB5).later hB6).at0.1; rcases hm.out with hz2 | ⟨rfl, hk6⟩)
          | (go_at_call 7; refine (W1.out _).mono ?_; rintro e w7 ⟨rfl, hB7⟩))
        all_goals (go_ret; exact ⟨rfl, HB.out.trans ((HWV.out.trans ((hB5.trans ((hB6.trans (hB7.mono hB6.size)).mono hB5.size)).mono HWV.out.size)).mono (by omega))⟩)
    | false =>
      clear hcq
      cases is with
      | true =>
        have t6 := ht6 rfl
        go_wp2_with (first
          | (go_at_call 15; refine (HMD.out V (Below.refl _ _)).mono ?_; clear HMD; rintro e w6 ⟨z2, rfl, hm, hB6⟩; have v0 := (NX2.out.later hB6).at0.1; rcases hm.out with hz2 | ⟨rfl, hk6⟩)
          | (go_at_call 7; refine (W1.out _).mono ?_; rintro e w7 ⟨rfl, hB7⟩))
        all_goals (go_ret; exact ⟨rfl, HB.out.trans ((HWV.out.trans ((hB6.trans (hB7.mono hB6.size)).mono HWV.out.size)).mono (by omega))⟩)
      | false =>
        clear ht6
        go_wp2_with (first
          | (go_at_call 15; refine (HMD.out V (Below.refl _ _)).mono ?_; clear HMD; rintro e w6 ⟨z2, rfl, hm, hB6⟩; have v0 := (NX2.out.later hB6).at0.1; rcases hm.out with hz2 | ⟨rfl, hk6⟩)
          | (go_at_call 7; refine (W1.out _).mono ?_; rintro e w7 ⟨rfl, hB7⟩))
        all_goals (go_ret; exact ⟨rfl, HB.out.trans ((HWV.out.trans ((hB6.trans (hB7.mono hB6.size)).mono HWV.out.size)).mono (by omega))⟩)
  · have hne : (z != 0) = true := by simp [hz0]
    clear hz hz0 hq1
    cases ok with
    | true =>
      clear hq2
      go_wp2_with (first
        | (go_at_call 12; refine (hck.out W (Below.refl _ _)).mono ?_; clear hck; rintro e w2 ⟨rfl, hB2⟩)
        | (go_at_call 7; refine (W1.out _).mono ?_; clear W1; rintro e w3 ⟨rfl, hB3⟩))
      go_ret
      exact ⟨rfl, HB.out.trans ((HBW.out.trans ((hB2.trans (hB3.mono hB2.size)).mono HBW.out.size)).mono (by omega))⟩
    | false =>
      obtain rfl := hq2 rfl
      have hsm := fun d => samePat_any .nil .nil d (isP_nil d) (isP_nil d)
      go_wp2_with (first
        | (go_at_call 12; refine (hck.out W (Below.refl _ _)).mono ?_; clear hck; rintro e w2 ⟨rfl, hB2⟩; obtain ⟨k0, k1, k2, k3, k4, k5⟩ := (NQW.out.later hB2).at0)
        | (go_at_call 13; refine (hsm _).mono ?_; clear hsm; rintro e w3 ⟨rfl, hB3⟩)
        | (go_at_call 7; refine (W1.out _).mono ?_; clear W1; rintro e w4 ⟨rfl, hB4⟩))
      go_ret
      exact ⟨rfl, HB.out.trans ((HBW.out.trans ((hB2.trans ((hB3.trans (hB4.mono hB3.size)).mono hB2.size)).mono HBW.out.size)).mono (by omega))⟩
end Go.Proofs.Ytjclelmbpmlioaa
