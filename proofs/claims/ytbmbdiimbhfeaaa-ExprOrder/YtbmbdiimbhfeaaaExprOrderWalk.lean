/-
  ExprOrder's walk: of three conditions.
-/
import Derived.Test.YtbmbdiimbhfeaaaExprSame
import Derived.Deep.DeepCutAuto
namespace Go.Proofs.Ytbmbdiimbhfeaaa
open Go.RowKit

/-- Three conditions in boxes of their own. -/
theorem three_boxes (x y z : X) (w : World) : ∃ A, ((w.alloc (.cells x.cells 26)).alloc (.cells y.cells 26)).alloc (.cells z.cells 26) = A ∧ Below w.heap.size w A ∧ A.heap.size = w.heap.size + 3 ∧ Node A w.heap.size 0 x ∧ Node A (w.heap.size + 1) 0 y ∧ Node A (w.heap.size + 1 + 1) 0 z := by
  refine ⟨_, rfl, (((Below.refl _ w).alloc (Nat.le_refl _) _).alloc (by simp) _).alloc (by first | (simp; done) | (simp; omega)) _, by simp, (node_new w _ x).later (((Below.refl _ _).alloc (Nat.le_refl _) _).alloc (by simp) _), ?_, ?_⟩
  · have := (node_new (w.alloc (.cells x.cells 26)) 26 y).later ((Below.refl _ _).alloc (Nat.le_refl _) (.cells z.cells 26))
    rwa [World.size_alloc] at this
  · have := node_new ((w.alloc (.cells x.cells 26)).alloc (.cells y.cells 26)) 26 z
    rwa [World.size_alloc, World.size_alloc] at this
set_option maxRecDepth 100000 in
set_option maxHeartbeats 4000000 in
theorem exprOrder_nx (x y z : X) (w : World) (hX : IsX w x) (hY : IsX w y) (hZ : IsX w z) (hlx : decide (szZ x ≤ 400) = false) :
    Calls Try.prog 5 #[x.val, y.val, z.val] w fun e w' => e = .returned (.bool true) ∧ Below w.heap.size w w' := by
  obtain ⟨A, hA, hB, hs, hn, hm, ho⟩ := three_boxes x y z w
  have Na : Hid (Node A w.heap.size 0 x) := hn
  have Nb : Hid (Node A (w.heap.size + 1) 0 y) := hm
  have Nc : Hid (Node A (w.heap.size + 1 + 1) 0 z) := ho
  have HB : Hid (Below w.heap.size w A) := hB
  have xa : Hid (∀ d, Below A.heap.size A d → IsX d x) := fun d h => (hX.later hB).later h
  have ya : Hid (∀ d, Below A.heap.size A d → IsX d y) := fun d h => (hY.later hB).later h
  have za : Hid (∀ d, Below A.heap.size A d → IsX d z) := fun d h => (hZ.later hB).later h
  have hB0 : Below A.heap.size A A := Below.refl _ _
  have L1 : Hid (∀ d, Below A.heap.size A d → Calls Try.prog 7 #[x.val] d fun e w' => e = .returned (.bool false) ∧ Below d.heap.size d w') := fun d h => by have := light_any x d (xa.out d h); rw [hlx] at this; exact this
  have W1 : Hid (∀ d, Below A.heap.size A d → Calls Try.prog 8 #[] d fun e w' => e = .returned (.bool true) ∧ Below d.heap.size d w') := fun d h => by have := awake_any d; exact this
  clear hX hY hZ hB hn hm ho xa ya za hlx
  obtain ⟨a0, a1, a2, a3, a4, a5, a6⟩ := Na.out.at0
  go_enter Try.func5, Try.ntmps5
  go_wp2_with (first
    | (go_at_call 7
       refine (L1.out _ hB0).mono ?_
       clear L1
       rintro e w1 ⟨rfl, hN1⟩
       have hB1 := hB0.trans (hN1.mono hB0.size)
       clear hN1
       clear a0 a1 a2 a3 a4 a5 a6)
    | (go_at_call 8
       refine (W1.out _ hB1).mono ?_
       clear W1
       rintro e w2 ⟨rfl, hN2⟩
       have hB2 := hB1.trans (hN2.mono hB1.size)
       clear hN2))
  go_ret
  exact ⟨rfl, HB.out.trans (hB2.mono (by omega))⟩
set_option maxRecDepth 100000 in
set_option maxHeartbeats 4000000 in
theorem exprOrder_ny (x y z : X) (w : World) (hX : IsX w x) (hY : IsX w y) (hZ : IsX w z) (hlx : decide (szZ x ≤ 400) = true) (hly : decide (szZ y ≤ 400) = false) :
    Calls Try.prog 5 #[x.val, y.val, z.val] w fun e w' => e = .returned (.bool true) ∧ Below w.heap.size w w' := by
  obtain ⟨A, hA, hB, hs, hn, hm, ho⟩ := three_boxes x y z w
  have Na : Hid (Node A w.heap.size 0 x) := hn
  have Nb : Hid (Node A (w.heap.size + 1) 0 y) := hm
  have Nc : Hid (Node A (w.heap.size + 1 + 1) 0 z) := ho
  have HB : Hid (Below w.heap.size w A) := hB
  have xa : Hid (∀ d, Below A.heap.size A d → IsX d x) := fun d h => (hX.later hB).later h
  have ya : Hid (∀ d, Below A.heap.size A d → IsX d y) := fun d h => (hY.later hB).later h
  have za : Hid (∀ d, Below A.heap.size A d → IsX d z) := fun d h => (hZ.later hB).later h
  have hB0 : Below A.heap.size A A := Below.refl _ _
  have L1 : Hid (∀ d, Below A.heap.size A d → Calls Try.prog 7 #[x.val] d fun e w' => e = .returned (.bool true) ∧ Below d.heap.size d w') := fun d h => by have := light_any x d (xa.out d h); rw [hlx] at this; exact this
  have L2 : Hid (∀ d, Below A.heap.size A d → Calls Try.prog 7 #[y.val] d fun e w' => e = .returned (.bool false) ∧ Below d.heap.size d w') := fun d h => by have := light_any y d (ya.out d h); rw [hly] at this; exact this
  have W1 : Hid (∀ d, Below A.heap.size A d → Calls Try.prog 8 #[] d fun e w' => e = .returned (.bool true) ∧ Below d.heap.size d w') := fun d h => by have := awake_any d; exact this
  clear hX hY hZ hB hn hm ho xa ya za hlx hly
  obtain ⟨a0, a1, a2, a3, a4, a5, a6⟩ := Na.out.at0
  go_enter Try.func5, Try.ntmps5
  go_wp2_with (first
    | (go_at_call 7
       refine (L1.out _ hB0).mono ?_
       clear L1
       rintro e w1 ⟨rfl, hN1⟩
       have hB1 := hB0.trans (hN1.mono hB0.size)
       clear hN1
       clear a0 a1 a2 a3 a4 a5 a6
       obtain ⟨b0, b1, b2, b3, b4, b5, b6⟩ := (Nb.out.later hB1).at0)
    | (go_at_call 7
       refine (L2.out _ hB1).mono ?_
       clear L2
       rintro e w2 ⟨rfl, hN2⟩
       have hB2 := hB1.trans (hN2.mono hB1.size)
       clear hN2
       clear b0 b1 b2 b3 b4 b5 b6)
    | (go_at_call 8
       refine (W1.out _ hB2).mono ?_
       clear W1
       rintro e w3 ⟨rfl, hN3⟩
       have hB3 := hB2.trans (hN3.mono hB2.size)
       clear hN3))
  go_ret
  exact ⟨rfl, HB.out.trans (hB3.mono (by omega))⟩
set_option maxRecDepth 100000 in
set_option maxHeartbeats 4000000 in
theorem exprOrder_nz (x y z : X) (w : World) (hX : IsX w x) (hY : IsX w y) (hZ : IsX w z) (hlx : decide (szZ x ≤ 400) = true) (hly : decide (szZ y ≤ 400) = true) (hlz : decide (szZ z ≤ 400) = false) :
    Calls Try.prog 5 #[x.val, y.val, z.val] w fun e w' => e = .returned (.bool true) ∧ Below w.heap.size w w' := by
  obtain ⟨A, hA, hB, hs, hn, hm, ho⟩ := three_boxes x y z w
  have Na : Hid (Node A w.heap.size 0 x) := hn
  have Nb : Hid (Node A (w.heap.size + 1) 0 y) := hm
  have Nc : Hid (Node A (w.heap.size + 1 + 1) 0 z) := ho
  have HB : Hid (Below w.heap.size w A) := hB
  have xa : Hid (∀ d, Below A.heap.size A d → IsX d x) := fun d h => (hX.later hB).later h
  have ya : Hid (∀ d, Below A.heap.size A d → IsX d y) := fun d h => (hY.later hB).later h
  have za : Hid (∀ d, Below A.heap.size A d → IsX d z) := fun d h => (hZ.later hB).later h
  have hB0 : Below A.heap.size A A := Below.refl _ _
  have L1 : Hid (∀ d, Below A.heap.size A d → Calls Try.prog 7 #[x.val] d fun e w' => e = .returned (.bool true) ∧ Below d.heap.size d w') := fun d h => by have := light_any x d (xa.out d h); rw [hlx] at this; exact this
  have L2 : Hid (∀ d, Below A.heap.size A d → Calls Try.prog 7 #[y.val] d fun e w' => e = .returned (.bool true) ∧ Below d.heap.size d w') := fun d h => by have := light_any y d (ya.out d h); rw [hly] at this; exact this
  have L3 : Hid (∀ d, Below A.heap.size A d → Calls Try.prog 7 #[z.val] d fun e w' => e = .returned (.bool false) ∧ Below d.heap.size d w') := fun d h => by have := light_any z d (za.out d h); rw [hlz] at this; exact this
  have W1 : Hid (∀ d, Below A.heap.size A d → Calls Try.prog 8 #[] d fun e w' => e = .returned (.bool true) ∧ Below d.heap.size d w') := fun d h => by have := awake_any d; exact this
  clear hX hY hZ hB hn hm ho xa ya za hlx hly hlz
  obtain ⟨a0, a1, a2, a3, a4, a5, a6⟩ := Na.out.at0
  go_enter Try.func5, Try.ntmps5
  go_wp2_with (first
    | (go_at_call 7
       refine (L1.out _ hB0).mono ?_
       clear L1
       rintro e w1 ⟨rfl, hN1⟩
       have hB1 := hB0.trans (hN1.mono hB0.size)
       clear hN1
       clear a0 a1 a2 a3 a4 a5 a6
       obtain ⟨b0, b1, b2, b3, b4, b5, b6⟩ := (Nb.out.later hB1).at0)
    | (go_at_call 7
       refine (L2.out _ hB1).mono ?_
       clear L2
       rintro e w2 ⟨rfl, hN2⟩
       have hB2 := hB1.trans (hN2.mono hB1.size)
       clear hN2
       clear b0 b1 b2 b3 b4 b5 b6
       obtain ⟨c0, c1, c2, c3, c4, c5, c6⟩ := (Nc.out.later hB2).at0)
    | (go_at_call 7
       refine (L3.out _ hB2).mono ?_
       clear L3
       rintro e w3 ⟨rfl, hN3⟩
       have hB3 := hB2.trans (hN3.mono hB2.size)
       clear hN3
       clear c0 c1 c2 c3 c4 c5 c6)
    | (go_at_call 8
       refine (W1.out _ hB3).mono ?_
       clear W1
       rintro e w4 ⟨rfl, hN4⟩
       have hB4 := hB3.trans (hN4.mono hB3.size)
       clear hN4))
  go_ret
  exact ⟨rfl, HB.out.trans (hB4.mono (by omega))⟩
set_option maxRecDepth 100000 in
set_option maxHeartbeats 4000000 in
theorem exprOrder_gt (x y z : X) (w : World) (hX : IsX w x) (hY : IsX w y) (hZ : IsX w z) (hlx : decide (szZ x ≤ 400) = true) (hly : decide (szZ y ≤ 400) = true) (hlz : decide (szZ z ≤ 400) = true) (hp : ordX x y = 1) :
    Calls Try.prog 5 #[x.val, y.val, z.val] w fun e w' => e = .returned (.bool true) ∧ Below w.heap.size w w' := by
  obtain ⟨A, hA, hB, hs, hn, hm, ho⟩ := three_boxes x y z w
  have Na : Hid (Node A w.heap.size 0 x) := hn
  have Nb : Hid (Node A (w.heap.size + 1) 0 y) := hm
  have Nc : Hid (Node A (w.heap.size + 1 + 1) 0 z) := ho
  have HB : Hid (Below w.heap.size w A) := hB
  have xa : Hid (∀ d, Below A.heap.size A d → IsX d x) := fun d h => (hX.later hB).later h
  have ya : Hid (∀ d, Below A.heap.size A d → IsX d y) := fun d h => (hY.later hB).later h
  have za : Hid (∀ d, Below A.heap.size A d → IsX d z) := fun d h => (hZ.later hB).later h
  have hB0 : Below A.heap.size A A := Below.refl _ _
  have L1 : Hid (∀ d, Below A.heap.size A d → Calls Try.prog 7 #[x.val] d fun e w' => e = .returned (.bool true) ∧ Below d.heap.size d w') := fun d h => by have := light_any x d (xa.out d h); rw [hlx] at this; exact this
  have L2 : Hid (∀ d, Below A.heap.size A d → Calls Try.prog 7 #[y.val] d fun e w' => e = .returned (.bool true) ∧ Below d.heap.size d w') := fun d h => by have := light_any y d (ya.out d h); rw [hly] at this; exact this
  have L3 : Hid (∀ d, Below A.heap.size A d → Calls Try.prog 7 #[z.val] d fun e w' => e = .returned (.bool true) ∧ Below d.heap.size d w') := fun d h => by have := light_any z d (za.out d h); rw [hlz] at this; exact this
  have O1 : Hid (∀ d, Below A.heap.size A d → Calls Try.prog 17 #[x.val, y.val] d fun e w' => e = .returned (.int .i64 (1)) ∧ Below d.heap.size d w') := fun d h => by have := orderX_any x y d (xa.out d h) (ya.out d h); rw [hp] at this; exact this
  have O2 : Hid (∀ d, Below A.heap.size A d → Calls Try.prog 17 #[y.val, z.val] d fun e w' => e = .returned (.int .i64 (ordX y z)) ∧ Below d.heap.size d w') := fun d h => by have := orderX_any y z d (ya.out d h) (za.out d h); exact this
  have he : (ordX x y == 0) = false := by rw [hp]; rfl
  have S1 : Hid (∀ d, Below A.heap.size A d → Calls Try.prog 15 #[x.val, y.val] d fun e w' => e = .returned (.bool false) ∧ Below d.heap.size d w') := fun d h => by have := same_any x y d (xa.out d h) (ya.out d h); rw [he] at this; exact this
  have hm' : ordX y x = -1 := by rw [ordX_turn x y, hp]; try rfl
  have O3 : Hid (∀ d, Below A.heap.size A d → Calls Try.prog 17 #[y.val, x.val] d fun e w' => e = .returned (.int .i64 (-1)) ∧ Below d.heap.size d w') := fun d h => by have := orderX_any y x d (ya.out d h) (xa.out d h); rw [hm'] at this; exact this
  have hx0 : ordX x x = 0 := ordX_self x
  have O5 : Hid (∀ d, Below A.heap.size A d → Calls Try.prog 17 #[x.val, x.val] d fun e w' => e = .returned (.int .i64 0) ∧ Below d.heap.size d w') := fun d h => by have := orderX_any x x d (xa.out d h) (xa.out d h); rw [hx0] at this; exact this
  have W1 : Hid (∀ d, Below A.heap.size A d → Calls Try.prog 8 #[] d fun e w' => e = .returned (.bool true) ∧ Below d.heap.size d w') := fun d h => by have := awake_any d; exact this
  clear hX hY hZ hB hn hm ho xa ya za hlx hly hlz he hm' hx0 hp
  obtain ⟨a0, a1, a2, a3, a4, a5, a6⟩ := Na.out.at0
  go_enter Try.func5, Try.ntmps5
  go_wp2_with (first
    | (go_at_call 7
       refine (L1.out _ hB0).mono ?_
       clear L1
       rintro e w1 ⟨rfl, hN1⟩
       have hB1 := hB0.trans (hN1.mono hB0.size)
       clear hN1
       clear a0 a1 a2 a3 a4 a5 a6
       obtain ⟨b0, b1, b2, b3, b4, b5, b6⟩ := (Nb.out.later hB1).at0)
    | (go_at_call 7
       refine (L2.out _ hB1).mono ?_
       clear L2
       rintro e w2 ⟨rfl, hN2⟩
       have hB2 := hB1.trans (hN2.mono hB1.size)
       clear hN2
       clear b0 b1 b2 b3 b4 b5 b6
       obtain ⟨c0, c1, c2, c3, c4, c5, c6⟩ := (Nc.out.later hB2).at0)
    | (go_at_call 7
       refine (L3.out _ hB2).mono ?_
       clear L3
       rintro e w3 ⟨rfl, hN3⟩
       have hB3 := hB2.trans (hN3.mono hB2.size)
       clear hN3
       clear c0 c1 c2 c3 c4 c5 c6
       obtain ⟨a0, a1, a2, a3, a4, a5, a6⟩ := (Na.out.later hB3).at0
       obtain ⟨b0, b1, b2, b3, b4, b5, b6⟩ := (Nb.out.later hB3).at0)
    | (go_at_call 17
       refine (O1.out _ hB3).mono ?_
       clear O1
       rintro e w4 ⟨rfl, hN4⟩
       have hB4 := hB3.trans (hN4.mono hB3.size)
       clear hN4
       clear a0 a1 a2 a3 a4 a5 a6 b0 b1 b2 b3 b4 b5 b6
       obtain ⟨b0, b1, b2, b3, b4, b5, b6⟩ := (Nb.out.later hB4).at0
       obtain ⟨c0, c1, c2, c3, c4, c5, c6⟩ := (Nc.out.later hB4).at0)
    | (go_at_call 17
       refine (O2.out _ hB4).mono ?_
       clear O2
       rintro e w5 ⟨rfl, hN5⟩
       have hB5 := hB4.trans (hN5.mono hB4.size)
       clear hN5
       clear b0 b1 b2 b3 b4 b5 b6 c0 c1 c2 c3 c4 c5 c6
       obtain ⟨a0, a1, a2, a3, a4, a5, a6⟩ := (Na.out.later hB5).at0
       obtain ⟨b0, b1, b2, b3, b4, b5, b6⟩ := (Nb.out.later hB5).at0)
    | (go_at_call 15
       refine (S1.out _ hB5).mono ?_
       clear S1
       rintro e w6 ⟨rfl, hN6⟩
       have hB6 := hB5.trans (hN6.mono hB5.size)
       clear hN6
       clear a0 a1 a2 a3 a4 a5 a6 b0 b1 b2 b3 b4 b5 b6
       obtain ⟨b0, b1, b2, b3, b4, b5, b6⟩ := (Nb.out.later hB6).at0
       obtain ⟨a0, a1, a2, a3, a4, a5, a6⟩ := (Na.out.later hB6).at0)
    | (go_at_call 17
       refine (O3.out _ hB6).mono ?_
       clear O3
       rintro e w7 ⟨rfl, hN7⟩
       have hB7 := hB6.trans (hN7.mono hB6.size)
       clear hN7
       clear b0 b1 b2 b3 b4 b5 b6 a0 a1 a2 a3 a4 a5 a6
       obtain ⟨a0, a1, a2, a3, a4, a5, a6⟩ := (Na.out.later hB7).at0)
    | (go_at_call 17
       refine (O5.out _ hB7).mono ?_
       clear O5
       rintro e w8 ⟨rfl, hN8⟩
       have hB8 := hB7.trans (hN8.mono hB7.size)
       clear hN8
       clear a0 a1 a2 a3 a4 a5 a6)
    | (go_at_call 8
       refine (W1.out _ hB8).mono ?_
       clear W1
       rintro e w9 ⟨rfl, hN9⟩
       have hB9 := hB8.trans (hN9.mono hB8.size)
       clear hN9))
  go_ret
  exact ⟨rfl, HB.out.trans (hB9.mono (by omega))⟩
set_option maxRecDepth 100000 in
set_option maxHeartbeats 4000000 in
theorem exprOrder_eq_pos (x y z : X) (w : World) (hX : IsX w x) (hY : IsX w y) (hZ : IsX w z) (hlx : decide (szZ x ≤ 400) = true) (hly : decide (szZ y ≤ 400) = true) (hlz : decide (szZ z ≤ 400) = true) (hp : ordX x y = 0) (q : Int) (hq : ordX y z = q) (hq0 : 0 < q) :
    Calls Try.prog 5 #[x.val, y.val, z.val] w fun e w' => e = .returned (.bool true) ∧ Below w.heap.size w w' := by
  obtain ⟨A, hA, hB, hs, hn, hm, ho⟩ := three_boxes x y z w
  have Na : Hid (Node A w.heap.size 0 x) := hn
  have Nb : Hid (Node A (w.heap.size + 1) 0 y) := hm
  have Nc : Hid (Node A (w.heap.size + 1 + 1) 0 z) := ho
  have HB : Hid (Below w.heap.size w A) := hB
  have xa : Hid (∀ d, Below A.heap.size A d → IsX d x) := fun d h => (hX.later hB).later h
  have ya : Hid (∀ d, Below A.heap.size A d → IsX d y) := fun d h => (hY.later hB).later h
  have za : Hid (∀ d, Below A.heap.size A d → IsX d z) := fun d h => (hZ.later hB).later h
  have hB0 : Below A.heap.size A A := Below.refl _ _
  have L1 : Hid (∀ d, Below A.heap.size A d → Calls Try.prog 7 #[x.val] d fun e w' => e = .returned (.bool true) ∧ Below d.heap.size d w') := fun d h => by have := light_any x d (xa.out d h); rw [hlx] at this; exact this
  have L2 : Hid (∀ d, Below A.heap.size A d → Calls Try.prog 7 #[y.val] d fun e w' => e = .returned (.bool true) ∧ Below d.heap.size d w') := fun d h => by have := light_any y d (ya.out d h); rw [hly] at this; exact this
  have L3 : Hid (∀ d, Below A.heap.size A d → Calls Try.prog 7 #[z.val] d fun e w' => e = .returned (.bool true) ∧ Below d.heap.size d w') := fun d h => by have := light_any z d (za.out d h); rw [hlz] at this; exact this
  have O1 : Hid (∀ d, Below A.heap.size A d → Calls Try.prog 17 #[x.val, y.val] d fun e w' => e = .returned (.int .i64 (0)) ∧ Below d.heap.size d w') := fun d h => by have := orderX_any x y d (xa.out d h) (ya.out d h); rw [hp] at this; exact this
  have O2 : Hid (∀ d, Below A.heap.size A d → Calls Try.prog 17 #[y.val, z.val] d fun e w' => e = .returned (.int .i64 q) ∧ Below d.heap.size d w') := fun d h => by have := orderX_any y z d (ya.out d h) (za.out d h); rw [hq] at this; exact this
  have he : (ordX x y == 0) = true := by rw [hp]; rfl
  have S1 : Hid (∀ d, Below A.heap.size A d → Calls Try.prog 15 #[x.val, y.val] d fun e w' => e = .returned (.bool true) ∧ Below d.heap.size d w') := fun d h => by have := same_any x y d (xa.out d h) (ya.out d h); rw [he] at this; exact this
  have hm' : ordX y x = 0 := by rw [ordX_turn x y, hp]; try rfl
  have O3 : Hid (∀ d, Below A.heap.size A d → Calls Try.prog 17 #[y.val, x.val] d fun e w' => e = .returned (.int .i64 (0)) ∧ Below d.heap.size d w') := fun d h => by have := orderX_any y x d (ya.out d h) (xa.out d h); rw [hm'] at this; exact this
  have hx0 : ordX x x = 0 := ordX_self x
  have O5 : Hid (∀ d, Below A.heap.size A d → Calls Try.prog 17 #[x.val, x.val] d fun e w' => e = .returned (.int .i64 0) ∧ Below d.heap.size d w') := fun d h => by have := orderX_any x x d (xa.out d h) (xa.out d h); rw [hx0] at this; exact this
  have W1 : Hid (∀ d, Below A.heap.size A d → Calls Try.prog 8 #[] d fun e w' => e = .returned (.bool true) ∧ Below d.heap.size d w') := fun d h => by have := awake_any d; exact this
  clear hX hY hZ hB hn hm ho xa ya za hlx hly hlz he hm' hx0 hp hq
  obtain ⟨a0, a1, a2, a3, a4, a5, a6⟩ := Na.out.at0
  go_enter Try.func5, Try.ntmps5
  go_wp2_with (first
    | (go_at_call 7
       refine (L1.out _ hB0).mono ?_
       clear L1
       rintro e w1 ⟨rfl, hN1⟩
       have hB1 := hB0.trans (hN1.mono hB0.size)
       clear hN1
       clear a0 a1 a2 a3 a4 a5 a6
       obtain ⟨b0, b1, b2, b3, b4, b5, b6⟩ := (Nb.out.later hB1).at0)
    | (go_at_call 7
       refine (L2.out _ hB1).mono ?_
       clear L2
       rintro e w2 ⟨rfl, hN2⟩
       have hB2 := hB1.trans (hN2.mono hB1.size)
       clear hN2
       clear b0 b1 b2 b3 b4 b5 b6
       obtain ⟨c0, c1, c2, c3, c4, c5, c6⟩ := (Nc.out.later hB2).at0)
    | (go_at_call 7
       refine (L3.out _ hB2).mono ?_
       clear L3
       rintro e w3 ⟨rfl, hN3⟩
       have hB3 := hB2.trans (hN3.mono hB2.size)
       clear hN3
       clear c0 c1 c2 c3 c4 c5 c6
       obtain ⟨a0, a1, a2, a3, a4, a5, a6⟩ := (Na.out.later hB3).at0
       obtain ⟨b0, b1, b2, b3, b4, b5, b6⟩ := (Nb.out.later hB3).at0)
    | (go_at_call 17
       refine (O1.out _ hB3).mono ?_
       clear O1
       rintro e w4 ⟨rfl, hN4⟩
       have hB4 := hB3.trans (hN4.mono hB3.size)
       clear hN4
       clear a0 a1 a2 a3 a4 a5 a6 b0 b1 b2 b3 b4 b5 b6
       obtain ⟨b0, b1, b2, b3, b4, b5, b6⟩ := (Nb.out.later hB4).at0
       obtain ⟨c0, c1, c2, c3, c4, c5, c6⟩ := (Nc.out.later hB4).at0)
    | (go_at_call 17
       refine (O2.out _ hB4).mono ?_
       clear O2
       rintro e w5 ⟨rfl, hN5⟩
       have hB5 := hB4.trans (hN5.mono hB4.size)
       clear hN5
       clear b0 b1 b2 b3 b4 b5 b6 c0 c1 c2 c3 c4 c5 c6
       obtain ⟨a0, a1, a2, a3, a4, a5, a6⟩ := (Na.out.later hB5).at0
       obtain ⟨b0, b1, b2, b3, b4, b5, b6⟩ := (Nb.out.later hB5).at0)
    | (go_at_call 15
       refine (S1.out _ hB5).mono ?_
       clear S1
       rintro e w6 ⟨rfl, hN6⟩
       have hB6 := hB5.trans (hN6.mono hB5.size)
       clear hN6
       clear a0 a1 a2 a3 a4 a5 a6 b0 b1 b2 b3 b4 b5 b6
       obtain ⟨b0, b1, b2, b3, b4, b5, b6⟩ := (Nb.out.later hB6).at0
       obtain ⟨a0, a1, a2, a3, a4, a5, a6⟩ := (Na.out.later hB6).at0)
    | (go_at_call 17
       refine (O3.out _ hB6).mono ?_
       clear O3
       rintro e w7 ⟨rfl, hN7⟩
       have hB7 := hB6.trans (hN7.mono hB6.size)
       clear hN7
       clear b0 b1 b2 b3 b4 b5 b6 a0 a1 a2 a3 a4 a5 a6
       obtain ⟨a0, a1, a2, a3, a4, a5, a6⟩ := (Na.out.later hB7).at0)
    | (go_at_call 17
       refine (O5.out _ hB7).mono ?_
       clear O5
       rintro e w8 ⟨rfl, hN8⟩
       have hB8 := hB7.trans (hN8.mono hB7.size)
       clear hN8
       clear a0 a1 a2 a3 a4 a5 a6)
    | (go_at_call 8
       refine (W1.out _ hB8).mono ?_
       clear W1
       rintro e w9 ⟨rfl, hN9⟩
       have hB9 := hB8.trans (hN9.mono hB8.size)
       clear hN9))
  go_ret
  exact ⟨rfl, HB.out.trans (hB9.mono (by omega))⟩
set_option maxRecDepth 100000 in
set_option maxHeartbeats 4000000 in
theorem exprOrder_eq_not (x y z : X) (w : World) (hX : IsX w x) (hY : IsX w y) (hZ : IsX w z) (hlx : decide (szZ x ≤ 400) = true) (hly : decide (szZ y ≤ 400) = true) (hlz : decide (szZ z ≤ 400) = true) (hp : ordX x y = 0) (q : Int) (hq : ordX y z = q) (hq0 : ¬ 0 < q) :
    Calls Try.prog 5 #[x.val, y.val, z.val] w fun e w' => e = .returned (.bool true) ∧ Below w.heap.size w w' := by
  obtain ⟨A, hA, hB, hs, hn, hm, ho⟩ := three_boxes x y z w
  have Na : Hid (Node A w.heap.size 0 x) := hn
  have Nb : Hid (Node A (w.heap.size + 1) 0 y) := hm
  have Nc : Hid (Node A (w.heap.size + 1 + 1) 0 z) := ho
  have HB : Hid (Below w.heap.size w A) := hB
  have xa : Hid (∀ d, Below A.heap.size A d → IsX d x) := fun d h => (hX.later hB).later h
  have ya : Hid (∀ d, Below A.heap.size A d → IsX d y) := fun d h => (hY.later hB).later h
  have za : Hid (∀ d, Below A.heap.size A d → IsX d z) := fun d h => (hZ.later hB).later h
  have hB0 : Below A.heap.size A A := Below.refl _ _
  have L1 : Hid (∀ d, Below A.heap.size A d → Calls Try.prog 7 #[x.val] d fun e w' => e = .returned (.bool true) ∧ Below d.heap.size d w') := fun d h => by have := light_any x d (xa.out d h); rw [hlx] at this; exact this
  have L2 : Hid (∀ d, Below A.heap.size A d → Calls Try.prog 7 #[y.val] d fun e w' => e = .returned (.bool true) ∧ Below d.heap.size d w') := fun d h => by have := light_any y d (ya.out d h); rw [hly] at this; exact this
  have L3 : Hid (∀ d, Below A.heap.size A d → Calls Try.prog 7 #[z.val] d fun e w' => e = .returned (.bool true) ∧ Below d.heap.size d w') := fun d h => by have := light_any z d (za.out d h); rw [hlz] at this; exact this
  have O1 : Hid (∀ d, Below A.heap.size A d → Calls Try.prog 17 #[x.val, y.val] d fun e w' => e = .returned (.int .i64 (0)) ∧ Below d.heap.size d w') := fun d h => by have := orderX_any x y d (xa.out d h) (ya.out d h); rw [hp] at this; exact this
  have O2 : Hid (∀ d, Below A.heap.size A d → Calls Try.prog 17 #[y.val, z.val] d fun e w' => e = .returned (.int .i64 q) ∧ Below d.heap.size d w') := fun d h => by have := orderX_any y z d (ya.out d h) (za.out d h); rw [hq] at this; exact this
  have he : (ordX x y == 0) = true := by rw [hp]; rfl
  have S1 : Hid (∀ d, Below A.heap.size A d → Calls Try.prog 15 #[x.val, y.val] d fun e w' => e = .returned (.bool true) ∧ Below d.heap.size d w') := fun d h => by have := same_any x y d (xa.out d h) (ya.out d h); rw [he] at this; exact this
  have hm' : ordX y x = 0 := by rw [ordX_turn x y, hp]; try rfl
  have O3 : Hid (∀ d, Below A.heap.size A d → Calls Try.prog 17 #[y.val, x.val] d fun e w' => e = .returned (.int .i64 (0)) ∧ Below d.heap.size d w') := fun d h => by have := orderX_any y x d (ya.out d h) (xa.out d h); rw [hm'] at this; exact this
  have hr : ¬ 0 < ordX x z := by have := ordX_trans (x := x) (y := y) (z := z) (by omega) (by omega); omega
  obtain ⟨r, hr'⟩ : ∃ r, ordX x z = r := ⟨_, rfl⟩
  rw [hr'] at hr
  have hr0 : r ≤ 0 := by omega
  clear hr
  have O4 : Hid (∀ d, Below A.heap.size A d → Calls Try.prog 17 #[x.val, z.val] d fun e w' => e = .returned (.int .i64 r) ∧ Below d.heap.size d w') := fun d h => by have := orderX_any x z d (xa.out d h) (za.out d h); rw [hr'] at this; exact this
  have hx0 : ordX x x = 0 := ordX_self x
  have O5 : Hid (∀ d, Below A.heap.size A d → Calls Try.prog 17 #[x.val, x.val] d fun e w' => e = .returned (.int .i64 0) ∧ Below d.heap.size d w') := fun d h => by have := orderX_any x x d (xa.out d h) (xa.out d h); rw [hx0] at this; exact this
  have W1 : Hid (∀ d, Below A.heap.size A d → Calls Try.prog 8 #[] d fun e w' => e = .returned (.bool true) ∧ Below d.heap.size d w') := fun d h => by have := awake_any d; exact this
  clear hX hY hZ hB hn hm ho xa ya za hlx hly hlz he hm' hx0 hp hr' hq
  obtain ⟨a0, a1, a2, a3, a4, a5, a6⟩ := Na.out.at0
  go_enter Try.func5, Try.ntmps5
  go_wp2_with (first
    | (go_at_call 7
       refine (L1.out _ hB0).mono ?_
       clear L1
       rintro e w1 ⟨rfl, hN1⟩
       have hB1 := hB0.trans (hN1.mono hB0.size)
       clear hN1
       clear a0 a1 a2 a3 a4 a5 a6
       obtain ⟨b0, b1, b2, b3, b4, b5, b6⟩ := (Nb.out.later hB1).at0)
    | (go_at_call 7
       refine (L2.out _ hB1).mono ?_
       clear L2
       rintro e w2 ⟨rfl, hN2⟩
       have hB2 := hB1.trans (hN2.mono hB1.size)
       clear hN2
       clear b0 b1 b2 b3 b4 b5 b6
       obtain ⟨c0, c1, c2, c3, c4, c5, c6⟩ := (Nc.out.later hB2).at0)
    | (go_at_call 7
       refine (L3.out _ hB2).mono ?_
       clear L3
       rintro e w3 ⟨rfl, hN3⟩
       have hB3 := hB2.trans (hN3.mono hB2.size)
       clear hN3
       clear c0 c1 c2 c3 c4 c5 c6
       obtain ⟨a0, a1, a2, a3, a4, a5, a6⟩ := (Na.out.later hB3).at0
       obtain ⟨b0, b1, b2, b3, b4, b5, b6⟩ := (Nb.out.later hB3).at0)
    | (go_at_call 17
       refine (O1.out _ hB3).mono ?_
       clear O1
       rintro e w4 ⟨rfl, hN4⟩
       have hB4 := hB3.trans (hN4.mono hB3.size)
       clear hN4
       clear a0 a1 a2 a3 a4 a5 a6 b0 b1 b2 b3 b4 b5 b6
       obtain ⟨b0, b1, b2, b3, b4, b5, b6⟩ := (Nb.out.later hB4).at0
       obtain ⟨c0, c1, c2, c3, c4, c5, c6⟩ := (Nc.out.later hB4).at0)
    | (go_at_call 17
       refine (O2.out _ hB4).mono ?_
       clear O2
       rintro e w5 ⟨rfl, hN5⟩
       have hB5 := hB4.trans (hN5.mono hB4.size)
       clear hN5
       clear b0 b1 b2 b3 b4 b5 b6 c0 c1 c2 c3 c4 c5 c6
       obtain ⟨a0, a1, a2, a3, a4, a5, a6⟩ := (Na.out.later hB5).at0
       obtain ⟨b0, b1, b2, b3, b4, b5, b6⟩ := (Nb.out.later hB5).at0)
    | (go_at_call 15
       refine (S1.out _ hB5).mono ?_
       clear S1
       rintro e w6 ⟨rfl, hN6⟩
       have hB6 := hB5.trans (hN6.mono hB5.size)
       clear hN6
       clear a0 a1 a2 a3 a4 a5 a6 b0 b1 b2 b3 b4 b5 b6
       obtain ⟨b0, b1, b2, b3, b4, b5, b6⟩ := (Nb.out.later hB6).at0
       obtain ⟨a0, a1, a2, a3, a4, a5, a6⟩ := (Na.out.later hB6).at0)
    | (go_at_call 17
       refine (O3.out _ hB6).mono ?_
       clear O3
       rintro e w7 ⟨rfl, hN7⟩
       have hB7 := hB6.trans (hN7.mono hB6.size)
       clear hN7
       clear b0 b1 b2 b3 b4 b5 b6 a0 a1 a2 a3 a4 a5 a6
       obtain ⟨a0, a1, a2, a3, a4, a5, a6⟩ := (Na.out.later hB7).at0
       obtain ⟨c0, c1, c2, c3, c4, c5, c6⟩ := (Nc.out.later hB7).at0)
    | (go_at_call 17
       refine (O4.out _ hB7).mono ?_
       clear O4
       rintro e w8 ⟨rfl, hN8⟩
       have hB8 := hB7.trans (hN8.mono hB7.size)
       clear hN8
       clear a0 a1 a2 a3 a4 a5 a6 c0 c1 c2 c3 c4 c5 c6
       obtain ⟨a0, a1, a2, a3, a4, a5, a6⟩ := (Na.out.later hB8).at0)
    | (go_at_call 17
       refine (O5.out _ hB8).mono ?_
       clear O5
       rintro e w9 ⟨rfl, hN9⟩
       have hB9 := hB8.trans (hN9.mono hB8.size)
       clear hN9
       clear a0 a1 a2 a3 a4 a5 a6)
    | (go_at_call 8
       refine (W1.out _ hB9).mono ?_
       clear W1
       rintro e w10 ⟨rfl, hN10⟩
       have hB10 := hB9.trans (hN10.mono hB9.size)
       clear hN10))
  go_ret
  exact ⟨rfl, HB.out.trans (hB10.mono (by omega))⟩
set_option maxRecDepth 100000 in
set_option maxHeartbeats 4000000 in
theorem exprOrder_lt_pos (x y z : X) (w : World) (hX : IsX w x) (hY : IsX w y) (hZ : IsX w z) (hlx : decide (szZ x ≤ 400) = true) (hly : decide (szZ y ≤ 400) = true) (hlz : decide (szZ z ≤ 400) = true) (hp : ordX x y = -1) (q : Int) (hq : ordX y z = q) (hq0 : 0 < q) :
    Calls Try.prog 5 #[x.val, y.val, z.val] w fun e w' => e = .returned (.bool true) ∧ Below w.heap.size w w' := by
  obtain ⟨A, hA, hB, hs, hn, hm, ho⟩ := three_boxes x y z w
  have Na : Hid (Node A w.heap.size 0 x) := hn
  have Nb : Hid (Node A (w.heap.size + 1) 0 y) := hm
  have Nc : Hid (Node A (w.heap.size + 1 + 1) 0 z) := ho
  have HB : Hid (Below w.heap.size w A) := hB
  have xa : Hid (∀ d, Below A.heap.size A d → IsX d x) := fun d h => (hX.later hB).later h
  have ya : Hid (∀ d, Below A.heap.size A d → IsX d y) := fun d h => (hY.later hB).later h
  have za : Hid (∀ d, Below A.heap.size A d → IsX d z) := fun d h => (hZ.later hB).later h
  have hB0 : Below A.heap.size A A := Below.refl _ _
  have L1 : Hid (∀ d, Below A.heap.size A d → Calls Try.prog 7 #[x.val] d fun e w' => e = .returned (.bool true) ∧ Below d.heap.size d w') := fun d h => by have := light_any x d (xa.out d h); rw [hlx] at this; exact this
  have L2 : Hid (∀ d, Below A.heap.size A d → Calls Try.prog 7 #[y.val] d fun e w' => e = .returned (.bool true) ∧ Below d.heap.size d w') := fun d h => by have := light_any y d (ya.out d h); rw [hly] at this; exact this
  have L3 : Hid (∀ d, Below A.heap.size A d → Calls Try.prog 7 #[z.val] d fun e w' => e = .returned (.bool true) ∧ Below d.heap.size d w') := fun d h => by have := light_any z d (za.out d h); rw [hlz] at this; exact this
  have O1 : Hid (∀ d, Below A.heap.size A d → Calls Try.prog 17 #[x.val, y.val] d fun e w' => e = .returned (.int .i64 (-1)) ∧ Below d.heap.size d w') := fun d h => by have := orderX_any x y d (xa.out d h) (ya.out d h); rw [hp] at this; exact this
  have O2 : Hid (∀ d, Below A.heap.size A d → Calls Try.prog 17 #[y.val, z.val] d fun e w' => e = .returned (.int .i64 q) ∧ Below d.heap.size d w') := fun d h => by have := orderX_any y z d (ya.out d h) (za.out d h); rw [hq] at this; exact this
  have he : (ordX x y == 0) = false := by rw [hp]; rfl
  have S1 : Hid (∀ d, Below A.heap.size A d → Calls Try.prog 15 #[x.val, y.val] d fun e w' => e = .returned (.bool false) ∧ Below d.heap.size d w') := fun d h => by have := same_any x y d (xa.out d h) (ya.out d h); rw [he] at this; exact this
  have hm' : ordX y x = 1 := by rw [ordX_turn x y, hp]; try rfl
  have O3 : Hid (∀ d, Below A.heap.size A d → Calls Try.prog 17 #[y.val, x.val] d fun e w' => e = .returned (.int .i64 (1)) ∧ Below d.heap.size d w') := fun d h => by have := orderX_any y x d (ya.out d h) (xa.out d h); rw [hm'] at this; exact this
  have hx0 : ordX x x = 0 := ordX_self x
  have O5 : Hid (∀ d, Below A.heap.size A d → Calls Try.prog 17 #[x.val, x.val] d fun e w' => e = .returned (.int .i64 0) ∧ Below d.heap.size d w') := fun d h => by have := orderX_any x x d (xa.out d h) (xa.out d h); rw [hx0] at this; exact this
  have W1 : Hid (∀ d, Below A.heap.size A d → Calls Try.prog 8 #[] d fun e w' => e = .returned (.bool true) ∧ Below d.heap.size d w') := fun d h => by have := awake_any d; exact this
  clear hX hY hZ hB hn hm ho xa ya za hlx hly hlz he hm' hx0 hp hq
  obtain ⟨a0, a1, a2, a3, a4, a5, a6⟩ := Na.out.at0
  go_enter Try.func5, Try.ntmps5
  go_wp2_with (first
    | (go_at_call 7
       refine (L1.out _ hB0).mono ?_
       clear L1
       rintro e w1 ⟨rfl, hN1⟩
       have hB1 := hB0.trans (hN1.mono hB0.size)
       clear hN1
       clear a0 a1 a2 a3 a4 a5 a6
       obtain ⟨b0, b1, b2, b3, b4, b5, b6⟩ := (Nb.out.later hB1).at0)
    | (go_at_call 7
       refine (L2.out _ hB1).mono ?_
       clear L2
       rintro e w2 ⟨rfl, hN2⟩
       have hB2 := hB1.trans (hN2.mono hB1.size)
       clear hN2
       clear b0 b1 b2 b3 b4 b5 b6
       obtain ⟨c0, c1, c2, c3, c4, c5, c6⟩ := (Nc.out.later hB2).at0)
    | (go_at_call 7
       refine (L3.out _ hB2).mono ?_
       clear L3
       rintro e w3 ⟨rfl, hN3⟩
       have hB3 := hB2.trans (hN3.mono hB2.size)
       clear hN3
       clear c0 c1 c2 c3 c4 c5 c6
       obtain ⟨a0, a1, a2, a3, a4, a5, a6⟩ := (Na.out.later hB3).at0
       obtain ⟨b0, b1, b2, b3, b4, b5, b6⟩ := (Nb.out.later hB3).at0)
    | (go_at_call 17
       refine (O1.out _ hB3).mono ?_
       clear O1
       rintro e w4 ⟨rfl, hN4⟩
       have hB4 := hB3.trans (hN4.mono hB3.size)
       clear hN4
       clear a0 a1 a2 a3 a4 a5 a6 b0 b1 b2 b3 b4 b5 b6
       obtain ⟨b0, b1, b2, b3, b4, b5, b6⟩ := (Nb.out.later hB4).at0
       obtain ⟨c0, c1, c2, c3, c4, c5, c6⟩ := (Nc.out.later hB4).at0)
    | (go_at_call 17
       refine (O2.out _ hB4).mono ?_
       clear O2
       rintro e w5 ⟨rfl, hN5⟩
       have hB5 := hB4.trans (hN5.mono hB4.size)
       clear hN5
       clear b0 b1 b2 b3 b4 b5 b6 c0 c1 c2 c3 c4 c5 c6
       obtain ⟨a0, a1, a2, a3, a4, a5, a6⟩ := (Na.out.later hB5).at0
       obtain ⟨b0, b1, b2, b3, b4, b5, b6⟩ := (Nb.out.later hB5).at0)
    | (go_at_call 15
       refine (S1.out _ hB5).mono ?_
       clear S1
       rintro e w6 ⟨rfl, hN6⟩
       have hB6 := hB5.trans (hN6.mono hB5.size)
       clear hN6
       clear a0 a1 a2 a3 a4 a5 a6 b0 b1 b2 b3 b4 b5 b6
       obtain ⟨b0, b1, b2, b3, b4, b5, b6⟩ := (Nb.out.later hB6).at0
       obtain ⟨a0, a1, a2, a3, a4, a5, a6⟩ := (Na.out.later hB6).at0)
    | (go_at_call 17
       refine (O3.out _ hB6).mono ?_
       clear O3
       rintro e w7 ⟨rfl, hN7⟩
       have hB7 := hB6.trans (hN7.mono hB6.size)
       clear hN7
       clear b0 b1 b2 b3 b4 b5 b6 a0 a1 a2 a3 a4 a5 a6
       obtain ⟨a0, a1, a2, a3, a4, a5, a6⟩ := (Na.out.later hB7).at0)
    | (go_at_call 17
       refine (O5.out _ hB7).mono ?_
       clear O5
       rintro e w8 ⟨rfl, hN8⟩
       have hB8 := hB7.trans (hN8.mono hB7.size)
       clear hN8
       clear a0 a1 a2 a3 a4 a5 a6)
    | (go_at_call 8
       refine (W1.out _ hB8).mono ?_
       clear W1
       rintro e w9 ⟨rfl, hN9⟩
       have hB9 := hB8.trans (hN9.mono hB8.size)
       clear hN9))
  go_ret
  exact ⟨rfl, HB.out.trans (hB9.mono (by omega))⟩
set_option maxRecDepth 100000 in
set_option maxHeartbeats 4000000 in
theorem exprOrder_lt_not (x y z : X) (w : World) (hX : IsX w x) (hY : IsX w y) (hZ : IsX w z) (hlx : decide (szZ x ≤ 400) = true) (hly : decide (szZ y ≤ 400) = true) (hlz : decide (szZ z ≤ 400) = true) (hp : ordX x y = -1) (q : Int) (hq : ordX y z = q) (hq0 : ¬ 0 < q) :
    Calls Try.prog 5 #[x.val, y.val, z.val] w fun e w' => e = .returned (.bool true) ∧ Below w.heap.size w w' := by
  obtain ⟨A, hA, hB, hs, hn, hm, ho⟩ := three_boxes x y z w
  have Na : Hid (Node A w.heap.size 0 x) := hn
  have Nb : Hid (Node A (w.heap.size + 1) 0 y) := hm
  have Nc : Hid (Node A (w.heap.size + 1 + 1) 0 z) := ho
  have HB : Hid (Below w.heap.size w A) := hB
  have xa : Hid (∀ d, Below A.heap.size A d → IsX d x) := fun d h => (hX.later hB).later h
  have ya : Hid (∀ d, Below A.heap.size A d → IsX d y) := fun d h => (hY.later hB).later h
  have za : Hid (∀ d, Below A.heap.size A d → IsX d z) := fun d h => (hZ.later hB).later h
  have hB0 : Below A.heap.size A A := Below.refl _ _
  have L1 : Hid (∀ d, Below A.heap.size A d → Calls Try.prog 7 #[x.val] d fun e w' => e = .returned (.bool true) ∧ Below d.heap.size d w') := fun d h => by have := light_any x d (xa.out d h); rw [hlx] at this; exact this
  have L2 : Hid (∀ d, Below A.heap.size A d → Calls Try.prog 7 #[y.val] d fun e w' => e = .returned (.bool true) ∧ Below d.heap.size d w') := fun d h => by have := light_any y d (ya.out d h); rw [hly] at this; exact this
  have L3 : Hid (∀ d, Below A.heap.size A d → Calls Try.prog 7 #[z.val] d fun e w' => e = .returned (.bool true) ∧ Below d.heap.size d w') := fun d h => by have := light_any z d (za.out d h); rw [hlz] at this; exact this
  have O1 : Hid (∀ d, Below A.heap.size A d → Calls Try.prog 17 #[x.val, y.val] d fun e w' => e = .returned (.int .i64 (-1)) ∧ Below d.heap.size d w') := fun d h => by have := orderX_any x y d (xa.out d h) (ya.out d h); rw [hp] at this; exact this
  have O2 : Hid (∀ d, Below A.heap.size A d → Calls Try.prog 17 #[y.val, z.val] d fun e w' => e = .returned (.int .i64 q) ∧ Below d.heap.size d w') := fun d h => by have := orderX_any y z d (ya.out d h) (za.out d h); rw [hq] at this; exact this
  have he : (ordX x y == 0) = false := by rw [hp]; rfl
  have S1 : Hid (∀ d, Below A.heap.size A d → Calls Try.prog 15 #[x.val, y.val] d fun e w' => e = .returned (.bool false) ∧ Below d.heap.size d w') := fun d h => by have := same_any x y d (xa.out d h) (ya.out d h); rw [he] at this; exact this
  have hm' : ordX y x = 1 := by rw [ordX_turn x y, hp]; try rfl
  have O3 : Hid (∀ d, Below A.heap.size A d → Calls Try.prog 17 #[y.val, x.val] d fun e w' => e = .returned (.int .i64 (1)) ∧ Below d.heap.size d w') := fun d h => by have := orderX_any y x d (ya.out d h) (xa.out d h); rw [hm'] at this; exact this
  have hr : ¬ 0 < ordX x z := by have := ordX_trans (x := x) (y := y) (z := z) (by omega) (by omega); omega
  obtain ⟨r, hr'⟩ : ∃ r, ordX x z = r := ⟨_, rfl⟩
  rw [hr'] at hr
  have hr0 : r ≤ 0 := by omega
  clear hr
  have O4 : Hid (∀ d, Below A.heap.size A d → Calls Try.prog 17 #[x.val, z.val] d fun e w' => e = .returned (.int .i64 r) ∧ Below d.heap.size d w') := fun d h => by have := orderX_any x z d (xa.out d h) (za.out d h); rw [hr'] at this; exact this
  have hx0 : ordX x x = 0 := ordX_self x
  have O5 : Hid (∀ d, Below A.heap.size A d → Calls Try.prog 17 #[x.val, x.val] d fun e w' => e = .returned (.int .i64 0) ∧ Below d.heap.size d w') := fun d h => by have := orderX_any x x d (xa.out d h) (xa.out d h); rw [hx0] at this; exact this
  have W1 : Hid (∀ d, Below A.heap.size A d → Calls Try.prog 8 #[] d fun e w' => e = .returned (.bool true) ∧ Below d.heap.size d w') := fun d h => by have := awake_any d; exact this
  clear hX hY hZ hB hn hm ho xa ya za hlx hly hlz he hm' hx0 hp hr' hq
  obtain ⟨a0, a1, a2, a3, a4, a5, a6⟩ := Na.out.at0
  go_enter Try.func5, Try.ntmps5
  go_wp2_with (first
    | (go_at_call 7
       refine (L1.out _ hB0).mono ?_
       clear L1
       rintro e w1 ⟨rfl, hN1⟩
       have hB1 := hB0.trans (hN1.mono hB0.size)
       clear hN1
       clear a0 a1 a2 a3 a4 a5 a6
       obtain ⟨b0, b1, b2, b3, b4, b5, b6⟩ := (Nb.out.later hB1).at0)
    | (go_at_call 7
       refine (L2.out _ hB1).mono ?_
       clear L2
       rintro e w2 ⟨rfl, hN2⟩
       have hB2 := hB1.trans (hN2.mono hB1.size)
       clear hN2
       clear b0 b1 b2 b3 b4 b5 b6
       obtain ⟨c0, c1, c2, c3, c4, c5, c6⟩ := (Nc.out.later hB2).at0)
    | (go_at_call 7
       refine (L3.out _ hB2).mono ?_
       clear L3
       rintro e w3 ⟨rfl, hN3⟩
       have hB3 := hB2.trans (hN3.mono hB2.size)
       clear hN3
       clear c0 c1 c2 c3 c4 c5 c6
       obtain ⟨a0, a1, a2, a3, a4, a5, a6⟩ := (Na.out.later hB3).at0
       obtain ⟨b0, b1, b2, b3, b4, b5, b6⟩ := (Nb.out.later hB3).at0)
    | (go_at_call 17
       refine (O1.out _ hB3).mono ?_
       clear O1
       rintro e w4 ⟨rfl, hN4⟩
       have hB4 := hB3.trans (hN4.mono hB3.size)
       clear hN4
       clear a0 a1 a2 a3 a4 a5 a6 b0 b1 b2 b3 b4 b5 b6
       obtain ⟨b0, b1, b2, b3, b4, b5, b6⟩ := (Nb.out.later hB4).at0
       obtain ⟨c0, c1, c2, c3, c4, c5, c6⟩ := (Nc.out.later hB4).at0)
    | (go_at_call 17
       refine (O2.out _ hB4).mono ?_
       clear O2
       rintro e w5 ⟨rfl, hN5⟩
       have hB5 := hB4.trans (hN5.mono hB4.size)
       clear hN5
       clear b0 b1 b2 b3 b4 b5 b6 c0 c1 c2 c3 c4 c5 c6
       obtain ⟨a0, a1, a2, a3, a4, a5, a6⟩ := (Na.out.later hB5).at0
       obtain ⟨b0, b1, b2, b3, b4, b5, b6⟩ := (Nb.out.later hB5).at0)
    | (go_at_call 15
       refine (S1.out _ hB5).mono ?_
       clear S1
       rintro e w6 ⟨rfl, hN6⟩
       have hB6 := hB5.trans (hN6.mono hB5.size)
       clear hN6
       clear a0 a1 a2 a3 a4 a5 a6 b0 b1 b2 b3 b4 b5 b6
       obtain ⟨b0, b1, b2, b3, b4, b5, b6⟩ := (Nb.out.later hB6).at0
       obtain ⟨a0, a1, a2, a3, a4, a5, a6⟩ := (Na.out.later hB6).at0)
    | (go_at_call 17
       refine (O3.out _ hB6).mono ?_
       clear O3
       rintro e w7 ⟨rfl, hN7⟩
       have hB7 := hB6.trans (hN7.mono hB6.size)
       clear hN7
       clear b0 b1 b2 b3 b4 b5 b6 a0 a1 a2 a3 a4 a5 a6
       obtain ⟨a0, a1, a2, a3, a4, a5, a6⟩ := (Na.out.later hB7).at0
       obtain ⟨c0, c1, c2, c3, c4, c5, c6⟩ := (Nc.out.later hB7).at0)
    | (go_at_call 17
       refine (O4.out _ hB7).mono ?_
       clear O4
       rintro e w8 ⟨rfl, hN8⟩
       have hB8 := hB7.trans (hN8.mono hB7.size)
       clear hN8
       clear a0 a1 a2 a3 a4 a5 a6 c0 c1 c2 c3 c4 c5 c6
       obtain ⟨a0, a1, a2, a3, a4, a5, a6⟩ := (Na.out.later hB8).at0)
    | (go_at_call 17
       refine (O5.out _ hB8).mono ?_
       clear O5
       rintro e w9 ⟨rfl, hN9⟩
       have hB9 := hB8.trans (hN9.mono hB8.size)
       clear hN9
       clear a0 a1 a2 a3 a4 a5 a6)
    | (go_at_call 8
       refine (W1.out _ hB9).mono ?_
       clear W1
       rintro e w10 ⟨rfl, hN10⟩
       have hB10 := hB9.trans (hN10.mono hB9.size)
       clear hN10))
  go_ret
  exact ⟨rfl, HB.out.trans (hB10.mono (by omega))⟩
theorem exprOrder_walk (x y z : X) (w : World) (hX : IsX w x) (hY : IsX w y) (hZ : IsX w z) :
    Calls Try.prog 5 #[x.val, y.val, z.val] w fun e w' => e = .returned (.bool true) ∧ Below w.heap.size w w' := by
  cases hlx : decide (szZ x ≤ 400) with
  | false => exact exprOrder_nx x y z w hX hY hZ hlx
  | true =>
    cases hly : decide (szZ y ≤ 400) with
    | false => exact exprOrder_ny x y z w hX hY hZ hlx hly
    | true =>
      cases hlz : decide (szZ z ≤ 400) with
      | false => exact exprOrder_nz x y z w hX hY hZ hlx hly hlz
      | true =>
        rcases ordX_one x y with hp | hp | hp
        · by_cases hq : 0 < ordX y z
          · exact exprOrder_lt_pos x y z w hX hY hZ hlx hly hlz hp _ rfl hq
          · exact exprOrder_lt_not x y z w hX hY hZ hlx hly hlz hp _ rfl hq
        · by_cases hq : 0 < ordX y z
          · exact exprOrder_eq_pos x y z w hX hY hZ hlx hly hlz hp _ rfl hq
          · exact exprOrder_eq_not x y z w hX hY hZ hlx hly hlz hp _ rfl hq
        · exact exprOrder_gt x y z w hX hY hZ hlx hly hlz hp
end Go.Proofs.Ytbmbdiimbhfeaaa
