/-
  ValueOrder's walk: of three values.
-/
import Derived.Test.YtabhjmfacgbbgaaValOrderMath
import Derived.Deep.DeepCutAuto
namespace Go.Proofs.Ytabhjmfacgbbgaa
open Go.RowKit

theorem field_k (k n : Int) (s : ByteArray) (w : World) : (Instr.field 30 (.agg #[.int .i64 k, .int .i64 n, .string s]) 0).run Try.prog w = .ok (.int .i64 k) w := rfl
set_option maxHeartbeats 1000000 in
/-- The law's own 'awake' answers true. -/
theorem awake_any (w : World) : Calls Try.prog 12 #[] w fun e w' => e = .returned (.bool true) ∧ Below w.heap.size w w' := by
  have hr : rightB 3 0 ⟨#[97]⟩ = true := by decide +kernel
  have C : Hid (∀ w, Calls Try.prog 21 #[.string ⟨#[97]⟩] w fun e w' => e = .returned (.agg #[.int .i64 3, .int .i64 0, .string ⟨#[97]⟩]) ∧ w' = w.alloc (valO 3 0 ⟨#[97]⟩)) := fun w => text_short ⟨#[97]⟩ w (by decide)
  have C2 : Hid (∀ w, Calls Try.prog 7 #[valV 3 0 ⟨#[97]⟩] w fun e w' => e = .returned (.bool true) ∧ Below w.heap.size w w') := fun w => by have := right_any 3 0 ⟨#[97]⟩ w; rwa [hr] at this
  have hf := field_k 3 0 ⟨#[97]⟩
  clear hr
  go_enter Try.func12, Try.ntmps12
  go_wp2_with (first
    | (go_at_call 21; refine (C.out _).mono ?_; rintro e w1 ⟨rfl, rfl⟩)
    | (go_at_call 7; refine (C2.out _).mono ?_; rintro e w2 ⟨rfl, hB2⟩))
  go_ret
  have hB1 : Below w.heap.size w (w.alloc (valO 3 0 ⟨#[97]⟩)) := (Below.refl _ w).alloc (Nat.le_refl _) _
  have hB3 := hB1.trans (hB2.mono hB1.size)
  exact ⟨rfl, hB3.alloc hB3.size _⟩

/-- The three cells of a value that lies at block b. -/
def At (w : World) (b : Nat) (k n : Int) (s : ByteArray) : Prop := w.cell? ⟨b, 0, none⟩ = some (.int .i64 k) ∧ w.cell? ⟨b, 1, none⟩ = some (.int .i64 n) ∧ w.cell? ⟨b, 2, none⟩ = some (.string s)
theorem At.later {w w' : World} {b : Nat} {k n : Int} {s : ByteArray} (h : At w b k n s) (hB : Below w.heap.size w w') : At w' b k n s := ⟨cell_later h.1 hB, cell_later h.2.1 hB, cell_later h.2.2 hB⟩

theorem three_a (w : World) (k n : Int) (s : ByteArray) (o p : Obj) : At (((w.alloc (valO k n s)).alloc o).alloc p) w.heap.size k n s := by
  refine ⟨?_, ?_, ?_⟩ <;> rw [World.cell?_alloc_past _ _ _ (by simp; omega), World.cell?_alloc_past _ _ _ (by simp), World.cell?_alloc_at _ _ _ _ rfl] <;> rfl
theorem three_b (w : World) (o : Obj) (k n : Int) (s : ByteArray) (p : Obj) : At (((w.alloc o).alloc (valO k n s)).alloc p) (w.heap.size + 1) k n s := by
  refine ⟨?_, ?_, ?_⟩ <;> rw [World.cell?_alloc_past _ _ _ (by simp), World.cell?_alloc_at _ _ _ _ (by simp)] <;> rfl
theorem three_c (w : World) (o p : Obj) (k n : Int) (s : ByteArray) : At (((w.alloc o).alloc p).alloc (valO k n s)) (w.heap.size + 2) k n s := by
  refine ⟨?_, ?_, ?_⟩ <;> rw [World.cell?_alloc_at _ _ _ _ (by simp)] <;> rfl

set_option maxRecDepth 100000 in
set_option maxHeartbeats 2000000 in
theorem order_e0_0_pos (k n : Int) (s s' : ByteArray) (k2 n2 : Int) (s2 : ByteArray) (y : Int) (w : World) (hs : (s.toList == s'.toList) = true) (h1 : ordZ k n s k n s' = 0) (h2 : ordZ k n s' k2 n2 s2 = y) (h3 : ordZ k n s' k n s = 0) (hy : 0 < y) :
    Calls Try.prog 4 #[valV k n s, valV k n s', valV k2 n2 s2] w fun e w' => e = .returned (.bool true) ∧ Below w.heap.size w w' := by
  have C1 : Hid (∀ w, Calls Try.prog 14 #[valV k n s, valV k n s'] w fun e w' => e = .returned (.int .i64 0) ∧ Below w.heap.size w w') := fun w => by have := order_any k n s k n s' w; rwa [h1] at this
  have C2 : Hid (∀ w, Calls Try.prog 14 #[valV k n s', valV k2 n2 s2] w fun e w' => e = .returned (.int .i64 y) ∧ Below w.heap.size w w') := fun w => by have := order_any k n s' k2 n2 s2 w; rwa [h2] at this
  have C3 : Hid (∀ w, Calls Try.prog 14 #[valV k n s', valV k n s] w fun e w' => e = .returned (.int .i64 0) ∧ Below w.heap.size w w') := fun w => by have := order_any k n s' k n s w; rwa [h3] at this
  clear h1 h2 h3
  have hW0 : Below w.heap.size w (((w.alloc (valO k n s)).alloc (valO k n s')).alloc (valO k2 n2 s2)) := (((Below.refl _ w).alloc (Nat.le_refl _) _).alloc (by simp) _).alloc (by simp; omega) _
  have A1 : Hid (At (((w.alloc (valO k n s)).alloc (valO k n s')).alloc (valO k2 n2 s2)) w.heap.size k n s) := three_a w k n s _ _
  have A2 : Hid (At (((w.alloc (valO k n s)).alloc (valO k n s')).alloc (valO k2 n2 s2)) (w.heap.size + 1) k n s') := three_b w _ k n s' _
  have A3 : Hid (At (((w.alloc (valO k n s)).alloc (valO k n s')).alloc (valO k2 n2 s2)) (w.heap.size + 2) k2 n2 s2) := three_c w _ _ k2 n2 s2
  go_enter Try.func4, Try.ntmps4
  go_upto_region 1 with fail
  generalize ((w.alloc (valO k n s)).alloc (valO k n s')).alloc (valO k2 n2 s2) = W at hW0 A1 A2 A3 ⊢
  obtain ⟨a0, a1, a2⟩ := A1.out
  obtain ⟨b0, b1, b2⟩ := A2.out
  go_wp2_with (first
    | (go_at_call 14
       refine (C1.out _).mono ?_
       clear C1
       rintro e w1 ⟨rfl, hB1⟩
       clear a0 a1 a2 b0 b1 b2
       obtain ⟨b0, b1, b2⟩ := A2.out.later hB1
       obtain ⟨c0, c1, c2⟩ := A3.out.later hB1)
    | (go_at_call 14
       refine (C2.out _).mono ?_
       clear C2
       rintro e w2 ⟨rfl, hB2⟩
       clear b0 b1 b2 c0 c1 c2
       have hB3 := hB1.trans (hB2.mono hB1.size)
       obtain ⟨a0, a1, a2⟩ := A1.out.later hB3
       obtain ⟨b0, b1, b2⟩ := A2.out.later hB3)
    | (go_at_call 14
       refine (C3.out _).mono ?_
       clear C3
       rintro e w3 ⟨rfl, hB4⟩
       clear a0 a1 a2 b0 b1 b2
       have hB5 := hB3.trans (hB4.mono hB3.size)
       obtain ⟨a0, a1, a2⟩ := A1.out.later hB5
       obtain ⟨c0, c1, c2⟩ := A3.out.later hB5)
    | (go_at_call 12
       refine (awake_any _).mono ?_
       rintro e w8 ⟨rfl, hB8⟩))
  go_ret
  have hB9 := hB5.trans (hB8.mono hB5.size)
  exact ⟨rfl, hW0.trans (hB9.mono hW0.size)⟩
set_option maxRecDepth 100000 in
set_option maxHeartbeats 2000000 in
theorem order_e0_0_not (k n : Int) (s s' : ByteArray) (k2 n2 : Int) (s2 : ByteArray) (y z : Int) (w : World) (hs : (s.toList == s'.toList) = true) (h1 : ordZ k n s k n s' = 0) (h2 : ordZ k n s' k2 n2 s2 = y) (h3 : ordZ k n s' k n s = 0) (hy : ¬ 0 < y) (h4 : ordZ k n s k2 n2 s2 = z) (hz : z ≤ 0) :
    Calls Try.prog 4 #[valV k n s, valV k n s', valV k2 n2 s2] w fun e w' => e = .returned (.bool true) ∧ Below w.heap.size w w' := by
  have C1 : Hid (∀ w, Calls Try.prog 14 #[valV k n s, valV k n s'] w fun e w' => e = .returned (.int .i64 0) ∧ Below w.heap.size w w') := fun w => by have := order_any k n s k n s' w; rwa [h1] at this
  have C2 : Hid (∀ w, Calls Try.prog 14 #[valV k n s', valV k2 n2 s2] w fun e w' => e = .returned (.int .i64 y) ∧ Below w.heap.size w w') := fun w => by have := order_any k n s' k2 n2 s2 w; rwa [h2] at this
  have C3 : Hid (∀ w, Calls Try.prog 14 #[valV k n s', valV k n s] w fun e w' => e = .returned (.int .i64 0) ∧ Below w.heap.size w w') := fun w => by have := order_any k n s' k n s w; rwa [h3] at this
  have C4 : Hid (∀ w, Calls Try.prog 14 #[valV k n s, valV k2 n2 s2] w fun e w' => e = .returned (.int .i64 z) ∧ Below w.heap.size w w') := fun w => by have := order_any k n s k2 n2 s2 w; rwa [h4] at this
  clear h1 h2 h3 h4
  have hW0 : Below w.heap.size w (((w.alloc (valO k n s)).alloc (valO k n s')).alloc (valO k2 n2 s2)) := (((Below.refl _ w).alloc (Nat.le_refl _) _).alloc (by simp) _).alloc (by simp; omega) _
  have A1 : Hid (At (((w.alloc (valO k n s)).alloc (valO k n s')).alloc (valO k2 n2 s2)) w.heap.size k n s) := three_a w k n s _ _
  have A2 : Hid (At (((w.alloc (valO k n s)).alloc (valO k n s')).alloc (valO k2 n2 s2)) (w.heap.size + 1) k n s') := three_b w _ k n s' _
  have A3 : Hid (At (((w.alloc (valO k n s)).alloc (valO k n s')).alloc (valO k2 n2 s2)) (w.heap.size + 2) k2 n2 s2) := three_c w _ _ k2 n2 s2
  go_enter Try.func4, Try.ntmps4
  go_upto_region 1 with fail
  generalize ((w.alloc (valO k n s)).alloc (valO k n s')).alloc (valO k2 n2 s2) = W at hW0 A1 A2 A3 ⊢
  obtain ⟨a0, a1, a2⟩ := A1.out
  obtain ⟨b0, b1, b2⟩ := A2.out
  go_wp2_with (first
    | (go_at_call 14
       refine (C1.out _).mono ?_
       clear C1
       rintro e w1 ⟨rfl, hB1⟩
       clear a0 a1 a2 b0 b1 b2
       obtain ⟨b0, b1, b2⟩ := A2.out.later hB1
       obtain ⟨c0, c1, c2⟩ := A3.out.later hB1)
    | (go_at_call 14
       refine (C2.out _).mono ?_
       clear C2
       rintro e w2 ⟨rfl, hB2⟩
       clear b0 b1 b2 c0 c1 c2
       have hB3 := hB1.trans (hB2.mono hB1.size)
       obtain ⟨a0, a1, a2⟩ := A1.out.later hB3
       obtain ⟨b0, b1, b2⟩ := A2.out.later hB3)
    | (go_at_call 14
       refine (C3.out _).mono ?_
       clear C3
       rintro e w3 ⟨rfl, hB4⟩
       clear a0 a1 a2 b0 b1 b2
       have hB5 := hB3.trans (hB4.mono hB3.size)
       obtain ⟨a0, a1, a2⟩ := A1.out.later hB5
       obtain ⟨c0, c1, c2⟩ := A3.out.later hB5)
    | (go_at_call 14
       refine (C4.out _).mono ?_
       clear C4
       rintro e w4 ⟨rfl, hB6⟩
       have hB7 := hB5.trans (hB6.mono hB5.size))
    | (go_at_call 12
       refine (awake_any _).mono ?_
       rintro e w8 ⟨rfl, hB8⟩))
  go_ret
  have hB9 := hB7.trans (hB8.mono hB7.size)
  exact ⟨rfl, hW0.trans (hB9.mono hW0.size)⟩
set_option maxRecDepth 100000 in
set_option maxHeartbeats 2000000 in
theorem order_e1_m1_pos (k n : Int) (s : ByteArray) (k' n' : Int) (s' : ByteArray) (k2 n2 : Int) (s2 : ByteArray) (y : Int) (w : World) (hk : (k == k') = false) (h1 : ordZ k n s k' n' s' = (-1)) (h2 : ordZ k' n' s' k2 n2 s2 = y) (h3 : ordZ k' n' s' k n s = 1) (hy : 0 < y) :
    Calls Try.prog 4 #[valV k n s, valV k' n' s', valV k2 n2 s2] w fun e w' => e = .returned (.bool true) ∧ Below w.heap.size w w' := by
  have C1 : Hid (∀ w, Calls Try.prog 14 #[valV k n s, valV k' n' s'] w fun e w' => e = .returned (.int .i64 (-1)) ∧ Below w.heap.size w w') := fun w => by have := order_any k n s k' n' s' w; rwa [h1] at this
  have C2 : Hid (∀ w, Calls Try.prog 14 #[valV k' n' s', valV k2 n2 s2] w fun e w' => e = .returned (.int .i64 y) ∧ Below w.heap.size w w') := fun w => by have := order_any k' n' s' k2 n2 s2 w; rwa [h2] at this
  have C3 : Hid (∀ w, Calls Try.prog 14 #[valV k' n' s', valV k n s] w fun e w' => e = .returned (.int .i64 1) ∧ Below w.heap.size w w') := fun w => by have := order_any k' n' s' k n s w; rwa [h3] at this
  clear h1 h2 h3
  have hW0 : Below w.heap.size w (((w.alloc (valO k n s)).alloc (valO k' n' s')).alloc (valO k2 n2 s2)) := (((Below.refl _ w).alloc (Nat.le_refl _) _).alloc (by simp) _).alloc (by simp; omega) _
  have A1 : Hid (At (((w.alloc (valO k n s)).alloc (valO k' n' s')).alloc (valO k2 n2 s2)) w.heap.size k n s) := three_a w k n s _ _
  have A2 : Hid (At (((w.alloc (valO k n s)).alloc (valO k' n' s')).alloc (valO k2 n2 s2)) (w.heap.size + 1) k' n' s') := three_b w _ k' n' s' _
  have A3 : Hid (At (((w.alloc (valO k n s)).alloc (valO k' n' s')).alloc (valO k2 n2 s2)) (w.heap.size + 2) k2 n2 s2) := three_c w _ _ k2 n2 s2
  go_enter Try.func4, Try.ntmps4
  go_upto_region 1 with fail
  generalize ((w.alloc (valO k n s)).alloc (valO k' n' s')).alloc (valO k2 n2 s2) = W at hW0 A1 A2 A3 ⊢
  obtain ⟨a0, a1, a2⟩ := A1.out
  obtain ⟨b0, b1, b2⟩ := A2.out
  go_wp2_with (first
    | (go_at_call 14
       refine (C1.out _).mono ?_
       clear C1
       rintro e w1 ⟨rfl, hB1⟩
       clear a0 a1 a2 b0 b1 b2
       obtain ⟨b0, b1, b2⟩ := A2.out.later hB1
       obtain ⟨c0, c1, c2⟩ := A3.out.later hB1)
    | (go_at_call 14
       refine (C2.out _).mono ?_
       clear C2
       rintro e w2 ⟨rfl, hB2⟩
       clear b0 b1 b2 c0 c1 c2
       have hB3 := hB1.trans (hB2.mono hB1.size)
       obtain ⟨a0, a1, a2⟩ := A1.out.later hB3
       obtain ⟨b0, b1, b2⟩ := A2.out.later hB3)
    | (go_at_call 14
       refine (C3.out _).mono ?_
       clear C3
       rintro e w3 ⟨rfl, hB4⟩
       clear a0 a1 a2 b0 b1 b2
       have hB5 := hB3.trans (hB4.mono hB3.size)
       obtain ⟨a0, a1, a2⟩ := A1.out.later hB5
       obtain ⟨c0, c1, c2⟩ := A3.out.later hB5)
    | (go_at_call 12
       refine (awake_any _).mono ?_
       rintro e w8 ⟨rfl, hB8⟩))
  go_ret
  have hB9 := hB5.trans (hB8.mono hB5.size)
  exact ⟨rfl, hW0.trans (hB9.mono hW0.size)⟩
set_option maxRecDepth 100000 in
set_option maxHeartbeats 2000000 in
theorem order_e1_m1_not (k n : Int) (s : ByteArray) (k' n' : Int) (s' : ByteArray) (k2 n2 : Int) (s2 : ByteArray) (y z : Int) (w : World) (hk : (k == k') = false) (h1 : ordZ k n s k' n' s' = (-1)) (h2 : ordZ k' n' s' k2 n2 s2 = y) (h3 : ordZ k' n' s' k n s = 1) (hy : ¬ 0 < y) (h4 : ordZ k n s k2 n2 s2 = z) (hz : z ≤ 0) :
    Calls Try.prog 4 #[valV k n s, valV k' n' s', valV k2 n2 s2] w fun e w' => e = .returned (.bool true) ∧ Below w.heap.size w w' := by
  have C1 : Hid (∀ w, Calls Try.prog 14 #[valV k n s, valV k' n' s'] w fun e w' => e = .returned (.int .i64 (-1)) ∧ Below w.heap.size w w') := fun w => by have := order_any k n s k' n' s' w; rwa [h1] at this
  have C2 : Hid (∀ w, Calls Try.prog 14 #[valV k' n' s', valV k2 n2 s2] w fun e w' => e = .returned (.int .i64 y) ∧ Below w.heap.size w w') := fun w => by have := order_any k' n' s' k2 n2 s2 w; rwa [h2] at this
  have C3 : Hid (∀ w, Calls Try.prog 14 #[valV k' n' s', valV k n s] w fun e w' => e = .returned (.int .i64 1) ∧ Below w.heap.size w w') := fun w => by have := order_any k' n' s' k n s w; rwa [h3] at this
  have C4 : Hid (∀ w, Calls Try.prog 14 #[valV k n s, valV k2 n2 s2] w fun e w' => e = .returned (.int .i64 z) ∧ Below w.heap.size w w') := fun w => by have := order_any k n s k2 n2 s2 w; rwa [h4] at this
  clear h1 h2 h3 h4
  have hW0 : Below w.heap.size w (((w.alloc (valO k n s)).alloc (valO k' n' s')).alloc (valO k2 n2 s2)) := (((Below.refl _ w).alloc (Nat.le_refl _) _).alloc (by simp) _).alloc (by simp; omega) _
  have A1 : Hid (At (((w.alloc (valO k n s)).alloc (valO k' n' s')).alloc (valO k2 n2 s2)) w.heap.size k n s) := three_a w k n s _ _
  have A2 : Hid (At (((w.alloc (valO k n s)).alloc (valO k' n' s')).alloc (valO k2 n2 s2)) (w.heap.size + 1) k' n' s') := three_b w _ k' n' s' _
  have A3 : Hid (At (((w.alloc (valO k n s)).alloc (valO k' n' s')).alloc (valO k2 n2 s2)) (w.heap.size + 2) k2 n2 s2) := three_c w _ _ k2 n2 s2
  go_enter Try.func4, Try.ntmps4
  go_upto_region 1 with fail
  generalize ((w.alloc (valO k n s)).alloc (valO k' n' s')).alloc (valO k2 n2 s2) = W at hW0 A1 A2 A3 ⊢
  obtain ⟨a0, a1, a2⟩ := A1.out
  obtain ⟨b0, b1, b2⟩ := A2.out
  go_wp2_with (first
    | (go_at_call 14
       refine (C1.out _).mono ?_
       clear C1
       rintro e w1 ⟨rfl, hB1⟩
       clear a0 a1 a2 b0 b1 b2
       obtain ⟨b0, b1, b2⟩ := A2.out.later hB1
       obtain ⟨c0, c1, c2⟩ := A3.out.later hB1)
    | (go_at_call 14
       refine (C2.out _).mono ?_
       clear C2
       rintro e w2 ⟨rfl, hB2⟩
       clear b0 b1 b2 c0 c1 c2
       have hB3 := hB1.trans (hB2.mono hB1.size)
       obtain ⟨a0, a1, a2⟩ := A1.out.later hB3
       obtain ⟨b0, b1, b2⟩ := A2.out.later hB3)
    | (go_at_call 14
       refine (C3.out _).mono ?_
       clear C3
       rintro e w3 ⟨rfl, hB4⟩
       clear a0 a1 a2 b0 b1 b2
       have hB5 := hB3.trans (hB4.mono hB3.size)
       obtain ⟨a0, a1, a2⟩ := A1.out.later hB5
       obtain ⟨c0, c1, c2⟩ := A3.out.later hB5)
    | (go_at_call 14
       refine (C4.out _).mono ?_
       clear C4
       rintro e w4 ⟨rfl, hB6⟩
       have hB7 := hB5.trans (hB6.mono hB5.size))
    | (go_at_call 12
       refine (awake_any _).mono ?_
       rintro e w8 ⟨rfl, hB8⟩))
  go_ret
  have hB9 := hB7.trans (hB8.mono hB7.size)
  exact ⟨rfl, hW0.trans (hB9.mono hW0.size)⟩
set_option maxRecDepth 100000 in
set_option maxHeartbeats 2000000 in
theorem order_e1_1_any (k n : Int) (s : ByteArray) (k' n' : Int) (s' : ByteArray) (k2 n2 : Int) (s2 : ByteArray) (y : Int) (w : World) (hk : (k == k') = false) (h1 : ordZ k n s k' n' s' = 1) (h2 : ordZ k' n' s' k2 n2 s2 = y) (h3 : ordZ k' n' s' k n s = (-1))  :
    Calls Try.prog 4 #[valV k n s, valV k' n' s', valV k2 n2 s2] w fun e w' => e = .returned (.bool true) ∧ Below w.heap.size w w' := by
  have C1 : Hid (∀ w, Calls Try.prog 14 #[valV k n s, valV k' n' s'] w fun e w' => e = .returned (.int .i64 1) ∧ Below w.heap.size w w') := fun w => by have := order_any k n s k' n' s' w; rwa [h1] at this
  have C2 : Hid (∀ w, Calls Try.prog 14 #[valV k' n' s', valV k2 n2 s2] w fun e w' => e = .returned (.int .i64 y) ∧ Below w.heap.size w w') := fun w => by have := order_any k' n' s' k2 n2 s2 w; rwa [h2] at this
  have C3 : Hid (∀ w, Calls Try.prog 14 #[valV k' n' s', valV k n s] w fun e w' => e = .returned (.int .i64 (-1)) ∧ Below w.heap.size w w') := fun w => by have := order_any k' n' s' k n s w; rwa [h3] at this
  clear h1 h2 h3
  have hW0 : Below w.heap.size w (((w.alloc (valO k n s)).alloc (valO k' n' s')).alloc (valO k2 n2 s2)) := (((Below.refl _ w).alloc (Nat.le_refl _) _).alloc (by simp) _).alloc (by simp; omega) _
  have A1 : Hid (At (((w.alloc (valO k n s)).alloc (valO k' n' s')).alloc (valO k2 n2 s2)) w.heap.size k n s) := three_a w k n s _ _
  have A2 : Hid (At (((w.alloc (valO k n s)).alloc (valO k' n' s')).alloc (valO k2 n2 s2)) (w.heap.size + 1) k' n' s') := three_b w _ k' n' s' _
  have A3 : Hid (At (((w.alloc (valO k n s)).alloc (valO k' n' s')).alloc (valO k2 n2 s2)) (w.heap.size + 2) k2 n2 s2) := three_c w _ _ k2 n2 s2
  go_enter Try.func4, Try.ntmps4
  go_upto_region 1 with fail
  generalize ((w.alloc (valO k n s)).alloc (valO k' n' s')).alloc (valO k2 n2 s2) = W at hW0 A1 A2 A3 ⊢
  obtain ⟨a0, a1, a2⟩ := A1.out
  obtain ⟨b0, b1, b2⟩ := A2.out
  go_wp2_with (first
    | (go_at_call 14
       refine (C1.out _).mono ?_
       clear C1
       rintro e w1 ⟨rfl, hB1⟩
       clear a0 a1 a2 b0 b1 b2
       obtain ⟨b0, b1, b2⟩ := A2.out.later hB1
       obtain ⟨c0, c1, c2⟩ := A3.out.later hB1)
    | (go_at_call 14
       refine (C2.out _).mono ?_
       clear C2
       rintro e w2 ⟨rfl, hB2⟩
       clear b0 b1 b2 c0 c1 c2
       have hB3 := hB1.trans (hB2.mono hB1.size)
       obtain ⟨a0, a1, a2⟩ := A1.out.later hB3
       obtain ⟨b0, b1, b2⟩ := A2.out.later hB3)
    | (go_at_call 14
       refine (C3.out _).mono ?_
       clear C3
       rintro e w3 ⟨rfl, hB4⟩
       clear a0 a1 a2 b0 b1 b2
       have hB5 := hB3.trans (hB4.mono hB3.size)
       obtain ⟨a0, a1, a2⟩ := A1.out.later hB5
       obtain ⟨c0, c1, c2⟩ := A3.out.later hB5)
    | (go_at_call 12
       refine (awake_any _).mono ?_
       rintro e w8 ⟨rfl, hB8⟩))
  go_ret
  have hB9 := hB5.trans (hB8.mono hB5.size)
  exact ⟨rfl, hW0.trans (hB9.mono hW0.size)⟩
set_option maxRecDepth 100000 in
set_option maxHeartbeats 2000000 in
theorem order_e2_m1_pos (k n : Int) (s : ByteArray) (n' : Int) (s' : ByteArray) (k2 n2 : Int) (s2 : ByteArray) (y : Int) (w : World) (hn : (n == n') = false) (h1 : ordZ k n s k n' s' = (-1)) (h2 : ordZ k n' s' k2 n2 s2 = y) (h3 : ordZ k n' s' k n s = 1) (hy : 0 < y) :
    Calls Try.prog 4 #[valV k n s, valV k n' s', valV k2 n2 s2] w fun e w' => e = .returned (.bool true) ∧ Below w.heap.size w w' := by
  have C1 : Hid (∀ w, Calls Try.prog 14 #[valV k n s, valV k n' s'] w fun e w' => e = .returned (.int .i64 (-1)) ∧ Below w.heap.size w w') := fun w => by have := order_any k n s k n' s' w; rwa [h1] at this
  have C2 : Hid (∀ w, Calls Try.prog 14 #[valV k n' s', valV k2 n2 s2] w fun e w' => e = .returned (.int .i64 y) ∧ Below w.heap.size w w') := fun w => by have := order_any k n' s' k2 n2 s2 w; rwa [h2] at this
  have C3 : Hid (∀ w, Calls Try.prog 14 #[valV k n' s', valV k n s] w fun e w' => e = .returned (.int .i64 1) ∧ Below w.heap.size w w') := fun w => by have := order_any k n' s' k n s w; rwa [h3] at this
  clear h1 h2 h3
  have hW0 : Below w.heap.size w (((w.alloc (valO k n s)).alloc (valO k n' s')).alloc (valO k2 n2 s2)) := (((Below.refl _ w).alloc (Nat.le_refl _) _).alloc (by simp) _).alloc (by simp; omega) _
  have A1 : Hid (At (((w.alloc (valO k n s)).alloc (valO k n' s')).alloc (valO k2 n2 s2)) w.heap.size k n s) := three_a w k n s _ _
  have A2 : Hid (At (((w.alloc (valO k n s)).alloc (valO k n' s')).alloc (valO k2 n2 s2)) (w.heap.size + 1) k n' s') := three_b w _ k n' s' _
  have A3 : Hid (At (((w.alloc (valO k n s)).alloc (valO k n' s')).alloc (valO k2 n2 s2)) (w.heap.size + 2) k2 n2 s2) := three_c w _ _ k2 n2 s2
  go_enter Try.func4, Try.ntmps4
  go_upto_region 1 with fail
  generalize ((w.alloc (valO k n s)).alloc (valO k n' s')).alloc (valO k2 n2 s2) = W at hW0 A1 A2 A3 ⊢
  obtain ⟨a0, a1, a2⟩ := A1.out
  obtain ⟨b0, b1, b2⟩ := A2.out
  go_wp2_with (first
    | (go_at_call 14
       refine (C1.out _).mono ?_
       clear C1
       rintro e w1 ⟨rfl, hB1⟩
       clear a0 a1 a2 b0 b1 b2
       obtain ⟨b0, b1, b2⟩ := A2.out.later hB1
       obtain ⟨c0, c1, c2⟩ := A3.out.later hB1)
    | (go_at_call 14
       refine (C2.out _).mono ?_
       clear C2
       rintro e w2 ⟨rfl, hB2⟩
       clear b0 b1 b2 c0 c1 c2
       have hB3 := hB1.trans (hB2.mono hB1.size)
       obtain ⟨a0, a1, a2⟩ := A1.out.later hB3
       obtain ⟨b0, b1, b2⟩ := A2.out.later hB3)
    | (go_at_call 14
       refine (C3.out _).mono ?_
       clear C3
       rintro e w3 ⟨rfl, hB4⟩
       clear a0 a1 a2 b0 b1 b2
       have hB5 := hB3.trans (hB4.mono hB3.size)
       obtain ⟨a0, a1, a2⟩ := A1.out.later hB5
       obtain ⟨c0, c1, c2⟩ := A3.out.later hB5)
    | (go_at_call 12
       refine (awake_any _).mono ?_
       rintro e w8 ⟨rfl, hB8⟩))
  go_ret
  have hB9 := hB5.trans (hB8.mono hB5.size)
  exact ⟨rfl, hW0.trans (hB9.mono hW0.size)⟩
set_option maxRecDepth 100000 in
set_option maxHeartbeats 2000000 in
theorem order_e2_m1_not (k n : Int) (s : ByteArray) (n' : Int) (s' : ByteArray) (k2 n2 : Int) (s2 : ByteArray) (y z : Int) (w : World) (hn : (n == n') = false) (h1 : ordZ k n s k n' s' = (-1)) (h2 : ordZ k n' s' k2 n2 s2 = y) (h3 : ordZ k n' s' k n s = 1) (hy : ¬ 0 < y) (h4 : ordZ k n s k2 n2 s2 = z) (hz : z ≤ 0) :
    Calls Try.prog 4 #[valV k n s, valV k n' s', valV k2 n2 s2] w fun e w' => e = .returned (.bool true) ∧ Below w.heap.size w w' := by
  have C1 : Hid (∀ w, Calls Try.prog 14 #[valV k n s, valV k n' s'] w fun e w' => e = .returned (.int .i64 (-1)) ∧ Below w.heap.size w w') := fun w => by have := order_any k n s k n' s' w; rwa [h1] at this
  have C2 : Hid (∀ w, Calls Try.prog 14 #[valV k n' s', valV k2 n2 s2] w fun e w' => e = .returned (.int .i64 y) ∧ Below w.heap.size w w') := fun w => by have := order_any k n' s' k2 n2 s2 w; rwa [h2] at this
  have C3 : Hid (∀ w, Calls Try.prog 14 #[valV k n' s', valV k n s] w fun e w' => e = .returned (.int .i64 1) ∧ Below w.heap.size w w') := fun w => by have := order_any k n' s' k n s w; rwa [h3] at this
  have C4 : Hid (∀ w, Calls Try.prog 14 #[valV k n s, valV k2 n2 s2] w fun e w' => e = .returned (.int .i64 z) ∧ Below w.heap.size w w') := fun w => by have := order_any k n s k2 n2 s2 w; rwa [h4] at this
  clear h1 h2 h3 h4
  have hW0 : Below w.heap.size w (((w.alloc (valO k n s)).alloc (valO k n' s')).alloc (valO k2 n2 s2)) := (((Below.refl _ w).alloc (Nat.le_refl _) _).alloc (by simp) _).alloc (by simp; omega) _
  have A1 : Hid (At (((w.alloc (valO k n s)).alloc (valO k n' s')).alloc (valO k2 n2 s2)) w.heap.size k n s) := three_a w k n s _ _
  have A2 : Hid (At (((w.alloc (valO k n s)).alloc (valO k n' s')).alloc (valO k2 n2 s2)) (w.heap.size + 1) k n' s') := three_b w _ k n' s' _
  have A3 : Hid (At (((w.alloc (valO k n s)).alloc (valO k n' s')).alloc (valO k2 n2 s2)) (w.heap.size + 2) k2 n2 s2) := three_c w _ _ k2 n2 s2
  go_enter Try.func4, Try.ntmps4
  go_upto_region 1 with fail
  generalize ((w.alloc (valO k n s)).alloc (valO k n' s')).alloc (valO k2 n2 s2) = W at hW0 A1 A2 A3 ⊢
  obtain ⟨a0, a1, a2⟩ := A1.out
  obtain ⟨b0, b1, b2⟩ := A2.out
  go_wp2_with (first
    | (go_at_call 14
       refine (C1.out _).mono ?_
       clear C1
       rintro e w1 ⟨rfl, hB1⟩
       clear a0 a1 a2 b0 b1 b2
       obtain ⟨b0, b1, b2⟩ := A2.out.later hB1
       obtain ⟨c0, c1, c2⟩ := A3.out.later hB1)
    | (go_at_call 14
       refine (C2.out _).mono ?_
       clear C2
       rintro e w2 ⟨rfl, hB2⟩
       clear b0 b1 b2 c0 c1 c2
       have hB3 := hB1.trans (hB2.mono hB1.size)
       obtain ⟨a0, a1, a2⟩ := A1.out.later hB3
       obtain ⟨b0, b1, b2⟩ := A2.out.later hB3)
    | (go_at_call 14
       refine (C3.out _).mono ?_
       clear C3
       rintro e w3 ⟨rfl, hB4⟩
       clear a0 a1 a2 b0 b1 b2
       have hB5 := hB3.trans (hB4.mono hB3.size)
       obtain ⟨a0, a1, a2⟩ := A1.out.later hB5
       obtain ⟨c0, c1, c2⟩ := A3.out.later hB5)
    | (go_at_call 14
       refine (C4.out _).mono ?_
       clear C4
       rintro e w4 ⟨rfl, hB6⟩
       have hB7 := hB5.trans (hB6.mono hB5.size))
    | (go_at_call 12
       refine (awake_any _).mono ?_
       rintro e w8 ⟨rfl, hB8⟩))
  go_ret
  have hB9 := hB7.trans (hB8.mono hB7.size)
  exact ⟨rfl, hW0.trans (hB9.mono hW0.size)⟩
set_option maxRecDepth 100000 in
set_option maxHeartbeats 2000000 in
theorem order_e2_1_any (k n : Int) (s : ByteArray) (n' : Int) (s' : ByteArray) (k2 n2 : Int) (s2 : ByteArray) (y : Int) (w : World) (hn : (n == n') = false) (h1 : ordZ k n s k n' s' = 1) (h2 : ordZ k n' s' k2 n2 s2 = y) (h3 : ordZ k n' s' k n s = (-1))  :
    Calls Try.prog 4 #[valV k n s, valV k n' s', valV k2 n2 s2] w fun e w' => e = .returned (.bool true) ∧ Below w.heap.size w w' := by
  have C1 : Hid (∀ w, Calls Try.prog 14 #[valV k n s, valV k n' s'] w fun e w' => e = .returned (.int .i64 1) ∧ Below w.heap.size w w') := fun w => by have := order_any k n s k n' s' w; rwa [h1] at this
  have C2 : Hid (∀ w, Calls Try.prog 14 #[valV k n' s', valV k2 n2 s2] w fun e w' => e = .returned (.int .i64 y) ∧ Below w.heap.size w w') := fun w => by have := order_any k n' s' k2 n2 s2 w; rwa [h2] at this
  have C3 : Hid (∀ w, Calls Try.prog 14 #[valV k n' s', valV k n s] w fun e w' => e = .returned (.int .i64 (-1)) ∧ Below w.heap.size w w') := fun w => by have := order_any k n' s' k n s w; rwa [h3] at this
  clear h1 h2 h3
  have hW0 : Below w.heap.size w (((w.alloc (valO k n s)).alloc (valO k n' s')).alloc (valO k2 n2 s2)) := (((Below.refl _ w).alloc (Nat.le_refl _) _).alloc (by simp) _).alloc (by simp; omega) _
  have A1 : Hid (At (((w.alloc (valO k n s)).alloc (valO k n' s')).alloc (valO k2 n2 s2)) w.heap.size k n s) := three_a w k n s _ _
  have A2 : Hid (At (((w.alloc (valO k n s)).alloc (valO k n' s')).alloc (valO k2 n2 s2)) (w.heap.size + 1) k n' s') := three_b w _ k n' s' _
  have A3 : Hid (At (((w.alloc (valO k n s)).alloc (valO k n' s')).alloc (valO k2 n2 s2)) (w.heap.size + 2) k2 n2 s2) := three_c w _ _ k2 n2 s2
  go_enter Try.func4, Try.ntmps4
  go_upto_region 1 with fail
  generalize ((w.alloc (valO k n s)).alloc (valO k n' s')).alloc (valO k2 n2 s2) = W at hW0 A1 A2 A3 ⊢
  obtain ⟨a0, a1, a2⟩ := A1.out
  obtain ⟨b0, b1, b2⟩ := A2.out
  go_wp2_with (first
    | (go_at_call 14
       refine (C1.out _).mono ?_
       clear C1
       rintro e w1 ⟨rfl, hB1⟩
       clear a0 a1 a2 b0 b1 b2
       obtain ⟨b0, b1, b2⟩ := A2.out.later hB1
       obtain ⟨c0, c1, c2⟩ := A3.out.later hB1)
    | (go_at_call 14
       refine (C2.out _).mono ?_
       clear C2
       rintro e w2 ⟨rfl, hB2⟩
       clear b0 b1 b2 c0 c1 c2
       have hB3 := hB1.trans (hB2.mono hB1.size)
       obtain ⟨a0, a1, a2⟩ := A1.out.later hB3
       obtain ⟨b0, b1, b2⟩ := A2.out.later hB3)
    | (go_at_call 14
       refine (C3.out _).mono ?_
       clear C3
       rintro e w3 ⟨rfl, hB4⟩
       clear a0 a1 a2 b0 b1 b2
       have hB5 := hB3.trans (hB4.mono hB3.size)
       obtain ⟨a0, a1, a2⟩ := A1.out.later hB5
       obtain ⟨c0, c1, c2⟩ := A3.out.later hB5)
    | (go_at_call 12
       refine (awake_any _).mono ?_
       rintro e w8 ⟨rfl, hB8⟩))
  go_ret
  have hB9 := hB5.trans (hB8.mono hB5.size)
  exact ⟨rfl, hW0.trans (hB9.mono hW0.size)⟩
set_option maxRecDepth 100000 in
set_option maxHeartbeats 2000000 in
theorem order_e3_m1_pos (k n : Int) (s s' : ByteArray) (k2 n2 : Int) (s2 : ByteArray) (y : Int) (w : World) (hs : (s.toList == s'.toList) = false) (h1 : ordZ k n s k n s' = (-1)) (h2 : ordZ k n s' k2 n2 s2 = y) (h3 : ordZ k n s' k n s = 1) (hy : 0 < y) :
    Calls Try.prog 4 #[valV k n s, valV k n s', valV k2 n2 s2] w fun e w' => e = .returned (.bool true) ∧ Below w.heap.size w w' := by
  have C1 : Hid (∀ w, Calls Try.prog 14 #[valV k n s, valV k n s'] w fun e w' => e = .returned (.int .i64 (-1)) ∧ Below w.heap.size w w') := fun w => by have := order_any k n s k n s' w; rwa [h1] at this
  have C2 : Hid (∀ w, Calls Try.prog 14 #[valV k n s', valV k2 n2 s2] w fun e w' => e = .returned (.int .i64 y) ∧ Below w.heap.size w w') := fun w => by have := order_any k n s' k2 n2 s2 w; rwa [h2] at this
  have C3 : Hid (∀ w, Calls Try.prog 14 #[valV k n s', valV k n s] w fun e w' => e = .returned (.int .i64 1) ∧ Below w.heap.size w w') := fun w => by have := order_any k n s' k n s w; rwa [h3] at this
  clear h1 h2 h3
  have hW0 : Below w.heap.size w (((w.alloc (valO k n s)).alloc (valO k n s')).alloc (valO k2 n2 s2)) := (((Below.refl _ w).alloc (Nat.le_refl _) _).alloc (by simp) _).alloc (by simp; omega) _
  have A1 : Hid (At (((w.alloc (valO k n s)).alloc (valO k n s')).alloc (valO k2 n2 s2)) w.heap.size k n s) := three_a w k n s _ _
  have A2 : Hid (At (((w.alloc (valO k n s)).alloc (valO k n s')).alloc (valO k2 n2 s2)) (w.heap.size + 1) k n s') := three_b w _ k n s' _
  have A3 : Hid (At (((w.alloc (valO k n s)).alloc (valO k n s')).alloc (valO k2 n2 s2)) (w.heap.size + 2) k2 n2 s2) := three_c w _ _ k2 n2 s2
  go_enter Try.func4, Try.ntmps4
  go_upto_region 1 with fail
  generalize ((w.alloc (valO k n s)).alloc (valO k n s')).alloc (valO k2 n2 s2) = W at hW0 A1 A2 A3 ⊢
  obtain ⟨a0, a1, a2⟩ := A1.out
  obtain ⟨b0, b1, b2⟩ := A2.out
  go_wp2_with (first
    | (go_at_call 14
       refine (C1.out _).mono ?_
       clear C1
       rintro e w1 ⟨rfl, hB1⟩
       clear a0 a1 a2 b0 b1 b2
       obtain ⟨b0, b1, b2⟩ := A2.out.later hB1
       obtain ⟨c0, c1, c2⟩ := A3.out.later hB1)
    | (go_at_call 14
       refine (C2.out _).mono ?_
       clear C2
       rintro e w2 ⟨rfl, hB2⟩
       clear b0 b1 b2 c0 c1 c2
       have hB3 := hB1.trans (hB2.mono hB1.size)
       obtain ⟨a0, a1, a2⟩ := A1.out.later hB3
       obtain ⟨b0, b1, b2⟩ := A2.out.later hB3)
    | (go_at_call 14
       refine (C3.out _).mono ?_
       clear C3
       rintro e w3 ⟨rfl, hB4⟩
       clear a0 a1 a2 b0 b1 b2
       have hB5 := hB3.trans (hB4.mono hB3.size)
       obtain ⟨a0, a1, a2⟩ := A1.out.later hB5
       obtain ⟨c0, c1, c2⟩ := A3.out.later hB5)
    | (go_at_call 12
       refine (awake_any _).mono ?_
       rintro e w8 ⟨rfl, hB8⟩))
  go_ret
  have hB9 := hB5.trans (hB8.mono hB5.size)
  exact ⟨rfl, hW0.trans (hB9.mono hW0.size)⟩
set_option maxRecDepth 100000 in
set_option maxHeartbeats 2000000 in
theorem order_e3_m1_not (k n : Int) (s s' : ByteArray) (k2 n2 : Int) (s2 : ByteArray) (y z : Int) (w : World) (hs : (s.toList == s'.toList) = false) (h1 : ordZ k n s k n s' = (-1)) (h2 : ordZ k n s' k2 n2 s2 = y) (h3 : ordZ k n s' k n s = 1) (hy : ¬ 0 < y) (h4 : ordZ k n s k2 n2 s2 = z) (hz : z ≤ 0) :
    Calls Try.prog 4 #[valV k n s, valV k n s', valV k2 n2 s2] w fun e w' => e = .returned (.bool true) ∧ Below w.heap.size w w' := by
  have C1 : Hid (∀ w, Calls Try.prog 14 #[valV k n s, valV k n s'] w fun e w' => e = .returned (.int .i64 (-1)) ∧ Below w.heap.size w w') := fun w => by have := order_any k n s k n s' w; rwa [h1] at this
  have C2 : Hid (∀ w, Calls Try.prog 14 #[valV k n s', valV k2 n2 s2] w fun e w' => e = .returned (.int .i64 y) ∧ Below w.heap.size w w') := fun w => by have := order_any k n s' k2 n2 s2 w; rwa [h2] at this
  have C3 : Hid (∀ w, Calls Try.prog 14 #[valV k n s', valV k n s] w fun e w' => e = .returned (.int .i64 1) ∧ Below w.heap.size w w') := fun w => by have := order_any k n s' k n s w; rwa [h3] at this
  have C4 : Hid (∀ w, Calls Try.prog 14 #[valV k n s, valV k2 n2 s2] w fun e w' => e = .returned (.int .i64 z) ∧ Below w.heap.size w w') := fun w => by have := order_any k n s k2 n2 s2 w; rwa [h4] at this
  clear h1 h2 h3 h4
  have hW0 : Below w.heap.size w (((w.alloc (valO k n s)).alloc (valO k n s')).alloc (valO k2 n2 s2)) := (((Below.refl _ w).alloc (Nat.le_refl _) _).alloc (by simp) _).alloc (by simp; omega) _
  have A1 : Hid (At (((w.alloc (valO k n s)).alloc (valO k n s')).alloc (valO k2 n2 s2)) w.heap.size k n s) := three_a w k n s _ _
  have A2 : Hid (At (((w.alloc (valO k n s)).alloc (valO k n s')).alloc (valO k2 n2 s2)) (w.heap.size + 1) k n s') := three_b w _ k n s' _
  have A3 : Hid (At (((w.alloc (valO k n s)).alloc (valO k n s')).alloc (valO k2 n2 s2)) (w.heap.size + 2) k2 n2 s2) := three_c w _ _ k2 n2 s2
  go_enter Try.func4, Try.ntmps4
  go_upto_region 1 with fail
  generalize ((w.alloc (valO k n s)).alloc (valO k n s')).alloc (valO k2 n2 s2) = W at hW0 A1 A2 A3 ⊢
  obtain ⟨a0, a1, a2⟩ := A1.out
  obtain ⟨b0, b1, b2⟩ := A2.out
  go_wp2_with (first
    | (go_at_call 14
       refine (C1.out _).mono ?_
       clear C1
       rintro e w1 ⟨rfl, hB1⟩
       clear a0 a1 a2 b0 b1 b2
       obtain ⟨b0, b1, b2⟩ := A2.out.later hB1
       obtain ⟨c0, c1, c2⟩ := A3.out.later hB1)
    | (go_at_call 14
       refine (C2.out _).mono ?_
       clear C2
       rintro e w2 ⟨rfl, hB2⟩
       clear b0 b1 b2 c0 c1 c2
       have hB3 := hB1.trans (hB2.mono hB1.size)
       obtain ⟨a0, a1, a2⟩ := A1.out.later hB3
       obtain ⟨b0, b1, b2⟩ := A2.out.later hB3)
    | (go_at_call 14
       refine (C3.out _).mono ?_
       clear C3
       rintro e w3 ⟨rfl, hB4⟩
       clear a0 a1 a2 b0 b1 b2
       have hB5 := hB3.trans (hB4.mono hB3.size)
       obtain ⟨a0, a1, a2⟩ := A1.out.later hB5
       obtain ⟨c0, c1, c2⟩ := A3.out.later hB5)
    | (go_at_call 14
       refine (C4.out _).mono ?_
       clear C4
       rintro e w4 ⟨rfl, hB6⟩
       have hB7 := hB5.trans (hB6.mono hB5.size))
    | (go_at_call 12
       refine (awake_any _).mono ?_
       rintro e w8 ⟨rfl, hB8⟩))
  go_ret
  have hB9 := hB7.trans (hB8.mono hB7.size)
  exact ⟨rfl, hW0.trans (hB9.mono hW0.size)⟩
set_option maxRecDepth 100000 in
set_option maxHeartbeats 2000000 in
theorem order_e3_1_any (k n : Int) (s s' : ByteArray) (k2 n2 : Int) (s2 : ByteArray) (y : Int) (w : World) (hs : (s.toList == s'.toList) = false) (h1 : ordZ k n s k n s' = 1) (h2 : ordZ k n s' k2 n2 s2 = y) (h3 : ordZ k n s' k n s = (-1))  :
    Calls Try.prog 4 #[valV k n s, valV k n s', valV k2 n2 s2] w fun e w' => e = .returned (.bool true) ∧ Below w.heap.size w w' := by
  have C1 : Hid (∀ w, Calls Try.prog 14 #[valV k n s, valV k n s'] w fun e w' => e = .returned (.int .i64 1) ∧ Below w.heap.size w w') := fun w => by have := order_any k n s k n s' w; rwa [h1] at this
  have C2 : Hid (∀ w, Calls Try.prog 14 #[valV k n s', valV k2 n2 s2] w fun e w' => e = .returned (.int .i64 y) ∧ Below w.heap.size w w') := fun w => by have := order_any k n s' k2 n2 s2 w; rwa [h2] at this
  have C3 : Hid (∀ w, Calls Try.prog 14 #[valV k n s', valV k n s] w fun e w' => e = .returned (.int .i64 (-1)) ∧ Below w.heap.size w w') := fun w => by have := order_any k n s' k n s w; rwa [h3] at this
  clear h1 h2 h3
  have hW0 : Below w.heap.size w (((w.alloc (valO k n s)).alloc (valO k n s')).alloc (valO k2 n2 s2)) := (((Below.refl _ w).alloc (Nat.le_refl _) _).alloc (by simp) _).alloc (by simp; omega) _
  have A1 : Hid (At (((w.alloc (valO k n s)).alloc (valO k n s')).alloc (valO k2 n2 s2)) w.heap.size k n s) := three_a w k n s _ _
  have A2 : Hid (At (((w.alloc (valO k n s)).alloc (valO k n s')).alloc (valO k2 n2 s2)) (w.heap.size + 1) k n s') := three_b w _ k n s' _
  have A3 : Hid (At (((w.alloc (valO k n s)).alloc (valO k n s')).alloc (valO k2 n2 s2)) (w.heap.size + 2) k2 n2 s2) := three_c w _ _ k2 n2 s2
  go_enter Try.func4, Try.ntmps4
  go_upto_region 1 with fail
  generalize ((w.alloc (valO k n s)).alloc (valO k n s')).alloc (valO k2 n2 s2) = W at hW0 A1 A2 A3 ⊢
  obtain ⟨a0, a1, a2⟩ := A1.out
  obtain ⟨b0, b1, b2⟩ := A2.out
  go_wp2_with (first
    | (go_at_call 14
       refine (C1.out _).mono ?_
       clear C1
       rintro e w1 ⟨rfl, hB1⟩
       clear a0 a1 a2 b0 b1 b2
       obtain ⟨b0, b1, b2⟩ := A2.out.later hB1
       obtain ⟨c0, c1, c2⟩ := A3.out.later hB1)
    | (go_at_call 14
       refine (C2.out _).mono ?_
       clear C2
       rintro e w2 ⟨rfl, hB2⟩
       clear b0 b1 b2 c0 c1 c2
       have hB3 := hB1.trans (hB2.mono hB1.size)
       obtain ⟨a0, a1, a2⟩ := A1.out.later hB3
       obtain ⟨b0, b1, b2⟩ := A2.out.later hB3)
    | (go_at_call 14
       refine (C3.out _).mono ?_
       clear C3
       rintro e w3 ⟨rfl, hB4⟩
       clear a0 a1 a2 b0 b1 b2
       have hB5 := hB3.trans (hB4.mono hB3.size)
       obtain ⟨a0, a1, a2⟩ := A1.out.later hB5
       obtain ⟨c0, c1, c2⟩ := A3.out.later hB5)
    | (go_at_call 12
       refine (awake_any _).mono ?_
       rintro e w8 ⟨rfl, hB8⟩))
  go_ret
  have hB9 := hB5.trans (hB8.mono hB5.size)
  exact ⟨rfl, hW0.trans (hB9.mono hW0.size)⟩

/-- ValueOrder, of any three values. -/
theorem order_walk (k n : Int) (s : ByteArray) (k' n' : Int) (s' : ByteArray) (k2 n2 : Int) (s2 : ByteArray) (w : World) :
    Calls Try.prog 4 #[valV k n s, valV k' n' s', valV k2 n2 s2] w fun e w' => e = .returned (.bool true) ∧ Below w.heap.size w w' := by
  have ht := ordZ_turn k n s k' n' s'
  have hg := ordZ_trans k n s k' n' s' k2 n2 s2
  have irr := less_irrefl s.toList
  by_cases hy : 0 < ordZ k' n' s' k2 n2 s2
  · rcases ordZ_cases k n s k' n' s' with ⟨e, h⟩ | ⟨e, rfl, rfl, h⟩ | ⟨e, h⟩
    · rw [e] at ht
      by_cases hk : k = k'
      · subst hk
        by_cases hn : n = n'
        · subst hn
          refine order_e3_m1_pos k n s s' k2 n2 s2 _ w ?_ e rfl ht hy
          have hne : ¬ s.toList = s'.toList := by
            rintro hs
            rcases h with h | ⟨_, h | ⟨_, h⟩⟩
            · omega
            · omega
            · rw [← hs, irr] at h; cases h
          simpa using hne
        · exact order_e2_m1_pos k n s n' s' k2 n2 s2 _ w (by simpa using hn) e rfl ht hy
      · exact order_e1_m1_pos k n s k' n' s' k2 n2 s2 _ w (by simpa using hk) e rfl ht hy
    · rw [e] at ht
      exact order_e0_0_pos k n s s' k2 n2 s2 _ w (by simpa using h) e rfl ht hy
    · rw [e] at ht
      by_cases hk : k = k'
      · subst hk
        by_cases hn : n = n'
        · subst hn
          refine order_e3_1_any k n s s' k2 n2 s2 _ w ?_ e rfl ht
          have hne : ¬ s.toList = s'.toList := by
            rintro hs
            rcases h with h | ⟨_, h | ⟨_, h⟩⟩
            · omega
            · omega
            · rw [← hs, irr] at h; cases h
          simpa using hne
        · exact order_e2_1_any k n s n' s' k2 n2 s2 _ w (by simpa using hn) e rfl ht
      · exact order_e1_1_any k n s k' n' s' k2 n2 s2 _ w (by simpa using hk) e rfl ht
  · rcases ordZ_cases k n s k' n' s' with ⟨e, h⟩ | ⟨e, rfl, rfl, h⟩ | ⟨e, h⟩
    · have hz := hg (by omega) (by omega)
      rw [e] at ht
      by_cases hk : k = k'
      · subst hk
        by_cases hn : n = n'
        · subst hn
          refine order_e3_m1_not k n s s' k2 n2 s2 _ _ w ?_ e rfl ht hy rfl hz
          have hne : ¬ s.toList = s'.toList := by
            rintro hs
            rcases h with h | ⟨_, h | ⟨_, h⟩⟩
            · omega
            · omega
            · rw [← hs, irr] at h; cases h
          simpa using hne
        · exact order_e2_m1_not k n s n' s' k2 n2 s2 _ _ w (by simpa using hn) e rfl ht hy rfl hz
      · exact order_e1_m1_not k n s k' n' s' k2 n2 s2 _ _ w (by simpa using hk) e rfl ht hy rfl hz
    · have hz := hg (by omega) (by omega)
      rw [e] at ht
      exact order_e0_0_not k n s s' k2 n2 s2 _ _ w (by simpa using h) e rfl ht hy rfl hz
    · rw [e] at ht
      by_cases hk : k = k'
      · subst hk
        by_cases hn : n = n'
        · subst hn
          refine order_e3_1_any k n s s' k2 n2 s2 _ w ?_ e rfl ht
          have hne : ¬ s.toList = s'.toList := by
            rintro hs
            rcases h with h | ⟨_, h | ⟨_, h⟩⟩
            · omega
            · omega
            · rw [← hs, irr] at h; cases h
          simpa using hne
        · exact order_e2_1_any k n s n' s' k2 n2 s2 _ w (by simpa using hn) e rfl ht
      · exact order_e1_1_any k n s k' n' s' k2 n2 s2 _ w (by simpa using hk) e rfl ht
end Go.Proofs.Ytabhjmfacgbbgaa
