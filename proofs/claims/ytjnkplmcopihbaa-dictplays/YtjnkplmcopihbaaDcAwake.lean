/-
  The law's own 'awake' answers true; what a nil dictionary and one that no call made answer.
-/
import Derived.Test.YtjnkplmcopihbaaDcAdd
namespace Go.Proofs.Ytjnkplmcopihbaa
open Go.RowKit Go.Maps Go.WideMaps

theorem awake_a : addZ 2 [] ⟨#[97]⟩ = (0, 0, [⟨#[97]⟩]) := by decide +kernel
theorem awake_b : addZ 2 [⟨#[97]⟩] ⟨#[98]⟩ = (1, 0, [⟨#[97]⟩, ⟨#[98]⟩]) := by decide +kernel
set_option maxRecDepth 100000 in
set_option maxHeartbeats 1000000 in
theorem second_any {w : World} {B p M : Nat} {v : Value} (H : Dc w B p M 2 v []) (hB : B ≤ w.heap.size) :
    Calls Try.prog 24 #[.pointer (some ⟨p, 0, none⟩)] w fun e w' => e = .returned (.bool true) ∧ Below B w w' := by
  have HD : Hid (Dc w B p M 2 v []) := H
  clear H
  go_enter Try.func24, Try.ntmps24
  go_wp2_with (first
    | (go_at_call_of 9 (Value.string ⟨#[97]⟩)
       refine (addD_any HD.out hB ⟨#[97]⟩ (by decide)).mono ?_
       rintro e w1 t1
       have HB1 : Hid (Below B w w1) := t1.below HD.out hB (Below.refl _ _)
       obtain ⟨v1, rfl, hD1, -, -⟩ := t1
       rw [awake_a] at hD1
       rw [awake_a]
       have HD1 : Hid (Dc w1 B p M 2 v1 [⟨#[97]⟩]) := hD1
       clear hD1)
    | (go_at_call_of 9 (Value.string ⟨#[98]⟩)
       refine (addD_any HD1.out (Nat.le_trans hB HB1.out.size) ⟨#[98]⟩ (by decide)).mono ?_
       rintro e w2 t2
       have HB2 : Hid (Below B w w2) := t2.below HD1.out (Nat.le_trans hB HB1.out.size) HB1.out
       obtain ⟨v2, rfl, -, -, -⟩ := t2
       rw [awake_b]))
  go_ret
  exact ⟨rfl, HB2.out⟩
set_option maxRecDepth 100000 in
set_option maxHeartbeats 1000000 in
theorem awake23_any (w : World) : Calls Try.prog 8 #[] w fun e w' => e = .returned (.bool true) ∧ Below w.heap.size w w' := by
  have C : Hid (Calls Try.prog 6 _ _ _) := newD_ok 2 w.heap.size w (by omega) (by omega) (Nat.le_refl _)
  go_enter Try.func8, Try.ntmps8
  go_wp2_with (first
    | (go_at_call 6
       refine C.out.mono ?_
       rintro e w1 ⟨p, M, rfl, hD1, hB1⟩
       have HD1 : Hid (Dc w1 w.heap.size p M 2 (.slice none 0 0) []) := hD1
       clear hD1)
    | (go_at_call 15
       refine (lenD_any HD1.out).mono ?_
       rintro e w2 ⟨rfl, hB2⟩
       have HD2 : Hid (Dc w2 w.heap.size p M 2 (.slice none 0 0) []) := HD1.out.later hB2
       have hB2 : Below w.heap.size w w2 := hB1.trans (hB2.mono hB1.size))
    | (go_at_call 24
       refine (second_any HD2.out hB2.size).mono ?_
       rintro e w3 ⟨rfl, hB3⟩))
  go_ret
  exact ⟨rfl, hB2.trans hB3⟩

/-- A dictionary that is nil, or that no call made. -/
def NoD (w : World) (v : Value) : Prop := v = .pointer none ∨ ∃ p, v = .pointer (some ⟨p, 0, none⟩) ∧ w.cell? ⟨p, 1, none⟩ = some (.map none)
theorem NoD.later {w w' : World} {v : Value} (h : NoD w v) (hb : Below w.heap.size w w') : NoD w' v := by
  rcases h with h | ⟨p, h, hc⟩
  · exact .inl h
  · exact .inr ⟨p, h, by rw [hb.cell (World.block_lt_of_cell? w _ hc), hc]⟩
theorem madeD_no {v : Value} {w : World} (h : NoD w v) : Calls Try.prog 25 #[v] w fun e w' => e = .returned (.bool false) ∧ w' = w := by
  rcases h with rfl | ⟨p, rfl, h⟩
  · exact madeD_nil w
  · exact madeD_zero p w h
set_option maxRecDepth 100000 in
theorem addD_no {v : Value} (s : Value) {w : World} (h : NoD w v) : Calls Try.prog 9 #[v, s] w fun e w' => e = .returned (.tuple #[.int .i64 0, .int .i64 7]) ∧ w' = w := by
  have C : Hid (Calls Try.prog 25 _ _ _) := madeD_no h
  clear h
  go_enter Try.func9, Try.ntmps9
  go_wp2_with (go_at_call 25; refine C.out.mono ?_; rintro e w1 ⟨rfl, hw1⟩; replace hw1 := hw1.symm; subst hw1)
  go_ret2
  exact ⟨rfl, rfl⟩
set_option maxRecDepth 100000 in
theorem getD_no {v : Value} (i : Value) {w : World} (h : NoD w v) : Calls Try.prog 11 #[v, i] w fun e w' => e = .returned (.tuple #[.string ⟨#[]⟩, .int .i64 7]) ∧ w' = w := by
  have C : Hid (Calls Try.prog 25 _ _ _) := madeD_no h
  clear h
  go_enter Try.func11, Try.ntmps11
  go_wp2_with (go_at_call 25; refine C.out.mono ?_; rintro e w1 ⟨rfl, hw1⟩; replace hw1 := hw1.symm; subst hw1)
  go_ret2
  exact ⟨rfl, rfl⟩
set_option maxRecDepth 100000 in
theorem findD_no {v : Value} (s : Value) {w : World} (h : NoD w v) : Calls Try.prog 13 #[v, s] w fun e w' => e = .returned (.tuple #[.int .i64 0, .bool false]) ∧ w' = w := by
  have C : Hid (Calls Try.prog 25 _ _ _) := madeD_no h
  clear h
  go_enter Try.func13, Try.ntmps13
  go_wp2_with (go_at_call 25; refine C.out.mono ?_; rintro e w1 ⟨rfl, hw1⟩; replace hw1 := hw1.symm; subst hw1)
  go_ret2
  exact ⟨rfl, rfl⟩
set_option maxRecDepth 100000 in
theorem allD_no {v : Value} {w : World} (h : NoD w v) : Calls Try.prog 27 #[v] w fun e w' => e = .returned (.slice none 0 0) ∧ w' = w := by
  have C : Hid (Calls Try.prog 25 _ _ _) := madeD_no h
  clear h
  go_enter Try.func27, Try.ntmps27
  go_wp2_with (go_at_call 25; refine C.out.mono ?_; rintro e w1 ⟨rfl, hw1⟩; replace hw1 := hw1.symm; subst hw1)
  go_ret
  exact ⟨rfl, rfl⟩
set_option maxRecDepth 100000 in
theorem lenD_no {v : Value} {w : World} (h : NoD w v) : Calls Try.prog 15 #[v] w fun e w' => e = .returned (.int .i64 0) ∧ w' = w := by
  have C : Hid (Calls Try.prog 27 _ _ _) := allD_no h
  clear h
  go_enter Try.func15, Try.ntmps15
  go_wp2_with (go_at_call 27; refine C.out.mono ?_; rintro e w1 ⟨rfl, hw1⟩; replace hw1 := hw1.symm; subst hw1)
  go_ret
  exact ⟨rfl, rfl⟩
set_option maxRecDepth 100000 in
theorem putD_no {v : Value} (u : Value) {w : World} (h : NoD w v) : Calls Try.prog 18 #[v, u] w fun e w' => e = .returned (.int .i64 7) ∧ w' = w := by
  have C : Hid (Calls Try.prog 25 _ _ _) := madeD_no h
  clear h
  go_enter Try.func18, Try.ntmps18
  go_wp2_with (go_at_call 25; refine C.out.mono ?_; rintro e w1 ⟨rfl, hw1⟩; replace hw1 := hw1.symm; subst hw1)
  go_ret
  exact ⟨rfl, rfl⟩
end Go.Proofs.Ytjnkplmcopihbaa
