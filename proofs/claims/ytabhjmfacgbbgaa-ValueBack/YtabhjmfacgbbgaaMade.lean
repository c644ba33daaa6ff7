/-
  What a wire.Writer and a wire.Reader that is nil, or that no call made, answers: ErrZero; none; 0 (P2.3).
-/
import Derived.Test.YtabhjmfacgbbgaaBytes
namespace Go.Proofs.Ytabhjmfacgbbgaa
open Go.RowKit

set_option maxHeartbeats 400000 in
theorem wmade_nil (w : World) : Calls Try.prog 23 #[.pointer none] w fun e w' => e = .returned (.bool false) ∧ w' = w := by
  go_enter Try.func23, Try.ntmps23
  go_wp2
  go_ret
  exact ⟨rfl, rfl⟩
set_option maxHeartbeats 400000 in
theorem wmade_zero (p : Nat) (w : World) (h : w.cell? ⟨p, 0, none⟩ = some (.pointer none)) : Calls Try.prog 23 #[.pointer (some ⟨p, 0, none⟩)] w fun e w' => e = .returned (.bool false) ∧ w' = w := by
  go_enter Try.func23, Try.ntmps23
  go_wp2
  go_ret
  exact ⟨rfl, rfl⟩
set_option maxHeartbeats 400000 in
theorem wmade_some (p q : Nat) (w : World) (h : w.cell? ⟨p, 0, none⟩ = some (.pointer (some ⟨q, 0, none⟩))) : Calls Try.prog 23 #[.pointer (some ⟨p, 0, none⟩)] w fun e w' => e = .returned (.bool true) ∧ w' = w := by
  go_enter Try.func23, Try.ntmps23
  go_wp2
  go_ret
  exact ⟨rfl, rfl⟩
set_option maxHeartbeats 400000 in
theorem rmade_nil (w : World) : Calls Try.prog 29 #[.pointer none] w fun e w' => e = .returned (.bool false) ∧ w' = w := by
  go_enter Try.func29, Try.ntmps29
  go_wp2
  go_ret
  exact ⟨rfl, rfl⟩
set_option maxHeartbeats 400000 in
theorem rmade_zero (p : Nat) (w : World) (h : w.cell? ⟨p, 0, none⟩ = some (.pointer none)) : Calls Try.prog 29 #[.pointer (some ⟨p, 0, none⟩)] w fun e w' => e = .returned (.bool false) ∧ w' = w := by
  go_enter Try.func29, Try.ntmps29
  go_wp2
  go_ret
  exact ⟨rfl, rfl⟩
set_option maxHeartbeats 400000 in
theorem rmade_some (p q : Nat) (w : World) (h : w.cell? ⟨p, 0, none⟩ = some (.pointer (some ⟨q, 0, none⟩))) : Calls Try.prog 29 #[.pointer (some ⟨p, 0, none⟩)] w fun e w' => e = .returned (.bool true) ∧ w' = w := by
  go_enter Try.func29, Try.ntmps29
  go_wp2
  go_ret
  exact ⟨rfl, rfl⟩

/-- A writer that is nil, or that no call made. -/
def NoW (w : World) (v : Value) : Prop := v = .pointer none ∨ ∃ p, v = .pointer (some ⟨p, 0, none⟩) ∧ w.cell? ⟨p, 0, none⟩ = some (.pointer none)

theorem NoW.later {w w' : World} {v : Value} (h : NoW w v) (hb : Below w.heap.size w w') : NoW w' v := by
  rcases h with h | ⟨p, h, hc⟩
  · exact .inl h
  · refine .inr ⟨p, h, ?_⟩
    rw [hb.cell (p := ⟨p, 0, none⟩) (World.block_lt_of_cell? w _ hc), hc]
theorem wmade_no {v : Value} {w : World} (h : NoW w v) : Calls Try.prog 23 #[v] w fun e w' => e = .returned (.bool false) ∧ w' = w := by
  rcases h with rfl | ⟨p, rfl, h⟩
  · exact wmade_nil w
  · exact wmade_zero p w h
theorem rmade_no {v : Value} {w : World} (h : NoW w v) : Calls Try.prog 29 #[v] w fun e w' => e = .returned (.bool false) ∧ w' = w := by
  rcases h with rfl | ⟨p, rfl, h⟩
  · exact rmade_nil w
  · exact rmade_zero p w h

set_option maxHeartbeats 400000 in
theorem write_no {v : Value} (b s : Value) {w : World} (h : NoW w v) : Calls Try.prog 34 #[v, b, s] w fun e w' => e = .returned (.int .i64 7) ∧ w' = w := by
  have C : Hid (Calls Try.prog 23 _ _ _) := wmade_no h
  clear h
  go_enter Try.func34, Try.ntmps34
  go_wp2_with (go_at_call 23; refine C.out.mono ?_; rintro e w1 ⟨rfl, hw1⟩; replace hw1 := hw1.symm; subst hw1)
  go_ret
  exact ⟨rfl, rfl⟩
set_option maxHeartbeats 400000 in
theorem wtext_no {v : Value} (s : ByteArray) {w : World} (hs : s.size ≤ maxLen) (h : NoW w v) : Calls Try.prog 17 #[v, .string s] w fun e w' => e = .returned (.int .i64 7) ∧ Below w.heap.size w w' := by
  unfold maxLen at hs
  have C : Hid (Calls Try.prog 36 _ _ _) := put_any none 0 0 [] s.size w (isBytes_nil w) (by omega) (by omega)
  have H : Hid (NoW w v) := h
  clear h
  go_enter Try.func17, Try.ntmps17
  go_wp2_with (first | (go_at_call 36; refine C.out.mono ?_; rintro e w1 ⟨rfl, hown1, hB1⟩) | (go_at_call 34; refine (write_no _ _ (H.out.later hB1)).mono ?_; rintro e w2 ⟨rfl, hw2⟩; replace hw2 := hw2.symm; subst hw2))
  go_ret
  exact ⟨rfl, hB1⟩
set_option maxHeartbeats 400000 in
theorem wbyte_no {v : Value} (c : Int) {w : World} (h : NoW w v) : Calls Try.prog 15 #[v, .int .u8 c] w fun e w' => e = .returned (.int .i64 7) ∧ Below w.heap.size w w' := by
  have H : Hid (NoW w v) := h
  clear h
  go_enter Try.func15, Try.ntmps15
  go_wp2_with (go_at_call 34; refine (write_no _ _ (H.out.later ((Below.refl _ w).alloc (Nat.le_refl _) _))).mono ?_; rintro e w2 ⟨rfl, hw2⟩; replace hw2 := hw2.symm; subst hw2)
  go_ret
  exact ⟨rfl, (Below.refl _ w).alloc (Nat.le_refl _) _⟩
set_option maxHeartbeats 400000 in
theorem wdone_no {v : Value} {w : World} (h : NoW w v) : Calls Try.prog 9 #[v] w fun e w' => e = .returned (.slice none 0 0) ∧ w' = w := by
  have C : Hid (Calls Try.prog 23 _ _ _) := wmade_no h
  clear h
  go_enter Try.func9, Try.ntmps9
  go_wp2_with (go_at_call 23; refine C.out.mono ?_; rintro e w1 ⟨rfl, hw1⟩; replace hw1 := hw1.symm; subst hw1)
  go_ret
  exact ⟨rfl, rfl⟩
set_option maxHeartbeats 400000 in
theorem rbyte_no {v : Value} {w : World} (h : NoW w v) : Calls Try.prog 26 #[v] w fun e w' => e = .returned (.tuple #[.int .u8 0, .int .i64 7]) ∧ w' = w := by
  have C : Hid (Calls Try.prog 29 _ _ _) := rmade_no h
  clear h
  go_enter Try.func26, Try.ntmps26
  go_wp2_with (go_at_call 29; refine C.out.mono ?_; rintro e w1 ⟨rfl, hw1⟩; replace hw1 := hw1.symm; subst hw1)
  go_ret2
  exact ⟨rfl, rfl⟩
set_option maxHeartbeats 400000 in
theorem rnumber_no {v : Value} {w : World} (h : NoW w v) : Calls Try.prog 39 #[v] w fun e w' => e = .returned (.tuple #[.int .u64 0, .int .i64 0, .int .i64 7]) ∧ w' = w := by
  have C : Hid (Calls Try.prog 29 _ _ _) := rmade_no h
  clear h
  go_enter Try.func39, Try.ntmps39
  go_wp2_with (go_at_call 29; refine C.out.mono ?_; rintro e w1 ⟨rfl, hw1⟩; replace hw1 := hw1.symm; subst hw1)
  go_ret3
  exact ⟨rfl, rfl⟩
set_option maxHeartbeats 400000 in
theorem rtext_no {v : Value} (m : Int) {w : World} (h : NoW w v) : Calls Try.prog 28 #[v, .int .i64 m] w fun e w' => e = .returned (.tuple #[.string ⟨#[]⟩, .int .i64 7]) ∧ w' = w := by
  have C : Hid (Calls Try.prog 39 _ _ _) := rnumber_no h
  clear h
  go_enter Try.func28, Try.ntmps28
  go_wp2_with (go_at_call 39; refine C.out.mono ?_; rintro e w1 ⟨rfl, hw1⟩; replace hw1 := hw1.symm; subst hw1)
  go_ret2
  exact ⟨rfl, rfl⟩
set_option maxHeartbeats 400000 in
theorem rat_no {v : Value} {w : World} (h : NoW w v) : Calls Try.prog 13 #[v] w fun e w' => e = .returned (.int .i64 0) ∧ w' = w := by
  have C : Hid (Calls Try.prog 29 _ _ _) := rmade_no h
  clear h
  go_enter Try.func13, Try.ntmps13
  go_wp2_with (go_at_call 29; refine C.out.mono ?_; rintro e w1 ⟨rfl, hw1⟩; replace hw1 := hw1.symm; subst hw1)
  go_ret
  exact ⟨rfl, rfl⟩
set_option maxHeartbeats 400000 in
theorem rend_no {v : Value} {w : World} (h : NoW w v) : Calls Try.prog 11 #[v] w fun e w' => e = .returned (.int .i64 7) ∧ w' = w := by
  have C : Hid (Calls Try.prog 29 _ _ _) := rmade_no h
  clear h
  go_enter Try.func11, Try.ntmps11
  go_wp2_with (go_at_call 29; refine C.out.mono ?_; rintro e w1 ⟨rfl, hw1⟩; replace hw1 := hw1.symm; subst hw1)
  go_ret
  exact ⟨rfl, rfl⟩
end Go.Proofs.Ytabhjmfacgbbgaa
