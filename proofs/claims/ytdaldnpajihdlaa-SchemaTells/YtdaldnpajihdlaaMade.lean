/-
  What a wire.Writer and a wire.Reader that is nil, or that no call made, answers: ErrZero; none; 0 (P2.3).
-/
import Derived.Test.YtdaldnpajihdlaaBytes
namespace Go.Proofs.Ytdaldnpajihdlaa
open Go.RowKit

set_option maxHeartbeats 400000 in
theorem wmade_nil (w : World) : Calls Try.prog 39 #[.pointer none] w fun e w' => e = .returned (.bool false) ∧ w' = w := by
  go_enter Try.func39, Try.ntmps39
  go_wp2
  go_ret
  exact ⟨rfl, rfl⟩
set_option maxHeartbeats 400000 in
theorem wmade_zero (p : Nat) (w : World) (h : w.cell? ⟨p, 0, none⟩ = some (.pointer none)) : Calls Try.prog 39 #[.pointer (some ⟨p, 0, none⟩)] w fun e w' => e = .returned (.bool false) ∧ w' = w := by
  go_enter Try.func39, Try.ntmps39
  go_wp2
  go_ret
  exact ⟨rfl, rfl⟩
set_option maxHeartbeats 400000 in
theorem wmade_some (p q : Nat) (w : World) (h : w.cell? ⟨p, 0, none⟩ = some (.pointer (some ⟨q, 0, none⟩))) : Calls Try.prog 39 #[.pointer (some ⟨p, 0, none⟩)] w fun e w' => e = .returned (.bool true) ∧ w' = w := by
  go_enter Try.func39, Try.ntmps39
  go_wp2
  go_ret
  exact ⟨rfl, rfl⟩
set_option maxHeartbeats 400000 in
theorem rmade_nil (w : World) : Calls Try.prog 43 #[.pointer none] w fun e w' => e = .returned (.bool false) ∧ w' = w := by
  go_enter Try.func43, Try.ntmps43
  go_wp2
  go_ret
  exact ⟨rfl, rfl⟩
set_option maxHeartbeats 400000 in
theorem rmade_zero (p : Nat) (w : World) (h : w.cell? ⟨p, 0, none⟩ = some (.pointer none)) : Calls Try.prog 43 #[.pointer (some ⟨p, 0, none⟩)] w fun e w' => e = .returned (.bool false) ∧ w' = w := by
  go_enter Try.func43, Try.ntmps43
  go_wp2
  go_ret
  exact ⟨rfl, rfl⟩
set_option maxHeartbeats 400000 in
theorem rmade_some (p q : Nat) (w : World) (h : w.cell? ⟨p, 0, none⟩ = some (.pointer (some ⟨q, 0, none⟩))) : Calls Try.prog 43 #[.pointer (some ⟨p, 0, none⟩)] w fun e w' => e = .returned (.bool true) ∧ w' = w := by
  go_enter Try.func43, Try.ntmps43
  go_wp2
  go_ret
  exact ⟨rfl, rfl⟩

/-- A writer that is nil, or that no call made. -/
def NoW (w : World) (v : Value) : Prop := v = .pointer none ∨ ∃ p, v = .pointer (some ⟨p, 0, none⟩) ∧ w.cell? ⟨p, 0, none⟩ = some (.pointer none)

theorem NoW.later {w w' : World} {v : Value} (h : NoW w v) (hb : Below w.heap.size w w') : NoW w' v := by
  rcases h with h | ⟨p, h, hc⟩
  · exact .inl h
  · refine .inr ⟨p, h, ?_⟩
    rw [hb.cell (p := ⟨p, 0, none⟩) (World.block_lt_of_cell? w _ hc), hc]
theorem wmade_no {v : Value} {w : World} (h : NoW w v) : Calls Try.prog 39 #[v] w fun e w' => e = .returned (.bool false) ∧ w' = w := by
  rcases h with rfl | ⟨p, rfl, h⟩
  · exact wmade_nil w
  · exact wmade_zero p w h
theorem rmade_no {v : Value} {w : World} (h : NoW w v) : Calls Try.prog 43 #[v] w fun e w' => e = .returned (.bool false) ∧ w' = w := by
  rcases h with rfl | ⟨p, rfl, h⟩
  · exact rmade_nil w
  · exact rmade_zero p w h

set_option maxHeartbeats 400000 in
theorem write_no {v : Value} (b s : Value) {w : World} (h : NoW w v) : Calls Try.prog 50 #[v, b, s] w fun e w' => e = .returned (.int .i64 7) ∧ w' = w := by
  have C : Hid (Calls Try.prog 39 _ _ _) := wmade_no h
  clear h
  go_enter Try.func50, Try.ntmps50
  go_wp2_with (go_at_call 39; refine C.out.mono ?_; rintro e w1 ⟨rfl, hw1⟩; replace hw1 := hw1.symm; subst hw1)
  go_ret
  exact ⟨rfl, rfl⟩
set_option maxHeartbeats 400000 in
theorem wnum_no {v : Value} (n : Nat) {w : World} (hn : n < 18446744073709551616) (h : NoW w v) : Calls Try.prog 36 #[v, .int .u64 n] w fun e w' => e = .returned (.int .i64 7) ∧ Below w.heap.size w w' := by
  have C : Hid (Calls Try.prog 51 _ _ _) := put_any none 0 0 [] n w (isBytes_nil w) (by omega) hn
  have H : Hid (NoW w v) := h
  clear h
  go_enter Try.func36, Try.ntmps36
  go_wp2_with (first | (go_at_call 51; refine C.out.mono ?_; rintro e w1 ⟨rfl, hown1, hB1⟩) | (go_at_call 50; refine (write_no _ _ (H.out.later hB1)).mono ?_; rintro e w2 ⟨rfl, hw2⟩; replace hw2 := hw2.symm; subst hw2))
  go_ret
  exact ⟨rfl, hB1⟩
set_option maxHeartbeats 400000 in
theorem wtext_no {v : Value} (s : ByteArray) {w : World} (hs : s.size ≤ maxLen) (h : NoW w v) : Calls Try.prog 35 #[v, .string s] w fun e w' => e = .returned (.int .i64 7) ∧ Below w.heap.size w w' := by
  unfold maxLen at hs
  have C : Hid (Calls Try.prog 51 _ _ _) := put_any none 0 0 [] s.size w (isBytes_nil w) (by omega) (by omega)
  have H : Hid (NoW w v) := h
  clear h
  go_enter Try.func35, Try.ntmps35
  go_wp2_with (first | (go_at_call 51; refine C.out.mono ?_; rintro e w1 ⟨rfl, hown1, hB1⟩) | (go_at_call 50; refine (write_no _ _ (H.out.later hB1)).mono ?_; rintro e w2 ⟨rfl, hw2⟩; replace hw2 := hw2.symm; subst hw2))
  go_ret
  exact ⟨rfl, hB1⟩
set_option maxHeartbeats 400000 in
theorem wbyte_no {v : Value} (c : Int) {w : World} (h : NoW w v) : Calls Try.prog 52 #[v, .int .u8 c] w fun e w' => e = .returned (.int .i64 7) ∧ Below w.heap.size w w' := by
  have H : Hid (NoW w v) := h
  clear h
  go_enter Try.func52, Try.ntmps52
  go_wp2_with (go_at_call 50; refine (write_no _ _ (H.out.later ((Below.refl _ w).alloc (Nat.le_refl _) _))).mono ?_; rintro e w2 ⟨rfl, hw2⟩; replace hw2 := hw2.symm; subst hw2)
  go_ret
  exact ⟨rfl, (Below.refl _ w).alloc (Nat.le_refl _) _⟩
set_option maxHeartbeats 400000 in
theorem wdone_no {v : Value} {w : World} (h : NoW w v) : Calls Try.prog 20 #[v] w fun e w' => e = .returned (.slice none 0 0) ∧ w' = w := by
  have C : Hid (Calls Try.prog 39 _ _ _) := wmade_no h
  clear h
  go_enter Try.func20, Try.ntmps20
  go_wp2_with (go_at_call 39; refine C.out.mono ?_; rintro e w1 ⟨rfl, hw1⟩; replace hw1 := hw1.symm; subst hw1)
  go_ret
  exact ⟨rfl, rfl⟩
set_option maxHeartbeats 400000 in
theorem rbyte_no {v : Value} {w : World} (h : NoW w v) : Calls Try.prog 62 #[v] w fun e w' => e = .returned (.tuple #[.int .u8 0, .int .i64 7]) ∧ w' = w := by
  have C : Hid (Calls Try.prog 43 _ _ _) := rmade_no h
  clear h
  go_enter Try.func62, Try.ntmps62
  go_wp2_with (go_at_call 43; refine C.out.mono ?_; rintro e w1 ⟨rfl, hw1⟩; replace hw1 := hw1.symm; subst hw1)
  go_ret2
  exact ⟨rfl, rfl⟩
set_option maxHeartbeats 400000 in
theorem rnumber_no {v : Value} {w : World} (h : NoW w v) : Calls Try.prog 61 #[v] w fun e w' => e = .returned (.tuple #[.int .u64 0, .int .i64 0, .int .i64 7]) ∧ w' = w := by
  have C : Hid (Calls Try.prog 43 _ _ _) := rmade_no h
  clear h
  go_enter Try.func61, Try.ntmps61
  go_wp2_with (go_at_call 43; refine C.out.mono ?_; rintro e w1 ⟨rfl, hw1⟩; replace hw1 := hw1.symm; subst hw1)
  go_ret3
  exact ⟨rfl, rfl⟩
set_option maxHeartbeats 400000 in
theorem rtext_no {v : Value} (m : Int) {w : World} (h : NoW w v) : Calls Try.prog 53 #[v, .int .i64 m] w fun e w' => e = .returned (.tuple #[.string ⟨#[]⟩, .int .i64 7]) ∧ w' = w := by
  have C : Hid (Calls Try.prog 61 _ _ _) := rnumber_no h
  clear h
  go_enter Try.func53, Try.ntmps53
  go_wp2_with (go_at_call 61; refine C.out.mono ?_; rintro e w1 ⟨rfl, hw1⟩; replace hw1 := hw1.symm; subst hw1)
  go_ret2
  exact ⟨rfl, rfl⟩
set_option maxHeartbeats 400000 in
theorem rat_no {v : Value} {w : World} (h : NoW w v) : Calls Try.prog 23 #[v] w fun e w' => e = .returned (.int .i64 0) ∧ w' = w := by
  have C : Hid (Calls Try.prog 43 _ _ _) := rmade_no h
  clear h
  go_enter Try.func23, Try.ntmps23
  go_wp2_with (go_at_call 43; refine C.out.mono ?_; rintro e w1 ⟨rfl, hw1⟩; replace hw1 := hw1.symm; subst hw1)
  go_ret
  exact ⟨rfl, rfl⟩
set_option maxHeartbeats 400000 in
theorem rend_no {v : Value} {w : World} (h : NoW w v) : Calls Try.prog 22 #[v] w fun e w' => e = .returned (.int .i64 7) ∧ w' = w := by
  have C : Hid (Calls Try.prog 43 _ _ _) := rmade_no h
  clear h
  go_enter Try.func22, Try.ntmps22
  go_wp2_with (go_at_call 43; refine C.out.mono ?_; rintro e w1 ⟨rfl, hw1⟩; replace hw1 := hw1.symm; subst hw1)
  go_ret
  exact ⟨rfl, rfl⟩
end Go.Proofs.Ytdaldnpajihdlaa
