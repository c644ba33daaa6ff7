/-
  What a wire.Writer and a wire.Reader that is nil, or that no call made, answers: ErrZero; none; 0 (P2.3).
-/
import Derived.Test.YtjnkplmcopihbaaBytes
namespace Go.Proofs.Ytjnkplmcopihbaa
open Go.RowKit

set_option maxHeartbeats 400000 in
theorem wmade_nil (w : World) : Calls Try.prog 32 #[.pointer none] w fun e w' => e = .returned (.bool false) ∧ w' = w := by
  go_enter Try.func32, Try.ntmps32
  go_wp2
  go_ret
  exact ⟨rfl, rfl⟩
set_option maxHeartbeats 400000 in
theorem wmade_zero (p : Nat) (w : World) (h : w.cell? ⟨p, 0, none⟩ = some (.pointer none)) : Calls Try.prog 32 #[.pointer (some ⟨p, 0, none⟩)] w fun e w' => e = .returned (.bool false) ∧ w' = w := by
  go_enter Try.func32, Try.ntmps32
  go_wp2
  go_ret
  exact ⟨rfl, rfl⟩
set_option maxHeartbeats 400000 in
theorem wmade_some (p q : Nat) (w : World) (h : w.cell? ⟨p, 0, none⟩ = some (.pointer (some ⟨q, 0, none⟩))) : Calls Try.prog 32 #[.pointer (some ⟨p, 0, none⟩)] w fun e w' => e = .returned (.bool true) ∧ w' = w := by
  go_enter Try.func32, Try.ntmps32
  go_wp2
  go_ret
  exact ⟨rfl, rfl⟩
set_option maxHeartbeats 400000 in
theorem rmade_nil (w : World) : Calls Try.prog 38 #[.pointer none] w fun e w' => e = .returned (.bool false) ∧ w' = w := by
  go_enter Try.func38, Try.ntmps38
  go_wp2
  go_ret
  exact ⟨rfl, rfl⟩
set_option maxHeartbeats 400000 in
theorem rmade_zero (p : Nat) (w : World) (h : w.cell? ⟨p, 0, none⟩ = some (.pointer none)) : Calls Try.prog 38 #[.pointer (some ⟨p, 0, none⟩)] w fun e w' => e = .returned (.bool false) ∧ w' = w := by
  go_enter Try.func38, Try.ntmps38
  go_wp2
  go_ret
  exact ⟨rfl, rfl⟩
set_option maxHeartbeats 400000 in
theorem rmade_some (p q : Nat) (w : World) (h : w.cell? ⟨p, 0, none⟩ = some (.pointer (some ⟨q, 0, none⟩))) : Calls Try.prog 38 #[.pointer (some ⟨p, 0, none⟩)] w fun e w' => e = .returned (.bool true) ∧ w' = w := by
  go_enter Try.func38, Try.ntmps38
  go_wp2
  go_ret
  exact ⟨rfl, rfl⟩

/-- A writer that is nil, or that no call made. -/
def NoW (w : World) (v : Value) : Prop := v = .pointer none ∨ ∃ p, v = .pointer (some ⟨p, 0, none⟩) ∧ w.cell? ⟨p, 0, none⟩ = some (.pointer none)

theorem NoW.later {w w' : World} {v : Value} (h : NoW w v) (hb : Below w.heap.size w w') : NoW w' v := by
  rcases h with h | ⟨p, h, hc⟩
  · exact .inl h
  · refine .inr ⟨p, h, ?_⟩
    rw [hb.cell (p := ⟨p, 0, none⟩) (World.block_lt_of_cell? w _ hc), hc]
theorem wmade_no {v : Value} {w : World} (h : NoW w v) : Calls Try.prog 32 #[v] w fun e w' => e = .returned (.bool false) ∧ w' = w := by
  rcases h with rfl | ⟨p, rfl, h⟩
  · exact wmade_nil w
  · exact wmade_zero p w h
theorem rmade_no {v : Value} {w : World} (h : NoW w v) : Calls Try.prog 38 #[v] w fun e w' => e = .returned (.bool false) ∧ w' = w := by
  rcases h with rfl | ⟨p, rfl, h⟩
  · exact rmade_nil w
  · exact rmade_zero p w h

set_option maxHeartbeats 400000 in
theorem write_no {v : Value} (b s : Value) {w : World} (h : NoW w v) : Calls Try.prog 40 #[v, b, s] w fun e w' => e = .returned (.int .i64 7) ∧ w' = w := by
  have C : Hid (Calls Try.prog 32 _ _ _) := wmade_no h
  clear h
  go_enter Try.func40, Try.ntmps40
  go_wp2_with (go_at_call 32; refine C.out.mono ?_; rintro e w1 ⟨rfl, hw1⟩; replace hw1 := hw1.symm; subst hw1)
  go_ret
  exact ⟨rfl, rfl⟩
set_option maxHeartbeats 400000 in
theorem wnum_no {v : Value} (n : Nat) {w : World} (hn : n < 18446744073709551616) (h : NoW w v) : Calls Try.prog 28 #[v, .int .u64 n] w fun e w' => e = .returned (.int .i64 7) ∧ Below w.heap.size w w' := by
  have C : Hid (Calls Try.prog 41 _ _ _) := put_any none 0 0 [] n w (isBytes_nil w) (by omega) hn
  have H : Hid (NoW w v) := h
  clear h
  go_enter Try.func28, Try.ntmps28
  go_wp2_with (first | (go_at_call 41; refine C.out.mono ?_; rintro e w1 ⟨rfl, hown1, hB1⟩) | (go_at_call 40; refine (write_no _ _ (H.out.later hB1)).mono ?_; rintro e w2 ⟨rfl, hw2⟩; replace hw2 := hw2.symm; subst hw2))
  go_ret
  exact ⟨rfl, hB1⟩
set_option maxHeartbeats 400000 in
theorem wtext_no {v : Value} (s : ByteArray) {w : World} (hs : s.size ≤ maxLen) (h : NoW w v) : Calls Try.prog 29 #[v, .string s] w fun e w' => e = .returned (.int .i64 7) ∧ Below w.heap.size w w' := by
  unfold maxLen at hs
  have C : Hid (Calls Try.prog 41 _ _ _) := put_any none 0 0 [] s.size w (isBytes_nil w) (by omega) (by omega)
  have H : Hid (NoW w v) := h
  clear h
  go_enter Try.func29, Try.ntmps29
  go_wp2_with (first | (go_at_call 41; refine C.out.mono ?_; rintro e w1 ⟨rfl, hown1, hB1⟩) | (go_at_call 40; refine (write_no _ _ (H.out.later hB1)).mono ?_; rintro e w2 ⟨rfl, hw2⟩; replace hw2 := hw2.symm; subst hw2))
  go_ret
  exact ⟨rfl, hB1⟩
set_option maxHeartbeats 400000 in
theorem wdone_no {v : Value} {w : World} (h : NoW w v) : Calls Try.prog 20 #[v] w fun e w' => e = .returned (.slice none 0 0) ∧ w' = w := by
  have C : Hid (Calls Try.prog 32 _ _ _) := wmade_no h
  clear h
  go_enter Try.func20, Try.ntmps20
  go_wp2_with (go_at_call 32; refine C.out.mono ?_; rintro e w1 ⟨rfl, hw1⟩; replace hw1 := hw1.symm; subst hw1)
  go_ret
  exact ⟨rfl, rfl⟩
set_option maxHeartbeats 400000 in
theorem rnumber_no {v : Value} {w : World} (h : NoW w v) : Calls Try.prog 44 #[v] w fun e w' => e = .returned (.tuple #[.int .u64 0, .int .i64 0, .int .i64 7]) ∧ w' = w := by
  have C : Hid (Calls Try.prog 38 _ _ _) := rmade_no h
  clear h
  go_enter Try.func44, Try.ntmps44
  go_wp2_with (go_at_call 38; refine C.out.mono ?_; rintro e w1 ⟨rfl, hw1⟩; replace hw1 := hw1.symm; subst hw1)
  go_ret3
  exact ⟨rfl, rfl⟩
set_option maxHeartbeats 400000 in
theorem rtext_no {v : Value} (m : Int) {w : World} (h : NoW w v) : Calls Try.prog 37 #[v, .int .i64 m] w fun e w' => e = .returned (.tuple #[.string ⟨#[]⟩, .int .i64 7]) ∧ w' = w := by
  have C : Hid (Calls Try.prog 44 _ _ _) := rnumber_no h
  clear h
  go_enter Try.func37, Try.ntmps37
  go_wp2_with (go_at_call 44; refine C.out.mono ?_; rintro e w1 ⟨rfl, hw1⟩; replace hw1 := hw1.symm; subst hw1)
  go_ret2
  exact ⟨rfl, rfl⟩
set_option maxHeartbeats 400000 in
theorem rend_no {v : Value} {w : World} (h : NoW w v) : Calls Try.prog 23 #[v] w fun e w' => e = .returned (.int .i64 7) ∧ w' = w := by
  have C : Hid (Calls Try.prog 38 _ _ _) := rmade_no h
  clear h
  go_enter Try.func23, Try.ntmps23
  go_wp2_with (go_at_call 38; refine C.out.mono ?_; rintro e w1 ⟨rfl, hw1⟩; replace hw1 := hw1.symm; subst hw1)
  go_ret
  exact ⟨rfl, rfl⟩
end Go.Proofs.Ytjnkplmcopihbaa
