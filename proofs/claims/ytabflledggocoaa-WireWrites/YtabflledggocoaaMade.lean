/-
  What a wire.Writer and a wire.Reader that is nil, or that no call made, answers: ErrZero; none; 0 (P2.3).
-/
import Derived.Test.YtabflledggocoaaRefPut
import Derived.Test.YtabflledggocoaaHeld
namespace Go.Proofs.Ytabflledggocoaa
open Go.RowKit

set_option maxHeartbeats 400000 in
theorem wmade_nil (w : World) : Calls Try.prog 31 #[.pointer none] w fun e w' => e = .returned (.bool false) ∧ w' = w := by
  go_enter Try.func31, Try.ntmps31
  go_wp2
  go_ret
  exact ⟨rfl, rfl⟩
set_option maxHeartbeats 400000 in
theorem wmade_zero (p : Nat) (w : World) (h : w.cell? ⟨p, 0, none⟩ = some (.pointer none)) : Calls Try.prog 31 #[.pointer (some ⟨p, 0, none⟩)] w fun e w' => e = .returned (.bool false) ∧ w' = w := by
  go_enter Try.func31, Try.ntmps31
  go_wp2
  go_ret
  exact ⟨rfl, rfl⟩
set_option maxHeartbeats 400000 in
theorem wmade_some (p q : Nat) (w : World) (h : w.cell? ⟨p, 0, none⟩ = some (.pointer (some ⟨q, 0, none⟩))) : Calls Try.prog 31 #[.pointer (some ⟨p, 0, none⟩)] w fun e w' => e = .returned (.bool true) ∧ w' = w := by
  go_enter Try.func31, Try.ntmps31
  go_wp2
  go_ret
  exact ⟨rfl, rfl⟩
set_option maxHeartbeats 400000 in
theorem rmade_nil (w : World) : Calls Try.prog 37 #[.pointer none] w fun e w' => e = .returned (.bool false) ∧ w' = w := by
  go_enter Try.func37, Try.ntmps37
  go_wp2
  go_ret
  exact ⟨rfl, rfl⟩
set_option maxHeartbeats 400000 in
theorem rmade_zero (p : Nat) (w : World) (h : w.cell? ⟨p, 0, none⟩ = some (.pointer none)) : Calls Try.prog 37 #[.pointer (some ⟨p, 0, none⟩)] w fun e w' => e = .returned (.bool false) ∧ w' = w := by
  go_enter Try.func37, Try.ntmps37
  go_wp2
  go_ret
  exact ⟨rfl, rfl⟩
set_option maxHeartbeats 400000 in
theorem rmade_some (p q : Nat) (w : World) (h : w.cell? ⟨p, 0, none⟩ = some (.pointer (some ⟨q, 0, none⟩))) : Calls Try.prog 37 #[.pointer (some ⟨p, 0, none⟩)] w fun e w' => e = .returned (.bool true) ∧ w' = w := by
  go_enter Try.func37, Try.ntmps37
  go_wp2
  go_ret
  exact ⟨rfl, rfl⟩

theorem isBytes_nil (w : World) : IsBytes w none 0 0 [] := ⟨rfl, Nat.le_refl _, Nat.zero_le _, fun _ => rfl, fun j => by simp, fun h => by omega⟩

/-- Bytes that came in, as a string. -/
theorem conv_in {w : World} {a : Option Addr} {len cap : Nat} {ys : List Int} (h : IsBytes w a len cap ys) : (convert 22 9 (.slice a len cap)).run Try.prog w = .ok (.string (strOf ys)) w := by
  obtain ⟨h1, h2, h3, h4, h5, h6⟩ := h
  cases a with
  | none =>
    obtain rfl := h4 rfl
    obtain rfl : len = 0 := by omega
    have : ys = [] := List.eq_nil_of_length_eq_zero h1
    subst this
    exact conv_none w 0 0
  | some x =>
    refine conv_some w x len cap ys h1 fun j v hj => ?_
    have hj' : j < ys.length := by
      have := (List.getElem?_eq_some_iff.1 hj).1
      rwa [cellsOf_length] at this
    obtain ⟨b, off, e, hc⟩ := h6 (by omega)
    cases e
    rw [addr_add, hc j (by omega)]
    simp [cellsOf, hj'] at hj
    simp [hj', hj]
theorem strOf_from (l : List Int) : ∀ r : ByteArray, (l.foldl (fun r n => r.push (UInt8.ofNat n.toNat)) r).size = r.size + l.length := by
  induction l with
  | nil => intro r; rfl
  | cons x l ih => intro r; rw [List.foldl_cons, ih, ByteArray.size_push, List.length_cons]; omega
theorem strOf_size (l : List Int) : (strOf l).size = l.length := by
  rw [strOf, strOf_from]; simp

/-- A writer that is nil, or that no call made. -/
def NoW (w : World) (v : Value) : Prop := v = .pointer none ∨ ∃ p, v = .pointer (some ⟨p, 0, none⟩) ∧ w.cell? ⟨p, 0, none⟩ = some (.pointer none)

theorem NoW.later {w w' : World} {v : Value} (h : NoW w v) (hb : Below w.heap.size w w') : NoW w' v := by
  rcases h with h | ⟨p, h, hc⟩
  · exact .inl h
  · refine .inr ⟨p, h, ?_⟩
    rw [hb.cell (p := ⟨p, 0, none⟩) (World.block_lt_of_cell? w _ hc), hc]
theorem wmade_no {v : Value} {w : World} (h : NoW w v) : Calls Try.prog 31 #[v] w fun e w' => e = .returned (.bool false) ∧ w' = w := by
  rcases h with rfl | ⟨p, rfl, h⟩
  · exact wmade_nil w
  · exact wmade_zero p w h
theorem rmade_no {v : Value} {w : World} (h : NoW w v) : Calls Try.prog 37 #[v] w fun e w' => e = .returned (.bool false) ∧ w' = w := by
  rcases h with rfl | ⟨p, rfl, h⟩
  · exact rmade_nil w
  · exact rmade_zero p w h

set_option maxHeartbeats 400000 in
theorem write_no {v : Value} (b s : Value) {w : World} (h : NoW w v) : Calls Try.prog 25 #[v, b, s] w fun e w' => e = .returned (.int .i64 7) ∧ w' = w := by
  have C : Hid (Calls Try.prog 31 _ _ _) := wmade_no h
  clear h
  go_enter Try.func25, Try.ntmps25
  go_wp2_with (go_at_call 31; refine C.out.mono ?_; rintro e w1 ⟨rfl, hw1⟩; replace hw1 := hw1.symm; subst hw1)
  go_ret
  exact ⟨rfl, rfl⟩
set_option maxHeartbeats 400000 in
theorem wnum_no {v : Value} (n : Nat) {w : World} (hn : n < 18446744073709551616) (h : NoW w v) : Calls Try.prog 9 #[v, .int .u64 n] w fun e w' => e = .returned (.int .i64 7) ∧ Below w.heap.size w w' := by
  have C : Hid (Calls Try.prog 26 _ _ _) := put_any none 0 0 [] n w (isBytes_nil w) (by omega) hn
  have H : Hid (NoW w v) := h
  clear h
  go_enter Try.func9, Try.ntmps9
  go_wp2_with (first | (go_at_call 26; refine C.out.mono ?_; rintro e w1 ⟨rfl, hown1, hB1⟩) | (go_at_call 25; refine (write_no _ _ (H.out.later hB1)).mono ?_; rintro e w2 ⟨rfl, hw2⟩; replace hw2 := hw2.symm; subst hw2))
  go_ret
  exact ⟨rfl, hB1⟩
set_option maxHeartbeats 400000 in
theorem wtext_no {v : Value} (s : ByteArray) {w : World} (hs : s.size ≤ maxLen) (h : NoW w v) : Calls Try.prog 13 #[v, .string s] w fun e w' => e = .returned (.int .i64 7) ∧ Below w.heap.size w w' := by
  unfold maxLen at hs
  have C : Hid (Calls Try.prog 26 _ _ _) := put_any none 0 0 [] s.size w (isBytes_nil w) (by omega) (by omega)
  have H : Hid (NoW w v) := h
  clear h
  go_enter Try.func13, Try.ntmps13
  go_wp2_with (first | (go_at_call 26; refine C.out.mono ?_; rintro e w1 ⟨rfl, hown1, hB1⟩) | (go_at_call 25; refine (write_no _ _ (H.out.later hB1)).mono ?_; rintro e w2 ⟨rfl, hw2⟩; replace hw2 := hw2.symm; subst hw2))
  go_ret
  exact ⟨rfl, hB1⟩
set_option maxHeartbeats 400000 in
theorem wbyte_no {v : Value} (c : Int) {w : World} (h : NoW w v) : Calls Try.prog 15 #[v, .int .u8 c] w fun e w' => e = .returned (.int .i64 7) ∧ Below w.heap.size w w' := by
  have H : Hid (NoW w v) := h
  clear h
  go_enter Try.func15, Try.ntmps15
  go_wp2_with (go_at_call 25; refine (write_no _ _ (H.out.later ((Below.refl _ w).alloc (Nat.le_refl _) _))).mono ?_; rintro e w2 ⟨rfl, hw2⟩; replace hw2 := hw2.symm; subst hw2)
  go_ret
  exact ⟨rfl, (Below.refl _ w).alloc (Nat.le_refl _) _⟩
set_option maxHeartbeats 400000 in
theorem wdone_no {v : Value} {w : World} (h : NoW w v) : Calls Try.prog 17 #[v] w fun e w' => e = .returned (.slice none 0 0) ∧ w' = w := by
  have C : Hid (Calls Try.prog 31 _ _ _) := wmade_no h
  clear h
  go_enter Try.func17, Try.ntmps17
  go_wp2_with (go_at_call 31; refine C.out.mono ?_; rintro e w1 ⟨rfl, hw1⟩; replace hw1 := hw1.symm; subst hw1)
  go_ret
  exact ⟨rfl, rfl⟩
set_option maxHeartbeats 400000 in
theorem rbyte_no {v : Value} {w : World} (h : NoW w v) : Calls Try.prog 22 #[v] w fun e w' => e = .returned (.tuple #[.int .u8 0, .int .i64 7]) ∧ w' = w := by
  have C : Hid (Calls Try.prog 37 _ _ _) := rmade_no h
  clear h
  go_enter Try.func22, Try.ntmps22
  go_wp2_with (go_at_call 37; refine C.out.mono ?_; rintro e w1 ⟨rfl, hw1⟩; replace hw1 := hw1.symm; subst hw1)
  go_ret2
  exact ⟨rfl, rfl⟩
set_option maxHeartbeats 400000 in
theorem rnumber_no {v : Value} {w : World} (h : NoW w v) : Calls Try.prog 35 #[v] w fun e w' => e = .returned (.tuple #[.int .u64 0, .int .i64 0, .int .i64 7]) ∧ w' = w := by
  have C : Hid (Calls Try.prog 37 _ _ _) := rmade_no h
  clear h
  go_enter Try.func35, Try.ntmps35
  go_wp2_with (go_at_call 37; refine C.out.mono ?_; rintro e w1 ⟨rfl, hw1⟩; replace hw1 := hw1.symm; subst hw1)
  go_ret3
  exact ⟨rfl, rfl⟩
set_option maxHeartbeats 400000 in
theorem rtext_no {v : Value} (m : Int) {w : World} (h : NoW w v) : Calls Try.prog 21 #[v, .int .i64 m] w fun e w' => e = .returned (.tuple #[.string ⟨#[]⟩, .int .i64 7]) ∧ w' = w := by
  have C : Hid (Calls Try.prog 35 _ _ _) := rnumber_no h
  clear h
  go_enter Try.func21, Try.ntmps21
  go_wp2_with (go_at_call 35; refine C.out.mono ?_; rintro e w1 ⟨rfl, hw1⟩; replace hw1 := hw1.symm; subst hw1)
  go_ret2
  exact ⟨rfl, rfl⟩
set_option maxHeartbeats 400000 in
theorem rat_no {v : Value} {w : World} (h : NoW w v) : Calls Try.prog 24 #[v] w fun e w' => e = .returned (.int .i64 0) ∧ w' = w := by
  have C : Hid (Calls Try.prog 37 _ _ _) := rmade_no h
  clear h
  go_enter Try.func24, Try.ntmps24
  go_wp2_with (go_at_call 37; refine C.out.mono ?_; rintro e w1 ⟨rfl, hw1⟩; replace hw1 := hw1.symm; subst hw1)
  go_ret
  exact ⟨rfl, rfl⟩
set_option maxHeartbeats 400000 in
theorem rend_no {v : Value} {w : World} (h : NoW w v) : Calls Try.prog 23 #[v] w fun e w' => e = .returned (.int .i64 7) ∧ w' = w := by
  have C : Hid (Calls Try.prog 37 _ _ _) := rmade_no h
  clear h
  go_enter Try.func23, Try.ntmps23
  go_wp2_with (go_at_call 37; refine C.out.mono ?_; rintro e w1 ⟨rfl, hw1⟩; replace hw1 := hw1.symm; subst hw1)
  go_ret
  exact ⟨rfl, rfl⟩
end Go.Proofs.Ytabflledggocoaa
