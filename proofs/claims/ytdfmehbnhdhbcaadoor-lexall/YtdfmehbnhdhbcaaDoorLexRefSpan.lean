/-
  The document's span of layer 17. Made by tools/mk_lexone17.py.
-/
import Derived.Test.YtdfmehbnhdhbcaaDoorLexRefSign
namespace Go.Proofs.YtdfmehbnhdhbcaaDoor
open Go.RowKit

theorem span_drop (p : Int → Bool) (s : ByteArray) (i n : Nat) (h : i + n ≤ s.size) (hj : ∀ j, j < n → p (byteAt s (i + j)) = true) (he : i + n = s.size ∨ p (byteAt s (i + n)) = false) : spanN p ((bytesS s).drop i) = n := by
  refine spanN_is p _ n (by rw [List.length_drop, bytesS_length]; omega) (fun j hjn => ?_) ?_
  · rw [List.getElem?_drop]
    exact hj j hjn
  · rw [List.length_drop, bytesS_length, List.getElem?_drop]
    exact he.imp (fun h => by omega) id
set_option maxRecDepth 100000 in
set_option maxHeartbeats 2000000 in
theorem rspan_up (s : ByteArray) (i : Nat) (w : World) (h : i ≤ s.size) (hs : s.size ≤ 8192) :
    Calls Tryd.prog 27 #[.string s, .int .i64 (i : Int), .int .i64 1] w fun e w' => e = .returned (.int .i64 (spanN largeB ((bytesS s).drop i) : Nat)) ∧ w' = w := by
  obtain ⟨B, hB⟩ : ∃ B, B = spanN largeB ((bytesS s).drop i) := ⟨_, rfl⟩
  rw [← hB]
  have HB : Hid (B = spanN largeB ((bytesS s).drop i)) := hB
  clear hB
  go_enter Tryd.func27, Tryd.ntmps27
  go_wp2
  go_loop [7] (fun u => ∃ n : Nat, i + n ≤ s.size ∧ u = .int .i64 n ∧ Hid (∀ j, j < n → largeB (byteAt s (i + j)) = true)) (fun u => s.size - (intOf u).toNat)
  case atStart => exact ⟨0, by omega, rfl, fun j hj => by omega⟩
  case round =>
    obtain ⟨n, hn, rfl, HP⟩ := hrel
    by_cases hlt : i + n < s.size
    · have hlt' : (i : Int) + (n : Int) < (s.size : Int) := by omega
      have hi : ∀ w' : World, (Instr.index 9 (.string s) (.int .i64 ((i : Int) + (n : Int)))).run Tryd.prog w' = .ok (.int .u8 (byteAt s (i + n))) w' := fun w' => at_str s (i + n) hlt w'
      obtain ⟨c, hc⟩ : ∃ c, c = byteAt s (i + n) := ⟨_, rfl⟩
      have HC : Hid (c = byteAt s (i + n)) := hc
      rw [← hc] at hi
      clear hc
      cases hk : largeB c with
      | true =>
        have HS : Hid (∀ w', Calls Tryd.prog 22 #[.int .u8 c] w' fun e w'' => e = .returned (.bool true) ∧ w'' = w') := fun w' => by have := rupper_any c w'; rwa [hk] at this
        have HK : Hid (largeB c = true) := hk
        clear hk
        go_wp2_with (first | (go_at_call 22; refine (HS.out _).mono ?_; rintro e w1 ⟨rfl, hw1⟩; replace hw1 := hw1.symm; subst hw1))
        go_round
        case rel => exact ⟨n + 1, by omega, by go_num, fun j hj => if h : j = n then by rw [h, ← HC.out]; exact HK.out else HP.out j (by omega)⟩
        case measure => simp [intOf]; omega
      | false =>
        have HS : Hid (∀ w', Calls Tryd.prog 22 #[.int .u8 c] w' fun e w'' => e = .returned (.bool false) ∧ w'' = w') := fun w' => by have := rupper_any c w'; rwa [hk] at this
        have HE : Hid (B = n) := by show B = n; rw [HB.out]; exact span_drop largeB s i n hn HP.out (.inr (by rw [← HC.out]; exact hk))
        clear hk
        go_wp2_with (first | (go_at_call 22; refine (HS.out _).mono ?_; rintro e w1 ⟨rfl, hw1⟩; replace hw1 := hw1.symm; subst hw1))
        try rw [Exit.noGoto_ret]
        go_ret
        exact ⟨ret_int (by rw [HE.out]), rfl⟩
    · have hlt' : ¬ (i : Int) + (n : Int) < (s.size : Int) := by omega
      have HE : Hid (B = n) := by show B = n; rw [HB.out]; exact span_drop largeB s i n hn HP.out (.inl (by omega))
      go_wp2
      go_ret
      exact ⟨ret_int (by rw [HE.out]), rfl⟩
set_option maxRecDepth 100000 in
set_option maxHeartbeats 2000000 in
theorem rspan_nm (s : ByteArray) (i : Nat) (w : World) (h : i ≤ s.size) (hs : s.size ≤ 8192) :
    Calls Tryd.prog 27 #[.string s, .int .i64 (i : Int), .int .i64 2] w fun e w' => e = .returned (.int .i64 (spanN namedB ((bytesS s).drop i) : Nat)) ∧ w' = w := by
  obtain ⟨B, hB⟩ : ∃ B, B = spanN namedB ((bytesS s).drop i) := ⟨_, rfl⟩
  rw [← hB]
  have HB : Hid (B = spanN namedB ((bytesS s).drop i)) := hB
  clear hB
  go_enter Tryd.func27, Tryd.ntmps27
  go_wp2
  go_loop [7] (fun u => ∃ n : Nat, i + n ≤ s.size ∧ u = .int .i64 n ∧ Hid (∀ j, j < n → namedB (byteAt s (i + j)) = true)) (fun u => s.size - (intOf u).toNat)
  case atStart => exact ⟨0, by omega, rfl, fun j hj => by omega⟩
  case round =>
    obtain ⟨n, hn, rfl, HP⟩ := hrel
    by_cases hlt : i + n < s.size
    · have hlt' : (i : Int) + (n : Int) < (s.size : Int) := by omega
      have hi : ∀ w' : World, (Instr.index 9 (.string s) (.int .i64 ((i : Int) + (n : Int)))).run Tryd.prog w' = .ok (.int .u8 (byteAt s (i + n))) w' := fun w' => at_str s (i + n) hlt w'
      obtain ⟨c, hc⟩ : ∃ c, c = byteAt s (i + n) := ⟨_, rfl⟩
      have HC : Hid (c = byteAt s (i + n)) := hc
      rw [← hc] at hi
      clear hc
      cases hk : namedB c with
      | true =>
        have HS : Hid (∀ w', Calls Tryd.prog 33 #[.int .u8 c] w' fun e w'' => e = .returned (.bool true) ∧ w'' = w') := fun w' => by have := refSign_any c w'; rw [signB_named] at this; rwa [hk] at this
        have HK : Hid (namedB c = true) := hk
        clear hk
        go_wp2_with (first | (go_at_call 33; refine (HS.out _).mono ?_; rintro e w1 ⟨rfl, hw1⟩; replace hw1 := hw1.symm; subst hw1))
        go_round
        case rel => exact ⟨n + 1, by omega, by go_num, fun j hj => if h : j = n then by rw [h, ← HC.out]; exact HK.out else HP.out j (by omega)⟩
        case measure => simp [intOf]; omega
      | false =>
        have HS : Hid (∀ w', Calls Tryd.prog 33 #[.int .u8 c] w' fun e w'' => e = .returned (.bool false) ∧ w'' = w') := fun w' => by have := refSign_any c w'; rw [signB_named] at this; rwa [hk] at this
        have HE : Hid (B = n) := by show B = n; rw [HB.out]; exact span_drop namedB s i n hn HP.out (.inr (by rw [← HC.out]; exact hk))
        clear hk
        go_wp2_with (first | (go_at_call 33; refine (HS.out _).mono ?_; rintro e w1 ⟨rfl, hw1⟩; replace hw1 := hw1.symm; subst hw1))
        try rw [Exit.noGoto_ret]
        go_ret
        exact ⟨ret_int (by rw [HE.out]), rfl⟩
    · have hlt' : ¬ (i : Int) + (n : Int) < (s.size : Int) := by omega
      have HE : Hid (B = n) := by show B = n; rw [HB.out]; exact span_drop namedB s i n hn HP.out (.inl (by omega))
      go_wp2
      go_ret
      exact ⟨ret_int (by rw [HE.out]), rfl⟩
set_option maxRecDepth 100000 in
set_option maxHeartbeats 2000000 in
theorem rspan_dg (s : ByteArray) (i : Nat) (w : World) (h : i ≤ s.size) (hs : s.size ≤ 8192) :
    Calls Tryd.prog 27 #[.string s, .int .i64 (i : Int), .int .i64 3] w fun e w' => e = .returned (.int .i64 (spanN digitB ((bytesS s).drop i) : Nat)) ∧ w' = w := by
  obtain ⟨B, hB⟩ : ∃ B, B = spanN digitB ((bytesS s).drop i) := ⟨_, rfl⟩
  rw [← hB]
  have HB : Hid (B = spanN digitB ((bytesS s).drop i)) := hB
  clear hB
  go_enter Tryd.func27, Tryd.ntmps27
  go_wp2
  go_loop [7] (fun u => ∃ n : Nat, i + n ≤ s.size ∧ u = .int .i64 n ∧ Hid (∀ j, j < n → digitB (byteAt s (i + j)) = true)) (fun u => s.size - (intOf u).toNat)
  case atStart => exact ⟨0, by omega, rfl, fun j hj => by omega⟩
  case round =>
    obtain ⟨n, hn, rfl, HP⟩ := hrel
    by_cases hlt : i + n < s.size
    · have hlt' : (i : Int) + (n : Int) < (s.size : Int) := by omega
      have hi : ∀ w' : World, (Instr.index 9 (.string s) (.int .i64 ((i : Int) + (n : Int)))).run Tryd.prog w' = .ok (.int .u8 (byteAt s (i + n))) w' := fun w' => at_str s (i + n) hlt w'
      obtain ⟨c, hc⟩ : ∃ c, c = byteAt s (i + n) := ⟨_, rfl⟩
      have HC : Hid (c = byteAt s (i + n)) := hc
      rw [← hc] at hi
      clear hc
      cases hk : digitB c with
      | true =>
        have HS : Hid (∀ w', Calls Tryd.prog 24 #[.int .u8 c] w' fun e w'' => e = .returned (.bool true) ∧ w'' = w') := fun w' => by have := rdigit_any c w'; rwa [hk] at this
        have HK : Hid (digitB c = true) := hk
        clear hk
        go_wp2_with (first | (go_at_call 24; refine (HS.out _).mono ?_; rintro e w1 ⟨rfl, hw1⟩; replace hw1 := hw1.symm; subst hw1))
        go_round
        case rel => exact ⟨n + 1, by omega, by go_num, fun j hj => if h : j = n then by rw [h, ← HC.out]; exact HK.out else HP.out j (by omega)⟩
        case measure => simp [intOf]; omega
      | false =>
        have HS : Hid (∀ w', Calls Tryd.prog 24 #[.int .u8 c] w' fun e w'' => e = .returned (.bool false) ∧ w'' = w') := fun w' => by have := rdigit_any c w'; rwa [hk] at this
        have HE : Hid (B = n) := by show B = n; rw [HB.out]; exact span_drop digitB s i n hn HP.out (.inr (by rw [← HC.out]; exact hk))
        clear hk
        go_wp2_with (first | (go_at_call 24; refine (HS.out _).mono ?_; rintro e w1 ⟨rfl, hw1⟩; replace hw1 := hw1.symm; subst hw1))
        try rw [Exit.noGoto_ret]
        go_ret
        exact ⟨ret_int (by rw [HE.out]), rfl⟩
    · have hlt' : ¬ (i : Int) + (n : Int) < (s.size : Int) := by omega
      have HE : Hid (B = n) := by show B = n; rw [HB.out]; exact span_drop digitB s i n hn HP.out (.inl (by omega))
      go_wp2
      go_ret
      exact ⟨ret_int (by rw [HE.out]), rfl⟩
end Go.Proofs.YtdfmehbnhdhbcaaDoor
