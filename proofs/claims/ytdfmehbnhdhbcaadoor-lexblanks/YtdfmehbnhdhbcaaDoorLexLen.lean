/-
  lex's sets of runes, and how many bytes of a text there are ahead of the first rune that is none of a set. Made by tools/mk_lexlen17.py.
-/
import Derived.Test.YtdfmehbnhdhbcaaDoorLexMath
import Derived.Test.YtdfmehbnhdhbcaaDoorWordName
namespace Go.Proofs.YtdfmehbnhdhbcaaDoor
open Go.RowKit

set_option maxHeartbeats 400000 in
theorem lblank_any (r : Int) (w : World) : Calls Tryd.prog 10 #[.int .i32 r] w fun e w' => e = .returned (.bool (blankB r)) ∧ w' = w := by
  go_enter Tryd.func10, Tryd.ntmps10
  go_wp2
  all_goals go_ret
  all_goals refine ⟨ret_bool ?_, rfl⟩
  all_goals (unfold blankB; rw [Bool.eq_iff_iff]; simp <;> omega)
set_option maxHeartbeats 400000 in
theorem llarge_any (r : Int) (w : World) : Calls Tryd.prog 17 #[.int .i32 r] w fun e w' => e = .returned (.bool (largeB r)) ∧ w' = w := by
  go_enter Tryd.func17, Tryd.ntmps17
  go_wp2
  all_goals go_ret
  all_goals refine ⟨ret_bool ?_, rfl⟩
  all_goals (unfold largeB; rw [Bool.eq_iff_iff]; simp <;> omega)
set_option maxHeartbeats 400000 in
theorem lsmall_any (r : Int) (w : World) : Calls Tryd.prog 18 #[.int .i32 r] w fun e w' => e = .returned (.bool (smallB r)) ∧ w' = w := by
  go_enter Tryd.func18, Tryd.ntmps18
  go_wp2
  all_goals go_ret
  all_goals refine ⟨ret_bool ?_, rfl⟩
  all_goals (unfold smallB; rw [Bool.eq_iff_iff]; simp <;> omega)
set_option maxHeartbeats 400000 in
theorem ldigit_any (r : Int) (w : World) : Calls Tryd.prog 15 #[.int .i32 r] w fun e w' => e = .returned (.bool (digitB r)) ∧ w' = w := by
  go_enter Tryd.func15, Tryd.ntmps15
  go_wp2
  all_goals go_ret
  all_goals refine ⟨ret_bool ?_, rfl⟩
  all_goals (unfold digitB; rw [Bool.eq_iff_iff]; simp <;> omega)
theorem named_or (r : Int) : namedB r = (smallB r || digitB r || decide (r = 95)) := by
  unfold namedB smallB digitB
  rw [Bool.eq_iff_iff]
  simp [or_assoc]
set_option maxHeartbeats 400000 in
theorem lnamed_any (r : Int) (w : World) : Calls Tryd.prog 19 #[.int .i32 r] w fun e w' => e = .returned (.bool (namedB r)) ∧ w' = w := by
  rw [named_or]
  have HS : Hid (∀ w', Calls Tryd.prog 18 #[.int .i32 r] w' _) := fun w' => lsmall_any r w'
  have HD : Hid (∀ w', Calls Tryd.prog 15 #[.int .i32 r] w' _) := fun w' => ldigit_any r w'
  generalize smallB r = a at HS
  generalize digitB r = b at HD
  by_cases h : r = 95
  · subst h
    cases a <;> cases b
    all_goals go_enter Tryd.func19, Tryd.ntmps19
    all_goals go_wp2_with (first | (go_at_call 18; refine (HS.out _).mono ?_; rintro e w1 ⟨rfl, hw1⟩; replace hw1 := hw1.symm; subst hw1) | (go_at_call 15; refine (HD.out _).mono ?_; rintro e w1 ⟨rfl, hw1⟩; replace hw1 := hw1.symm; subst hw1))
    all_goals go_ret
    all_goals exact ⟨ret_bool (by simp), rfl⟩
  · have hb : (r == (95 : Int)) = false := by simp [h]
    have hd : decide (r = 95) = false := decide_eq_false h
    rw [hd]
    clear hd
    cases a <;> cases b
    all_goals go_enter Tryd.func19, Tryd.ntmps19
    all_goals go_wp2_with (first | (go_at_call 18; refine (HS.out _).mono ?_; rintro e w1 ⟨rfl, hw1⟩; replace hw1 := hw1.symm; subst hw1) | (go_at_call 15; refine (HD.out _).mono ?_; rintro e w1 ⟨rfl, hw1⟩; replace hw1 := hw1.symm; subst hw1))
    all_goals go_ret
    all_goals exact ⟨ret_bool (by simp), rfl⟩

set_option maxRecDepth 100000 in
set_option maxHeartbeats 1000000 in
theorem len_blank (s : ByteArray) (w : World) : Calls Tryd.prog 9 #[.string s, .func (.func 10) #[] #[]] w fun e w' => e = .returned (.int .i64 (spanN blankB (bytesS s) : Nat)) ∧ Below w.heap.size w w' := by
  obtain ⟨B, hB⟩ : ∃ B, B = spanN blankB (bytesS s) := ⟨_, rfl⟩
  rw [← hB]
  have HB : Hid (B = spanN blankB (bytesS s)) := hB
  clear hB
  go_enter Tryd.func9, Tryd.ntmps9
  go_wp2
  go_loopw [] (fun w' => ∃ p : Nat, w' = w.iter s p ∧ p ≤ s.size ∧ Hid (∀ j, j < p → blankB (byteAt s j) = true)) (fun w' => s.size - w'.iterPos w.heap.size)
  case atStart => exact ⟨0, rfl, Nat.zero_le _, fun j hj => by omega⟩
  case round =>
    obtain ⟨p, rfl, hps, HP⟩ := hrel
    by_cases hp : p < s.size
    · have hbd := byteAt_bd s p
      by_cases ha : byteAt s p < 128
      · have hnx : ∀ ty, (Instr.next (.pointer (some ⟨w.heap.size, 0, none⟩)) true ty).run Tryd.prog (w.iter s p) = .ok (.tuple #[.bool true, .int .i64 p, .int .i32 (byteAt s p)]) (w.iter s (p + 1)) := fun ty => by
          have e := run_next_any (P := Tryd.prog) w s p ty hp
          rw [rune_byte s p hp ha] at e
          rw [e, Int.toNat_of_nonneg hbd.1]
        obtain ⟨c, hc⟩ : ∃ c, c = byteAt s p := ⟨_, rfl⟩
        have HC : Hid (c = byteAt s p) := hc
        rw [← hc] at hnx hbd ha
        clear hc
        cases hk : blankB c with
        | true =>
          have HS : Hid (∀ w', Calls Tryd.prog 10 #[.int .i32 c] w' fun e w'' => e = .returned (.bool true) ∧ w'' = w') := fun w' => by have := lblank_any c w'; rwa [hk] at this
          have HK : Hid (blankB c = true) := hk
          clear hk
          go_wp2_with (first | (go_at_call 10; refine (HS.out _).mono ?_; rintro e w1 ⟨rfl, hw1⟩; replace hw1 := hw1.symm; subst hw1))
          go_roundw
          case rel => exact ⟨p + 1, rfl, hp, fun j hj => if h : j = p then by rw [h, ← HC.out]; exact HK.out else HP.out j (by omega)⟩
          case measure => simp; omega
        | false =>
          have HS : Hid (∀ w', Calls Tryd.prog 10 #[.int .i32 c] w' fun e w'' => e = .returned (.bool false) ∧ w'' = w') := fun w' => by have := lblank_any c w'; rwa [hk] at this
          have HE : Hid (B = p) := by show B = p; rw [HB.out]; exact span_str blankB s p hps HP.out (.inr (by rw [← HC.out]; exact hk))
          clear hk
          go_wp2_with (first | (go_at_call 10; refine (HS.out _).mono ?_; rintro e w1 ⟨rfl, hw1⟩; replace hw1 := hw1.symm; subst hw1))
          try rw [Exit.noGoto_ret]
          go_ret
          exact ⟨ret_int (by rw [HE.out]), below_iter w s _⟩
      · obtain ⟨r1, r2, _, _⟩ := rune_over s p hp (by omega)
        have hnx : ∀ ty, (Instr.next (.pointer (some ⟨w.heap.size, 0, none⟩)) true ty).run Tryd.prog (w.iter s p) = _ := fun ty => run_next_any (P := Tryd.prog) w s p ty hp
        have HE : Hid (B = p) := by show B = p; rw [HB.out]; exact span_str blankB s p hps HP.out (.inr (by unfold blankB; exact decide_eq_false (by omega)))
        obtain ⟨c, hc⟩ : ∃ c : Int, c = ((Utf8.decode s p).1 : Int) := ⟨_, rfl⟩
        have hc1 : 128 ≤ c := by omega
        rw [← hc] at hnx
        generalize (Utf8.decode s p).2 = q at hnx
        have hs : blankB c = false := decide_eq_false (by omega)
        have HS : Hid (∀ w', Calls Tryd.prog 10 #[.int .i32 c] w' fun e w'' => e = .returned (.bool false) ∧ w'' = w') := fun w' => by have := lblank_any c w'; rwa [hs] at this
        clear hs ha r1 r2 hbd hc
        go_wp2_with (first | (go_at_call 10; refine (HS.out _).mono ?_; rintro e w1 ⟨rfl, hw1⟩; replace hw1 := hw1.symm; subst hw1))
        try rw [Exit.noGoto_ret]
        go_ret
        exact ⟨ret_int (by rw [HE.out]), below_iter w s _⟩
    · have hnx : ∀ ty, (Instr.next (.pointer (some ⟨w.heap.size, 0, none⟩)) true ty).run Tryd.prog (w.iter s p) = _ := fun ty => run_next_end w s p ty hp
      have HE : Hid (B = s.size) := by show B = s.size; rw [HB.out]; exact span_str blankB s s.size (Nat.le_refl _) (fun j hj => HP.out j (by omega)) (.inl rfl)
      go_wp2
      go_ret
      exact ⟨ret_int (by rw [HE.out]), below_iter w s p⟩
set_option maxRecDepth 100000 in
set_option maxHeartbeats 1000000 in
theorem len_large (s : ByteArray) (w : World) : Calls Tryd.prog 9 #[.string s, .func (.func 17) #[] #[]] w fun e w' => e = .returned (.int .i64 (spanN largeB (bytesS s) : Nat)) ∧ Below w.heap.size w w' := by
  obtain ⟨B, hB⟩ : ∃ B, B = spanN largeB (bytesS s) := ⟨_, rfl⟩
  rw [← hB]
  have HB : Hid (B = spanN largeB (bytesS s)) := hB
  clear hB
  go_enter Tryd.func9, Tryd.ntmps9
  go_wp2
  go_loopw [] (fun w' => ∃ p : Nat, w' = w.iter s p ∧ p ≤ s.size ∧ Hid (∀ j, j < p → largeB (byteAt s j) = true)) (fun w' => s.size - w'.iterPos w.heap.size)
  case atStart => exact ⟨0, rfl, Nat.zero_le _, fun j hj => by omega⟩
  case round =>
    obtain ⟨p, rfl, hps, HP⟩ := hrel
    by_cases hp : p < s.size
    · have hbd := byteAt_bd s p
      by_cases ha : byteAt s p < 128
      · have hnx : ∀ ty, (Instr.next (.pointer (some ⟨w.heap.size, 0, none⟩)) true ty).run Tryd.prog (w.iter s p) = .ok (.tuple #[.bool true, .int .i64 p, .int .i32 (byteAt s p)]) (w.iter s (p + 1)) := fun ty => by
          have e := run_next_any (P := Tryd.prog) w s p ty hp
          rw [rune_byte s p hp ha] at e
          rw [e, Int.toNat_of_nonneg hbd.1]
        obtain ⟨c, hc⟩ : ∃ c, c = byteAt s p := ⟨_, rfl⟩
        have HC : Hid (c = byteAt s p) := hc
        rw [← hc] at hnx hbd ha
        clear hc
        cases hk : largeB c with
        | true =>
          have HS : Hid (∀ w', Calls Tryd.prog 17 #[.int .i32 c] w' fun e w'' => e = .returned (.bool true) ∧ w'' = w') := fun w' => by have := llarge_any c w'; rwa [hk] at this
          have HK : Hid (largeB c = true) := hk
          clear hk
          go_wp2_with (first | (go_at_call 17; refine (HS.out _).mono ?_; rintro e w1 ⟨rfl, hw1⟩; replace hw1 := hw1.symm; subst hw1))
          go_roundw
          case rel => exact ⟨p + 1, rfl, hp, fun j hj => if h : j = p then by rw [h, ← HC.out]; exact HK.out else HP.out j (by omega)⟩
          case measure => simp; omega
        | false =>
          have HS : Hid (∀ w', Calls Tryd.prog 17 #[.int .i32 c] w' fun e w'' => e = .returned (.bool false) ∧ w'' = w') := fun w' => by have := llarge_any c w'; rwa [hk] at this
          have HE : Hid (B = p) := by show B = p; rw [HB.out]; exact span_str largeB s p hps HP.out (.inr (by rw [← HC.out]; exact hk))
          clear hk
          go_wp2_with (first | (go_at_call 17; refine (HS.out _).mono ?_; rintro e w1 ⟨rfl, hw1⟩; replace hw1 := hw1.symm; subst hw1))
          try rw [Exit.noGoto_ret]
          go_ret
          exact ⟨ret_int (by rw [HE.out]), below_iter w s _⟩
      · obtain ⟨r1, r2, _, _⟩ := rune_over s p hp (by omega)
        have hnx : ∀ ty, (Instr.next (.pointer (some ⟨w.heap.size, 0, none⟩)) true ty).run Tryd.prog (w.iter s p) = _ := fun ty => run_next_any (P := Tryd.prog) w s p ty hp
        have HE : Hid (B = p) := by show B = p; rw [HB.out]; exact span_str largeB s p hps HP.out (.inr (by unfold largeB; exact decide_eq_false (by omega)))
        obtain ⟨c, hc⟩ : ∃ c : Int, c = ((Utf8.decode s p).1 : Int) := ⟨_, rfl⟩
        have hc1 : 128 ≤ c := by omega
        rw [← hc] at hnx
        generalize (Utf8.decode s p).2 = q at hnx
        have hs : largeB c = false := decide_eq_false (by omega)
        have HS : Hid (∀ w', Calls Tryd.prog 17 #[.int .i32 c] w' fun e w'' => e = .returned (.bool false) ∧ w'' = w') := fun w' => by have := llarge_any c w'; rwa [hs] at this
        clear hs ha r1 r2 hbd hc
        go_wp2_with (first | (go_at_call 17; refine (HS.out _).mono ?_; rintro e w1 ⟨rfl, hw1⟩; replace hw1 := hw1.symm; subst hw1))
        try rw [Exit.noGoto_ret]
        go_ret
        exact ⟨ret_int (by rw [HE.out]), below_iter w s _⟩
    · have hnx : ∀ ty, (Instr.next (.pointer (some ⟨w.heap.size, 0, none⟩)) true ty).run Tryd.prog (w.iter s p) = _ := fun ty => run_next_end w s p ty hp
      have HE : Hid (B = s.size) := by show B = s.size; rw [HB.out]; exact span_str largeB s s.size (Nat.le_refl _) (fun j hj => HP.out j (by omega)) (.inl rfl)
      go_wp2
      go_ret
      exact ⟨ret_int (by rw [HE.out]), below_iter w s p⟩
set_option maxRecDepth 100000 in
set_option maxHeartbeats 1000000 in
theorem len_digit (s : ByteArray) (w : World) : Calls Tryd.prog 9 #[.string s, .func (.func 15) #[] #[]] w fun e w' => e = .returned (.int .i64 (spanN digitB (bytesS s) : Nat)) ∧ Below w.heap.size w w' := by
  obtain ⟨B, hB⟩ : ∃ B, B = spanN digitB (bytesS s) := ⟨_, rfl⟩
  rw [← hB]
  have HB : Hid (B = spanN digitB (bytesS s)) := hB
  clear hB
  go_enter Tryd.func9, Tryd.ntmps9
  go_wp2
  go_loopw [] (fun w' => ∃ p : Nat, w' = w.iter s p ∧ p ≤ s.size ∧ Hid (∀ j, j < p → digitB (byteAt s j) = true)) (fun w' => s.size - w'.iterPos w.heap.size)
  case atStart => exact ⟨0, rfl, Nat.zero_le _, fun j hj => by omega⟩
  case round =>
    obtain ⟨p, rfl, hps, HP⟩ := hrel
    by_cases hp : p < s.size
    · have hbd := byteAt_bd s p
      by_cases ha : byteAt s p < 128
      · have hnx : ∀ ty, (Instr.next (.pointer (some ⟨w.heap.size, 0, none⟩)) true ty).run Tryd.prog (w.iter s p) = .ok (.tuple #[.bool true, .int .i64 p, .int .i32 (byteAt s p)]) (w.iter s (p + 1)) := fun ty => by
          have e := run_next_any (P := Tryd.prog) w s p ty hp
          rw [rune_byte s p hp ha] at e
          rw [e, Int.toNat_of_nonneg hbd.1]
        obtain ⟨c, hc⟩ : ∃ c, c = byteAt s p := ⟨_, rfl⟩
        have HC : Hid (c = byteAt s p) := hc
        rw [← hc] at hnx hbd ha
        clear hc
        cases hk : digitB c with
        | true =>
          have HS : Hid (∀ w', Calls Tryd.prog 15 #[.int .i32 c] w' fun e w'' => e = .returned (.bool true) ∧ w'' = w') := fun w' => by have := ldigit_any c w'; rwa [hk] at this
          have HK : Hid (digitB c = true) := hk
          clear hk
          go_wp2_with (first | (go_at_call 15; refine (HS.out _).mono ?_; rintro e w1 ⟨rfl, hw1⟩; replace hw1 := hw1.symm; subst hw1))
          go_roundw
          case rel => exact ⟨p + 1, rfl, hp, fun j hj => if h : j = p then by rw [h, ← HC.out]; exact HK.out else HP.out j (by omega)⟩
          case measure => simp; omega
        | false =>
          have HS : Hid (∀ w', Calls Tryd.prog 15 #[.int .i32 c] w' fun e w'' => e = .returned (.bool false) ∧ w'' = w') := fun w' => by have := ldigit_any c w'; rwa [hk] at this
          have HE : Hid (B = p) := by show B = p; rw [HB.out]; exact span_str digitB s p hps HP.out (.inr (by rw [← HC.out]; exact hk))
          clear hk
          go_wp2_with (first | (go_at_call 15; refine (HS.out _).mono ?_; rintro e w1 ⟨rfl, hw1⟩; replace hw1 := hw1.symm; subst hw1))
          try rw [Exit.noGoto_ret]
          go_ret
          exact ⟨ret_int (by rw [HE.out]), below_iter w s _⟩
      · obtain ⟨r1, r2, _, _⟩ := rune_over s p hp (by omega)
        have hnx : ∀ ty, (Instr.next (.pointer (some ⟨w.heap.size, 0, none⟩)) true ty).run Tryd.prog (w.iter s p) = _ := fun ty => run_next_any (P := Tryd.prog) w s p ty hp
        have HE : Hid (B = p) := by show B = p; rw [HB.out]; exact span_str digitB s p hps HP.out (.inr (by unfold digitB; exact decide_eq_false (by omega)))
        obtain ⟨c, hc⟩ : ∃ c : Int, c = ((Utf8.decode s p).1 : Int) := ⟨_, rfl⟩
        have hc1 : 128 ≤ c := by omega
        rw [← hc] at hnx
        generalize (Utf8.decode s p).2 = q at hnx
        have hs : digitB c = false := decide_eq_false (by omega)
        have HS : Hid (∀ w', Calls Tryd.prog 15 #[.int .i32 c] w' fun e w'' => e = .returned (.bool false) ∧ w'' = w') := fun w' => by have := ldigit_any c w'; rwa [hs] at this
        clear hs ha r1 r2 hbd hc
        go_wp2_with (first | (go_at_call 15; refine (HS.out _).mono ?_; rintro e w1 ⟨rfl, hw1⟩; replace hw1 := hw1.symm; subst hw1))
        try rw [Exit.noGoto_ret]
        go_ret
        exact ⟨ret_int (by rw [HE.out]), below_iter w s _⟩
    · have hnx : ∀ ty, (Instr.next (.pointer (some ⟨w.heap.size, 0, none⟩)) true ty).run Tryd.prog (w.iter s p) = _ := fun ty => run_next_end w s p ty hp
      have HE : Hid (B = s.size) := by show B = s.size; rw [HB.out]; exact span_str digitB s s.size (Nat.le_refl _) (fun j hj => HP.out j (by omega)) (.inl rfl)
      go_wp2
      go_ret
      exact ⟨ret_int (by rw [HE.out]), below_iter w s p⟩
set_option maxRecDepth 100000 in
set_option maxHeartbeats 1000000 in
theorem len_named (s : ByteArray) (w : World) : Calls Tryd.prog 9 #[.string s, .func (.func 19) #[] #[]] w fun e w' => e = .returned (.int .i64 (spanN namedB (bytesS s) : Nat)) ∧ Below w.heap.size w w' := by
  obtain ⟨B, hB⟩ : ∃ B, B = spanN namedB (bytesS s) := ⟨_, rfl⟩
  rw [← hB]
  have HB : Hid (B = spanN namedB (bytesS s)) := hB
  clear hB
  go_enter Tryd.func9, Tryd.ntmps9
  go_wp2
  go_loopw [] (fun w' => ∃ p : Nat, w' = w.iter s p ∧ p ≤ s.size ∧ Hid (∀ j, j < p → namedB (byteAt s j) = true)) (fun w' => s.size - w'.iterPos w.heap.size)
  case atStart => exact ⟨0, rfl, Nat.zero_le _, fun j hj => by omega⟩
  case round =>
    obtain ⟨p, rfl, hps, HP⟩ := hrel
    by_cases hp : p < s.size
    · have hbd := byteAt_bd s p
      by_cases ha : byteAt s p < 128
      · have hnx : ∀ ty, (Instr.next (.pointer (some ⟨w.heap.size, 0, none⟩)) true ty).run Tryd.prog (w.iter s p) = .ok (.tuple #[.bool true, .int .i64 p, .int .i32 (byteAt s p)]) (w.iter s (p + 1)) := fun ty => by
          have e := run_next_any (P := Tryd.prog) w s p ty hp
          rw [rune_byte s p hp ha] at e
          rw [e, Int.toNat_of_nonneg hbd.1]
        obtain ⟨c, hc⟩ : ∃ c, c = byteAt s p := ⟨_, rfl⟩
        have HC : Hid (c = byteAt s p) := hc
        rw [← hc] at hnx hbd ha
        clear hc
        cases hk : namedB c with
        | true =>
          have HS : Hid (∀ w', Calls Tryd.prog 19 #[.int .i32 c] w' fun e w'' => e = .returned (.bool true) ∧ w'' = w') := fun w' => by have := lnamed_any c w'; rwa [hk] at this
          have HK : Hid (namedB c = true) := hk
          clear hk
          go_wp2_with (first | (go_at_call 19; refine (HS.out _).mono ?_; rintro e w1 ⟨rfl, hw1⟩; replace hw1 := hw1.symm; subst hw1))
          go_roundw
          case rel => exact ⟨p + 1, rfl, hp, fun j hj => if h : j = p then by rw [h, ← HC.out]; exact HK.out else HP.out j (by omega)⟩
          case measure => simp; omega
        | false =>
          have HS : Hid (∀ w', Calls Tryd.prog 19 #[.int .i32 c] w' fun e w'' => e = .returned (.bool false) ∧ w'' = w') := fun w' => by have := lnamed_any c w'; rwa [hk] at this
          have HE : Hid (B = p) := by show B = p; rw [HB.out]; exact span_str namedB s p hps HP.out (.inr (by rw [← HC.out]; exact hk))
          clear hk
          go_wp2_with (first | (go_at_call 19; refine (HS.out _).mono ?_; rintro e w1 ⟨rfl, hw1⟩; replace hw1 := hw1.symm; subst hw1))
          try rw [Exit.noGoto_ret]
          go_ret
          exact ⟨ret_int (by rw [HE.out]), below_iter w s _⟩
      · obtain ⟨r1, r2, _, _⟩ := rune_over s p hp (by omega)
        have hnx : ∀ ty, (Instr.next (.pointer (some ⟨w.heap.size, 0, none⟩)) true ty).run Tryd.prog (w.iter s p) = _ := fun ty => run_next_any (P := Tryd.prog) w s p ty hp
        have HE : Hid (B = p) := by show B = p; rw [HB.out]; exact span_str namedB s p hps HP.out (.inr (by unfold namedB; exact decide_eq_false (by omega)))
        obtain ⟨c, hc⟩ : ∃ c : Int, c = ((Utf8.decode s p).1 : Int) := ⟨_, rfl⟩
        have hc1 : 128 ≤ c := by omega
        rw [← hc] at hnx
        generalize (Utf8.decode s p).2 = q at hnx
        have hs : namedB c = false := decide_eq_false (by omega)
        have HS : Hid (∀ w', Calls Tryd.prog 19 #[.int .i32 c] w' fun e w'' => e = .returned (.bool false) ∧ w'' = w') := fun w' => by have := lnamed_any c w'; rwa [hs] at this
        clear hs ha r1 r2 hbd hc
        go_wp2_with (first | (go_at_call 19; refine (HS.out _).mono ?_; rintro e w1 ⟨rfl, hw1⟩; replace hw1 := hw1.symm; subst hw1))
        try rw [Exit.noGoto_ret]
        go_ret
        exact ⟨ret_int (by rw [HE.out]), below_iter w s _⟩
    · have hnx : ∀ ty, (Instr.next (.pointer (some ⟨w.heap.size, 0, none⟩)) true ty).run Tryd.prog (w.iter s p) = _ := fun ty => run_next_end w s p ty hp
      have HE : Hid (B = s.size) := by show B = s.size; rw [HB.out]; exact span_str namedB s s.size (Nat.le_refl _) (fun j hj => HP.out j (by omega)) (.inl rfl)
      go_wp2
      go_ret
      exact ⟨ret_int (by rw [HE.out]), below_iter w s p⟩
end Go.Proofs.YtdfmehbnhdhbcaaDoor
