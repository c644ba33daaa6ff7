/-
  word.Upper, word.large; the document's lower, upper, digit, Sign, Name, Upper.
-/
import Derived.Test.YtbmbdiimbhfeaaaWordName
namespace Go.Proofs.Ytbmbdiimbhfeaaa
open Go.RowKit

def digitB (c : Int) : Bool := decide (48 ≤ c ∧ c ≤ 57)
def signB (c : Int) : Bool := smallB c || laterB c

set_option maxHeartbeats 400000 in
theorem refLower_any (r : Int) (w : World) : Calls Try.prog 67 #[.int .u8 r] w fun e w' => e = .returned (.bool (smallB r)) ∧ w' = w := by
  go_enter Try.func67, Try.ntmps67
  go_wp2
  all_goals go_ret
  all_goals refine ⟨ret_bool ?_, rfl⟩
  all_goals (unfold smallB; rw [Bool.eq_iff_iff]; simp <;> omega)
set_option maxHeartbeats 400000 in
theorem refDigit_any (r : Int) (w : World) : Calls Try.prog 83 #[.int .u8 r] w fun e w' => e = .returned (.bool (digitB r)) ∧ w' = w := by
  go_enter Try.func83, Try.ntmps83
  go_wp2
  all_goals go_ret
  all_goals refine ⟨ret_bool ?_, rfl⟩
  all_goals (unfold digitB; rw [Bool.eq_iff_iff]; simp <;> omega)
set_option maxHeartbeats 1000000 in
theorem refSign_any (r : Int) (w : World) : Calls Try.prog 66 #[.int .u8 r] w fun e w' => e = .returned (.bool (signB r)) ∧ w' = w := by
  obtain ⟨S, hS⟩ : ∃ S, S = smallB r := ⟨_, rfl⟩
  obtain ⟨D, hD⟩ : ∃ D, D = digitB r := ⟨_, rfl⟩
  have hl : ∀ w', Calls Try.prog 67 #[.int .u8 r] w' fun e w'' => e = .returned (.bool S) ∧ w'' = w' := fun w' => by rw [hS]; exact refLower_any r w'
  have hd : ∀ w', Calls Try.prog 83 #[.int .u8 r] w' fun e w'' => e = .returned (.bool D) ∧ w'' = w' := fun w' => by rw [hD]; exact refDigit_any r w'
  have e : signB r = (S || D || decide (r = 95)) := by rw [hS, hD]; unfold signB laterB digitB smallB; rw [Bool.eq_iff_iff]; simp only [Bool.or_eq_true, decide_eq_true_eq]; omega
  rw [e]
  have HL : Hid (∀ w', Calls Try.prog 67 _ w' _) := hl
  have HD : Hid (∀ w', Calls Try.prog 83 _ w' _) := hd
  clear hl hd hS hD e
  cases S <;> cases D
  all_goals (go_enter Try.func66, Try.ntmps66)
  all_goals (go_wp2_with (first | (go_at_call 67; refine (HL.out _).mono ?_; rintro e w1 ⟨rfl, hw1⟩; replace hw1 := hw1.symm; subst hw1) | (go_at_call 83; refine (HD.out _).mono ?_; rintro e w1 ⟨rfl, hw1⟩; replace hw1 := hw1.symm; subst hw1)))
  all_goals go_ret
  all_goals refine ⟨ret_bool ?_, rfl⟩
  all_goals (first | rfl | (rw [Bool.eq_iff_iff]; simp))

theorem sign_ok {c : Int} {j : Nat} (h : okB c j = true) : signB c = true := by
  unfold okB at h; unfold signB; simp only [Bool.or_eq_true, Bool.and_eq_true] at h ⊢
  exact h.imp id And.left
theorem sign_not {c : Int} (j : Nat) (h : signB c = false) : okB c j = false := by
  cases hk : okB c j with
  | false => rfl
  | true => rw [sign_ok hk] at h; cases h
theorem ok_sign {c : Int} {j : Nat} (hj : j ≠ 0) (h : signB c = true) : okB c j = true := by
  unfold okB; unfold signB at h; simp only [Bool.or_eq_true, Bool.and_eq_true, decide_eq_true_eq] at h ⊢
  exact h.imp id fun k => ⟨k, hj⟩

set_option maxRecDepth 100000 in
set_option maxHeartbeats 1000000 in
theorem refName_any (s : ByteArray) (w : World) (hs : s.size ≤ maxLen) : Calls Try.prog 49 #[.string s] w fun e w' => e = .returned (.bool (nameB s)) ∧ w' = w := by
  unfold maxLen at hs
  obtain ⟨B, hB⟩ : ∃ B, B = nameB s := ⟨_, rfl⟩
  rw [← hB]
  have HB : Hid (B = nameB s) := hB
  clear hB
  go_enter Try.func49, Try.ntmps49
  go_wp2
  go_loop [3] (fun i => ∃ k : Nat, k ≤ s.size ∧ i = .int .i64 k ∧ Hid (∀ j, j < k → signB (byteAt s j) = true)) (fun i => s.size - (intOf i).toNat)
  case atStart => exact ⟨0, Nat.zero_le _, rfl, fun j hj => by omega⟩
  case round =>
    obtain ⟨k, hk, rfl, HP⟩ := hrel
    by_cases hlt : k < s.size
    · have hlt' : (k : Int) < (s.size : Int) := by omega
      have hidx := at_str s k hlt
      cases hg : signB (byteAt s k) with
      | false =>
        have C : ∀ w', Calls Try.prog 66 #[.int .u8 (byteAt s k)] w' fun e w'' => e = .returned (.bool false) ∧ w'' = w' := fun w' => by rw [← hg]; exact refSign_any _ w'
        have HC : Hid (∀ w', Calls Try.prog 66 _ w' _) := C
        clear C
        go_wp2_with (first | (go_at_call 66; refine (HC.out _).mono ?_; rintro e w1 ⟨rfl, hw1⟩; replace hw1 := hw1.symm; subst hw1))
        try rw [Exit.noGoto_ret]
        go_ret
        exact ⟨ret_bool (by rw [HB.out, nameB_not k hlt (sign_not k hg)]), rfl⟩
      | true =>
        have C : ∀ w', Calls Try.prog 66 #[.int .u8 (byteAt s k)] w' fun e w'' => e = .returned (.bool true) ∧ w'' = w' := fun w' => by rw [← hg]; exact refSign_any _ w'
        have HC : Hid (∀ w', Calls Try.prog 66 _ w' _) := C
        clear C
        go_wp2_with (first | (go_at_call 66; refine (HC.out _).mono ?_; rintro e w1 ⟨rfl, hw1⟩; replace hw1 := hw1.symm; subst hw1))
        go_round
        case rel => exact ⟨k + 1, by omega, by go_num, fun j hj => if h : j = k then by rw [h]; exact hg else HP.out j (by omega)⟩
        case measure => simp [intOf]; omega
    · obtain rfl : k = s.size := by omega
      have hge : ¬ (s.size : Int) < (s.size : Int) := by omega
      by_cases h0 : s.size = 0
      · have h0' : (s.size : Int) = 0 := by omega
        go_wp2
        go_ret
        refine ⟨ret_bool ?_, rfl⟩
        rw [HB.out]; unfold nameB fitsB; simp [h0]
      · have hidx : ∀ w', (Instr.index 9 (.string s) (.int .i64 0)).run Try.prog w' = .ok (.int .u8 (byteAt s 0)) w' := fun w' => at_str s 0 (by omega) w'
        have HL : Hid (∀ w', Calls Try.prog 67 #[.int .u8 (byteAt s 0)] w' _) := fun w' => refLower_any (byteAt s 0) w'
        have h1 : (1 : Int) ≤ (s.size : Int) := by omega
        by_cases h32 : s.size ≤ 32
        · have h32' : (s.size : Int) ≤ 32 := by omega
          go_wp2_with (first | (go_at_call 67; refine (HL.out _).mono ?_; rintro e w1 ⟨rfl, hw1⟩; replace hw1 := hw1.symm; subst hw1))
          go_ret
          refine ⟨ret_bool ?_, rfl⟩
          rw [HB.out]
          cases hsm : smallB (byteAt s 0) with
          | true =>
            rw [nameB_all]
            · unfold fitsB; rw [decide_eq_true (by omega)]
            · intro j hj
              by_cases hj0 : j = 0
              · rw [hj0]; unfold okB; rw [hsm]; rfl
              · exact ok_sign hj0 (HP.out j hj)
          | false =>
            rw [nameB_not 0 (by omega)]
            unfold okB; rw [hsm]; simp
        · have h32' : ¬ (s.size : Int) ≤ 32 := by omega
          go_wp2_with (first | (go_at_call 67; refine (HL.out _).mono ?_; rintro e w1 ⟨rfl, hw1⟩; replace hw1 := hw1.symm; subst hw1))
          go_ret
          refine ⟨ret_bool ?_, rfl⟩
          rw [HB.out]; unfold nameB fitsB; rw [decide_eq_false (p := 1 ≤ s.size ∧ s.size ≤ 32) (by omega)]; simp

end Go.Proofs.Ytbmbdiimbhfeaaa
