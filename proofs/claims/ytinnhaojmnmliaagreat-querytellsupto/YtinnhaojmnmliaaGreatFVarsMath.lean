/-
  How many names there are; of no function.
  word.Upper, word.large; the document's lower, upper, digit, Sign, Name, Upper.
  The document's Right of a value (haruspexref06), at any value.
  A part of a sum; of no function.
-/
import Derived.Test.YtinnhaojmnmliaaGreatCExprMath
import Derived.Test.YtinnhaojmnmliaaGreatEExprSort
import Derived.Test.YtinnhaojmnmliaaGreatCValOrderMath
import Derived.Test.YtinnhaojmnmliaaGreatEWordName
import Derived.Test.YtinnhaojmnmliaaGreatCTxt
namespace Go.Proofs.YtinnhaojmnmliaaGreat
open Go.RowKit

theorem intoAll_snoc (s : ByteArray) : ∀ (m l : List ByteArray), intoAll l (m ++ [s]) = intoL s (intoAll l m)
  | [], l => rfl
  | a :: m, l => by
    show intoAll (intoL a l) (m ++ [s]) = intoL s (intoAll (intoL a l) m)
    exact intoAll_snoc s m _
theorem into_len (s : ByteArray) : ∀ l : List ByteArray, (intoL s l).length ≤ l.length + 1
  | [] => by simp [intoL]
  | a :: l => by
    have := into_len s l
    simp only [intoL]
    split
    · simp
    · split
      · simp
      · simp; omega
theorem intoAll_len : ∀ (m l : List ByteArray), (intoAll l m).length ≤ l.length + m.length
  | [], l => by simp [intoAll]
  | a :: m, l => by
    have h1 := intoAll_len m (intoL a l)
    have h2 := into_len a l
    simp only [intoAll, List.length_cons]
    omega
theorem accN_len (l : List ByteArray) (f : Nat → List ByteArray) (g : Nat → Nat) : ∀ n, (∀ i, i < n → (f i).length ≤ g i) → (accN l f n).length ≤ l.length + sumN g n
  | 0, _ => by simp [accN, sumN]
  | n + 1, h => by
    have h1 := accN_len l f g n fun i hi => h i (by omega)
    have h2 := h n (by omega)
    have h3 := intoAll_len (f n) (accN l f n)
    simp only [accN, sumN]
    omega
theorem vars_len : ∀ x : X, (varsX x).length ≤ x.size := by
  refine X.ind fun x ih => ?_
  rw [varsX_eq, x.size_eq]
  have h := accN_len (if x.k = 2 then [x.s] else []) (fun i => varsX (x.c i)) (fun i => (x.c i).size) x.n ih
  have h1 : (if x.k = 2 then [x.s] else ([] : List ByteArray)).length ≤ 1 := by split <;> simp
  omega
theorem take_snoc (l : List ByteArray) (k : Nat) (h : k < l.length) : l.take (k + 1) = l.take k ++ [atS l k] := by
  rw [List.take_add_one]
  simp [atS, h]
theorem cnt_small : ∀ n : Nat, n ≤ 1048576 → cnt n = n
  | 0, _ => rfl
  | n + 1, h => by
    simp only [cnt]
    rw [cnt_small n (by omega), wrap64]
    omega
end Go.Proofs.YtinnhaojmnmliaaGreat
namespace Go.Proofs.YtinnhaojmnmliaaGreat
open Go.RowKit

def digitB (c : Int) : Bool := decide (48 ≤ c ∧ c ≤ 57)
def signB (c : Int) : Bool := smallB c || laterB c

set_option maxHeartbeats 400000 in
theorem refLower_any (r : Int) (w : World) : Calls Tryz.prog 66 #[.int .u8 r] w fun e w' => e = .returned (.bool (smallB r)) ∧ w' = w := by
  go_enter Tryz.func66, Tryz.ntmps66
  go_wp2
  all_goals go_ret
  all_goals refine ⟨ret_bool ?_, rfl⟩
  all_goals (unfold smallB; rw [Bool.eq_iff_iff]; simp <;> omega)
set_option maxHeartbeats 400000 in
theorem refDigit_any (r : Int) (w : World) : Calls Tryz.prog 92 #[.int .u8 r] w fun e w' => e = .returned (.bool (digitB r)) ∧ w' = w := by
  go_enter Tryz.func92, Tryz.ntmps92
  go_wp2
  all_goals go_ret
  all_goals refine ⟨ret_bool ?_, rfl⟩
  all_goals (unfold digitB; rw [Bool.eq_iff_iff]; simp <;> omega)
set_option maxHeartbeats 1000000 in
theorem refSign_any (r : Int) (w : World) : Calls Tryz.prog 65 #[.int .u8 r] w fun e w' => e = .returned (.bool (signB r)) ∧ w' = w := by
  obtain ⟨S, hS⟩ : ∃ S, S = smallB r := ⟨_, rfl⟩
  obtain ⟨D, hD⟩ : ∃ D, D = digitB r := ⟨_, rfl⟩
  have hl : ∀ w', Calls Tryz.prog 66 #[.int .u8 r] w' fun e w'' => e = .returned (.bool S) ∧ w'' = w' := fun w' => by rw [hS]; exact refLower_any r w'
  have hd : ∀ w', Calls Tryz.prog 92 #[.int .u8 r] w' fun e w'' => e = .returned (.bool D) ∧ w'' = w' := fun w' => by rw [hD]; exact refDigit_any r w'
  have e : signB r = (S || D || decide (r = 95)) := by rw [hS, hD]; unfold signB laterB digitB smallB; rw [Bool.eq_iff_iff]; simp only [Bool.or_eq_true, decide_eq_true_eq]; omega
  rw [e]
  have HL : Hid (∀ w', Calls Tryz.prog 66 _ w' _) := hl
  have HD : Hid (∀ w', Calls Tryz.prog 92 _ w' _) := hd
  clear hl hd hS hD e
  cases S <;> cases D
  all_goals (go_enter Tryz.func65, Tryz.ntmps65)
  all_goals (go_wp2_with (first | (go_at_call 66; refine (HL.out _).mono ?_; rintro e w1 ⟨rfl, hw1⟩; replace hw1 := hw1.symm; subst hw1) | (go_at_call 92; refine (HD.out _).mono ?_; rintro e w1 ⟨rfl, hw1⟩; replace hw1 := hw1.symm; subst hw1)))
  all_goals go_ret
  all_goals refine ⟨ret_bool ?_, rfl⟩
  all_goals (first | rfl | (rw [Bool.eq_iff_iff]; simp))

theorem sign_ok {c : Int} {j : Nat} (h : okB c j = true) : signB c = true := by
  unfold okB at h; unfold signB; simp only [Bool.or_eq_true, Bool.and_eq_true] at h ⊢
  exact h.imp id And.left
theorem sign_not {c : Int} (j : Nat) (h : signB c = false) : okB c j = false := by
  cases hk : okB c j with
  | false => rfl
  | true => rw [sign_ok hk] at h; cases h
theorem ok_sign {c : Int} {j : Nat} (hj : j ≠ 0) (h : signB c = true) : okB c j = true := by
  unfold okB; unfold signB at h; simp only [Bool.or_eq_true, Bool.and_eq_true, decide_eq_true_eq] at h ⊢
  exact h.imp id fun k => ⟨k, hj⟩

set_option maxRecDepth 100000 in
set_option maxHeartbeats 1000000 in
theorem refName_any (s : ByteArray) (w : World) (hs : s.size ≤ maxLen) : Calls Tryz.prog 32 #[.string s] w fun e w' => e = .returned (.bool (nameB s)) ∧ w' = w := by
  unfold maxLen at hs
  obtain ⟨B, hB⟩ : ∃ B, B = nameB s := ⟨_, rfl⟩
  rw [← hB]
  have HB : Hid (B = nameB s) := hB
  clear hB
  go_enter Tryz.func32, Tryz.ntmps32
  go_wp2
  go_loop [3] (fun i => ∃ k : Nat, k ≤ s.size ∧ i = .int .i64 k ∧ Hid (∀ j, j < k → signB (byteAt s j) = true)) (fun i => s.size - (intOf i).toNat)
  case atStart => exact ⟨0, Nat.zero_le _, rfl, fun j hj => by omega⟩
  case round =>
    obtain ⟨k, hk, rfl, HP⟩ := hrel
    by_cases hlt : k < s.size
    · have hlt' : (k : Int) < (s.size : Int) := by omega
      have hidx := at_str s k hlt
      cases hg : signB (byteAt s k) with
      | false =>
        have C : ∀ w', Calls Tryz.prog 65 #[.int .u8 (byteAt s k)] w' fun e w'' => e = .returned (.bool false) ∧ w'' = w' := fun w' => by rw [← hg]; exact refSign_any _ w'
        have HC : Hid (∀ w', Calls Tryz.prog 65 _ w' _) := C
        clear C
        go_wp2_with (first | (go_at_call 65; refine (HC.out _).mono ?_; rintro e w1 ⟨rfl, hw1⟩; replace hw1 := hw1.symm; subst hw1))
        try rw [Exit.noGoto_ret]
        go_ret
        exact ⟨ret_bool (by rw [HB.out, nameB_not k hlt (sign_not k hg)]), rfl⟩
      | true =>
        have C : ∀ w', Calls Tryz.prog 65 #[.int .u8 (byteAt s k)] w' fun e w'' => e = .returned (.bool true) ∧ w'' = w' := fun w' => by rw [← hg]; exact refSign_any _ w'
        have HC : Hid (∀ w', Calls Tryz.prog 65 _ w' _) := C
        clear C
        go_wp2_with (first | (go_at_call 65; refine (HC.out _).mono ?_; rintro e w1 ⟨rfl, hw1⟩; replace hw1 := hw1.symm; subst hw1))
        go_round
        case rel => exact ⟨k + 1, by omega, by go_num, fun j hj => if h : j = k then by rw [h]; exact hg else HP.out j (by omega)⟩
        case measure => simp [intOf]; omega
    · obtain rfl : k = s.size := by omega
      have hge : ¬ (s.size : Int) < (s.size : Int) := by omega
      by_cases h0 : s.size = 0
      · have h0' : (s.size : Int) = 0 := by omega
        go_wp2
        go_ret
        refine ⟨ret_bool ?_, rfl⟩
        rw [HB.out]; unfold nameB fitsB; simp [h0]
      · have hidx : ∀ w', (Instr.index 9 (.string s) (.int .i64 0)).run Tryz.prog w' = .ok (.int .u8 (byteAt s 0)) w' := fun w' => at_str s 0 (by omega) w'
        have HL : Hid (∀ w', Calls Tryz.prog 66 #[.int .u8 (byteAt s 0)] w' _) := fun w' => refLower_any (byteAt s 0) w'
        have h1 : (1 : Int) ≤ (s.size : Int) := by omega
        by_cases h32 : s.size ≤ 32
        · have h32' : (s.size : Int) ≤ 32 := by omega
          go_wp2_with (first | (go_at_call 66; refine (HL.out _).mono ?_; rintro e w1 ⟨rfl, hw1⟩; replace hw1 := hw1.symm; subst hw1))
          go_ret
          refine ⟨ret_bool ?_, rfl⟩
          rw [HB.out]
          cases hsm : smallB (byteAt s 0) with
          | true =>
            rw [nameB_all]
            · unfold fitsB; rw [decide_eq_true (by omega)]
            · intro j hj
              by_cases hj0 : j = 0
              · rw [hj0]; unfold okB; rw [hsm]; rfl
              · exact ok_sign hj0 (HP.out j hj)
          | false =>
            rw [nameB_not 0 (by omega)]
            unfold okB; rw [hsm]; simp
        · have h32' : ¬ (s.size : Int) ≤ 32 := by omega
          go_wp2_with (first | (go_at_call 66; refine (HL.out _).mono ?_; rintro e w1 ⟨rfl, hw1⟩; replace hw1 := hw1.symm; subst hw1))
          go_ret
          refine ⟨ret_bool ?_, rfl⟩
          rw [HB.out]; unfold nameB fitsB; rw [decide_eq_false (p := 1 ≤ s.size ∧ s.size ≤ 32) (by omega)]; simp

end Go.Proofs.YtinnhaojmnmliaaGreat
namespace Go.Proofs.YtinnhaojmnmliaaGreat
open Go.RowKit

set_option maxHeartbeats 1000000 in
theorem refRight_none (k n : Int) (s : ByteArray) (w : World) (h0 : (k == 0) = false) (h1 : (k == 1) = false) (h2 : (k == 2) = false) (h3 : (k == 3) = false) : Calls Tryz.prog 93 #[valV k n s] w fun e w' => e = .returned (.bool false) ∧ Below w.heap.size w w' := by
  go_enter Tryz.func93, Tryz.ntmps93
  go_wp2
  go_ret
  exact ⟨rfl, (Below.refl _ _).alloc (Nat.le_refl _) _⟩
set_option maxHeartbeats 1000000 in
theorem refRight_null0  (w : World) : Calls Tryz.prog 93 #[valV 0 0 ⟨#[]⟩] w fun e w' => e = .returned (.bool true) ∧ Below w.heap.size w w' := by
  go_enter Tryz.func93, Tryz.ntmps93
  go_wp2
  go_ret
  exact ⟨rfl, (Below.refl _ _).alloc (Nat.le_refl _) _⟩
set_option maxHeartbeats 1000000 in
theorem refRight_null1 (n : Int) (s : ByteArray) (w : World) (hn : (n == 0) = false) : Calls Tryz.prog 93 #[valV 0 n s] w fun e w' => e = .returned (.bool false) ∧ Below w.heap.size w w' := by
  go_enter Tryz.func93, Tryz.ntmps93
  go_wp2
  go_ret
  exact ⟨rfl, (Below.refl _ _).alloc (Nat.le_refl _) _⟩
set_option maxHeartbeats 1000000 in
theorem refRight_null2 (s : ByteArray) (w : World) (hs : (s.toList == []) = false) : Calls Tryz.prog 93 #[valV 0 0 s] w fun e w' => e = .returned (.bool false) ∧ Below w.heap.size w w' := by
  go_enter Tryz.func93, Tryz.ntmps93
  go_wp2
  go_ret
  exact ⟨rfl, (Below.refl _ _).alloc (Nat.le_refl _) _⟩
set_option maxHeartbeats 1000000 in
theorem refRight_bool0  (w : World) : Calls Tryz.prog 93 #[valV 1 0 ⟨#[]⟩] w fun e w' => e = .returned (.bool true) ∧ Below w.heap.size w w' := by
  go_enter Tryz.func93, Tryz.ntmps93
  go_wp2
  go_ret
  exact ⟨rfl, (Below.refl _ _).alloc (Nat.le_refl _) _⟩
set_option maxHeartbeats 1000000 in
theorem refRight_bool1  (w : World) : Calls Tryz.prog 93 #[valV 1 1 ⟨#[]⟩] w fun e w' => e = .returned (.bool true) ∧ Below w.heap.size w w' := by
  go_enter Tryz.func93, Tryz.ntmps93
  go_wp2
  go_ret
  exact ⟨rfl, (Below.refl _ _).alloc (Nat.le_refl _) _⟩
set_option maxHeartbeats 1000000 in
theorem refRight_bool2 (s : ByteArray) (w : World) (hs : (s.toList == []) = false) : Calls Tryz.prog 93 #[valV 1 0 s] w fun e w' => e = .returned (.bool false) ∧ Below w.heap.size w w' := by
  go_enter Tryz.func93, Tryz.ntmps93
  go_wp2
  go_ret
  exact ⟨rfl, (Below.refl _ _).alloc (Nat.le_refl _) _⟩
set_option maxHeartbeats 1000000 in
theorem refRight_bool3 (s : ByteArray) (w : World) (hs : (s.toList == []) = false) : Calls Tryz.prog 93 #[valV 1 1 s] w fun e w' => e = .returned (.bool false) ∧ Below w.heap.size w w' := by
  go_enter Tryz.func93, Tryz.ntmps93
  go_wp2
  go_ret
  exact ⟨rfl, (Below.refl _ _).alloc (Nat.le_refl _) _⟩
set_option maxHeartbeats 1000000 in
theorem refRight_bool4 (n : Int) (s : ByteArray) (w : World) (hn : (n == 0) = false) (h1 : (n == 1) = false) : Calls Tryz.prog 93 #[valV 1 n s] w fun e w' => e = .returned (.bool false) ∧ Below w.heap.size w w' := by
  go_enter Tryz.func93, Tryz.ntmps93
  go_wp2
  go_ret
  exact ⟨rfl, (Below.refl _ _).alloc (Nat.le_refl _) _⟩
set_option maxHeartbeats 1000000 in
theorem refRight_int0 (n : Int) (w : World) : Calls Tryz.prog 93 #[valV 2 n ⟨#[]⟩] w fun e w' => e = .returned (.bool true) ∧ Below w.heap.size w w' := by
  go_enter Tryz.func93, Tryz.ntmps93
  go_wp2
  go_ret
  exact ⟨rfl, (Below.refl _ _).alloc (Nat.le_refl _) _⟩
set_option maxHeartbeats 1000000 in
theorem refRight_int1 (n : Int) (s : ByteArray) (w : World) (hs : (s.toList == []) = false) : Calls Tryz.prog 93 #[valV 2 n s] w fun e w' => e = .returned (.bool false) ∧ Below w.heap.size w w' := by
  go_enter Tryz.func93, Tryz.ntmps93
  go_wp2
  go_ret
  exact ⟨rfl, (Below.refl _ _).alloc (Nat.le_refl _) _⟩
set_option maxHeartbeats 1000000 in
theorem refRight_text0 (s : ByteArray) (w : World) (hl : (s.size : Int) ≤ 256) : Calls Tryz.prog 93 #[valV 3 0 s] w fun e w' => e = .returned (.bool true) ∧ Below w.heap.size w w' := by
  go_enter Tryz.func93, Tryz.ntmps93
  go_wp2
  go_ret
  exact ⟨rfl, (Below.refl _ _).alloc (Nat.le_refl _) _⟩
set_option maxHeartbeats 1000000 in
theorem refRight_text1 (n : Int) (s : ByteArray) (w : World) (hn : (n == 0) = false) : Calls Tryz.prog 93 #[valV 3 n s] w fun e w' => e = .returned (.bool false) ∧ Below w.heap.size w w' := by
  go_enter Tryz.func93, Tryz.ntmps93
  go_wp2
  go_ret
  exact ⟨rfl, (Below.refl _ _).alloc (Nat.le_refl _) _⟩
set_option maxHeartbeats 1000000 in
theorem refRight_text2 (s : ByteArray) (w : World) (hl : ¬ (s.size : Int) ≤ 256) : Calls Tryz.prog 93 #[valV 3 0 s] w fun e w' => e = .returned (.bool false) ∧ Below w.heap.size w w' := by
  go_enter Tryz.func93, Tryz.ntmps93
  go_wp2
  go_ret
  exact ⟨rfl, (Below.refl _ _).alloc (Nat.le_refl _) _⟩
theorem refRight_any (k n : Int) (s : ByteArray) (w : World) : Calls Tryz.prog 93 #[valV k n s] w fun e w' => e = .returned (.bool (rightB k n s)) ∧ Below w.heap.size w w' := by
  unfold rightB
  by_cases h0 : k = 0
  · subst h0
    rw [if_pos rfl]
    by_cases hn : n = 0
    · subst hn
      cases hs : s.toList == [] with
      | true => obtain rfl := empty_str hs; simpa using refRight_null0 w
      | false => simpa using refRight_null2 s w hs
    · simpa [hn] using refRight_null1 n s w (by simpa using hn)
  · rw [if_neg h0]
    by_cases h1 : k = 1
    · subst h1
      rw [if_pos rfl]
      by_cases hn : n = 0
      · subst hn
        cases hs : s.toList == [] with
        | true => obtain rfl := empty_str hs; simpa using refRight_bool0 w
        | false => simpa using refRight_bool2 s w hs
      · by_cases hm : n = 1
        · subst hm
          cases hs : s.toList == [] with
          | true => obtain rfl := empty_str hs; simpa using refRight_bool1 w
          | false => simpa using refRight_bool3 s w hs
        · simpa [hn, hm] using refRight_bool4 n s w (by simpa using hn) (by simpa using hm)
    · rw [if_neg h1]
      by_cases h2 : k = 2
      · subst h2
        rw [if_pos rfl]
        cases hs : s.toList == [] with
        | true => obtain rfl := empty_str hs; exact refRight_int0 n w
        | false => exact refRight_int1 n s w hs
      · rw [if_neg h2]
        by_cases h3 : k = 3
        · subst h3
          rw [if_pos rfl]
          by_cases hn : n = 0
          · subst hn
            by_cases hl : (s.size : Int) ≤ 256
            · have e : decide (s.size ≤ 256) = true := decide_eq_true (by omega)
              rw [e]
              exact refRight_text0 s w hl
            · have e : decide (s.size ≤ 256) = false := decide_eq_false (by omega)
              rw [e]
              exact refRight_text2 s w hl
          · rw [decide_eq_false hn]; exact refRight_text1 n s w (by simpa using hn)
        · rw [if_neg h3]
          exact refRight_none k n s w (by simpa using h0) (by simpa using h1) (by simpa using h2) (by simpa using h3)
end Go.Proofs.YtinnhaojmnmliaaGreat
namespace Go.Proofs.YtinnhaojmnmliaaGreat

end Go.Proofs.YtinnhaojmnmliaaGreat
