/-
  The document's own Row and agree.
  word.Upper, word.large; the document's lower, upper, digit, Sign, Name, Upper.
  The document's own right, of a node whose kind has no parts.
  pat.Deep and the document's.
-/
import Derived.Test.YtinnhaojmnmliaaDPatMadeMath
import Derived.Test.YtinnhaojmnmliaaDPatTail
import Derived.Test.YtinnhaojmnmliaaDPatAlike
import Derived.Test.YtinnhaojmnmliaaDPatNamed
import Derived.Test.YtinnhaojmnmliaaDPatSize
namespace Go.Proofs.Ytinnhaojmnmliaa
open Go.RowKit

set_option maxRecDepth 100000 in
set_option maxHeartbeats 2000000 in
theorem refRow_any (x : Pt) (w : World) : Calls Try.prog 60 #[x.val] w fun e w' => e = .returned (.bool (isRow x.k)) ∧ Below w.heap.size w w' := by
  obtain ⟨A, hA, hB, hs, hn⟩ := boxP_one x w
  obtain ⟨a0, a1, a2, a3, a4, a5⟩ := hn.at0
  have HB : Hid (Below w.heap.size w A) := hB
  have hr : isRow x.k = (x.k == 2 || x.k == 3 || x.k == 4) := rfl
  rw [hr]
  clear hB hn hr
  cases h2 : x.k == 2
  · cases h3 : x.k == 3
    · cases h4 : x.k == 4
      all_goals (go_enter Try.func60, Try.ntmps60)
      all_goals go_wp2
      all_goals go_ret
      all_goals exact ⟨rfl, HB.out⟩
    · go_enter Try.func60, Try.ntmps60
      go_wp2
      go_ret
      exact ⟨rfl, HB.out⟩
  · go_enter Try.func60, Try.ntmps60
    go_wp2
    go_ret
    exact ⟨rfl, HB.out⟩
end Go.Proofs.Ytinnhaojmnmliaa
namespace Go.Proofs.Ytinnhaojmnmliaa
open Go.RowKit

def digitB (c : Int) : Bool := decide (48 ≤ c ∧ c ≤ 57)
def signB (c : Int) : Bool := smallB c || laterB c

set_option maxHeartbeats 400000 in
theorem refLower_any (r : Int) (w : World) : Calls Try.prog 73 #[.int .u8 r] w fun e w' => e = .returned (.bool (smallB r)) ∧ w' = w := by
  go_enter Try.func73, Try.ntmps73
  go_wp2
  all_goals go_ret
  all_goals refine ⟨ret_bool ?_, rfl⟩
  all_goals (unfold smallB; rw [Bool.eq_iff_iff]; simp <;> omega)
set_option maxHeartbeats 400000 in
theorem refDigit_any (r : Int) (w : World) : Calls Try.prog 81 #[.int .u8 r] w fun e w' => e = .returned (.bool (digitB r)) ∧ w' = w := by
  go_enter Try.func81, Try.ntmps81
  go_wp2
  all_goals go_ret
  all_goals refine ⟨ret_bool ?_, rfl⟩
  all_goals (unfold digitB; rw [Bool.eq_iff_iff]; simp <;> omega)
set_option maxHeartbeats 1000000 in
theorem refSign_any (r : Int) (w : World) : Calls Try.prog 72 #[.int .u8 r] w fun e w' => e = .returned (.bool (signB r)) ∧ w' = w := by
  obtain ⟨S, hS⟩ : ∃ S, S = smallB r := ⟨_, rfl⟩
  obtain ⟨D, hD⟩ : ∃ D, D = digitB r := ⟨_, rfl⟩
  have hl : ∀ w', Calls Try.prog 73 #[.int .u8 r] w' fun e w'' => e = .returned (.bool S) ∧ w'' = w' := fun w' => by rw [hS]; exact refLower_any r w'
  have hd : ∀ w', Calls Try.prog 81 #[.int .u8 r] w' fun e w'' => e = .returned (.bool D) ∧ w'' = w' := fun w' => by rw [hD]; exact refDigit_any r w'
  have e : signB r = (S || D || decide (r = 95)) := by rw [hS, hD]; unfold signB laterB digitB smallB; rw [Bool.eq_iff_iff]; simp only [Bool.or_eq_true, decide_eq_true_eq]; omega
  rw [e]
  have HL : Hid (∀ w', Calls Try.prog 73 _ w' _) := hl
  have HD : Hid (∀ w', Calls Try.prog 81 _ w' _) := hd
  clear hl hd hS hD e
  cases S <;> cases D
  all_goals (go_enter Try.func72, Try.ntmps72)
  all_goals (go_wp2_with (first | (go_at_call 73; refine (HL.out _).mono ?_; rintro e w1 ⟨rfl, hw1⟩; replace hw1 := hw1.symm; subst hw1) | (go_at_call 81; refine (HD.out _).mono ?_; rintro e w1 ⟨rfl, hw1⟩; replace hw1 := hw1.symm; subst hw1)))
  all_goals go_ret
  all_goals refine ⟨ret_bool ?_, rfl⟩
  all_goals (first | rfl | (rw [Bool.eq_iff_iff]; simp))

theorem sign_ok {c : Int} {j : Nat} (h : okB c j = true) : signB c = true := by
  unfold okB at h; unfold signB; simp only [Bool.or_eq_true, Bool.and_eq_true] at h ⊢
  exact h.imp id And.left
theorem sign_not {c : Int} (j : Nat) (h : signB c = false) : okB c j = false := by
  cases hk : okB c j with
  | false => rfl
  | true => rw [sign_ok hk] at h; cases h
theorem ok_sign {c : Int} {j : Nat} (hj : j ≠ 0) (h : signB c = true) : okB c j = true := by
  unfold okB; unfold signB at h; simp only [Bool.or_eq_true, Bool.and_eq_true, decide_eq_true_eq] at h ⊢
  exact h.imp id fun k => ⟨k, hj⟩

set_option maxRecDepth 100000 in
set_option maxHeartbeats 1000000 in
theorem refName_any (s : ByteArray) (w : World) (hs : s.size ≤ maxLen) : Calls Try.prog 61 #[.string s] w fun e w' => e = .returned (.bool (nameB s)) ∧ w' = w := by
  unfold maxLen at hs
  obtain ⟨B, hB⟩ : ∃ B, B = nameB s := ⟨_, rfl⟩
  rw [← hB]
  have HB : Hid (B = nameB s) := hB
  clear hB
  go_enter Try.func61, Try.ntmps61
  go_wp2
  go_loop [3] (fun i => ∃ k : Nat, k ≤ s.size ∧ i = .int .i64 k ∧ Hid (∀ j, j < k → signB (byteAt s j) = true)) (fun i => s.size - (intOf i).toNat)
  case atStart => exact ⟨0, Nat.zero_le _, rfl, fun j hj => by omega⟩
  case round =>
    obtain ⟨k, hk, rfl, HP⟩ := hrel
    by_cases hlt : k < s.size
    · have hlt' : (k : Int) < (s.size : Int) := by omega
      have hidx := at_str s k hlt
      cases hg : signB (byteAt s k) with
      | false =>
        have C : ∀ w', Calls Try.prog 72 #[.int .u8 (byteAt s k)] w' fun e w'' => e = .returned (.bool false) ∧ w'' = w' := fun w' => by rw [← hg]; exact refSign_any _ w'
        have HC : Hid (∀ w', Calls Try.prog 72 _ w' _) := C
        clear C
        go_wp2_with (first | (go_at_call 72; refine (HC.out _).mono ?_; rintro e w1 ⟨rfl, hw1⟩; replace hw1 := hw1.symm; subst hw1))
        try rw [Exit.noGoto_ret]
        go_ret
        exact ⟨ret_bool (by rw [HB.out, nameB_not k hlt (sign_not k hg)]), rfl⟩
      | true =>
        have C : ∀ w', Calls Try.prog 72 #[.int .u8 (byteAt s k)] w' fun e w'' => e = .returned (.bool true) ∧ w'' = w' := fun w' => by rw [← hg]; exact refSign_any _ w'
        have HC : Hid (∀ w', Calls Try.prog 72 _ w' _) := C
        clear C
        go_wp2_with (first | (go_at_call 72; refine (HC.out _).mono ?_; rintro e w1 ⟨rfl, hw1⟩; replace hw1 := hw1.symm; subst hw1))
        go_round
        case rel => exact ⟨k + 1, by omega, by go_num, fun j hj => if h : j = k then by rw [h]; exact hg else HP.out j (by omega)⟩
        case measure => simp [intOf]; omega
    · obtain rfl : k = s.size := by omega
      have hge : ¬ (s.size : Int) < (s.size : Int) := by omega
      by_cases h0 : s.size = 0
      · have h0' : (s.size : Int) = 0 := by omega
        go_wp2
        go_ret
        refine ⟨ret_bool ?_, rfl⟩
        rw [HB.out]; unfold nameB fitsB; simp [h0]
      · have hidx : ∀ w', (Instr.index 9 (.string s) (.int .i64 0)).run Try.prog w' = .ok (.int .u8 (byteAt s 0)) w' := fun w' => at_str s 0 (by omega) w'
        have HL : Hid (∀ w', Calls Try.prog 73 #[.int .u8 (byteAt s 0)] w' _) := fun w' => refLower_any (byteAt s 0) w'
        have h1 : (1 : Int) ≤ (s.size : Int) := by omega
        by_cases h32 : s.size ≤ 32
        · have h32' : (s.size : Int) ≤ 32 := by omega
          go_wp2_with (first | (go_at_call 73; refine (HL.out _).mono ?_; rintro e w1 ⟨rfl, hw1⟩; replace hw1 := hw1.symm; subst hw1))
          go_ret
          refine ⟨ret_bool ?_, rfl⟩
          rw [HB.out]
          cases hsm : smallB (byteAt s 0) with
          | true =>
            rw [nameB_all]
            · unfold fitsB; rw [decide_eq_true (by omega)]
            · intro j hj
              by_cases hj0 : j = 0
              · rw [hj0]; unfold okB; rw [hsm]; rfl
              · exact ok_sign hj0 (HP.out j hj)
          | false =>
            rw [nameB_not 0 (by omega)]
            unfold okB; rw [hsm]; simp
        · have h32' : ¬ (s.size : Int) ≤ 32 := by omega
          go_wp2_with (first | (go_at_call 73; refine (HL.out _).mono ?_; rintro e w1 ⟨rfl, hw1⟩; replace hw1 := hw1.symm; subst hw1))
          go_ret
          refine ⟨ret_bool ?_, rfl⟩
          rw [HB.out]; unfold nameB fitsB; rw [decide_eq_false (p := 1 ≤ s.size ∧ s.size ≤ 32) (by omega)]; simp

end Go.Proofs.Ytinnhaojmnmliaa
namespace Go.Proofs.Ytinnhaojmnmliaa
open Go.RowKit

theorem rightN_leaf {x : Pt} (hrow : isRow x.k = false) : rightN x = (x.n == 0 && (nameB x.s && (nameB x.t && (if x.k = 5 then cntB x.lo x.hi else ((x.k == 1 || x.k == 6) && (x.lo == 0 && x.hi == 0)))))) := by
  unfold rightN
  rw [if_neg (by rw [hrow]; simp)]
  by_cases h5 : x.k = 5
  · rw [if_pos h5, if_pos h5]
    unfold manyB
    cases nameB x.s <;> cases nameB x.t <;> cases cntB x.lo x.hi <;> simp
  · rw [if_neg h5, if_neg h5]
    by_cases h16 : x.k = 1 ∨ x.k = 6
    · rw [if_pos h16]
      have : (x.k == 1 || x.k == 6) = true := by simpa using h16
      rw [this]
      unfold leafB
      cases nameB x.s <;> cases nameB x.t <;> cases (x.lo == 0) <;> cases (x.hi == 0) <;> simp
    · rw [if_neg h16]
      have : (x.k == 1 || x.k == 6) = false := by simpa using h16
      rw [this]
      simp
set_option maxRecDepth 100000 in
set_option maxHeartbeats 4000000 in
theorem refRight_leaf0 (x : Pt) (w : World) (hs1 : x.s.size ≤ maxLen) (hs2 : x.t.size ≤ maxLen) (_ : x.n ≤ 9223372036854775807) (hrow : isRow x.k = false) (h : (x.n == 0 && (nameB x.s && nameB x.t)) = false) :
    Calls Try.prog 34 #[x.val] w fun e w' => e = .returned (.bool false) ∧ Below w.heap.size w w' := by
  obtain ⟨A, hA, hB, hs, hn⟩ := boxP_one x w
  obtain ⟨a0, a1, a2, a3, a4, a5⟩ := hn.at0
  have HB : Hid (Below w.heap.size w A) := hB
  have HN : Hid (NodeP A w.heap.size 0 x) := hn
  have hR := refRow_any x A
  rw [hrow] at hR
  have N1 := fun d => refName_any x.s d hs1
  have N2 := fun d => refName_any x.t d hs2
  clear hB hn hrow hs1 hs2
  cases h0 : x.n == 0
  · have t0 : (((x.n : Nat) : Int) != 0) = true := by simpa using h0
    clear h h0
    go_enter Try.func34, Try.ntmps34
    go_wp2_with (go_at_call 60; refine hR.mono ?_; clear hR; rintro e w1 ⟨rfl, hB1⟩; obtain ⟨b0, b1, b2, b3, b4, b5⟩ := (HN.out.later hB1).at0)
    all_goals first
      | (rename_i q1 q2; cases q1; done)
      | (go_ret; exact ⟨rfl, HB.out.trans (hB1.mono HB.out.size)⟩)
  · have t0 : (((x.n : Nat) : Int) != 0) = false := by simpa using h0
    cases h1 : nameB x.s
    · rw [h1] at N1
      clear h h0
      go_enter Try.func34, Try.ntmps34
      go_wp2_with (first
        | (go_at_call 60; refine hR.mono ?_; clear hR; rintro e w1 ⟨rfl, hB1⟩; obtain ⟨b0, b1, b2, b3, b4, b5⟩ := (HN.out.later hB1).at0)
        | (go_at_call 61; refine (N1 _).mono ?_; rintro e w2 ⟨rfl, rfl⟩))
      all_goals first
        | (rename_i q1 q2; cases q1; done)
        | (go_ret; exact ⟨rfl, HB.out.trans (hB1.mono HB.out.size)⟩)
    · have h2 : nameB x.t = false := by rw [h0, h1] at h; simpa using h
      rw [h1] at N1
      rw [h2] at N2
      clear h h0 h1 h2
      go_enter Try.func34, Try.ntmps34
      go_wp2_with (first
        | (go_at_call 60; refine hR.mono ?_; clear hR; rintro e w1 ⟨rfl, hB1⟩; obtain ⟨b0, b1, b2, b3, b4, b5⟩ := (HN.out.later hB1).at0)
        | (go_at_call 61; refine (N1 _).mono ?_; clear N1; rintro e w2 ⟨rfl, rfl⟩)
        | (go_at_call 61; refine (N2 _).mono ?_; rintro e w2 ⟨rfl, rfl⟩))
      all_goals first
        | (rename_i q1 q2; cases q1; done)
        | (go_ret; exact ⟨rfl, HB.out.trans (hB1.mono HB.out.size)⟩)
set_option maxRecDepth 100000 in
set_option maxHeartbeats 4000000 in
theorem refRight_leaf1 (x : Pt) (w : World) (hs1 : x.s.size ≤ maxLen) (hs2 : x.t.size ≤ maxLen) (hrow : isRow x.k = false) (h0 : x.n = 0) (h1 : nameB x.s = true) (h2 : nameB x.t = true) (h5 : (x.k == 5) = false) :
    Calls Try.prog 34 #[x.val] w fun e w' => e = .returned (.bool ((x.k == 1 || x.k == 6) && (x.lo == 0 && x.hi == 0))) ∧ Below w.heap.size w w' := by
  obtain ⟨A, hA, hB, hs, hn⟩ := boxP_one x w
  obtain ⟨a0, a1, a2, a3, a4, a5⟩ := hn.at0
  have HB : Hid (Below w.heap.size w A) := hB
  have HN : Hid (NodeP A w.heap.size 0 x) := hn
  have hR := refRow_any x A
  rw [hrow] at hR
  have N1 := fun d => refName_any x.s d hs1
  have N2 := fun d => refName_any x.t d hs2
  rw [h1] at N1
  rw [h2] at N2
  have t0 : (((x.n : Nat) : Int) != 0) = false := by simp [h0]
  clear hB hn hrow hs1 hs2 h0 h1 h2
  cases k1 : x.k == 1
  · cases k6 : x.k == 6
    · go_enter Try.func34, Try.ntmps34
      go_wp2_with (first
        | (go_at_call 60; refine hR.mono ?_; clear hR; rintro e w1 ⟨rfl, hB1⟩; obtain ⟨b0, b1, b2, b3, b4, b5⟩ := (HN.out.later hB1).at0)
        | (go_at_call 61; refine (N1 _).mono ?_; clear N1; rintro e w2 ⟨rfl, rfl⟩)
        | (go_at_call 61; refine (N2 _).mono ?_; clear N2; rintro e w2 ⟨rfl, rfl⟩))
      all_goals first
        | (rename_i q1 q2; cases q1; done)
        | (go_ret; exact ⟨rfl, HB.out.trans (hB1.mono HB.out.size)⟩)
    · cases l0 : x.lo == 0
      · go_enter Try.func34, Try.ntmps34
        go_wp2_with (first
          | (go_at_call 60; refine hR.mono ?_; clear hR; rintro e w1 ⟨rfl, hB1⟩; obtain ⟨b0, b1, b2, b3, b4, b5⟩ := (HN.out.later hB1).at0)
          | (go_at_call 61; refine (N1 _).mono ?_; clear N1; rintro e w2 ⟨rfl, rfl⟩)
          | (go_at_call 61; refine (N2 _).mono ?_; clear N2; rintro e w2 ⟨rfl, rfl⟩))
        all_goals first
          | (rename_i q1 q2; cases q1; done)
          | (go_ret; exact ⟨rfl, HB.out.trans (hB1.mono HB.out.size)⟩)
      · cases i0 : x.hi == 0
        · go_enter Try.func34, Try.ntmps34
          go_wp2_with (first
            | (go_at_call 60; refine hR.mono ?_; clear hR; rintro e w1 ⟨rfl, hB1⟩; obtain ⟨b0, b1, b2, b3, b4, b5⟩ := (HN.out.later hB1).at0)
            | (go_at_call 61; refine (N1 _).mono ?_; clear N1; rintro e w2 ⟨rfl, rfl⟩)
            | (go_at_call 61; refine (N2 _).mono ?_; clear N2; rintro e w2 ⟨rfl, rfl⟩))
          all_goals first
            | (rename_i q1 q2; cases q1; done)
            | (go_ret; exact ⟨rfl, HB.out.trans (hB1.mono HB.out.size)⟩)
        · go_enter Try.func34, Try.ntmps34
          go_wp2_with (first
            | (go_at_call 60; refine hR.mono ?_; clear hR; rintro e w1 ⟨rfl, hB1⟩; obtain ⟨b0, b1, b2, b3, b4, b5⟩ := (HN.out.later hB1).at0)
            | (go_at_call 61; refine (N1 _).mono ?_; clear N1; rintro e w2 ⟨rfl, rfl⟩)
            | (go_at_call 61; refine (N2 _).mono ?_; clear N2; rintro e w2 ⟨rfl, rfl⟩))
          all_goals first
            | (rename_i q1 q2; cases q1; done)
            | (go_ret; exact ⟨rfl, HB.out.trans (hB1.mono HB.out.size)⟩)
  · cases l0 : x.lo == 0
    · go_enter Try.func34, Try.ntmps34
      go_wp2_with (first
        | (go_at_call 60; refine hR.mono ?_; clear hR; rintro e w1 ⟨rfl, hB1⟩; obtain ⟨b0, b1, b2, b3, b4, b5⟩ := (HN.out.later hB1).at0)
        | (go_at_call 61; refine (N1 _).mono ?_; clear N1; rintro e w2 ⟨rfl, rfl⟩)
        | (go_at_call 61; refine (N2 _).mono ?_; clear N2; rintro e w2 ⟨rfl, rfl⟩))
      all_goals first
        | (rename_i q1 q2; cases q1; done)
        | (go_ret; exact ⟨rfl, HB.out.trans (hB1.mono HB.out.size)⟩)
    · cases i0 : x.hi == 0
      · go_enter Try.func34, Try.ntmps34
        go_wp2_with (first
          | (go_at_call 60; refine hR.mono ?_; clear hR; rintro e w1 ⟨rfl, hB1⟩; obtain ⟨b0, b1, b2, b3, b4, b5⟩ := (HN.out.later hB1).at0)
          | (go_at_call 61; refine (N1 _).mono ?_; clear N1; rintro e w2 ⟨rfl, rfl⟩)
          | (go_at_call 61; refine (N2 _).mono ?_; clear N2; rintro e w2 ⟨rfl, rfl⟩))
        all_goals first
          | (rename_i q1 q2; cases q1; done)
          | (go_ret; exact ⟨rfl, HB.out.trans (hB1.mono HB.out.size)⟩)
      · go_enter Try.func34, Try.ntmps34
        go_wp2_with (first
          | (go_at_call 60; refine hR.mono ?_; clear hR; rintro e w1 ⟨rfl, hB1⟩; obtain ⟨b0, b1, b2, b3, b4, b5⟩ := (HN.out.later hB1).at0)
          | (go_at_call 61; refine (N1 _).mono ?_; clear N1; rintro e w2 ⟨rfl, rfl⟩)
          | (go_at_call 61; refine (N2 _).mono ?_; clear N2; rintro e w2 ⟨rfl, rfl⟩))
        all_goals first
          | (rename_i q1 q2; cases q1; done)
          | (go_ret; exact ⟨rfl, HB.out.trans (hB1.mono HB.out.size)⟩)
set_option maxRecDepth 100000 in
set_option maxHeartbeats 4000000 in
theorem refRight_leaf5 (x : Pt) (w : World) (hs1 : x.s.size ≤ maxLen) (hs2 : x.t.size ≤ maxLen) (hrow : isRow x.k = false) (h0 : x.n = 0) (h1 : nameB x.s = true) (h2 : nameB x.t = true) (h5 : (x.k == 5) = true) :
    Calls Try.prog 34 #[x.val] w fun e w' => e = .returned (.bool (cntB x.lo x.hi)) ∧ Below w.heap.size w w' := by
  obtain ⟨A, hA, hB, hs, hn⟩ := boxP_one x w
  obtain ⟨a0, a1, a2, a3, a4, a5⟩ := hn.at0
  have HB : Hid (Below w.heap.size w A) := hB
  have HN : Hid (NodeP A w.heap.size 0 x) := hn
  have hR := refRow_any x A
  rw [hrow] at hR
  have N1 := fun d => refName_any x.s d hs1
  have N2 := fun d => refName_any x.t d hs2
  rw [h1] at N1
  rw [h2] at N2
  have t0 : (((x.n : Nat) : Int) != 0) = false := by simp [h0]
  clear hB hn hrow hs1 hs2 h0 h1 h2
  by_cases c1 : 1 ≤ x.lo
  · by_cases c2 : x.lo ≤ 1000
    · cases c3 : x.hi == 0
      · by_cases c4 : x.lo ≤ x.hi
        · by_cases c5 : x.hi ≤ 1000
          · cases c6 : x.lo == 1
            · have HE : Hid (cntB x.lo x.hi = true) := by show cntB x.lo x.hi = true; unfold cntB; simp [c1, c2, c3, c4, c5, c6]
              go_enter Try.func34, Try.ntmps34
              go_wp2_with (first
                | (go_at_call 60; refine hR.mono ?_; clear hR; rintro e w1 ⟨rfl, hB1⟩; obtain ⟨b0, b1, b2, b3, b4, b5⟩ := (HN.out.later hB1).at0)
                | (go_at_call 61; refine (N1 _).mono ?_; clear N1; rintro e w2 ⟨rfl, rfl⟩)
                | (go_at_call 61; refine (N2 _).mono ?_; clear N2; rintro e w2 ⟨rfl, rfl⟩))
              all_goals first
                | (rename_i q1 q2; cases q1; done)
                | (go_ret; exact ⟨by rw [HE.out]; rfl, HB.out.trans (hB1.mono HB.out.size)⟩)
            · cases c7 : x.hi == 1
              · have HE : Hid (cntB x.lo x.hi = true) := by show cntB x.lo x.hi = true; unfold cntB; simp [c1, c2, c3, c4, c5, c6, c7]
                go_enter Try.func34, Try.ntmps34
                go_wp2_with (first
                  | (go_at_call 60; refine hR.mono ?_; clear hR; rintro e w1 ⟨rfl, hB1⟩; obtain ⟨b0, b1, b2, b3, b4, b5⟩ := (HN.out.later hB1).at0)
                  | (go_at_call 61; refine (N1 _).mono ?_; clear N1; rintro e w2 ⟨rfl, rfl⟩)
                  | (go_at_call 61; refine (N2 _).mono ?_; clear N2; rintro e w2 ⟨rfl, rfl⟩))
                all_goals first
                  | (rename_i q1 q2; cases q1; done)
                  | (go_ret; exact ⟨by rw [HE.out]; rfl, HB.out.trans (hB1.mono HB.out.size)⟩)
              · have HE : Hid (cntB x.lo x.hi = false) := by show cntB x.lo x.hi = false; unfold cntB; simp [c1, c2, c3, c4, c5, c6, c7]
                go_enter Try.func34, Try.ntmps34
                go_wp2_with (first
                  | (go_at_call 60; refine hR.mono ?_; clear hR; rintro e w1 ⟨rfl, hB1⟩; obtain ⟨b0, b1, b2, b3, b4, b5⟩ := (HN.out.later hB1).at0)
                  | (go_at_call 61; refine (N1 _).mono ?_; clear N1; rintro e w2 ⟨rfl, rfl⟩)
                  | (go_at_call 61; refine (N2 _).mono ?_; clear N2; rintro e w2 ⟨rfl, rfl⟩))
                all_goals first
                  | (rename_i q1 q2; cases q1; done)
                  | (go_ret; exact ⟨by rw [HE.out]; rfl, HB.out.trans (hB1.mono HB.out.size)⟩)
          · have HE : Hid (cntB x.lo x.hi = false) := by show cntB x.lo x.hi = false; unfold cntB; simp [c1, c2, c3, c4, c5]
            go_enter Try.func34, Try.ntmps34
            go_wp2_with (first
              | (go_at_call 60; refine hR.mono ?_; clear hR; rintro e w1 ⟨rfl, hB1⟩; obtain ⟨b0, b1, b2, b3, b4, b5⟩ := (HN.out.later hB1).at0)
              | (go_at_call 61; refine (N1 _).mono ?_; clear N1; rintro e w2 ⟨rfl, rfl⟩)
              | (go_at_call 61; refine (N2 _).mono ?_; clear N2; rintro e w2 ⟨rfl, rfl⟩))
            all_goals first
              | (rename_i q1 q2; cases q1; done)
              | (go_ret; exact ⟨by rw [HE.out]; rfl, HB.out.trans (hB1.mono HB.out.size)⟩)
        · have HE : Hid (cntB x.lo x.hi = false) := by show cntB x.lo x.hi = false; unfold cntB; simp [c1, c2, c3, c4]
          go_enter Try.func34, Try.ntmps34
          go_wp2_with (first
            | (go_at_call 60; refine hR.mono ?_; clear hR; rintro e w1 ⟨rfl, hB1⟩; obtain ⟨b0, b1, b2, b3, b4, b5⟩ := (HN.out.later hB1).at0)
            | (go_at_call 61; refine (N1 _).mono ?_; clear N1; rintro e w2 ⟨rfl, rfl⟩)
            | (go_at_call 61; refine (N2 _).mono ?_; clear N2; rintro e w2 ⟨rfl, rfl⟩))
          all_goals first
            | (rename_i q1 q2; cases q1; done)
            | (go_ret; exact ⟨by rw [HE.out]; rfl, HB.out.trans (hB1.mono HB.out.size)⟩)
      · cases c6 : x.lo == 1
        · have HE : Hid (cntB x.lo x.hi = true) := by show cntB x.lo x.hi = true; unfold cntB; simp [c1, c2, c3, c6]
          go_enter Try.func34, Try.ntmps34
          go_wp2_with (first
            | (go_at_call 60; refine hR.mono ?_; clear hR; rintro e w1 ⟨rfl, hB1⟩; obtain ⟨b0, b1, b2, b3, b4, b5⟩ := (HN.out.later hB1).at0)
            | (go_at_call 61; refine (N1 _).mono ?_; clear N1; rintro e w2 ⟨rfl, rfl⟩)
            | (go_at_call 61; refine (N2 _).mono ?_; clear N2; rintro e w2 ⟨rfl, rfl⟩))
          all_goals first
            | (rename_i q1 q2; cases q1; done)
            | (go_ret; exact ⟨by rw [HE.out]; rfl, HB.out.trans (hB1.mono HB.out.size)⟩)
        · have c7 : (x.hi == 1) = false := by simp at c3 ⊢; omega
          have HE : Hid (cntB x.lo x.hi = true) := by show cntB x.lo x.hi = true; unfold cntB; simp [c1, c2, c3, c6, c7]
          go_enter Try.func34, Try.ntmps34
          go_wp2_with (first
            | (go_at_call 60; refine hR.mono ?_; clear hR; rintro e w1 ⟨rfl, hB1⟩; obtain ⟨b0, b1, b2, b3, b4, b5⟩ := (HN.out.later hB1).at0)
            | (go_at_call 61; refine (N1 _).mono ?_; clear N1; rintro e w2 ⟨rfl, rfl⟩)
            | (go_at_call 61; refine (N2 _).mono ?_; clear N2; rintro e w2 ⟨rfl, rfl⟩))
          all_goals first
            | (rename_i q1 q2; cases q1; done)
            | (go_ret; exact ⟨by rw [HE.out]; rfl, HB.out.trans (hB1.mono HB.out.size)⟩)
    · have HE : Hid (cntB x.lo x.hi = false) := by show cntB x.lo x.hi = false; unfold cntB; simp [c1, c2]
      go_enter Try.func34, Try.ntmps34
      go_wp2_with (first
        | (go_at_call 60; refine hR.mono ?_; clear hR; rintro e w1 ⟨rfl, hB1⟩; obtain ⟨b0, b1, b2, b3, b4, b5⟩ := (HN.out.later hB1).at0)
        | (go_at_call 61; refine (N1 _).mono ?_; clear N1; rintro e w2 ⟨rfl, rfl⟩)
        | (go_at_call 61; refine (N2 _).mono ?_; clear N2; rintro e w2 ⟨rfl, rfl⟩))
      all_goals first
        | (rename_i q1 q2; cases q1; done)
        | (go_ret; exact ⟨by rw [HE.out]; rfl, HB.out.trans (hB1.mono HB.out.size)⟩)
  · have HE : Hid (cntB x.lo x.hi = false) := by show cntB x.lo x.hi = false; unfold cntB; simp [c1]
    go_enter Try.func34, Try.ntmps34
    go_wp2_with (first
      | (go_at_call 60; refine hR.mono ?_; clear hR; rintro e w1 ⟨rfl, hB1⟩; obtain ⟨b0, b1, b2, b3, b4, b5⟩ := (HN.out.later hB1).at0)
      | (go_at_call 61; refine (N1 _).mono ?_; clear N1; rintro e w2 ⟨rfl, rfl⟩)
      | (go_at_call 61; refine (N2 _).mono ?_; clear N2; rintro e w2 ⟨rfl, rfl⟩))
    all_goals first
      | (rename_i q1 q2; cases q1; done)
      | (go_ret; exact ⟨by rw [HE.out]; rfl, HB.out.trans (hB1.mono HB.out.size)⟩)
/-- Of a node whose kind has no parts. -/
theorem refRight_leaf (x : Pt) (w : World) (hs1 : x.s.size ≤ maxLen) (hs2 : x.t.size ≤ maxLen) (hl : x.n ≤ 9223372036854775807) (hrow : isRow x.k = false) :
    Calls Try.prog 34 #[x.val] w fun e w' => e = .returned (.bool (rightN x)) ∧ Below w.heap.size w w' := by
  rw [rightN_leaf hrow]
  cases h : x.n == 0 && (nameB x.s && nameB x.t) with
  | false =>
    have := refRight_leaf0 x w hs1 hs2 hl hrow h
    have e : (x.n == 0 && (nameB x.s && (nameB x.t && (if x.k = 5 then cntB x.lo x.hi else ((x.k == 1 || x.k == 6) && (x.lo == 0 && x.hi == 0)))))) = false := by
      rw [← Bool.and_assoc (nameB x.s), ← Bool.and_assoc, h, Bool.false_and]
    rw [e]
    exact this
  | true =>
    simp only [Bool.and_eq_true] at h
    obtain ⟨h0, h1, h2⟩ := h
    have h0' : x.n = 0 := by simpa using h0
    rw [h0, h1, h2, Bool.true_and, Bool.true_and, Bool.true_and]
    by_cases h5 : x.k = 5
    · rw [if_pos h5]
      exact refRight_leaf5 x w hs1 hs2 hrow h0' h1 h2 (by simp [h5])
    · rw [if_neg h5]
      exact refRight_leaf1 x w hs1 hs2 hrow h0' h1 h2 (by simp [h5])
end Go.Proofs.Ytinnhaojmnmliaa
namespace Go.Proofs.Ytinnhaojmnmliaa
open Go.RowKit Go.Shelf
attribute [local go_sem] Oper.semAt_some

/-- The greatest of what is told of the nodes. -/
def mxP (l : List (Nat × Pt)) : Nat := l.foldl (fun m v => max m v.1) 0
theorem mxP_snoc (l : List (Nat × Pt)) (v : Nat × Pt) : mxP (l ++ [v]) = max (mxP l) v.1 := by simp [mxP]
theorem mxP_le (l : List (Nat × Pt)) (m : Nat) (h : ∀ v ∈ l, v.1 ≤ m) : ∀ a, a ≤ m → l.foldl (fun m v => max m v.1) a ≤ m := by
  induction l with
  | nil => intro a ha; exact ha
  | cons v l ih => intro a ha; exact ih (fun v hv => h v (List.mem_cons_of_mem _ hv)) _ (by have := h v (by simp); show max a v.1 ≤ m; omega)
theorem le_mxP (l : List (Nat × Pt)) : ∀ a, a ≤ l.foldl (fun m v => max m v.1) a ∧ ∀ v ∈ l, v.1 ≤ l.foldl (fun m v => max m v.1) a := by
  induction l with
  | nil => intro a; exact ⟨Nat.le_refl _, fun v hv => by simp at hv⟩
  | cons v l ih =>
    intro a
    obtain ⟨h1, h2⟩ := ih (max a v.1)
    refine ⟨Nat.le_trans (by omega) h1, fun u hu => ?_⟩
    rcases List.mem_cons.1 hu with rfl | hu
    · exact Nat.le_trans (by omega) h1
    · exact h2 u hu
theorem mxP_vis (x : Pt) : mxP (visP 1 x) = x.deep := by
  have h1 : mxP (visP 1 x) ≤ x.deep := mxP_le _ _ (fun v hv => by have := (vis_deep x 1 v hv).1; have := v.2.deep_pos; omega) 0 (Nat.zero_le _)
  obtain ⟨v, hv, hd⟩ := vis_deepest x 1
  have h2 := (le_mxP (visP 1 x) 0).2 v hv
  have h3 : v.1 ≤ mxP (visP 1 x) := h2
  omega

set_option maxRecDepth 100000 in
set_option maxHeartbeats 2000000 in
theorem deepP_in (n : Nat) (x : Pt) (w : World) (hX : IsP w x) (hsm : x.size ≤ 1048576) :
    CallsIn Fence.wide n Try.prog 21 #[x.val] w fun e w' => e = .returned (.int .i64 (x.deep : Int)) ∧ Below w.heap.size w w' := by
  have hdd : ∀ k : Nat, (Fence.wide.depth.isSome = true → 1 ≤ k) := fun k h => by cases h
  refine callsIn_of_wp_marks Try.func21 rfl trivial ?_ rfl
  simp only [Try.ntmps21, List.size_toArray, List.length_cons, List.length_nil, Nat.reduceAdd, Nat.reduceSub, Array.replicate_succ, Array.replicate_zero, List.push_toArray, List.append_toArray, List.nil_append, List.cons_append]
  gi_wp2_with (refine ⟨trivial, hdd _, ?_⟩; gi_at_call 32; refine (nodesP_in _ _ _).mono ?_; rintro e w' ⟨rfl, rfl⟩)
  obtain ⟨A, hA⟩ : ∃ A, (((w.alloc (.cells x.cells 24)).alloc (.cells #[.int .i64 0] 3)).alloc (.cells #[.pointer (some ⟨w.heap.size, 0, none⟩)] 52)) = A := ⟨_, rfl⟩
  have hsz : A.heap.size = w.heap.size + 3 := by rw [← hA]; simp
  have hB : Below w.heap.size w A := by rw [← hA]; exact (((Below.refl _ w).alloc (Nat.le_refl _) _).alloc (by simp) _).alloc (by simp; omega) _
  have hnode : NodeP A w.heap.size 0 x := by
    rw [← hA]
    exact ((nodeP_new w 24 x).later ((Below.refl _ _).alloc (Nat.le_refl _) _)).later ((Below.refl _ _).alloc (Nat.le_refl _) _)
  have hbn : Boxed A (w.heap.size + 1) 3 (.int .i64 0) := by
    have := (Boxed.new (w.alloc (.cells x.cells 24)) 3 (.int .i64 0)).alloc (.cells #[.pointer (some ⟨w.heap.size, 0, none⟩)] 52)
    rw [World.size_alloc, hA] at this
    exact this
  have hbp : Boxed A (w.heap.size + 1 + 1) 52 (.pointer (some ⟨w.heap.size, 0, none⟩)) := by
    have := Boxed.new ((w.alloc (.cells x.cells 24)).alloc (.cells #[.int .i64 0] 3)) 52 (.pointer (some ⟨w.heap.size, 0, none⟩))
    rw [World.size_alloc, World.size_alloc, hA] at this
    exact this
  rw [hA]
  refine nodesP_fold (w.heap.size + 1 + 1) w.heap.size 0 x (fun k => k < w.heap.size + 1) (fun pre W => Boxed W (w.heap.size + 1) 3 (.int .i64 (mxP pre : Nat)) ∧ Below w.heap.size w W) (fun _ _ => False)
    rfl rfl hbp.cell hsm (fun k hk => by omega) (by omega) hnode (PIn.xt (n := w.heap.size) (fun k hk => by omega) (hX.inn.below hB)) ?_ ?_ ?_ ?_
    (fun d b o => { tmps := #[x.val, .pointer (some ⟨w.heap.size, 0, none⟩), .int .i64 0, .pointer (some ⟨w.heap.size + 1, 0, none⟩), .int .i64 d, .func (.func 54) #[] #[.pointer (some ⟨w.heap.size + 1 + 1, 0, none⟩)], .int .i64 d, .pointer (some ⟨b, o, none⟩), undef, undef, undef, undef], defers := [] }) ?_ ?_ ?_ ?_
  · rintro pre W B hag ⟨h1, h2⟩
    exact ⟨hag.boxed h1, hag.below (by omega) h2⟩
  · exact fun pre W h => ⟨h.1, h.2.drew⟩
  · exact fun W h => ⟨Boxed.kept_of hbn h (by omega), hB.trans (h.mono (by omega))⟩
  · exact fun _ _ _ _ h => h
  · intro l d b o W K hK
    gi_wp2
    first | exact hK | simpa using hK
  · rintro l d b o y pre W hb hn hx ⟨h1, h2⟩ hs -
    have c1 := h1.cell
    have f1 := h1.frozen
    gi_wp2
    · have e : mxP (pre ++ [(d, y)]) = d := by rw [mxP_snoc]; show max (mxP pre) d = d; omega
      exact ⟨(KeepsOthers.setCell _ _ _).from _, Kp.set _ (by simp), by rw [e]; exact h1.set _, h2.setCell (p := ⟨w.heap.size + 1, 0, none⟩) (by simp) _⟩
    · have e : mxP (pre ++ [(d, y)]) = mxP pre := by rw [mxP_snoc]; show max (mxP pre) d = mxP pre; omega
      exact ⟨(KeepsOthers.setCell _ _ _).from _, Kp.set _ (by simp), by rw [e]; exact h1.set _, h2.setCell (p := ⟨w.heap.size + 1, 0, none⟩) (by simp) _⟩
  · rintro D W hD ⟨h1, h2⟩ hK
    have c1 := h1.cell
    gi_wp2
    refine ⟨by simp, .inl ⟨_, _, rfl, run_takeDeferred hK, ?_⟩⟩
    exact ⟨_, results_tmp rfl _ _ _, by rw [mxP_vis x]; rfl, h2.trans (belowK_b (w := w) (Nat.le_refl _) W D _ _ (by omega) hK rfl rfl)⟩
  · exact fun _ _ _ _ h _ => h.elim
theorem deepP_any (x : Pt) (w : World) (hX : IsP w x) (hsm : x.size ≤ 1048576) : Calls Try.prog 21 #[x.val] w fun e w' => e = .returned (.int .i64 (x.deep : Int)) ∧ Below w.heap.size w w' :=
  (callsIn_wide (n := 3)).1 (deepP_in 3 x w hX hsm)
set_option maxRecDepth 100000 in
set_option maxHeartbeats 4000000 in
theorem refDeepP_any : ∀ (x : Pt) (w : World), IsP w x → x.size ≤ 1048576 → Calls Try.prog 22 #[x.val] w fun e w' => e = .returned (.int .i64 (x.deep : Int)) ∧ Below w.heap.size w w' := by
  refine Pt.ind fun x ih w hX hsm => ?_
  have HR : Hid (x.deep = maxN (fun i => (x.c i).deep) x.n + 1) := x.deep_eq
  have HD : Hid (x.deep ≤ 1048576) := Nat.le_trans x.deep_size hsm
  have HI : Hid (∀ i, i < x.n → ∀ w, IsP w (x.c i) → Calls Try.prog 22 #[(x.c i).val] w fun e w' => e = .returned (.int .i64 ((x.c i).deep : Int)) ∧ Below w.heap.size w w') := fun i hi w h => ih i hi w h (by have := x.size_part i hi; omega)
  have HX : Hid (IsP w x) := hX
  have hlen := hX.len
  obtain ⟨A, hA⟩ : ∃ A, w.alloc (.cells x.cells 24) = A := ⟨_, rfl⟩
  have HB : Hid (Below w.heap.size w A) := by show Below _ _ _; rw [← hA]; exact (Below.refl _ w).alloc (Nat.le_refl _) _
  have HN : Hid (NodeP A w.heap.size 0 x) := by show NodeP _ _ _ _; rw [← hA]; exact nodeP_new w _ x
  have hs : A.heap.size = w.heap.size + 1 := by rw [← hA]; simp
  clear ih hX hsm
  go_enter Try.func22, Try.ntmps22
  go_wp2_with fail
  go_loopw [3, 4] (fun u v wr => ∃ k m : Nat, k ≤ x.n ∧ u = .int .i64 (m : Int) ∧ Hid (m = maxN (fun i => (x.c i).deep) k) ∧ v = .int .i64 k ∧ Below A.heap.size A wr) (fun _ v _ => x.n - (intOf v).toNat)
  case atStart => exact ⟨0, 0, Nat.zero_le _, rfl, rfl, rfl, Below.refl _ _⟩
  case round =>
    obtain ⟨k, m, hk, rfl, Hm, rfl, hB⟩ := hrel
    obtain ⟨-, -, -, -, -, c6⟩ := (nodeP_on HN.out (hB.mono (by omega))).at0
    have hw := HB.out.trans (hB.mono (by omega))
    by_cases hkn : k < x.n
    · obtain ⟨b, o, ea, hn, hx⟩ := (HX.out.later hw).part hkn
      rw [ea] at c6
      obtain ⟨d0, d1, d2, d3, d4, d5⟩ := hn
      have hc := HI.out k hkn wr hx
      obtain ⟨q, hq⟩ : ∃ q, q = (x.c k).deep := ⟨_, rfl⟩
      rw [← hq] at hc
      have HQ : Hid (q = (x.c k).deep) := hq
      have HK : Hid (k < x.n) := hkn
      clear hx hw hq
      go_wp2_with (go_at_call 22; refine hc.mono ?_; rintro e w2 ⟨rfl, hB2⟩)
      refine ⟨⟨k + 1, max m q, HK.out, ?_, by show max m q = max (maxN _ k) _; rw [← Hm.out]; show max m q = max m (x.c k).deep; rw [← HQ.out], by simp, hB.trans (hB2.mono hB.size)⟩, by have := HK.out; simp [intOf]; omega⟩
      by_cases hmq : m < q
      · rw [if_pos hmq, show max m q = q by omega]
      · rw [if_neg hmq, show max m q = m by omega]
    · have hk' : k = x.n := by omega
      subst hk'
      have e : x.deep = m + 1 := by rw [HR.out, Hm.out]
      have e2 := HD.out
      have hm1 : m + 1 ≤ 1048576 := by omega
      go_wp2
      go_ret
      exact ⟨ret_int (by omega), hw⟩
end Go.Proofs.Ytinnhaojmnmliaa
