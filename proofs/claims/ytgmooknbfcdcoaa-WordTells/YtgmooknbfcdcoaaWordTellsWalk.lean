/-
  The walks of the laws WordTells and WordFolds.
-/
import Derived.Test.YtgmooknbfcdcoaaWordFold
import Derived.Test.YtgmooknbfcdcoaaWordAwake
namespace Go.Proofs.Ytgmooknbfcdcoaa
open Go.RowKit

set_option maxRecDepth 100000 in
set_option maxHeartbeats 1000000 in
theorem tells_walk (a b : ByteArray) (w : World) (ha : a.size ≤ maxLen) :
    Calls Try.prog 3 #[.string a, .string b] w fun e w' => e = .returned (.bool true) ∧ Below w.heap.size w w' := by
  have C1 := name_any a w
  have HA : Hid (a.size ≤ maxLen) := ha
  clear ha
  go_enter Try.func3, Try.ntmps3
  go_wp2_with (first
    | (go_at_call 5; refine C1.mono ?_; clear C1; rintro e w1 ⟨rfl, hB1⟩
       have C2 := refName_any a w1 HA.out)
    | (go_at_call 6; refine C2.mono ?_; clear C2; rintro e w2 ⟨rfl, hw2⟩; replace hw2 := hw2.symm; subst hw2
       have C3 := upper_any a w1)
    | (go_at_call 7; refine C3.mono ?_; clear C3; rintro e w3 ⟨rfl, hB3⟩
       have C4 := refUpper_any a w3 HA.out)
    | (go_at_call 8; refine C4.mono ?_; clear C4; rintro e w4 ⟨rfl, hw4⟩; replace hw4 := hw4.symm; subst hw4
       have C5 := fold_any a w3)
    | (go_at_call 9; refine C5.mono ?_; clear C5; rintro e w5 ⟨rfl, hB5⟩
       have C6 := refFold_any a w5 HA.out)
    | (go_at_call 10; refine C6.mono ?_; clear C6; rintro e w6 ⟨rfl, hB6⟩
       have C7 := less_any a b w6)
    | (go_at_call 11; refine C7.mono ?_; clear C7; rintro e w7 ⟨rfl, hw7⟩; replace hw7 := hw7.symm; subst hw7
       have C8 := awake_word w6)
    | (go_at_call 12; refine C8.mono ?_; clear C8; rintro e w8 ⟨rfl, hB8⟩))
  go_ret
  have k3 := hB1.trans (hB3.mono hB1.size)
  have k5 := k3.trans (hB5.mono k3.size)
  have k6 := k5.trans (hB6.mono k5.size)
  exact ⟨rfl, k6.trans (hB8.mono k6.size)⟩

set_option maxRecDepth 100000 in
set_option maxHeartbeats 2000000 in
theorem folds_walk (a : ByteArray) (w : World) :
    Calls Try.prog 4 #[.string a] w fun e w' => e = .returned (.bool true) ∧ Below w.heap.size w w' := by
  have C1 := fold_any a w
  obtain ⟨x, hx⟩ : ∃ x, x = foldS a := ⟨_, rfl⟩
  rw [← hx] at C1
  have HX : Hid (foldS x = x) := by show foldS x = x; rw [hx]; exact fold_fold a
  have hsz : x.size = a.size := by rw [hx]; exact fold_size a
  have HU : Hid (upperB a = true → nameB x = true ∧ nameB a = false) := by show _ → _; rw [hx]; exact upper_fold a
  have HN : Hid (nameB a = true → x = a) := by show _ → _; rw [hx]; exact name_fold a
  clear hx
  have HC : Hid (∀ w', Calls Try.prog 7 #[.string a] w' fun e w'' => e = .returned (.bool (upperB a)) ∧ Below w'.heap.size w' w'') := fun w' => upper_any a w'
  have HD : Hid (∀ w', Calls Try.prog 5 #[.string a] w' fun e w'' => e = .returned (.bool (nameB a)) ∧ Below w'.heap.size w' w'') := fun w' => name_any a w'
  have HE : Hid (∀ w', Calls Try.prog 5 #[.string x] w' fun e w'' => e = .returned (.bool (nameB x)) ∧ Below w'.heap.size w' w'') := fun w' => name_any x w'
  generalize upperB a = U at HU HC
  generalize nameB a = M at HU HN HD
  generalize nameB x = N at HU HE
  cases U with
  | true =>
    obtain ⟨rfl, rfl⟩ := HU.out rfl
    clear HU HN
    go_enter Try.func4, Try.ntmps4
    go_wp2_with (first
      | (go_at_call 9; refine C1.mono ?_; clear C1; rintro e w1 ⟨rfl, hB1⟩
         have C2 := fold_any x w1
         rw [HX.out] at C2)
      | (go_at_call 9; refine C2.mono ?_; clear C2; rintro e w2 ⟨rfl, hB2⟩
         have k2 := hB1.trans (hB2.mono hB1.size))
      | (go_at_call 7; refine (HC.out _).mono ?_; clear HC; rintro e w3 ⟨rfl, hB3⟩
         have k3 := k2.trans (hB3.mono k2.size))
      | (go_at_call 5; refine (HE.out _).mono ?_; clear HE; rintro e w4 ⟨rfl, hB4⟩
         have k4 := k3.trans (hB4.mono k3.size)
         have C5 := HD.out w4)
      | (go_at_call 5; refine C5.mono ?_; clear C5; rintro e w5 ⟨rfl, hB5⟩
         have k5 := k4.trans (hB5.mono k4.size)
         have C6 := HD.out w5)
      | (go_at_call 5; refine C6.mono ?_; clear C6; rintro e w6 ⟨rfl, hB6⟩
         have k6 := k5.trans (hB6.mono k5.size))
      | (go_at_call 12; refine (awake_word _).mono ?_; rintro e w8 ⟨rfl, hB8⟩))
    go_ret
    exact ⟨rfl, k6.trans (hB8.mono k6.size)⟩
  | false =>
    clear HU HE
    cases M with
    | true =>
      obtain rfl := HN.out rfl
      clear HN
      go_enter Try.func4, Try.ntmps4
      go_wp2_with (first
        | (go_at_call 9; refine C1.mono ?_; clear C1; rintro e w1 ⟨rfl, hB1⟩
           have C2 := fold_any x w1
           rw [HX.out] at C2)
        | (go_at_call 9; refine C2.mono ?_; clear C2; rintro e w2 ⟨rfl, hB2⟩
           have k2 := hB1.trans (hB2.mono hB1.size))
        | (go_at_call 7; refine (HC.out _).mono ?_; clear HC; rintro e w3 ⟨rfl, hB3⟩
           have k3 := k2.trans (hB3.mono k2.size))
        | (go_at_call 5; refine (HD.out _).mono ?_; clear HD; rintro e w6 ⟨rfl, hB6⟩
           have k6 := k3.trans (hB6.mono k3.size))
        | (go_at_call 12; refine (awake_word _).mono ?_; rintro e w8 ⟨rfl, hB8⟩))
      go_ret
      exact ⟨rfl, k6.trans (hB8.mono k6.size)⟩
    | false =>
      clear HN
      go_enter Try.func4, Try.ntmps4
      go_wp2_with (first
        | (go_at_call 9; refine C1.mono ?_; clear C1; rintro e w1 ⟨rfl, hB1⟩
           have C2 := fold_any x w1
           rw [HX.out] at C2)
        | (go_at_call 9; refine C2.mono ?_; clear C2; rintro e w2 ⟨rfl, hB2⟩
           have k2 := hB1.trans (hB2.mono hB1.size))
        | (go_at_call 7; refine (HC.out _).mono ?_; clear HC; rintro e w3 ⟨rfl, hB3⟩
           have k3 := k2.trans (hB3.mono k2.size))
        | (go_at_call 5; refine (HD.out _).mono ?_; clear HD; rintro e w6 ⟨rfl, hB6⟩
           have k6 := k3.trans (hB6.mono k3.size))
        | (go_at_call 12; refine (awake_word _).mono ?_; rintro e w8 ⟨rfl, hB8⟩))
      go_ret
      exact ⟨rfl, k6.trans (hB8.mono k6.size)⟩
end Go.Proofs.Ytgmooknbfcdcoaa
