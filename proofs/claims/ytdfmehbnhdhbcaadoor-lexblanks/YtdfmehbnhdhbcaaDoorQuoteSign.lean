/-
  word.coded and word.sign: what is read at a place.
-/
import Derived.Test.YtdfmehbnhdhbcaaDoorQuoteBehind
import Derived.Laws.BitsAllLaws
import Derived.Deep.RegionWith
namespace Go.Proofs.YtdfmehbnhdhbcaaDoor
open Go.RowKit

theorem drop_at (s : ByteArray) (k : Nat) (hk : k < s.size) : (bytesS s).drop k = byteAt s k :: (bytesS s).drop (k + 1) := by
  have h : k < (bytesS s).length := by rw [bytesS_length]; exact hk
  rw [List.drop_eq_getElem_cons h]
  congr 1
  simp [byteAt, h]
theorem drop_none (s : ByteArray) (k : Nat) (hk : s.size ≤ k) : (bytesS s).drop k = [] := List.drop_eq_nil_of_le (by rw [bytesS_length]; exact hk)
theorem dig_bd (c : Int) : -1 ≤ dig c ∧ dig c < 16 := by unfold dig; repeat' split
                                                         all_goals omega
theorem or_dig (a b : Int) (ha0 : 0 ≤ a) (ha : a < 16) (hb0 : 0 ≤ b) (hb : b < 16) : bits .or .u8 (a * 16) b = 16 * a + b := by
  have h : ∀ n m : Fin 16, bits .or .u8 ((n.val : Int) * 16) (m.val : Int) = 16 * (n.val : Int) + m.val := by decide +kernel
  have := h ⟨a.toNat, by omega⟩ ⟨b.toNat, by omega⟩
  rwa [show ((⟨a.toNat, by omega⟩ : Fin 16).val : Int) = a by show (a.toNat : Int) = a; omega, show ((⟨b.toNat, by omega⟩ : Fin 16).val : Int) = b by show (b.toNat : Int) = b; omega] at this
theorem tup_sign {r : Int × Nat × Bool} {a : Int} {n : Int} {b : Bool} (h1 : a = r.1) (h2 : n = (r.2.1 : Int)) (h3 : b = r.2.2) :
    Ending.returned (.tuple #[.int .u8 a, .int .i64 n, .bool b]) = .returned (.tuple #[.int .u8 r.1, .int .i64 (r.2.1 : Int), .bool r.2.2]) := by rw [h1, h2, h3]

set_option maxRecDepth 100000 in
set_option maxHeartbeats 1500000 in
theorem coded_any (s : ByteArray) (p : Nat) (w : World) (hT : Tabs w) (hp : p + 2 ≤ s.size) (hs : s.size ≤ 140737488355328) :
    Calls Tryd.prog 36 #[.string s, .int .i64 (p : Int), .int .i64 2] w fun e w' =>
      e = .returned (.tuple #[.int .u8 (hexR p ((bytesS s).drop (p + 2))).1, .int .i64 ((hexR p ((bytesS s).drop (p + 2))).2.1 : Int), .bool (hexR p ((bytesS s).drop (p + 2))).2.2]) ∧ w' = w := by
  obtain ⟨R, hR⟩ : ∃ R, R = hexR p ((bytesS s).drop (p + 2)) := ⟨_, rfl⟩
  rw [← hR]
  have HR : Hid (R = hexR p ((bytesS s).drop (p + 2))) := hR
  clear hR
  by_cases h2 : p + 2 = s.size
  · rw [drop_none s (p + 2) (by omega)] at HR
    have h2' : (p : Int) + 2 = (s.size : Int) := by omega
    clear hT
    go_enter Tryd.func36, Tryd.ntmps36
    go_wp2
    refine wp_loop_rounds 1 ?_
    rw [rounds_succ]
    go_wp2
    try rw [Exit.noGoto_ret]
    go_ret3
    exact ⟨tup_sign (by rw [HR.out]; rfl) (by rw [HR.out]; show _ = ((p + 2 : Nat) : Int); omega) (by rw [HR.out]; rfl), rfl⟩
  · have i2 : ∀ w', (Instr.index 9 (.string s) (.int .i64 ((p : Int) + 2))).run Tryd.prog w' = .ok (.int .u8 (byteAt s (p + 2))) w' := fun w' => at_str s (p + 2) (by omega) w'
    have C1 : Hid (∀ w', w' = w → Calls Tryd.prog 40 #[.int .u8 (byteAt s (p + 2))] w' fun e w'' => e = .returned (.int .i64 (dig (byteAt s (p + 2)))) ∧ w'' = w') := fun w' hw => by rw [hw]; exact digit_any _ _ hT
    rw [drop_at s (p + 2) (by omega)] at HR
    have hd := dig_bd (byteAt s (p + 2))
    have h2' : ¬ (p : Int) + 2 = (s.size : Int) := by omega
    have h2b : (((p : Int) + 2) == (s.size : Int)) = false := by simp [h2']
    generalize byteAt s (p + 2) = e1 at i2 C1 HR hd
    obtain ⟨d1, hd1⟩ : ∃ d, d = dig e1 := ⟨_, rfl⟩
    have HD1 : Hid (d1 = dig e1) := hd1
    rw [← hd1] at C1 hd
    clear hd1
    by_cases hneg : d1 < 0
    · clear hT
      have hneg' : (d1 : Int) < 0 := hneg
      go_enter Tryd.func36, Tryd.ntmps36
      go_wp2
      refine wp_loop_rounds 1 ?_
      rw [rounds_succ]
      go_wp2_with (first | (go_at_call_of 40 e1; refine (C1.out _ rfl).mono ?_; rintro e w1 ⟨rfl, hw1⟩; replace hw1 := hw1.symm; subst hw1))
      try rw [Exit.noGoto_ret]
      go_ret3
      have hE : R = (0, p + 2, false) := by
        rw [HR.out]
        cases hrest : (bytesS s).drop (p + 2 + 1) with
        | nil => rw [hexR_one, ← HD1.out, if_pos hneg]
        | cons g r => rw [hexR_cons, ← HD1.out, if_pos hneg]
      exact ⟨tup_sign (by rw [hE]) (by rw [hE]; show _ = ((p + 2 : Nat) : Int); omega) (by rw [hE]), rfl⟩
    · have hd0 : 0 ≤ d1 := by omega
      have hw1 : IntKind.u8.wrap d1 = d1 := by rw [IntKind.wrap_u8']; omega
      have o1 : bits .or .u8 0 d1 = d1 := by have := or_dig 0 d1 (by omega) (by omega) hd0 (by omega); simpa using this
      by_cases h3 : p + 3 = s.size
      · rw [drop_none s (p + 2 + 1) (by omega)] at HR
        have h3' : (p : Int) + 3 = (s.size : Int) := by omega
        clear hT
        go_enter Tryd.func36, Tryd.ntmps36
        go_wp2
        refine wp_loop_rounds 2 ?_
        rw [rounds_succ]
        go_wp2_with (first | (go_at_call_of 40 e1; refine (C1.out _ rfl).mono ?_; rintro e w1 ⟨rfl, hw1⟩; replace hw1 := hw1.symm; subst hw1))
        rw [rounds_succ]
        go_wp2_with (first | (go_at_call_of 40 e1; refine (C1.out _ rfl).mono ?_; rintro e w1 ⟨rfl, hw1⟩; replace hw1 := hw1.symm; subst hw1))
        try rw [Exit.noGoto_ret]
        go_ret3
        have hE : R = (0, p + 3, false) := by rw [HR.out, hexR_one, ← HD1.out, if_neg (by omega)]
        exact ⟨tup_sign (by rw [hE]) (by rw [hE]; show _ = ((p + 3 : Nat) : Int); omega) (by rw [hE]), rfl⟩
      · have i3 : ∀ w', (Instr.index 9 (.string s) (.int .i64 ((p : Int) + 2 + 1))).run Tryd.prog w' = .ok (.int .u8 (byteAt s (p + 3))) w' := fun w' => at_str s (p + 3) (by omega) w'
        have C2 : Hid (∀ w', w' = w → Calls Tryd.prog 40 #[.int .u8 (byteAt s (p + 3))] w' fun e w'' => e = .returned (.int .i64 (dig (byteAt s (p + 3)))) ∧ w'' = w') := fun w' hw => by rw [hw]; exact digit_any _ _ hT
        rw [drop_at s (p + 2 + 1) (by omega)] at HR
        have hdd := dig_bd (byteAt s (p + 3))
        have h3' : ¬ (p : Int) + 2 + 1 = (s.size : Int) := by omega
        have h3b : (((p : Int) + 2 + 1) == (s.size : Int)) = false := by simp [h3']
        rw [show p + 2 + 1 = p + 3 from rfl] at HR
        generalize byteAt s (p + 3) = e2 at i3 C2 HR hdd
        obtain ⟨d2, hd2⟩ : ∃ d, d = dig e2 := ⟨_, rfl⟩
        have HD2 : Hid (d2 = dig e2) := hd2
        rw [← hd2] at C2 hdd
        clear hd2 hT
        by_cases hneg2 : d2 < 0
        · go_enter Tryd.func36, Tryd.ntmps36
          go_wp2
          refine wp_loop_rounds 2 ?_
          rw [rounds_succ]
          go_wp2_with (first | (go_at_call_of 40 e1; refine (C1.out _ rfl).mono ?_; rintro e w1 ⟨rfl, hw1⟩; replace hw1 := hw1.symm; subst hw1) | (go_at_call_of 40 e2; refine (C2.out _ rfl).mono ?_; rintro e w1 ⟨rfl, hw1⟩; replace hw1 := hw1.symm; subst hw1))
          rw [rounds_succ]
          go_wp2_with (first | (go_at_call_of 40 e1; refine (C1.out _ rfl).mono ?_; rintro e w1 ⟨rfl, hw1⟩; replace hw1 := hw1.symm; subst hw1) | (go_at_call_of 40 e2; refine (C2.out _ rfl).mono ?_; rintro e w1 ⟨rfl, hw1⟩; replace hw1 := hw1.symm; subst hw1))
          try rw [Exit.noGoto_ret]
          go_ret3
          have hE : R = (0, p + 3, false) := by rw [HR.out, hexR_cons, ← HD1.out, ← HD2.out, if_neg (by omega), if_pos (by omega)]
          exact ⟨tup_sign (by rw [hE]) (by rw [hE]; show _ = ((p + 3 : Nat) : Int); omega) (by rw [hE]), rfl⟩
        · have hd20 : 0 ≤ d2 := by omega
          have hw2 : IntKind.u8.wrap d2 = d2 := by rw [IntKind.wrap_u8']; omega
          have o2 := or_dig d1 d2 hd0 (by omega) hd20 (by omega)
          obtain ⟨x, hx⟩ : ∃ x, x = 16 * d1 + d2 := ⟨_, rfl⟩
          rw [← hx] at o2
          have HX : Hid (x = 16 * d1 + d2) := hx
          clear hx
          cases hpl : plainB x with
          | true =>
            have CP : Hid (∀ w', Calls Tryd.prog 34 #[.int .u8 x] w' fun e w'' => e = .returned (.bool true) ∧ w'' = w') := fun w' => by have := plain_any x w'; rwa [hpl] at this
            go_enter Tryd.func36, Tryd.ntmps36
            go_wp2
            refine wp_loop_rounds 3 ?_
            rw [rounds_succ]
            go_wp2_with (first | (go_at_call_of 40 e1; refine (C1.out _ rfl).mono ?_; rintro e w1 ⟨rfl, hw1⟩; replace hw1 := hw1.symm; subst hw1) | (go_at_call_of 40 e2; refine (C2.out _ rfl).mono ?_; rintro e w1 ⟨rfl, hw1⟩; replace hw1 := hw1.symm; subst hw1) | (go_at_call 34; refine (CP.out _).mono ?_; rintro e w1 ⟨rfl, hw1⟩; replace hw1 := hw1.symm; subst hw1))
            rw [rounds_succ]
            go_wp2_with (first | (go_at_call_of 40 e1; refine (C1.out _ rfl).mono ?_; rintro e w1 ⟨rfl, hw1⟩; replace hw1 := hw1.symm; subst hw1) | (go_at_call_of 40 e2; refine (C2.out _ rfl).mono ?_; rintro e w1 ⟨rfl, hw1⟩; replace hw1 := hw1.symm; subst hw1) | (go_at_call 34; refine (CP.out _).mono ?_; rintro e w1 ⟨rfl, hw1⟩; replace hw1 := hw1.symm; subst hw1))
            rw [rounds_succ]
            go_wp2_with (first | (go_at_call_of 40 e1; refine (C1.out _ rfl).mono ?_; rintro e w1 ⟨rfl, hw1⟩; replace hw1 := hw1.symm; subst hw1) | (go_at_call_of 40 e2; refine (C2.out _ rfl).mono ?_; rintro e w1 ⟨rfl, hw1⟩; replace hw1 := hw1.symm; subst hw1) | (go_at_call 34; refine (CP.out _).mono ?_; rintro e w1 ⟨rfl, hw1⟩; replace hw1 := hw1.symm; subst hw1))
            try rw [Exit.noGoto_ret]
            go_ret3
            have hE : R = (0, p, false) := by rw [HR.out, hexR_cons, ← HD1.out, ← HD2.out, ← HX.out, if_neg (by omega), if_neg (by omega), if_pos hpl]
            exact ⟨tup_sign (by rw [hE]) (by rw [hE]) (by rw [hE]), rfl⟩
          | false =>
            have CP : Hid (∀ w', Calls Tryd.prog 34 #[.int .u8 x] w' fun e w'' => e = .returned (.bool false) ∧ w'' = w') := fun w' => by have := plain_any x w'; rwa [hpl] at this
            go_enter Tryd.func36, Tryd.ntmps36
            go_wp2
            refine wp_loop_rounds 3 ?_
            rw [rounds_succ]
            go_wp2_with (first | (go_at_call_of 40 e1; refine (C1.out _ rfl).mono ?_; rintro e w1 ⟨rfl, hw1⟩; replace hw1 := hw1.symm; subst hw1) | (go_at_call_of 40 e2; refine (C2.out _ rfl).mono ?_; rintro e w1 ⟨rfl, hw1⟩; replace hw1 := hw1.symm; subst hw1) | (go_at_call 34; refine (CP.out _).mono ?_; rintro e w1 ⟨rfl, hw1⟩; replace hw1 := hw1.symm; subst hw1))
            rw [rounds_succ]
            go_wp2_with (first | (go_at_call_of 40 e1; refine (C1.out _ rfl).mono ?_; rintro e w1 ⟨rfl, hw1⟩; replace hw1 := hw1.symm; subst hw1) | (go_at_call_of 40 e2; refine (C2.out _ rfl).mono ?_; rintro e w1 ⟨rfl, hw1⟩; replace hw1 := hw1.symm; subst hw1) | (go_at_call 34; refine (CP.out _).mono ?_; rintro e w1 ⟨rfl, hw1⟩; replace hw1 := hw1.symm; subst hw1))
            rw [rounds_succ]
            go_wp2_with (first | (go_at_call_of 40 e1; refine (C1.out _ rfl).mono ?_; rintro e w1 ⟨rfl, hw1⟩; replace hw1 := hw1.symm; subst hw1) | (go_at_call_of 40 e2; refine (C2.out _ rfl).mono ?_; rintro e w1 ⟨rfl, hw1⟩; replace hw1 := hw1.symm; subst hw1) | (go_at_call 34; refine (CP.out _).mono ?_; rintro e w1 ⟨rfl, hw1⟩; replace hw1 := hw1.symm; subst hw1))
            go_ret3
            have hE : R = (x, p + 4, true) := by rw [HR.out, hexR_cons, ← HD1.out, ← HD2.out, ← HX.out, if_neg (by omega), if_neg (by omega), if_neg (by rw [hpl]; simp)]
            exact ⟨tup_sign (by rw [hE]) (by rw [hE]; show _ = ((p + 4 : Nat) : Int); omega) (by rw [hE]), rfl⟩

set_option maxRecDepth 100000 in
set_option maxHeartbeats 2000000 in
theorem sign_any (s : ByteArray) (p : Nat) (w : World) (hT : Tabs w) (hp : p < s.size) (hs : s.size ≤ 140737488355328) :
    Calls Tryd.prog 29 #[.string s, .int .i64 (p : Int)] w fun e w' =>
      e = .returned (.tuple #[.int .u8 (signR p ((bytesS s).drop p)).1, .int .i64 ((signR p ((bytesS s).drop p)).2.1 : Int), .bool (signR p ((bytesS s).drop p)).2.2]) ∧ Below w.heap.size w w' := by
  obtain ⟨R, hR⟩ : ∃ R, R = signR p ((bytesS s).drop p) := ⟨_, rfl⟩
  rw [← hR]
  have HR : Hid (R = signR p ((bytesS s).drop p)) := hR
  clear hR
  have hp' : (p : Int) < (s.size : Int) := by omega
  have i0 := at_str s p hp
  rw [drop_at s p hp, signR_cons] at HR
  have hbd := byteAt_bd s p
  generalize byteAt s p = c at i0 HR hbd
  cases hpl : plainB c with
  | false =>
    have CP : Hid (∀ w', Calls Tryd.prog 34 #[.int .u8 c] w' fun e w'' => e = .returned (.bool false) ∧ w'' = w') := fun w' => by have := plain_any c w'; rwa [hpl] at this
    rw [if_neg (by rw [hpl]; simp)] at HR
    clear hT hpl
    go_enter Tryd.func29, Tryd.ntmps29
    go_wp2_with (first | (go_at_call 34; refine (CP.out _).mono ?_; rintro e w1 ⟨rfl, hw1⟩; replace hw1 := hw1.symm; subst hw1))
    try rw [Exit.noGoto_ret]
    go_ret3
    exact ⟨tup_sign (by rw [HR.out]) (by rw [HR.out]) (by rw [HR.out]), Below.refl _ _⟩
  | true =>
    have CP : Hid (∀ w', Calls Tryd.prog 34 #[.int .u8 c] w' fun e w'' => e = .returned (.bool true) ∧ w'' = w') := fun w' => by have := plain_any c w'; rwa [hpl] at this
    rw [if_pos hpl] at HR
    clear hpl
    by_cases h92 : c = 92
    · rw [if_pos h92] at HR
      subst h92
      by_cases h1 : p + 1 = s.size
      · rw [drop_none s (p + 1) (by omega)] at HR
        have h1' : (p : Int) + 1 = (s.size : Int) := by omega
        clear hT
        go_enter Tryd.func29, Tryd.ntmps29
        go_wp2_with (first | (go_at_call 34; refine (CP.out _).mono ?_; rintro e w1 ⟨rfl, hw1⟩; replace hw1 := hw1.symm; subst hw1))
        try rw [Exit.noGoto_ret]
        go_ret3
        exact ⟨tup_sign (by rw [HR.out]; rfl) (by rw [HR.out]; show _ = ((p + 1 : Nat) : Int); omega) (by rw [HR.out]; rfl), Below.refl _ _⟩
      · have h1' : ¬ (p : Int) + 1 = (s.size : Int) := by omega
        have h1b : (((p : Int) + 1) == (s.size : Int)) = false := by simp [h1']
        have i1 : ∀ w', (Instr.index 9 (.string s) (.int .i64 ((p : Int) + 1))).run Tryd.prog w' = .ok (.int .u8 (byteAt s (p + 1))) w' := fun w' => at_str s (p + 1) (by omega) w'
        rw [drop_at s (p + 1) (by omega), escR_cons] at HR
        generalize byteAt s (p + 1) = d at i1 HR
        have C2 : Hid (Calls Tryd.prog 35 #[.int .u8 d] w fun e w'' => e = .returned (.int .i64 (escZ d)) ∧ Below w.heap.size w w'') := behind_any d w hT
        by_cases hq : d = 39 ∨ d = 92
        · have hE : escZ d = 0 := by unfold escZ; rw [if_pos hq]
          rw [hE] at C2
          rw [if_pos hq] at HR
          clear hT hq hE
          go_enter Tryd.func29, Tryd.ntmps29
          go_wp2_with (first | (go_at_call 34; refine (CP.out _).mono ?_; rintro e w1 ⟨rfl, hw1⟩; replace hw1 := hw1.symm; subst hw1) | (go_at_call 35; refine C2.out.mono ?_; rintro e w2 ⟨rfl, hB2⟩))
          try rw [Exit.noGoto_ret]
          go_ret3
          exact ⟨tup_sign (by rw [HR.out]) (by rw [HR.out]; show _ = ((p + 2 : Nat) : Int); omega) (by rw [HR.out]), hB2⟩
        · rw [if_neg hq] at HR
          by_cases hx : d = 120
          · have hE : escZ d = 2 := by unfold escZ; rw [if_neg hq, if_pos hx]
            rw [hE] at C2
            rw [if_pos hx] at HR
            have HC : Hid (∀ w', Below w.heap.size w w' → Calls Tryd.prog 36 #[.string s, .int .i64 (p : Int), .int .i64 2] w' fun e w'' => e = .returned (.tuple #[.int .u8 R.1, .int .i64 (R.2.1 : Int), .bool R.2.2]) ∧ w'' = w') := fun w' hb => by
              have := coded_any s p w' (hT.later hb hT.two) (by omega) hs
              rw [show p + 2 = p + 1 + 1 from rfl, ← HR.out] at this
              exact this
            clear hT hq hE hx
            go_enter Tryd.func29, Tryd.ntmps29
            go_wp2_with (first | (go_at_call 34; refine (CP.out _).mono ?_; rintro e w1 ⟨rfl, hw1⟩; replace hw1 := hw1.symm; subst hw1) | (go_at_call 35; refine C2.out.mono ?_; rintro e w2 ⟨rfl, hB2⟩) | (go_at_call 36; refine (HC.out _ hB2).mono ?_; rintro e w3 ⟨rfl, hw3⟩; replace hw3 := hw3.symm; subst hw3))
            try rw [Exit.noGoto_ret]
            go_ret3
            exact ⟨rfl, hB2⟩
          · have hE : escZ d = -1 := by unfold escZ; rw [if_neg hq, if_neg hx]
            rw [hE] at C2
            rw [if_neg hx] at HR
            clear hT hq hE hx
            go_enter Tryd.func29, Tryd.ntmps29
            go_wp2_with (first | (go_at_call 34; refine (CP.out _).mono ?_; rintro e w1 ⟨rfl, hw1⟩; replace hw1 := hw1.symm; subst hw1) | (go_at_call 35; refine C2.out.mono ?_; rintro e w2 ⟨rfl, hB2⟩))
            try rw [Exit.noGoto_ret]
            go_ret3
            exact ⟨tup_sign (by rw [HR.out]) (by rw [HR.out]; show _ = ((p + 1 : Nat) : Int); omega) (by rw [HR.out]), hB2⟩
    · rw [if_neg h92] at HR
      have h92b : (c == (92 : Int)) = false := by simp [h92]
      clear hT
      go_enter Tryd.func29, Tryd.ntmps29
      go_wp2_with (first | (go_at_call 34; refine (CP.out _).mono ?_; rintro e w1 ⟨rfl, hw1⟩; replace hw1 := hw1.symm; subst hw1))
      try rw [Exit.noGoto_ret]
      go_ret3
      exact ⟨tup_sign (by rw [HR.out]) (by rw [HR.out]; show _ = ((p + 1 : Nat) : Int); omega) (by rw [HR.out]), Below.refl _ _⟩
end Go.Proofs.YtdfmehbnhdhbcaaDoor
