/-
  The document's Unquote.
-/
import Derived.Test.YtdfmehbnhdhbcaaDoorQuoteRef
import Derived.Test.YtdfmehbnhdhbcaaDoorQuoteUnq
import Derived.Deep.QuietTactic
namespace Go.Proofs.YtdfmehbnhdhbcaaDoor
open Go.RowKit

theorem coded_wrap (a b : Int) (ha0 : 0 ≤ a) (ha : a < 16) (hb0 : 0 ≤ b) (hb : b < 16) : IntKind.u8.wrap (IntKind.i64.wrap (IntKind.i64.wrap (16 * a) + b)) = 16 * a + b := by
  rw [IntKind.wrap_i64, IntKind.wrap_i64, IntKind.wrap_u8']; omega

set_option maxRecDepth 100000 in
set_option maxHeartbeats 8000000 in
theorem refUnquote_any (s : ByteArray) (w : World) (hs : s.size ≤ 140737488355328) :
    Calls Tryd.prog 25 #[.string s] w fun e w' =>
      e = .returned (.tuple #[.string (strOf (unquoteR (bytesS s)).1), .int .i64 ((unquoteR (bytesS s)).2.1 : Int), .int .i64 (unquoteR (bytesS s)).2.2]) ∧ Below w.heap.size w w' := by
  obtain ⟨R, hR⟩ : ∃ R, R = unquoteR (bytesS s) := ⟨_, rfl⟩
  rw [← hR]
  have HR : Hid (R = unquoteR (bytesS s)) := hR
  clear hR
  by_cases h0 : s.size = 0
  · have e := eq_nil s h0
    subst e
    go_enter Tryd.func25, Tryd.ntmps25
    go_wp2
    go_ret3
    exact ⟨tup_unq (by rw [HR.out]; rfl) (by rw [HR.out]; rfl) (by rw [HR.out]; rfl), Below.refl _ _⟩
  · have hne := ne_nil s (by omega)
    have i0 : ∀ w', (Instr.index 9 (.string s) (.int .i64 0)).run Tryd.prog w' = .ok (.int .u8 (byteAt s 0)) w' := fun w' => at_str s 0 (by omega) w'
    have hd0 := drop_at s 0 (by omega)
    rw [List.drop_zero] at hd0
    rw [hd0, unquoteR_cons] at HR
    clear hd0
    generalize hc0 : byteAt s 0 = c0 at i0 HR
    clear hc0
    by_cases h39 : c0 = 39
    · rw [if_pos h39] at HR
      subst h39
      go_enter Tryd.func25, Tryd.ntmps25
      go_wp2
      go_loopw [5, 6] (fun b at_ wr => ∃ (i f : Nat) (acc : List Int), at_ = .int .i64 i ∧ i ≤ s.size ∧ 1 ≤ i ∧ acc.length + 1 ≤ i ∧
        Hid (((bytesS s).drop i).length < f ∧ R = unqR f i acc ((bytesS s).drop i) ∧ wr.ownsRow w.heap.size 5 1 b acc.length (cellsOf acc) ∧ Below w.heap.size w wr)) (fun _ at_ _ => s.size - (intOf at_).toNat)
      case atStart => exact ⟨1, _, [], rfl, by omega, by omega, by simp, Nat.lt_succ_self _, HR.out, World.ownsRow_nil _ _ _ _, Below.refl _ _⟩
      case round =>
        obtain ⟨i, f, acc, rfl, hi, hi1, hacc, HU⟩ := hrel
        obtain ⟨f, rfl⟩ : ∃ f', f = f' + 1 := ⟨f - 1, by have := HU.out.1; omega⟩
        by_cases hlt : i < s.size
        · have hlt' : (i : Int) < (s.size : Int) := by omega
          have ii := at_str s i hlt
          have hbd := byteAt_bd s i
          have HL : Hid (s.size - i < f + 1) := by have := HU.out.1; rw [List.length_drop, bytesS_length] at this; exact this
          have HE : Hid (R = unqR (f + 1) i acc (byteAt s i :: (bytesS s).drop (i + 1))) := by show _ = _; rw [← drop_at s i hlt]; exact HU.out.2.1
          have HO : Hid (wr.ownsRow w.heap.size 5 1 u5 acc.length (cellsOf acc)) := HU.out.2.2.1
          have HW : Hid (Below w.heap.size w wr) := HU.out.2.2.2
          clear HU
          rw [unqR_cons] at HE
          have HD : Hid ((byteAt s i :: (bytesS s).drop (i + 1)) = (bytesS s).drop i) := (drop_at s i hlt).symm
          by_cases hq : byteAt s i = 39
          · rw [if_pos hq] at HE
            rw [hq] at ii
            obtain ⟨a5, c5, e5⟩ := own_slice HO.out
            subst e5
            have hcv := conv_own HO.out
            by_cases hlong : 256 < acc.length
            · have hlong' : (256 : Int) < (acc.length : Int) := by omega
              rw [if_pos hlong] at HE
              go_wp2
              try rw [Exit.noGoto_ret]
              go_ret3
              exact ⟨tup_unq (by rw [HE.out]; rfl) (by rw [HE.out]; rfl) (by rw [HE.out]), HW.out⟩
            · have hlong' : ¬ (256 : Int) < (acc.length : Int) := by omega
              rw [if_neg hlong] at HE
              go_wp2
              try rw [Exit.noGoto_ret]
              go_ret3
              exact ⟨tup_unq (by rw [HE.out]) (by rw [HE.out]; show _ = ((i + 1 : Nat) : Int); omega) (by rw [HE.out]), HW.out⟩
          · rw [if_neg hq, signR_cons] at HE
            have hqb : (byteAt s i == (39 : Int)) = false := by simp [hq]
            generalize byteAt s i = c at ii hq hqb hbd HE HD
            cases hpl : plainB c with
            | false =>
              have CP : Hid (∀ w', Calls Tryd.prog 31 #[.int .u8 c] w' fun e w'' => e = .returned (.bool false) ∧ w'' = w') := fun w' => by have := refPlain_any c w'; rwa [hpl] at this
              rw [hpl, if_neg (show ¬ (false = true) by simp), if_neg (by simp)] at HE
              go_wp2_with (first | (go_at_call 31; refine (CP.out _).mono ?_; rintro e w1 ⟨rfl, hw1⟩; replace hw1 := hw1.symm; subst hw1))
              try rw [Exit.noGoto_ret]
              go_ret3
              exact ⟨tup_unq (by rw [HE.out]; rfl) (by rw [HE.out]) (by rw [HE.out]), HW.out⟩
            | true =>
              have CP : Hid (∀ w', Calls Tryd.prog 31 #[.int .u8 c] w' fun e w'' => e = .returned (.bool true) ∧ w'' = w') := fun w' => by have := refPlain_any c w'; rwa [hpl] at this
              rw [hpl, if_pos (show true = true from rfl)] at HE
              by_cases h92 : c = 92
              · rw [if_pos h92] at HE
                subst h92
                clear hq hqb hpl hbd
                rw [HD.out] at HE
                clear HD
                by_cases h1 : i + 1 < s.size
                · have h1' : (i : Int) + 1 < (s.size : Int) := by omega
                  have i1 : ∀ w', (Instr.index 9 (.string s) (.int .i64 ((i : Int) + 1))).run Tryd.prog w' = .ok (.int .u8 (byteAt s (i + 1))) w' := fun w' => at_str s (i + 1) h1 w'
                  have hbd := byteAt_bd s (i + 1)
                  rw [drop_at s (i + 1) h1, escR_cons] at HE
                  generalize byteAt s (i + 1) = d at i1 HE hbd
                  by_cases hq : d = 39 ∨ d = 92
                  · rw [if_pos hq, if_pos rfl] at HE
                    dsimp only at HE
                    rw [Nat.add_sub_cancel_left, List.drop_drop] at HE
                    obtain ⟨v3, w3, hr3, ho3, hB3⟩ := append_lit HO.out HW.out.size [d] (by simp; omega) (by simp) (by simp; omega)
                    have HA : Hid (_ = _) := hr3
                    clear hr3
                    rcases hq with rfl | rfl
                    · go_wp2_with (first | (go_at_call 31; refine (CP.out _).mono ?_; rintro e w1 ⟨rfl, hw1⟩; replace hw1 := hw1.symm; subst hw1) | (at_builtin; refine wpList_append_run rfl (.tmp 64) (.tmp 69) 33 rfl _ _ _ rfl rfl HA.out ?_))
                      have hl := HL.out
                      go_roundw
                      case rel => exact ⟨i + 2, f, acc ++ [39], by go_num, by omega, by omega, by simp; omega, by rw [List.length_drop, bytesS_length]; omega, HE.out, by rw [List.length_append]; exact ho3, HW.out.trans hB3⟩
                      case measure => simp [intOf]; omega
                    · go_wp2_with (first | (go_at_call 31; refine (CP.out _).mono ?_; rintro e w1 ⟨rfl, hw1⟩; replace hw1 := hw1.symm; subst hw1) | (at_builtin; refine wpList_append_run rfl (.tmp 64) (.tmp 69) 33 rfl _ _ _ rfl rfl HA.out ?_))
                      have hl := HL.out
                      go_roundw
                      case rel => exact ⟨i + 2, f, acc ++ [92], by go_num, by omega, by omega, by simp; omega, by rw [List.length_drop, bytesS_length]; omega, HE.out, by rw [List.length_append]; exact ho3, HW.out.trans hB3⟩
                      case measure => simp [intOf]; omega
                  · have h39 : ¬ d = 39 := fun h => hq (.inl h)
                    have h92 : ¬ d = 92 := fun h => hq (.inr h)
                    have h39b : (d == (39 : Int)) = false := by simp [h39]
                    have h92b : (d == (92 : Int)) = false := by simp [h92]
                    rw [if_neg hq] at HE
                    clear hq
                    by_cases hx : d = 120
                    · rw [if_pos hx] at HE
                      subst hx
                      clear h39 h92 h39b h92b hbd
                      rw [show i + 1 + 1 = i + 2 from rfl] at HE
                      by_cases h2 : i + 2 < s.size
                      · have h2' : (i : Int) + 2 < (s.size : Int) := by omega
                        have i2 : ∀ w', (Instr.index 9 (.string s) (.int .i64 ((i : Int) + 2))).run Tryd.prog w' = .ok (.int .u8 (byteAt s (i + 2))) w' := fun w' => at_str s (i + 2) h2 w'
                        rw [drop_at s (i + 2) h2] at HE
                        generalize byteAt s (i + 2) = e1 at i2 HE
                        have hd1 := dig_bd e1
                        have C1 : Hid (∀ w', Calls Tryd.prog 32 #[.int .u8 e1] w' fun e w'' => e = .returned (.int .i64 (dig e1)) ∧ w'' = w') := fun w' => hex_any e1 w'
                        obtain ⟨d1, hd⟩ : ∃ d, d = dig e1 := ⟨_, rfl⟩
                        have HD1 : Hid (d1 = dig e1) := hd
                        rw [← hd] at C1 hd1
                        clear hd
                        rw [show i + 2 + 1 = i + 3 from rfl] at HE
                        by_cases hn1 : d1 < 0
                        · replace HE : Hid (R = ([], i + 2, 4)) := by
                            have h := HE.out
                            have hh : hexR i (e1 :: (bytesS s).drop (i + 3)) = (0, i + 2, false) := by
                              cases (bytesS s).drop (i + 3) with
                              | nil => rw [hexR_one, ← HD1.out, if_pos hn1]
                              | cons g r => rw [hexR_cons, ← HD1.out, if_pos hn1]
                            rw [hh, if_neg (by simp)] at h
                            exact h
                          go_wp2_with (first | (go_at_call 31; refine (CP.out _).mono ?_; rintro e w1 ⟨rfl, hw1⟩; replace hw1 := hw1.symm; subst hw1))
                          refine wp_loop_rounds 1 ?_
                          rw [rounds_succ]
                          go_wp2_with (first | (go_at_call_of 32 e1; refine (C1.out _).mono ?_; rintro e w1 ⟨rfl, hw1⟩; replace hw1 := hw1.symm; subst hw1))
                          try rw [Exit.noGoto_ret]
                          go_ret3
                          exact ⟨tup_unq (by rw [HE.out]; rfl) (by rw [HE.out]; show _ = ((i + 2 : Nat) : Int); omega) (by rw [HE.out]), HW.out⟩
                        · by_cases h3 : i + 3 < s.size
                          · have h3' : (i : Int) + 2 + 1 < (s.size : Int) := by omega
                            have h3'' : (i : Int) + 3 < (s.size : Int) := by omega
                            have i3 : ∀ w', (Instr.index 9 (.string s) (.int .i64 ((i : Int) + 2 + 1))).run Tryd.prog w' = .ok (.int .u8 (byteAt s (i + 3))) w' := fun w' => at_str s (i + 3) h3 w'
                            have i3b : ∀ w', (Instr.index 9 (.string s) (.int .i64 ((i : Int) + 3))).run Tryd.prog w' = .ok (.int .u8 (byteAt s (i + 3))) w' := fun w' => at_str s (i + 3) h3 w'
                            rw [drop_at s (i + 3) h3, hexR_cons, ← HD1.out, if_neg hn1] at HE
                            generalize byteAt s (i + 3) = e2 at i3 i3b HE
                            have hd2 := dig_bd e2
                            have C2 : Hid (∀ w', Calls Tryd.prog 32 #[.int .u8 e2] w' fun e w'' => e = .returned (.int .i64 (dig e2)) ∧ w'' = w') := fun w' => hex_any e2 w'
                            generalize dig e2 = d2 at C2 hd2 HE
                            by_cases hn2 : d2 < 0
                            · rw [if_pos hn2, if_neg (by simp)] at HE
                              go_wp2_with (first | (go_at_call 31; refine (CP.out _).mono ?_; rintro e w1 ⟨rfl, hw1⟩; replace hw1 := hw1.symm; subst hw1))
                              refine wp_loop_rounds 2 ?_
                              rw [rounds_succ]
                              go_wp2_with (first | (go_at_call_of 32 e1; refine (C1.out _).mono ?_; rintro e w1 ⟨rfl, hw1⟩; replace hw1 := hw1.symm; subst hw1) | (go_at_call_of 32 e2; refine (C2.out _).mono ?_; rintro e w1 ⟨rfl, hw1⟩; replace hw1 := hw1.symm; subst hw1))
                              rw [rounds_succ]
                              go_wp2_with (first | (go_at_call_of 32 e1; refine (C1.out _).mono ?_; rintro e w1 ⟨rfl, hw1⟩; replace hw1 := hw1.symm; subst hw1) | (go_at_call_of 32 e2; refine (C2.out _).mono ?_; rintro e w1 ⟨rfl, hw1⟩; replace hw1 := hw1.symm; subst hw1))
                              try rw [Exit.noGoto_ret]
                              go_ret3
                              exact ⟨tup_unq (by rw [HE.out]; rfl) (by rw [HE.out]; show _ = ((i + 3 : Nat) : Int); omega) (by rw [HE.out]), HW.out⟩
                            · rw [if_neg hn2] at HE
                              have hcw := coded_wrap d1 d2 (by omega) (by omega) (by omega) (by omega)
                              obtain ⟨x, hx⟩ : ∃ x, x = 16 * d1 + d2 := ⟨_, rfl⟩
                              have hx0 : 0 ≤ x := by omega
                              have hx1 : x ≤ 255 := by omega
                              rw [← hx] at hcw HE
                              clear hx
                              have CP2 : Hid (∀ w', Calls Tryd.prog 31 #[.int .u8 x] w' fun e w'' => e = .returned (.bool (plainB x)) ∧ w'' = w') := fun w' => refPlain_any x w'
                              go_wp2_with (first | (go_at_call 31; refine (CP.out _).mono ?_; rintro e w1 ⟨rfl, hw1⟩; replace hw1 := hw1.symm; subst hw1))
                              refine wp_loop_rounds 3 ?_
                              rw [rounds_succ]
                              go_wp2_with (first | (go_at_call_of 32 e1; refine (C1.out _).mono ?_; rintro e w1 ⟨rfl, hw1⟩; replace hw1 := hw1.symm; subst hw1) | (go_at_call_of 32 e2; refine (C2.out _).mono ?_; rintro e w1 ⟨rfl, hw1⟩; replace hw1 := hw1.symm; subst hw1))
                              rw [rounds_succ]
                              go_wp2_with (first | (go_at_call_of 32 e1; refine (C1.out _).mono ?_; rintro e w1 ⟨rfl, hw1⟩; replace hw1 := hw1.symm; subst hw1) | (go_at_call_of 32 e2; refine (C2.out _).mono ?_; rintro e w1 ⟨rfl, hw1⟩; replace hw1 := hw1.symm; subst hw1))
                              rw [rounds_succ]
                              go_wp2_with (first | (go_at_call_of 32 e1; refine (C1.out _).mono ?_; rintro e w1 ⟨rfl, hw1⟩; replace hw1 := hw1.symm; subst hw1) | (go_at_call_of 32 e2; refine (C2.out _).mono ?_; rintro e w1 ⟨rfl, hw1⟩; replace hw1 := hw1.symm; subst hw1))
                              have hw2 : IntKind.i64.wrap ((i : Int) + 2) = (i : Int) + 2 := by rw [IntKind.wrap_i64]; omega
                              have hw3 : IntKind.i64.wrap ((i : Int) + 3) = (i : Int) + 3 := by rw [IntKind.wrap_i64]; omega
                              go_quiet (first | (go_at_call_of 32 e1; exact Calls.quiet_of_same (C1.out _)) | (go_at_call_of 32 e2; exact Calls.quiet_of_same (C2.out _)))
                              have hbq : Below wr.heap.size wr (wr.drewN nq) := ⟨rfl, rfl, rfl, Nat.le_refl _, fun _ _ => rfl⟩
                              have hW2 := HW.out.trans (hbq.mono HW.out.size)
                              cases hpx : plainB x with
                              | true =>
                                rw [hpx] at CP2
                                rw [hpx, if_pos (show true = true from rfl), if_neg (by simp)] at HE
                                go_wp2_with (first | (go_at_call 31; refine (CP2.out _).mono ?_; rintro e w1 ⟨rfl, hw1⟩; replace hw1 := hw1.symm; subst hw1))
                                try rw [Exit.noGoto_ret]
                                go_ret3
                                exact ⟨tup_unq (by rw [HE.out]; rfl) (by rw [HE.out]) (by rw [HE.out]), hW2⟩
                              | false =>
                                rw [hpx] at CP2
                                rw [hpx, if_neg (show ¬ (false = true) by simp), if_pos rfl] at HE
                                dsimp only at HE
                                rw [Nat.add_sub_cancel_left, List.drop_drop] at HE
                                obtain ⟨v3, w3, hr3, ho3, hB3⟩ := append_lit (own_below HO.out hbq) hW2.size [x] (by simp; omega) (by simp) (by simp; omega)
                                have HA : Hid (_ = _) := hr3
                                clear hr3
                                go_wp2_with (first | (go_at_call 31; refine (CP2.out _).mono ?_; rintro e w1 ⟨rfl, hw1⟩; replace hw1 := hw1.symm; subst hw1) | (at_builtin; refine wpList_append_run rfl (.tmp 116) (.tmp 118) 33 rfl _ _ _ rfl rfl HA.out ?_))
                                have hl := HL.out
                                go_roundw
                                case rel => exact ⟨i + 4, f, acc ++ [x], by go_num, by omega, by omega, by simp; omega, by rw [List.length_drop, bytesS_length]; omega, HE.out, by rw [List.length_append]; exact ho3, hW2.trans hB3⟩
                                case measure => simp [intOf]; omega
                          · have h3' : ¬ (i : Int) + 2 + 1 < (s.size : Int) := by omega
                            rw [drop_none s (i + 3) (by omega), hexR_one, ← HD1.out, if_neg hn1, if_neg (by simp)] at HE
                            go_wp2_with (first | (go_at_call 31; refine (CP.out _).mono ?_; rintro e w1 ⟨rfl, hw1⟩; replace hw1 := hw1.symm; subst hw1))
                            refine wp_loop_rounds 2 ?_
                            rw [rounds_succ]
                            go_wp2_with (first | (go_at_call_of 32 e1; refine (C1.out _).mono ?_; rintro e w1 ⟨rfl, hw1⟩; replace hw1 := hw1.symm; subst hw1))
                            rw [rounds_succ]
                            go_wp2_with (first | (go_at_call_of 32 e1; refine (C1.out _).mono ?_; rintro e w1 ⟨rfl, hw1⟩; replace hw1 := hw1.symm; subst hw1))
                            try rw [Exit.noGoto_ret]
                            go_ret3
                            exact ⟨tup_unq (by rw [HE.out]; rfl) (by rw [HE.out]; show _ = ((i + 3 : Nat) : Int); omega) (by rw [HE.out]), HW.out⟩
                      · have h2' : ¬ (i : Int) + 2 < (s.size : Int) := by omega
                        rw [drop_none s (i + 2) (by omega), show hexR i [] = (0, i + 2, false) from rfl, if_neg (by simp)] at HE
                        go_wp2_with (first | (go_at_call 31; refine (CP.out _).mono ?_; rintro e w1 ⟨rfl, hw1⟩; replace hw1 := hw1.symm; subst hw1))
                        refine wp_loop_rounds 1 ?_
                        rw [rounds_succ]
                        go_wp2
                        try rw [Exit.noGoto_ret]
                        go_ret3
                        exact ⟨tup_unq (by rw [HE.out]; rfl) (by rw [HE.out]; show _ = ((i + 2 : Nat) : Int); omega) (by rw [HE.out]), HW.out⟩
                    · rw [if_neg hx, if_neg (by simp)] at HE
                      have hxb : (d == (120 : Int)) = false := by simp [hx]
                      go_wp2_with (first | (go_at_call 31; refine (CP.out _).mono ?_; rintro e w1 ⟨rfl, hw1⟩; replace hw1 := hw1.symm; subst hw1))
                      try rw [Exit.noGoto_ret]
                      go_ret3
                      exact ⟨tup_unq (by rw [HE.out]; rfl) (by rw [HE.out]; show _ = ((i + 1 : Nat) : Int); omega) (by rw [HE.out]), HW.out⟩
                · have h1' : ¬ (i : Int) + 1 < (s.size : Int) := by omega
                  rw [drop_none s (i + 1) (by omega), show escR i [] = (0, i + 1, false) from rfl, if_neg (by simp)] at HE
                  go_wp2_with (first | (go_at_call 31; refine (CP.out _).mono ?_; rintro e w1 ⟨rfl, hw1⟩; replace hw1 := hw1.symm; subst hw1))
                  try rw [Exit.noGoto_ret]
                  go_ret3
                  exact ⟨tup_unq (by rw [HE.out]; rfl) (by rw [HE.out]; show _ = ((i + 1 : Nat) : Int); omega) (by rw [HE.out]), HW.out⟩
              · rw [if_neg h92, if_pos rfl] at HE
                have h92b : (c == (92 : Int)) = false := by simp [h92]
                dsimp only at HE
                rw [Nat.add_sub_cancel_left, HD.out, List.drop_drop] at HE
                obtain ⟨v3, w3, hr3, ho3, hB3⟩ := append_lit HO.out HW.out.size [c] (by simp; omega) (by simp) (by simp; omega)
                have HA : Hid (_ = _) := hr3
                clear hr3
                go_wp2_with (first | (go_at_call 31; refine (CP.out _).mono ?_; rintro e w1 ⟨rfl, hw1⟩; replace hw1 := hw1.symm; subst hw1) | (at_builtin; refine wpList_append_run rfl (.tmp 39) (.tmp 41) 33 rfl _ _ _ rfl rfl HA.out ?_))
                have hl := HL.out
                go_roundw
                case rel => exact ⟨i + 1, f, acc ++ [c], by go_num, by omega, by omega, by simp; omega, by rw [List.length_drop, bytesS_length]; omega, HE.out, by rw [List.length_append]; exact ho3, HW.out.trans hB3⟩
                case measure => simp [intOf]; omega
        · obtain rfl : i = s.size := by omega
          have hge : ¬ (s.size : Int) < (s.size : Int) := by omega
          have HE := HU.out.2.1
          rw [drop_none s s.size (by omega), unqR_nil] at HE
          have HE' : Hid (R = ([], s.size, 4)) := HE
          clear HE
          go_wp2
          go_ret3
          exact ⟨tup_unq (by rw [HE'.out]; rfl) (by rw [HE'.out]) (by rw [HE'.out]), HU.out.2.2.2⟩
    · rw [if_neg h39] at HR
      have h39b : (c0 == (39 : Int)) = false := by simp [h39]
      go_enter Tryd.func25, Tryd.ntmps25
      go_wp2
      go_ret3
      exact ⟨tup_unq (by rw [HR.out]; rfl) (by rw [HR.out]; rfl) (by rw [HR.out]), Below.refl _ _⟩
end Go.Proofs.YtdfmehbnhdhbcaaDoor
