/-
  word.Name and its small functions: a range over a text's runes is a walk over its bytes.
-/
import Derived.Test.YtjclelmbpmlioaaWordMath
namespace Go.Proofs.Ytjclelmbpmlioaa
open Go.RowKit

set_option maxHeartbeats 400000 in
theorem small_any (r : Int) (w : World) : Calls Try.prog 55 #[.int .i32 r] w fun e w' => e = .returned (.bool (smallB r)) ∧ w' = w := by
  go_enter Try.func55, Try.ntmps55
  go_wp2
  all_goals go_ret
  all_goals refine ⟨ret_bool ?_, rfl⟩
  all_goals (unfold smallB; rw [Bool.eq_iff_iff]; simp <;> omega)
set_option maxHeartbeats 400000 in
theorem fits_any (s : ByteArray) (w : World) : Calls Try.prog 56 #[.string s] w fun e w' => e = .returned (.bool (fitsB s)) ∧ w' = w := by
  go_enter Try.func56, Try.ntmps56
  go_wp2
  all_goals go_ret
  all_goals refine ⟨ret_bool ?_, rfl⟩
  all_goals (unfold fitsB; rw [Bool.eq_iff_iff]; simp <;> omega)

theorem below_iter (w : World) (s : ByteArray) (p : Nat) : Below w.heap.size w (w.iter s p) := (Below.refl _ _).alloc (Nat.le_refl _) _

set_option maxRecDepth 100000 in
set_option maxHeartbeats 4000000 in
theorem name_any (s : ByteArray) (w : World) : Calls Try.prog 46 #[.string s] w fun e w' => e = .returned (.bool (nameB s)) ∧ Below w.heap.size w w' := by
  obtain ⟨B, hB⟩ : ∃ B, B = nameB s := ⟨_, rfl⟩
  rw [← hB]
  have HB : Hid (B = nameB s) := hB
  clear hB
  have hfit := fun w' => fits_any s w'
  have HF : Hid (∀ w', Calls Try.prog 56 _ w' _) := hfit
  clear hfit
  go_enter Try.func46, Try.ntmps46
  go_wp2
  go_loopw [] (fun w' => ∃ p : Nat, w' = w.iter s p ∧ Hid (∀ j, j < p → j < s.size → okB (byteAt s j) j = true)) (fun w' => s.size - w'.iterPos w.heap.size)
  case atStart => exact ⟨0, rfl, fun j hj => by omega⟩
  case round =>
    obtain ⟨p, rfl, HP⟩ := hrel
    by_cases hp : p < s.size
    · have hbd := byteAt_bd s p
      by_cases ha : byteAt s p < 128
      · have hnx : ∀ ty, (Instr.next (.pointer (some ⟨w.heap.size, 0, none⟩)) true ty).run Try.prog (w.iter s p) = .ok (.tuple #[.bool true, .int .i64 p, .int .i32 (byteAt s p)]) (w.iter s (p + 1)) := fun ty => by
          have e := run_next_any (P := Try.prog) w s p ty hp
          rw [rune_byte s p hp ha] at e
          rw [e, Int.toNat_of_nonneg hbd.1]
        obtain ⟨c, hc⟩ : ∃ c, c = byteAt s p := ⟨_, rfl⟩
        have HC : Hid (c = byteAt s p) := hc
        rw [← hc] at hnx hbd ha
        clear hc
        by_cases h1 : 97 ≤ c ∧ c ≤ 122
        · have hs : smallB c = true := decide_eq_true h1
          have HO : Hid (okB c p = true) := by show okB c p = true; unfold okB; rw [hs]; rfl
          have HS : Hid (∀ w', Calls Try.prog 55 #[.int .i32 c] w' fun e w'' => e = .returned (.bool true) ∧ w'' = w') := fun w' => by have := small_any c w'; rwa [hs] at this
          obtain ⟨h1a, h1b⟩ := h1
          clear hs
          go_wp2_with (first | (go_at_call 55; refine (HS.out _).mono ?_; rintro e w1 ⟨rfl, hw1⟩; replace hw1 := hw1.symm; subst hw1))
          go_roundw
          case rel => exact ⟨p + 1, rfl, fun j hj hjs => if h : j = p then by rw [h, ← HC.out]; exact HO.out else HP.out j (by omega) hjs⟩
          case measure => simp; omega
        · have hs : smallB c = false := decide_eq_false h1
          have HS : Hid (∀ w', Calls Try.prog 55 #[.int .i32 c] w' fun e w'' => e = .returned (.bool false) ∧ w'' = w') := fun w' => by have := small_any c w'; rwa [hs] at this
          by_cases h2 : 48 ≤ c ∧ c ≤ 57 ∨ c = 95
          · have hl : laterB c = true := decide_eq_true h2
            by_cases hp0 : p = 0
            · have HO : Hid (okB c p = false) := by show okB c p = false; unfold okB; rw [hs, hl, hp0]; rfl
              subst hp0
              clear hs hl h1
              rcases h2 with ⟨h2a, h2b⟩ | h2
              · go_wp2_with (first | (go_at_call 55; refine (HS.out _).mono ?_; rintro e w1 ⟨rfl, hw1⟩; replace hw1 := hw1.symm; subst hw1))
                try rw [Exit.noGoto_ret]
                go_ret
                exact ⟨ret_bool (by rw [HB.out, nameB_not _ hp (by rw [← HC.out]; exact HO.out)]), below_iter w s _⟩
              · subst h2
                go_wp2_with (first | (go_at_call 55; refine (HS.out _).mono ?_; rintro e w1 ⟨rfl, hw1⟩; replace hw1 := hw1.symm; subst hw1))
                try rw [Exit.noGoto_ret]
                go_ret
                exact ⟨ret_bool (by rw [HB.out, nameB_not _ hp (by rw [← HC.out]; exact HO.out)]), below_iter w s _⟩
            · have HO : Hid (okB c p = true) := by show okB c p = true; unfold okB; rw [hs, hl]; simp [hp0]
              have hp1 : ¬ (p : Int) = 0 := by omega
              clear hs hl h1
              rcases h2 with ⟨h2a, h2b⟩ | h2
              · go_wp2_with (first | (go_at_call 55; refine (HS.out _).mono ?_; rintro e w1 ⟨rfl, hw1⟩; replace hw1 := hw1.symm; subst hw1))
                go_roundw
                case rel => exact ⟨p + 1, rfl, fun j hj hjs => if h : j = p then by rw [h, ← HC.out]; exact HO.out else HP.out j (by omega) hjs⟩
                case measure => simp; omega
              · subst h2
                go_wp2_with (first | (go_at_call 55; refine (HS.out _).mono ?_; rintro e w1 ⟨rfl, hw1⟩; replace hw1 := hw1.symm; subst hw1))
                go_roundw
                case rel => exact ⟨p + 1, rfl, fun j hj hjs => if h : j = p then by rw [h, ← HC.out]; exact HO.out else HP.out j (by omega) hjs⟩
                case measure => simp; omega
          · have hl : laterB c = false := decide_eq_false h2
            have HO : Hid (okB c p = false) := by show okB c p = false; unfold okB; rw [hs, hl]; rfl
            have h95 : ¬ c = 95 := fun h => h2 (.inr h)
            have h95' : (c == (95 : Int)) = false := by simp [h95]
            clear hs hl h1
            by_cases h48 : 48 ≤ c
            · have h57 : ¬ c ≤ 57 := fun h => h2 (.inl ⟨h48, h⟩)
              clear h2
              by_cases hp0 : p = 0
              · subst hp0
                go_wp2_with (first | (go_at_call 55; refine (HS.out _).mono ?_; rintro e w1 ⟨rfl, hw1⟩; replace hw1 := hw1.symm; subst hw1))
                try rw [Exit.noGoto_ret]
                go_ret
                exact ⟨ret_bool (by rw [HB.out, nameB_not _ hp (by rw [← HC.out]; exact HO.out)]), below_iter w s _⟩
              · have hp1 : ¬ (p : Int) = 0 := by omega
                go_wp2_with (first | (go_at_call 55; refine (HS.out _).mono ?_; rintro e w1 ⟨rfl, hw1⟩; replace hw1 := hw1.symm; subst hw1))
                try rw [Exit.noGoto_ret]
                go_ret
                exact ⟨ret_bool (by rw [HB.out, nameB_not _ hp (by rw [← HC.out]; exact HO.out)]), below_iter w s _⟩
            · clear h2
              by_cases hp0 : p = 0
              · subst hp0
                go_wp2_with (first | (go_at_call 55; refine (HS.out _).mono ?_; rintro e w1 ⟨rfl, hw1⟩; replace hw1 := hw1.symm; subst hw1))
                try rw [Exit.noGoto_ret]
                go_ret
                exact ⟨ret_bool (by rw [HB.out, nameB_not _ hp (by rw [← HC.out]; exact HO.out)]), below_iter w s _⟩
              · have hp1 : ¬ (p : Int) = 0 := by omega
                go_wp2_with (first | (go_at_call 55; refine (HS.out _).mono ?_; rintro e w1 ⟨rfl, hw1⟩; replace hw1 := hw1.symm; subst hw1))
                try rw [Exit.noGoto_ret]
                go_ret
                exact ⟨ret_bool (by rw [HB.out, nameB_not _ hp (by rw [← HC.out]; exact HO.out)]), below_iter w s _⟩
      · obtain ⟨r1, r2, _, _⟩ := rune_over s p hp (by omega)
        have hnx : ∀ ty, (Instr.next (.pointer (some ⟨w.heap.size, 0, none⟩)) true ty).run Try.prog (w.iter s p) = _ := fun ty => run_next_any (P := Try.prog) w s p ty hp
        have HO : Hid (okB (byteAt s p) p = false) := by
          show okB (byteAt s p) p = false
          unfold okB smallB laterB
          rw [decide_eq_false (by omega), decide_eq_false (by omega)]; rfl
        obtain ⟨c, hc⟩ : ∃ c : Int, c = ((Utf8.decode s p).1 : Int) := ⟨_, rfl⟩
        have hc1 : 128 ≤ c := by omega
        rw [← hc] at hnx
        generalize (Utf8.decode s p).2 = q at hnx
        have hs : smallB c = false := decide_eq_false (by omega)
        have HS : Hid (∀ w', Calls Try.prog 55 #[.int .i32 c] w' fun e w'' => e = .returned (.bool false) ∧ w'' = w') := fun w' => by have := small_any c w'; rwa [hs] at this
        have h57 : ¬ c ≤ 57 := by omega
        have h48 : 48 ≤ c := by omega
        have h95 : ¬ c = 95 := by omega
        have h95' : (c == (95 : Int)) = false := by simp [h95]
        clear hs ha r1 r2 hbd hc
        by_cases hp0 : p = 0
        · subst hp0
          go_wp2_with (first | (go_at_call 55; refine (HS.out _).mono ?_; rintro e w1 ⟨rfl, hw1⟩; replace hw1 := hw1.symm; subst hw1))
          try rw [Exit.noGoto_ret]
          go_ret
          exact ⟨ret_bool (by rw [HB.out, nameB_not 0 hp HO.out]), below_iter w s _⟩
        · have hp1 : ¬ (p : Int) = 0 := by omega
          go_wp2_with (first | (go_at_call 55; refine (HS.out _).mono ?_; rintro e w1 ⟨rfl, hw1⟩; replace hw1 := hw1.symm; subst hw1))
          try rw [Exit.noGoto_ret]
          go_ret
          exact ⟨ret_bool (by rw [HB.out, nameB_not p hp HO.out]), below_iter w s _⟩
    · have hnx : ∀ ty, (Instr.next (.pointer (some ⟨w.heap.size, 0, none⟩)) true ty).run Try.prog (w.iter s p) = _ := fun ty => run_next_end w s p ty hp
      go_wp2_with (first | (go_at_call 56; refine (HF.out _).mono ?_; rintro e w1 ⟨rfl, hw1⟩; replace hw1 := hw1.symm; subst hw1))
      go_ret
      refine ⟨ret_bool ?_, below_iter w s p⟩
      rw [HB.out, nameB_all (fun j hj => HP.out j (by omega) hj)]
end Go.Proofs.Ytjclelmbpmlioaa
