/-
  Names, folded texts: of no program (but for what a rune is in the model).
  word.Name and its small functions: a range over a text's runes is a walk over its bytes.
  word.Upper, word.large; the document's lower, upper, digit, Sign, Name, Upper.
-/
import Derived.Test.YtahlmlbfgijcpaaGreatDoorCText
import Derived.Lib.SpaceUEq
namespace Go.Proofs.YtahlmlbfgijcpaaGreatDoor
open Go.RowKit

def smallB (c : Int) : Bool := decide (97 ≤ c ∧ c ≤ 122)
def largeB (c : Int) : Bool := decide (65 ≤ c ∧ c ≤ 90)
def laterB (c : Int) : Bool := decide (48 ≤ c ∧ c ≤ 57 ∨ c = 95)
def foldC (c : Int) : Int := if largeB c then c + 32 else c
def fitsB (s : ByteArray) : Bool := decide (1 ≤ s.size ∧ s.size ≤ 32)
/-- May a byte stand at a place of a name? -/
def okB (c : Int) (j : Nat) : Bool := smallB c || (laterB c && decide (j ≠ 0))
def nameB (s : ByteArray) : Bool := decide (∀ j, j < s.size → okB (byteAt s j) j = true) && fitsB s
def upperB (s : ByteArray) : Bool := decide (∀ j, j < s.size → largeB (byteAt s j) = true) && fitsB s
def foldS (s : ByteArray) : ByteArray := strOf ((bytesS s).map foldC)

theorem nameB_all {s : ByteArray} (h : ∀ j, j < s.size → okB (byteAt s j) j = true) : nameB s = fitsB s := by
  unfold nameB; rw [decide_eq_true h]; simp
theorem nameB_not {s : ByteArray} (j : Nat) (hj : j < s.size) (h : okB (byteAt s j) j = false) : nameB s = false := by
  unfold nameB; rw [decide_eq_false (fun k => by rw [k j hj] at h; cases h)]; simp
theorem upperB_all {s : ByteArray} (h : ∀ j, j < s.size → largeB (byteAt s j) = true) : upperB s = fitsB s := by
  unfold upperB; rw [decide_eq_true h]; simp
theorem upperB_not {s : ByteArray} (j : Nat) (hj : j < s.size) (h : largeB (byteAt s j) = false) : upperB s = false := by
  unfold upperB; rw [decide_eq_false (fun k => by rw [k j hj] at h; cases h)]; simp

theorem foldC_bd (c : Int) (h : 0 ≤ c ∧ c ≤ 255) : 0 ≤ foldC c ∧ foldC c ≤ 255 := by
  unfold foldC largeB; simp only [decide_eq_true_eq]; split <;> omega
theorem foldC_fold (c : Int) : foldC (foldC c) = foldC c := by
  unfold foldC largeB; simp only [decide_eq_true_eq]; repeat' split
  all_goals omega
theorem bytesS_fold (s : ByteArray) : bytesS (foldS s) = (bytesS s).map foldC := by
  refine bytesS_strOf _ fun c hc => ?_
  obtain ⟨d, hd, rfl⟩ := List.mem_map.1 hc
  exact foldC_bd d (bytesS_bd s d hd)
theorem fold_size (s : ByteArray) : (foldS s).size = s.size := by
  rw [← bytesS_length, bytesS_fold, List.length_map, bytesS_length]
theorem fold_fold (s : ByteArray) : foldS (foldS s) = foldS s := by
  show strOf ((bytesS (foldS s)).map foldC) = strOf ((bytesS s).map foldC)
  rw [bytesS_fold, List.map_map]
  congr 1
  exact List.map_congr_left fun c _ => foldC_fold c
theorem fold_at (s : ByteArray) (j : Nat) (hj : j < s.size) : byteAt (foldS s) j = foldC (byteAt s j) := by
  have h : j < (bytesS s).length := by rw [bytesS_length]; exact hj
  simp [byteAt, bytesS_fold, h]
theorem upper_fold (s : ByteArray) (h : upperB s = true) : nameB (foldS s) = true ∧ nameB s = false := by
  unfold upperB at h
  simp only [Bool.and_eq_true, decide_eq_true_eq] at h
  obtain ⟨h1, h2⟩ := h
  have hf : fitsB (foldS s) = true := by unfold fitsB at h2 ⊢; rw [fold_size]; exact h2
  constructor
  · rw [nameB_all, hf]
    intro j hj
    rw [fold_size] at hj
    rw [fold_at s j hj]
    have := h1 j hj
    unfold okB foldC
    rw [this, if_pos rfl]
    unfold largeB at this
    simp only [decide_eq_true_eq] at this
    have hs : smallB (byteAt s j + 32) = true := by unfold smallB; simp only [decide_eq_true_eq]; omega
    rw [hs]; rfl
  · unfold fitsB at h2
    simp only [decide_eq_true_eq] at h2
    have h0 := h1 0 (by omega)
    refine nameB_not 0 (by omega) ?_
    unfold largeB at h0
    simp only [decide_eq_true_eq] at h0
    have hs : smallB (byteAt s 0) = false := by unfold smallB; simp only [decide_eq_false_iff_not]; omega
    unfold okB
    rw [hs]; simp
theorem name_fold (s : ByteArray) (h : nameB s = true) : foldS s = s := by
  unfold nameB at h
  simp only [Bool.and_eq_true, decide_eq_true_eq] at h
  conv => rhs; rw [← strOf_bytesS s]
  unfold foldS
  congr 1
  conv => rhs; rw [← List.map_id (bytesS s)]
  refine List.map_congr_left fun c hc => ?_
  obtain ⟨j, hj, rfl⟩ := List.getElem_of_mem hc
  have hj' : j < s.size := by rw [← bytesS_length]; exact hj
  have hk := h.1 j hj'
  have e : byteAt s j = (bytesS s)[j] := by simp [byteAt, hj]
  rw [← e]
  have hl : largeB (byteAt s j) = false := by
    unfold okB smallB laterB at hk
    simp only [Bool.or_eq_true, Bool.and_eq_true, decide_eq_true_eq] at hk
    unfold largeB; simp only [decide_eq_false_iff_not]
    omega
  unfold foldC
  rw [hl]; rfl

/-! ### Runes -/
theorem get!_at (s : ByteArray) (k : Nat) (h : k < s.size) : s.get! k = s[k]'h := by
  have := get_at s k h
  rwa [Nat.add_zero] at this
/-- A rune that is no byte below 128 goes over bytes none of which is below 128, and ends within the text. -/
theorem rune_over (s : ByteArray) (p : Nat) (h : p < s.size) (ha : 128 ≤ byteAt s p) :
    128 ≤ (Utf8.decode s p).1 ∧ 1 ≤ (Utf8.decode s p).2 ∧ p + (Utf8.decode s p).2 ≤ s.size ∧ ∀ j, p ≤ j → j < p + (Utf8.decode s p).2 → 128 ≤ byteAt s j := by
  have hh := decode_high s p h (by have := byteAt_get s p h; omega)
  have hd := Lib.decodeN_conts (s.size - p) (s.get! p).toNat (s.get! (p + 1)).toNat (s.get! (p + 2)).toNat (s.get! (p + 3)).toNat
  rw [← Lib.decode_at] at hd
  obtain ⟨d1, d2, d3, d4⟩ := hd
  refine ⟨hh.1, hh.2, by omega, fun j h1 h2 => ?_⟩
  have key : ∀ k, p + k < s.size → (s.get! (p + k)).toNat / 64 = 2 → 128 ≤ byteAt s (p + k) := by
    intro k hk hq
    rw [get!_at s _ hk] at hq
    have := byteAt_get s _ hk
    omega
  obtain ⟨k, rfl⟩ := Nat.exists_eq_add_of_le h1
  match k, h2 with
  | 0, _ => exact ha
  | 1, h2 => exact key 1 (by omega) (d1 (by omega)).1
  | 2, h2 => exact key 2 (by omega) (d2 (by omega)).1
  | 3, h2 => exact key 3 (by omega) (d3 (by omega)).1
  | k + 4, h2 => omega
theorem rune_byte (s : ByteArray) (p : Nat) (h : p < s.size) (ha : byteAt s p < 128) : Utf8.decode s p = ((byteAt s p).toNat, 1) := by
  have e := byteAt_get s p h
  rw [decode_ascii s p h (by omega)]
  congr 1
  omega
theorem awake_name : nameB ⟨#[97, 49, 95]⟩ = true := by decide
end Go.Proofs.YtahlmlbfgijcpaaGreatDoor
namespace Go.Proofs.YtahlmlbfgijcpaaGreatDoor
open Go.RowKit

set_option maxHeartbeats 400000 in
theorem small_any (r : Int) (w : World) : Calls Tryz.prog 63 #[.int .i32 r] w fun e w' => e = .returned (.bool (smallB r)) ∧ w' = w := by
  go_enter Tryz.func63, Tryz.ntmps63
  go_wp2
  all_goals go_ret
  all_goals refine ⟨ret_bool ?_, rfl⟩
  all_goals (unfold smallB; rw [Bool.eq_iff_iff]; simp <;> omega)
set_option maxHeartbeats 400000 in
theorem fits_any (s : ByteArray) (w : World) : Calls Tryz.prog 64 #[.string s] w fun e w' => e = .returned (.bool (fitsB s)) ∧ w' = w := by
  go_enter Tryz.func64, Tryz.ntmps64
  go_wp2
  all_goals go_ret
  all_goals refine ⟨ret_bool ?_, rfl⟩
  all_goals (unfold fitsB; rw [Bool.eq_iff_iff]; simp <;> omega)

theorem below_iter (w : World) (s : ByteArray) (p : Nat) : Below w.heap.size w (w.iter s p) := (Below.refl _ _).alloc (Nat.le_refl _) _

set_option maxRecDepth 100000 in
set_option maxHeartbeats 4000000 in
theorem name_any (s : ByteArray) (w : World) : Calls Tryz.prog 45 #[.string s] w fun e w' => e = .returned (.bool (nameB s)) ∧ Below w.heap.size w w' := by
  obtain ⟨B, hB⟩ : ∃ B, B = nameB s := ⟨_, rfl⟩
  rw [← hB]
  have HB : Hid (B = nameB s) := hB
  clear hB
  have hfit := fun w' => fits_any s w'
  have HF : Hid (∀ w', Calls Tryz.prog 64 _ w' _) := hfit
  clear hfit
  go_enter Tryz.func45, Tryz.ntmps45
  go_wp2
  go_loopw [] (fun w' => ∃ p : Nat, w' = w.iter s p ∧ Hid (∀ j, j < p → j < s.size → okB (byteAt s j) j = true)) (fun w' => s.size - w'.iterPos w.heap.size)
  case atStart => exact ⟨0, rfl, fun j hj => by omega⟩
  case round =>
    obtain ⟨p, rfl, HP⟩ := hrel
    by_cases hp : p < s.size
    · have hbd := byteAt_bd s p
      by_cases ha : byteAt s p < 128
      · have hnx : ∀ ty, (Instr.next (.pointer (some ⟨w.heap.size, 0, none⟩)) true ty).run Tryz.prog (w.iter s p) = .ok (.tuple #[.bool true, .int .i64 p, .int .i32 (byteAt s p)]) (w.iter s (p + 1)) := fun ty => by
          have e := run_next_any (P := Tryz.prog) w s p ty hp
          rw [rune_byte s p hp ha] at e
          rw [e, Int.toNat_of_nonneg hbd.1]
        obtain ⟨c, hc⟩ : ∃ c, c = byteAt s p := ⟨_, rfl⟩
        have HC : Hid (c = byteAt s p) := hc
        rw [← hc] at hnx hbd ha
        clear hc
        by_cases h1 : 97 ≤ c ∧ c ≤ 122
        · have hs : smallB c = true := decide_eq_true h1
          have HO : Hid (okB c p = true) := by show okB c p = true; unfold okB; rw [hs]; rfl
          have HS : Hid (∀ w', Calls Tryz.prog 63 #[.int .i32 c] w' fun e w'' => e = .returned (.bool true) ∧ w'' = w') := fun w' => by have := small_any c w'; rwa [hs] at this
          obtain ⟨h1a, h1b⟩ := h1
          clear hs
          go_wp2_with (first | (go_at_call 63; refine (HS.out _).mono ?_; rintro e w1 ⟨rfl, hw1⟩; replace hw1 := hw1.symm; subst hw1))
          go_roundw
          case rel => exact ⟨p + 1, rfl, fun j hj hjs => if h : j = p then by rw [h, ← HC.out]; exact HO.out else HP.out j (by omega) hjs⟩
          case measure => simp; omega
        · have hs : smallB c = false := decide_eq_false h1
          have HS : Hid (∀ w', Calls Tryz.prog 63 #[.int .i32 c] w' fun e w'' => e = .returned (.bool false) ∧ w'' = w') := fun w' => by have := small_any c w'; rwa [hs] at this
          by_cases h2 : 48 ≤ c ∧ c ≤ 57 ∨ c = 95
          · have hl : laterB c = true := decide_eq_true h2
            by_cases hp0 : p = 0
            · have HO : Hid (okB c p = false) := by show okB c p = false; unfold okB; rw [hs, hl, hp0]; rfl
              subst hp0
              clear hs hl h1
              rcases h2 with ⟨h2a, h2b⟩ | h2
              · go_wp2_with (first | (go_at_call 63; refine (HS.out _).mono ?_; rintro e w1 ⟨rfl, hw1⟩; replace hw1 := hw1.symm; subst hw1))
                try rw [Exit.noGoto_ret]
                go_ret
                exact ⟨ret_bool (by rw [HB.out, nameB_not _ hp (by rw [← HC.out]; exact HO.out)]), below_iter w s _⟩
              · subst h2
                go_wp2_with (first | (go_at_call 63; refine (HS.out _).mono ?_; rintro e w1 ⟨rfl, hw1⟩; replace hw1 := hw1.symm; subst hw1))
                try rw [Exit.noGoto_ret]
                go_ret
                exact ⟨ret_bool (by rw [HB.out, nameB_not _ hp (by rw [← HC.out]; exact HO.out)]), below_iter w s _⟩
            · have HO : Hid (okB c p = true) := by show okB c p = true; unfold okB; rw [hs, hl]; simp [hp0]
              have hp1 : ¬ (p : Int) = 0 := by omega
              clear hs hl h1
              rcases h2 with ⟨h2a, h2b⟩ | h2
              · go_wp2_with (first | (go_at_call 63; refine (HS.out _).mono ?_; rintro e w1 ⟨rfl, hw1⟩; replace hw1 := hw1.symm; subst hw1))
                go_roundw
                case rel => exact ⟨p + 1, rfl, fun j hj hjs => if h : j = p then by rw [h, ← HC.out]; exact HO.out else HP.out j (by omega) hjs⟩
                case measure => simp; omega
              · subst h2
                go_wp2_with (first | (go_at_call 63; refine (HS.out _).mono ?_; rintro e w1 ⟨rfl, hw1⟩; replace hw1 := hw1.symm; subst hw1))
                go_roundw
                case rel => exact ⟨p + 1, rfl, fun j hj hjs => if h : j = p then by rw [h, ← HC.out]; exact HO.out else HP.out j (by omega) hjs⟩
                case measure => simp; omega
          · have hl : laterB c = false := decide_eq_false h2
            have HO : Hid (okB c p = false) := by show okB c p = false; unfold okB; rw [hs, hl]; rfl
            have h95 : ¬ c = 95 := fun h => h2 (.inr h)
            have h95' : (c == (95 : Int)) = false := by simp [h95]
            clear hs hl h1
            by_cases h48 : 48 ≤ c
            · have h57 : ¬ c ≤ 57 := fun h => h2 (.inl ⟨h48, h⟩)
              clear h2
              by_cases hp0 : p = 0
              · subst hp0
                go_wp2_with (first | (go_at_call 63; refine (HS.out _).mono ?_; rintro e w1 ⟨rfl, hw1⟩; replace hw1 := hw1.symm; subst hw1))
                try rw [Exit.noGoto_ret]
                go_ret
                exact ⟨ret_bool (by rw [HB.out, nameB_not _ hp (by rw [← HC.out]; exact HO.out)]), below_iter w s _⟩
              · have hp1 : ¬ (p : Int) = 0 := by omega
                go_wp2_with (first | (go_at_call 63; refine (HS.out _).mono ?_; rintro e w1 ⟨rfl, hw1⟩; replace hw1 := hw1.symm; subst hw1))
                try rw [Exit.noGoto_ret]
                go_ret
                exact ⟨ret_bool (by rw [HB.out, nameB_not _ hp (by rw [← HC.out]; exact HO.out)]), below_iter w s _⟩
            · clear h2
              by_cases hp0 : p = 0
              · subst hp0
                go_wp2_with (first | (go_at_call 63; refine (HS.out _).mono ?_; rintro e w1 ⟨rfl, hw1⟩; replace hw1 := hw1.symm; subst hw1))
                try rw [Exit.noGoto_ret]
                go_ret
                exact ⟨ret_bool (by rw [HB.out, nameB_not _ hp (by rw [← HC.out]; exact HO.out)]), below_iter w s _⟩
              · have hp1 : ¬ (p : Int) = 0 := by omega
                go_wp2_with (first | (go_at_call 63; refine (HS.out _).mono ?_; rintro e w1 ⟨rfl, hw1⟩; replace hw1 := hw1.symm; subst hw1))
                try rw [Exit.noGoto_ret]
                go_ret
                exact ⟨ret_bool (by rw [HB.out, nameB_not _ hp (by rw [← HC.out]; exact HO.out)]), below_iter w s _⟩
      · obtain ⟨r1, r2, _, _⟩ := rune_over s p hp (by omega)
        have hnx : ∀ ty, (Instr.next (.pointer (some ⟨w.heap.size, 0, none⟩)) true ty).run Tryz.prog (w.iter s p) = _ := fun ty => run_next_any (P := Tryz.prog) w s p ty hp
        have HO : Hid (okB (byteAt s p) p = false) := by
          show okB (byteAt s p) p = false
          unfold okB smallB laterB
          rw [decide_eq_false (by omega), decide_eq_false (by omega)]; rfl
        obtain ⟨c, hc⟩ : ∃ c : Int, c = ((Utf8.decode s p).1 : Int) := ⟨_, rfl⟩
        have hc1 : 128 ≤ c := by omega
        rw [← hc] at hnx
        generalize (Utf8.decode s p).2 = q at hnx
        have hs : smallB c = false := decide_eq_false (by omega)
        have HS : Hid (∀ w', Calls Tryz.prog 63 #[.int .i32 c] w' fun e w'' => e = .returned (.bool false) ∧ w'' = w') := fun w' => by have := small_any c w'; rwa [hs] at this
        have h57 : ¬ c ≤ 57 := by omega
        have h48 : 48 ≤ c := by omega
        have h95 : ¬ c = 95 := by omega
        have h95' : (c == (95 : Int)) = false := by simp [h95]
        clear hs ha r1 r2 hbd hc
        by_cases hp0 : p = 0
        · subst hp0
          go_wp2_with (first | (go_at_call 63; refine (HS.out _).mono ?_; rintro e w1 ⟨rfl, hw1⟩; replace hw1 := hw1.symm; subst hw1))
          try rw [Exit.noGoto_ret]
          go_ret
          exact ⟨ret_bool (by rw [HB.out, nameB_not 0 hp HO.out]), below_iter w s _⟩
        · have hp1 : ¬ (p : Int) = 0 := by omega
          go_wp2_with (first | (go_at_call 63; refine (HS.out _).mono ?_; rintro e w1 ⟨rfl, hw1⟩; replace hw1 := hw1.symm; subst hw1))
          try rw [Exit.noGoto_ret]
          go_ret
          exact ⟨ret_bool (by rw [HB.out, nameB_not p hp HO.out]), below_iter w s _⟩
    · have hnx : ∀ ty, (Instr.next (.pointer (some ⟨w.heap.size, 0, none⟩)) true ty).run Tryz.prog (w.iter s p) = _ := fun ty => run_next_end w s p ty hp
      go_wp2_with (first | (go_at_call 64; refine (HF.out _).mono ?_; rintro e w1 ⟨rfl, hw1⟩; replace hw1 := hw1.symm; subst hw1))
      go_ret
      refine ⟨ret_bool ?_, below_iter w s p⟩
      rw [HB.out, nameB_all (fun j hj => HP.out j (by omega) hj)]
end Go.Proofs.YtahlmlbfgijcpaaGreatDoor
namespace Go.Proofs.YtahlmlbfgijcpaaGreatDoor
open Go.RowKit

def digitB (c : Int) : Bool := decide (48 ≤ c ∧ c ≤ 57)
def signB (c : Int) : Bool := smallB c || laterB c

set_option maxHeartbeats 400000 in
theorem refLower_any (r : Int) (w : World) : Calls Tryz.prog 68 #[.int .u8 r] w fun e w' => e = .returned (.bool (smallB r)) ∧ w' = w := by
  go_enter Tryz.func68, Tryz.ntmps68
  go_wp2
  all_goals go_ret
  all_goals refine ⟨ret_bool ?_, rfl⟩
  all_goals (unfold smallB; rw [Bool.eq_iff_iff]; simp <;> omega)
set_option maxHeartbeats 400000 in
theorem refDigit_any (r : Int) (w : World) : Calls Tryz.prog 83 #[.int .u8 r] w fun e w' => e = .returned (.bool (digitB r)) ∧ w' = w := by
  go_enter Tryz.func83, Tryz.ntmps83
  go_wp2
  all_goals go_ret
  all_goals refine ⟨ret_bool ?_, rfl⟩
  all_goals (unfold digitB; rw [Bool.eq_iff_iff]; simp <;> omega)
set_option maxHeartbeats 1000000 in
theorem refSign_any (r : Int) (w : World) : Calls Tryz.prog 67 #[.int .u8 r] w fun e w' => e = .returned (.bool (signB r)) ∧ w' = w := by
  obtain ⟨S, hS⟩ : ∃ S, S = smallB r := ⟨_, rfl⟩
  obtain ⟨D, hD⟩ : ∃ D, D = digitB r := ⟨_, rfl⟩
  have hl : ∀ w', Calls Tryz.prog 68 #[.int .u8 r] w' fun e w'' => e = .returned (.bool S) ∧ w'' = w' := fun w' => by rw [hS]; exact refLower_any r w'
  have hd : ∀ w', Calls Tryz.prog 83 #[.int .u8 r] w' fun e w'' => e = .returned (.bool D) ∧ w'' = w' := fun w' => by rw [hD]; exact refDigit_any r w'
  have e : signB r = (S || D || decide (r = 95)) := by rw [hS, hD]; unfold signB laterB digitB smallB; rw [Bool.eq_iff_iff]; simp only [Bool.or_eq_true, decide_eq_true_eq]; omega
  rw [e]
  have HL : Hid (∀ w', Calls Tryz.prog 68 _ w' _) := hl
  have HD : Hid (∀ w', Calls Tryz.prog 83 _ w' _) := hd
  clear hl hd hS hD e
  cases S <;> cases D
  all_goals (go_enter Tryz.func67, Tryz.ntmps67)
  all_goals (go_wp2_with (first | (go_at_call 68; refine (HL.out _).mono ?_; rintro e w1 ⟨rfl, hw1⟩; replace hw1 := hw1.symm; subst hw1) | (go_at_call 83; refine (HD.out _).mono ?_; rintro e w1 ⟨rfl, hw1⟩; replace hw1 := hw1.symm; subst hw1)))
  all_goals go_ret
  all_goals refine ⟨ret_bool ?_, rfl⟩
  all_goals (first | rfl | (rw [Bool.eq_iff_iff]; simp))

theorem sign_ok {c : Int} {j : Nat} (h : okB c j = true) : signB c = true := by
  unfold okB at h; unfold signB; simp only [Bool.or_eq_true, Bool.and_eq_true] at h ⊢
  exact h.imp id And.left
theorem sign_not {c : Int} (j : Nat) (h : signB c = false) : okB c j = false := by
  cases hk : okB c j with
  | false => rfl
  | true => rw [sign_ok hk] at h; cases h
theorem ok_sign {c : Int} {j : Nat} (hj : j ≠ 0) (h : signB c = true) : okB c j = true := by
  unfold okB; unfold signB at h; simp only [Bool.or_eq_true, Bool.and_eq_true, decide_eq_true_eq] at h ⊢
  exact h.imp id fun k => ⟨k, hj⟩

set_option maxRecDepth 100000 in
set_option maxHeartbeats 1000000 in
theorem refName_any (s : ByteArray) (w : World) (hs : s.size ≤ maxLen) : Calls Tryz.prog 48 #[.string s] w fun e w' => e = .returned (.bool (nameB s)) ∧ w' = w := by
  unfold maxLen at hs
  obtain ⟨B, hB⟩ : ∃ B, B = nameB s := ⟨_, rfl⟩
  rw [← hB]
  have HB : Hid (B = nameB s) := hB
  clear hB
  go_enter Tryz.func48, Tryz.ntmps48
  go_wp2
  go_loop [3] (fun i => ∃ k : Nat, k ≤ s.size ∧ i = .int .i64 k ∧ Hid (∀ j, j < k → signB (byteAt s j) = true)) (fun i => s.size - (intOf i).toNat)
  case atStart => exact ⟨0, Nat.zero_le _, rfl, fun j hj => by omega⟩
  case round =>
    obtain ⟨k, hk, rfl, HP⟩ := hrel
    by_cases hlt : k < s.size
    · have hlt' : (k : Int) < (s.size : Int) := by omega
      have hidx := at_str s k hlt
      cases hg : signB (byteAt s k) with
      | false =>
        have C : ∀ w', Calls Tryz.prog 67 #[.int .u8 (byteAt s k)] w' fun e w'' => e = .returned (.bool false) ∧ w'' = w' := fun w' => by rw [← hg]; exact refSign_any _ w'
        have HC : Hid (∀ w', Calls Tryz.prog 67 _ w' _) := C
        clear C
        go_wp2_with (first | (go_at_call 67; refine (HC.out _).mono ?_; rintro e w1 ⟨rfl, hw1⟩; replace hw1 := hw1.symm; subst hw1))
        try rw [Exit.noGoto_ret]
        go_ret
        exact ⟨ret_bool (by rw [HB.out, nameB_not k hlt (sign_not k hg)]), rfl⟩
      | true =>
        have C : ∀ w', Calls Tryz.prog 67 #[.int .u8 (byteAt s k)] w' fun e w'' => e = .returned (.bool true) ∧ w'' = w' := fun w' => by rw [← hg]; exact refSign_any _ w'
        have HC : Hid (∀ w', Calls Tryz.prog 67 _ w' _) := C
        clear C
        go_wp2_with (first | (go_at_call 67; refine (HC.out _).mono ?_; rintro e w1 ⟨rfl, hw1⟩; replace hw1 := hw1.symm; subst hw1))
        go_round
        case rel => exact ⟨k + 1, by omega, by go_num, fun j hj => if h : j = k then by rw [h]; exact hg else HP.out j (by omega)⟩
        case measure => simp [intOf]; omega
    · obtain rfl : k = s.size := by omega
      have hge : ¬ (s.size : Int) < (s.size : Int) := by omega
      by_cases h0 : s.size = 0
      · have h0' : (s.size : Int) = 0 := by omega
        go_wp2
        go_ret
        refine ⟨ret_bool ?_, rfl⟩
        rw [HB.out]; unfold nameB fitsB; simp [h0]
      · have hidx : ∀ w', (Instr.index 9 (.string s) (.int .i64 0)).run Tryz.prog w' = .ok (.int .u8 (byteAt s 0)) w' := fun w' => at_str s 0 (by omega) w'
        have HL : Hid (∀ w', Calls Tryz.prog 68 #[.int .u8 (byteAt s 0)] w' _) := fun w' => refLower_any (byteAt s 0) w'
        have h1 : (1 : Int) ≤ (s.size : Int) := by omega
        by_cases h32 : s.size ≤ 32
        · have h32' : (s.size : Int) ≤ 32 := by omega
          go_wp2_with (first | (go_at_call 68; refine (HL.out _).mono ?_; rintro e w1 ⟨rfl, hw1⟩; replace hw1 := hw1.symm; subst hw1))
          go_ret
          refine ⟨ret_bool ?_, rfl⟩
          rw [HB.out]
          cases hsm : smallB (byteAt s 0) with
          | true =>
            rw [nameB_all]
            · unfold fitsB; rw [decide_eq_true (by omega)]
            · intro j hj
              by_cases hj0 : j = 0
              · rw [hj0]; unfold okB; rw [hsm]; rfl
              · exact ok_sign hj0 (HP.out j hj)
          | false =>
            rw [nameB_not 0 (by omega)]
            unfold okB; rw [hsm]; simp
        · have h32' : ¬ (s.size : Int) ≤ 32 := by omega
          go_wp2_with (first | (go_at_call 68; refine (HL.out _).mono ?_; rintro e w1 ⟨rfl, hw1⟩; replace hw1 := hw1.symm; subst hw1))
          go_ret
          refine ⟨ret_bool ?_, rfl⟩
          rw [HB.out]; unfold nameB fitsB; rw [decide_eq_false (p := 1 ≤ s.size ∧ s.size ≤ 32) (by omega)]; simp

end Go.Proofs.YtahlmlbfgijcpaaGreatDoor
