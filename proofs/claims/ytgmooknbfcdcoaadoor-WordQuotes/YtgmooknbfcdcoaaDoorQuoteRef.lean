/-
  The document's plain, hex, sign and Quote.
-/
import Derived.Test.YtgmooknbfcdcoaaDoorQuoteQuote
import Derived.Test.YtgmooknbfcdcoaaDoorQuoteSign
import Derived.RegionTactic
namespace Go.Proofs.YtgmooknbfcdcoaaDoor
open Go.RowKit

set_option maxHeartbeats 400000 in
theorem refPlain_any (c : Int) (w : World) : Calls Tryd.prog 14 #[.int .u8 c] w fun e w' => e = .returned (.bool (plainB c)) ∧ w' = w := by
  go_enter Tryd.func14, Tryd.ntmps14
  go_wp2
  all_goals go_ret
  all_goals refine ⟨ret_bool ?_, rfl⟩
  all_goals (unfold plainB; rw [Bool.eq_iff_iff]; simp <;> omega)
theorem digS_all (w : World) : (List.range 16).map (fun k : Nat => (Instr.index 9 (.string ⟨#[48, 49, 50, 51, 52, 53, 54, 55, 56, 57, 97, 98, 99, 100, 101, 102]⟩) (.int .i64 (k : Int))).run Tryd.prog w) = (List.range 16).map (fun k : Nat => .ok (.int .u8 (hexD k)) w) := by kernel_rfl
theorem digS_at (k : Nat) (hk : k < 16) (w : World) : (Instr.index 9 (.string ⟨#[48, 49, 50, 51, 52, 53, 54, 55, 56, 57, 97, 98, 99, 100, 101, 102]⟩) (.int .i64 (k : Int))).run Tryd.prog w = .ok (.int .u8 (hexD k)) w :=
  List.map_eq_map_iff.1 (digS_all w) k (List.mem_range.2 hk)
theorem digB_all (w : World) : (List.range 16).map (fun k : Nat => (Instr.index 9 (.string ⟨#[48, 49, 50, 51, 52, 53, 54, 55, 56, 57, 97, 98, 99, 100, 101, 102]⟩) (.int .u8 (k : Int))).run Tryd.prog w) = (List.range 16).map (fun k : Nat => .ok (.int .u8 (hexD k)) w) := by kernel_rfl
theorem digB_at (k : Nat) (hk : k < 16) (w : World) : (Instr.index 9 (.string ⟨#[48, 49, 50, 51, 52, 53, 54, 55, 56, 57, 97, 98, 99, 100, 101, 102]⟩) (.int .u8 (k : Int))).run Tryd.prog w = .ok (.int .u8 (hexD k)) w :=
  List.map_eq_map_iff.1 (digB_all w) k (List.mem_range.2 hk)

set_option maxRecDepth 100000 in
set_option maxHeartbeats 1000000 in
theorem hex_any (c : Int) (w : World) : Calls Tryd.prog 15 #[.int .u8 c] w fun e w' => e = .returned (.int .i64 (dig c)) ∧ w' = w := by
  go_enter Tryd.func15, Tryd.ntmps15
  go_wp2
  go_loop [3] (fun i => ∃ k : Nat, k ≤ 16 ∧ i = .int .i64 k ∧ Hid (∀ j : Nat, j < k → c ≠ hexD j)) (fun i => 16 - (intOf i).toNat)
  case atStart => exact ⟨0, by omega, rfl, fun j hj => by omega⟩
  case round =>
    obtain ⟨k, hk, rfl, HN⟩ := hrel
    by_cases hlt : k < 16
    · have hlt' : (k : Int) < 16 := by omega
      have hidx := digS_at k hlt
      by_cases hc : c = hexD k
      · have hE : Hid (dig c = k) := by show _ = _; rw [hc]; exact dig_hexD k (by omega) (by omega)
        rw [← hc] at hidx
        clear hc
        go_wp2
        try rw [Exit.noGoto_ret]
        go_ret
        exact ⟨ret_int hE.out.symm, rfl⟩
      · obtain ⟨d, hd⟩ : ∃ d, d = hexD k := ⟨_, rfl⟩
        rw [← hd] at hidx hc
        have HD : Hid (d = hexD k) := hd
        have hc' : ¬ d = c := fun h => hc h.symm
        have hcb : (d == c) = false := by simp [hc']
        clear hd
        go_wp2
        go_round
        case rel => exact ⟨k + 1, by omega, by go_num, fun j hj => if h : j = k then by rw [h, ← HD.out]; exact hc else HN.out j (by omega)⟩
        case measure => simp [intOf]; omega
    · obtain rfl : k = 16 := by omega
      go_wp2
      go_ret
      exact ⟨ret_int (dig_none c HN.out).symm, rfl⟩

theorem conv_lit (w : World) (l : List Int) (hb : ∀ c ∈ l, 0 ≤ c ∧ c ≤ 255) (hl : l.length ≤ 1000) :
    (convert 34 9 (.slice (some ⟨w.heap.size, 0, none⟩) l.length l.length)).run Tryd.prog (w.alloc (.cells (cellsOf l).toArray 5)) = .ok (.string (strOf l)) (w.alloc (.cells (cellsOf l).toArray 5)) := conv_in (isBytes_lit w l hb hl)

set_option maxRecDepth 100000 in
set_option maxHeartbeats 1000000 in
theorem refSign_any (c : Int) (w : World) (h0 : 0 ≤ c) (h1 : c ≤ 255) : Calls Tryd.prog 12 #[.int .u8 c] w fun e w' => e = .returned (.string (strOf (signL c))) ∧ Below w.heap.size w w' := by
  by_cases hq : c = 39 ∨ c = 92
  · have hp : plainB c = true := decide_eq_true (by omega)
    have eS : signL c = [92, c] := by unfold signL; rw [if_pos hp, if_pos hq]
    have hcv : (convert 34 9 (.slice (some ⟨w.heap.size, 0, none⟩) 2 2)).run Tryd.prog (w.alloc (.cells #[.int .u8 92, .int .u8 c] 5)) = .ok (.string (strOf [92, c])) (w.alloc (.cells #[.int .u8 92, .int .u8 c] 5)) := conv_lit w [92, c] (by simp; omega) (by simp)
    rw [eS]
    clear hp eS
    rcases hq with rfl | rfl
    · go_enter Tryd.func12, Tryd.ntmps12
      go_wp2
      go_ret
      exact ⟨rfl, (Below.refl _ _).alloc (Nat.le_refl _) _⟩
    · go_enter Tryd.func12, Tryd.ntmps12
      go_wp2
      go_ret
      exact ⟨rfl, (Below.refl _ _).alloc (Nat.le_refl _) _⟩
  · have h39 : ¬ c = 39 := fun h => hq (.inl h)
    have h92 : ¬ c = 92 := fun h => hq (.inr h)
    have h39b : (c == (39 : Int)) = false := by simp [h39]
    have h92b : (c == (92 : Int)) = false := by simp [h92]
    cases hp : plainB c with
    | true =>
      have CP : Hid (∀ w', Calls Tryd.prog 14 #[.int .u8 c] w' fun e w'' => e = .returned (.bool true) ∧ w'' = w') := fun w' => by have := refPlain_any c w'; rwa [hp] at this
      have eS : signL c = [c] := by unfold signL; rw [if_pos hp, if_neg hq]
      have hcv : (convert 34 9 (.slice (some ⟨w.heap.size, 0, none⟩) 1 1)).run Tryd.prog (w.alloc (.cells #[.int .u8 c] 5)) = .ok (.string (strOf [c])) (w.alloc (.cells #[.int .u8 c] 5)) := conv_lit w [c] (by simp; omega) (by simp)
      rw [eS]
      clear hp eS hq
      go_enter Tryd.func12, Tryd.ntmps12
      go_wp2_with (first | (go_at_call 14; refine (CP.out _).mono ?_; rintro e w1 ⟨rfl, hw1⟩; replace hw1 := hw1.symm; subst hw1))
      go_ret
      exact ⟨rfl, (Below.refl _ _).alloc (Nat.le_refl _) _⟩
    | false =>
      have CP : Hid (∀ w', Calls Tryd.prog 14 #[.int .u8 c] w' fun e w'' => e = .returned (.bool false) ∧ w'' = w') := fun w' => by have := refPlain_any c w'; rwa [hp] at this
      obtain ⟨q, hq'⟩ : ∃ q : Nat, c / 16 = (q : Int) := ⟨(c / 16).toNat, by omega⟩
      obtain ⟨k, hk'⟩ : ∃ k : Nat, c % 16 = (k : Int) := ⟨(c % 16).toNat, by omega⟩
      have eS : signL c = [92, 120, hexD (q : Int), hexD (k : Int)] := by unfold signL; rw [if_neg (by rw [hp]; simp), hq', hk']
      have i1 := digB_at q (by omega)
      have i2 := digB_at k (by omega)
      have a := hexD_bd q (by omega) (by omega)
      have b := hexD_bd k (by omega) (by omega)
      rw [eS]
      generalize hexD (q : Int) = A at i1 a
      generalize hexD (k : Int) = B at i2 b
      have hcv : (convert 34 9 (.slice (some ⟨w.heap.size, 0, none⟩) 4 4)).run Tryd.prog (w.alloc (.cells #[.int .u8 92, .int .u8 120, .int .u8 A, .int .u8 B] 5)).drew = .ok (.string (strOf [92, 120, A, B])) (w.alloc (.cells #[.int .u8 92, .int .u8 120, .int .u8 A, .int .u8 B] 5)).drew :=
        conv_in ((isBytes_lit w [92, 120, A, B] (by simp; omega) (by simp)).later ((Below.refl _ _).drew))
      clear hp eS hq a b
      go_enter Tryd.func12, Tryd.ntmps12
      go_wp2_with (first | (go_at_call 14; refine (CP.out _).mono ?_; rintro e w1 ⟨rfl, hw1⟩; replace hw1 := hw1.symm; subst hw1))
      go_region
      go_wp2
      go_ret
      exact ⟨rfl, ((Below.refl _ _).alloc (Nat.le_refl _) _).drew⟩

theorem strOf_append (l m : List Int) : strOf l ++ strOf m = strOf (l ++ m) := by
  apply ByteArray.ext
  apply Array.ext'
  rw [ByteArray.data_append, Array.toList_append, strOf_data, strOf_data, strOf_data, List.map_append]
theorem tup_quote {a b : ByteArray} {n m : Int} (h1 : a = b) (h2 : n = m) : Ending.returned (.tuple #[.string a, .int .i64 n]) = .returned (.tuple #[.string b, .int .i64 m]) := by rw [h1, h2]
set_option maxHeartbeats 400000 in
theorem refQuote_long (s : ByteArray) (w : World) (h : 256 < s.size) : Calls Tryd.prog 7 #[.string s] w fun e w' => e = .returned (.tuple #[.string ⟨#[]⟩, .int .i64 2]) ∧ w' = w := by
  have h' : (256 : Int) < (s.size : Int) := by omega
  go_enter Tryd.func7, Tryd.ntmps7
  go_wp2
  go_ret2
  exact ⟨rfl, rfl⟩
set_option maxRecDepth 100000 in
set_option maxHeartbeats 1000000 in
theorem refQuote_ok (s : ByteArray) (w : World) (h : s.size ≤ 256) :
    Calls Tryd.prog 7 #[.string s] w fun e w' => e = .returned (.tuple #[.string (strOf (quoteL (bytesS s))), .int .i64 0]) ∧ Below w.heap.size w w' := by
  have h' : ¬ (256 : Int) < (s.size : Int) := by omega
  go_enter Tryd.func7, Tryd.ntmps7
  go_wp2
  go_loopw [4, 5] (fun out i wr => ∃ (k : Nat) (X : ByteArray), out = .string X ∧ i = .int .i64 k ∧ k ≤ s.size ∧ X.size ≤ 1025 ∧ Hid (X = strOf (upTo s k) ∧ Below w.heap.size w wr)) (fun _ i _ => s.size - (intOf i).toNat)
  case atStart => exact ⟨0, ⟨#[39]⟩, rfl, rfl, Nat.zero_le _, by show 1 ≤ 1025; omega, rfl, Below.refl _ _⟩
  case round =>
    obtain ⟨k, X, rfl, rfl, hk, hX, HR⟩ := hrel
    by_cases hlt : k < s.size
    · have hlt' : (k : Int) < (s.size : Int) := by omega
      have hidx := at_str s k hlt
      have hbd := byteAt_bd s k
      have C := refSign_any (byteAt s k) wr hbd.1 hbd.2
      obtain ⟨Y, hY⟩ : ∃ Y, Y = strOf (signL (byteAt s k)) := ⟨_, rfl⟩
      have hYs : Y.size ≤ 4 := by rw [hY, strOf_size]; exact (signL_len _).2
      rw [← hY] at C
      have HC : Hid (Calls Tryd.prog 12 _ _ _) := C
      have HX : Hid (X ++ Y = strOf (upTo s (k + 1))) := by show _ = _; rw [HR.out.1, hY, strOf_append, upTo_succ s k hlt]
      clear C hY
      go_wp2_with (first | (go_at_call 12; refine HC.out.mono ?_; clear HC; rintro e w1 ⟨rfl, hB1⟩))
      have hb := HR.out.2
      go_roundw
      case rel => exact ⟨k + 1, X ++ Y, rfl, by go_num, by omega, by rw [HX.out, strOf_size]; have := upTo_len s (k + 1); omega, HX.out, hb.trans (hB1.mono hb.size)⟩
      case measure => simp [intOf]; omega
    · have hge : ¬ (k : Int) < (s.size : Int) := by omega
      go_wp2
      go_ret2
      refine ⟨tup_quote ?_ rfl, HR.out.2⟩
      have e : (⟨#[39]⟩ : ByteArray) = strOf [39] := rfl
      rw [e, HR.out.1, strOf_append, upTo_all s k (by omega)]
end Go.Proofs.YtgmooknbfcdcoaaDoor
