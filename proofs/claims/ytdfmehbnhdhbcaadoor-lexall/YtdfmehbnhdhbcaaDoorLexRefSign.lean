/-
  The document's small functions of layer 17: blank, digit, upper, lower, sign. Made by tools/mk_lexref17.py.
-/
import Derived.Test.YtdfmehbnhdhbcaaDoorLexTabs
import Derived.Test.YtdfmehbnhdhbcaaDoorWordRef
import Derived.Test.YtdfmehbnhdhbcaaDoorQuoteSign
import Derived.BigQuiet
namespace Go.Proofs.YtdfmehbnhdhbcaaDoor
open Go.RowKit

set_option maxHeartbeats 400000 in
theorem rblank_any (r : Int) (w : World) : Calls Tryd.prog 12 #[.int .u8 r] w fun e w' => e = .returned (.bool (blankB r)) ∧ w' = w := by
  go_enter Tryd.func12, Tryd.ntmps12
  go_wp2
  all_goals go_ret
  all_goals refine ⟨ret_bool ?_, rfl⟩
  all_goals (unfold blankB; rw [Bool.eq_iff_iff]; simp <;> omega)
set_option maxHeartbeats 400000 in
theorem rdigit_any (r : Int) (w : World) : Calls Tryd.prog 24 #[.int .u8 r] w fun e w' => e = .returned (.bool (digitB r)) ∧ w' = w := by
  go_enter Tryd.func24, Tryd.ntmps24
  go_wp2
  all_goals go_ret
  all_goals refine ⟨ret_bool ?_, rfl⟩
  all_goals (unfold digitB; rw [Bool.eq_iff_iff]; simp <;> omega)
set_option maxHeartbeats 400000 in
theorem rupper_any (r : Int) (w : World) : Calls Tryd.prog 22 #[.int .u8 r] w fun e w' => e = .returned (.bool (largeB r)) ∧ w' = w := by
  go_enter Tryd.func22, Tryd.ntmps22
  go_wp2
  all_goals go_ret
  all_goals refine ⟨ret_bool ?_, rfl⟩
  all_goals (unfold largeB; rw [Bool.eq_iff_iff]; simp <;> omega)
set_option maxHeartbeats 400000 in
theorem rlower_any (r : Int) (w : World) : Calls Tryd.prog 23 #[.int .u8 r] w fun e w' => e = .returned (.bool (smallB r)) ∧ w' = w := by
  go_enter Tryd.func23, Tryd.ntmps23
  go_wp2
  all_goals go_ret
  all_goals refine ⟨ret_bool ?_, rfl⟩
  all_goals (unfold smallB; rw [Bool.eq_iff_iff]; simp <;> omega)
theorem signB_named (r : Int) : signB r = namedB r := by
  unfold signB namedB smallB laterB
  rw [Bool.eq_iff_iff]
  simp

/-- The row of single signs, in the document's text. -/
theorem sgl_all (w : World) : (List.range 18).map (fun k : Nat => (Instr.index 9 (.string ⟨#[40, 41, 44, 46, 43, 45, 42, 47, 37, 61, 60, 62, 33, 124, 123, 125, 91, 93]⟩) (.int .i64 (k : Int))).run Tryd.prog w) = (List.range 18).map (fun k : Nat => .ok (.int .u8 (singles[k]?.getD 0)) w) := by kernel_rfl
theorem sgl_at (k : Nat) (hk : k < 18) (w : World) : (Instr.index 9 (.string ⟨#[40, 41, 44, 46, 43, 45, 42, 47, 37, 61, 60, 62, 33, 124, 123, 125, 91, 93]⟩) (.int .i64 (k : Int))).run Tryd.prog w = .ok (.int .u8 (singles[k]?.getD 0)) w :=
  List.map_eq_map_iff.1 (sgl_all w) k (List.mem_range.2 hk)
theorem singles_len : singles.length = 18 := rfl
theorem singles_not (c : Int) (h : ∀ j, j < 18 → c ≠ singles[j]?.getD 0) : c ∉ singles := by
  intro hc
  obtain ⟨j, hj, rfl⟩ := List.getElem_of_mem hc
  refine h j (by rw [← singles_len]; exact hj) ?_
  simp [hj]
theorem singles_in (j : Nat) (h : j < 18) : singles[j]?.getD 0 ∈ singles := by
  rw [List.getElem?_eq_getElem (by rw [singles_len]; exact h)]
  exact List.getElem_mem _
/-- The sign of bytes that lie at a place. -/
theorem sgn_two (s : ByteArray) (i : Nat) (h : i + 1 < s.size) : sgnL ((bytesS s).drop i) = if twoB (byteAt s i) (byteAt s (i + 1)) then [byteAt s i, byteAt s (i + 1)] else if byteAt s i ∈ singles then [byteAt s i] else [] := by
  rw [drop_at s i (by omega), drop_at s (i + 1) h, sgnL_two]
theorem sgn_one (s : ByteArray) (i : Nat) (h : i + 1 = s.size) : sgnL ((bytesS s).drop i) = if byteAt s i ∈ singles then [byteAt s i] else [] := by
  rw [drop_at s i (by omega), drop_none s (i + 1) (by omega), sgnL_one]
theorem bytes_mid (s : ByteArray) (a b : Nat) : bytesS (s.extract a b) = ((bytesS s).drop a).take (b - a) := by
  simp [bytesS, ByteArray.data_extract, List.map_drop, List.map_take]
theorem ext_one (s : ByteArray) (i : Nat) (h : i < s.size) : s.extract i (i + 1) = strOf [byteAt s i] := by
  refine bytesS_inj ?_
  rw [bytes_mid, Nat.add_sub_cancel_left, drop_at s i h, bytesS_strOf _ (by have := byteAt_bd s i; simpa using this)]
  rfl
theorem ext_two (s : ByteArray) (i : Nat) (h : i + 1 < s.size) : s.extract i (i + 2) = strOf [byteAt s i, byteAt s (i + 1)] := by
  refine bytesS_inj ?_
  rw [bytes_mid, Nat.add_sub_cancel_left, drop_at s i (by omega), drop_at s (i + 1) h, bytesS_strOf _ (by have := byteAt_bd s i; have := byteAt_bd s (i + 1); simp; omega)]
  rfl
theorem ret_str {a b : ByteArray} (h : a = b) : Ending.returned (.string a) = .returned (.string b) := by rw [h]
theorem two_is (s : ByteArray) (i : Nat) (h : i + 1 < s.size) (a b : UInt8) (ha : byteAt s i = (a.toNat : Int)) (hb : byteAt s (i + 1) = (b.toNat : Int)) : s.extract i (i + 2) = ⟨#[a, b]⟩ := by
  rw [ext_two s i h, ha, hb]
  apply ByteArray.ext
  apply Array.ext'
  rw [strOf_data]
  simp
theorem two_not (s : ByteArray) (i : Nat) (h : i + 1 < s.size) (a b : UInt8) (hn : ¬ (byteAt s i = (a.toNat : Int) ∧ byteAt s (i + 1) = (b.toNat : Int))) : ¬ (s.extract i (i + 2)).toList = [a, b] := by
  intro e
  have h1 := congrArg (fun l : List UInt8 => l.map fun x => (x.toNat : Int)) e
  have h2 : (s.extract i (i + 2)).toList.map (fun x => (x.toNat : Int)) = bytesS (s.extract i (i + 2)) := by rw [ByteArray.toList_eq]; rfl
  rw [h2, bytes_mid, Nat.add_sub_cancel_left, drop_at s i (by omega), drop_at s (i + 1) h] at h1
  simp at h1
  exact hn h1
theorem slice_mid (s : ByteArray) (i n : Nat) (h : i + n ≤ s.size) (w : World) : (Instr.slice 9 (.string s) (some (.int .i64 (i : Int))) (some (.int .i64 ((i : Int) + (n : Int)))) none).run Tryd.prog w = .ok (.string (s.extract i (i + n))) w := by
  rw [run_slice_string_if w 9 s .i64 .i64 (i : Int) ((i : Int) + (n : Int)) Tryd.underlying9, if_pos ⟨by omega, by omega⟩, if_pos ⟨by omega, by omega⟩]
  rfl
set_option maxRecDepth 100000 in
set_option maxHeartbeats 2000000 in
theorem rsign_one (s : ByteArray) (i : Nat) (w : World) (c : Int) (V : ByteArray) (h : i + 1 = s.size) (hs : s.size ≤ 8192) (hc : byteAt s i = c) (hV : V = strOf (if c ∈ singles then [c] else [])) :
    Calls Tryd.prog 26 #[.string s, .int .i64 (i : Int)] w fun e w' => e = .returned (.string V) ∧ Below w.heap.size w w' := by
  have HV : Hid (V = strOf (if c ∈ singles then [c] else [])) := hV
  have h2' : ¬ (i : Int) + 2 ≤ (s.size : Int) := by omega
  have hib : (i : Int) ≤ 8192 := by omega
  have hi := at_str s i (by omega)
  have hsl : ∀ w' : World, (Instr.slice 9 (.string s) (some (.int .i64 (i : Int))) (some (.int .i64 ((i : Int) + 1))) none).run Tryd.prog w' = .ok (.string (s.extract i (i + 1))) w' := slice_mid s i 1 (by omega)
  rw [ext_one s i (by omega)] at hsl
  rw [hc] at hi hsl
  clear hV hc h
  go_enter Tryd.func26, Tryd.ntmps26
  go_wp2
  go_loopw [6] (fun u wr => ∃ k : Nat, k ≤ 18 ∧ u = .int .i64 k ∧ Hid (Below w.heap.size w wr ∧ ∀ j, j < k → c ≠ singles[j]?.getD 0)) (fun u _ => 18 - (intOf u).toNat)
  case atStart => exact ⟨0, by omega, rfl, Below.refl _ _, fun j hj => by omega⟩
  case round =>
    obtain ⟨k, hk, rfl, HU⟩ := hrel
    by_cases hlt : k < 18
    · have hlt' : (k : Int) < 18 := by omega
      have hidx := sgl_at k hlt
      by_cases hcd : c = singles[k]?.getD 0
      · have hE : Hid (V = strOf [c]) := by
          show V = strOf [c]
          rw [HV.out, if_pos (by rw [hcd]; exact singles_in k hlt)]
        rw [← hcd] at hidx
        clear hcd
        go_wp2
        go_big_quiet (fail)
        go_wp2
        try rw [Exit.noGoto_ret]
        go_ret
        exact ⟨ret_str hE.out.symm, HU.out.1.trans ⟨rfl, rfl, rfl, Nat.le_refl _, fun _ _ => rfl⟩⟩
      · obtain ⟨d, hd⟩ : ∃ d, d = singles[k]?.getD 0 := ⟨_, rfl⟩
        rw [← hd] at hidx hcd
        have HD : Hid (d = singles[k]?.getD 0) := hd
        have hdc : ¬ d = c := fun h => hcd h.symm
        have hdb : (d == c) = false := by simp [hdc]
        clear hd
        have HN : Hid (¬ c = d) := hcd
        clear hcd
        go_wp2
        go_big_quiet (fail)
        go_wp2
        go_roundw
        case rel => exact ⟨k + 1, by omega, by go_num, HU.out.1.trans ⟨rfl, rfl, rfl, Nat.le_refl _, fun _ _ => rfl⟩, fun j hj => if h : j = k then by rw [h, ← HD.out]; exact HN.out else HU.out.2 j (by omega)⟩
        case measure => simp [intOf]; omega
    · obtain rfl : k = 18 := by omega
      have hE : Hid (V = ⟨#[]⟩) := by
        show V = ⟨#[]⟩
        rw [HV.out, if_neg (singles_not c HU.out.2)]
        rfl
      go_wp2
      go_ret
      exact ⟨ret_str hE.out.symm, HU.out.1⟩
set_option maxRecDepth 100000 in
set_option maxHeartbeats 2000000 in
theorem rsign_single (s : ByteArray) (i : Nat) (w : World) (c : Int) (V : ByteArray) (h : i + 1 < s.size) (hs : s.size ≤ 8192) (hc : byteAt s i = c) (hV : V = strOf (if c ∈ singles then [c] else []))
    (h1 : ¬ (s.extract i (i + 2)).toList = [60, 61]) (h2 : ¬ (s.extract i (i + 2)).toList = [62, 61]) (h3 : ¬ (s.extract i (i + 2)).toList = [60, 62]) (h4 : ¬ (s.extract i (i + 2)).toList = [45, 62]) :
    Calls Tryd.prog 26 #[.string s, .int .i64 (i : Int)] w fun e w' => e = .returned (.string V) ∧ Below w.heap.size w w' := by
  have HV : Hid (V = strOf (if c ∈ singles then [c] else [])) := hV
  have h2' : (i : Int) + 2 ≤ (s.size : Int) := by omega
  have hib : (i : Int) ≤ 8192 := by omega
  have hi := at_str s i (by omega)
  have hsl : ∀ w' : World, (Instr.slice 9 (.string s) (some (.int .i64 (i : Int))) (some (.int .i64 ((i : Int) + 1))) none).run Tryd.prog w' = .ok (.string (s.extract i (i + 1))) w' := slice_mid s i 1 (by omega)
  have hsl2 : ∀ w' : World, (Instr.slice 9 (.string s) (some (.int .i64 (i : Int))) (some (.int .i64 ((i : Int) + 2))) none).run Tryd.prog w' = .ok (.string (s.extract i (i + 2))) w' := slice_mid s i 2 (by omega)
  generalize s.extract i (i + 2) = y at hsl2 h1 h2 h3 h4
  have g1 : (y.toList == [60, 61]) = false := by simp [h1]
  have g2 : (y.toList == [62, 61]) = false := by simp [h2]
  have g3 : (y.toList == [60, 62]) = false := by simp [h3]
  have g4 : (y.toList == [45, 62]) = false := by simp [h4]
  rw [ext_one s i (by omega)] at hsl
  rw [hc] at hi hsl
  clear hV hc h
  go_enter Tryd.func26, Tryd.ntmps26
  go_wp2
  go_loopw [6] (fun u wr => ∃ k : Nat, k ≤ 18 ∧ u = .int .i64 k ∧ Hid (Below w.heap.size w wr ∧ ∀ j, j < k → c ≠ singles[j]?.getD 0)) (fun u _ => 18 - (intOf u).toNat)
  case atStart => exact ⟨0, by omega, rfl, Below.refl _ _, fun j hj => by omega⟩
  case round =>
    obtain ⟨k, hk, rfl, HU⟩ := hrel
    by_cases hlt : k < 18
    · have hlt' : (k : Int) < 18 := by omega
      have hidx := sgl_at k hlt
      by_cases hcd : c = singles[k]?.getD 0
      · have hE : Hid (V = strOf [c]) := by
          show V = strOf [c]
          rw [HV.out, if_pos (by rw [hcd]; exact singles_in k hlt)]
        rw [← hcd] at hidx
        clear hcd
        go_wp2
        go_big_quiet (fail)
        go_wp2
        try rw [Exit.noGoto_ret]
        go_ret
        exact ⟨ret_str hE.out.symm, HU.out.1.trans ⟨rfl, rfl, rfl, Nat.le_refl _, fun _ _ => rfl⟩⟩
      · obtain ⟨d, hd⟩ : ∃ d, d = singles[k]?.getD 0 := ⟨_, rfl⟩
        rw [← hd] at hidx hcd
        have HD : Hid (d = singles[k]?.getD 0) := hd
        have hdc : ¬ d = c := fun h => hcd h.symm
        have hdb : (d == c) = false := by simp [hdc]
        clear hd
        have HN : Hid (¬ c = d) := hcd
        clear hcd
        go_wp2
        go_big_quiet (fail)
        go_wp2
        go_roundw
        case rel => exact ⟨k + 1, by omega, by go_num, HU.out.1.trans ⟨rfl, rfl, rfl, Nat.le_refl _, fun _ _ => rfl⟩, fun j hj => if h : j = k then by rw [h, ← HD.out]; exact HN.out else HU.out.2 j (by omega)⟩
        case measure => simp [intOf]; omega
    · obtain rfl : k = 18 := by omega
      have hE : Hid (V = ⟨#[]⟩) := by
        show V = ⟨#[]⟩
        rw [HV.out, if_neg (singles_not c HU.out.2)]
        rfl
      go_wp2
      go_ret
      exact ⟨ret_str hE.out.symm, HU.out.1⟩
set_option maxRecDepth 100000 in
set_option maxHeartbeats 2000000 in
theorem rsign_two0 (s : ByteArray) (i : Nat) (w : World) (h : i + 1 < s.size) (hs : s.size ≤ 8192) (hy : s.extract i (i + 2) = ⟨#[60, 61]⟩) :
    Calls Tryd.prog 26 #[.string s, .int .i64 (i : Int)] w fun e w' => e = .returned (.string ⟨#[60, 61]⟩) ∧ Below w.heap.size w w' := by
  have h2' : (i : Int) + 2 ≤ (s.size : Int) := by omega
  have hsl2 : ∀ w' : World, (Instr.slice 9 (.string s) (some (.int .i64 (i : Int))) (some (.int .i64 ((i : Int) + 2))) none).run Tryd.prog w' = .ok (.string (s.extract i (i + 2))) w' := slice_mid s i 2 (by omega)
  rw [hy] at hsl2
  clear hy
  go_enter Tryd.func26, Tryd.ntmps26
  go_wp2
  go_ret
  exact ⟨rfl, Below.refl _ _⟩
set_option maxRecDepth 100000 in
set_option maxHeartbeats 2000000 in
theorem rsign_two1 (s : ByteArray) (i : Nat) (w : World) (h : i + 1 < s.size) (hs : s.size ≤ 8192) (hy : s.extract i (i + 2) = ⟨#[62, 61]⟩) :
    Calls Tryd.prog 26 #[.string s, .int .i64 (i : Int)] w fun e w' => e = .returned (.string ⟨#[62, 61]⟩) ∧ Below w.heap.size w w' := by
  have h2' : (i : Int) + 2 ≤ (s.size : Int) := by omega
  have hsl2 : ∀ w' : World, (Instr.slice 9 (.string s) (some (.int .i64 (i : Int))) (some (.int .i64 ((i : Int) + 2))) none).run Tryd.prog w' = .ok (.string (s.extract i (i + 2))) w' := slice_mid s i 2 (by omega)
  rw [hy] at hsl2
  clear hy
  go_enter Tryd.func26, Tryd.ntmps26
  go_wp2
  go_ret
  exact ⟨rfl, Below.refl _ _⟩
set_option maxRecDepth 100000 in
set_option maxHeartbeats 2000000 in
theorem rsign_two2 (s : ByteArray) (i : Nat) (w : World) (h : i + 1 < s.size) (hs : s.size ≤ 8192) (hy : s.extract i (i + 2) = ⟨#[60, 62]⟩) :
    Calls Tryd.prog 26 #[.string s, .int .i64 (i : Int)] w fun e w' => e = .returned (.string ⟨#[60, 62]⟩) ∧ Below w.heap.size w w' := by
  have h2' : (i : Int) + 2 ≤ (s.size : Int) := by omega
  have hsl2 : ∀ w' : World, (Instr.slice 9 (.string s) (some (.int .i64 (i : Int))) (some (.int .i64 ((i : Int) + 2))) none).run Tryd.prog w' = .ok (.string (s.extract i (i + 2))) w' := slice_mid s i 2 (by omega)
  rw [hy] at hsl2
  clear hy
  go_enter Tryd.func26, Tryd.ntmps26
  go_wp2
  go_ret
  exact ⟨rfl, Below.refl _ _⟩
set_option maxRecDepth 100000 in
set_option maxHeartbeats 2000000 in
theorem rsign_two3 (s : ByteArray) (i : Nat) (w : World) (h : i + 1 < s.size) (hs : s.size ≤ 8192) (hy : s.extract i (i + 2) = ⟨#[45, 62]⟩) :
    Calls Tryd.prog 26 #[.string s, .int .i64 (i : Int)] w fun e w' => e = .returned (.string ⟨#[45, 62]⟩) ∧ Below w.heap.size w w' := by
  have h2' : (i : Int) + 2 ≤ (s.size : Int) := by omega
  have hsl2 : ∀ w' : World, (Instr.slice 9 (.string s) (some (.int .i64 (i : Int))) (some (.int .i64 ((i : Int) + 2))) none).run Tryd.prog w' = .ok (.string (s.extract i (i + 2))) w' := slice_mid s i 2 (by omega)
  rw [hy] at hsl2
  clear hy
  go_enter Tryd.func26, Tryd.ntmps26
  go_wp2
  go_ret
  exact ⟨rfl, Below.refl _ _⟩
theorem rsign_any (s : ByteArray) (i : Nat) (w : World) (h : i < s.size) (hs : s.size ≤ 8192) : Calls Tryd.prog 26 #[.string s, .int .i64 (i : Int)] w fun e w' => e = .returned (.string (strOf (sgnL ((bytesS s).drop i)))) ∧ Below w.heap.size w w' := by
  by_cases h2 : i + 1 < s.size
  · rw [sgn_two s i h2]
    by_cases q0 : byteAt s i = 60 ∧ byteAt s (i + 1) = 61
    · have := rsign_two0 s i w h2 hs (two_is s i h2 60 61 q0.1 q0.2)
      rw [q0.1, q0.2, if_pos (by decide)]
      exact this
    by_cases q1 : byteAt s i = 62 ∧ byteAt s (i + 1) = 61
    · have := rsign_two1 s i w h2 hs (two_is s i h2 62 61 q1.1 q1.2)
      rw [q1.1, q1.2, if_pos (by decide)]
      exact this
    by_cases q2 : byteAt s i = 60 ∧ byteAt s (i + 1) = 62
    · have := rsign_two2 s i w h2 hs (two_is s i h2 60 62 q2.1 q2.2)
      rw [q2.1, q2.2, if_pos (by decide)]
      exact this
    by_cases q3 : byteAt s i = 45 ∧ byteAt s (i + 1) = 62
    · have := rsign_two3 s i w h2 hs (two_is s i h2 45 62 q3.1 q3.2)
      rw [q3.1, q3.2, if_pos (by decide)]
      exact this
    have hn : twoB (byteAt s i) (byteAt s (i + 1)) = false := by
      unfold twoB
      simp only [decide_eq_false_iff_not]
      omega
    rw [hn, if_neg (by simp)]
    exact rsign_single s i w _ _ h2 hs rfl rfl (two_not s i h2 60 61 q0) (two_not s i h2 62 61 q1) (two_not s i h2 60 62 q2) (two_not s i h2 45 62 q3)
  · rw [sgn_one s i (by omega)]
    exact rsign_one s i w _ _ (by omega) hs rfl rfl
end Go.Proofs.YtdfmehbnhdhbcaaDoor
