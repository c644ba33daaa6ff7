/-
  The document's plain, hex, sign and Quote.
-/
import Derived.Test.YtdfmehbnhdhbcaaDoorQuoteQuote
import Derived.Test.YtdfmehbnhdhbcaaDoorQuoteSign
import Derived.RegionTactic
namespace Go.Proofs.YtdfmehbnhdhbcaaDoor
open Go.RowKit

set_option maxHeartbeats 400000 in
theorem refPlain_any (c : Int) (w : World) : Calls Tryd.prog 31 #[.int .u8 c] w fun e w' => e = .returned (.bool (plainB c)) ∧ w' = w := by
  go_enter Tryd.func31, Tryd.ntmps31
  go_wp2
  all_goals go_ret
  all_goals refine ⟨ret_bool ?_, rfl⟩
  all_goals (unfold plainB; rw [Bool.eq_iff_iff]; simp <;> omega)
theorem digS_all (w : World) : (List.range 16).map (fun k : Nat => (Instr.index 9 (.string ⟨#[48, 49, 50, 51, 52, 53, 54, 55, 56, 57, 97, 98, 99, 100, 101, 102]⟩) (.int .i64 (k : Int))).run Tryd.prog w) = (List.range 16).map (fun k : Nat => .ok (.int .u8 (hexD k)) w) := by kernel_rfl
theorem digS_at (k : Nat) (hk : k < 16) (w : World) : (Instr.index 9 (.string ⟨#[48, 49, 50, 51, 52, 53, 54, 55, 56, 57, 97, 98, 99, 100, 101, 102]⟩) (.int .i64 (k : Int))).run Tryd.prog w = .ok (.int .u8 (hexD k)) w :=
  List.map_eq_map_iff.1 (digS_all w) k (List.mem_range.2 hk)
theorem digB_all (w : World) : (List.range 16).map (fun k : Nat => (Instr.index 9 (.string ⟨#[48, 49, 50, 51, 52, 53, 54, 55, 56, 57, 97, 98, 99, 100, 101, 102]⟩) (.int .u8 (k : Int))).run Tryd.prog w) = (List.range 16).map (fun k : Nat => .ok (.int .u8 (hexD k)) w) := by kernel_rfl
theorem digB_at (k : Nat) (hk : k < 16) (w : World) : (Instr.index 9 (.string ⟨#[48, 49, 50, 51, 52, 53, 54, 55, 56, 57, 97, 98, 99, 100, 101, 102]⟩) (.int .u8 (k : Int))).run Tryd.prog w = .ok (.int .u8 (hexD k)) w :=
  List.map_eq_map_iff.1 (digB_all w) k (List.mem_range.2 hk)

set_option maxRecDepth 100000 in
set_option maxHeartbeats 1000000 in
theorem hex_any (c : Int) (w : World) : Calls Tryd.prog 32 #[.int .u8 c] w fun e w' => e = .returned (.int .i64 (dig c)) ∧ w' = w := by
  go_enter Tryd.func32, Tryd.ntmps32
  go_wp2
  go_loop [3] (fun i => ∃ k : Nat, k ≤ 16 ∧ i = .int .i64 k ∧ Hid (∀ j : Nat, j < k → c ≠ hexD j)) (fun i => 16 - (intOf i).toNat)
  case atStart => exact ⟨0, by omega, rfl, fun j hj => by omega⟩
  case round =>
    obtain ⟨k, hk, rfl, HN⟩ := hrel
    by_cases hlt : k < 16
    · have hlt' : (k : Int) < 16 := by omega
      have hidx := digS_at k hlt
      by_cases hc : c = hexD k
      · have hE : Hid (dig c = k) := by show _ = _; rw [hc]; exact dig_hexD k (by omega) (by omega)
        rw [← hc] at hidx
        clear hc
        go_wp2
        try rw [Exit.noGoto_ret]
        go_ret
        exact ⟨ret_int hE.out.symm, rfl⟩
      · obtain ⟨d, hd⟩ : ∃ d, d = hexD k := ⟨_, rfl⟩
        rw [← hd] at hidx hc
        have HD : Hid (d = hexD k) := hd
        have hc' : ¬ d = c := fun h => hc h.symm
        have hcb : (d == c) = false := by simp [hc']
        clear hd
        go_wp2
        go_round
        case rel => exact ⟨k + 1, by omega, by go_num, fun j hj => if h : j = k then by rw [h, ← HD.out]; exact hc else HN.out j (by omega)⟩
        case measure => simp [intOf]; omega
    · obtain rfl : k = 16 := by omega
      go_wp2
      go_ret
      exact ⟨ret_int (dig_none c HN.out).symm, rfl⟩

theorem conv_lit (w : World) (l : List Int) (hb : ∀ c ∈ l, 0 ≤ c ∧ c ≤ 255) (hl : l.length ≤ 1000) :
    (convert 33 9 (.slice (some ⟨w.heap.size, 0, none⟩) l.length l.length)).run Tryd.prog (w.alloc (.cells (cellsOf l).toArray 5)) = .ok (.string (strOf l)) (w.alloc (.cells (cellsOf l).toArray 5)) := conv_in (isBytes_lit w l hb hl)

theorem strOf_append (l m : List Int) : strOf l ++ strOf m = strOf (l ++ m) := by
  apply ByteArray.ext
  apply Array.ext'
  rw [ByteArray.data_append, Array.toList_append, strOf_data, strOf_data, strOf_data, List.map_append]
theorem tup_quote {a b : ByteArray} {n m : Int} (h1 : a = b) (h2 : n = m) : Ending.returned (.tuple #[.string a, .int .i64 n]) = .returned (.tuple #[.string b, .int .i64 m]) := by rw [h1, h2]
end Go.Proofs.YtdfmehbnhdhbcaaDoor
