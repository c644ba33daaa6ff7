/-
  word's two tables as they lie in memory; word.plain, word.digit, word.digitsBehind.
-/
import Derived.Test.YtdfmehbnhdhbcaaDoorQuoteMath
import Derived.Laws.Rows
import Derived.LoopN
namespace Go.Proofs.YtdfmehbnhdhbcaaDoor
open Go.RowKit

def digC : Array Value := #[.int .u8 48, .int .u8 49, .int .u8 50, .int .u8 51, .int .u8 52, .int .u8 53, .int .u8 54, .int .u8 55, .int .u8 56, .int .u8 57, .int .u8 97, .int .u8 98, .int .u8 99, .int .u8 100, .int .u8 101, .int .u8 102]
def escC : Array Value := #[.int .u8 39, .int .i64 0, .int .u8 92, .int .i64 0, .int .u8 120, .int .i64 2]
/-- The tables lie where the program's text lays them. -/
structure Tabs (w : World) : Prop where
  dig : ∃ t f, w.heap[4]? = some (.cells digC t f)
  esc : ∃ t f, w.heap[3]? = some (.cells escC t f)
theorem lt_of_heap {w : World} {g : Nat} {o : Obj} (h : w.heap[g]? = some o) : g < w.heap.size := by
  rcases Nat.lt_or_ge g w.heap.size with h' | h'
  · exact h'
  · rw [Array.getElem?_eq_none h'] at h; cases h
theorem Tabs.later {w w' : World} {B : Nat} (h : Tabs w) (hb : Below B w w') (hB : 4 < B ∧ 3 < B) : Tabs w' := by
  obtain ⟨⟨t, f, h1⟩, ⟨u, k, h2⟩⟩ := h
  exact ⟨⟨t, f, by rw [hb.block _ hB.1]; exact h1⟩, ⟨u, k, by rw [hb.block _ hB.2]; exact h2⟩⟩
theorem Tabs.two {w : World} (h : Tabs w) : 4 < w.heap.size ∧ 3 < w.heap.size := by
  obtain ⟨⟨t, f, h1⟩, ⟨u, k, h2⟩⟩ := h
  exact ⟨lt_of_heap h1, lt_of_heap h2⟩
theorem size41 : (Tryd.prog.info? 65).map (·.size) = some 16 := by kernel_rfl
theorem size47 : (Tryd.prog.info? 64).map (·.size) = some 6 := by kernel_rfl
theorem load_dig {w : World} (h : Tabs w) : (loadVar 65 ⟨4, 0, none⟩).run Tryd.prog w = .ok (.agg digC) w := by
  obtain ⟨⟨t, f, h1⟩, _⟩ := h
  exact run_loadVar_row w 4 t 65 digC f _ h1 Tryd.underlying65 rfl size41
theorem load_esc {w : World} (h : Tabs w) : (loadVar 64 ⟨3, 0, none⟩).run Tryd.prog w = .ok (.agg escC) w := by
  obtain ⟨_, ⟨t, f, h1⟩⟩ := h
  exact run_loadVar_row w 3 t 64 escC f _ h1 Tryd.underlying64 rfl size47
theorem cell_dig {w : World} (h : Tabs w) (k : Nat) (hk : k < 16) : w.cell? ⟨4, k, none⟩ = some (.int .u8 (hexD k)) := by
  obtain ⟨⟨t, f, h1⟩, _⟩ := h
  rw [cell_of_row w 4 k digC t f h1]
  match k, hk with
  | 0, _ => rfl | 1, _ => rfl | 2, _ => rfl | 3, _ => rfl | 4, _ => rfl | 5, _ => rfl | 6, _ => rfl | 7, _ => rfl
  | 8, _ => rfl | 9, _ => rfl | 10, _ => rfl | 11, _ => rfl | 12, _ => rfl | 13, _ => rfl | 14, _ => rfl | 15, _ => rfl
  | k + 16, h => exact absurd h (by omega)
theorem cells_dig {w : World} (h : Tabs w) : w.cell? ⟨4, 0, none⟩ = some (.int .u8 48) ∧ w.cell? ⟨4, 1, none⟩ = some (.int .u8 49) ∧ w.cell? ⟨4, 2, none⟩ = some (.int .u8 50) ∧ w.cell? ⟨4, 3, none⟩ = some (.int .u8 51) ∧ w.cell? ⟨4, 4, none⟩ = some (.int .u8 52) ∧ w.cell? ⟨4, 5, none⟩ = some (.int .u8 53) ∧ w.cell? ⟨4, 6, none⟩ = some (.int .u8 54) ∧ w.cell? ⟨4, 7, none⟩ = some (.int .u8 55) ∧ w.cell? ⟨4, 8, none⟩ = some (.int .u8 56) ∧ w.cell? ⟨4, 9, none⟩ = some (.int .u8 57) ∧ w.cell? ⟨4, 10, none⟩ = some (.int .u8 97) ∧ w.cell? ⟨4, 11, none⟩ = some (.int .u8 98) ∧ w.cell? ⟨4, 12, none⟩ = some (.int .u8 99) ∧ w.cell? ⟨4, 13, none⟩ = some (.int .u8 100) ∧ w.cell? ⟨4, 14, none⟩ = some (.int .u8 101) ∧ w.cell? ⟨4, 15, none⟩ = some (.int .u8 102) := by
  obtain ⟨⟨t, f, h1⟩, _⟩ := h
  have e := fun k => cell_of_row w 4 k digC t f h1
  exact ⟨e 0, e 1, e 2, e 3, e 4, e 5, e 6, e 7, e 8, e 9, e 10, e 11, e 12, e 13, e 14, e 15⟩
theorem cells_esc {w : World} (h : Tabs w) : w.cell? ⟨3, 0, none⟩ = some (.int .u8 39) ∧ w.cell? ⟨3, 1, none⟩ = some (.int .i64 0) ∧ w.cell? ⟨3, 2, none⟩ = some (.int .u8 92) ∧ w.cell? ⟨3, 3, none⟩ = some (.int .i64 0) ∧ w.cell? ⟨3, 4, none⟩ = some (.int .u8 120) ∧ w.cell? ⟨3, 5, none⟩ = some (.int .i64 2) := by
  obtain ⟨_, ⟨t, f, h1⟩⟩ := h
  have e := fun k => cell_of_row w 3 k escC t f h1
  exact ⟨e 0, e 1, e 2, e 3, e 4, e 5⟩
theorem at_dig_all (w : World) : (List.range 16).map (fun k : Nat => (Instr.index 65 (.agg digC) (.int .i64 (k : Int))).run Tryd.prog w) = (List.range 16).map (fun k : Nat => .ok (.int .u8 (hexD k)) w) := by kernel_rfl
theorem at_dig (k : Nat) (hk : k < 16) (w : World) : (Instr.index 65 (.agg digC) (.int .i64 (k : Int))).run Tryd.prog w = .ok (.int .u8 (hexD k)) w :=
  List.map_eq_map_iff.1 (at_dig_all w) k (List.mem_range.2 hk)

set_option maxHeartbeats 400000 in
theorem plain_any (c : Int) (w : World) : Calls Tryd.prog 34 #[.int .u8 c] w fun e w' => e = .returned (.bool (plainB c)) ∧ w' = w := by
  go_enter Tryd.func34, Tryd.ntmps34
  go_wp2
  all_goals go_ret
  all_goals refine ⟨ret_bool ?_, rfl⟩
  all_goals (unfold plainB; rw [Bool.eq_iff_iff]; simp <;> omega)

theorem dig_none (c : Int) (h : ∀ j : Nat, j < 16 → c ≠ hexD j) : dig c = -1 := by
  unfold dig
  split
  · rename_i hc
    exact absurd (show c = hexD ((c - 48).toNat : Nat) by unfold hexD; split <;> omega) (h _ (by omega))
  · split
    · rename_i hc
      exact absurd (show c = hexD ((c - 87).toNat : Nat) by unfold hexD; split <;> omega) (h _ (by omega))
    · rfl

set_option maxRecDepth 100000 in
set_option maxHeartbeats 1000000 in
theorem digit_any (c : Int) (w : World) (hT : Tabs w) : Calls Tryd.prog 40 #[.int .u8 c] w fun e w' => e = .returned (.int .i64 (dig c)) ∧ w' = w := by
  obtain ⟨c0, c1, c2, c3, c4, c5, c6, c7, c8, c9, c10, c11, c12, c13, c14, c15⟩ := cells_dig hT
  clear hT
  have HI : Hid (∀ (k : Nat), k < 16 → ∀ w' : World, (Instr.index 65 (.agg digC) (.int .i64 (k : Int))).run Tryd.prog w' = .ok (.int .u8 (hexD k)) w') := at_dig
  unfold digC at HI
  go_enter Tryd.func40, Tryd.ntmps40
  go_wp2
  go_loop [6] (fun i => ∃ k : Nat, k ≤ 16 ∧ i = .int .i64 k ∧ Hid (∀ j : Nat, j < k → c ≠ hexD j)) (fun i => 16 - (intOf i).toNat)
  case atStart => exact ⟨0, by omega, rfl, fun j hj => by omega⟩
  case round =>
    obtain ⟨k, hk, rfl, HN⟩ := hrel
    by_cases hlt : k < 16
    · have hlt' : (k : Int) < 16 := by omega
      have hidx := HI.out k hlt
      by_cases hc : c = hexD k
      · have hE : Hid (dig c = k) := by show _ = _; rw [hc]; exact dig_hexD k (by omega) (by omega)
        rw [← hc] at hidx
        clear hc
        go_wp2
        try rw [Exit.noGoto_ret]
        go_ret
        exact ⟨ret_int hE.out.symm, rfl⟩
      · obtain ⟨d, hd⟩ : ∃ d, d = hexD k := ⟨_, rfl⟩
        rw [← hd] at hidx hc
        have HD : Hid (d = hexD k) := hd
        clear hd
        go_wp2
        go_round
        case rel => exact ⟨k + 1, by omega, by go_num, fun j hj => if h : j = k then by rw [h, ← HD.out]; exact hc else HN.out j (by omega)⟩
        case measure => simp [intOf]; omega
    · obtain rfl : k = 16 := by omega
      go_wp2
      go_ret
      exact ⟨ret_int (dig_none c HN.out).symm, rfl⟩
end Go.Proofs.YtdfmehbnhdhbcaaDoor
