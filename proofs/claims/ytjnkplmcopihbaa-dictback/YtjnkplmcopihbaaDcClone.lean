/-
  strings.Clone: the same text, its bytes in new memory.
-/
import Derived.Test.YtjnkplmcopihbaaSame
import Derived.Lib.Strings
import Derived.Lib.Walk
import Derived.Lib.BufferWrite
import Derived.Lib.UnsafeStr
import Derived.Laws.MakeOwn
namespace Go.Proofs.Ytjnkplmcopihbaa
open Go.RowKit

theorem infoB5 : (Try.prog.info? 5).map (fun i => (i.zero, i.size, i.bytes)) = some (some (.int .u8 0), 1, 1) := by kernel_rfl
set_option maxRecDepth 100000 in
set_option maxHeartbeats 1000000 in
theorem cloneL_any (s : ByteArray) (w : World) (hs : s.size ≤ 1048576) : Calls Try.prog 39 #[.string s] w fun e w' => e = .returned (.string s) ∧ Below w.heap.size w w' := by
  by_cases h0 : s.size = 0
  · obtain rfl : s = ⟨#[]⟩ := ByteArray.ext (Array.eq_empty_of_size_eq_zero h0)
    go_enter Try.func39, Try.ntmps39
    go_wp2
    go_ret
    exact ⟨rfl, Below.refl _ _⟩
  · obtain ⟨i, hi, hz, h1, h2⟩ := info_parts infoB5
    have hone : (Try.prog.info? 5).map (·.size) = some 1 := by rw [hi]; simp [h1]
    -- the new row; the bytes that are copied into it; the text that is made of it
    obtain ⟨R, hR⟩ : ∃ R, R = madeCells (Value.int .u8 0).cells (((s.size : Nat) : Int).toNat * i.size) := ⟨_, rfl⟩
    have hRl : R.size = s.size := by rw [hR, size_madeCells, h1]; simp
    have hmake : ∀ W : World, (Instr.makeSlice 53 (.int .i64 (s.size : Int)) (.int .i64 (s.size : Int))).run Try.prog W = .ok (.slice (some ⟨W.heap.size, 0, none⟩) s.size s.size) (W.alloc (.cells R 5)) := fun W => by
      have := run_make (P := Try.prog) W 53 5 i (.int .u8 0) Try.underlying53 hi hz .i64 .i64 (s.size : Int) (s.size : Int) (by omega) (by omega) (by rw [h2]; omega) (by omega)
      rw [← hR] at this
      simpa using this
    clear hR
    have hcopy := Lib.run_copy_row_string (P := Try.prog) (w.alloc (.cells R 5)) 53 9 3 5 w.heap.size 0 s.size s.size s R 5 Try.underlying53 hone (heap_alloc_new w _) (Nat.le_refl _) (by omega)
    obtain ⟨Y, hY⟩ : ∃ Y, Y = (R.toList.take 0 ++ Lib.byteCells s.data.toList ++ R.toList.drop (0 + s.size)).toArray := ⟨_, rfl⟩
    rw [← hY] at hcopy
    have hYl : Y.toList = Lib.byteCells s.data.toList := by
      rw [hY, List.toList_toArray, List.take_zero, List.nil_append, List.drop_of_length_le (by rw [Array.length_toList]; omega), List.append_nil]
    have hYs : Y.size = s.size := by rw [← Array.length_toList, hYl, Lib.byteCells_length, ← Lib.size_eq]
    clear hY
    obtain ⟨V, hV⟩ : ∃ V, V = (w.alloc (.cells R 5)).setRow w.heap.size Y := ⟨_, rfl⟩
    rw [← hV] at hcopy
    have hg : V.heap[w.heap.size]? = some (.cells Y 5 (0, 0)) := by rw [hV]; exact setRow_heap _ _ R _ 5 (0, 0) (heap_alloc_new w _)
    have hB : Below w.heap.size w V := by
      rw [hV]
      exact ((Below.refl _ w).alloc (Nat.le_refl _) _).trans ⟨rfl, rfl, rfl, by simp, fun k hk => setRow_other _ _ _ _ (by omega)⟩
    clear hV
    have htext := Lib.run_unsafeString_row (P := Try.prog) V 91 3 9 5 Try.underlying91 (by simp [Program.cellsOf, hi, h1]) w.heap.size Y.size (by unfold World.shape?; rw [hg]) s.data.toList
      (fun e => h0 (by rw [Lib.size_eq, e]; rfl)) (by rw [← Lib.size_eq]; omega) (by rw [← Lib.size_eq]; omega)
      (fun j x hx => Lib.cells_of_row hg Y.size j _ (by rw [List.take_of_length_le (by rw [Array.length_toList]; exact Nat.le_refl _), hYl]; simp [Lib.byteCells, hx]))
    rw [← Lib.size_eq] at htext
    go_enter Try.func39, Try.ntmps39
    go_wp2
    go_ret
    exact ⟨rfl, Lib.below_freeze hB (p := ⟨w.heap.size, 0, none⟩) (Nat.le_refl _) _⟩
theorem cloneD_any (s : ByteArray) (w : World) (hs : s.size ≤ 1048576) : Calls Try.prog 26 #[.string s] w fun e w' => e = .returned (.string s) ∧ Below w.heap.size w w' := by
  have C : Hid (Calls Try.prog 39 _ _ _) := cloneL_any s w hs
  go_enter Try.func26, Try.ntmps26
  go_wp2_with (go_at_call 39; refine C.out.mono ?_; rintro e w1 ⟨rfl, hB⟩)
  go_ret
  exact ⟨rfl, hB⟩
end Go.Proofs.Ytjnkplmcopihbaa
