/-
  Package value's small calls: Null, Bool, Int, Text.
-/
import Derived.Test.YtahlmlbfgijcpaaGreatDoorCText
import Derived.Deep.RegionWith
namespace Go.Proofs.YtahlmlbfgijcpaaGreatDoor
open Go.RowKit

/-- A value of the program, as the model has it; and as it lies in a block of its own. -/
abbrev valV (k n : Int) (s : ByteArray) : Value := .agg #[.int .i64 k, .int .i64 n, .string s]
abbrev valO (k n : Int) (s : ByteArray) : Obj := .cells #[.int .i64 k, .int .i64 n, .string s] 25

set_option maxHeartbeats 400000 in
theorem null_any (w : World) : Calls Tryz.prog 66 #[] w fun e w' => e = .returned (valV 0 0 ⟨#[]⟩) ∧ w' = w.alloc (valO 0 0 ⟨#[]⟩) := by
  go_enter Tryz.func66, Tryz.ntmps66
  go_wp2
  exact bodyPost_ret (v := valV 0 0 ⟨#[]⟩) (by simp [results, Tryz.results66, go_sem]) rfl ⟨rfl, rfl⟩
set_option maxHeartbeats 400000 in
theorem int_any (n : Int) (w : World) : Calls Tryz.prog 70 #[.int .i64 n] w fun e w' => e = .returned (valV 2 n ⟨#[]⟩) ∧ w' = w.alloc (valO 2 n ⟨#[]⟩) := by
  go_enter Tryz.func70, Tryz.ntmps70
  go_wp2
  exact bodyPost_ret (v := valV 2 n ⟨#[]⟩) (by simp [results, Tryz.results70, go_sem]) rfl ⟨rfl, rfl⟩
set_option maxHeartbeats 400000 in
theorem bool_any (b : Bool) (w : World) : Calls Tryz.prog 69 #[.bool b] w fun e w' => e = .returned (valV 1 (if b then 1 else 0) ⟨#[]⟩) ∧ w' = w.alloc (valO 1 (if b then 1 else 0) ⟨#[]⟩) := by
  cases b
  · go_enter Tryz.func69, Tryz.ntmps69
    go_wp2
    exact bodyPost_ret (v := valV 1 0 ⟨#[]⟩) (by simp [results, Tryz.results69, go_sem]) rfl ⟨rfl, rfl⟩
  · go_enter Tryz.func69, Tryz.ntmps69
    go_wp2
    exact bodyPost_ret (v := valV 1 1 ⟨#[]⟩) (by simp [results, Tryz.results69, go_sem]) rfl ⟨rfl, rfl⟩
set_option maxHeartbeats 400000 in
theorem text_short (s : ByteArray) (w : World) (h : ¬ 256 < (s.size : Int)) : Calls Tryz.prog 71 #[.string s] w fun e w' => e = .returned (valV 3 0 s) ∧ w' = w.alloc (valO 3 0 s) := by
  go_enter Tryz.func71, Tryz.ntmps71
  go_wp2
  exact bodyPost_ret (v := valV 3 0 s) (by simp [results, Tryz.results71, go_sem]) rfl ⟨rfl, rfl⟩
set_option maxHeartbeats 400000 in
theorem text_long (s : ByteArray) (w : World) (h : 256 < (s.size : Int)) : Calls Tryz.prog 71 #[.string s] w fun e w' => e = .returned (valV 0 0 ⟨#[]⟩) ∧ w' = (w.alloc (valO 0 0 ⟨#[]⟩)).alloc (valO 0 0 ⟨#[]⟩) := by
  go_enter Tryz.func71, Tryz.ntmps71
  go_wp2_with (go_at_call 66; refine (null_any _).mono ?_; rintro e w1 ⟨rfl, rfl⟩)
  exact bodyPost_ret (v := valV 0 0 ⟨#[]⟩) (by simp [results, Tryz.results71, go_sem]) rfl ⟨rfl, rfl⟩

set_option maxHeartbeats 400000 in
theorem right_none (k n : Int) (s : ByteArray) (w : World) (h0 : (k == 0) = false) (h1 : (k == 1) = false) (h2 : (k == 2) = false) (h3 : (k == 3) = false) : Calls Tryz.prog 51 #[valV k n s] w fun e w' => e = .returned (.bool false) ∧ Below w.heap.size w w' := by
  go_enter Tryz.func51, Tryz.ntmps51
  go_wp2
  go_ret
  exact ⟨rfl, (Below.refl _ w).alloc (Nat.le_refl _) _⟩
theorem below_two (w : World) (o p : Obj) : Below w.heap.size w ((w.alloc o).alloc p).drew :=
  (((Below.refl _ w).alloc (Nat.le_refl _) _).alloc (by simp) _).drew
theorem below_three (w : World) (o p q : Obj) : Below w.heap.size w (((w.alloc o).alloc p).alloc q).drew :=
  ((((Below.refl _ w).alloc (Nat.le_refl _) _).alloc (by simp) _).alloc (by simp; omega) _).drew

set_option maxHeartbeats 400000 in
theorem right_null0 (w : World) : Calls Tryz.prog 51 #[valV 0 0 ⟨#[]⟩] w fun e w' => e = .returned (.bool true) ∧ Below w.heap.size w w' := by
  go_enter Tryz.func51, Tryz.ntmps51
  go_wp2_with fail
  go_region_with (first | (go_at_call 66; refine (null_any _).mono ?_; rintro e w1 ⟨rfl, rfl⟩))
  all_goals go_wp2
  all_goals go_ret
  all_goals exact ⟨rfl, below_two _ _ _⟩
set_option maxHeartbeats 400000 in
theorem right_null1 (n : Int) (s : ByteArray) (w : World) (hn : (n == 0) = false) : Calls Tryz.prog 51 #[valV 0 n s] w fun e w' => e = .returned (.bool false) ∧ Below w.heap.size w w' := by
  go_enter Tryz.func51, Tryz.ntmps51
  go_wp2_with fail
  go_region_with (first | (go_at_call 66; refine (null_any _).mono ?_; rintro e w1 ⟨rfl, rfl⟩))
  all_goals go_wp2
  all_goals go_ret
  all_goals exact ⟨rfl, below_two _ _ _⟩
set_option maxHeartbeats 400000 in
theorem right_null2 (s : ByteArray) (w : World) (hs : (s.toList == []) = false) : Calls Tryz.prog 51 #[valV 0 0 s] w fun e w' => e = .returned (.bool false) ∧ Below w.heap.size w w' := by
  go_enter Tryz.func51, Tryz.ntmps51
  go_wp2_with fail
  go_region_with (first | (go_at_call 66; refine (null_any _).mono ?_; rintro e w1 ⟨rfl, rfl⟩))
  all_goals go_wp2
  all_goals go_ret
  all_goals exact ⟨rfl, below_two _ _ _⟩
set_option maxHeartbeats 400000 in
theorem right_bool0 (w : World) : Calls Tryz.prog 51 #[valV 1 0 ⟨#[]⟩] w fun e w' => e = .returned (.bool true) ∧ Below w.heap.size w w' := by
  go_enter Tryz.func51, Tryz.ntmps51
  go_wp2_with fail
  go_region_with (first | (go_at_call 69; refine (bool_any _ _).mono ?_; rintro e w1 ⟨rfl, rfl⟩))
  all_goals go_wp2
  all_goals go_ret
  all_goals exact ⟨rfl, below_two _ _ _⟩
set_option maxHeartbeats 400000 in
theorem right_bool1 (w : World) : Calls Tryz.prog 51 #[valV 1 1 ⟨#[]⟩] w fun e w' => e = .returned (.bool true) ∧ Below w.heap.size w w' := by
  go_enter Tryz.func51, Tryz.ntmps51
  go_wp2_with fail
  go_region_with (first | (go_at_call 69; refine (bool_any _ _).mono ?_; rintro e w1 ⟨rfl, rfl⟩))
  all_goals go_wp2
  all_goals go_ret
  all_goals exact ⟨rfl, below_two _ _ _⟩
set_option maxHeartbeats 400000 in
theorem right_bool2 (s : ByteArray) (w : World) (hs : (s.toList == []) = false) : Calls Tryz.prog 51 #[valV 1 0 s] w fun e w' => e = .returned (.bool false) ∧ Below w.heap.size w w' := by
  go_enter Tryz.func51, Tryz.ntmps51
  go_wp2_with fail
  go_region_with (first | (go_at_call 69; refine (bool_any _ _).mono ?_; rintro e w1 ⟨rfl, rfl⟩))
  all_goals go_wp2
  all_goals go_ret
  all_goals exact ⟨rfl, below_two _ _ _⟩
set_option maxHeartbeats 400000 in
theorem right_bool3 (s : ByteArray) (w : World) (hs : (s.toList == []) = false) : Calls Tryz.prog 51 #[valV 1 1 s] w fun e w' => e = .returned (.bool false) ∧ Below w.heap.size w w' := by
  go_enter Tryz.func51, Tryz.ntmps51
  go_wp2_with fail
  go_region_with (first | (go_at_call 69; refine (bool_any _ _).mono ?_; rintro e w1 ⟨rfl, rfl⟩))
  all_goals go_wp2
  all_goals go_ret
  all_goals exact ⟨rfl, below_two _ _ _⟩
set_option maxHeartbeats 400000 in
theorem right_bool4 (n : Int) (s : ByteArray) (w : World) (hn : (n == 0) = false) (h1 : (n == 1) = false) : Calls Tryz.prog 51 #[valV 1 n s] w fun e w' => e = .returned (.bool false) ∧ Below w.heap.size w w' := by
  go_enter Tryz.func51, Tryz.ntmps51
  go_wp2_with fail
  go_region_with (first | (go_at_call 69; refine (bool_any _ _).mono ?_; rintro e w1 ⟨rfl, rfl⟩))
  all_goals go_wp2
  all_goals go_ret
  all_goals exact ⟨rfl, below_two _ _ _⟩
set_option maxHeartbeats 400000 in
theorem right_int0 (n : Int) (w : World) : Calls Tryz.prog 51 #[valV 2 n ⟨#[]⟩] w fun e w' => e = .returned (.bool true) ∧ Below w.heap.size w w' := by
  go_enter Tryz.func51, Tryz.ntmps51
  go_wp2_with fail
  go_region_with (first | (go_at_call 70; refine (int_any _ _).mono ?_; rintro e w1 ⟨rfl, rfl⟩))
  all_goals go_wp2
  all_goals go_ret
  all_goals exact ⟨rfl, below_two _ _ _⟩
set_option maxHeartbeats 400000 in
theorem right_int1 (n : Int) (s : ByteArray) (w : World) (hs : (s.toList == []) = false) : Calls Tryz.prog 51 #[valV 2 n s] w fun e w' => e = .returned (.bool false) ∧ Below w.heap.size w w' := by
  go_enter Tryz.func51, Tryz.ntmps51
  go_wp2_with fail
  go_region_with (first | (go_at_call 70; refine (int_any _ _).mono ?_; rintro e w1 ⟨rfl, rfl⟩))
  all_goals go_wp2
  all_goals go_ret
  all_goals exact ⟨rfl, below_two _ _ _⟩
end Go.Proofs.YtahlmlbfgijcpaaGreatDoor
