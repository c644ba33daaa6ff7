/-
  pat.right at a node: PMany.
-/
import Derived.Test.YtfnfegcjgnbgbaaGreatDoorTBrief
import Derived.Test.YtfnfegcjgnbgbaaGreatDoorTPatKinds
import Derived.Test.YtfnfegcjgnbgbaaGreatDoorTValOrder
import Derived.Test.YtfnfegcjgnbgbaaGreatDoorTTrees
import Derived.Deep.DeepCutAuto
namespace Go.Proofs.YtfnfegcjgnbgbaaGreatDoor
open Go.RowKit

set_option maxRecDepth 100000 in
set_option maxHeartbeats 2000000 in
theorem counts_any (lo hi : Int) (w : World) : Calls Tryz.prog 93 #[.int .i64 lo, .int .i64 hi] w fun e w' => e = .returned (.bool (cntB lo hi)) ∧ w' = w := by
  unfold cntB
  by_cases h1 : lo < 1
  · go_enter Tryz.func93, Tryz.ntmps93
    go_wp2
    go_ret
    exact ⟨by simp [show ¬ 1 ≤ lo by omega], rfl⟩
  · by_cases h2 : 1000 < lo
    · go_enter Tryz.func93, Tryz.ntmps93
      go_wp2
      go_ret
      exact ⟨by simp [show ¬ lo ≤ 1000 by omega], rfl⟩
    · by_cases h3 : lo = 1
      · by_cases h4 : hi = 1
        · subst h3 h4
          go_enter Tryz.func93, Tryz.ntmps93
          go_wp2
          go_ret
          exact ⟨by simp, rfl⟩
        · have t3 : (lo == 1) = true := by simp [h3]
          have t4 : (hi == 1) = false := by simp [h4]
          go_enter Tryz.func93, Tryz.ntmps93
          go_wp2
          all_goals go_ret
          all_goals refine ⟨?_, rfl⟩
          all_goals simp
          all_goals simp_all
          all_goals (intro _; omega)
      · have t3 : (lo == 1) = false := by simp [h3]
        go_enter Tryz.func93, Tryz.ntmps93
        go_wp2
        all_goals go_ret
        all_goals refine ⟨?_, rfl⟩
        all_goals simp
        all_goals simp_all
        all_goals (intro _; omega)
set_option maxRecDepth 100000 in
set_option maxHeartbeats 2000000 in
theorem rP5_0 (x : Pt) (b o : Nat) (w : World) (hN : NodeP w b o x) (k1 : (x.k == 1) = false) (k6 : (x.k == 6) = false) (k5 : (x.k == 5) = true) (h1 : nameB x.s = false) : Calls Tryz.prog 74 #[.pointer (some ⟨b, o, none⟩)] w fun e w' => e = .returned (.bool false) ∧ Below w.heap.size w w' := by
  obtain ⟨A, hA⟩ : ∃ A, w.alloc (.cells #[.pointer (some ⟨b, o, none⟩)] 81) = A := ⟨_, rfl⟩
  have hB : Below w.heap.size w A := by rw [← hA]; exact (Below.refl _ w).alloc (Nat.le_refl _) _
  have hs : A.heap.size = w.heap.size + 1 := by rw [← hA]; simp
  have HN : Hid (NodeP A b o x) := hN.later hB
  have HP : Hid (Boxed A w.heap.size 81 (.pointer (some ⟨b, o, none⟩))) := by show Boxed _ _ _ _; rw [← hA]; exact Boxed.new _ _ _
  have cp := HP.out.cell
  obtain ⟨d0, d1, d2, d3, d4, d5⟩ := HN.out
  have HB : Hid (Below w.heap.size w A) := hB
  have N1 : Hid (∀ d, Calls Tryz.prog 72 #[.string x.s] d fun e w' => e = .returned (.bool false) ∧ Below d.heap.size d w') := fun d => by have := name_any x.s d; rw [h1] at this; exact this
  clear hB hN h1 d0 d1 d2 d3 d4 d5
  go_enter Tryz.func74, Tryz.ntmps74
  have e0 := HN.out.1
  go_upto_region 6 with (fail)
  clear cp e0
  refine wp_region_noPanic ?_
  refine wp_region_held_drew (S := fun w' => Below A.heap.size A w') (by kernel_rfl) ((Below.refl _ _).drew) (fun hHeld => ?_)
  have hT : Below A.heap.size A A.drew := hHeld
  obtain ⟨d, hd⟩ : ∃ d, d = A.drew := ⟨_, rfl⟩
  rw [← hd] at hHeld hT ⊢
  clear hd
  refine wpAnyH_take (i := 0) (oi := ⟨some 47, .load 81 (.tmp 1), 81, _, _, _⟩) (v := ?v0m0) rfl (by kernel_rfl) (by kernel_rfl) (by kernel_rfl) (fun _ _ _ h => h) (Or.inl ⟨by rfl, ?hy0m0⟩) hHeld ?rest0m0
  case hy0m0 => intro w9 hSw; have cc := (Boxed.kept_of HP.out hSw (by omega)).cell; go_simp; (try with_reducible rfl)
  try simp only [Act.put, s_put, s_0, s_1]
  refine wpAnyH_take (i := 1) (oi := ⟨some 48, .nilCheck (.tmp 47), 0, _, _, _⟩) (v := ?v1m0) rfl (by kernel_rfl) (by kernel_rfl) (by kernel_rfl) (fun _ _ _ h => h) (Or.inl ⟨by rfl, ?hy1m0⟩) hHeld ?rest1m0
  case hy1m0 => intro w9 hSw; go_simp; (try with_reducible rfl)
  try simp only [Act.put, s_put, s_0, s_1]
  refine wpAnyH_take (i := 2) (oi := ⟨some 49, .fieldAddr 24 (.tmp 48) 1, 0, _, _, _⟩) (v := ?v2m0) rfl (by kernel_rfl) (by kernel_rfl) (by kernel_rfl) (fun _ _ _ h => h) (Or.inl ⟨by rfl, ?hy2m0⟩) hHeld ?rest2m0
  case hy2m0 => intro w9 hSw; go_simp; (try with_reducible rfl)
  try simp only [Act.put, s_put, s_0, s_1]
  refine wpAnyH_take (i := 3) (oi := ⟨some 50, .load 9 (.tmp 49), 9, _, _, _⟩) (v := ?v3m0) rfl (by kernel_rfl) (by kernel_rfl) (by kernel_rfl) (fun _ _ _ h => h) (Or.inl ⟨by rfl, ?hy3m0⟩) hHeld ?rest3m0
  case hy3m0 => intro w9 hSw; obtain ⟨d0, d1, d2, d3, d4, d5⟩ := HN.out.later hSw; go_simp; (try with_reducible rfl)
  try simp only [Act.put, s_put, s_0, s_1]
  refine wpAnyH_ready (rs := [4]) (by kernel_rfl) (by simp) ?_
  refine AllReadyH.cons (o := ⟨some 51, .call { callee := .value (.func 72), args := #[.tmp 50], argTypes := #[9] }, 4, _, _, _⟩) rfl (fun K hK => ?_) AllReadyH.nil
  go_simp
  refine (N1.out _).mono ?_
  rintro e x4 ⟨rfl, hN4⟩
  go_wp2_with fail
  have hT4 : Below A.heap.size A x4 := hT.trans (hN4.mono hT.size)
  refine hK.out _ _ (hHeld.trans (hN4.mono hHeld.size)) (fun _ => held_up (S' := fun w' => Below x4.heap.size x4 w') (fun w' h' => (hHeld.trans (hN4.mono hHeld.size)).trans (h'.mono (Nat.le_trans hHeld.size hN4.size))) _ _ _ _ ?_)
  clear hK K hHeld hT
  have hT : Below A.heap.size A x4 := hT4
  have hHeld : Below x4.heap.size x4 x4 := Below.refl _ _
  clear hT4 hN4
  try simp only [Act.put, s_put, s_0, s_1]
  refine wpAnyH_take (i := 5) (oi := ⟨some 52, .move (.tmp 51), 4, _, _, _⟩) (v := ?v5m0) rfl (by kernel_rfl) (by kernel_rfl) (by kernel_rfl) (fun _ _ _ h => h) (Or.inl ⟨by rfl, ?hy5m0⟩) hHeld ?rest5m0
  case hy5m0 => intro w9 hSw; go_simp; (try with_reducible rfl)
  try simp only [Act.put, s_put, s_0, s_1]
  refine wpAnyH_take (i := 6) (oi := ⟨some 53, .load 81 (.tmp 1), 81, _, _, _⟩) (v := undef) rfl (by kernel_rfl) (by kernel_rfl) (by kernel_rfl) (fun _ _ _ h => h) (Or.inr ⟨by rfl, rfl⟩) hHeld ?rest6m0
  try simp only [Act.put, s_put, s_0, s_1]
  refine wpAnyH_take (i := 7) (oi := ⟨some 54, .nilCheck (.tmp 53), 0, _, _, _⟩) (v := undef) rfl (by kernel_rfl) (by kernel_rfl) (by kernel_rfl) (fun _ _ _ h => h) (Or.inr ⟨by rfl, rfl⟩) hHeld ?rest7m0
  try simp only [Act.put, s_put, s_0, s_1]
  refine wpAnyH_take (i := 8) (oi := ⟨some 55, .fieldAddr 24 (.tmp 54) 2, 0, _, _, _⟩) (v := undef) rfl (by kernel_rfl) (by kernel_rfl) (by kernel_rfl) (fun _ _ _ h => h) (Or.inr ⟨by rfl, rfl⟩) hHeld ?rest8m0
  try simp only [Act.put, s_put, s_0, s_1]
  refine wpAnyH_take (i := 9) (oi := ⟨some 56, .load 9 (.tmp 55), 9, _, _, _⟩) (v := undef) rfl (by kernel_rfl) (by kernel_rfl) (by kernel_rfl) (fun _ _ _ h => h) (Or.inr ⟨by rfl, rfl⟩) hHeld ?rest9m0
  try simp only [Act.put, s_put, s_0, s_1]
  refine wpAnyH_take (i := 10) (oi := ⟨some 57, .call { callee := .value (.func 72), args := #[.tmp 56], argTypes := #[9] }, 4, _, _, _⟩) (v := undef) rfl (by kernel_rfl) (by kernel_rfl) (by kernel_rfl) (fun _ _ _ h => h) (Or.inr ⟨by rfl, rfl⟩) hHeld ?rest10m0
  try simp only [Act.put, s_put, s_0, s_1]
  refine wpAnyH_take (i := 11) (oi := ⟨some 58, .pick (.tmp 52) (.tmp 57) (.const (Value.bool false)), 4, _, _, _⟩) (v := ?v11m0) rfl (by kernel_rfl) (by kernel_rfl) (by kernel_rfl) (fun _ _ _ h => h) (Or.inl ⟨by rfl, ?hy11m0⟩) hHeld ?rest11m0
  case hy11m0 => intro w9 hSw; go_simp; (try with_reducible rfl)
  try simp only [Act.put, s_put, s_0, s_1]
  refine wpAnyH_take (i := 12) (oi := ⟨some 59, .move (.tmp 58), 4, _, _, _⟩) (v := ?v12m0) rfl (by kernel_rfl) (by kernel_rfl) (by kernel_rfl) (fun _ _ _ h => h) (Or.inl ⟨by rfl, ?hy12m0⟩) hHeld ?rest12m0
  case hy12m0 => intro w9 hSw; go_simp; (try with_reducible rfl)
  try simp only [Act.put, s_put, s_0, s_1]
  refine wpAnyH_take (i := 13) (oi := ⟨some 60, .load 81 (.tmp 1), 81, _, _, _⟩) (v := undef) rfl (by kernel_rfl) (by kernel_rfl) (by kernel_rfl) (fun _ _ _ h => h) (Or.inr ⟨by rfl, rfl⟩) hHeld ?rest13m0
  try simp only [Act.put, s_put, s_0, s_1]
  refine wpAnyH_take (i := 14) (oi := ⟨some 61, .nilCheck (.tmp 60), 0, _, _, _⟩) (v := undef) rfl (by kernel_rfl) (by kernel_rfl) (by kernel_rfl) (fun _ _ _ h => h) (Or.inr ⟨by rfl, rfl⟩) hHeld ?rest14m0
  try simp only [Act.put, s_put, s_0, s_1]
  refine wpAnyH_take (i := 15) (oi := ⟨some 62, .fieldAddr 24 (.tmp 61) 3, 0, _, _, _⟩) (v := undef) rfl (by kernel_rfl) (by kernel_rfl) (by kernel_rfl) (fun _ _ _ h => h) (Or.inr ⟨by rfl, rfl⟩) hHeld ?rest15m0
  try simp only [Act.put, s_put, s_0, s_1]
  refine wpAnyH_take (i := 16) (oi := ⟨some 63, .load 3 (.tmp 62), 3, _, _, _⟩) (v := undef) rfl (by kernel_rfl) (by kernel_rfl) (by kernel_rfl) (fun _ _ _ h => h) (Or.inr ⟨by rfl, rfl⟩) hHeld ?rest16m0
  try simp only [Act.put, s_put, s_0, s_1]
  refine wpAnyH_take (i := 17) (oi := ⟨some 64, .load 81 (.tmp 1), 81, _, _, _⟩) (v := undef) rfl (by kernel_rfl) (by kernel_rfl) (by kernel_rfl) (fun _ _ _ h => h) (Or.inr ⟨by rfl, rfl⟩) hHeld ?rest17m0
  try simp only [Act.put, s_put, s_0, s_1]
  refine wpAnyH_take (i := 18) (oi := ⟨some 65, .nilCheck (.tmp 64), 0, _, _, _⟩) (v := undef) rfl (by kernel_rfl) (by kernel_rfl) (by kernel_rfl) (fun _ _ _ h => h) (Or.inr ⟨by rfl, rfl⟩) hHeld ?rest18m0
  try simp only [Act.put, s_put, s_0, s_1]
  refine wpAnyH_take (i := 19) (oi := ⟨some 66, .fieldAddr 24 (.tmp 65) 4, 0, _, _, _⟩) (v := undef) rfl (by kernel_rfl) (by kernel_rfl) (by kernel_rfl) (fun _ _ _ h => h) (Or.inr ⟨by rfl, rfl⟩) hHeld ?rest19m0
  try simp only [Act.put, s_put, s_0, s_1]
  refine wpAnyH_take (i := 20) (oi := ⟨some 67, .load 3 (.tmp 66), 3, _, _, _⟩) (v := undef) rfl (by kernel_rfl) (by kernel_rfl) (by kernel_rfl) (fun _ _ _ h => h) (Or.inr ⟨by rfl, rfl⟩) hHeld ?rest20m0
  try simp only [Act.put, s_put, s_0, s_1]
  refine wpAnyH_take (i := 21) (oi := ⟨some 68, .call { callee := .value (.func 93), args := #[.tmp 63, .tmp 67], argTypes := #[3, 3] }, 4, _, _, _⟩) (v := undef) rfl (by kernel_rfl) (by kernel_rfl) (by kernel_rfl) (fun _ _ _ h => h) (Or.inr ⟨by rfl, rfl⟩) hHeld ?rest21m0
  try simp only [Act.put, s_put, s_0, s_1]
  refine wpAnyH_take (i := 22) (oi := ⟨some 69, .pick (.tmp 59) (.tmp 68) (.const (Value.bool false)), 4, _, _, _⟩) (v := ?v22m0) rfl (by kernel_rfl) (by kernel_rfl) (by kernel_rfl) (fun _ _ _ h => h) (Or.inl ⟨by rfl, ?hy22m0⟩) hHeld ?rest22m0
  case hy22m0 => intro w9 hSw; go_simp; (try with_reducible rfl)
  try simp only [Act.put, s_put, s_0, s_1]
  refine wpAnyH_take (i := 23) (oi := ⟨some 70, .move (.tmp 69), 4, _, _, _⟩) (v := ?v23m0) rfl (by kernel_rfl) (by kernel_rfl) (by kernel_rfl) (fun _ _ _ h => h) (Or.inl ⟨by rfl, ?hy23m0⟩) hHeld ?rest23m0
  case hy23m0 => intro w9 hSw; go_simp; (try with_reducible rfl)
  try simp only [Act.put, s_put, s_0, s_1]
  refine wpAnyH_take (i := 24) (oi := ⟨some 71, .load 81 (.tmp 1), 81, _, _, _⟩) (v := undef) rfl (by kernel_rfl) (by kernel_rfl) (by kernel_rfl) (fun _ _ _ h => h) (Or.inr ⟨by rfl, rfl⟩) hHeld ?rest24m0
  try simp only [Act.put, s_put, s_0, s_1]
  refine wpAnyH_take (i := 25) (oi := ⟨some 72, .nilCheck (.tmp 71), 0, _, _, _⟩) (v := undef) rfl (by kernel_rfl) (by kernel_rfl) (by kernel_rfl) (fun _ _ _ h => h) (Or.inr ⟨by rfl, rfl⟩) hHeld ?rest25m0
  try simp only [Act.put, s_put, s_0, s_1]
  refine wpAnyH_take (i := 26) (oi := ⟨some 73, .fieldAddr 24 (.tmp 72) 5, 0, _, _, _⟩) (v := undef) rfl (by kernel_rfl) (by kernel_rfl) (by kernel_rfl) (fun _ _ _ h => h) (Or.inr ⟨by rfl, rfl⟩) hHeld ?rest26m0
  try simp only [Act.put, s_put, s_0, s_1]
  refine wpAnyH_take (i := 27) (oi := ⟨some 74, .load 22 (.tmp 73), 22, _, _, _⟩) (v := undef) rfl (by kernel_rfl) (by kernel_rfl) (by kernel_rfl) (fun _ _ _ h => h) (Or.inr ⟨by rfl, rfl⟩) hHeld ?rest27m0
  try simp only [Act.put, s_put, s_0, s_1]
  refine wpAnyH_take (i := 28) (oi := ⟨some 75, .call { callee := .builtin Builtin.len, args := #[.tmp 74], argTypes := #[22] }, 3, _, _, _⟩) (v := undef) rfl (by kernel_rfl) (by kernel_rfl) (by kernel_rfl) (fun _ _ _ h => h) (Or.inr ⟨by rfl, rfl⟩) hHeld ?rest28m0
  try simp only [Act.put, s_put, s_0, s_1]
  refine wpAnyH_take (i := 29) (oi := ⟨some 76, .binOp BinOp.eql 3 (.tmp 75) (.const (Value.int IntKind.i64 0)) 3, 4, _, _, _⟩) (v := undef) rfl (by kernel_rfl) (by kernel_rfl) (by kernel_rfl) (fun _ _ _ h => h) (Or.inr ⟨by rfl, rfl⟩) hHeld ?rest29m0
  try simp only [Act.put, s_put, s_0, s_1]
  refine wpAnyH_take (i := 30) (oi := ⟨some 77, .pick (.tmp 70) (.tmp 76) (.const (Value.bool false)), 4, _, _, _⟩) (v := ?v30m0) rfl (by kernel_rfl) (by kernel_rfl) (by kernel_rfl) (fun _ _ _ h => h) (Or.inl ⟨by rfl, ?hy30m0⟩) hHeld ?rest30m0
  case hy30m0 => intro w9 hSw; go_simp; (try with_reducible rfl)
  try simp only [Act.put, s_put, s_0, s_1]
  refine wpAnyH_take (i := 31) (oi := ⟨some 2, .assign (.tmp 77), 4, _, _, _⟩) (v := ?v31m0) rfl (by kernel_rfl) (by kernel_rfl) (by kernel_rfl) (fun _ _ _ h => h) (Or.inl ⟨by rfl, ?hy31m0⟩) hHeld ?rest31m0
  case hy31m0 => intro w9 hSw; go_simp; (try with_reducible rfl)
  try simp only [Act.put, s_put, s_0, s_1]
  refine wpAnyH_done (by kernel_rfl) ?_ _
  refine NoPanic.normal ?_
  go_wp2
  go_ret
  exact ⟨rfl, HB.out.trans (hT.mono (by omega))⟩
set_option maxRecDepth 100000 in
set_option maxHeartbeats 2000000 in
theorem rP5_1 (x : Pt) (b o : Nat) (w : World) (hN : NodeP w b o x) (k1 : (x.k == 1) = false) (k6 : (x.k == 6) = false) (k5 : (x.k == 5) = true) (h1 : nameB x.s = true) (h2 : nameB x.t = false) : Calls Tryz.prog 74 #[.pointer (some ⟨b, o, none⟩)] w fun e w' => e = .returned (.bool false) ∧ Below w.heap.size w w' := by
  obtain ⟨A, hA⟩ : ∃ A, w.alloc (.cells #[.pointer (some ⟨b, o, none⟩)] 81) = A := ⟨_, rfl⟩
  have hB : Below w.heap.size w A := by rw [← hA]; exact (Below.refl _ w).alloc (Nat.le_refl _) _
  have hs : A.heap.size = w.heap.size + 1 := by rw [← hA]; simp
  have HN : Hid (NodeP A b o x) := hN.later hB
  have HP : Hid (Boxed A w.heap.size 81 (.pointer (some ⟨b, o, none⟩))) := by show Boxed _ _ _ _; rw [← hA]; exact Boxed.new _ _ _
  have cp := HP.out.cell
  obtain ⟨d0, d1, d2, d3, d4, d5⟩ := HN.out
  have HB : Hid (Below w.heap.size w A) := hB
  have N1 : Hid (∀ d, Calls Tryz.prog 72 #[.string x.s] d fun e w' => e = .returned (.bool true) ∧ Below d.heap.size d w') := fun d => by have := name_any x.s d; rw [h1] at this; exact this
  have N2 : Hid (∀ d, Calls Tryz.prog 72 #[.string x.t] d fun e w' => e = .returned (.bool false) ∧ Below d.heap.size d w') := fun d => by have := name_any x.t d; rw [h2] at this; exact this
  clear hB hN h1 h2 d0 d1 d2 d3 d4 d5
  go_enter Tryz.func74, Tryz.ntmps74
  have e0 := HN.out.1
  go_upto_region 6 with (fail)
  clear cp e0
  refine wp_region_noPanic ?_
  refine wp_region_held_drew (S := fun w' => Below A.heap.size A w') (by kernel_rfl) ((Below.refl _ _).drew) (fun hHeld => ?_)
  have hT : Below A.heap.size A A.drew := hHeld
  obtain ⟨d, hd⟩ : ∃ d, d = A.drew := ⟨_, rfl⟩
  rw [← hd] at hHeld hT ⊢
  clear hd
  refine wpAnyH_take (i := 0) (oi := ⟨some 47, .load 81 (.tmp 1), 81, _, _, _⟩) (v := ?v0m1) rfl (by kernel_rfl) (by kernel_rfl) (by kernel_rfl) (fun _ _ _ h => h) (Or.inl ⟨by rfl, ?hy0m1⟩) hHeld ?rest0m1
  case hy0m1 => intro w9 hSw; have cc := (Boxed.kept_of HP.out hSw (by omega)).cell; go_simp; (try with_reducible rfl)
  try simp only [Act.put, s_put, s_0, s_1]
  refine wpAnyH_take (i := 1) (oi := ⟨some 48, .nilCheck (.tmp 47), 0, _, _, _⟩) (v := ?v1m1) rfl (by kernel_rfl) (by kernel_rfl) (by kernel_rfl) (fun _ _ _ h => h) (Or.inl ⟨by rfl, ?hy1m1⟩) hHeld ?rest1m1
  case hy1m1 => intro w9 hSw; go_simp; (try with_reducible rfl)
  try simp only [Act.put, s_put, s_0, s_1]
  refine wpAnyH_take (i := 2) (oi := ⟨some 49, .fieldAddr 24 (.tmp 48) 1, 0, _, _, _⟩) (v := ?v2m1) rfl (by kernel_rfl) (by kernel_rfl) (by kernel_rfl) (fun _ _ _ h => h) (Or.inl ⟨by rfl, ?hy2m1⟩) hHeld ?rest2m1
  case hy2m1 => intro w9 hSw; go_simp; (try with_reducible rfl)
  try simp only [Act.put, s_put, s_0, s_1]
  refine wpAnyH_take (i := 3) (oi := ⟨some 50, .load 9 (.tmp 49), 9, _, _, _⟩) (v := ?v3m1) rfl (by kernel_rfl) (by kernel_rfl) (by kernel_rfl) (fun _ _ _ h => h) (Or.inl ⟨by rfl, ?hy3m1⟩) hHeld ?rest3m1
  case hy3m1 => intro w9 hSw; obtain ⟨d0, d1, d2, d3, d4, d5⟩ := HN.out.later hSw; go_simp; (try with_reducible rfl)
  try simp only [Act.put, s_put, s_0, s_1]
  refine wpAnyH_ready (rs := [4]) (by kernel_rfl) (by simp) ?_
  refine AllReadyH.cons (o := ⟨some 51, .call { callee := .value (.func 72), args := #[.tmp 50], argTypes := #[9] }, 4, _, _, _⟩) rfl (fun K hK => ?_) AllReadyH.nil
  go_simp
  refine (N1.out _).mono ?_
  rintro e x4 ⟨rfl, hN4⟩
  go_wp2_with fail
  have hT4 : Below A.heap.size A x4 := hT.trans (hN4.mono hT.size)
  refine hK.out _ _ (hHeld.trans (hN4.mono hHeld.size)) (fun _ => held_up (S' := fun w' => Below x4.heap.size x4 w') (fun w' h' => (hHeld.trans (hN4.mono hHeld.size)).trans (h'.mono (Nat.le_trans hHeld.size hN4.size))) _ _ _ _ ?_)
  clear hK K hHeld hT
  have hT : Below A.heap.size A x4 := hT4
  have hHeld : Below x4.heap.size x4 x4 := Below.refl _ _
  clear hT4 hN4
  try simp only [Act.put, s_put, s_0, s_1]
  refine wpAnyH_take (i := 5) (oi := ⟨some 52, .move (.tmp 51), 4, _, _, _⟩) (v := ?v5m1) rfl (by kernel_rfl) (by kernel_rfl) (by kernel_rfl) (fun _ _ _ h => h) (Or.inl ⟨by rfl, ?hy5m1⟩) hHeld ?rest5m1
  case hy5m1 => intro w9 hSw; go_simp; (try with_reducible rfl)
  try simp only [Act.put, s_put, s_0, s_1]
  refine wpAnyH_take (i := 6) (oi := ⟨some 53, .load 81 (.tmp 1), 81, _, _, _⟩) (v := ?v6m1) rfl (by kernel_rfl) (by kernel_rfl) (by kernel_rfl) (fun _ _ _ h => h) (Or.inl ⟨by rfl, ?hy6m1⟩) hHeld ?rest6m1
  case hy6m1 => intro w9 hSw; have cc := (Boxed.kept_of HP.out (hT.trans (hSw.mono hT.size)) (by omega)).cell; go_simp; (try with_reducible rfl)
  try simp only [Act.put, s_put, s_0, s_1]
  refine wpAnyH_take (i := 7) (oi := ⟨some 54, .nilCheck (.tmp 53), 0, _, _, _⟩) (v := ?v7m1) rfl (by kernel_rfl) (by kernel_rfl) (by kernel_rfl) (fun _ _ _ h => h) (Or.inl ⟨by rfl, ?hy7m1⟩) hHeld ?rest7m1
  case hy7m1 => intro w9 hSw; go_simp; (try with_reducible rfl)
  try simp only [Act.put, s_put, s_0, s_1]
  refine wpAnyH_take (i := 8) (oi := ⟨some 55, .fieldAddr 24 (.tmp 54) 2, 0, _, _, _⟩) (v := ?v8m1) rfl (by kernel_rfl) (by kernel_rfl) (by kernel_rfl) (fun _ _ _ h => h) (Or.inl ⟨by rfl, ?hy8m1⟩) hHeld ?rest8m1
  case hy8m1 => intro w9 hSw; go_simp; (try with_reducible rfl)
  try simp only [Act.put, s_put, s_0, s_1]
  refine wpAnyH_take (i := 9) (oi := ⟨some 56, .load 9 (.tmp 55), 9, _, _, _⟩) (v := ?v9m1) rfl (by kernel_rfl) (by kernel_rfl) (by kernel_rfl) (fun _ _ _ h => h) (Or.inl ⟨by rfl, ?hy9m1⟩) hHeld ?rest9m1
  case hy9m1 => intro w9 hSw; obtain ⟨d0, d1, d2, d3, d4, d5⟩ := HN.out.later (hT.trans (hSw.mono hT.size)); go_simp; (try with_reducible rfl)
  try simp only [Act.put, s_put, s_0, s_1]
  refine wpAnyH_ready (rs := [10]) (by kernel_rfl) (by simp) ?_
  refine AllReadyH.cons (o := ⟨some 57, .call { callee := .value (.func 72), args := #[.tmp 56], argTypes := #[9] }, 4, _, _, _⟩) rfl (fun K hK => ?_) AllReadyH.nil
  go_simp
  refine (N2.out _).mono ?_
  rintro e x10 ⟨rfl, hN10⟩
  go_wp2_with fail
  have hT10 : Below A.heap.size A x10 := hT.trans (hN10.mono hT.size)
  refine hK.out _ _ (hHeld.trans (hN10.mono hHeld.size)) (fun _ => held_up (S' := fun w' => Below x10.heap.size x10 w') (fun w' h' => (hHeld.trans (hN10.mono hHeld.size)).trans (h'.mono (Nat.le_trans hHeld.size hN10.size))) _ _ _ _ ?_)
  clear hK K hHeld hT
  have hT : Below A.heap.size A x10 := hT10
  have hHeld : Below x10.heap.size x10 x10 := Below.refl _ _
  clear hT10 hN10
  try simp only [Act.put, s_put, s_0, s_1]
  refine wpAnyH_take (i := 11) (oi := ⟨some 58, .pick (.tmp 52) (.tmp 57) (.const (Value.bool false)), 4, _, _, _⟩) (v := ?v11m1) rfl (by kernel_rfl) (by kernel_rfl) (by kernel_rfl) (fun _ _ _ h => h) (Or.inl ⟨by rfl, ?hy11m1⟩) hHeld ?rest11m1
  case hy11m1 => intro w9 hSw; go_simp; (try with_reducible rfl)
  try simp only [Act.put, s_put, s_0, s_1]
  refine wpAnyH_take (i := 12) (oi := ⟨some 59, .move (.tmp 58), 4, _, _, _⟩) (v := ?v12m1) rfl (by kernel_rfl) (by kernel_rfl) (by kernel_rfl) (fun _ _ _ h => h) (Or.inl ⟨by rfl, ?hy12m1⟩) hHeld ?rest12m1
  case hy12m1 => intro w9 hSw; go_simp; (try with_reducible rfl)
  try simp only [Act.put, s_put, s_0, s_1]
  refine wpAnyH_take (i := 13) (oi := ⟨some 60, .load 81 (.tmp 1), 81, _, _, _⟩) (v := undef) rfl (by kernel_rfl) (by kernel_rfl) (by kernel_rfl) (fun _ _ _ h => h) (Or.inr ⟨by rfl, rfl⟩) hHeld ?rest13m1
  try simp only [Act.put, s_put, s_0, s_1]
  refine wpAnyH_take (i := 14) (oi := ⟨some 61, .nilCheck (.tmp 60), 0, _, _, _⟩) (v := undef) rfl (by kernel_rfl) (by kernel_rfl) (by kernel_rfl) (fun _ _ _ h => h) (Or.inr ⟨by rfl, rfl⟩) hHeld ?rest14m1
  try simp only [Act.put, s_put, s_0, s_1]
  refine wpAnyH_take (i := 15) (oi := ⟨some 62, .fieldAddr 24 (.tmp 61) 3, 0, _, _, _⟩) (v := undef) rfl (by kernel_rfl) (by kernel_rfl) (by kernel_rfl) (fun _ _ _ h => h) (Or.inr ⟨by rfl, rfl⟩) hHeld ?rest15m1
  try simp only [Act.put, s_put, s_0, s_1]
  refine wpAnyH_take (i := 16) (oi := ⟨some 63, .load 3 (.tmp 62), 3, _, _, _⟩) (v := undef) rfl (by kernel_rfl) (by kernel_rfl) (by kernel_rfl) (fun _ _ _ h => h) (Or.inr ⟨by rfl, rfl⟩) hHeld ?rest16m1
  try simp only [Act.put, s_put, s_0, s_1]
  refine wpAnyH_take (i := 17) (oi := ⟨some 64, .load 81 (.tmp 1), 81, _, _, _⟩) (v := undef) rfl (by kernel_rfl) (by kernel_rfl) (by kernel_rfl) (fun _ _ _ h => h) (Or.inr ⟨by rfl, rfl⟩) hHeld ?rest17m1
  try simp only [Act.put, s_put, s_0, s_1]
  refine wpAnyH_take (i := 18) (oi := ⟨some 65, .nilCheck (.tmp 64), 0, _, _, _⟩) (v := undef) rfl (by kernel_rfl) (by kernel_rfl) (by kernel_rfl) (fun _ _ _ h => h) (Or.inr ⟨by rfl, rfl⟩) hHeld ?rest18m1
  try simp only [Act.put, s_put, s_0, s_1]
  refine wpAnyH_take (i := 19) (oi := ⟨some 66, .fieldAddr 24 (.tmp 65) 4, 0, _, _, _⟩) (v := undef) rfl (by kernel_rfl) (by kernel_rfl) (by kernel_rfl) (fun _ _ _ h => h) (Or.inr ⟨by rfl, rfl⟩) hHeld ?rest19m1
  try simp only [Act.put, s_put, s_0, s_1]
  refine wpAnyH_take (i := 20) (oi := ⟨some 67, .load 3 (.tmp 66), 3, _, _, _⟩) (v := undef) rfl (by kernel_rfl) (by kernel_rfl) (by kernel_rfl) (fun _ _ _ h => h) (Or.inr ⟨by rfl, rfl⟩) hHeld ?rest20m1
  try simp only [Act.put, s_put, s_0, s_1]
  refine wpAnyH_take (i := 21) (oi := ⟨some 68, .call { callee := .value (.func 93), args := #[.tmp 63, .tmp 67], argTypes := #[3, 3] }, 4, _, _, _⟩) (v := undef) rfl (by kernel_rfl) (by kernel_rfl) (by kernel_rfl) (fun _ _ _ h => h) (Or.inr ⟨by rfl, rfl⟩) hHeld ?rest21m1
  try simp only [Act.put, s_put, s_0, s_1]
  refine wpAnyH_take (i := 22) (oi := ⟨some 69, .pick (.tmp 59) (.tmp 68) (.const (Value.bool false)), 4, _, _, _⟩) (v := ?v22m1) rfl (by kernel_rfl) (by kernel_rfl) (by kernel_rfl) (fun _ _ _ h => h) (Or.inl ⟨by rfl, ?hy22m1⟩) hHeld ?rest22m1
  case hy22m1 => intro w9 hSw; go_simp; (try with_reducible rfl)
  try simp only [Act.put, s_put, s_0, s_1]
  refine wpAnyH_take (i := 23) (oi := ⟨some 70, .move (.tmp 69), 4, _, _, _⟩) (v := ?v23m1) rfl (by kernel_rfl) (by kernel_rfl) (by kernel_rfl) (fun _ _ _ h => h) (Or.inl ⟨by rfl, ?hy23m1⟩) hHeld ?rest23m1
  case hy23m1 => intro w9 hSw; go_simp; (try with_reducible rfl)
  try simp only [Act.put, s_put, s_0, s_1]
  refine wpAnyH_take (i := 24) (oi := ⟨some 71, .load 81 (.tmp 1), 81, _, _, _⟩) (v := undef) rfl (by kernel_rfl) (by kernel_rfl) (by kernel_rfl) (fun _ _ _ h => h) (Or.inr ⟨by rfl, rfl⟩) hHeld ?rest24m1
  try simp only [Act.put, s_put, s_0, s_1]
  refine wpAnyH_take (i := 25) (oi := ⟨some 72, .nilCheck (.tmp 71), 0, _, _, _⟩) (v := undef) rfl (by kernel_rfl) (by kernel_rfl) (by kernel_rfl) (fun _ _ _ h => h) (Or.inr ⟨by rfl, rfl⟩) hHeld ?rest25m1
  try simp only [Act.put, s_put, s_0, s_1]
  refine wpAnyH_take (i := 26) (oi := ⟨some 73, .fieldAddr 24 (.tmp 72) 5, 0, _, _, _⟩) (v := undef) rfl (by kernel_rfl) (by kernel_rfl) (by kernel_rfl) (fun _ _ _ h => h) (Or.inr ⟨by rfl, rfl⟩) hHeld ?rest26m1
  try simp only [Act.put, s_put, s_0, s_1]
  refine wpAnyH_take (i := 27) (oi := ⟨some 74, .load 22 (.tmp 73), 22, _, _, _⟩) (v := undef) rfl (by kernel_rfl) (by kernel_rfl) (by kernel_rfl) (fun _ _ _ h => h) (Or.inr ⟨by rfl, rfl⟩) hHeld ?rest27m1
  try simp only [Act.put, s_put, s_0, s_1]
  refine wpAnyH_take (i := 28) (oi := ⟨some 75, .call { callee := .builtin Builtin.len, args := #[.tmp 74], argTypes := #[22] }, 3, _, _, _⟩) (v := undef) rfl (by kernel_rfl) (by kernel_rfl) (by kernel_rfl) (fun _ _ _ h => h) (Or.inr ⟨by rfl, rfl⟩) hHeld ?rest28m1
  try simp only [Act.put, s_put, s_0, s_1]
  refine wpAnyH_take (i := 29) (oi := ⟨some 76, .binOp BinOp.eql 3 (.tmp 75) (.const (Value.int IntKind.i64 0)) 3, 4, _, _, _⟩) (v := undef) rfl (by kernel_rfl) (by kernel_rfl) (by kernel_rfl) (fun _ _ _ h => h) (Or.inr ⟨by rfl, rfl⟩) hHeld ?rest29m1
  try simp only [Act.put, s_put, s_0, s_1]
  refine wpAnyH_take (i := 30) (oi := ⟨some 77, .pick (.tmp 70) (.tmp 76) (.const (Value.bool false)), 4, _, _, _⟩) (v := ?v30m1) rfl (by kernel_rfl) (by kernel_rfl) (by kernel_rfl) (fun _ _ _ h => h) (Or.inl ⟨by rfl, ?hy30m1⟩) hHeld ?rest30m1
  case hy30m1 => intro w9 hSw; go_simp; (try with_reducible rfl)
  try simp only [Act.put, s_put, s_0, s_1]
  refine wpAnyH_take (i := 31) (oi := ⟨some 2, .assign (.tmp 77), 4, _, _, _⟩) (v := ?v31m1) rfl (by kernel_rfl) (by kernel_rfl) (by kernel_rfl) (fun _ _ _ h => h) (Or.inl ⟨by rfl, ?hy31m1⟩) hHeld ?rest31m1
  case hy31m1 => intro w9 hSw; go_simp; (try with_reducible rfl)
  try simp only [Act.put, s_put, s_0, s_1]
  refine wpAnyH_done (by kernel_rfl) ?_ _
  refine NoPanic.normal ?_
  go_wp2
  go_ret
  exact ⟨rfl, HB.out.trans (hT.mono (by omega))⟩
set_option maxRecDepth 100000 in
set_option maxHeartbeats 2000000 in
theorem rP5_2 (x : Pt) (b o : Nat) (w : World) (hN : NodeP w b o x) (k1 : (x.k == 1) = false) (k6 : (x.k == 6) = false) (k5 : (x.k == 5) = true) (h1 : nameB x.s = true) (h2 : nameB x.t = true) (h3 : cntB x.lo x.hi = false) : Calls Tryz.prog 74 #[.pointer (some ⟨b, o, none⟩)] w fun e w' => e = .returned (.bool false) ∧ Below w.heap.size w w' := by
  obtain ⟨A, hA⟩ : ∃ A, w.alloc (.cells #[.pointer (some ⟨b, o, none⟩)] 81) = A := ⟨_, rfl⟩
  have hB : Below w.heap.size w A := by rw [← hA]; exact (Below.refl _ w).alloc (Nat.le_refl _) _
  have hs : A.heap.size = w.heap.size + 1 := by rw [← hA]; simp
  have HN : Hid (NodeP A b o x) := hN.later hB
  have HP : Hid (Boxed A w.heap.size 81 (.pointer (some ⟨b, o, none⟩))) := by show Boxed _ _ _ _; rw [← hA]; exact Boxed.new _ _ _
  have cp := HP.out.cell
  obtain ⟨d0, d1, d2, d3, d4, d5⟩ := HN.out
  have HB : Hid (Below w.heap.size w A) := hB
  have N1 : Hid (∀ d, Calls Tryz.prog 72 #[.string x.s] d fun e w' => e = .returned (.bool true) ∧ Below d.heap.size d w') := fun d => by have := name_any x.s d; rw [h1] at this; exact this
  have N2 : Hid (∀ d, Calls Tryz.prog 72 #[.string x.t] d fun e w' => e = .returned (.bool true) ∧ Below d.heap.size d w') := fun d => by have := name_any x.t d; rw [h2] at this; exact this
  have CT : Hid (∀ d, Calls Tryz.prog 93 #[.int .i64 x.lo, .int .i64 x.hi] d fun e w' => e = .returned (.bool false) ∧ w' = d) := fun d => by have := counts_any x.lo x.hi d; rw [h3] at this; exact this
  clear hB hN h1 h2 h3 d0 d1 d2 d3 d4 d5
  go_enter Tryz.func74, Tryz.ntmps74
  have e0 := HN.out.1
  go_upto_region 6 with (fail)
  clear cp e0
  refine wp_region_noPanic ?_
  refine wp_region_held_drew (S := fun w' => Below A.heap.size A w') (by kernel_rfl) ((Below.refl _ _).drew) (fun hHeld => ?_)
  have hT : Below A.heap.size A A.drew := hHeld
  obtain ⟨d, hd⟩ : ∃ d, d = A.drew := ⟨_, rfl⟩
  rw [← hd] at hHeld hT ⊢
  clear hd
  refine wpAnyH_take (i := 0) (oi := ⟨some 47, .load 81 (.tmp 1), 81, _, _, _⟩) (v := ?v0m2) rfl (by kernel_rfl) (by kernel_rfl) (by kernel_rfl) (fun _ _ _ h => h) (Or.inl ⟨by rfl, ?hy0m2⟩) hHeld ?rest0m2
  case hy0m2 => intro w9 hSw; have cc := (Boxed.kept_of HP.out hSw (by omega)).cell; go_simp; (try with_reducible rfl)
  try simp only [Act.put, s_put, s_0, s_1]
  refine wpAnyH_take (i := 1) (oi := ⟨some 48, .nilCheck (.tmp 47), 0, _, _, _⟩) (v := ?v1m2) rfl (by kernel_rfl) (by kernel_rfl) (by kernel_rfl) (fun _ _ _ h => h) (Or.inl ⟨by rfl, ?hy1m2⟩) hHeld ?rest1m2
  case hy1m2 => intro w9 hSw; go_simp; (try with_reducible rfl)
  try simp only [Act.put, s_put, s_0, s_1]
  refine wpAnyH_take (i := 2) (oi := ⟨some 49, .fieldAddr 24 (.tmp 48) 1, 0, _, _, _⟩) (v := ?v2m2) rfl (by kernel_rfl) (by kernel_rfl) (by kernel_rfl) (fun _ _ _ h => h) (Or.inl ⟨by rfl, ?hy2m2⟩) hHeld ?rest2m2
  case hy2m2 => intro w9 hSw; go_simp; (try with_reducible rfl)
  try simp only [Act.put, s_put, s_0, s_1]
  refine wpAnyH_take (i := 3) (oi := ⟨some 50, .load 9 (.tmp 49), 9, _, _, _⟩) (v := ?v3m2) rfl (by kernel_rfl) (by kernel_rfl) (by kernel_rfl) (fun _ _ _ h => h) (Or.inl ⟨by rfl, ?hy3m2⟩) hHeld ?rest3m2
  case hy3m2 => intro w9 hSw; obtain ⟨d0, d1, d2, d3, d4, d5⟩ := HN.out.later hSw; go_simp; (try with_reducible rfl)
  try simp only [Act.put, s_put, s_0, s_1]
  refine wpAnyH_ready (rs := [4]) (by kernel_rfl) (by simp) ?_
  refine AllReadyH.cons (o := ⟨some 51, .call { callee := .value (.func 72), args := #[.tmp 50], argTypes := #[9] }, 4, _, _, _⟩) rfl (fun K hK => ?_) AllReadyH.nil
  go_simp
  refine (N1.out _).mono ?_
  rintro e x4 ⟨rfl, hN4⟩
  go_wp2_with fail
  have hT4 : Below A.heap.size A x4 := hT.trans (hN4.mono hT.size)
  refine hK.out _ _ (hHeld.trans (hN4.mono hHeld.size)) (fun _ => held_up (S' := fun w' => Below x4.heap.size x4 w') (fun w' h' => (hHeld.trans (hN4.mono hHeld.size)).trans (h'.mono (Nat.le_trans hHeld.size hN4.size))) _ _ _ _ ?_)
  clear hK K hHeld hT
  have hT : Below A.heap.size A x4 := hT4
  have hHeld : Below x4.heap.size x4 x4 := Below.refl _ _
  clear hT4 hN4
  try simp only [Act.put, s_put, s_0, s_1]
  refine wpAnyH_take (i := 5) (oi := ⟨some 52, .move (.tmp 51), 4, _, _, _⟩) (v := ?v5m2) rfl (by kernel_rfl) (by kernel_rfl) (by kernel_rfl) (fun _ _ _ h => h) (Or.inl ⟨by rfl, ?hy5m2⟩) hHeld ?rest5m2
  case hy5m2 => intro w9 hSw; go_simp; (try with_reducible rfl)
  try simp only [Act.put, s_put, s_0, s_1]
  refine wpAnyH_take (i := 6) (oi := ⟨some 53, .load 81 (.tmp 1), 81, _, _, _⟩) (v := ?v6m2) rfl (by kernel_rfl) (by kernel_rfl) (by kernel_rfl) (fun _ _ _ h => h) (Or.inl ⟨by rfl, ?hy6m2⟩) hHeld ?rest6m2
  case hy6m2 => intro w9 hSw; have cc := (Boxed.kept_of HP.out (hT.trans (hSw.mono hT.size)) (by omega)).cell; go_simp; (try with_reducible rfl)
  try simp only [Act.put, s_put, s_0, s_1]
  refine wpAnyH_take (i := 7) (oi := ⟨some 54, .nilCheck (.tmp 53), 0, _, _, _⟩) (v := ?v7m2) rfl (by kernel_rfl) (by kernel_rfl) (by kernel_rfl) (fun _ _ _ h => h) (Or.inl ⟨by rfl, ?hy7m2⟩) hHeld ?rest7m2
  case hy7m2 => intro w9 hSw; go_simp; (try with_reducible rfl)
  try simp only [Act.put, s_put, s_0, s_1]
  refine wpAnyH_take (i := 8) (oi := ⟨some 55, .fieldAddr 24 (.tmp 54) 2, 0, _, _, _⟩) (v := ?v8m2) rfl (by kernel_rfl) (by kernel_rfl) (by kernel_rfl) (fun _ _ _ h => h) (Or.inl ⟨by rfl, ?hy8m2⟩) hHeld ?rest8m2
  case hy8m2 => intro w9 hSw; go_simp; (try with_reducible rfl)
  try simp only [Act.put, s_put, s_0, s_1]
  refine wpAnyH_take (i := 9) (oi := ⟨some 56, .load 9 (.tmp 55), 9, _, _, _⟩) (v := ?v9m2) rfl (by kernel_rfl) (by kernel_rfl) (by kernel_rfl) (fun _ _ _ h => h) (Or.inl ⟨by rfl, ?hy9m2⟩) hHeld ?rest9m2
  case hy9m2 => intro w9 hSw; obtain ⟨d0, d1, d2, d3, d4, d5⟩ := HN.out.later (hT.trans (hSw.mono hT.size)); go_simp; (try with_reducible rfl)
  try simp only [Act.put, s_put, s_0, s_1]
  refine wpAnyH_ready (rs := [10]) (by kernel_rfl) (by simp) ?_
  refine AllReadyH.cons (o := ⟨some 57, .call { callee := .value (.func 72), args := #[.tmp 56], argTypes := #[9] }, 4, _, _, _⟩) rfl (fun K hK => ?_) AllReadyH.nil
  go_simp
  refine (N2.out _).mono ?_
  rintro e x10 ⟨rfl, hN10⟩
  go_wp2_with fail
  have hT10 : Below A.heap.size A x10 := hT.trans (hN10.mono hT.size)
  refine hK.out _ _ (hHeld.trans (hN10.mono hHeld.size)) (fun _ => held_up (S' := fun w' => Below x10.heap.size x10 w') (fun w' h' => (hHeld.trans (hN10.mono hHeld.size)).trans (h'.mono (Nat.le_trans hHeld.size hN10.size))) _ _ _ _ ?_)
  clear hK K hHeld hT
  have hT : Below A.heap.size A x10 := hT10
  have hHeld : Below x10.heap.size x10 x10 := Below.refl _ _
  clear hT10 hN10
  try simp only [Act.put, s_put, s_0, s_1]
  refine wpAnyH_take (i := 11) (oi := ⟨some 58, .pick (.tmp 52) (.tmp 57) (.const (Value.bool false)), 4, _, _, _⟩) (v := ?v11m2) rfl (by kernel_rfl) (by kernel_rfl) (by kernel_rfl) (fun _ _ _ h => h) (Or.inl ⟨by rfl, ?hy11m2⟩) hHeld ?rest11m2
  case hy11m2 => intro w9 hSw; go_simp; (try with_reducible rfl)
  try simp only [Act.put, s_put, s_0, s_1]
  refine wpAnyH_take (i := 12) (oi := ⟨some 59, .move (.tmp 58), 4, _, _, _⟩) (v := ?v12m2) rfl (by kernel_rfl) (by kernel_rfl) (by kernel_rfl) (fun _ _ _ h => h) (Or.inl ⟨by rfl, ?hy12m2⟩) hHeld ?rest12m2
  case hy12m2 => intro w9 hSw; go_simp; (try with_reducible rfl)
  try simp only [Act.put, s_put, s_0, s_1]
  refine wpAnyH_take (i := 13) (oi := ⟨some 60, .load 81 (.tmp 1), 81, _, _, _⟩) (v := ?v13m2) rfl (by kernel_rfl) (by kernel_rfl) (by kernel_rfl) (fun _ _ _ h => h) (Or.inl ⟨by rfl, ?hy13m2⟩) hHeld ?rest13m2
  case hy13m2 => intro w9 hSw; have cc := (Boxed.kept_of HP.out (hT.trans (hSw.mono hT.size)) (by omega)).cell; go_simp; (try with_reducible rfl)
  try simp only [Act.put, s_put, s_0, s_1]
  refine wpAnyH_take (i := 14) (oi := ⟨some 61, .nilCheck (.tmp 60), 0, _, _, _⟩) (v := ?v14m2) rfl (by kernel_rfl) (by kernel_rfl) (by kernel_rfl) (fun _ _ _ h => h) (Or.inl ⟨by rfl, ?hy14m2⟩) hHeld ?rest14m2
  case hy14m2 => intro w9 hSw; go_simp; (try with_reducible rfl)
  try simp only [Act.put, s_put, s_0, s_1]
  refine wpAnyH_take (i := 15) (oi := ⟨some 62, .fieldAddr 24 (.tmp 61) 3, 0, _, _, _⟩) (v := ?v15m2) rfl (by kernel_rfl) (by kernel_rfl) (by kernel_rfl) (fun _ _ _ h => h) (Or.inl ⟨by rfl, ?hy15m2⟩) hHeld ?rest15m2
  case hy15m2 => intro w9 hSw; go_simp; (try with_reducible rfl)
  try simp only [Act.put, s_put, s_0, s_1]
  refine wpAnyH_take (i := 16) (oi := ⟨some 63, .load 3 (.tmp 62), 3, _, _, _⟩) (v := ?v16m2) rfl (by kernel_rfl) (by kernel_rfl) (by kernel_rfl) (fun _ _ _ h => h) (Or.inl ⟨by rfl, ?hy16m2⟩) hHeld ?rest16m2
  case hy16m2 => intro w9 hSw; obtain ⟨d0, d1, d2, d3, d4, d5⟩ := HN.out.later (hT.trans (hSw.mono hT.size)); go_simp; (try with_reducible rfl)
  try simp only [Act.put, s_put, s_0, s_1]
  refine wpAnyH_take (i := 17) (oi := ⟨some 64, .load 81 (.tmp 1), 81, _, _, _⟩) (v := ?v17m2) rfl (by kernel_rfl) (by kernel_rfl) (by kernel_rfl) (fun _ _ _ h => h) (Or.inl ⟨by rfl, ?hy17m2⟩) hHeld ?rest17m2
  case hy17m2 => intro w9 hSw; have cc := (Boxed.kept_of HP.out (hT.trans (hSw.mono hT.size)) (by omega)).cell; go_simp; (try with_reducible rfl)
  try simp only [Act.put, s_put, s_0, s_1]
  refine wpAnyH_take (i := 18) (oi := ⟨some 65, .nilCheck (.tmp 64), 0, _, _, _⟩) (v := ?v18m2) rfl (by kernel_rfl) (by kernel_rfl) (by kernel_rfl) (fun _ _ _ h => h) (Or.inl ⟨by rfl, ?hy18m2⟩) hHeld ?rest18m2
  case hy18m2 => intro w9 hSw; go_simp; (try with_reducible rfl)
  try simp only [Act.put, s_put, s_0, s_1]
  refine wpAnyH_take (i := 19) (oi := ⟨some 66, .fieldAddr 24 (.tmp 65) 4, 0, _, _, _⟩) (v := ?v19m2) rfl (by kernel_rfl) (by kernel_rfl) (by kernel_rfl) (fun _ _ _ h => h) (Or.inl ⟨by rfl, ?hy19m2⟩) hHeld ?rest19m2
  case hy19m2 => intro w9 hSw; go_simp; (try with_reducible rfl)
  try simp only [Act.put, s_put, s_0, s_1]
  refine wpAnyH_take (i := 20) (oi := ⟨some 67, .load 3 (.tmp 66), 3, _, _, _⟩) (v := ?v20m2) rfl (by kernel_rfl) (by kernel_rfl) (by kernel_rfl) (fun _ _ _ h => h) (Or.inl ⟨by rfl, ?hy20m2⟩) hHeld ?rest20m2
  case hy20m2 => intro w9 hSw; obtain ⟨d0, d1, d2, d3, d4, d5⟩ := HN.out.later (hT.trans (hSw.mono hT.size)); go_simp; (try with_reducible rfl)
  try simp only [Act.put, s_put, s_0, s_1]
  refine wpAnyH_ready (rs := [21]) (by kernel_rfl) (by simp) ?_
  refine AllReadyH.cons (o := ⟨some 68, .call { callee := .value (.func 93), args := #[.tmp 63, .tmp 67], argTypes := #[3, 3] }, 4, _, _, _⟩) rfl (fun K hK => ?_) AllReadyH.nil
  go_simp
  refine (CT.out _).mono ?_
  rintro e x21 ⟨rfl, hx21⟩
  replace hx21 := hx21.symm
  subst hx21
  go_wp2_with fail
  refine hK.out _ _ hHeld (fun _ => ?_)
  clear hK K
  try simp only [Act.put, s_put, s_0, s_1]
  refine wpAnyH_take (i := 22) (oi := ⟨some 69, .pick (.tmp 59) (.tmp 68) (.const (Value.bool false)), 4, _, _, _⟩) (v := ?v22m2) rfl (by kernel_rfl) (by kernel_rfl) (by kernel_rfl) (fun _ _ _ h => h) (Or.inl ⟨by rfl, ?hy22m2⟩) hHeld ?rest22m2
  case hy22m2 => intro w9 hSw; go_simp; (try with_reducible rfl)
  try simp only [Act.put, s_put, s_0, s_1]
  refine wpAnyH_take (i := 23) (oi := ⟨some 70, .move (.tmp 69), 4, _, _, _⟩) (v := ?v23m2) rfl (by kernel_rfl) (by kernel_rfl) (by kernel_rfl) (fun _ _ _ h => h) (Or.inl ⟨by rfl, ?hy23m2⟩) hHeld ?rest23m2
  case hy23m2 => intro w9 hSw; go_simp; (try with_reducible rfl)
  try simp only [Act.put, s_put, s_0, s_1]
  refine wpAnyH_take (i := 24) (oi := ⟨some 71, .load 81 (.tmp 1), 81, _, _, _⟩) (v := undef) rfl (by kernel_rfl) (by kernel_rfl) (by kernel_rfl) (fun _ _ _ h => h) (Or.inr ⟨by rfl, rfl⟩) hHeld ?rest24m2
  try simp only [Act.put, s_put, s_0, s_1]
  refine wpAnyH_take (i := 25) (oi := ⟨some 72, .nilCheck (.tmp 71), 0, _, _, _⟩) (v := undef) rfl (by kernel_rfl) (by kernel_rfl) (by kernel_rfl) (fun _ _ _ h => h) (Or.inr ⟨by rfl, rfl⟩) hHeld ?rest25m2
  try simp only [Act.put, s_put, s_0, s_1]
  refine wpAnyH_take (i := 26) (oi := ⟨some 73, .fieldAddr 24 (.tmp 72) 5, 0, _, _, _⟩) (v := undef) rfl (by kernel_rfl) (by kernel_rfl) (by kernel_rfl) (fun _ _ _ h => h) (Or.inr ⟨by rfl, rfl⟩) hHeld ?rest26m2
  try simp only [Act.put, s_put, s_0, s_1]
  refine wpAnyH_take (i := 27) (oi := ⟨some 74, .load 22 (.tmp 73), 22, _, _, _⟩) (v := undef) rfl (by kernel_rfl) (by kernel_rfl) (by kernel_rfl) (fun _ _ _ h => h) (Or.inr ⟨by rfl, rfl⟩) hHeld ?rest27m2
  try simp only [Act.put, s_put, s_0, s_1]
  refine wpAnyH_take (i := 28) (oi := ⟨some 75, .call { callee := .builtin Builtin.len, args := #[.tmp 74], argTypes := #[22] }, 3, _, _, _⟩) (v := undef) rfl (by kernel_rfl) (by kernel_rfl) (by kernel_rfl) (fun _ _ _ h => h) (Or.inr ⟨by rfl, rfl⟩) hHeld ?rest28m2
  try simp only [Act.put, s_put, s_0, s_1]
  refine wpAnyH_take (i := 29) (oi := ⟨some 76, .binOp BinOp.eql 3 (.tmp 75) (.const (Value.int IntKind.i64 0)) 3, 4, _, _, _⟩) (v := undef) rfl (by kernel_rfl) (by kernel_rfl) (by kernel_rfl) (fun _ _ _ h => h) (Or.inr ⟨by rfl, rfl⟩) hHeld ?rest29m2
  try simp only [Act.put, s_put, s_0, s_1]
  refine wpAnyH_take (i := 30) (oi := ⟨some 77, .pick (.tmp 70) (.tmp 76) (.const (Value.bool false)), 4, _, _, _⟩) (v := ?v30m2) rfl (by kernel_rfl) (by kernel_rfl) (by kernel_rfl) (fun _ _ _ h => h) (Or.inl ⟨by rfl, ?hy30m2⟩) hHeld ?rest30m2
  case hy30m2 => intro w9 hSw; go_simp; (try with_reducible rfl)
  try simp only [Act.put, s_put, s_0, s_1]
  refine wpAnyH_take (i := 31) (oi := ⟨some 2, .assign (.tmp 77), 4, _, _, _⟩) (v := ?v31m2) rfl (by kernel_rfl) (by kernel_rfl) (by kernel_rfl) (fun _ _ _ h => h) (Or.inl ⟨by rfl, ?hy31m2⟩) hHeld ?rest31m2
  case hy31m2 => intro w9 hSw; go_simp; (try with_reducible rfl)
  try simp only [Act.put, s_put, s_0, s_1]
  refine wpAnyH_done (by kernel_rfl) ?_ _
  refine NoPanic.normal ?_
  go_wp2
  go_ret
  exact ⟨rfl, HB.out.trans (hT.mono (by omega))⟩
set_option maxRecDepth 100000 in
set_option maxHeartbeats 2000000 in
theorem rP5_3 (x : Pt) (b o : Nat) (w : World) (hN : NodeP w b o x) (k1 : (x.k == 1) = false) (k6 : (x.k == 6) = false) (k5 : (x.k == 5) = true) (h1 : nameB x.s = true) (h2 : nameB x.t = true) (h3 : cntB x.lo x.hi = true) (h5 : (((x.n : Nat) : Int) == 0) = false) : Calls Tryz.prog 74 #[.pointer (some ⟨b, o, none⟩)] w fun e w' => e = .returned (.bool false) ∧ Below w.heap.size w w' := by
  obtain ⟨A, hA⟩ : ∃ A, w.alloc (.cells #[.pointer (some ⟨b, o, none⟩)] 81) = A := ⟨_, rfl⟩
  have hB : Below w.heap.size w A := by rw [← hA]; exact (Below.refl _ w).alloc (Nat.le_refl _) _
  have hs : A.heap.size = w.heap.size + 1 := by rw [← hA]; simp
  have HN : Hid (NodeP A b o x) := hN.later hB
  have HP : Hid (Boxed A w.heap.size 81 (.pointer (some ⟨b, o, none⟩))) := by show Boxed _ _ _ _; rw [← hA]; exact Boxed.new _ _ _
  have cp := HP.out.cell
  obtain ⟨d0, d1, d2, d3, d4, d5⟩ := HN.out
  have HB : Hid (Below w.heap.size w A) := hB
  have N1 : Hid (∀ d, Calls Tryz.prog 72 #[.string x.s] d fun e w' => e = .returned (.bool true) ∧ Below d.heap.size d w') := fun d => by have := name_any x.s d; rw [h1] at this; exact this
  have N2 : Hid (∀ d, Calls Tryz.prog 72 #[.string x.t] d fun e w' => e = .returned (.bool true) ∧ Below d.heap.size d w') := fun d => by have := name_any x.t d; rw [h2] at this; exact this
  have CT : Hid (∀ d, Calls Tryz.prog 93 #[.int .i64 x.lo, .int .i64 x.hi] d fun e w' => e = .returned (.bool true) ∧ w' = d) := fun d => by have := counts_any x.lo x.hi d; rw [h3] at this; exact this
  clear hB hN h1 h2 h3 d0 d1 d2 d3 d4 d5
  go_enter Tryz.func74, Tryz.ntmps74
  have e0 := HN.out.1
  go_upto_region 6 with (fail)
  clear cp e0
  refine wp_region_noPanic ?_
  refine wp_region_held_drew (S := fun w' => Below A.heap.size A w') (by kernel_rfl) ((Below.refl _ _).drew) (fun hHeld => ?_)
  have hT : Below A.heap.size A A.drew := hHeld
  obtain ⟨d, hd⟩ : ∃ d, d = A.drew := ⟨_, rfl⟩
  rw [← hd] at hHeld hT ⊢
  clear hd
  refine wpAnyH_take (i := 0) (oi := ⟨some 47, .load 81 (.tmp 1), 81, _, _, _⟩) (v := ?v0m3) rfl (by kernel_rfl) (by kernel_rfl) (by kernel_rfl) (fun _ _ _ h => h) (Or.inl ⟨by rfl, ?hy0m3⟩) hHeld ?rest0m3
  case hy0m3 => intro w9 hSw; have cc := (Boxed.kept_of HP.out hSw (by omega)).cell; go_simp; (try with_reducible rfl)
  try simp only [Act.put, s_put, s_0, s_1]
  refine wpAnyH_take (i := 1) (oi := ⟨some 48, .nilCheck (.tmp 47), 0, _, _, _⟩) (v := ?v1m3) rfl (by kernel_rfl) (by kernel_rfl) (by kernel_rfl) (fun _ _ _ h => h) (Or.inl ⟨by rfl, ?hy1m3⟩) hHeld ?rest1m3
  case hy1m3 => intro w9 hSw; go_simp; (try with_reducible rfl)
  try simp only [Act.put, s_put, s_0, s_1]
  refine wpAnyH_take (i := 2) (oi := ⟨some 49, .fieldAddr 24 (.tmp 48) 1, 0, _, _, _⟩) (v := ?v2m3) rfl (by kernel_rfl) (by kernel_rfl) (by kernel_rfl) (fun _ _ _ h => h) (Or.inl ⟨by rfl, ?hy2m3⟩) hHeld ?rest2m3
  case hy2m3 => intro w9 hSw; go_simp; (try with_reducible rfl)
  try simp only [Act.put, s_put, s_0, s_1]
  refine wpAnyH_take (i := 3) (oi := ⟨some 50, .load 9 (.tmp 49), 9, _, _, _⟩) (v := ?v3m3) rfl (by kernel_rfl) (by kernel_rfl) (by kernel_rfl) (fun _ _ _ h => h) (Or.inl ⟨by rfl, ?hy3m3⟩) hHeld ?rest3m3
  case hy3m3 => intro w9 hSw; obtain ⟨d0, d1, d2, d3, d4, d5⟩ := HN.out.later hSw; go_simp; (try with_reducible rfl)
  try simp only [Act.put, s_put, s_0, s_1]
  refine wpAnyH_ready (rs := [4]) (by kernel_rfl) (by simp) ?_
  refine AllReadyH.cons (o := ⟨some 51, .call { callee := .value (.func 72), args := #[.tmp 50], argTypes := #[9] }, 4, _, _, _⟩) rfl (fun K hK => ?_) AllReadyH.nil
  go_simp
  refine (N1.out _).mono ?_
  rintro e x4 ⟨rfl, hN4⟩
  go_wp2_with fail
  have hT4 : Below A.heap.size A x4 := hT.trans (hN4.mono hT.size)
  refine hK.out _ _ (hHeld.trans (hN4.mono hHeld.size)) (fun _ => held_up (S' := fun w' => Below x4.heap.size x4 w') (fun w' h' => (hHeld.trans (hN4.mono hHeld.size)).trans (h'.mono (Nat.le_trans hHeld.size hN4.size))) _ _ _ _ ?_)
  clear hK K hHeld hT
  have hT : Below A.heap.size A x4 := hT4
  have hHeld : Below x4.heap.size x4 x4 := Below.refl _ _
  clear hT4 hN4
  try simp only [Act.put, s_put, s_0, s_1]
  refine wpAnyH_take (i := 5) (oi := ⟨some 52, .move (.tmp 51), 4, _, _, _⟩) (v := ?v5m3) rfl (by kernel_rfl) (by kernel_rfl) (by kernel_rfl) (fun _ _ _ h => h) (Or.inl ⟨by rfl, ?hy5m3⟩) hHeld ?rest5m3
  case hy5m3 => intro w9 hSw; go_simp; (try with_reducible rfl)
  try simp only [Act.put, s_put, s_0, s_1]
  refine wpAnyH_take (i := 6) (oi := ⟨some 53, .load 81 (.tmp 1), 81, _, _, _⟩) (v := ?v6m3) rfl (by kernel_rfl) (by kernel_rfl) (by kernel_rfl) (fun _ _ _ h => h) (Or.inl ⟨by rfl, ?hy6m3⟩) hHeld ?rest6m3
  case hy6m3 => intro w9 hSw; have cc := (Boxed.kept_of HP.out (hT.trans (hSw.mono hT.size)) (by omega)).cell; go_simp; (try with_reducible rfl)
  try simp only [Act.put, s_put, s_0, s_1]
  refine wpAnyH_take (i := 7) (oi := ⟨some 54, .nilCheck (.tmp 53), 0, _, _, _⟩) (v := ?v7m3) rfl (by kernel_rfl) (by kernel_rfl) (by kernel_rfl) (fun _ _ _ h => h) (Or.inl ⟨by rfl, ?hy7m3⟩) hHeld ?rest7m3
  case hy7m3 => intro w9 hSw; go_simp; (try with_reducible rfl)
  try simp only [Act.put, s_put, s_0, s_1]
  refine wpAnyH_take (i := 8) (oi := ⟨some 55, .fieldAddr 24 (.tmp 54) 2, 0, _, _, _⟩) (v := ?v8m3) rfl (by kernel_rfl) (by kernel_rfl) (by kernel_rfl) (fun _ _ _ h => h) (Or.inl ⟨by rfl, ?hy8m3⟩) hHeld ?rest8m3
  case hy8m3 => intro w9 hSw; go_simp; (try with_reducible rfl)
  try simp only [Act.put, s_put, s_0, s_1]
  refine wpAnyH_take (i := 9) (oi := ⟨some 56, .load 9 (.tmp 55), 9, _, _, _⟩) (v := ?v9m3) rfl (by kernel_rfl) (by kernel_rfl) (by kernel_rfl) (fun _ _ _ h => h) (Or.inl ⟨by rfl, ?hy9m3⟩) hHeld ?rest9m3
  case hy9m3 => intro w9 hSw; obtain ⟨d0, d1, d2, d3, d4, d5⟩ := HN.out.later (hT.trans (hSw.mono hT.size)); go_simp; (try with_reducible rfl)
  try simp only [Act.put, s_put, s_0, s_1]
  refine wpAnyH_ready (rs := [10]) (by kernel_rfl) (by simp) ?_
  refine AllReadyH.cons (o := ⟨some 57, .call { callee := .value (.func 72), args := #[.tmp 56], argTypes := #[9] }, 4, _, _, _⟩) rfl (fun K hK => ?_) AllReadyH.nil
  go_simp
  refine (N2.out _).mono ?_
  rintro e x10 ⟨rfl, hN10⟩
  go_wp2_with fail
  have hT10 : Below A.heap.size A x10 := hT.trans (hN10.mono hT.size)
  refine hK.out _ _ (hHeld.trans (hN10.mono hHeld.size)) (fun _ => held_up (S' := fun w' => Below x10.heap.size x10 w') (fun w' h' => (hHeld.trans (hN10.mono hHeld.size)).trans (h'.mono (Nat.le_trans hHeld.size hN10.size))) _ _ _ _ ?_)
  clear hK K hHeld hT
  have hT : Below A.heap.size A x10 := hT10
  have hHeld : Below x10.heap.size x10 x10 := Below.refl _ _
  clear hT10 hN10
  try simp only [Act.put, s_put, s_0, s_1]
  refine wpAnyH_take (i := 11) (oi := ⟨some 58, .pick (.tmp 52) (.tmp 57) (.const (Value.bool false)), 4, _, _, _⟩) (v := ?v11m3) rfl (by kernel_rfl) (by kernel_rfl) (by kernel_rfl) (fun _ _ _ h => h) (Or.inl ⟨by rfl, ?hy11m3⟩) hHeld ?rest11m3
  case hy11m3 => intro w9 hSw; go_simp; (try with_reducible rfl)
  try simp only [Act.put, s_put, s_0, s_1]
  refine wpAnyH_take (i := 12) (oi := ⟨some 59, .move (.tmp 58), 4, _, _, _⟩) (v := ?v12m3) rfl (by kernel_rfl) (by kernel_rfl) (by kernel_rfl) (fun _ _ _ h => h) (Or.inl ⟨by rfl, ?hy12m3⟩) hHeld ?rest12m3
  case hy12m3 => intro w9 hSw; go_simp; (try with_reducible rfl)
  try simp only [Act.put, s_put, s_0, s_1]
  refine wpAnyH_take (i := 13) (oi := ⟨some 60, .load 81 (.tmp 1), 81, _, _, _⟩) (v := ?v13m3) rfl (by kernel_rfl) (by kernel_rfl) (by kernel_rfl) (fun _ _ _ h => h) (Or.inl ⟨by rfl, ?hy13m3⟩) hHeld ?rest13m3
  case hy13m3 => intro w9 hSw; have cc := (Boxed.kept_of HP.out (hT.trans (hSw.mono hT.size)) (by omega)).cell; go_simp; (try with_reducible rfl)
  try simp only [Act.put, s_put, s_0, s_1]
  refine wpAnyH_take (i := 14) (oi := ⟨some 61, .nilCheck (.tmp 60), 0, _, _, _⟩) (v := ?v14m3) rfl (by kernel_rfl) (by kernel_rfl) (by kernel_rfl) (fun _ _ _ h => h) (Or.inl ⟨by rfl, ?hy14m3⟩) hHeld ?rest14m3
  case hy14m3 => intro w9 hSw; go_simp; (try with_reducible rfl)
  try simp only [Act.put, s_put, s_0, s_1]
  refine wpAnyH_take (i := 15) (oi := ⟨some 62, .fieldAddr 24 (.tmp 61) 3, 0, _, _, _⟩) (v := ?v15m3) rfl (by kernel_rfl) (by kernel_rfl) (by kernel_rfl) (fun _ _ _ h => h) (Or.inl ⟨by rfl, ?hy15m3⟩) hHeld ?rest15m3
  case hy15m3 => intro w9 hSw; go_simp; (try with_reducible rfl)
  try simp only [Act.put, s_put, s_0, s_1]
  refine wpAnyH_take (i := 16) (oi := ⟨some 63, .load 3 (.tmp 62), 3, _, _, _⟩) (v := ?v16m3) rfl (by kernel_rfl) (by kernel_rfl) (by kernel_rfl) (fun _ _ _ h => h) (Or.inl ⟨by rfl, ?hy16m3⟩) hHeld ?rest16m3
  case hy16m3 => intro w9 hSw; obtain ⟨d0, d1, d2, d3, d4, d5⟩ := HN.out.later (hT.trans (hSw.mono hT.size)); go_simp; (try with_reducible rfl)
  try simp only [Act.put, s_put, s_0, s_1]
  refine wpAnyH_take (i := 17) (oi := ⟨some 64, .load 81 (.tmp 1), 81, _, _, _⟩) (v := ?v17m3) rfl (by kernel_rfl) (by kernel_rfl) (by kernel_rfl) (fun _ _ _ h => h) (Or.inl ⟨by rfl, ?hy17m3⟩) hHeld ?rest17m3
  case hy17m3 => intro w9 hSw; have cc := (Boxed.kept_of HP.out (hT.trans (hSw.mono hT.size)) (by omega)).cell; go_simp; (try with_reducible rfl)
  try simp only [Act.put, s_put, s_0, s_1]
  refine wpAnyH_take (i := 18) (oi := ⟨some 65, .nilCheck (.tmp 64), 0, _, _, _⟩) (v := ?v18m3) rfl (by kernel_rfl) (by kernel_rfl) (by kernel_rfl) (fun _ _ _ h => h) (Or.inl ⟨by rfl, ?hy18m3⟩) hHeld ?rest18m3
  case hy18m3 => intro w9 hSw; go_simp; (try with_reducible rfl)
  try simp only [Act.put, s_put, s_0, s_1]
  refine wpAnyH_take (i := 19) (oi := ⟨some 66, .fieldAddr 24 (.tmp 65) 4, 0, _, _, _⟩) (v := ?v19m3) rfl (by kernel_rfl) (by kernel_rfl) (by kernel_rfl) (fun _ _ _ h => h) (Or.inl ⟨by rfl, ?hy19m3⟩) hHeld ?rest19m3
  case hy19m3 => intro w9 hSw; go_simp; (try with_reducible rfl)
  try simp only [Act.put, s_put, s_0, s_1]
  refine wpAnyH_take (i := 20) (oi := ⟨some 67, .load 3 (.tmp 66), 3, _, _, _⟩) (v := ?v20m3) rfl (by kernel_rfl) (by kernel_rfl) (by kernel_rfl) (fun _ _ _ h => h) (Or.inl ⟨by rfl, ?hy20m3⟩) hHeld ?rest20m3
  case hy20m3 => intro w9 hSw; obtain ⟨d0, d1, d2, d3, d4, d5⟩ := HN.out.later (hT.trans (hSw.mono hT.size)); go_simp; (try with_reducible rfl)
  try simp only [Act.put, s_put, s_0, s_1]
  refine wpAnyH_ready (rs := [21]) (by kernel_rfl) (by simp) ?_
  refine AllReadyH.cons (o := ⟨some 68, .call { callee := .value (.func 93), args := #[.tmp 63, .tmp 67], argTypes := #[3, 3] }, 4, _, _, _⟩) rfl (fun K hK => ?_) AllReadyH.nil
  go_simp
  refine (CT.out _).mono ?_
  rintro e x21 ⟨rfl, hx21⟩
  replace hx21 := hx21.symm
  subst hx21
  go_wp2_with fail
  refine hK.out _ _ hHeld (fun _ => ?_)
  clear hK K
  try simp only [Act.put, s_put, s_0, s_1]
  refine wpAnyH_take (i := 22) (oi := ⟨some 69, .pick (.tmp 59) (.tmp 68) (.const (Value.bool false)), 4, _, _, _⟩) (v := ?v22m3) rfl (by kernel_rfl) (by kernel_rfl) (by kernel_rfl) (fun _ _ _ h => h) (Or.inl ⟨by rfl, ?hy22m3⟩) hHeld ?rest22m3
  case hy22m3 => intro w9 hSw; go_simp; (try with_reducible rfl)
  try simp only [Act.put, s_put, s_0, s_1]
  refine wpAnyH_take (i := 23) (oi := ⟨some 70, .move (.tmp 69), 4, _, _, _⟩) (v := ?v23m3) rfl (by kernel_rfl) (by kernel_rfl) (by kernel_rfl) (fun _ _ _ h => h) (Or.inl ⟨by rfl, ?hy23m3⟩) hHeld ?rest23m3
  case hy23m3 => intro w9 hSw; go_simp; (try with_reducible rfl)
  try simp only [Act.put, s_put, s_0, s_1]
  refine wpAnyH_take (i := 24) (oi := ⟨some 71, .load 81 (.tmp 1), 81, _, _, _⟩) (v := ?v24m3) rfl (by kernel_rfl) (by kernel_rfl) (by kernel_rfl) (fun _ _ _ h => h) (Or.inl ⟨by rfl, ?hy24m3⟩) hHeld ?rest24m3
  case hy24m3 => intro w9 hSw; have cc := (Boxed.kept_of HP.out (hT.trans (hSw.mono hT.size)) (by omega)).cell; go_simp; (try with_reducible rfl)
  try simp only [Act.put, s_put, s_0, s_1]
  refine wpAnyH_take (i := 25) (oi := ⟨some 72, .nilCheck (.tmp 71), 0, _, _, _⟩) (v := ?v25m3) rfl (by kernel_rfl) (by kernel_rfl) (by kernel_rfl) (fun _ _ _ h => h) (Or.inl ⟨by rfl, ?hy25m3⟩) hHeld ?rest25m3
  case hy25m3 => intro w9 hSw; go_simp; (try with_reducible rfl)
  try simp only [Act.put, s_put, s_0, s_1]
  refine wpAnyH_take (i := 26) (oi := ⟨some 73, .fieldAddr 24 (.tmp 72) 5, 0, _, _, _⟩) (v := ?v26m3) rfl (by kernel_rfl) (by kernel_rfl) (by kernel_rfl) (fun _ _ _ h => h) (Or.inl ⟨by rfl, ?hy26m3⟩) hHeld ?rest26m3
  case hy26m3 => intro w9 hSw; go_simp; (try with_reducible rfl)
  try simp only [Act.put, s_put, s_0, s_1]
  refine wpAnyH_take (i := 27) (oi := ⟨some 74, .load 22 (.tmp 73), 22, _, _, _⟩) (v := ?v27m3) rfl (by kernel_rfl) (by kernel_rfl) (by kernel_rfl) (fun _ _ _ h => h) (Or.inl ⟨by rfl, ?hy27m3⟩) hHeld ?rest27m3
  case hy27m3 => intro w9 hSw; obtain ⟨d0, d1, d2, d3, d4, d5⟩ := HN.out.later (hT.trans (hSw.mono hT.size)); go_simp; (try with_reducible rfl)
  try simp only [Act.put, s_put, s_0, s_1]
  refine wpAnyH_take (i := 28) (oi := ⟨some 75, .call { callee := .builtin Builtin.len, args := #[.tmp 74], argTypes := #[22] }, 3, _, _, _⟩) (v := ?v28m3) rfl (by kernel_rfl) (by kernel_rfl) (by kernel_rfl) (fun _ _ _ h => h) (Or.inl ⟨by rfl, ?hy28m3⟩) hHeld ?rest28m3
  case hy28m3 => intro w9 hSw; go_simp; (try with_reducible rfl)
  try simp only [Act.put, s_put, s_0, s_1]
  refine wpAnyH_take (i := 29) (oi := ⟨some 76, .binOp BinOp.eql 3 (.tmp 75) (.const (Value.int IntKind.i64 0)) 3, 4, _, _, _⟩) (v := ?v29m3) rfl (by kernel_rfl) (by kernel_rfl) (by kernel_rfl) (fun _ _ _ h => h) (Or.inl ⟨by rfl, ?hy29m3⟩) hHeld ?rest29m3
  case hy29m3 => intro w9 hSw; go_simp; (try with_reducible rfl)
  try simp only [Act.put, s_put, s_0, s_1]
  refine wpAnyH_take (i := 30) (oi := ⟨some 77, .pick (.tmp 70) (.tmp 76) (.const (Value.bool false)), 4, _, _, _⟩) (v := ?v30m3) rfl (by kernel_rfl) (by kernel_rfl) (by kernel_rfl) (fun _ _ _ h => h) (Or.inl ⟨by rfl, ?hy30m3⟩) hHeld ?rest30m3
  case hy30m3 => intro w9 hSw; go_simp; (try with_reducible rfl)
  try simp only [Act.put, s_put, s_0, s_1]
  refine wpAnyH_take (i := 31) (oi := ⟨some 2, .assign (.tmp 77), 4, _, _, _⟩) (v := ?v31m3) rfl (by kernel_rfl) (by kernel_rfl) (by kernel_rfl) (fun _ _ _ h => h) (Or.inl ⟨by rfl, ?hy31m3⟩) hHeld ?rest31m3
  case hy31m3 => intro w9 hSw; go_simp; (try with_reducible rfl)
  try simp only [Act.put, s_put, s_0, s_1]
  refine wpAnyH_done (by kernel_rfl) ?_ _
  refine NoPanic.normal ?_
  go_wp2
  go_ret
  exact ⟨rfl, HB.out.trans (hT.mono (by omega))⟩
set_option maxRecDepth 100000 in
set_option maxHeartbeats 2000000 in
theorem rP5_4 (x : Pt) (b o : Nat) (w : World) (hN : NodeP w b o x) (k1 : (x.k == 1) = false) (k6 : (x.k == 6) = false) (k5 : (x.k == 5) = true) (h1 : nameB x.s = true) (h2 : nameB x.t = true) (h3 : cntB x.lo x.hi = true) (h5 : (((x.n : Nat) : Int) == 0) = true) : Calls Tryz.prog 74 #[.pointer (some ⟨b, o, none⟩)] w fun e w' => e = .returned (.bool true) ∧ Below w.heap.size w w' := by
  obtain ⟨A, hA⟩ : ∃ A, w.alloc (.cells #[.pointer (some ⟨b, o, none⟩)] 81) = A := ⟨_, rfl⟩
  have hB : Below w.heap.size w A := by rw [← hA]; exact (Below.refl _ w).alloc (Nat.le_refl _) _
  have hs : A.heap.size = w.heap.size + 1 := by rw [← hA]; simp
  have HN : Hid (NodeP A b o x) := hN.later hB
  have HP : Hid (Boxed A w.heap.size 81 (.pointer (some ⟨b, o, none⟩))) := by show Boxed _ _ _ _; rw [← hA]; exact Boxed.new _ _ _
  have cp := HP.out.cell
  obtain ⟨d0, d1, d2, d3, d4, d5⟩ := HN.out
  have HB : Hid (Below w.heap.size w A) := hB
  have N1 : Hid (∀ d, Calls Tryz.prog 72 #[.string x.s] d fun e w' => e = .returned (.bool true) ∧ Below d.heap.size d w') := fun d => by have := name_any x.s d; rw [h1] at this; exact this
  have N2 : Hid (∀ d, Calls Tryz.prog 72 #[.string x.t] d fun e w' => e = .returned (.bool true) ∧ Below d.heap.size d w') := fun d => by have := name_any x.t d; rw [h2] at this; exact this
  have CT : Hid (∀ d, Calls Tryz.prog 93 #[.int .i64 x.lo, .int .i64 x.hi] d fun e w' => e = .returned (.bool true) ∧ w' = d) := fun d => by have := counts_any x.lo x.hi d; rw [h3] at this; exact this
  clear hB hN h1 h2 h3 d0 d1 d2 d3 d4 d5
  go_enter Tryz.func74, Tryz.ntmps74
  have e0 := HN.out.1
  go_upto_region 6 with (fail)
  clear cp e0
  refine wp_region_noPanic ?_
  refine wp_region_held_drew (S := fun w' => Below A.heap.size A w') (by kernel_rfl) ((Below.refl _ _).drew) (fun hHeld => ?_)
  have hT : Below A.heap.size A A.drew := hHeld
  obtain ⟨d, hd⟩ : ∃ d, d = A.drew := ⟨_, rfl⟩
  rw [← hd] at hHeld hT ⊢
  clear hd
  refine wpAnyH_take (i := 0) (oi := ⟨some 47, .load 81 (.tmp 1), 81, _, _, _⟩) (v := ?v0m4) rfl (by kernel_rfl) (by kernel_rfl) (by kernel_rfl) (fun _ _ _ h => h) (Or.inl ⟨by rfl, ?hy0m4⟩) hHeld ?rest0m4
  case hy0m4 => intro w9 hSw; have cc := (Boxed.kept_of HP.out hSw (by omega)).cell; go_simp; (try with_reducible rfl)
  try simp only [Act.put, s_put, s_0, s_1]
  refine wpAnyH_take (i := 1) (oi := ⟨some 48, .nilCheck (.tmp 47), 0, _, _, _⟩) (v := ?v1m4) rfl (by kernel_rfl) (by kernel_rfl) (by kernel_rfl) (fun _ _ _ h => h) (Or.inl ⟨by rfl, ?hy1m4⟩) hHeld ?rest1m4
  case hy1m4 => intro w9 hSw; go_simp; (try with_reducible rfl)
  try simp only [Act.put, s_put, s_0, s_1]
  refine wpAnyH_take (i := 2) (oi := ⟨some 49, .fieldAddr 24 (.tmp 48) 1, 0, _, _, _⟩) (v := ?v2m4) rfl (by kernel_rfl) (by kernel_rfl) (by kernel_rfl) (fun _ _ _ h => h) (Or.inl ⟨by rfl, ?hy2m4⟩) hHeld ?rest2m4
  case hy2m4 => intro w9 hSw; go_simp; (try with_reducible rfl)
  try simp only [Act.put, s_put, s_0, s_1]
  refine wpAnyH_take (i := 3) (oi := ⟨some 50, .load 9 (.tmp 49), 9, _, _, _⟩) (v := ?v3m4) rfl (by kernel_rfl) (by kernel_rfl) (by kernel_rfl) (fun _ _ _ h => h) (Or.inl ⟨by rfl, ?hy3m4⟩) hHeld ?rest3m4
  case hy3m4 => intro w9 hSw; obtain ⟨d0, d1, d2, d3, d4, d5⟩ := HN.out.later hSw; go_simp; (try with_reducible rfl)
  try simp only [Act.put, s_put, s_0, s_1]
  refine wpAnyH_ready (rs := [4]) (by kernel_rfl) (by simp) ?_
  refine AllReadyH.cons (o := ⟨some 51, .call { callee := .value (.func 72), args := #[.tmp 50], argTypes := #[9] }, 4, _, _, _⟩) rfl (fun K hK => ?_) AllReadyH.nil
  go_simp
  refine (N1.out _).mono ?_
  rintro e x4 ⟨rfl, hN4⟩
  go_wp2_with fail
  have hT4 : Below A.heap.size A x4 := hT.trans (hN4.mono hT.size)
  refine hK.out _ _ (hHeld.trans (hN4.mono hHeld.size)) (fun _ => held_up (S' := fun w' => Below x4.heap.size x4 w') (fun w' h' => (hHeld.trans (hN4.mono hHeld.size)).trans (h'.mono (Nat.le_trans hHeld.size hN4.size))) _ _ _ _ ?_)
  clear hK K hHeld hT
  have hT : Below A.heap.size A x4 := hT4
  have hHeld : Below x4.heap.size x4 x4 := Below.refl _ _
  clear hT4 hN4
  try simp only [Act.put, s_put, s_0, s_1]
  refine wpAnyH_take (i := 5) (oi := ⟨some 52, .move (.tmp 51), 4, _, _, _⟩) (v := ?v5m4) rfl (by kernel_rfl) (by kernel_rfl) (by kernel_rfl) (fun _ _ _ h => h) (Or.inl ⟨by rfl, ?hy5m4⟩) hHeld ?rest5m4
  case hy5m4 => intro w9 hSw; go_simp; (try with_reducible rfl)
  try simp only [Act.put, s_put, s_0, s_1]
  refine wpAnyH_take (i := 6) (oi := ⟨some 53, .load 81 (.tmp 1), 81, _, _, _⟩) (v := ?v6m4) rfl (by kernel_rfl) (by kernel_rfl) (by kernel_rfl) (fun _ _ _ h => h) (Or.inl ⟨by rfl, ?hy6m4⟩) hHeld ?rest6m4
  case hy6m4 => intro w9 hSw; have cc := (Boxed.kept_of HP.out (hT.trans (hSw.mono hT.size)) (by omega)).cell; go_simp; (try with_reducible rfl)
  try simp only [Act.put, s_put, s_0, s_1]
  refine wpAnyH_take (i := 7) (oi := ⟨some 54, .nilCheck (.tmp 53), 0, _, _, _⟩) (v := ?v7m4) rfl (by kernel_rfl) (by kernel_rfl) (by kernel_rfl) (fun _ _ _ h => h) (Or.inl ⟨by rfl, ?hy7m4⟩) hHeld ?rest7m4
  case hy7m4 => intro w9 hSw; go_simp; (try with_reducible rfl)
  try simp only [Act.put, s_put, s_0, s_1]
  refine wpAnyH_take (i := 8) (oi := ⟨some 55, .fieldAddr 24 (.tmp 54) 2, 0, _, _, _⟩) (v := ?v8m4) rfl (by kernel_rfl) (by kernel_rfl) (by kernel_rfl) (fun _ _ _ h => h) (Or.inl ⟨by rfl, ?hy8m4⟩) hHeld ?rest8m4
  case hy8m4 => intro w9 hSw; go_simp; (try with_reducible rfl)
  try simp only [Act.put, s_put, s_0, s_1]
  refine wpAnyH_take (i := 9) (oi := ⟨some 56, .load 9 (.tmp 55), 9, _, _, _⟩) (v := ?v9m4) rfl (by kernel_rfl) (by kernel_rfl) (by kernel_rfl) (fun _ _ _ h => h) (Or.inl ⟨by rfl, ?hy9m4⟩) hHeld ?rest9m4
  case hy9m4 => intro w9 hSw; obtain ⟨d0, d1, d2, d3, d4, d5⟩ := HN.out.later (hT.trans (hSw.mono hT.size)); go_simp; (try with_reducible rfl)
  try simp only [Act.put, s_put, s_0, s_1]
  refine wpAnyH_ready (rs := [10]) (by kernel_rfl) (by simp) ?_
  refine AllReadyH.cons (o := ⟨some 57, .call { callee := .value (.func 72), args := #[.tmp 56], argTypes := #[9] }, 4, _, _, _⟩) rfl (fun K hK => ?_) AllReadyH.nil
  go_simp
  refine (N2.out _).mono ?_
  rintro e x10 ⟨rfl, hN10⟩
  go_wp2_with fail
  have hT10 : Below A.heap.size A x10 := hT.trans (hN10.mono hT.size)
  refine hK.out _ _ (hHeld.trans (hN10.mono hHeld.size)) (fun _ => held_up (S' := fun w' => Below x10.heap.size x10 w') (fun w' h' => (hHeld.trans (hN10.mono hHeld.size)).trans (h'.mono (Nat.le_trans hHeld.size hN10.size))) _ _ _ _ ?_)
  clear hK K hHeld hT
  have hT : Below A.heap.size A x10 := hT10
  have hHeld : Below x10.heap.size x10 x10 := Below.refl _ _
  clear hT10 hN10
  try simp only [Act.put, s_put, s_0, s_1]
  refine wpAnyH_take (i := 11) (oi := ⟨some 58, .pick (.tmp 52) (.tmp 57) (.const (Value.bool false)), 4, _, _, _⟩) (v := ?v11m4) rfl (by kernel_rfl) (by kernel_rfl) (by kernel_rfl) (fun _ _ _ h => h) (Or.inl ⟨by rfl, ?hy11m4⟩) hHeld ?rest11m4
  case hy11m4 => intro w9 hSw; go_simp; (try with_reducible rfl)
  try simp only [Act.put, s_put, s_0, s_1]
  refine wpAnyH_take (i := 12) (oi := ⟨some 59, .move (.tmp 58), 4, _, _, _⟩) (v := ?v12m4) rfl (by kernel_rfl) (by kernel_rfl) (by kernel_rfl) (fun _ _ _ h => h) (Or.inl ⟨by rfl, ?hy12m4⟩) hHeld ?rest12m4
  case hy12m4 => intro w9 hSw; go_simp; (try with_reducible rfl)
  try simp only [Act.put, s_put, s_0, s_1]
  refine wpAnyH_take (i := 13) (oi := ⟨some 60, .load 81 (.tmp 1), 81, _, _, _⟩) (v := ?v13m4) rfl (by kernel_rfl) (by kernel_rfl) (by kernel_rfl) (fun _ _ _ h => h) (Or.inl ⟨by rfl, ?hy13m4⟩) hHeld ?rest13m4
  case hy13m4 => intro w9 hSw; have cc := (Boxed.kept_of HP.out (hT.trans (hSw.mono hT.size)) (by omega)).cell; go_simp; (try with_reducible rfl)
  try simp only [Act.put, s_put, s_0, s_1]
  refine wpAnyH_take (i := 14) (oi := ⟨some 61, .nilCheck (.tmp 60), 0, _, _, _⟩) (v := ?v14m4) rfl (by kernel_rfl) (by kernel_rfl) (by kernel_rfl) (fun _ _ _ h => h) (Or.inl ⟨by rfl, ?hy14m4⟩) hHeld ?rest14m4
  case hy14m4 => intro w9 hSw; go_simp; (try with_reducible rfl)
  try simp only [Act.put, s_put, s_0, s_1]
  refine wpAnyH_take (i := 15) (oi := ⟨some 62, .fieldAddr 24 (.tmp 61) 3, 0, _, _, _⟩) (v := ?v15m4) rfl (by kernel_rfl) (by kernel_rfl) (by kernel_rfl) (fun _ _ _ h => h) (Or.inl ⟨by rfl, ?hy15m4⟩) hHeld ?rest15m4
  case hy15m4 => intro w9 hSw; go_simp; (try with_reducible rfl)
  try simp only [Act.put, s_put, s_0, s_1]
  refine wpAnyH_take (i := 16) (oi := ⟨some 63, .load 3 (.tmp 62), 3, _, _, _⟩) (v := ?v16m4) rfl (by kernel_rfl) (by kernel_rfl) (by kernel_rfl) (fun _ _ _ h => h) (Or.inl ⟨by rfl, ?hy16m4⟩) hHeld ?rest16m4
  case hy16m4 => intro w9 hSw; obtain ⟨d0, d1, d2, d3, d4, d5⟩ := HN.out.later (hT.trans (hSw.mono hT.size)); go_simp; (try with_reducible rfl)
  try simp only [Act.put, s_put, s_0, s_1]
  refine wpAnyH_take (i := 17) (oi := ⟨some 64, .load 81 (.tmp 1), 81, _, _, _⟩) (v := ?v17m4) rfl (by kernel_rfl) (by kernel_rfl) (by kernel_rfl) (fun _ _ _ h => h) (Or.inl ⟨by rfl, ?hy17m4⟩) hHeld ?rest17m4
  case hy17m4 => intro w9 hSw; have cc := (Boxed.kept_of HP.out (hT.trans (hSw.mono hT.size)) (by omega)).cell; go_simp; (try with_reducible rfl)
  try simp only [Act.put, s_put, s_0, s_1]
  refine wpAnyH_take (i := 18) (oi := ⟨some 65, .nilCheck (.tmp 64), 0, _, _, _⟩) (v := ?v18m4) rfl (by kernel_rfl) (by kernel_rfl) (by kernel_rfl) (fun _ _ _ h => h) (Or.inl ⟨by rfl, ?hy18m4⟩) hHeld ?rest18m4
  case hy18m4 => intro w9 hSw; go_simp; (try with_reducible rfl)
  try simp only [Act.put, s_put, s_0, s_1]
  refine wpAnyH_take (i := 19) (oi := ⟨some 66, .fieldAddr 24 (.tmp 65) 4, 0, _, _, _⟩) (v := ?v19m4) rfl (by kernel_rfl) (by kernel_rfl) (by kernel_rfl) (fun _ _ _ h => h) (Or.inl ⟨by rfl, ?hy19m4⟩) hHeld ?rest19m4
  case hy19m4 => intro w9 hSw; go_simp; (try with_reducible rfl)
  try simp only [Act.put, s_put, s_0, s_1]
  refine wpAnyH_take (i := 20) (oi := ⟨some 67, .load 3 (.tmp 66), 3, _, _, _⟩) (v := ?v20m4) rfl (by kernel_rfl) (by kernel_rfl) (by kernel_rfl) (fun _ _ _ h => h) (Or.inl ⟨by rfl, ?hy20m4⟩) hHeld ?rest20m4
  case hy20m4 => intro w9 hSw; obtain ⟨d0, d1, d2, d3, d4, d5⟩ := HN.out.later (hT.trans (hSw.mono hT.size)); go_simp; (try with_reducible rfl)
  try simp only [Act.put, s_put, s_0, s_1]
  refine wpAnyH_ready (rs := [21]) (by kernel_rfl) (by simp) ?_
  refine AllReadyH.cons (o := ⟨some 68, .call { callee := .value (.func 93), args := #[.tmp 63, .tmp 67], argTypes := #[3, 3] }, 4, _, _, _⟩) rfl (fun K hK => ?_) AllReadyH.nil
  go_simp
  refine (CT.out _).mono ?_
  rintro e x21 ⟨rfl, hx21⟩
  replace hx21 := hx21.symm
  subst hx21
  go_wp2_with fail
  refine hK.out _ _ hHeld (fun _ => ?_)
  clear hK K
  try simp only [Act.put, s_put, s_0, s_1]
  refine wpAnyH_take (i := 22) (oi := ⟨some 69, .pick (.tmp 59) (.tmp 68) (.const (Value.bool false)), 4, _, _, _⟩) (v := ?v22m4) rfl (by kernel_rfl) (by kernel_rfl) (by kernel_rfl) (fun _ _ _ h => h) (Or.inl ⟨by rfl, ?hy22m4⟩) hHeld ?rest22m4
  case hy22m4 => intro w9 hSw; go_simp; (try with_reducible rfl)
  try simp only [Act.put, s_put, s_0, s_1]
  refine wpAnyH_take (i := 23) (oi := ⟨some 70, .move (.tmp 69), 4, _, _, _⟩) (v := ?v23m4) rfl (by kernel_rfl) (by kernel_rfl) (by kernel_rfl) (fun _ _ _ h => h) (Or.inl ⟨by rfl, ?hy23m4⟩) hHeld ?rest23m4
  case hy23m4 => intro w9 hSw; go_simp; (try with_reducible rfl)
  try simp only [Act.put, s_put, s_0, s_1]
  refine wpAnyH_take (i := 24) (oi := ⟨some 71, .load 81 (.tmp 1), 81, _, _, _⟩) (v := ?v24m4) rfl (by kernel_rfl) (by kernel_rfl) (by kernel_rfl) (fun _ _ _ h => h) (Or.inl ⟨by rfl, ?hy24m4⟩) hHeld ?rest24m4
  case hy24m4 => intro w9 hSw; have cc := (Boxed.kept_of HP.out (hT.trans (hSw.mono hT.size)) (by omega)).cell; go_simp; (try with_reducible rfl)
  try simp only [Act.put, s_put, s_0, s_1]
  refine wpAnyH_take (i := 25) (oi := ⟨some 72, .nilCheck (.tmp 71), 0, _, _, _⟩) (v := ?v25m4) rfl (by kernel_rfl) (by kernel_rfl) (by kernel_rfl) (fun _ _ _ h => h) (Or.inl ⟨by rfl, ?hy25m4⟩) hHeld ?rest25m4
  case hy25m4 => intro w9 hSw; go_simp; (try with_reducible rfl)
  try simp only [Act.put, s_put, s_0, s_1]
  refine wpAnyH_take (i := 26) (oi := ⟨some 73, .fieldAddr 24 (.tmp 72) 5, 0, _, _, _⟩) (v := ?v26m4) rfl (by kernel_rfl) (by kernel_rfl) (by kernel_rfl) (fun _ _ _ h => h) (Or.inl ⟨by rfl, ?hy26m4⟩) hHeld ?rest26m4
  case hy26m4 => intro w9 hSw; go_simp; (try with_reducible rfl)
  try simp only [Act.put, s_put, s_0, s_1]
  refine wpAnyH_take (i := 27) (oi := ⟨some 74, .load 22 (.tmp 73), 22, _, _, _⟩) (v := ?v27m4) rfl (by kernel_rfl) (by kernel_rfl) (by kernel_rfl) (fun _ _ _ h => h) (Or.inl ⟨by rfl, ?hy27m4⟩) hHeld ?rest27m4
  case hy27m4 => intro w9 hSw; obtain ⟨d0, d1, d2, d3, d4, d5⟩ := HN.out.later (hT.trans (hSw.mono hT.size)); go_simp; (try with_reducible rfl)
  try simp only [Act.put, s_put, s_0, s_1]
  refine wpAnyH_take (i := 28) (oi := ⟨some 75, .call { callee := .builtin Builtin.len, args := #[.tmp 74], argTypes := #[22] }, 3, _, _, _⟩) (v := ?v28m4) rfl (by kernel_rfl) (by kernel_rfl) (by kernel_rfl) (fun _ _ _ h => h) (Or.inl ⟨by rfl, ?hy28m4⟩) hHeld ?rest28m4
  case hy28m4 => intro w9 hSw; go_simp; (try with_reducible rfl)
  try simp only [Act.put, s_put, s_0, s_1]
  refine wpAnyH_take (i := 29) (oi := ⟨some 76, .binOp BinOp.eql 3 (.tmp 75) (.const (Value.int IntKind.i64 0)) 3, 4, _, _, _⟩) (v := ?v29m4) rfl (by kernel_rfl) (by kernel_rfl) (by kernel_rfl) (fun _ _ _ h => h) (Or.inl ⟨by rfl, ?hy29m4⟩) hHeld ?rest29m4
  case hy29m4 => intro w9 hSw; go_simp; (try with_reducible rfl)
  try simp only [Act.put, s_put, s_0, s_1]
  refine wpAnyH_take (i := 30) (oi := ⟨some 77, .pick (.tmp 70) (.tmp 76) (.const (Value.bool false)), 4, _, _, _⟩) (v := ?v30m4) rfl (by kernel_rfl) (by kernel_rfl) (by kernel_rfl) (fun _ _ _ h => h) (Or.inl ⟨by rfl, ?hy30m4⟩) hHeld ?rest30m4
  case hy30m4 => intro w9 hSw; go_simp; (try with_reducible rfl)
  try simp only [Act.put, s_put, s_0, s_1]
  refine wpAnyH_take (i := 31) (oi := ⟨some 2, .assign (.tmp 77), 4, _, _, _⟩) (v := ?v31m4) rfl (by kernel_rfl) (by kernel_rfl) (by kernel_rfl) (fun _ _ _ h => h) (Or.inl ⟨by rfl, ?hy31m4⟩) hHeld ?rest31m4
  case hy31m4 => intro w9 hSw; go_simp; (try with_reducible rfl)
  try simp only [Act.put, s_put, s_0, s_1]
  refine wpAnyH_done (by kernel_rfl) ?_ _
  refine NoPanic.normal ?_
  go_wp2
  go_ret
  exact ⟨rfl, HB.out.trans (hT.mono (by omega))⟩
theorem rP5_any (x : Pt) (b o : Nat) (w : World) (hN : NodeP w b o x) (k1 : (x.k == 1) = false) (k6 : (x.k == 6) = false) (k5 : (x.k == 5) = true) : Calls Tryz.prog 74 #[.pointer (some ⟨b, o, none⟩)] w fun e w' => e = .returned (.bool (manyB x)) ∧ Below w.heap.size w w' := by
  cases h1 : nameB x.s with
  | false => rw [show manyB x = false by simp [manyB, h1]]; exact rP5_0 x b o w hN k1 k6 k5 h1
  | true =>
    cases h2 : nameB x.t with
    | false => rw [show manyB x = false by simp [manyB, h2]]; exact rP5_1 x b o w hN k1 k6 k5 h1 h2
    | true =>
      cases h3 : cntB x.lo x.hi with
      | false => rw [show manyB x = false by simp [manyB, h3]]; exact rP5_2 x b o w hN k1 k6 k5 h1 h2 h3
      | true =>
        cases h5 : (x.n == 0) with
        | false => rw [show manyB x = false by simp [manyB, h5]]; exact rP5_3 x b o w hN k1 k6 k5 h1 h2 h3 (by simp at h5 ⊢; omega)
        | true => rw [show manyB x = true by simp [manyB, h1, h2, h3, h5]]; exact rP5_4 x b o w hN k1 k6 k5 h1 h2 h3 (by simp at h5 ⊢; omega)
end Go.Proofs.YtfnfegcjgnbgbaaGreatDoor
