/-
  typing's kind of conditions with parts: by their rules.
  typing's kind of any right condition.
  schema.Find and schema.Field (P7.1), whole; the law's own 'awake'.
  Names in memory: the map from each Var to its type's schema.
  A range over slices.Backward of texts.
  A range over slices.Backward of texts whose body may return.
-/
import Derived.Test.YtkfpgkohkhhlhaaGreatDoorRBrief
import Derived.Test.YtkfpgkohkhhlhaaGreatDoorRTypPush
import Derived.Test.YtkfpgkohkhhlhaaGreatDoorRWlNodes
import Derived.Test.YtkfpgkohkhhlhaaGreatDoorRWlAs
import Derived.Test.YtkfpgkohkhhlhaaGreatDoorRPatBase
import Derived.Deep.DeepCutAuto
import Derived.Maps.OwnSet
import Derived.Maps.OwnIn
import Derived.Maps.Views
namespace Go.Proofs.YtkfpgkohkhhlhaaGreatDoor
open Go.RowKit
set_option maxRecDepth 100000 in
set_option maxHeartbeats 4000000 in
theorem kind_A (nv : Value) (N T : Addr) (x : X) (K : Nat → Int) (w : World) (hS : Sens w N T) (hk : x.k = 3 ∨ x.k = 4 ∨ x.k = 5 ∨ x.k = 6 ∨ x.k = 7 ∨ x.k = 8) (hn : x.n ≤ 1048576) (HP : ∀ d, Below w.heap.size w d → Calls Tryz.prog 205 #[nv, x.slice] d fun r w' => ∃ a cap, r = .returned (.tuple #[.slice a x.n cap, .nilIface]) ∧ IsI w' a x.n K ∧ Below d.heap.size d w') :
    KindC nv N T x (if allB K 2 x.n = true then 2 else 0) (if allB K 2 x.n = true then 0 else 5) w := by
  obtain ⟨A, hA, hB, hs, hn0⟩ := one_box x w
  have HN : Hid (Node A w.heap.size 0 x) := hn0
  obtain ⟨a0, a1, a2, a3, a4, a5, a6⟩ := hn0.at0
  have h1' : (x.k == 1) = false := by simp; omega
  have h2' : (x.k == 2) = false := by simp; omega
  have HB : Hid (Below w.heap.size w A) := hB
  have C : Hid (Calls Tryz.prog 205 _ A _) := HP A hB
  have HS : Hid (Sens A N T) := hS.later hB
  have R : Hid (∀ d : World, Calls Tryz.prog 206 _ d _) := fun d => ruleA x.k d hk
  have M : Hid (∀ (a : Option Addr) (cap p : Nat) (d : World), IsI d a x.n K → d.cell? ⟨p, 0, none⟩ = some (.int .i64 2) → Calls Tryz.prog 220 #[.slice a x.n cap, .pointer (some ⟨p, 0, none⟩)] d fun e w' => e = .returned (.bool (allB K 2 x.n)) ∧ w' = d) := fun a cap p d h1 h2 => all1_any a x.n cap p K 2 d h1 hn h2
  clear hB hn0 hk HP hS hn 
  unfold KindC
  generalize allB K 2 x.n = q at M ⊢
  cases q
  · go_enter Tryz.func184, Tryz.ntmps184
    go_wp2_with (first
      | (go_at_call 220; refine (M.out a cap p _ (HI.out.later (bt hB3 ((Below.refl _ w3).alloc (Nat.le_refl _) _))) (cell_new w3 _ _ _ hp)).mono ?_; rintro r w4 ⟨rfl, rfl⟩)
      | (go_at_call 206; refine (R.out _).mono ?_; rintro r w3 ⟨p, rfl, hp, hB3⟩; have gT := (HS.out.later (bt hB2 hB3)).vT; have gT' := cell_new w3 (.cells #[.int .i64 2, .func (.func 220) #[] #[.pointer (some ⟨p, 0, none⟩)]] 267) _ _ gT)
      | (go_at_call 205; refine C.out.mono ?_; rintro r w2 ⟨a, cap, rfl, hI, hB2⟩; have HI : Hid (IsI w2 a x.n K) := hI; clear hI; obtain ⟨b0, b1, b2, b3, b4, b5, b6⟩ := (HN.out.later hB2).at0))
    go_quiet (fail)
    go_wp2
    exact bodyPost_ret (v := .tuple #[.int .i64 0, senV T]) (by simp [results, Tryz.results184, go_sem]) rfl ⟨_, rfl, .inr (.inr ⟨rfl, .base T, rfl, rfl⟩), bd (bt HB.out (bt hB2 (bt hB3 ((Below.refl _ _).alloc (Nat.le_refl _) _)))) _⟩
  · go_enter Tryz.func184, Tryz.ntmps184
    go_wp2_with (first
      | (go_at_call 220; refine (M.out a cap p _ (HI.out.later (bt hB3 ((Below.refl _ w3).alloc (Nat.le_refl _) _))) (cell_new w3 _ _ _ hp)).mono ?_; rintro r w4 ⟨rfl, rfl⟩)
      | (go_at_call 206; refine (R.out _).mono ?_; rintro r w3 ⟨p, rfl, hp, hB3⟩; have gT := (HS.out.later (bt hB2 hB3)).vT; have gT' := cell_new w3 (.cells #[.int .i64 2, .func (.func 220) #[] #[.pointer (some ⟨p, 0, none⟩)]] 267) _ _ gT)
      | (go_at_call 205; refine C.out.mono ?_; rintro r w2 ⟨a, cap, rfl, hI, hB2⟩; have HI : Hid (IsI w2 a x.n K) := hI; clear hI; obtain ⟨b0, b1, b2, b3, b4, b5, b6⟩ := (HN.out.later hB2).at0))
    exact bodyPost_ret (v := .tuple #[.int .i64 2, .nilIface]) (by simp [results, Tryz.results184, go_sem]) rfl ⟨.nilIface, rfl, .inl ⟨rfl, rfl⟩, bt HB.out (bt hB2 (bt hB3 ((Below.refl _ _).alloc (Nat.le_refl _) _)))⟩
set_option maxRecDepth 100000 in
set_option maxHeartbeats 4000000 in
theorem kind_B (nv : Value) (N T : Addr) (x : X) (K : Nat → Int) (w : World) (hS : Sens w N T) (hk : x.k = 9 ∨ x.k = 10) (h2 : x.n = 2) (_ : x.n ≤ 1048576) (HP : ∀ d, Below w.heap.size w d → Calls Tryz.prog 205 #[nv, x.slice] d fun r w' => ∃ a cap, r = .returned (.tuple #[.slice a x.n cap, .nilIface]) ∧ IsI w' a x.n K ∧ Below d.heap.size d w') :
    KindC nv N T x (if (decide (K 0 = K 1) || (decide (K 0 = 0) || decide (K 1 = 0))) = true then 1 else 0) (if (decide (K 0 = K 1) || (decide (K 0 = 0) || decide (K 1 = 0))) = true then 0 else 5) w := by
  obtain ⟨A, hA, hB, hs, hn0⟩ := one_box x w
  have HN : Hid (Node A w.heap.size 0 x) := hn0
  obtain ⟨a0, a1, a2, a3, a4, a5, a6⟩ := hn0.at0
  have h1' : (x.k == 1) = false := by simp; omega
  have h2' : (x.k == 2) = false := by simp; omega
  have HB : Hid (Below w.heap.size w A) := hB
  have C : Hid (Calls Tryz.prog 205 _ A _) := HP A hB
  have HS : Hid (Sens A N T) := hS.later hB
  have R : Hid (∀ d : World, Calls Tryz.prog 206 _ d _) := fun d => ruleB x.k d hk
  have M : Hid (∀ (a : Option Addr) (cap : Nat) (d : World), IsI d a x.n K → Calls Tryz.prog 214 #[.slice a x.n cap] d fun e w' => e = .returned (.bool ((decide (K 0 = K 1) || (decide (K 0 = 0) || decide (K 1 = 0))))) ∧ Below d.heap.size d w') := fun a cap d h1 => by rw [h2] at h1 ⊢; exact alike_any a cap K d h1
  clear hB hn0 hk HP hS h2
  unfold KindC
  generalize (decide (K 0 = K 1) || (decide (K 0 = 0) || decide (K 1 = 0))) = q at M ⊢
  cases q
  · go_enter Tryz.func184, Tryz.ntmps184
    go_wp2_with (first
      | (go_at_call 214; refine (M.out a cap _ (HI.out.later (bt hB3 ((Below.refl _ w3).alloc (Nat.le_refl _) _)))).mono ?_; rintro r w4 ⟨rfl, hB4⟩; have gR := cell_later (show (w3.alloc (.cells #[.int .i64 1, .func (.func 214) #[] #[]] 267)).cell? ⟨w3.heap.size, 0, none⟩ = some (.int .i64 1) by rw [World.cell?_alloc_at _ _ _ _ rfl]; rfl) hB4; have gT4 := cell_later gT' hB4)
      | (go_at_call 206; refine (R.out _).mono ?_; rintro r w3 ⟨rfl, hB3⟩; have gT := (HS.out.later (bt hB2 hB3)).vT; have gT' := cell_new w3 (.cells #[.int .i64 1, .func (.func 214) #[] #[]] 267) _ _ gT)
      | (go_at_call 205; refine C.out.mono ?_; rintro r w2 ⟨a, cap, rfl, hI, hB2⟩; have HI : Hid (IsI w2 a x.n K) := hI; clear hI; obtain ⟨b0, b1, b2, b3, b4, b5, b6⟩ := (HN.out.later hB2).at0))
    go_quiet (fail)
    go_wp2
    exact bodyPost_ret (v := .tuple #[.int .i64 0, senV T]) (by simp [results, Tryz.results184, go_sem]) rfl ⟨_, rfl, .inr (.inr ⟨rfl, .base T, rfl, rfl⟩), bd (bt HB.out (bt hB2 (bt hB3 (((Below.refl _ _).alloc (Nat.le_refl _) _).trans (hB4.mono (by simp)))))) _⟩
  · go_enter Tryz.func184, Tryz.ntmps184
    go_wp2_with (first
      | (go_at_call 214; refine (M.out a cap _ (HI.out.later (bt hB3 ((Below.refl _ w3).alloc (Nat.le_refl _) _)))).mono ?_; rintro r w4 ⟨rfl, hB4⟩; have gR := cell_later (show (w3.alloc (.cells #[.int .i64 1, .func (.func 214) #[] #[]] 267)).cell? ⟨w3.heap.size, 0, none⟩ = some (.int .i64 1) by rw [World.cell?_alloc_at _ _ _ _ rfl]; rfl) hB4; have gT4 := cell_later gT' hB4)
      | (go_at_call 206; refine (R.out _).mono ?_; rintro r w3 ⟨rfl, hB3⟩; have gT := (HS.out.later (bt hB2 hB3)).vT; have gT' := cell_new w3 (.cells #[.int .i64 1, .func (.func 214) #[] #[]] 267) _ _ gT)
      | (go_at_call 205; refine C.out.mono ?_; rintro r w2 ⟨a, cap, rfl, hI, hB2⟩; have HI : Hid (IsI w2 a x.n K) := hI; clear hI; obtain ⟨b0, b1, b2, b3, b4, b5, b6⟩ := (HN.out.later hB2).at0))
    exact bodyPost_ret (v := .tuple #[.int .i64 1, .nilIface]) (by simp [results, Tryz.results184, go_sem]) rfl ⟨.nilIface, rfl, .inl ⟨rfl, rfl⟩, bt HB.out (bt hB2 (bt hB3 (((Below.refl _ _).alloc (Nat.le_refl _) _).trans (hB4.mono (by simp)))))⟩
set_option maxRecDepth 100000 in
set_option maxHeartbeats 4000000 in
theorem kind_C (nv : Value) (N T : Addr) (x : X) (K : Nat → Int) (w : World) (hS : Sens w N T) (hk : x.k = 11 ∨ x.k = 12 ∨ x.k = 13 ∨ x.k = 14) (hn : x.n ≤ 1048576) (HP : ∀ d, Below w.heap.size w d → Calls Tryz.prog 205 #[nv, x.slice] d fun r w' => ∃ a cap, r = .returned (.tuple #[.slice a x.n cap, .nilIface]) ∧ IsI w' a x.n K ∧ Below d.heap.size d w') :
    KindC nv N T x (if (allB K 2 x.n || allB K 3 x.n) = true then 1 else 0) (if (allB K 2 x.n || allB K 3 x.n) = true then 0 else 5) w := by
  obtain ⟨A, hA, hB, hs, hn0⟩ := one_box x w
  have HN : Hid (Node A w.heap.size 0 x) := hn0
  obtain ⟨a0, a1, a2, a3, a4, a5, a6⟩ := hn0.at0
  have h1' : (x.k == 1) = false := by simp; omega
  have h2' : (x.k == 2) = false := by simp; omega
  have HB : Hid (Below w.heap.size w A) := hB
  have C : Hid (Calls Tryz.prog 205 _ A _) := HP A hB
  have HS : Hid (Sens A N T) := hS.later hB
  have R : Hid (∀ d : World, Calls Tryz.prog 206 _ d _) := fun d => ruleC x.k d hk
  have M : Hid (∀ (a : Option Addr) (cap : Nat) (d : World), IsI d a x.n K → Calls Tryz.prog 215 #[.slice a x.n cap] d fun e w' => e = .returned (.bool ((allB K 2 x.n || allB K 3 x.n))) ∧ Below d.heap.size d w') := fun a cap d h1 => by exact ordered_any a x.n cap K d h1 hn
  clear hB hn0 hk HP hS hn 
  unfold KindC
  generalize (allB K 2 x.n || allB K 3 x.n) = q at M ⊢
  cases q
  · go_enter Tryz.func184, Tryz.ntmps184
    go_wp2_with (first
      | (go_at_call 215; refine (M.out a cap _ (HI.out.later (bt hB3 ((Below.refl _ w3).alloc (Nat.le_refl _) _)))).mono ?_; rintro r w4 ⟨rfl, hB4⟩; have gR := cell_later (show (w3.alloc (.cells #[.int .i64 1, .func (.func 215) #[] #[]] 267)).cell? ⟨w3.heap.size, 0, none⟩ = some (.int .i64 1) by rw [World.cell?_alloc_at _ _ _ _ rfl]; rfl) hB4; have gT4 := cell_later gT' hB4)
      | (go_at_call 206; refine (R.out _).mono ?_; rintro r w3 ⟨rfl, hB3⟩; have gT := (HS.out.later (bt hB2 hB3)).vT; have gT' := cell_new w3 (.cells #[.int .i64 1, .func (.func 215) #[] #[]] 267) _ _ gT)
      | (go_at_call 205; refine C.out.mono ?_; rintro r w2 ⟨a, cap, rfl, hI, hB2⟩; have HI : Hid (IsI w2 a x.n K) := hI; clear hI; obtain ⟨b0, b1, b2, b3, b4, b5, b6⟩ := (HN.out.later hB2).at0))
    go_quiet (fail)
    go_wp2
    exact bodyPost_ret (v := .tuple #[.int .i64 0, senV T]) (by simp [results, Tryz.results184, go_sem]) rfl ⟨_, rfl, .inr (.inr ⟨rfl, .base T, rfl, rfl⟩), bd (bt HB.out (bt hB2 (bt hB3 (((Below.refl _ _).alloc (Nat.le_refl _) _).trans (hB4.mono (by simp)))))) _⟩
  · go_enter Tryz.func184, Tryz.ntmps184
    go_wp2_with (first
      | (go_at_call 215; refine (M.out a cap _ (HI.out.later (bt hB3 ((Below.refl _ w3).alloc (Nat.le_refl _) _)))).mono ?_; rintro r w4 ⟨rfl, hB4⟩; have gR := cell_later (show (w3.alloc (.cells #[.int .i64 1, .func (.func 215) #[] #[]] 267)).cell? ⟨w3.heap.size, 0, none⟩ = some (.int .i64 1) by rw [World.cell?_alloc_at _ _ _ _ rfl]; rfl) hB4; have gT4 := cell_later gT' hB4)
      | (go_at_call 206; refine (R.out _).mono ?_; rintro r w3 ⟨rfl, hB3⟩; have gT := (HS.out.later (bt hB2 hB3)).vT; have gT' := cell_new w3 (.cells #[.int .i64 1, .func (.func 215) #[] #[]] 267) _ _ gT)
      | (go_at_call 205; refine C.out.mono ?_; rintro r w2 ⟨a, cap, rfl, hI, hB2⟩; have HI : Hid (IsI w2 a x.n K) := hI; clear hI; obtain ⟨b0, b1, b2, b3, b4, b5, b6⟩ := (HN.out.later hB2).at0))
    exact bodyPost_ret (v := .tuple #[.int .i64 1, .nilIface]) (by simp [results, Tryz.results184, go_sem]) rfl ⟨.nilIface, rfl, .inl ⟨rfl, rfl⟩, bt HB.out (bt hB2 (bt hB3 (((Below.refl _ _).alloc (Nat.le_refl _) _).trans (hB4.mono (by simp)))))⟩
set_option maxRecDepth 100000 in
set_option maxHeartbeats 4000000 in
theorem kind_D (nv : Value) (N T : Addr) (x : X) (K : Nat → Int) (w : World) (hS : Sens w N T) (hk : x.k = 15 ∨ x.k = 16 ∨ x.k = 17) (hn : x.n ≤ 1048576) (HP : ∀ d, Below w.heap.size w d → Calls Tryz.prog 205 #[nv, x.slice] d fun r w' => ∃ a cap, r = .returned (.tuple #[.slice a x.n cap, .nilIface]) ∧ IsI w' a x.n K ∧ Below d.heap.size d w') :
    KindC nv N T x (if allB K 1 x.n = true then 1 else 0) (if allB K 1 x.n = true then 0 else 5) w := by
  obtain ⟨A, hA, hB, hs, hn0⟩ := one_box x w
  have HN : Hid (Node A w.heap.size 0 x) := hn0
  obtain ⟨a0, a1, a2, a3, a4, a5, a6⟩ := hn0.at0
  have h1' : (x.k == 1) = false := by simp; omega
  have h2' : (x.k == 2) = false := by simp; omega
  have HB : Hid (Below w.heap.size w A) := hB
  have C : Hid (Calls Tryz.prog 205 _ A _) := HP A hB
  have HS : Hid (Sens A N T) := hS.later hB
  have R : Hid (∀ d : World, Calls Tryz.prog 206 _ d _) := fun d => ruleD x.k d hk
  have M : Hid (∀ (a : Option Addr) (cap p : Nat) (d : World), IsI d a x.n K → d.cell? ⟨p, 0, none⟩ = some (.int .i64 1) → Calls Tryz.prog 220 #[.slice a x.n cap, .pointer (some ⟨p, 0, none⟩)] d fun e w' => e = .returned (.bool (allB K 1 x.n)) ∧ w' = d) := fun a cap p d h1 h2 => all1_any a x.n cap p K 1 d h1 hn h2
  clear hB hn0 hk HP hS hn 
  unfold KindC
  generalize allB K 1 x.n = q at M ⊢
  cases q
  · go_enter Tryz.func184, Tryz.ntmps184
    go_wp2_with (first
      | (go_at_call 220; refine (M.out a cap p _ (HI.out.later (bt hB3 ((Below.refl _ w3).alloc (Nat.le_refl _) _))) (cell_new w3 _ _ _ hp)).mono ?_; rintro r w4 ⟨rfl, rfl⟩)
      | (go_at_call 206; refine (R.out _).mono ?_; rintro r w3 ⟨p, rfl, hp, hB3⟩; have gT := (HS.out.later (bt hB2 hB3)).vT; have gT' := cell_new w3 (.cells #[.int .i64 1, .func (.func 220) #[] #[.pointer (some ⟨p, 0, none⟩)]] 267) _ _ gT)
      | (go_at_call 205; refine C.out.mono ?_; rintro r w2 ⟨a, cap, rfl, hI, hB2⟩; have HI : Hid (IsI w2 a x.n K) := hI; clear hI; obtain ⟨b0, b1, b2, b3, b4, b5, b6⟩ := (HN.out.later hB2).at0))
    go_quiet (fail)
    go_wp2
    exact bodyPost_ret (v := .tuple #[.int .i64 0, senV T]) (by simp [results, Tryz.results184, go_sem]) rfl ⟨_, rfl, .inr (.inr ⟨rfl, .base T, rfl, rfl⟩), bd (bt HB.out (bt hB2 (bt hB3 ((Below.refl _ _).alloc (Nat.le_refl _) _)))) _⟩
  · go_enter Tryz.func184, Tryz.ntmps184
    go_wp2_with (first
      | (go_at_call 220; refine (M.out a cap p _ (HI.out.later (bt hB3 ((Below.refl _ w3).alloc (Nat.le_refl _) _))) (cell_new w3 _ _ _ hp)).mono ?_; rintro r w4 ⟨rfl, rfl⟩)
      | (go_at_call 206; refine (R.out _).mono ?_; rintro r w3 ⟨p, rfl, hp, hB3⟩; have gT := (HS.out.later (bt hB2 hB3)).vT; have gT' := cell_new w3 (.cells #[.int .i64 1, .func (.func 220) #[] #[.pointer (some ⟨p, 0, none⟩)]] 267) _ _ gT)
      | (go_at_call 205; refine C.out.mono ?_; rintro r w2 ⟨a, cap, rfl, hI, hB2⟩; have HI : Hid (IsI w2 a x.n K) := hI; clear hI; obtain ⟨b0, b1, b2, b3, b4, b5, b6⟩ := (HN.out.later hB2).at0))
    exact bodyPost_ret (v := .tuple #[.int .i64 1, .nilIface]) (by simp [results, Tryz.results184, go_sem]) rfl ⟨.nilIface, rfl, .inl ⟨rfl, rfl⟩, bt HB.out (bt hB2 (bt hB3 ((Below.refl _ _).alloc (Nat.le_refl _) _)))⟩
end Go.Proofs.YtkfpgkohkhhlhaaGreatDoor
namespace Go.Proofs.YtkfpgkohkhhlhaaGreatDoor
open Go.RowKit

theorem X.n_lt (x : X) : x.n < x.size := by
  have key : ∀ n, n ≤ sumN (fun i => (x.c i).size) n := by
    intro n
    induction n with
    | zero => exact Nat.le_refl _
    | succ n ih =>
      have := (x.c n).size_pos
      simp only [sumN]
      omega
  have := key x.n
  rw [x.size_eq]
  omega
theorem name_max {s : ByteArray} (h : nameB s = true) : s.size ≤ maxLen := by
  unfold nameB fitsB at h
  simp at h
  unfold maxLen
  omega
theorem kindT_any (nv : Value) (N T : Addr) (L : ByteArray → ByteArray → Option Int) : ∀ (x : X) (w : World), IsX w x → TreeR x → x.size ≤ 1048576 → Sens w N T → (∀ d, Below w.heap.size w d → FieldC nv N L d) → KindC nv N T x (kindE L x).1 (kindE L x).2 w := by
  refine X.ind fun x ih w hX hR hsz hS HF => ?_
  obtain ⟨hr, hp⟩ := (treeR_eq x).1 hR
  have hn : x.n ≤ 1048576 := by have := x.n_lt; omega
  have HK : ∀ i, i < x.n → ∀ d, Below w.heap.size w d → KindC nv N T (x.c i) (kindE L (x.c i)).1 (kindE L (x.c i)).2 d := fun i hi d hd => by
    obtain ⟨_, _, _, _, hx⟩ := hX.part hi
    exact ih i hi d (hx.later hd) (hp i hi) (by have := x.size_part i hi; omega) (hS.later hd) fun d' h' => HF d' (bt hd h')
  have rest : 3 ≤ x.k → x.k ≤ 17 → (x.k = 9 ∨ x.k = 10 → x.n = 2) → KindC nv N T x (kindE L x).1 (kindE L x).2 w := by
    intro h3 h17 h2
    rcases errs_or (fun i => (kindE L (x.c i)).2) x.n with ⟨he, h0⟩ | ⟨i, hi, hne, he, h0⟩
    · have HP := fun d (hd : Below w.heap.size w d) => parts_ok nv N T x (fun i => (kindE L (x.c i)).1) (fun i => (kindE L (x.c i)).2) d (hX.later hd) hn (fun i hi d' h' => HK i hi d' (bt hd h')) h0
      rw [kindE_parts h3 he]
      have fin : ∀ (q : Bool) (o : Int), KindC nv N T x (if q = true then o else 0) (if q = true then 0 else 5) w → KindC nv N T x (if q = true then (o, (0 : Int)) else (0, 5)).1 (if q = true then (o, (0 : Int)) else (0, 5)).2 w := fun q o h => by cases q <;> exact h
      refine fin _ _ ?_
      by_cases hA : x.k ≤ 8
      · rw [show outK x.k = 2 by simp [outK]; omega, show fineK x.k x.n (fun i => (kindE L (x.c i)).1) = allB (fun i => (kindE L (x.c i)).1) 2 x.n by rw [fineK, if_pos ⟨h3, hA⟩]]
        exact kind_A nv N T x _ w hS (by omega) hn HP
      · have ho : outK x.k = 1 := by rw [outK, if_neg (by omega)]
        rw [ho]
        by_cases hB : x.k ≤ 10
        · rw [show fineK x.k x.n (fun i => (kindE L (x.c i)).1) = (decide ((kindE L (x.c 0)).1 = (kindE L (x.c 1)).1) || (decide ((kindE L (x.c 0)).1 = 0) || decide ((kindE L (x.c 1)).1 = 0))) by rw [fineK, if_neg (by omega), if_pos (by omega)]]
          exact kind_B nv N T x _ w hS (by omega) (h2 (by omega)) hn HP
        · by_cases hC : x.k ≤ 14
          · rw [show fineK x.k x.n (fun i => (kindE L (x.c i)).1) = (allB (fun i => (kindE L (x.c i)).1) 2 x.n || allB (fun i => (kindE L (x.c i)).1) 3 x.n) by rw [fineK, if_neg (by omega), if_neg (by omega), if_pos (by omega)]]
            exact kind_C nv N T x _ w hS (by omega) hn HP
          · rw [show fineK x.k x.n (fun i => (kindE L (x.c i)).1) = allB (fun i => (kindE L (x.c i)).1) 1 x.n by rw [fineK, if_neg (by omega), if_neg (by omega), if_neg (by omega)]]
            exact kind_D nv N T x _ w hS (by omega) hn HP
    · rw [kindE_err h3 (by show ¬ lexN _ _ = 0; rw [he]; exact hne)]
      show KindC nv N T x 0 (lexN _ _) w
      rw [he]
      exact kind_err nv N T x _ w h3 hne fun d hd => parts_err nv N T x (fun i => (kindE L (x.c i)).1) (fun i => (kindE L (x.c i)).2) i d (hX.later hd) hn (fun i hi d' h' => HK i hi d' (bt hd h')) hi hne h0
  rcases hr.2.2 with ⟨hk, hn0, _⟩ | ⟨hk, hn0, hnm, _⟩ | ⟨hk, hn0⟩ | ⟨h4, h14, hn0⟩ | ⟨hk, _, _⟩
  · rw [kindE_const hk hn0]
    exact kind_const nv N T x w hk
  · rw [kindE_field hk hn0]
    refine (kind_field nv N T L x w hk (name_max hnm) HF).mono ?_
    rintro e w' ⟨rfl, hB⟩
    cases L x.s x.f with
    | none => exact ⟨_, rfl, .inr (.inl ⟨rfl, .base N, rfl, rfl⟩), hB⟩
    | some q => exact ⟨_, rfl, .inl ⟨rfl, rfl⟩, hB⟩
  · exact rest (by omega) (by omega) (by omega)
  · exact rest (by omega) (by omega) (fun _ => hn0)
  · exact rest (by omega) (by omega) (by omega)
end Go.Proofs.YtkfpgkohkhhlhaaGreatDoor
namespace Go.Proofs.YtkfpgkohkhhlhaaGreatDoor
open Go.RowKit

set_option maxHeartbeats 1000000 in
theorem find_some (a : Option Addr) (n cap i : Nat) (Nm : Nat → ByteArray) (V : Nat → Value) (s : ByteArray) (w : World) (H : Row2 w a n Nm V) (hn : n ≤ 9223372036854775807) (hi : i < n) (he : Nm i = s) (hl : ∀ j, j < i → ¬ Nm j = s) :
    Calls Tryz.prog 151 #[.slice a n cap, .string s] w fun e w' => e = .returned (.tuple #[.int .i64 i, .bool true]) ∧ Below w.heap.size w w' := by
  have hB0 : Below w.heap.size w (w.alloc (.cells #[.string s] 9)) := (Below.refl _ _).alloc (Nat.le_refl _) _
  have H1 := H.later hB0
  have hp : (w.alloc (.cells #[.string s] 9)).cell? ⟨w.heap.size, 0, none⟩ = some (.string s) := by rw [World.cell?_alloc_at _ _ _ _ rfl]; rfl
  have C : Hid (Calls Tryz.prog 180 _ (w.alloc (.cells #[.string s] 9)) _) := indexS_some a n cap i w.heap.size Nm V s _ H1 hn hp hi he hl
  clear hn hp hi he hl H H1
  go_enter Tryz.func151, Tryz.ntmps151
  go_wp2_with (first | (go_at_call 180; refine C.out.mono ?_; rintro e w1 ⟨rfl, hB1⟩))
  exact bodyPost_ret (v := .tuple #[.int .i64 i, .bool true]) (by simp [results, Tryz.results151, go_sem]) rfl ⟨rfl, hB0.trans (hB1.mono hB0.size)⟩
set_option maxHeartbeats 1000000 in
theorem find_none (a : Option Addr) (n cap : Nat) (Nm : Nat → ByteArray) (V : Nat → Value) (s : ByteArray) (w : World) (H : Row2 w a n Nm V) (hn : n ≤ 9223372036854775807) (hl : ∀ j, j < n → ¬ Nm j = s) :
    Calls Tryz.prog 151 #[.slice a n cap, .string s] w fun e w' => e = .returned (.tuple #[.int .i64 0, .bool false]) ∧ Below w.heap.size w w' := by
  have hB0 : Below w.heap.size w (w.alloc (.cells #[.string s] 9)) := (Below.refl _ _).alloc (Nat.le_refl _) _
  have H1 := H.later hB0
  have hp : (w.alloc (.cells #[.string s] 9)).cell? ⟨w.heap.size, 0, none⟩ = some (.string s) := by rw [World.cell?_alloc_at _ _ _ _ rfl]; rfl
  have C : Hid (Calls Tryz.prog 180 _ (w.alloc (.cells #[.string s] 9)) _) := indexS_none a n cap w.heap.size Nm V s _ H1 hn hp hl
  clear hn hp hl H H1
  go_enter Tryz.func151, Tryz.ntmps151
  go_wp2_with (first | (go_at_call 180; refine C.out.mono ?_; rintro e w1 ⟨rfl, hB1⟩))
  exact bodyPost_ret (v := .tuple #[.int .i64 0, .bool false]) (by simp [results, Tryz.results151, go_sem]) rfl ⟨rfl, hB0.trans (hB1.mono hB0.size)⟩
set_option maxHeartbeats 1000000 in
theorem field_some (S : ByteArray) (a : Option Addr) (n cap i : Nat) (Nm : Nat → ByteArray) (K : Nat → Int) (s : ByteArray) (w : World) (H : Flds w a n Nm K) (hn : n ≤ 9223372036854775807) (hi : i < n) (he : Nm i = s) (hl : ∀ j, j < i → ¬ Nm j = s) :
    Calls Tryz.prog 212 #[schV S (.slice a n cap), .string s] w fun e w' => e = .returned (.tuple #[.int .i64 i, .int .i64 (K i), .bool true]) ∧ Below w.heap.size w w' := by
  have hB0 : Below w.heap.size w ((w.alloc (schO S (.slice a n cap))).alloc (.cells #[.string s] 9)) := ((Below.refl _ _).alloc (Nat.le_refl _) _).alloc (by simp) _
  have H1 := H.later hB0
  have hp : ((w.alloc (schO S (.slice a n cap))).alloc (.cells #[.string s] 9)).cell? ⟨w.heap.size + 1, 0, none⟩ = some (.string s) := by rw [World.cell?_alloc_at _ _ _ _ (by simp)]; rfl
  have C : Hid (Calls Tryz.prog 218 _ ((w.alloc (schO S (.slice a n cap))).alloc (.cells #[.string s] 9)) _) := indexF_some a n cap i (w.heap.size + 1) Nm K s _ H1 hn hp hi he hl
  have HX : Hid (((w.alloc (schO S (.slice a n cap))).alloc (.cells #[.string s] 9)).cell? ⟨w.heap.size, 1, none⟩ = some (.slice a n cap)) := by
    show ((w.alloc (schO S (.slice a n cap))).alloc (.cells #[.string s] 9)).cell? ⟨w.heap.size, 1, none⟩ = some (.slice a n cap)
    rw [World.cell?_alloc_past _ _ _ (by simp), World.cell?_alloc_at _ _ _ _ rfl]; rfl
  have HR : Hid (Flds ((w.alloc (schO S (.slice a n cap))).alloc (.cells #[.string s] 9)) a n Nm K) := H1
  clear hp he hl H H1
  go_enter Tryz.func212, Tryz.ntmps212
  go_upto_region 2 with (first | (go_at_call 218; refine C.out.mono ?_; rintro e w1 ⟨rfl, hB1⟩))
  have f1 := cell_later HX.out hB1
  obtain ⟨b, off, rfl, hc⟩ := (HR.out.later hB1) (by omega)
  have f2 := (hc i hi).1.2
  clear hc C HX HR
  go_wp2_with fail
  go_quiet (fail)
  go_wp2
  exact bodyPost_ret (v := .tuple #[.int .i64 i, .int .i64 (K i), .bool true]) (by simp [results, Tryz.results212, go_sem]) rfl ⟨rfl, bd (bt hB0 hB1) _⟩
set_option maxHeartbeats 1000000 in
theorem field_none (S : ByteArray) (a : Option Addr) (n cap : Nat) (Nm : Nat → ByteArray) (K : Nat → Int) (s : ByteArray) (w : World) (H : Flds w a n Nm K) (hn : n ≤ 9223372036854775807) (hl : ∀ j, j < n → ¬ Nm j = s) :
    Calls Tryz.prog 212 #[schV S (.slice a n cap), .string s] w fun e w' => e = .returned (.tuple #[.int .i64 0, .int .i64 0, .bool false]) ∧ Below w.heap.size w w' := by
  have hB0 : Below w.heap.size w ((w.alloc (schO S (.slice a n cap))).alloc (.cells #[.string s] 9)) := ((Below.refl _ _).alloc (Nat.le_refl _) _).alloc (by simp) _
  have H1 := H.later hB0
  have hp : ((w.alloc (schO S (.slice a n cap))).alloc (.cells #[.string s] 9)).cell? ⟨w.heap.size + 1, 0, none⟩ = some (.string s) := by rw [World.cell?_alloc_at _ _ _ _ (by simp)]; rfl
  have C : Hid (Calls Tryz.prog 218 _ ((w.alloc (schO S (.slice a n cap))).alloc (.cells #[.string s] 9)) _) := indexF_none a n cap (w.heap.size + 1) Nm K s _ H1 hn hp hl
  clear hn hp hl H H1
  go_enter Tryz.func212, Tryz.ntmps212
  go_wp2_with (first | (go_at_call 218; refine C.out.mono ?_; rintro e w1 ⟨rfl, hB1⟩))
  exact bodyPost_ret (v := .tuple #[.int .i64 0, .int .i64 0, .bool false]) (by simp [results, Tryz.results212, go_sem]) rfl ⟨rfl, hB0.trans (hB1.mono hB0.size)⟩
end Go.Proofs.YtkfpgkohkhhlhaaGreatDoor
namespace Go.Proofs.YtkfpgkohkhhlhaaGreatDoor
open Go.RowKit Go.Maps Go.WideMaps

/-- An element of the map is held as it is. -/
def elemV (v : Value) : Option (DataW Value × List MemPlace) := some (.held v, [])
abbrev schZ : Value := schV ⟨#[]⟩ (.slice none 0 0)
/-- What the map tells of the Vars from the i-th on: the schema of each one's first place. -/
structure FirstS (V : Nat → ByteArray) (U : Nat → Value) (n i : Nat) (D : DataW Value) : Prop where
  hit : ∀ j, i ≤ j → j < n → (∀ j', i ≤ j' → j' < j → V j' ≠ V j) → Maps.has D (keyS (V j)) = true ∧ D.atKey (keyS (V j)) (.held schZ) = .held (U j)
  miss : ∀ s, (∀ j, i ≤ j → j < n → V j ≠ s) → Maps.has D (keyS s) = false ∧ D.atKey (keyS s) (.held schZ) = .held schZ
theorem firstS_none (V : Nat → ByteArray) (U : Nat → Value) (n : Nat) : FirstS V U n n (.map []) := ⟨fun j h1 h2 => by omega, fun _ _ => ⟨rfl, rfl⟩⟩
theorem FirstS.more {V : Nat → ByteArray} {U : Nat → Value} {n i : Nat} {D : DataW Value} (h : FirstS V U n (i + 1) D) (hm : IsMap D) (hi : i < n) : FirstS V U n i (D.put (keyS (V i)) (.held (U i))) := by
  refine ⟨fun j h1 h2 h3 => ?_, fun s hs => ?_⟩
  · by_cases e : j = i
    · subst e
      exact ⟨has_put_same hm (by simp [WideAt.IsKeyLit]) _, atKey_put_same hm (by simp [WideAt.IsKeyLit]) _ _⟩
    · have hne : V i ≠ V j := h3 i (Nat.le_refl _) (by omega)
      obtain ⟨q1, q2⟩ := h.hit j (by omega) h2 fun j' h4 h5 => h3 j' (by omega) h5
      rw [has_put_other (keyS_ne fun q => hne q.symm), atKey_put_other (keyS_ne fun q => hne q.symm)]
      exact ⟨q1, q2⟩
  · have hne : V i ≠ s := hs i (Nat.le_refl _) hi
    rw [has_put_other (keyS_ne fun q => hne q.symm), atKey_put_other (keyS_ne fun q => hne q.symm)]
    exact h.miss s fun j h1 h2 => hs j (by omega) h2
/-- What the map holds of a Var. -/
def atV (V : Nat → ByteArray) (U : Nat → Value) (n : Nat) (s : ByteArray) : Value := match idx V s n with | some i => U i | none => schZ
theorem FirstS.at {V : Nat → ByteArray} {U : Nat → Value} {n : Nat} {D : DataW Value} (h : FirstS V U n 0 D) (s : ByteArray) : Maps.has D (keyS s) = (idx V s n).isSome ∧ D.atKey (keyS s) (.held schZ) = .held (atV V U n s) := by
  unfold atV
  cases e : idx V s n with
  | some i =>
    obtain ⟨h1, rfl, h3⟩ := idx_some V s n i e
    obtain ⟨q1, q2⟩ := h.hit i (Nat.zero_le _) h1 fun j' _ h5 => h3 j' h5
    exact ⟨q1, q2⟩
  | none => exact h.miss s fun j _ hj => idx_none V s n e j hj
/-- Names, as New makes them. -/
structure NamesIn (w : World) (p m n : Nat) (V : Nat → ByteArray) (S : Nat → Sch) : Prop where
  box : w.cell? ⟨p, 0, none⟩ = some (.map (some m))
  map : ∃ D, w.ownsMap Tryz.prog 9 elemV m n D ∧ FirstS V (fun j => schV (S j).nm (S j).v) n 0 D
  flds : ∀ j, j < n → Flds w (S j).a (S j).l (S j).fn (S j).fk ∧ (S j).l ≤ 16
theorem NamesIn.later {w w' : World} {p m n : Nat} {V : Nat → ByteArray} {S : Nat → Sch} (h : NamesIn w p m n V S) (hB : Below w.heap.size w w') : NamesIn w' p m n V S := by
  obtain ⟨D, ho, hf⟩ := h.map
  refine ⟨cell_later h.box hB, ⟨D, ?_, hf⟩, fun j hj => ⟨(h.flds j hj).1.later hB, (h.flds j hj).2⟩⟩
  have hlt := ho.lt
  obtain ⟨es, clock, h1, h2⟩ := ho
  exact ⟨es, clock, (hB.block m hlt).trans h1, h2⟩
theorem zeroS (w : World) : (zeroValue 115).run Tryz.prog w = .ok schZ w := by kernel_rfl
theorem NamesIn.look {w : World} {p m n : Nat} {V : Nat → ByteArray} {S : Nat → Sch} (h : NamesIn w p m n V S) (s : ByteArray) (hs : s.size ≤ maxLen) :
    (Instr.lookup 210 (.map (some m)) (.string s) false).run Tryz.prog w = .ok (atV V (fun j => schV (S j).nm (S j).v) n s) w := by
  obtain ⟨D, ho, hf⟩ := h.map
  obtain ⟨v, ps, hr, hv⟩ := ho.lookup str_law Tryz.underlying210 (zeroS w) (show elemV schZ = some (.held schZ, []) from rfl) (keyOf_string_mk Tryz.underlying9 hs)
  rw [(hf.at s).2] at hv
  simp only [elemV, Option.some.injEq, Prod.mk.injEq, DataW.held.injEq] at hv
  rw [hr, hv.1]
theorem NamesIn.look_ok {w : World} {p m n : Nat} {V : Nat → ByteArray} {S : Nat → Sch} (h : NamesIn w p m n V S) (s : ByteArray) (hs : s.size ≤ maxLen) :
    (Instr.lookup 210 (.map (some m)) (.string s) true).run Tryz.prog w = .ok (.tuple #[atV V (fun j => schV (S j).nm (S j).v) n s, .bool (idx V s n).isSome]) w := by
  obtain ⟨D, ho, hf⟩ := h.map
  obtain ⟨v, ps, hr, hv⟩ := ho.look_ok str_law Tryz.underlying210 (zeroS w) (show elemV schZ = some (.held schZ, []) from rfl) (keyOf_string_mk Tryz.underlying9 hs)
  rw [(hf.at s).2] at hv
  simp only [elemV, Option.some.injEq, Prod.mk.injEq, DataW.held.injEq] at hv
  rw [hr, hv.1, (hf.at s).1]
end Go.Proofs.YtkfpgkohkhhlhaaGreatDoor
namespace Go.Proofs.YtkfpgkohkhhlhaaGreatDoor
open Go.RowKit Go.Shelf
attribute [local go_sem] Oper.semAt_some

set_option maxRecDepth 100000 in
set_option maxHeartbeats 1000000 in
theorem backward_in (n : Nat) (a : Option Addr) (m cap : Nat) (w : World) :
    CallsIn Fence.wide n Tryz.prog 150 #[.slice a m cap] w fun e w' => e = .returned (.func (.func 179) #[] #[.pointer (some ⟨w.heap.size, 0, none⟩)]) ∧ w' = w.alloc (.cells #[.slice a m cap] 37) := by
  refine callsIn_of_wp Tryz.func150 rfl trivial ?_ rfl
  simp only [Tryz.ntmps150, List.size_toArray, List.length_cons, List.length_nil, Nat.reduceAdd, Nat.reduceSub, Array.replicate_succ, Array.replicate_zero, List.push_toArray, List.append_toArray, List.nil_append, List.cons_append]
  gi_wp2
  go_ret
  exact ⟨rfl, rfl⟩
theorem Txs.kept {T : Nat → Prop} {W W' : World} (h : Kp T W W') {a : Option Addr} {n : Nat} {S : Nat → ByteArray} (hT : ∀ b o, a = some ⟨b, o, none⟩ → T b) (hx : Txs W a n S) : Txs W' a n S := fun h0 => by
  obtain ⟨b, o, e, hc⟩ := hx h0
  exact ⟨b, o, e, fun j hj => h.cell (p := ⟨b, o + j, none⟩) (hT b o e) (hc j hj)⟩
theorem Txs.ag {B : Nat} {W A : World} (h : Ag B W A) {a : Option Addr} {n : Nat} {S : Nat → ByteArray} (hx : Txs W a n S) : Txs A a n S := fun h0 => by
  obtain ⟨b, o, e, hc⟩ := hx h0
  exact ⟨b, o, e, fun j hj => (h.cell _).trans (hc j hj)⟩

end Go.Proofs.YtkfpgkohkhhlhaaGreatDoor
namespace Go.Proofs.YtkfpgkohkhhlhaaGreatDoor
open Go.RowKit Go.Shelf
attribute [local go_sem] Oper.semAt_some

set_option maxRecDepth 100000 in
set_option maxHeartbeats 4000000 in
/-- The function that slices.Backward hands back: from the last down to the first, or until its yield says no. -/
theorem back1_out (n l Bs : Nat) (av : Option Addr) (m cap : Nat) (S : Nat → ByteArray) (J : Nat → World → Prop) (X : World → Prop) (W : World) (hm : m ≤ 1048576) (h0 : J m W)
    (hB : ∀ k W, J k W → W.cell? ⟨Bs, 0, none⟩ = some (.slice av m cap) ∧ Txs W av m S)
    (hY : ∀ (m' k : Nat) (W : World), k < m → J (k + 1) W → YieldAt Fence.wide m' Tryz.prog l #[.int .i64 (k : Nat), .string (S k)] W fun e W' => (e = .returned (.bool true) ∧ J k W') ∨ (e = .returned (.bool false) ∧ X W')) :
    CallsIn Fence.wide n Tryz.prog 179 #[.func (.yield l) #[] #[], .pointer (some ⟨Bs, 0, none⟩)] W fun e W' => (∃ v, e = .returned v) ∧ (J 0 W' ∨ X W') := by
  have hdd : ∀ k : Nat, (Fence.wide.depth.isSome = true → 1 ≤ k) := fun k h => by cases h
  have c0 := (hB m W h0).1
  refine callsIn_of_wp Tryz.func179 rfl trivial ?_ rfl
  simp only [Tryz.ntmps179, List.size_toArray, List.length_cons, List.length_nil, Nat.reduceAdd, Nat.reduceSub, Array.replicate_succ, Array.replicate_zero, List.push_toArray, List.append_toArray, List.nil_append, List.cons_append]
  gi_wp2
  gi_loopw [3] (fun u wr => ∃ k : Nat, k ≤ m ∧ u = .int .i64 ((k : Int) - 1) ∧ J k wr) (fun u _ => (intOf u + 1).toNat)
  case atStart => exact ⟨m, Nat.le_refl _, by go_num, h0⟩
  case round =>
    obtain ⟨k, hk, rfl, hj⟩ := hrel
    match k, hk, hj with
    | 0, hk, hj =>
      gi_wp2
      go_end0
      exact ⟨⟨_, rfl⟩, .inl hj⟩
    | k + 1, hk, hj =>
      obtain ⟨c1, hx⟩ := hB _ _ hj
      obtain ⟨b, o, rfl, hc⟩ := hx (by omega)
      have c2 := hc k (by omega)
      have e1 : (((k + 1 : Nat) : Int) - 1) = (k : Int) := by omega
      obtain ⟨fn, tmps, assign, body, hy, hR⟩ := hY (n - 1) k wr (by omega) hj
      clear hc hx hY
      rw [e1]
      gi_wp2_with (first
        | ((try refine ⟨hdd _, ?_⟩); refine hR.mono ?_; clear hR; rintro e W1 (⟨rfl, hj1⟩ | ⟨rfl, hx1⟩)))
      · exact ⟨⟨k, by omega, by go_num, hj1⟩, by simp [intOf]⟩
      · exact bodyPost_ret (v := .tuple #[]) (by simp [results, Tryz.results179, go_sem]) rfl ⟨⟨_, rfl⟩, .inr hx1⟩
/-- How a body may be left that writes into no older cell, or returns. -/
def outPost (B : Nat) (J X : World → Prop) (W : World) : Exit → Act → World → Prop
  | .normal, _, W' => KeepsFrom B W W' ∧ Kp (fun k => k < B) W W' ∧ J W'
  | .ret, _, W' => KeepsFrom B W W' ∧ X W'
  | _, _, _ => False
/-- A range over texts from the last to the first whose body may return. -/
theorem back_out {n : Nat} {g : Operand} {ps : Array Tmp} {assign body : Code} {Q : Exit → Act → World → Prop} {a : Act} {w : World} (Bs : Nat) (av : Option Addr) (m cap : Nat) (S : Nat → ByteArray) (J : Nat → World → Prop) (X : World → Prop)
    (hg : a.eval g = .func (.func 179) #[] #[.pointer (some ⟨Bs, 0, none⟩)]) (hps : ps.size = 2) (hBs : Boxed w Bs 37 (.slice av m cap)) (hx : Txs w av m S) (hm : m ≤ 1048576)
    (hJ : ∀ k W A, Ag w.heap.size W A → J k W → J k A) (hXA : ∀ W A, Ag w.heap.size W A → X W → X A) (h0 : ∀ W, Below w.heap.size w W → J m W)
    (a₁ : Nat → Act)
    (hassign : ∀ (l k : Nat) (W : World) (K : Act → World → Prop), K (a₁ k) W →
      assign.wpIn (Fence.wide.inRound l) (n - 1 - 1) Tryz.prog (Exit.then K (fun _ _ _ => False)) { tmps := (ps.zip #[.int .i64 k, .string (S k)]).foldl (fun t (p, v) => t.setIfInBounds p v) a.tmps, defers := [] } W)
    (hbody : ∀ (l k : Nat) (W : World), k < m → J (k + 1) W → w.heap.size + 2 ≤ W.heap.size →
      body.wpIn (Fence.wide.inRound l) (n - 1 - 1) Tryz.prog (outPost w.heap.size (J k) X W) (a₁ k) W)
    (hdone : ∀ (D : Nat) (W : World), w.heap.size ≤ D → J 0 W → W.heap[D]? = some (.deferred (some [])) → Q .normal { a with defers := { target := .collected D, args := #[] } :: a.defers } W)
    (hstop : ∀ (D : Nat) (W : World), w.heap.size ≤ D → X W → W.heap[D]? = some (.deferred (some [])) → Code.ret.wpIn Fence.wide n Tryz.prog Q { a with defers := { target := .collected D, args := #[] } :: a.defers } W) :
    (Code.rangeFunc g ps assign body).wpIn Fence.wide n Tryz.prog Q a w := by
  have hlt : Bs < w.heap.size := hBs.lt
  refine wpIn_range (α := Nat) hg (enters_of Tryz.func179 (by kernel_rfl) rfl) (encs := fun k => #[.int .i64 k, .string (S k)]) (fun _ => hps.symm)
    (fun k W => k < m ∧ J (k + 1) W ∧ w.heap.size + 2 ≤ W.heap.size)
    (fun k W W' => Kp (fun k => k < w.heap.size) W W' ∧ J k W' ∧ w.heap.size + 2 ≤ W'.heap.size)
    (fun c _ _ W' => c = .ret ∧ X W') (J 0) (fun c W => c = .ret ∧ X W) ?_ ?_ (fun _ _ _ _ _ W' _ hag h => ⟨h.1, hXA _ _ hag h.2⟩) (fun W A h => hJ _ W A h) (fun _ _ _ hag h => ⟨h.1, hXA _ _ hag h.2⟩) a₁ hassign ?_ ?_ hdone (fun D c W hD h hK => by obtain ⟨rfl, h⟩ := h; exact hstop D W hD h hK)
  · rintro k W A hag ⟨h1, h2, h3⟩
    exact ⟨h1, hJ _ _ _ hag h2, by rw [hag.size]; exact h3⟩
  · rintro k W A A' W' hag hag' ⟨h1, h2, h3⟩
    exact ⟨Kp.ag hag hag' h1, hJ _ _ _ hag' h2, by rw [hag'.size]; exact h3⟩
  · rintro l k W ⟨h1, h2, h3⟩ _
    refine wpIn_mono (hbody l k W h1 h2 h3) ?_
    rintro e a3 W3 hp
    cases e with
    | normal => exact ⟨hp.1, hp.2.1, hp.2.2, Nat.le_trans h3 hp.1.size⟩
    | ret => exact ⟨hp.1, rfl, hp.2⟩
    | exit id => exact hp.elim
    | goto t => exact hp.elim
    | panic ch => exact hp.elim
    | outgrown => exact hp.elim
  · intro l Rec RecX W1 hB1 hs1 hrec1 hrec hrecx hY
    refine (back1_out (n - 1) l Bs av m cap S (fun k W => J k W ∧ Rec W ∧ Kp (fun k => k < w.heap.size) w W ∧ w.heap.size + 2 ≤ W.heap.size) (fun W => ∃ c, (c = .ret ∧ X W) ∧ RecX c W) W1 hm ⟨h0 W1 hB1, hrec1, Kp.of_below hB1 fun _ h => h, by omega⟩ ?_ ?_).mono ?_
    · rintro k W ⟨h1, h2, h3, h4⟩
      refine ⟨(h3.boxed hlt hBs).cell, fun hm0 => (Txs.kept h3 (fun b o e => Txs.lt hx hm0 e) hx) hm0⟩
    · rintro m' k W hk ⟨h1, h2, h3, h4⟩
      refine YieldAt.mono (hY m' k W ⟨hk, h1, h4⟩ h2) ?_
      rintro e W' (⟨rfl, ⟨k1, k2, k3⟩, k4, -⟩ | ⟨rfl, c, k1, k2⟩)
      · exact .inl ⟨rfl, k2, k4, h3.trans k1, k3⟩
      · exact .inr ⟨rfl, c, k1, k2⟩
    · rintro e W' ⟨hv, h | h⟩
      · exact ⟨hv, .inl ⟨h.1, h.2.1⟩⟩
      · exact ⟨hv, .inr h⟩
end Go.Proofs.YtkfpgkohkhhlhaaGreatDoor
