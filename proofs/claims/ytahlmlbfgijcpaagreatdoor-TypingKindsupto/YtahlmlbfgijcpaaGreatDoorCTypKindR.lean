/-
  typing's kind of conditions with parts: by their rules.
-/
import Derived.Test.YtahlmlbfgijcpaaGreatDoorCTypKind
namespace Go.Proofs.YtahlmlbfgijcpaaGreatDoor
open Go.RowKit
set_option maxRecDepth 100000 in
set_option maxHeartbeats 4000000 in
theorem kind_A (nv : Value) (N T : Addr) (x : X) (K : Nat → Int) (w : World) (hS : Sens w N T) (hk : x.k = 3 ∨ x.k = 4 ∨ x.k = 5 ∨ x.k = 6 ∨ x.k = 7 ∨ x.k = 8) (hn : x.n ≤ 1048576) (HP : ∀ d, Below w.heap.size w d → Calls Tryz.prog 38 #[nv, x.slice] d fun r w' => ∃ a cap, r = .returned (.tuple #[.slice a x.n cap, .nilIface]) ∧ IsI w' a x.n K ∧ Below d.heap.size d w') :
    KindC nv N T x (if allB K 2 x.n = true then 2 else 0) (if allB K 2 x.n = true then 0 else 5) w := by
  obtain ⟨A, hA, hB, hs, hn0⟩ := one_box x w
  have HN : Hid (Node A w.heap.size 0 x) := hn0
  obtain ⟨a0, a1, a2, a3, a4, a5, a6⟩ := hn0.at0
  have h1' : (x.k == 1) = false := by simp; omega
  have h2' : (x.k == 2) = false := by simp; omega
  have HB : Hid (Below w.heap.size w A) := hB
  have C : Hid (Calls Tryz.prog 38 _ A _) := HP A hB
  have HS : Hid (Sens A N T) := hS.later hB
  have R : Hid (∀ d : World, Calls Tryz.prog 39 _ d _) := fun d => ruleA x.k d hk
  have M : Hid (∀ (a : Option Addr) (cap p : Nat) (d : World), IsI d a x.n K → d.cell? ⟨p, 0, none⟩ = some (.int .i64 2) → Calls Tryz.prog 79 #[.slice a x.n cap, .pointer (some ⟨p, 0, none⟩)] d fun e w' => e = .returned (.bool (allB K 2 x.n)) ∧ w' = d) := fun a cap p d h1 h2 => all1_any a x.n cap p K 2 d h1 hn h2
  clear hB hn0 hk HP hS hn 
  unfold KindC
  generalize allB K 2 x.n = q at M ⊢
  cases q
  · go_enter Tryz.func22, Tryz.ntmps22
    go_wp2_with (first
      | (go_at_call 79; refine (M.out a cap p _ (HI.out.later (bt hB3 ((Below.refl _ w3).alloc (Nat.le_refl _) _))) (cell_new w3 _ _ _ hp)).mono ?_; rintro r w4 ⟨rfl, rfl⟩)
      | (go_at_call 39; refine (R.out _).mono ?_; rintro r w3 ⟨p, rfl, hp, hB3⟩; have gT := (HS.out.later (bt hB2 hB3)).vT; have gT' := cell_new w3 (.cells #[.int .i64 2, .func (.func 79) #[] #[.pointer (some ⟨p, 0, none⟩)]] 90) _ _ gT)
      | (go_at_call 38; refine C.out.mono ?_; rintro r w2 ⟨a, cap, rfl, hI, hB2⟩; have HI : Hid (IsI w2 a x.n K) := hI; clear hI; obtain ⟨b0, b1, b2, b3, b4, b5, b6⟩ := (HN.out.later hB2).at0))
    go_quiet (fail)
    go_wp2
    exact bodyPost_ret (v := .tuple #[.int .i64 0, senV T]) (by simp [results, Tryz.results22, go_sem]) rfl ⟨_, rfl, .inr (.inr ⟨rfl, .base T, rfl, rfl⟩), bd (bt HB.out (bt hB2 (bt hB3 ((Below.refl _ _).alloc (Nat.le_refl _) _)))) _⟩
  · go_enter Tryz.func22, Tryz.ntmps22
    go_wp2_with (first
      | (go_at_call 79; refine (M.out a cap p _ (HI.out.later (bt hB3 ((Below.refl _ w3).alloc (Nat.le_refl _) _))) (cell_new w3 _ _ _ hp)).mono ?_; rintro r w4 ⟨rfl, rfl⟩)
      | (go_at_call 39; refine (R.out _).mono ?_; rintro r w3 ⟨p, rfl, hp, hB3⟩; have gT := (HS.out.later (bt hB2 hB3)).vT; have gT' := cell_new w3 (.cells #[.int .i64 2, .func (.func 79) #[] #[.pointer (some ⟨p, 0, none⟩)]] 90) _ _ gT)
      | (go_at_call 38; refine C.out.mono ?_; rintro r w2 ⟨a, cap, rfl, hI, hB2⟩; have HI : Hid (IsI w2 a x.n K) := hI; clear hI; obtain ⟨b0, b1, b2, b3, b4, b5, b6⟩ := (HN.out.later hB2).at0))
    exact bodyPost_ret (v := .tuple #[.int .i64 2, .nilIface]) (by simp [results, Tryz.results22, go_sem]) rfl ⟨.nilIface, rfl, .inl ⟨rfl, rfl⟩, bt HB.out (bt hB2 (bt hB3 ((Below.refl _ _).alloc (Nat.le_refl _) _)))⟩
set_option maxRecDepth 100000 in
set_option maxHeartbeats 4000000 in
theorem kind_B (nv : Value) (N T : Addr) (x : X) (K : Nat → Int) (w : World) (hS : Sens w N T) (hk : x.k = 9 ∨ x.k = 10) (h2 : x.n = 2) (_ : x.n ≤ 1048576) (HP : ∀ d, Below w.heap.size w d → Calls Tryz.prog 38 #[nv, x.slice] d fun r w' => ∃ a cap, r = .returned (.tuple #[.slice a x.n cap, .nilIface]) ∧ IsI w' a x.n K ∧ Below d.heap.size d w') :
    KindC nv N T x (if (decide (K 0 = K 1) || (decide (K 0 = 0) || decide (K 1 = 0))) = true then 1 else 0) (if (decide (K 0 = K 1) || (decide (K 0 = 0) || decide (K 1 = 0))) = true then 0 else 5) w := by
  obtain ⟨A, hA, hB, hs, hn0⟩ := one_box x w
  have HN : Hid (Node A w.heap.size 0 x) := hn0
  obtain ⟨a0, a1, a2, a3, a4, a5, a6⟩ := hn0.at0
  have h1' : (x.k == 1) = false := by simp; omega
  have h2' : (x.k == 2) = false := by simp; omega
  have HB : Hid (Below w.heap.size w A) := hB
  have C : Hid (Calls Tryz.prog 38 _ A _) := HP A hB
  have HS : Hid (Sens A N T) := hS.later hB
  have R : Hid (∀ d : World, Calls Tryz.prog 39 _ d _) := fun d => ruleB x.k d hk
  have M : Hid (∀ (a : Option Addr) (cap : Nat) (d : World), IsI d a x.n K → Calls Tryz.prog 57 #[.slice a x.n cap] d fun e w' => e = .returned (.bool ((decide (K 0 = K 1) || (decide (K 0 = 0) || decide (K 1 = 0))))) ∧ Below d.heap.size d w') := fun a cap d h1 => by rw [h2] at h1 ⊢; exact alike_any a cap K d h1
  clear hB hn0 hk HP hS h2
  unfold KindC
  generalize (decide (K 0 = K 1) || (decide (K 0 = 0) || decide (K 1 = 0))) = q at M ⊢
  cases q
  · go_enter Tryz.func22, Tryz.ntmps22
    go_wp2_with (first
      | (go_at_call 57; refine (M.out a cap _ (HI.out.later (bt hB3 ((Below.refl _ w3).alloc (Nat.le_refl _) _)))).mono ?_; rintro r w4 ⟨rfl, hB4⟩; have gR := cell_later (show (w3.alloc (.cells #[.int .i64 1, .func (.func 57) #[] #[]] 90)).cell? ⟨w3.heap.size, 0, none⟩ = some (.int .i64 1) by rw [World.cell?_alloc_at _ _ _ _ rfl]; rfl) hB4; have gT4 := cell_later gT' hB4)
      | (go_at_call 39; refine (R.out _).mono ?_; rintro r w3 ⟨rfl, hB3⟩; have gT := (HS.out.later (bt hB2 hB3)).vT; have gT' := cell_new w3 (.cells #[.int .i64 1, .func (.func 57) #[] #[]] 90) _ _ gT)
      | (go_at_call 38; refine C.out.mono ?_; rintro r w2 ⟨a, cap, rfl, hI, hB2⟩; have HI : Hid (IsI w2 a x.n K) := hI; clear hI; obtain ⟨b0, b1, b2, b3, b4, b5, b6⟩ := (HN.out.later hB2).at0))
    go_quiet (fail)
    go_wp2
    exact bodyPost_ret (v := .tuple #[.int .i64 0, senV T]) (by simp [results, Tryz.results22, go_sem]) rfl ⟨_, rfl, .inr (.inr ⟨rfl, .base T, rfl, rfl⟩), bd (bt HB.out (bt hB2 (bt hB3 (((Below.refl _ _).alloc (Nat.le_refl _) _).trans (hB4.mono (by simp)))))) _⟩
  · go_enter Tryz.func22, Tryz.ntmps22
    go_wp2_with (first
      | (go_at_call 57; refine (M.out a cap _ (HI.out.later (bt hB3 ((Below.refl _ w3).alloc (Nat.le_refl _) _)))).mono ?_; rintro r w4 ⟨rfl, hB4⟩; have gR := cell_later (show (w3.alloc (.cells #[.int .i64 1, .func (.func 57) #[] #[]] 90)).cell? ⟨w3.heap.size, 0, none⟩ = some (.int .i64 1) by rw [World.cell?_alloc_at _ _ _ _ rfl]; rfl) hB4; have gT4 := cell_later gT' hB4)
      | (go_at_call 39; refine (R.out _).mono ?_; rintro r w3 ⟨rfl, hB3⟩; have gT := (HS.out.later (bt hB2 hB3)).vT; have gT' := cell_new w3 (.cells #[.int .i64 1, .func (.func 57) #[] #[]] 90) _ _ gT)
      | (go_at_call 38; refine C.out.mono ?_; rintro r w2 ⟨a, cap, rfl, hI, hB2⟩; have HI : Hid (IsI w2 a x.n K) := hI; clear hI; obtain ⟨b0, b1, b2, b3, b4, b5, b6⟩ := (HN.out.later hB2).at0))
    exact bodyPost_ret (v := .tuple #[.int .i64 1, .nilIface]) (by simp [results, Tryz.results22, go_sem]) rfl ⟨.nilIface, rfl, .inl ⟨rfl, rfl⟩, bt HB.out (bt hB2 (bt hB3 (((Below.refl _ _).alloc (Nat.le_refl _) _).trans (hB4.mono (by simp)))))⟩
set_option maxRecDepth 100000 in
set_option maxHeartbeats 4000000 in
theorem kind_C (nv : Value) (N T : Addr) (x : X) (K : Nat → Int) (w : World) (hS : Sens w N T) (hk : x.k = 11 ∨ x.k = 12 ∨ x.k = 13 ∨ x.k = 14) (hn : x.n ≤ 1048576) (HP : ∀ d, Below w.heap.size w d → Calls Tryz.prog 38 #[nv, x.slice] d fun r w' => ∃ a cap, r = .returned (.tuple #[.slice a x.n cap, .nilIface]) ∧ IsI w' a x.n K ∧ Below d.heap.size d w') :
    KindC nv N T x (if (allB K 2 x.n || allB K 3 x.n) = true then 1 else 0) (if (allB K 2 x.n || allB K 3 x.n) = true then 0 else 5) w := by
  obtain ⟨A, hA, hB, hs, hn0⟩ := one_box x w
  have HN : Hid (Node A w.heap.size 0 x) := hn0
  obtain ⟨a0, a1, a2, a3, a4, a5, a6⟩ := hn0.at0
  have h1' : (x.k == 1) = false := by simp; omega
  have h2' : (x.k == 2) = false := by simp; omega
  have HB : Hid (Below w.heap.size w A) := hB
  have C : Hid (Calls Tryz.prog 38 _ A _) := HP A hB
  have HS : Hid (Sens A N T) := hS.later hB
  have R : Hid (∀ d : World, Calls Tryz.prog 39 _ d _) := fun d => ruleC x.k d hk
  have M : Hid (∀ (a : Option Addr) (cap : Nat) (d : World), IsI d a x.n K → Calls Tryz.prog 58 #[.slice a x.n cap] d fun e w' => e = .returned (.bool ((allB K 2 x.n || allB K 3 x.n))) ∧ Below d.heap.size d w') := fun a cap d h1 => by exact ordered_any a x.n cap K d h1 hn
  clear hB hn0 hk HP hS hn 
  unfold KindC
  generalize (allB K 2 x.n || allB K 3 x.n) = q at M ⊢
  cases q
  · go_enter Tryz.func22, Tryz.ntmps22
    go_wp2_with (first
      | (go_at_call 58; refine (M.out a cap _ (HI.out.later (bt hB3 ((Below.refl _ w3).alloc (Nat.le_refl _) _)))).mono ?_; rintro r w4 ⟨rfl, hB4⟩; have gR := cell_later (show (w3.alloc (.cells #[.int .i64 1, .func (.func 58) #[] #[]] 90)).cell? ⟨w3.heap.size, 0, none⟩ = some (.int .i64 1) by rw [World.cell?_alloc_at _ _ _ _ rfl]; rfl) hB4; have gT4 := cell_later gT' hB4)
      | (go_at_call 39; refine (R.out _).mono ?_; rintro r w3 ⟨rfl, hB3⟩; have gT := (HS.out.later (bt hB2 hB3)).vT; have gT' := cell_new w3 (.cells #[.int .i64 1, .func (.func 58) #[] #[]] 90) _ _ gT)
      | (go_at_call 38; refine C.out.mono ?_; rintro r w2 ⟨a, cap, rfl, hI, hB2⟩; have HI : Hid (IsI w2 a x.n K) := hI; clear hI; obtain ⟨b0, b1, b2, b3, b4, b5, b6⟩ := (HN.out.later hB2).at0))
    go_quiet (fail)
    go_wp2
    exact bodyPost_ret (v := .tuple #[.int .i64 0, senV T]) (by simp [results, Tryz.results22, go_sem]) rfl ⟨_, rfl, .inr (.inr ⟨rfl, .base T, rfl, rfl⟩), bd (bt HB.out (bt hB2 (bt hB3 (((Below.refl _ _).alloc (Nat.le_refl _) _).trans (hB4.mono (by simp)))))) _⟩
  · go_enter Tryz.func22, Tryz.ntmps22
    go_wp2_with (first
      | (go_at_call 58; refine (M.out a cap _ (HI.out.later (bt hB3 ((Below.refl _ w3).alloc (Nat.le_refl _) _)))).mono ?_; rintro r w4 ⟨rfl, hB4⟩; have gR := cell_later (show (w3.alloc (.cells #[.int .i64 1, .func (.func 58) #[] #[]] 90)).cell? ⟨w3.heap.size, 0, none⟩ = some (.int .i64 1) by rw [World.cell?_alloc_at _ _ _ _ rfl]; rfl) hB4; have gT4 := cell_later gT' hB4)
      | (go_at_call 39; refine (R.out _).mono ?_; rintro r w3 ⟨rfl, hB3⟩; have gT := (HS.out.later (bt hB2 hB3)).vT; have gT' := cell_new w3 (.cells #[.int .i64 1, .func (.func 58) #[] #[]] 90) _ _ gT)
      | (go_at_call 38; refine C.out.mono ?_; rintro r w2 ⟨a, cap, rfl, hI, hB2⟩; have HI : Hid (IsI w2 a x.n K) := hI; clear hI; obtain ⟨b0, b1, b2, b3, b4, b5, b6⟩ := (HN.out.later hB2).at0))
    exact bodyPost_ret (v := .tuple #[.int .i64 1, .nilIface]) (by simp [results, Tryz.results22, go_sem]) rfl ⟨.nilIface, rfl, .inl ⟨rfl, rfl⟩, bt HB.out (bt hB2 (bt hB3 (((Below.refl _ _).alloc (Nat.le_refl _) _).trans (hB4.mono (by simp)))))⟩
set_option maxRecDepth 100000 in
set_option maxHeartbeats 4000000 in
theorem kind_D (nv : Value) (N T : Addr) (x : X) (K : Nat → Int) (w : World) (hS : Sens w N T) (hk : x.k = 15 ∨ x.k = 16 ∨ x.k = 17) (hn : x.n ≤ 1048576) (HP : ∀ d, Below w.heap.size w d → Calls Tryz.prog 38 #[nv, x.slice] d fun r w' => ∃ a cap, r = .returned (.tuple #[.slice a x.n cap, .nilIface]) ∧ IsI w' a x.n K ∧ Below d.heap.size d w') :
    KindC nv N T x (if allB K 1 x.n = true then 1 else 0) (if allB K 1 x.n = true then 0 else 5) w := by
  obtain ⟨A, hA, hB, hs, hn0⟩ := one_box x w
  have HN : Hid (Node A w.heap.size 0 x) := hn0
  obtain ⟨a0, a1, a2, a3, a4, a5, a6⟩ := hn0.at0
  have h1' : (x.k == 1) = false := by simp; omega
  have h2' : (x.k == 2) = false := by simp; omega
  have HB : Hid (Below w.heap.size w A) := hB
  have C : Hid (Calls Tryz.prog 38 _ A _) := HP A hB
  have HS : Hid (Sens A N T) := hS.later hB
  have R : Hid (∀ d : World, Calls Tryz.prog 39 _ d _) := fun d => ruleD x.k d hk
  have M : Hid (∀ (a : Option Addr) (cap p : Nat) (d : World), IsI d a x.n K → d.cell? ⟨p, 0, none⟩ = some (.int .i64 1) → Calls Tryz.prog 79 #[.slice a x.n cap, .pointer (some ⟨p, 0, none⟩)] d fun e w' => e = .returned (.bool (allB K 1 x.n)) ∧ w' = d) := fun a cap p d h1 h2 => all1_any a x.n cap p K 1 d h1 hn h2
  clear hB hn0 hk HP hS hn 
  unfold KindC
  generalize allB K 1 x.n = q at M ⊢
  cases q
  · go_enter Tryz.func22, Tryz.ntmps22
    go_wp2_with (first
      | (go_at_call 79; refine (M.out a cap p _ (HI.out.later (bt hB3 ((Below.refl _ w3).alloc (Nat.le_refl _) _))) (cell_new w3 _ _ _ hp)).mono ?_; rintro r w4 ⟨rfl, rfl⟩)
      | (go_at_call 39; refine (R.out _).mono ?_; rintro r w3 ⟨p, rfl, hp, hB3⟩; have gT := (HS.out.later (bt hB2 hB3)).vT; have gT' := cell_new w3 (.cells #[.int .i64 1, .func (.func 79) #[] #[.pointer (some ⟨p, 0, none⟩)]] 90) _ _ gT)
      | (go_at_call 38; refine C.out.mono ?_; rintro r w2 ⟨a, cap, rfl, hI, hB2⟩; have HI : Hid (IsI w2 a x.n K) := hI; clear hI; obtain ⟨b0, b1, b2, b3, b4, b5, b6⟩ := (HN.out.later hB2).at0))
    go_quiet (fail)
    go_wp2
    exact bodyPost_ret (v := .tuple #[.int .i64 0, senV T]) (by simp [results, Tryz.results22, go_sem]) rfl ⟨_, rfl, .inr (.inr ⟨rfl, .base T, rfl, rfl⟩), bd (bt HB.out (bt hB2 (bt hB3 ((Below.refl _ _).alloc (Nat.le_refl _) _)))) _⟩
  · go_enter Tryz.func22, Tryz.ntmps22
    go_wp2_with (first
      | (go_at_call 79; refine (M.out a cap p _ (HI.out.later (bt hB3 ((Below.refl _ w3).alloc (Nat.le_refl _) _))) (cell_new w3 _ _ _ hp)).mono ?_; rintro r w4 ⟨rfl, rfl⟩)
      | (go_at_call 39; refine (R.out _).mono ?_; rintro r w3 ⟨p, rfl, hp, hB3⟩; have gT := (HS.out.later (bt hB2 hB3)).vT; have gT' := cell_new w3 (.cells #[.int .i64 1, .func (.func 79) #[] #[.pointer (some ⟨p, 0, none⟩)]] 90) _ _ gT)
      | (go_at_call 38; refine C.out.mono ?_; rintro r w2 ⟨a, cap, rfl, hI, hB2⟩; have HI : Hid (IsI w2 a x.n K) := hI; clear hI; obtain ⟨b0, b1, b2, b3, b4, b5, b6⟩ := (HN.out.later hB2).at0))
    exact bodyPost_ret (v := .tuple #[.int .i64 1, .nilIface]) (by simp [results, Tryz.results22, go_sem]) rfl ⟨.nilIface, rfl, .inl ⟨rfl, rfl⟩, bt HB.out (bt hB2 (bt hB3 ((Below.refl _ _).alloc (Nat.le_refl _) _)))⟩
end Go.Proofs.YtahlmlbfgijcpaaGreatDoor
