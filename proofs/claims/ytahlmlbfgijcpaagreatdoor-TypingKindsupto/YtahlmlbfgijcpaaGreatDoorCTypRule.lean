/-
  typing's rules: what parts must be (all, alike, ordered, ruleOf).
-/
import Derived.Test.YtahlmlbfgijcpaaGreatDoorCTypMath
import Derived.Test.YtahlmlbfgijcpaaGreatDoorCSchFind
namespace Go.Proofs.YtahlmlbfgijcpaaGreatDoor
open Go.RowKit

set_option maxHeartbeats 1000000 in
theorem all11_any (q k : Int) (p : Nat) (w : World) (hp : w.cell? ⟨p, 0, none⟩ = some (.int .i64 k)) : Calls Tryz.prog 81 #[.int .i64 q, .pointer (some ⟨p, 0, none⟩)] w fun e w' => e = .returned (.bool (!decide (q = k))) ∧ w' = w := by
  by_cases e : q = k
  · subst e
    go_enter Tryz.func81, Tryz.ntmps81
    go_wp2
    go_ret
    exact ⟨by simp, rfl⟩
  · have e2 : (q != k) = true := by simp [e]
    go_enter Tryz.func81, Tryz.ntmps81
    go_wp2
    go_ret
    exact ⟨by simp [e], rfl⟩
set_option maxRecDepth 100000 in
set_option maxHeartbeats 2000000 in
theorem indexI_some (a : Option Addr) (n cap i p : Nat) (K : Nat → Int) (k0 : Int) (w : World) (H : IsI w a n K) (hn : n ≤ 1048576) (hp : w.cell? ⟨p, 0, none⟩ = some (.int .i64 k0)) (hi : i < n) (he : ¬ K i = k0) (hl : ∀ j, j < i → K j = k0) :
    Calls Tryz.prog 87 #[.slice a n cap, .func (.func 81) #[] #[.pointer (some ⟨p, 0, none⟩)]] w fun e w' => e = .returned (.int .i64 i) ∧ w' = w := by
  obtain ⟨b, off, rfl, hc⟩ := H (by omega)
  have HC : Hid (∀ j, j < n → _) := hc
  have HE : Hid (¬ K i = k0) := he
  have HL : Hid (∀ j, j < i → K j = k0) := hl
  have HP : Hid (w.cell? ⟨p, 0, none⟩ = some (.int .i64 k0)) := hp
  clear H hc he hl hp
  go_enter Tryz.func87, Tryz.ntmps87
  go_wp2
  go_loopw [8] (fun v wr => ∃ k : Nat, k ≤ i ∧ v = .int .i64 k ∧ wr = w) (fun v _ => i - (intOf v).toNat)
  case atStart => exact ⟨0, Nat.zero_le _, rfl, rfl⟩
  case round =>
    obtain ⟨k, hk, rfl, rfl⟩ := hrel
    have hkn : k < n := by omega
    have f0 := HC.out k hkn
    have C : Hid (Calls Tryz.prog 81 _ wr _) := all11_any (K k) k0 p wr HP.out
    by_cases hki : k = i
    · subst hki
      rw [decide_eq_false HE.out] at C
      go_wp2_with (first | (go_at_call 81; refine C.out.mono ?_; rintro e w1 ⟨rfl, rfl⟩))
      try rw [Exit.noGoto_ret]
      go_ret
      exact ⟨rfl, rfl⟩
    · rw [decide_eq_true (HL.out k (by omega))] at C
      go_wp2_with (first | (go_at_call 81; refine C.out.mono ?_; rintro e w1 ⟨rfl, rfl⟩))
      go_roundw
      case rel => exact ⟨k + 1, by omega, by go_num, by first | rfl | trivial⟩
      case measure => simp [intOf]; omega
set_option maxRecDepth 100000 in
set_option maxHeartbeats 2000000 in
theorem indexI_none (a : Option Addr) (n cap p : Nat) (K : Nat → Int) (k0 : Int) (w : World) (H : IsI w a n K) (hn : n ≤ 1048576) (hp : w.cell? ⟨p, 0, none⟩ = some (.int .i64 k0)) (hl : ∀ j, j < n → K j = k0) :
    Calls Tryz.prog 87 #[.slice a n cap, .func (.func 81) #[] #[.pointer (some ⟨p, 0, none⟩)]] w fun e w' => e = .returned (.int .i64 (-1)) ∧ w' = w := by
  have HC : Hid (IsI w a n K) := H
  have HL : Hid (∀ j, j < n → K j = k0) := hl
  have HP : Hid (w.cell? ⟨p, 0, none⟩ = some (.int .i64 k0)) := hp
  clear H hl hp
  go_enter Tryz.func87, Tryz.ntmps87
  go_wp2
  go_loopw [8] (fun v wr => ∃ k : Nat, k ≤ n ∧ v = .int .i64 k ∧ wr = w) (fun v _ => n - (intOf v).toNat)
  case atStart => exact ⟨0, Nat.zero_le _, rfl, rfl⟩
  case round =>
    obtain ⟨k, hk, rfl, rfl⟩ := hrel
    by_cases hkn : k < n
    · obtain ⟨b, off, rfl, hc⟩ := HC.out (by omega)
      have f0 := hc k hkn
      have C : Hid (Calls Tryz.prog 81 _ wr _) := all11_any (K k) k0 p wr HP.out
      rw [decide_eq_true (HL.out k hkn)] at C
      clear hc
      go_wp2_with (first | (go_at_call 81; refine C.out.mono ?_; rintro e w1 ⟨rfl, rfl⟩))
      go_roundw
      case rel => exact ⟨k + 1, by omega, by go_num, by first | rfl | trivial⟩
      case measure => simp [intOf]; omega
    · go_wp2
      go_ret
      exact ⟨rfl, rfl⟩
set_option maxRecDepth 100000 in
set_option maxHeartbeats 2000000 in
theorem otherI_any (a : Option Addr) (n cap p : Nat) (K : Nat → Int) (k0 : Int) (w : World) (H : IsI w a n K) (hn : n ≤ 1048576) (hp : w.cell? ⟨p, 0, none⟩ = some (.int .i64 k0)) :
    Calls Tryz.prog 80 #[.slice a n cap, .func (.func 81) #[] #[.pointer (some ⟨p, 0, none⟩)]] w fun e w' => e = .returned (.bool (!allB K k0 n)) ∧ w' = w := by
  rcases allB_or K k0 n with h | ⟨i, h1, h2, h3⟩
  · rw [allB_yes h]
    have C : Hid (Calls Tryz.prog 87 _ w _) := indexI_none a n cap p K k0 w H hn hp h
    clear H hn hp h
    go_enter Tryz.func80, Tryz.ntmps80
    go_wp2_with (first | (go_at_call 87; refine C.out.mono ?_; rintro e w1 ⟨rfl, rfl⟩))
    go_ret
    exact ⟨rfl, rfl⟩
  · rw [allB_no h2 h1]
    have C : Hid (Calls Tryz.prog 87 _ w _) := indexI_some a n cap i p K k0 w H hn hp h1 h2 h3
    have h0 : (0 : Int) ≤ i := by omega
    clear H hn hp h1 h2 h3
    go_enter Tryz.func80, Tryz.ntmps80
    go_wp2_with (first | (go_at_call 87; refine C.out.mono ?_; rintro e w1 ⟨rfl, rfl⟩))
    go_ret
    exact ⟨by simp, rfl⟩
set_option maxRecDepth 100000 in
set_option maxHeartbeats 2000000 in
/-- The function that 'all' hands back. -/
theorem all1_any (a : Option Addr) (n cap p : Nat) (K : Nat → Int) (k0 : Int) (w : World) (H : IsI w a n K) (hn : n ≤ 1048576) (hp : w.cell? ⟨p, 0, none⟩ = some (.int .i64 k0)) :
    Calls Tryz.prog 79 #[.slice a n cap, .pointer (some ⟨p, 0, none⟩)] w fun e w' => e = .returned (.bool (allB K k0 n)) ∧ w' = w := by
  have C : Hid (Calls Tryz.prog 80 _ w _) := otherI_any a n cap p K k0 w H hn hp
  clear H hn hp
  generalize allB K k0 n = r at C ⊢
  cases r
  · go_enter Tryz.func79, Tryz.ntmps79
    go_wp2_with (first | (go_at_call 80; refine C.out.mono ?_; rintro e w1 ⟨rfl, rfl⟩))
    go_ret
    exact ⟨rfl, rfl⟩
  · go_enter Tryz.func79, Tryz.ntmps79
    go_wp2_with (first | (go_at_call 80; refine C.out.mono ?_; rintro e w1 ⟨rfl, rfl⟩))
    go_ret
    exact ⟨rfl, rfl⟩
set_option maxHeartbeats 1000000 in
theorem allT_any (k0 : Int) (w : World) : Calls Tryz.prog 56 #[.int .i64 k0] w fun e w' => e = .returned (.func (.func 79) #[] #[.pointer (some ⟨w.heap.size, 0, none⟩)]) ∧ w' = w.alloc (.cells #[.int .i64 k0] 3) := by
  go_enter Tryz.func56, Tryz.ntmps56
  go_wp2
  go_ret
  exact ⟨rfl, rfl⟩
theorem box_at (w : World) (k0 : Int) : (w.alloc (.cells #[.int .i64 k0] 3)).cell? ⟨w.heap.size, 0, none⟩ = some (.int .i64 k0) := by rw [World.cell?_alloc_at _ _ _ _ rfl]; rfl
set_option maxRecDepth 100000 in
set_option maxHeartbeats 2000000 in
theorem hasI_some (a : Option Addr) (n cap i : Nat) (K : Nat → Int) (k0 : Int) (w : World) (H : IsI w a n K) (hn : n ≤ 1048576) (hi : i < n) (he : K i = k0) (hl : ∀ j, j < i → ¬ K j = k0) :
    Calls Tryz.prog 88 #[.slice a n cap, .int .i64 k0] w fun e w' => e = .returned (.int .i64 i) ∧ w' = w := by
  obtain ⟨b, off, rfl, hc⟩ := H (by omega)
  have HC : Hid (∀ j, j < n → _) := hc
  have HE : Hid (K i = k0) := he
  have HL : Hid (∀ j, j < i → ¬ K j = k0) := hl
  clear H hc he hl
  go_enter Tryz.func88, Tryz.ntmps88
  go_wp2
  go_loopw [8] (fun v wr => ∃ k : Nat, k ≤ i ∧ v = .int .i64 k ∧ wr = w) (fun v _ => i - (intOf v).toNat)
  case atStart => exact ⟨0, Nat.zero_le _, rfl, rfl⟩
  case round =>
    obtain ⟨k, hk, rfl, rfl⟩ := hrel
    have hkn : k < n := by omega
    have f0 := HC.out k hkn
    by_cases hki : k = i
    · subst hki
      rw [HE.out] at f0
      go_wp2
      try rw [Exit.noGoto_ret]
      go_ret
      exact ⟨rfl, rfl⟩
    · have h1 : ¬ k0 = K k := fun h => HL.out k (by omega) h.symm
      go_wp2
      go_roundw
      case rel => exact ⟨k + 1, by omega, by go_num, by first | rfl | trivial⟩
      case measure => simp [intOf]; omega
set_option maxRecDepth 100000 in
set_option maxHeartbeats 2000000 in
theorem hasI_none (a : Option Addr) (n cap : Nat) (K : Nat → Int) (k0 : Int) (w : World) (H : IsI w a n K) (hn : n ≤ 1048576) (hl : ∀ j, j < n → ¬ K j = k0) :
    Calls Tryz.prog 88 #[.slice a n cap, .int .i64 k0] w fun e w' => e = .returned (.int .i64 (-1)) ∧ w' = w := by
  have HC : Hid (IsI w a n K) := H
  have HL : Hid (∀ j, j < n → ¬ K j = k0) := hl
  clear H hl
  go_enter Tryz.func88, Tryz.ntmps88
  go_wp2
  go_loopw [8] (fun v wr => ∃ k : Nat, k ≤ n ∧ v = .int .i64 k ∧ wr = w) (fun v _ => n - (intOf v).toNat)
  case atStart => exact ⟨0, Nat.zero_le _, rfl, rfl⟩
  case round =>
    obtain ⟨k, hk, rfl, rfl⟩ := hrel
    by_cases hkn : k < n
    · obtain ⟨b, off, rfl, hc⟩ := HC.out (by omega)
      have f0 := hc k hkn
      have h1 : ¬ k0 = K k := fun h => HL.out k hkn h.symm
      clear hc
      go_wp2
      go_roundw
      case rel => exact ⟨k + 1, by omega, by go_num, by first | rfl | trivial⟩
      case measure => simp [intOf]; omega
    · go_wp2
      go_ret
      exact ⟨rfl, rfl⟩
set_option maxRecDepth 100000 in
set_option maxHeartbeats 2000000 in
/-- Is a null among two? -/
theorem nullI_any (a : Option Addr) (cap : Nat) (K : Nat → Int) (w : World) (H : IsI w a 2 K) :
    Calls Tryz.prog 82 #[.slice a 2 cap, .int .i64 0] w fun e w' => e = .returned (.bool (decide (K 0 = 0) || decide (K 1 = 0))) ∧ w' = w := by
  have key : (∃ i : Nat, (decide (K 0 = 0) || decide (K 1 = 0)) = true ∧ Calls Tryz.prog 88 #[.slice a (2 : Nat) cap, .int .i64 0] w fun e w' => e = .returned (.int .i64 i) ∧ w' = w) ∨ ((decide (K 0 = 0) || decide (K 1 = 0)) = false ∧ Calls Tryz.prog 88 #[.slice a (2 : Nat) cap, .int .i64 0] w fun e w' => e = .returned (.int .i64 (-1)) ∧ w' = w) := by
    by_cases h0 : K 0 = 0
    · exact .inl ⟨0, by simp [h0], hasI_some a 2 cap 0 K 0 w H (by omega) (by omega) h0 fun j hj => by omega⟩
    · by_cases h1 : K 1 = 0
      · exact .inl ⟨1, by simp [h1], hasI_some a 2 cap 1 K 0 w H (by omega) (by omega) h1 fun j hj => (show j = 0 by omega) ▸ h0⟩
      · refine .inr ⟨by simp [h0, h1], hasI_none a 2 cap K 0 w H (by omega) fun j hj => ?_⟩
        match j, hj with
        | 0, _ => exact h0
        | 1, _ => exact h1
  clear H
  rcases key with ⟨i, e, c⟩ | ⟨e, c⟩
  · rw [e]
    have C : Hid (Calls Tryz.prog 88 _ w _) := c
    have h0 : (0 : Int) ≤ i := by omega
    clear c e
    go_enter Tryz.func82, Tryz.ntmps82
    go_wp2_with (first | (go_at_call 88; refine C.out.mono ?_; rintro e w1 ⟨rfl, rfl⟩))
    go_ret
    exact ⟨by simp, rfl⟩
  · rw [e]
    have C : Hid (Calls Tryz.prog 88 _ w _) := c
    clear c e
    go_enter Tryz.func82, Tryz.ntmps82
    go_wp2_with (first | (go_at_call 88; refine C.out.mono ?_; rintro e w1 ⟨rfl, rfl⟩))
    go_ret
    exact ⟨rfl, rfl⟩
set_option maxRecDepth 100000 in
set_option maxHeartbeats 2000000 in
theorem alike_any (a : Option Addr) (cap : Nat) (K : Nat → Int) (w : World) (H : IsI w a 2 K) :
    Calls Tryz.prog 57 #[.slice a 2 cap] w fun e w' => e = .returned (.bool (decide (K 0 = K 1) || (decide (K 0 = 0) || decide (K 1 = 0)))) ∧ Below w.heap.size w w' := by
  have C : Hid (∀ d, Below w.heap.size w d → Calls Tryz.prog 82 _ d _) := fun d hd => nullI_any a cap K d (H.later hd)
  obtain ⟨b, o, rfl, hc⟩ := H (by omega)
  have f0 := hc 0 (by omega)
  have f1 := hc 1 (by omega)
  rw [Nat.add_zero] at f0
  clear hc H
  by_cases h : K 0 = K 1
  · rw [decide_eq_true h]
    clear C
    rw [← h] at f1
    generalize K 0 = k0 at *
    go_enter Tryz.func57, Tryz.ntmps57
    go_wp2
    go_quiet (fail)
    go_wp2
    go_ret
    exact ⟨rfl, below_drewN (Below.refl _ _) _⟩
  · rw [decide_eq_false h]
    have h' : (K 0 == K 1) = false := by simp [h]
    generalize (decide (K 0 = 0) || decide (K 1 = 0)) = r at C ⊢
    go_enter Tryz.func57, Tryz.ntmps57
    go_wp2
    go_region_with (first | (go_at_call 82; refine (C.out _ (by first | exact Below.refl _ _ | exact (Below.refl _ _).drew| exact below_drewN (Below.refl _ _) _)).mono ?_; rintro e w1 ⟨rfl, rfl⟩))
    all_goals go_wp2
    all_goals go_ret
    all_goals exact ⟨rfl, (Below.refl _ _).drew⟩
set_option maxRecDepth 100000 in
set_option maxHeartbeats 2000000 in
theorem ordered_any (a : Option Addr) (n cap : Nat) (K : Nat → Int) (w : World) (H : IsI w a n K) (hn : n ≤ 1048576) :
    Calls Tryz.prog 58 #[.slice a n cap] w fun e w' => e = .returned (.bool (allB K 2 n || allB K 3 n)) ∧ Below w.heap.size w w' := by
  obtain ⟨w1, hw1⟩ : ∃ w1, w1 = w.alloc (.cells #[.int .i64 2] 3) := ⟨_, rfl⟩
  obtain ⟨w2, hw2⟩ : ∃ w2, w2 = w1.alloc (.cells #[.int .i64 3] 3) := ⟨_, rfl⟩
  have hB1 : Below w.heap.size w w1 := by rw [hw1]; exact (Below.refl _ _).alloc (Nat.le_refl _) _
  have hB2 : Below w1.heap.size w1 w2 := by rw [hw2]; exact (Below.refl _ _).alloc (Nat.le_refl _) _
  have C1 : Hid (Calls Tryz.prog 79 #[.slice a n cap, .pointer (some ⟨w.heap.size, 0, none⟩)] w1 fun e w' => e = .returned (.bool (allB K 2 n)) ∧ w' = w1) := all1_any a n cap w.heap.size K 2 w1 (H.later hB1) hn (by rw [hw1]; exact box_at w 2)
  have C2 : Hid (Calls Tryz.prog 79 #[.slice a n cap, .pointer (some ⟨w1.heap.size, 0, none⟩)] w2 fun e w' => e = .returned (.bool (allB K 3 n)) ∧ w' = w2) := all1_any a n cap w1.heap.size K 3 w2 ((H.later hB1).later hB2) hn (by rw [hw2]; exact box_at w1 3)
  have A1 : Hid (Calls Tryz.prog 56 #[.int .i64 2] w fun e w' => e = .returned (.func (.func 79) #[] #[.pointer (some ⟨w.heap.size, 0, none⟩)]) ∧ w' = w1) := by rw [hw1]; exact allT_any 2 w
  have A2 : Hid (Calls Tryz.prog 56 #[.int .i64 3] w1 fun e w' => e = .returned (.func (.func 79) #[] #[.pointer (some ⟨w1.heap.size, 0, none⟩)]) ∧ w' = w2) := by rw [hw2]; exact allT_any 3 w1
  clear H hn hw1 hw2
  generalize allB K 2 n = r at C1 ⊢
  generalize allB K 3 n = s at C2 ⊢
  cases r
  · go_enter Tryz.func58, Tryz.ntmps58
    go_wp2_with (first
      | (go_at_call 56; refine A2.out.mono ?_; rintro e w' ⟨rfl, rfl⟩)
      | (go_at_call 56; refine A1.out.mono ?_; rintro e w' ⟨rfl, rfl⟩)
      | (go_at_call 79; refine C2.out.mono ?_; rintro e w' ⟨rfl, rfl⟩)
      | (go_at_call 79; refine C1.out.mono ?_; rintro e w' ⟨rfl, rfl⟩))
    go_ret
    exact ⟨by simp, hB1.trans (hB2.mono hB1.size)⟩
  · go_enter Tryz.func58, Tryz.ntmps58
    go_wp2_with (first
      | (go_at_call 56; refine A1.out.mono ?_; rintro e w' ⟨rfl, rfl⟩)
      | (go_at_call 79; refine C1.out.mono ?_; rintro e w' ⟨rfl, rfl⟩))
    go_ret
    exact ⟨by simp, hB1⟩
end Go.Proofs.YtahlmlbfgijcpaaGreatDoor
