/-
  schema.Find and schema.Field (P7.1): the first of that name, by a closure.
-/
import Derived.Test.YtelabjipclfpnaaSchBase
import Derived.BigQuiet
namespace Go.Proofs.Ytelabjipclfpnaa
open Go.RowKit

set_option maxHeartbeats 1000000 in
theorem find1_any (S s : ByteArray) (v : Value) (p : Nat) (w : World) (hp : w.cell? ⟨p, 0, none⟩ = some (.string s)) : Calls Try.prog 47 #[schV S v, .pointer (some ⟨p, 0, none⟩)] w fun e w' => e = .returned (.bool (decide (S = s))) ∧ Below w.heap.size w w' := by
  have hp1 := cell_new w (schO S v) _ _ hp
  clear hp
  go_enter Try.func47, Try.ntmps47
  go_wp2
  go_ret
  exact ⟨ret_bool (same_str S s), (Below.refl _ _).alloc (Nat.le_refl _) _⟩
set_option maxHeartbeats 1000000 in
theorem field1_any (S s : ByteArray) (k : Int) (p : Nat) (w : World) (hp : w.cell? ⟨p, 0, none⟩ = some (.string s)) : Calls Try.prog 42 #[fldV S k, .pointer (some ⟨p, 0, none⟩)] w fun e w' => e = .returned (.bool (decide (S = s))) ∧ Below w.heap.size w w' := by
  have hp1 := cell_new w (fldO S k) _ _ hp
  clear hp
  go_enter Try.func42, Try.ntmps42
  go_wp2
  go_ret
  exact ⟨ret_bool (same_str S s), (Below.refl _ _).alloc (Nat.le_refl _) _⟩

set_option maxRecDepth 100000 in
set_option maxHeartbeats 2000000 in
theorem indexS_some (a : Option Addr) (n cap i p : Nat) (Nm : Nat → ByteArray) (V : Nat → Value) (s : ByteArray) (w : World) (H : Row2 w a n Nm V) (hn : n ≤ 9223372036854775807) (hp : w.cell? ⟨p, 0, none⟩ = some (.string s)) (hi : i < n) (he : Nm i = s) (hl : ∀ j, j < i → ¬ Nm j = s) :
    Calls Try.prog 46 #[.slice a n cap, .func (.func 47) #[] #[.pointer (some ⟨p, 0, none⟩)]] w fun e w' => e = .returned (.int .i64 i) ∧ Below w.heap.size w w' := by
  obtain ⟨b, off, rfl, hc⟩ := H (by omega)
  have HC : Hid (∀ j, j < n → _) := hc
  have HE : Hid (Nm i = s) := he
  have HL : Hid (∀ j, j < i → ¬ Nm j = s) := hl
  have HP : Hid (w.cell? ⟨p, 0, none⟩ = some (.string s)) := hp
  clear H hc he hl hp
  go_enter Try.func46, Try.ntmps46
  go_wp2
  go_loopw [8] (fun v wr => ∃ k : Nat, k ≤ i ∧ v = .int .i64 k ∧ Below w.heap.size w wr) (fun v _ => i - (intOf v).toNat)
  case atStart => exact ⟨0, Nat.zero_le _, rfl, Below.refl _ _⟩
  case round =>
    obtain ⟨k, hk, rfl, hB⟩ := hrel
    have hkn : k < n := by omega
    have f0 := cell_later (HC.out k hkn).1.1 hB
    have f1 := cell_later (HC.out k hkn).1.2 hB
    have C : Hid (Calls Try.prog 47 _ wr _) := find1_any (Nm k) s (V k) p wr (cell_later HP.out hB)
    by_cases hki : k = i
    · subst hki
      rw [decide_eq_true HE.out] at C
      go_wp2_with (first | (go_at_call 47; refine C.out.mono ?_; rintro e w1 ⟨rfl, hB1⟩))
      try rw [Exit.noGoto_ret]
      go_ret
      exact ⟨rfl, hB.trans (hB1.mono hB.size)⟩
    · rw [decide_eq_false (HL.out k (by omega))] at C
      go_wp2_with (first | (go_at_call 47; refine C.out.mono ?_; rintro e w1 ⟨rfl, hB1⟩))
      go_roundw
      case rel => exact ⟨k + 1, by omega, by go_num, hB.trans (hB1.mono hB.size)⟩
      case measure => simp [intOf]; omega
set_option maxRecDepth 100000 in
set_option maxHeartbeats 2000000 in
theorem indexS_none (a : Option Addr) (n cap p : Nat) (Nm : Nat → ByteArray) (V : Nat → Value) (s : ByteArray) (w : World) (H : Row2 w a n Nm V) (hn : n ≤ 9223372036854775807) (hp : w.cell? ⟨p, 0, none⟩ = some (.string s)) (hl : ∀ j, j < n → ¬ Nm j = s) :
    Calls Try.prog 46 #[.slice a n cap, .func (.func 47) #[] #[.pointer (some ⟨p, 0, none⟩)]] w fun e w' => e = .returned (.int .i64 (-1)) ∧ Below w.heap.size w w' := by
  have HC : Hid (Row2 w a n Nm V) := H
  have HL : Hid (∀ j, j < n → ¬ Nm j = s) := hl
  have HP : Hid (w.cell? ⟨p, 0, none⟩ = some (.string s)) := hp
  clear H hl hp
  go_enter Try.func46, Try.ntmps46
  go_wp2
  go_loopw [8] (fun v wr => ∃ k : Nat, k ≤ n ∧ v = .int .i64 k ∧ Below w.heap.size w wr) (fun v _ => n - (intOf v).toNat)
  case atStart => exact ⟨0, Nat.zero_le _, rfl, Below.refl _ _⟩
  case round =>
    obtain ⟨k, hk, rfl, hB⟩ := hrel
    by_cases hkn : k < n
    · obtain ⟨b, off, rfl, hc⟩ := HC.out (by omega)
      have f0 := cell_later (hc k hkn).1.1 hB
      have f1 := cell_later (hc k hkn).1.2 hB
      have C : Hid (Calls Try.prog 47 _ wr _) := find1_any (Nm k) s (V k) p wr (cell_later HP.out hB)
      rw [decide_eq_false (HL.out k hkn)] at C
      clear hc
      go_wp2_with (first | (go_at_call 47; refine C.out.mono ?_; rintro e w1 ⟨rfl, hB1⟩))
      go_roundw
      case rel => exact ⟨k + 1, by omega, by go_num, hB.trans (hB1.mono hB.size)⟩
      case measure => simp [intOf]; omega
    · go_wp2
      go_ret
      exact ⟨rfl, hB⟩

set_option maxRecDepth 100000 in
set_option maxHeartbeats 2000000 in
theorem indexF_some (a : Option Addr) (n cap i p : Nat) (Nm : Nat → ByteArray) (K : Nat → Int) (s : ByteArray) (w : World) (H : Flds w a n Nm K) (hn : n ≤ 9223372036854775807) (hp : w.cell? ⟨p, 0, none⟩ = some (.string s)) (hi : i < n) (he : Nm i = s) (hl : ∀ j, j < i → ¬ Nm j = s) :
    Calls Try.prog 41 #[.slice a n cap, .func (.func 42) #[] #[.pointer (some ⟨p, 0, none⟩)]] w fun e w' => e = .returned (.int .i64 i) ∧ Below w.heap.size w w' := by
  obtain ⟨b, off, rfl, hc⟩ := H (by omega)
  have HC : Hid (∀ j, j < n → _) := hc
  have HE : Hid (Nm i = s) := he
  have HL : Hid (∀ j, j < i → ¬ Nm j = s) := hl
  have HP : Hid (w.cell? ⟨p, 0, none⟩ = some (.string s)) := hp
  clear H hc he hl hp
  go_enter Try.func41, Try.ntmps41
  go_wp2
  go_loopw [8] (fun v wr => ∃ k : Nat, k ≤ i ∧ v = .int .i64 k ∧ Below w.heap.size w wr) (fun v _ => i - (intOf v).toNat)
  case atStart => exact ⟨0, Nat.zero_le _, rfl, Below.refl _ _⟩
  case round =>
    obtain ⟨k, hk, rfl, hB⟩ := hrel
    have hkn : k < n := by omega
    have f0 := cell_later (HC.out k hkn).1.1 hB
    have f1 := cell_later (HC.out k hkn).1.2 hB
    have C : Hid (Calls Try.prog 42 _ wr _) := field1_any (Nm k) s (K k) p wr (cell_later HP.out hB)
    by_cases hki : k = i
    · subst hki
      rw [decide_eq_true HE.out] at C
      go_wp2_with (first | (go_at_call 42; refine C.out.mono ?_; rintro e w1 ⟨rfl, hB1⟩))
      try rw [Exit.noGoto_ret]
      go_ret
      exact ⟨rfl, hB.trans (hB1.mono hB.size)⟩
    · rw [decide_eq_false (HL.out k (by omega))] at C
      go_wp2_with (first | (go_at_call 42; refine C.out.mono ?_; rintro e w1 ⟨rfl, hB1⟩))
      go_roundw
      case rel => exact ⟨k + 1, by omega, by go_num, hB.trans (hB1.mono hB.size)⟩
      case measure => simp [intOf]; omega
set_option maxRecDepth 100000 in
set_option maxHeartbeats 2000000 in
theorem indexF_none (a : Option Addr) (n cap p : Nat) (Nm : Nat → ByteArray) (K : Nat → Int) (s : ByteArray) (w : World) (H : Flds w a n Nm K) (hn : n ≤ 9223372036854775807) (hp : w.cell? ⟨p, 0, none⟩ = some (.string s)) (hl : ∀ j, j < n → ¬ Nm j = s) :
    Calls Try.prog 41 #[.slice a n cap, .func (.func 42) #[] #[.pointer (some ⟨p, 0, none⟩)]] w fun e w' => e = .returned (.int .i64 (-1)) ∧ Below w.heap.size w w' := by
  have HC : Hid (Flds w a n Nm K) := H
  have HL : Hid (∀ j, j < n → ¬ Nm j = s) := hl
  have HP : Hid (w.cell? ⟨p, 0, none⟩ = some (.string s)) := hp
  clear H hl hp
  go_enter Try.func41, Try.ntmps41
  go_wp2
  go_loopw [8] (fun v wr => ∃ k : Nat, k ≤ n ∧ v = .int .i64 k ∧ Below w.heap.size w wr) (fun v _ => n - (intOf v).toNat)
  case atStart => exact ⟨0, Nat.zero_le _, rfl, Below.refl _ _⟩
  case round =>
    obtain ⟨k, hk, rfl, hB⟩ := hrel
    by_cases hkn : k < n
    · obtain ⟨b, off, rfl, hc⟩ := HC.out (by omega)
      have f0 := cell_later (hc k hkn).1.1 hB
      have f1 := cell_later (hc k hkn).1.2 hB
      have C : Hid (Calls Try.prog 42 _ wr _) := field1_any (Nm k) s (K k) p wr (cell_later HP.out hB)
      rw [decide_eq_false (HL.out k hkn)] at C
      clear hc
      go_wp2_with (first | (go_at_call 42; refine C.out.mono ?_; rintro e w1 ⟨rfl, hB1⟩))
      go_roundw
      case rel => exact ⟨k + 1, by omega, by go_num, hB.trans (hB1.mono hB.size)⟩
      case measure => simp [intOf]; omega
    · go_wp2
      go_ret
      exact ⟨rfl, hB⟩
end Go.Proofs.Ytelabjipclfpnaa
