/-
  schema.Find and schema.Field (P7.1): the first of that name, by a closure.
  schema.Find and schema.Field (P7.1), whole; the law's own 'awake'.
-/
import Derived.Test.YtahlmlbfgijcpaaGreatDoorCSchBase
import Derived.BigQuiet
import Derived.Deep.DeepCutAuto
namespace Go.Proofs.YtahlmlbfgijcpaaGreatDoor
open Go.RowKit

set_option maxHeartbeats 1000000 in
theorem find1_any (S s : ByteArray) (v : Value) (p : Nat) (w : World) (hp : w.cell? ⟨p, 0, none⟩ = some (.string s)) : Calls Tryz.prog 33 #[schV S v, .pointer (some ⟨p, 0, none⟩)] w fun e w' => e = .returned (.bool (decide (S = s))) ∧ Below w.heap.size w w' := by
  have hp1 := cell_new w (schO S v) _ _ hp
  clear hp
  go_enter Tryz.func33, Tryz.ntmps33
  go_wp2
  go_ret
  exact ⟨ret_bool (same_str S s), (Below.refl _ _).alloc (Nat.le_refl _) _⟩
set_option maxHeartbeats 1000000 in
theorem field1_any (S s : ByteArray) (k : Int) (p : Nat) (w : World) (hp : w.cell? ⟨p, 0, none⟩ = some (.string s)) : Calls Tryz.prog 78 #[fldV S k, .pointer (some ⟨p, 0, none⟩)] w fun e w' => e = .returned (.bool (decide (S = s))) ∧ Below w.heap.size w w' := by
  have hp1 := cell_new w (fldO S k) _ _ hp
  clear hp
  go_enter Tryz.func78, Tryz.ntmps78
  go_wp2
  go_ret
  exact ⟨ret_bool (same_str S s), (Below.refl _ _).alloc (Nat.le_refl _) _⟩

set_option maxRecDepth 100000 in
set_option maxHeartbeats 2000000 in
theorem indexS_some (a : Option Addr) (n cap i p : Nat) (Nm : Nat → ByteArray) (V : Nat → Value) (s : ByteArray) (w : World) (H : Row2 w a n Nm V) (hn : n ≤ 9223372036854775807) (hp : w.cell? ⟨p, 0, none⟩ = some (.string s)) (hi : i < n) (he : Nm i = s) (hl : ∀ j, j < i → ¬ Nm j = s) :
    Calls Tryz.prog 32 #[.slice a n cap, .func (.func 33) #[] #[.pointer (some ⟨p, 0, none⟩)]] w fun e w' => e = .returned (.int .i64 i) ∧ Below w.heap.size w w' := by
  obtain ⟨b, off, rfl, hc⟩ := H (by omega)
  have HC : Hid (∀ j, j < n → _) := hc
  have HE : Hid (Nm i = s) := he
  have HL : Hid (∀ j, j < i → ¬ Nm j = s) := hl
  have HP : Hid (w.cell? ⟨p, 0, none⟩ = some (.string s)) := hp
  clear H hc he hl hp
  go_enter Tryz.func32, Tryz.ntmps32
  go_wp2
  go_loopw [8] (fun v wr => ∃ k : Nat, k ≤ i ∧ v = .int .i64 k ∧ Below w.heap.size w wr) (fun v _ => i - (intOf v).toNat)
  case atStart => exact ⟨0, Nat.zero_le _, rfl, Below.refl _ _⟩
  case round =>
    obtain ⟨k, hk, rfl, hB⟩ := hrel
    have hkn : k < n := by omega
    have f0 := cell_later (HC.out k hkn).1.1 hB
    have f1 := cell_later (HC.out k hkn).1.2 hB
    have C : Hid (Calls Tryz.prog 33 _ wr _) := find1_any (Nm k) s (V k) p wr (cell_later HP.out hB)
    by_cases hki : k = i
    · subst hki
      rw [decide_eq_true HE.out] at C
      go_wp2_with (first | (go_at_call 33; refine C.out.mono ?_; rintro e w1 ⟨rfl, hB1⟩))
      try rw [Exit.noGoto_ret]
      go_ret
      exact ⟨rfl, hB.trans (hB1.mono hB.size)⟩
    · rw [decide_eq_false (HL.out k (by omega))] at C
      go_wp2_with (first | (go_at_call 33; refine C.out.mono ?_; rintro e w1 ⟨rfl, hB1⟩))
      go_roundw
      case rel => exact ⟨k + 1, by omega, by go_num, hB.trans (hB1.mono hB.size)⟩
      case measure => simp [intOf]; omega
set_option maxRecDepth 100000 in
set_option maxHeartbeats 2000000 in
theorem indexS_none (a : Option Addr) (n cap p : Nat) (Nm : Nat → ByteArray) (V : Nat → Value) (s : ByteArray) (w : World) (H : Row2 w a n Nm V) (hn : n ≤ 9223372036854775807) (hp : w.cell? ⟨p, 0, none⟩ = some (.string s)) (hl : ∀ j, j < n → ¬ Nm j = s) :
    Calls Tryz.prog 32 #[.slice a n cap, .func (.func 33) #[] #[.pointer (some ⟨p, 0, none⟩)]] w fun e w' => e = .returned (.int .i64 (-1)) ∧ Below w.heap.size w w' := by
  have HC : Hid (Row2 w a n Nm V) := H
  have HL : Hid (∀ j, j < n → ¬ Nm j = s) := hl
  have HP : Hid (w.cell? ⟨p, 0, none⟩ = some (.string s)) := hp
  clear H hl hp
  go_enter Tryz.func32, Tryz.ntmps32
  go_wp2
  go_loopw [8] (fun v wr => ∃ k : Nat, k ≤ n ∧ v = .int .i64 k ∧ Below w.heap.size w wr) (fun v _ => n - (intOf v).toNat)
  case atStart => exact ⟨0, Nat.zero_le _, rfl, Below.refl _ _⟩
  case round =>
    obtain ⟨k, hk, rfl, hB⟩ := hrel
    by_cases hkn : k < n
    · obtain ⟨b, off, rfl, hc⟩ := HC.out (by omega)
      have f0 := cell_later (hc k hkn).1.1 hB
      have f1 := cell_later (hc k hkn).1.2 hB
      have C : Hid (Calls Tryz.prog 33 _ wr _) := find1_any (Nm k) s (V k) p wr (cell_later HP.out hB)
      rw [decide_eq_false (HL.out k hkn)] at C
      clear hc
      go_wp2_with (first | (go_at_call 33; refine C.out.mono ?_; rintro e w1 ⟨rfl, hB1⟩))
      go_roundw
      case rel => exact ⟨k + 1, by omega, by go_num, hB.trans (hB1.mono hB.size)⟩
      case measure => simp [intOf]; omega
    · go_wp2
      go_ret
      exact ⟨rfl, hB⟩

set_option maxRecDepth 100000 in
set_option maxHeartbeats 2000000 in
theorem indexF_some (a : Option Addr) (n cap i p : Nat) (Nm : Nat → ByteArray) (K : Nat → Int) (s : ByteArray) (w : World) (H : Flds w a n Nm K) (hn : n ≤ 9223372036854775807) (hp : w.cell? ⟨p, 0, none⟩ = some (.string s)) (hi : i < n) (he : Nm i = s) (hl : ∀ j, j < i → ¬ Nm j = s) :
    Calls Tryz.prog 77 #[.slice a n cap, .func (.func 78) #[] #[.pointer (some ⟨p, 0, none⟩)]] w fun e w' => e = .returned (.int .i64 i) ∧ Below w.heap.size w w' := by
  obtain ⟨b, off, rfl, hc⟩ := H (by omega)
  have HC : Hid (∀ j, j < n → _) := hc
  have HE : Hid (Nm i = s) := he
  have HL : Hid (∀ j, j < i → ¬ Nm j = s) := hl
  have HP : Hid (w.cell? ⟨p, 0, none⟩ = some (.string s)) := hp
  clear H hc he hl hp
  go_enter Tryz.func77, Tryz.ntmps77
  go_wp2
  go_loopw [8] (fun v wr => ∃ k : Nat, k ≤ i ∧ v = .int .i64 k ∧ Below w.heap.size w wr) (fun v _ => i - (intOf v).toNat)
  case atStart => exact ⟨0, Nat.zero_le _, rfl, Below.refl _ _⟩
  case round =>
    obtain ⟨k, hk, rfl, hB⟩ := hrel
    have hkn : k < n := by omega
    have f0 := cell_later (HC.out k hkn).1.1 hB
    have f1 := cell_later (HC.out k hkn).1.2 hB
    have C : Hid (Calls Tryz.prog 78 _ wr _) := field1_any (Nm k) s (K k) p wr (cell_later HP.out hB)
    by_cases hki : k = i
    · subst hki
      rw [decide_eq_true HE.out] at C
      go_wp2_with (first | (go_at_call 78; refine C.out.mono ?_; rintro e w1 ⟨rfl, hB1⟩))
      try rw [Exit.noGoto_ret]
      go_ret
      exact ⟨rfl, hB.trans (hB1.mono hB.size)⟩
    · rw [decide_eq_false (HL.out k (by omega))] at C
      go_wp2_with (first | (go_at_call 78; refine C.out.mono ?_; rintro e w1 ⟨rfl, hB1⟩))
      go_roundw
      case rel => exact ⟨k + 1, by omega, by go_num, hB.trans (hB1.mono hB.size)⟩
      case measure => simp [intOf]; omega
set_option maxRecDepth 100000 in
set_option maxHeartbeats 2000000 in
theorem indexF_none (a : Option Addr) (n cap p : Nat) (Nm : Nat → ByteArray) (K : Nat → Int) (s : ByteArray) (w : World) (H : Flds w a n Nm K) (hn : n ≤ 9223372036854775807) (hp : w.cell? ⟨p, 0, none⟩ = some (.string s)) (hl : ∀ j, j < n → ¬ Nm j = s) :
    Calls Tryz.prog 77 #[.slice a n cap, .func (.func 78) #[] #[.pointer (some ⟨p, 0, none⟩)]] w fun e w' => e = .returned (.int .i64 (-1)) ∧ Below w.heap.size w w' := by
  have HC : Hid (Flds w a n Nm K) := H
  have HL : Hid (∀ j, j < n → ¬ Nm j = s) := hl
  have HP : Hid (w.cell? ⟨p, 0, none⟩ = some (.string s)) := hp
  clear H hl hp
  go_enter Tryz.func77, Tryz.ntmps77
  go_wp2
  go_loopw [8] (fun v wr => ∃ k : Nat, k ≤ n ∧ v = .int .i64 k ∧ Below w.heap.size w wr) (fun v _ => n - (intOf v).toNat)
  case atStart => exact ⟨0, Nat.zero_le _, rfl, Below.refl _ _⟩
  case round =>
    obtain ⟨k, hk, rfl, hB⟩ := hrel
    by_cases hkn : k < n
    · obtain ⟨b, off, rfl, hc⟩ := HC.out (by omega)
      have f0 := cell_later (hc k hkn).1.1 hB
      have f1 := cell_later (hc k hkn).1.2 hB
      have C : Hid (Calls Tryz.prog 78 _ wr _) := field1_any (Nm k) s (K k) p wr (cell_later HP.out hB)
      rw [decide_eq_false (HL.out k hkn)] at C
      clear hc
      go_wp2_with (first | (go_at_call 78; refine C.out.mono ?_; rintro e w1 ⟨rfl, hB1⟩))
      go_roundw
      case rel => exact ⟨k + 1, by omega, by go_num, hB.trans (hB1.mono hB.size)⟩
      case measure => simp [intOf]; omega
    · go_wp2
      go_ret
      exact ⟨rfl, hB⟩
end Go.Proofs.YtahlmlbfgijcpaaGreatDoor
namespace Go.Proofs.YtahlmlbfgijcpaaGreatDoor
open Go.RowKit

set_option maxHeartbeats 1000000 in
theorem find_some (a : Option Addr) (n cap i : Nat) (Nm : Nat → ByteArray) (V : Nat → Value) (s : ByteArray) (w : World) (H : Row2 w a n Nm V) (hn : n ≤ 9223372036854775807) (hi : i < n) (he : Nm i = s) (hl : ∀ j, j < i → ¬ Nm j = s) :
    Calls Tryz.prog 16 #[.slice a n cap, .string s] w fun e w' => e = .returned (.tuple #[.int .i64 i, .bool true]) ∧ Below w.heap.size w w' := by
  have hB0 : Below w.heap.size w (w.alloc (.cells #[.string s] 9)) := (Below.refl _ _).alloc (Nat.le_refl _) _
  have H1 := H.later hB0
  have hp : (w.alloc (.cells #[.string s] 9)).cell? ⟨w.heap.size, 0, none⟩ = some (.string s) := by rw [World.cell?_alloc_at _ _ _ _ rfl]; rfl
  have C : Hid (Calls Tryz.prog 32 _ (w.alloc (.cells #[.string s] 9)) _) := indexS_some a n cap i w.heap.size Nm V s _ H1 hn hp hi he hl
  clear hn hp hi he hl H H1
  go_enter Tryz.func16, Tryz.ntmps16
  go_wp2_with (first | (go_at_call 32; refine C.out.mono ?_; rintro e w1 ⟨rfl, hB1⟩))
  exact bodyPost_ret (v := .tuple #[.int .i64 i, .bool true]) (by simp [results, Tryz.results16, go_sem]) rfl ⟨rfl, hB0.trans (hB1.mono hB0.size)⟩
set_option maxHeartbeats 1000000 in
theorem find_none (a : Option Addr) (n cap : Nat) (Nm : Nat → ByteArray) (V : Nat → Value) (s : ByteArray) (w : World) (H : Row2 w a n Nm V) (hn : n ≤ 9223372036854775807) (hl : ∀ j, j < n → ¬ Nm j = s) :
    Calls Tryz.prog 16 #[.slice a n cap, .string s] w fun e w' => e = .returned (.tuple #[.int .i64 0, .bool false]) ∧ Below w.heap.size w w' := by
  have hB0 : Below w.heap.size w (w.alloc (.cells #[.string s] 9)) := (Below.refl _ _).alloc (Nat.le_refl _) _
  have H1 := H.later hB0
  have hp : (w.alloc (.cells #[.string s] 9)).cell? ⟨w.heap.size, 0, none⟩ = some (.string s) := by rw [World.cell?_alloc_at _ _ _ _ rfl]; rfl
  have C : Hid (Calls Tryz.prog 32 _ (w.alloc (.cells #[.string s] 9)) _) := indexS_none a n cap w.heap.size Nm V s _ H1 hn hp hl
  clear hn hp hl H H1
  go_enter Tryz.func16, Tryz.ntmps16
  go_wp2_with (first | (go_at_call 32; refine C.out.mono ?_; rintro e w1 ⟨rfl, hB1⟩))
  exact bodyPost_ret (v := .tuple #[.int .i64 0, .bool false]) (by simp [results, Tryz.results16, go_sem]) rfl ⟨rfl, hB0.trans (hB1.mono hB0.size)⟩
set_option maxHeartbeats 1000000 in
theorem field_some (S : ByteArray) (a : Option Addr) (n cap i : Nat) (Nm : Nat → ByteArray) (K : Nat → Int) (s : ByteArray) (w : World) (H : Flds w a n Nm K) (hn : n ≤ 9223372036854775807) (hi : i < n) (he : Nm i = s) (hl : ∀ j, j < i → ¬ Nm j = s) :
    Calls Tryz.prog 55 #[schV S (.slice a n cap), .string s] w fun e w' => e = .returned (.tuple #[.int .i64 i, .int .i64 (K i), .bool true]) ∧ Below w.heap.size w w' := by
  have hB0 : Below w.heap.size w ((w.alloc (schO S (.slice a n cap))).alloc (.cells #[.string s] 9)) := ((Below.refl _ _).alloc (Nat.le_refl _) _).alloc (by simp) _
  have H1 := H.later hB0
  have hp : ((w.alloc (schO S (.slice a n cap))).alloc (.cells #[.string s] 9)).cell? ⟨w.heap.size + 1, 0, none⟩ = some (.string s) := by rw [World.cell?_alloc_at _ _ _ _ (by simp)]; rfl
  have C : Hid (Calls Tryz.prog 77 _ ((w.alloc (schO S (.slice a n cap))).alloc (.cells #[.string s] 9)) _) := indexF_some a n cap i (w.heap.size + 1) Nm K s _ H1 hn hp hi he hl
  have HX : Hid (((w.alloc (schO S (.slice a n cap))).alloc (.cells #[.string s] 9)).cell? ⟨w.heap.size, 1, none⟩ = some (.slice a n cap)) := by
    show ((w.alloc (schO S (.slice a n cap))).alloc (.cells #[.string s] 9)).cell? ⟨w.heap.size, 1, none⟩ = some (.slice a n cap)
    rw [World.cell?_alloc_past _ _ _ (by simp), World.cell?_alloc_at _ _ _ _ rfl]; rfl
  have HR : Hid (Flds ((w.alloc (schO S (.slice a n cap))).alloc (.cells #[.string s] 9)) a n Nm K) := H1
  clear hp he hl H H1
  go_enter Tryz.func55, Tryz.ntmps55
  go_upto_region 2 with (first | (go_at_call 77; refine C.out.mono ?_; rintro e w1 ⟨rfl, hB1⟩))
  have f1 := cell_later HX.out hB1
  obtain ⟨b, off, rfl, hc⟩ := (HR.out.later hB1) (by omega)
  have f2 := (hc i hi).1.2
  clear hc C HX HR
  go_wp2_with fail
  go_quiet (fail)
  go_wp2
  exact bodyPost_ret (v := .tuple #[.int .i64 i, .int .i64 (K i), .bool true]) (by simp [results, Tryz.results55, go_sem]) rfl ⟨rfl, bd (bt hB0 hB1) _⟩
set_option maxHeartbeats 1000000 in
theorem field_none (S : ByteArray) (a : Option Addr) (n cap : Nat) (Nm : Nat → ByteArray) (K : Nat → Int) (s : ByteArray) (w : World) (H : Flds w a n Nm K) (hn : n ≤ 9223372036854775807) (hl : ∀ j, j < n → ¬ Nm j = s) :
    Calls Tryz.prog 55 #[schV S (.slice a n cap), .string s] w fun e w' => e = .returned (.tuple #[.int .i64 0, .int .i64 0, .bool false]) ∧ Below w.heap.size w w' := by
  have hB0 : Below w.heap.size w ((w.alloc (schO S (.slice a n cap))).alloc (.cells #[.string s] 9)) := ((Below.refl _ _).alloc (Nat.le_refl _) _).alloc (by simp) _
  have H1 := H.later hB0
  have hp : ((w.alloc (schO S (.slice a n cap))).alloc (.cells #[.string s] 9)).cell? ⟨w.heap.size + 1, 0, none⟩ = some (.string s) := by rw [World.cell?_alloc_at _ _ _ _ (by simp)]; rfl
  have C : Hid (Calls Tryz.prog 77 _ ((w.alloc (schO S (.slice a n cap))).alloc (.cells #[.string s] 9)) _) := indexF_none a n cap (w.heap.size + 1) Nm K s _ H1 hn hp hl
  clear hn hp hl H H1
  go_enter Tryz.func55, Tryz.ntmps55
  go_wp2_with (first | (go_at_call 77; refine C.out.mono ?_; rintro e w1 ⟨rfl, hB1⟩))
  exact bodyPost_ret (v := .tuple #[.int .i64 0, .int .i64 0, .bool false]) (by simp [results, Tryz.results55, go_sem]) rfl ⟨rfl, hB0.trans (hB1.mono hB0.size)⟩
theorem field_row (w : World) (s : ByteArray) (k : Int) (h : s.size ≤ maxLen) : Flds (w.alloc (fldO s k)) (some ⟨w.heap.size, 0, none⟩) 1 (fun _ => s) (fun _ => k) := by
  intro _
  refine ⟨w.heap.size, 0, rfl, fun j hj => ?_⟩
  obtain rfl : j = 0 := by omega
  refine ⟨⟨?_, ?_⟩, h⟩ <;> rw [World.cell?_alloc_at _ _ _ _ rfl] <;> rfl
end Go.Proofs.YtahlmlbfgijcpaaGreatDoor
