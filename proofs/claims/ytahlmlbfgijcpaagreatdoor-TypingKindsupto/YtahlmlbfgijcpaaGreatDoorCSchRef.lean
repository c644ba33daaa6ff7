/-
  schema.Same (P7.1): all fields?
  The document's Find, Field and Same (P7.1).
-/
import Derived.Test.YtahlmlbfgijcpaaGreatDoorCSchBook
import Derived.Test.YtahlmlbfgijcpaaGreatDoorCSchFind
import Derived.BigQuiet
namespace Go.Proofs.YtahlmlbfgijcpaaGreatDoor
open Go.RowKit

/-- Are the first fields the same? -/
def eqTo (Nm : Nat → ByteArray) (K : Nat → Int) (Nm' : Nat → ByteArray) (K' : Nat → Int) : Nat → Bool
  | 0 => true
  | k + 1 => eqTo Nm K Nm' K' k && (decide (Nm k = Nm' k) && decide (K k = K' k))
theorem eqTo_at (Nm : Nat → ByteArray) (K : Nat → Int) (Nm' : Nat → ByteArray) (K' : Nat → Int) : ∀ n, eqTo Nm K Nm' K' n = true ↔ ∀ j, j < n → Nm j = Nm' j ∧ K j = K' j
  | 0 => by simp [eqTo]
  | n + 1 => by
    simp only [eqTo, Bool.and_eq_true, decide_eq_true_eq, eqTo_at Nm K Nm' K' n]
    constructor
    · rintro ⟨h1, h2⟩ j hj
      by_cases e : j = n
      · exact e ▸ h2
      · exact h1 j (by omega)
    · exact fun h => ⟨fun j hj => h j (by omega), h n (by omega)⟩
theorem eqTo_not {Nm : Nat → ByteArray} {K : Nat → Int} {Nm' : Nat → ByteArray} {K' : Nat → Int} {n : Nat} (k : Nat) (hk : k < n) (h : ¬ (Nm k = Nm' k ∧ K k = K' k)) : eqTo Nm K Nm' K' n = false := by
  cases e : eqTo Nm K Nm' K' n with
  | false => rfl
  | true => exact absurd ((eqTo_at Nm K Nm' K' n).1 e k hk) h
/-- Same's answer. -/
def sameB (S : ByteArray) (n : Nat) (Nm : Nat → ByteArray) (K : Nat → Int) (S' : ByteArray) (n' : Nat) (Nm' : Nat → ByteArray) (K' : Nat → Int) : Bool :=
  decide (S = S') && (decide (n = n') && eqTo Nm K Nm' K' n)

end Go.Proofs.YtahlmlbfgijcpaaGreatDoor
namespace Go.Proofs.YtahlmlbfgijcpaaGreatDoor
open Go.RowKit

set_option maxRecDepth 100000 in
set_option maxHeartbeats 4000000 in
theorem refFind_some (a : Option Addr) (n cap i : Nat) (Nm : Nat → ByteArray) (V : Nat → Value) (s : ByteArray) (w : World) (H : Row2 w a n Nm V) (hn : n ≤ 9223372036854775807) (hi : i < n) (he : Nm i = s) (hl : ∀ j, j < i → ¬ Nm j = s) :
    Calls Tryz.prog 18 #[.slice a n cap, .string s] w fun e w' => e = .returned (.tuple #[.int .i64 i, .bool true]) ∧ Below w.heap.size w w' := by
  obtain ⟨b, off, rfl, hc⟩ := H (by omega)
  have HC : Hid (∀ j, j < n → _) := hc
  have HE : Hid (Nm i = s) := he
  have HL : Hid (∀ j, j < i → ¬ Nm j = s) := hl
  clear H hc he hl
  go_enter Tryz.func18, Tryz.ntmps18
  go_wp2
  go_loopw [6] (fun v wr => ∃ k : Nat, k ≤ i ∧ v = .int .i64 k ∧ Below w.heap.size w wr) (fun v _ => i - (intOf v).toNat)
  case atStart => exact ⟨0, Nat.zero_le _, rfl, Below.refl _ _⟩
  case round =>
    obtain ⟨k, hk, rfl, hB⟩ := hrel
    have hkn : k < n := by omega
    have f0 := cell_later (HC.out k hkn).1.1 hB
    by_cases hki : k = i
    · subst hki
      have s1 := str_yes HE.out
      go_wp2
      try rw [Exit.noGoto_ret]
      exact bodyPost_ret (v := .tuple #[.int .i64 k, .bool true]) (by simp [results, Tryz.results18, go_sem]) rfl ⟨rfl, hB⟩
    · have s1 := str_not (HL.out k (by omega))
      go_wp2
      go_roundw
      case rel => exact ⟨k + 1, by omega, by go_num, hB⟩
      case measure => simp [intOf]; omega
set_option maxRecDepth 100000 in
set_option maxHeartbeats 4000000 in
theorem refFind_none (a : Option Addr) (n cap : Nat) (Nm : Nat → ByteArray) (V : Nat → Value) (s : ByteArray) (w : World) (H : Row2 w a n Nm V) (hn : n ≤ 9223372036854775807) (hl : ∀ j, j < n → ¬ Nm j = s) :
    Calls Tryz.prog 18 #[.slice a n cap, .string s] w fun e w' => e = .returned (.tuple #[.int .i64 0, .bool false]) ∧ Below w.heap.size w w' := by
  have HC : Hid (Row2 w a n Nm V) := H
  have HL : Hid (∀ j, j < n → ¬ Nm j = s) := hl
  clear H hl
  go_enter Tryz.func18, Tryz.ntmps18
  go_wp2
  go_loopw [6] (fun v wr => ∃ k : Nat, k ≤ n ∧ v = .int .i64 k ∧ Below w.heap.size w wr) (fun v _ => n - (intOf v).toNat)
  case atStart => exact ⟨0, Nat.zero_le _, rfl, Below.refl _ _⟩
  case round =>
    obtain ⟨k, hk, rfl, hB⟩ := hrel
    by_cases hkn : k < n
    · obtain ⟨b, off, rfl, hc⟩ := HC.out (by omega)
      have f0 := cell_later (hc k hkn).1.1 hB
      have s1 := str_not (HL.out k hkn)
      clear hc
      go_wp2
      go_roundw
      case rel => exact ⟨k + 1, by omega, by go_num, hB⟩
      case measure => simp [intOf]; omega
    · go_wp2
      exact bodyPost_ret (v := .tuple #[.int .i64 0, .bool false]) (by simp [results, Tryz.results18, go_sem]) rfl ⟨rfl, hB⟩
set_option maxRecDepth 100000 in
set_option maxHeartbeats 4000000 in
theorem refField_some (S : ByteArray) (a : Option Addr) (n cap i : Nat) (Nm : Nat → ByteArray) (K : Nat → Int) (s : ByteArray) (w : World) (H : Flds w a n Nm K) (hn : n ≤ 9223372036854775807) (hi : i < n) (he : Nm i = s) (hl : ∀ j, j < i → ¬ Nm j = s) :
    Calls Tryz.prog 62 #[schV S (.slice a n cap), .string s] w fun e w' => e = .returned (.tuple #[.int .i64 i, .int .i64 (K i), .bool true]) ∧ Below w.heap.size w w' := by
  obtain ⟨b, off, rfl, hc⟩ := H (by omega)
  obtain ⟨a, ha⟩ : ∃ a, a = some (⟨b, off, none⟩ : Addr) := ⟨_, rfl⟩
  have HC : Hid (∀ j, j < n → _) := hc
  have HE : Hid (Nm i = s) := he
  have HL : Hid (∀ j, j < i → ¬ Nm j = s) := hl
  rw [← ha]
  have hB0 : Below w.heap.size w (w.alloc (schO S (.slice a n cap))) := (Below.refl _ _).alloc (Nat.le_refl _) _
  have HX : Hid ((w.alloc (schO S (.slice a n cap))).cell? ⟨w.heap.size, 1, none⟩ = some (.slice a n cap)) := by
    show (w.alloc (schO S (.slice a n cap))).cell? ⟨w.heap.size, 1, none⟩ = some (.slice a n cap)
    rw [World.cell?_alloc_at _ _ _ _ rfl]; rfl
  rw [ha] at hB0 HX
  subst ha
  clear H hc he hl
  go_enter Tryz.func62, Tryz.ntmps62
  go_upto_region 1 with fail
  obtain ⟨W, hW⟩ : ∃ W, W = (w.alloc (schO S (.slice (some ⟨b, off, none⟩) n cap))) := ⟨_, rfl⟩
  obtain ⟨bs, hbs⟩ : ∃ bs, bs = w.heap.size := ⟨_, rfl⟩
  rw [← hW, ← hbs] at HX
  rw [← hW] at hB0
  rw [← hW, ← hbs]
  clear hW hbs
  go_wp2_with fail
  go_loopw [7] (fun v wr => ∃ k : Nat, k ≤ i ∧ v = .int .i64 k ∧ Below W.heap.size W wr) (fun v _ => i - (intOf v).toNat)
  case atStart => exact ⟨0, Nat.zero_le _, rfl, Below.refl _ _⟩
  case round =>
    obtain ⟨k, hk, rfl, hB⟩ := hrel
    have hkn : k < n := by omega
    have f0 := cell_later (cell_later (HC.out k hkn).1.1 hB0) hB
    have f1 : wr.cell? ⟨b, off + k * 2 + 1, none⟩ = some (.int .i64 (K k)) := cell_later (cell_later (HC.out k hkn).1.2 hB0) hB
    have x1 := cell_later HX.out hB
    by_cases hki : k = i
    · subst hki
      have s1 := str_yes HE.out
      go_wp2_with fail
      go_quiet (fail)
      go_wp2
      try rw [Exit.noGoto_ret]
      exact bodyPost_ret (v := .tuple #[.int .i64 k, .int .i64 (K k), .bool true]) (by simp [results, Tryz.results62, go_sem]) rfl ⟨rfl, bt hB0 (bd hB _)⟩
    · have s1 := str_not (HL.out k (by omega))
      go_wp2
      go_roundw
      case rel => exact ⟨k + 1, by omega, by go_num, hB⟩
      case measure => simp [intOf]; omega
set_option maxRecDepth 100000 in
set_option maxHeartbeats 4000000 in
theorem refField_none (S : ByteArray) (a : Option Addr) (n cap : Nat) (Nm : Nat → ByteArray) (K : Nat → Int) (s : ByteArray) (w : World) (H : Flds w a n Nm K) (hn : n ≤ 9223372036854775807) (hl : ∀ j, j < n → ¬ Nm j = s) :
    Calls Tryz.prog 62 #[schV S (.slice a n cap), .string s] w fun e w' => e = .returned (.tuple #[.int .i64 0, .int .i64 0, .bool false]) ∧ Below w.heap.size w w' := by
  have HC : Hid (Flds w a n Nm K) := H
  have HL : Hid (∀ j, j < n → ¬ Nm j = s) := hl
  have hB0 : Below w.heap.size w (w.alloc (schO S (.slice a n cap))) := (Below.refl _ _).alloc (Nat.le_refl _) _
  have HX : Hid ((w.alloc (schO S (.slice a n cap))).cell? ⟨w.heap.size, 1, none⟩ = some (.slice a n cap)) := by
    show (w.alloc (schO S (.slice a n cap))).cell? ⟨w.heap.size, 1, none⟩ = some (.slice a n cap)
    rw [World.cell?_alloc_at _ _ _ _ rfl]; rfl
  clear H hl
  go_enter Tryz.func62, Tryz.ntmps62
  go_upto_region 1 with fail
  obtain ⟨W, hW⟩ : ∃ W, W = (w.alloc (schO S (.slice a n cap))) := ⟨_, rfl⟩
  obtain ⟨bs, hbs⟩ : ∃ bs, bs = w.heap.size := ⟨_, rfl⟩
  rw [← hW, ← hbs] at HX
  rw [← hW] at hB0
  rw [← hW, ← hbs]
  clear hW hbs
  go_wp2_with fail
  go_loopw [7] (fun v wr => ∃ k : Nat, k ≤ n ∧ v = .int .i64 k ∧ Below W.heap.size W wr) (fun v _ => n - (intOf v).toNat)
  case atStart => exact ⟨0, Nat.zero_le _, rfl, Below.refl _ _⟩
  case round =>
    obtain ⟨k, hk, rfl, hB⟩ := hrel
    have x1 := cell_later HX.out hB
    by_cases hkn : k < n
    · obtain ⟨b, off, rfl, hc⟩ := HC.out (by omega)
      have f0 := cell_later (cell_later (hc k hkn).1.1 hB0) hB
      have s1 := str_not (HL.out k hkn)
      clear hc
      go_wp2
      go_roundw
      case rel => exact ⟨k + 1, by omega, by go_num, hB⟩
      case measure => simp [intOf]; omega
    · go_wp2
      exact bodyPost_ret (v := .tuple #[.int .i64 0, .int .i64 0, .bool false]) (by simp [results, Tryz.results62, go_sem]) rfl ⟨rfl, bt hB0 hB⟩
end Go.Proofs.YtahlmlbfgijcpaaGreatDoor
