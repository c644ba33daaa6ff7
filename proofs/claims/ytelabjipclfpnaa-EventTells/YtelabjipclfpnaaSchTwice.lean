/-
  Names that were seen are in a map (schema.twice): is one of them there again?
-/
import Derived.Test.YtelabjipclfpnaaSchBase
import Derived.Maps.OwnSet
namespace Go.Proofs.Ytelabjipclfpnaa
open Go.RowKit Go.Maps Go.WideMaps

theorem str_law : Keyed Try.prog 9 := string_keyed Try.underlying9
/-- A name as a key. -/
abbrev keyS (s : ByteArray) : Lit := .string s.data.toList
theorem keyS_ne {s t : ByteArray} (h : ¬ s = t) : keyS s ≠ keyS t := by
  intro e
  injection e with e
  exact h (ByteArray.ext (Array.ext' e))
/-- What the map tells of the first names. -/
structure Seen (Nm : Nat → ByteArray) (k : Nat) (D : DataW Unit) : Prop where
  has : ∀ s, Maps.has D (keyS s) = seenB Nm s k
  le : Maps.size D ≤ k
  lt : Maps.size D < k ↔ dupB Nm k = true
theorem seen_none (Nm : Nat → ByteArray) : Seen Nm 0 (.map []) := ⟨fun _ => rfl, Nat.le_refl _, by simp [dupB]⟩
theorem Seen.more {Nm : Nat → ByteArray} {k : Nat} {D : DataW Unit} (h : Seen Nm k D) (hm : IsMap D) (ht : Tidy D) (d : DataW Unit) : Seen Nm (k + 1) (D.put (keyS (Nm k)) d) := by
  have e := size_put (k := keyS (Nm k)) ht d
  rw [h.has] at e
  refine ⟨fun s => ?_, ?_, ?_⟩
  · by_cases hs : Nm k = s
    · subst hs
      rw [has_put_same hm (by simp [WideAt.IsKeyLit])]
      simp [seenB]
    · rw [has_put_other (keyS_ne fun q => hs q.symm), h.has]
      simp [seenB, hs]
  · rw [e]
    have := h.le
    split <;> omega
  · rw [e]
    have h1 := h.le
    have h2 := h.lt
    simp only [dupB, Bool.or_eq_true]
    cases hs : seenB Nm (Nm k) k with
    | true => simp; omega
    | false => simp [← h2]
theorem Seen.dup {Nm : Nat → ByteArray} {k : Nat} {D : DataW Unit} (h : Seen Nm k D) : decide (Maps.size D < k) = dupB Nm k := by
  rw [Bool.eq_iff_iff, decide_eq_true_eq, ← h.lt]
set_option maxHeartbeats 1000000 in
theorem check1_any (a : Option Addr) (n cap i p : Nat) (Nm : Nat → ByteArray) (V : Nat → Value) (w : World) (H : Row2 w a n Nm V) (hi : i < n) (hn : n ≤ 9223372036854775807) (hp : w.cell? ⟨p, 1, none⟩ = some (.slice a n cap)) :
    Calls Try.prog 37 #[.int .i64 i, .pointer (some ⟨p, 0, none⟩)] w fun e w' => e = .returned (.string (Nm i)) ∧ w' = w := by
  obtain ⟨b, off, rfl, hc⟩ := H (by omega)
  have f0 := (hc i hi).1.1
  clear H hc
  go_enter Try.func37, Try.ntmps37
  go_wp2
  go_ret
  exact ⟨rfl, rfl⟩
set_option maxRecDepth 100000 in
set_option maxHeartbeats 2000000 in
theorem twice_check (a : Option Addr) (n cap p : Nat) (Nm : Nat → ByteArray) (V : Nat → Value) (w : World) (H : Row2 w a n Nm V) (hn : n ≤ 16) (hp : w.cell? ⟨p, 1, none⟩ = some (.slice a n cap)) :
    Calls Try.prog 29 #[.int .i64 n, .func (.func 37) #[] #[.pointer (some ⟨p, 0, none⟩)]] w fun e w' => e = .returned (.bool (dupB Nm n)) ∧ Below w.heap.size w w' := by
  have hmm := @run_makeMap Try.prog
  have HC : Hid (Row2 w a n Nm V) := H
  have HP : Hid (w.cell? ⟨p, 1, none⟩ = some (.slice a n cap)) := hp
  clear H hp
  go_enter Try.func29, Try.ntmps29
  go_wp2
  go_loopw [9] (fun v wr => ∃ k : Nat, k ≤ n ∧ v = .int .i64 k ∧ (∃ D, wr.ownsMap Try.prog 9 (plainElem (H := Unit) Try.prog 3) w.heap.size k D ∧ Hid (Seen Nm k D)) ∧ Below w.heap.size w wr) (fun v _ => n - (intOf v).toNat)
  case atStart => exact ⟨0, Nat.zero_le _, rfl, ⟨_, World.ownsMap_made _ _ _ _, seen_none Nm⟩, (Below.refl _ _).alloc (Nat.le_refl _) _⟩
  case round =>
    obtain ⟨k, hk, rfl, ⟨D, hown, HS⟩, hB⟩ := hrel
    by_cases hkn : k < n
    · have C : Hid (Calls Try.prog 37 _ wr _) := check1_any a n cap k p Nm V wr (HC.out.later hB) hkn (by omega) (cell_later HP.out hB)
      have hsz : (Nm k).size ≤ maxLen := by
        obtain ⟨_, _, _, hc⟩ := HC.out (by omega)
        exact (hc k hkn).2
      have HZ : Hid ((Nm k).size ≤ maxLen) := hsz
      have hkey : keyOf Try.prog 9 (.string (Nm k)) = some (keyS (Nm k)) := keyOf_string_mk Try.underlying9 hsz
      clear hsz
      go_wp2_with (first
        | (go_at_call 37; refine C.out.mono ?_; rintro e w1 ⟨rfl, hw1⟩; replace hw1 := hw1.symm; subst hw1)
        | (at_mapUpdate; refine wpList_mapUpdate_own _ rfl _ _ _ 78 rfl 9 3 str_law Try.underlying78 (plainElem (H := Unit) Try.prog 3) w.heap.size k _ rfl hown (by unfold maxLen; omega) _ _ _ rfl rfl hkey _ [] (plainElem_int Try.underlying3 (WalkArith.wf_i64 (by omega))) ?_; intro w1 hown1 hgrow1)
        | go_in)
      go_roundw
      case rel => exact ⟨k + 1, by omega, by go_num, ⟨_, hown1, HS.out.more hown.isMap (hown.tidy str_law) _⟩, hB.grown hgrow1 hB.size (fun j hj => by cases hj; exact Nat.le_refl _)⟩
      case measure => simp [intOf]; omega
    · obtain rfl : k = n := by omega
      go_wp2_with (first
        | (at_len; refine wpList_len_own _ rfl _ 78 rfl 9 3 Try.underlying78 _ w.heap.size k _ rfl hown ?_)
        | go_in)
      go_ret
      exact ⟨ret_bool HS.out.dup, hB⟩
set_option maxHeartbeats 1000000 in
theorem book1_any (a : Option Addr) (n cap i p : Nat) (Nm : Nat → ByteArray) (V : Nat → Value) (w : World) (H : Row2 w a n Nm V) (hi : i < n) (hn : n ≤ 9223372036854775807) (hp : w.cell? ⟨p, 0, none⟩ = some (.slice a n cap)) :
    Calls Try.prog 30 #[.int .i64 i, .pointer (some ⟨p, 0, none⟩)] w fun e w' => e = .returned (.string (Nm i)) ∧ w' = w := by
  obtain ⟨b, off, rfl, hc⟩ := H (by omega)
  have f0 := (hc i hi).1.1
  clear H hc
  go_enter Try.func30, Try.ntmps30
  go_wp2
  go_ret
  exact ⟨rfl, rfl⟩
set_option maxRecDepth 100000 in
set_option maxHeartbeats 2000000 in
theorem twice_book (a : Option Addr) (n cap p : Nat) (Nm : Nat → ByteArray) (V : Nat → Value) (w : World) (H : Row2 w a n Nm V) (hn : n ≤ 16) (hp : w.cell? ⟨p, 0, none⟩ = some (.slice a n cap)) :
    Calls Try.prog 29 #[.int .i64 n, .func (.func 30) #[] #[.pointer (some ⟨p, 0, none⟩)]] w fun e w' => e = .returned (.bool (dupB Nm n)) ∧ Below w.heap.size w w' := by
  have hmm := @run_makeMap Try.prog
  have HC : Hid (Row2 w a n Nm V) := H
  have HP : Hid (w.cell? ⟨p, 0, none⟩ = some (.slice a n cap)) := hp
  clear H hp
  go_enter Try.func29, Try.ntmps29
  go_wp2
  go_loopw [9] (fun v wr => ∃ k : Nat, k ≤ n ∧ v = .int .i64 k ∧ (∃ D, wr.ownsMap Try.prog 9 (plainElem (H := Unit) Try.prog 3) w.heap.size k D ∧ Hid (Seen Nm k D)) ∧ Below w.heap.size w wr) (fun v _ => n - (intOf v).toNat)
  case atStart => exact ⟨0, Nat.zero_le _, rfl, ⟨_, World.ownsMap_made _ _ _ _, seen_none Nm⟩, (Below.refl _ _).alloc (Nat.le_refl _) _⟩
  case round =>
    obtain ⟨k, hk, rfl, ⟨D, hown, HS⟩, hB⟩ := hrel
    by_cases hkn : k < n
    · have C : Hid (Calls Try.prog 30 _ wr _) := book1_any a n cap k p Nm V wr (HC.out.later hB) hkn (by omega) (cell_later HP.out hB)
      have hsz : (Nm k).size ≤ maxLen := by
        obtain ⟨_, _, _, hc⟩ := HC.out (by omega)
        exact (hc k hkn).2
      have HZ : Hid ((Nm k).size ≤ maxLen) := hsz
      have hkey : keyOf Try.prog 9 (.string (Nm k)) = some (keyS (Nm k)) := keyOf_string_mk Try.underlying9 hsz
      clear hsz
      go_wp2_with (first
        | (go_at_call 30; refine C.out.mono ?_; rintro e w1 ⟨rfl, hw1⟩; replace hw1 := hw1.symm; subst hw1)
        | (at_mapUpdate; refine wpList_mapUpdate_own _ rfl _ _ _ 78 rfl 9 3 str_law Try.underlying78 (plainElem (H := Unit) Try.prog 3) w.heap.size k _ rfl hown (by unfold maxLen; omega) _ _ _ rfl rfl hkey _ [] (plainElem_int Try.underlying3 (WalkArith.wf_i64 (by omega))) ?_; intro w1 hown1 hgrow1)
        | go_in)
      go_roundw
      case rel => exact ⟨k + 1, by omega, by go_num, ⟨_, hown1, HS.out.more hown.isMap (hown.tidy str_law) _⟩, hB.grown hgrow1 hB.size (fun j hj => by cases hj; exact Nat.le_refl _)⟩
      case measure => simp [intOf]; omega
    · obtain rfl : k = n := by omega
      go_wp2_with (first
        | (at_len; refine wpList_len_own _ rfl _ 78 rfl 9 3 Try.underlying78 _ w.heap.size k _ rfl hown ?_)
        | go_in)
      go_ret
      exact ⟨ret_bool HS.out.dup, hB⟩
end Go.Proofs.Ytelabjipclfpnaa
