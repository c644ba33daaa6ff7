/-
  Names that were seen are in a map (schema.twice): is one of them there again?
  What a field has to be (schema.right): a name and a kind that null fits.
  schema.Check (P7.1).
  Schemas in a row; schema.Book (P7.1).
  well's query that is asked, in its box; the checks that stand on other packages' alone.
  The closure of well.nodes that goes down (nodes$1$1), for whatever is done at the nodes (nothing leaves the range early).
-/
import Derived.Test.YtkfpgkohkhhlhaaGreatDoorRBrief
import Derived.Test.YtkfpgkohkhhlhaaGreatDoorRPatTail
import Derived.Test.YtkfpgkohkhhlhaaGreatDoorRWlAs
import Derived.Test.YtkfpgkohkhhlhaaGreatDoorRQryCheck
import Derived.Test.YtkfpgkohkhhlhaaGreatDoorRPatRightC
import Derived.Maps.OwnSet
import Derived.Deep.RegionHeld3
import Derived.Deep.DeepCutAuto
namespace Go.Proofs.YtkfpgkohkhhlhaaGreatDoor
open Go.RowKit Go.Maps Go.WideMaps

/-- What the map tells of the first names. -/
structure Seen (Nm : Nat → ByteArray) (k : Nat) (D : DataW Unit) : Prop where
  has : ∀ s, Maps.has D (keyS s) = seenB Nm s k
  le : Maps.size D ≤ k
  lt : Maps.size D < k ↔ dupB Nm k = true
theorem seen_none (Nm : Nat → ByteArray) : Seen Nm 0 (.map []) := ⟨fun _ => rfl, Nat.le_refl _, by simp [dupB]⟩
theorem Seen.more {Nm : Nat → ByteArray} {k : Nat} {D : DataW Unit} (h : Seen Nm k D) (hm : IsMap D) (ht : Tidy D) (d : DataW Unit) : Seen Nm (k + 1) (D.put (keyS (Nm k)) d) := by
  have e := size_put (k := keyS (Nm k)) ht d
  rw [h.has] at e
  refine ⟨fun s => ?_, ?_, ?_⟩
  · by_cases hs : Nm k = s
    · subst hs
      rw [has_put_same hm (by simp [WideAt.IsKeyLit])]
      simp [seenB]
    · rw [has_put_other (keyS_ne fun q => hs q.symm), h.has]
      simp [seenB, hs]
  · rw [e]
    have := h.le
    split <;> omega
  · rw [e]
    have h1 := h.le
    have h2 := h.lt
    simp only [dupB, Bool.or_eq_true]
    cases hs : seenB Nm (Nm k) k with
    | true => simp; omega
    | false => simp [← h2]
theorem Seen.dup {Nm : Nat → ByteArray} {k : Nat} {D : DataW Unit} (h : Seen Nm k D) : decide (Maps.size D < k) = dupB Nm k := by
  rw [Bool.eq_iff_iff, decide_eq_true_eq, ← h.lt]
set_option maxHeartbeats 1000000 in
theorem check1_any (a : Option Addr) (n cap i p : Nat) (Nm : Nat → ByteArray) (V : Nat → Value) (w : World) (H : Row2 w a n Nm V) (hi : i < n) (hn : n ≤ 9223372036854775807) (hp : w.cell? ⟨p, 1, none⟩ = some (.slice a n cap)) :
    Calls Tryz.prog 175 #[.int .i64 i, .pointer (some ⟨p, 0, none⟩)] w fun e w' => e = .returned (.string (Nm i)) ∧ w' = w := by
  obtain ⟨b, off, rfl, hc⟩ := H (by omega)
  have f0 := (hc i hi).1.1
  clear H hc
  go_enter Tryz.func175, Tryz.ntmps175
  go_wp2
  go_ret
  exact ⟨rfl, rfl⟩
set_option maxRecDepth 100000 in
set_option maxHeartbeats 2000000 in
theorem twice_check (a : Option Addr) (n cap p : Nat) (Nm : Nat → ByteArray) (V : Nat → Value) (w : World) (H : Row2 w a n Nm V) (hn : n ≤ 16) (hp : w.cell? ⟨p, 1, none⟩ = some (.slice a n cap)) :
    Calls Tryz.prog 147 #[.int .i64 n, .func (.func 175) #[] #[.pointer (some ⟨p, 0, none⟩)]] w fun e w' => e = .returned (.bool (dupB Nm n)) ∧ Below w.heap.size w w' := by
  have hmm := @run_makeMap Tryz.prog
  have HC : Hid (Row2 w a n Nm V) := H
  have HP : Hid (w.cell? ⟨p, 1, none⟩ = some (.slice a n cap)) := hp
  clear H hp
  go_enter Tryz.func147, Tryz.ntmps147
  go_wp2
  go_loopw [9] (fun v wr => ∃ k : Nat, k ≤ n ∧ v = .int .i64 k ∧ (∃ D, wr.ownsMap Tryz.prog 9 (plainElem (H := Unit) Tryz.prog 3) w.heap.size k D ∧ Hid (Seen Nm k D)) ∧ Below w.heap.size w wr) (fun v _ => n - (intOf v).toNat)
  case atStart => exact ⟨0, Nat.zero_le _, rfl, ⟨_, World.ownsMap_made _ _ _ _, seen_none Nm⟩, (Below.refl _ _).alloc (Nat.le_refl _) _⟩
  case round =>
    obtain ⟨k, hk, rfl, ⟨D, hown, HS⟩, hB⟩ := hrel
    by_cases hkn : k < n
    · have C : Hid (Calls Tryz.prog 175 _ wr _) := check1_any a n cap k p Nm V wr (HC.out.later hB) hkn (by omega) (cell_later HP.out hB)
      have hsz : (Nm k).size ≤ maxLen := by
        obtain ⟨_, _, _, hc⟩ := HC.out (by omega)
        exact (hc k hkn).2
      have HZ : Hid ((Nm k).size ≤ maxLen) := hsz
      have hkey : keyOf Tryz.prog 9 (.string (Nm k)) = some (keyS (Nm k)) := keyOf_string_mk Tryz.underlying9 hsz
      clear hsz
      go_wp2_with (first
        | (go_at_call 175; refine C.out.mono ?_; rintro e w1 ⟨rfl, hw1⟩; replace hw1 := hw1.symm; subst hw1)
        | (at_mapUpdate; refine wpList_mapUpdate_own _ rfl _ _ _ 80 rfl 9 3 str_law Tryz.underlying80 (plainElem (H := Unit) Tryz.prog 3) w.heap.size k _ rfl hown (by unfold maxLen; omega) _ _ _ rfl rfl hkey _ [] (plainElem_int Tryz.underlying3 (WalkArith.wf_i64 (by omega))) ?_; intro w1 hown1 hgrow1)
        | go_in)
      go_roundw
      case rel => exact ⟨k + 1, by omega, by go_num, ⟨_, hown1, HS.out.more hown.isMap (hown.tidy str_law) _⟩, hB.grown hgrow1 hB.size (fun j hj => by cases hj; exact Nat.le_refl _)⟩
      case measure => simp [intOf]; omega
    · obtain rfl : k = n := by omega
      go_wp2_with (first
        | (at_len; refine wpList_len_own _ rfl _ 80 rfl 9 3 Tryz.underlying80 _ w.heap.size k _ rfl hown ?_)
        | go_in)
      go_ret
      exact ⟨ret_bool HS.out.dup, hB⟩
set_option maxHeartbeats 1000000 in
theorem book1_any (a : Option Addr) (n cap i p : Nat) (Nm : Nat → ByteArray) (V : Nat → Value) (w : World) (H : Row2 w a n Nm V) (hi : i < n) (hn : n ≤ 9223372036854775807) (hp : w.cell? ⟨p, 0, none⟩ = some (.slice a n cap)) :
    Calls Tryz.prog 148 #[.int .i64 i, .pointer (some ⟨p, 0, none⟩)] w fun e w' => e = .returned (.string (Nm i)) ∧ w' = w := by
  obtain ⟨b, off, rfl, hc⟩ := H (by omega)
  have f0 := (hc i hi).1.1
  clear H hc
  go_enter Tryz.func148, Tryz.ntmps148
  go_wp2
  go_ret
  exact ⟨rfl, rfl⟩
set_option maxRecDepth 100000 in
set_option maxHeartbeats 2000000 in
theorem twice_book (a : Option Addr) (n cap p : Nat) (Nm : Nat → ByteArray) (V : Nat → Value) (w : World) (H : Row2 w a n Nm V) (hn : n ≤ 16) (hp : w.cell? ⟨p, 0, none⟩ = some (.slice a n cap)) :
    Calls Tryz.prog 147 #[.int .i64 n, .func (.func 148) #[] #[.pointer (some ⟨p, 0, none⟩)]] w fun e w' => e = .returned (.bool (dupB Nm n)) ∧ Below w.heap.size w w' := by
  have hmm := @run_makeMap Tryz.prog
  have HC : Hid (Row2 w a n Nm V) := H
  have HP : Hid (w.cell? ⟨p, 0, none⟩ = some (.slice a n cap)) := hp
  clear H hp
  go_enter Tryz.func147, Tryz.ntmps147
  go_wp2
  go_loopw [9] (fun v wr => ∃ k : Nat, k ≤ n ∧ v = .int .i64 k ∧ (∃ D, wr.ownsMap Tryz.prog 9 (plainElem (H := Unit) Tryz.prog 3) w.heap.size k D ∧ Hid (Seen Nm k D)) ∧ Below w.heap.size w wr) (fun v _ => n - (intOf v).toNat)
  case atStart => exact ⟨0, Nat.zero_le _, rfl, ⟨_, World.ownsMap_made _ _ _ _, seen_none Nm⟩, (Below.refl _ _).alloc (Nat.le_refl _) _⟩
  case round =>
    obtain ⟨k, hk, rfl, ⟨D, hown, HS⟩, hB⟩ := hrel
    by_cases hkn : k < n
    · have C : Hid (Calls Tryz.prog 148 _ wr _) := book1_any a n cap k p Nm V wr (HC.out.later hB) hkn (by omega) (cell_later HP.out hB)
      have hsz : (Nm k).size ≤ maxLen := by
        obtain ⟨_, _, _, hc⟩ := HC.out (by omega)
        exact (hc k hkn).2
      have HZ : Hid ((Nm k).size ≤ maxLen) := hsz
      have hkey : keyOf Tryz.prog 9 (.string (Nm k)) = some (keyS (Nm k)) := keyOf_string_mk Tryz.underlying9 hsz
      clear hsz
      go_wp2_with (first
        | (go_at_call 148; refine C.out.mono ?_; rintro e w1 ⟨rfl, hw1⟩; replace hw1 := hw1.symm; subst hw1)
        | (at_mapUpdate; refine wpList_mapUpdate_own _ rfl _ _ _ 80 rfl 9 3 str_law Tryz.underlying80 (plainElem (H := Unit) Tryz.prog 3) w.heap.size k _ rfl hown (by unfold maxLen; omega) _ _ _ rfl rfl hkey _ [] (plainElem_int Tryz.underlying3 (WalkArith.wf_i64 (by omega))) ?_; intro w1 hown1 hgrow1)
        | go_in)
      go_roundw
      case rel => exact ⟨k + 1, by omega, by go_num, ⟨_, hown1, HS.out.more hown.isMap (hown.tidy str_law) _⟩, hB.grown hgrow1 hB.size (fun j hj => by cases hj; exact Nat.le_refl _)⟩
      case measure => simp [intOf]; omega
    · obtain rfl : k = n := by omega
      go_wp2_with (first
        | (at_len; refine wpList_len_own _ rfl _ 80 rfl 9 3 Tryz.underlying80 _ w.heap.size k _ rfl hown ?_)
        | go_in)
      go_ret
      exact ⟨ret_bool HS.out.dup, hB⟩
end Go.Proofs.YtkfpgkohkhhlhaaGreatDoor
namespace Go.Proofs.YtkfpgkohkhhlhaaGreatDoor
open Go.RowKit

theorem null_below (w : World) : Calls Tryz.prog 192 #[] w fun e w' => e = .returned (valV 0 0 ⟨#[]⟩) ∧ Below w.heap.size w w' :=
  (null_any w).mono fun e w' h => ⟨h.1, by rw [h.2]; exact (Below.refl _ _).alloc (Nat.le_refl _) _⟩
set_option maxHeartbeats 1000000 in
theorem fits_null (k : Int) (w : World) : Calls Tryz.prog 200 #[valV 0 0 ⟨#[]⟩, .int .i64 k] w fun e w' => e = .returned (.bool (kindB k)) ∧ Below w.heap.size w w' := by
  have hB0 : Below w.heap.size w (w.alloc (valO 0 0 ⟨#[]⟩)) := (Below.refl _ _).alloc (Nat.le_refl _) _
  have C : Hid (Calls Tryz.prog 171 _ _ _) := right_null0 (w.alloc (valO 0 0 ⟨#[]⟩))
  obtain ⟨f, hf⟩ : ∃ f, f = kindB k := ⟨_, rfl⟩
  rw [← hf]
  have HF : Hid (f = kindB k) := hf
  have HX : Hid ((w.alloc (valO 0 0 ⟨#[]⟩)).cell? ⟨w.heap.size, 0, none⟩ = some (.int .i64 0)) := by
    show (w.alloc (valO 0 0 ⟨#[]⟩)).cell? ⟨w.heap.size, 0, none⟩ = some (.int .i64 0)
    simp
  clear hf
  by_cases h1 : 1 ≤ k
  · by_cases h3 : k ≤ 3
    · go_enter Tryz.func200, Tryz.ntmps200
      go_wp2_with (first | (go_at_call 171; refine C.out.mono ?_; rintro e w1 ⟨rfl, hB1⟩; have f0 := cell_later HX.out hB1))
      go_ret
      exact ⟨ret_bool (by rw [HF.out]; simp [kindB, h1, h3]), bt hB0 hB1⟩
    · go_enter Tryz.func200, Tryz.ntmps200
      go_wp2_with (first | (go_at_call 171; refine C.out.mono ?_; rintro e w1 ⟨rfl, hB1⟩; have f0 := cell_later HX.out hB1))
      go_ret
      exact ⟨ret_bool (by rw [HF.out]; simp [kindB, h3]), bt hB0 hB1⟩
  · go_enter Tryz.func200, Tryz.ntmps200
    go_wp2_with (first | (go_at_call 171; refine C.out.mono ?_; rintro e w1 ⟨rfl, hB1⟩; have f0 := cell_later HX.out hB1))
    go_ret
    exact ⟨ret_bool (by rw [HF.out, kindB, decide_eq_false (by omega)]; rfl), bt hB0 hB1⟩

set_option maxRecDepth 100000 in
set_option maxHeartbeats 4000000 in
theorem rightF_yes (s : ByteArray) (k : Int) (w : World) (hs : nameB s = true) : Calls Tryz.prog 176 #[fldV s k] w fun e w' => e = .returned (.bool (kindB k)) ∧ Below w.heap.size w w' := by
  have C2 : Hid (∀ w, Calls Tryz.prog 103 #[.string s] w fun e w' => e = .returned (.bool true) ∧ Below w.heap.size w w') := fun w => by have := name_any s w; rwa [hs] at this
  have C7 : Hid (∀ w, Calls Tryz.prog 200 #[valV 0 0 ⟨#[]⟩, .int .i64 k] w fun e w' => e = .returned (.bool (kindB k)) ∧ Below w.heap.size w w') := fits_null k
  clear hs
  go_enter Tryz.func176, Tryz.ntmps176
  go_wp2_with fail
  have hW0 : Below w.heap.size w (w.alloc (fldO s k)) := (Below.refl _ w).alloc (Nat.le_refl _) _
  have HC : Hid ((w.alloc (fldO s k)).cell? ⟨w.heap.size, 0, none⟩ = some (.string s) ∧ (w.alloc (fldO s k)).cell? ⟨w.heap.size, 1, none⟩ = some (.int .i64 k)) := ⟨by simp, by simp⟩
  generalize w.alloc (fldO s k) = W at hW0 HC ⊢
  refine wp_region_noPanic ?_
  refine wp_region_held_drew (S := fun w' => Below W.heap.size W w') (by kernel_rfl) ((Below.refl _ _).drew) (fun hHeld => ?_)
  have hT : Below W.heap.size W W.drew := hHeld
  obtain ⟨d, hd⟩ : ∃ d, d = W.drew := ⟨_, rfl⟩
  rw [← hd] at hHeld hT ⊢
  clear hd
  refine wpAnyH_take (i := 0) (oi := ⟨some 3, .fieldAddr 112 (.tmp 1) 0, 0, _, _, _⟩) (v := ?v0y) rfl (by kernel_rfl) (by kernel_rfl) (by kernel_rfl) (fun _ _ _ h => h) (Or.inl ⟨by rfl, ?hy0y⟩) hHeld ?rest0y
  case hy0y => intro w9 hSw; go_simp; (try with_reducible rfl)
  try simp only [Act.put, s_put, s_0, s_1]
  refine wpAnyH_take (i := 1) (oi := ⟨some 4, .load 9 (.tmp 3), 9, _, _, _⟩) (v := ?v1y) rfl (by kernel_rfl) (by kernel_rfl) (by kernel_rfl) (fun _ _ _ h => h) (Or.inl ⟨by rfl, ?hy1y⟩) hHeld ?rest1y
  case hy1y => intro w9 hSw; have cc := cell_later HC.out.1 hSw; go_simp; (try with_reducible rfl)
  try simp only [Act.put, s_put, s_0, s_1]
  refine wpAnyH_ready (rs := [2]) (by kernel_rfl) (by simp) ?_
  refine AllReadyH.cons (o := ⟨some 5, .call { callee := .value (.func 103), args := #[.tmp 4], argTypes := #[9] }, 4, _, _, _⟩) rfl (fun K hK => ?_) AllReadyH.nil
  go_simp
  refine (C2.out _).mono ?_
  rintro e x2 ⟨rfl, hN2⟩
  go_wp2_with fail
  have hT2 : Below W.heap.size W x2 := hT.trans (hN2.mono hT.size)
  refine hK.out _ _ (hHeld.trans (hN2.mono hHeld.size)) (fun _ => held_up (S' := fun w' => Below x2.heap.size x2 w') (fun w' h' => (hHeld.trans (hN2.mono hHeld.size)).trans (h'.mono (Nat.le_trans hHeld.size hN2.size))) _ _ _ _ ?_)
  clear hK K hHeld hT
  have hT : Below W.heap.size W x2 := hT2
  have hHeld : Below x2.heap.size x2 x2 := Below.refl _ _
  clear hT2 hN2
  try simp only [Act.put, s_put, s_0, s_1]
  refine wpAnyH_take (i := 3) (oi := ⟨some 6, .move (.tmp 5), 4, _, _, _⟩) (v := ?v3y) rfl (by kernel_rfl) (by kernel_rfl) (by kernel_rfl) (fun _ _ _ h => h) (Or.inl ⟨by rfl, ?hy3y⟩) hHeld ?rest3y
  case hy3y => intro w9 hSw; go_simp; (try with_reducible rfl)
  try simp only [Act.put, s_put, s_0, s_1]
  refine wpAnyH_take (i := 5) (oi := ⟨some 8, .fieldAddr 112 (.tmp 1) 1, 0, _, _, _⟩) (v := ?v5y) rfl (by kernel_rfl) (by kernel_rfl) (by kernel_rfl) (fun _ _ _ h => h) (Or.inl ⟨by rfl, ?hy5y⟩) hHeld ?rest5y
  case hy5y => intro w9 hSw; go_simp; (try with_reducible rfl)
  try simp only [Act.put, s_put, s_0, s_1]
  refine wpAnyH_take (i := 6) (oi := ⟨some 9, .load 3 (.tmp 8), 3, _, _, _⟩) (v := ?v6y) rfl (by kernel_rfl) (by kernel_rfl) (by kernel_rfl) (fun _ _ _ h => h) (Or.inl ⟨by rfl, ?hy6y⟩) hHeld ?rest6y
  case hy6y => intro w9 hSw; have cc := cell_later HC.out.2 (bt hT hSw); go_simp; (try with_reducible rfl)
  try simp only [Act.put, s_put, s_0, s_1]
  refine wpAnyH_ready (rs := [4]) (by kernel_rfl) (by simp) ?_
  refine AllReadyH.cons (o := ⟨some 7, .call { callee := .value (.func 192), args := #[], argTypes := #[] }, 52, _, _, _⟩) rfl (fun K hK => ?_) AllReadyH.nil
  go_simp
  refine (null_below _).mono ?_
  rintro e x4 ⟨rfl, hN4⟩
  go_wp2_with fail
  have hT4 : Below W.heap.size W x4 := hT.trans (hN4.mono hT.size)
  refine hK.out _ _ (hHeld.trans (hN4.mono hHeld.size)) (fun _ => held_up (S' := fun w' => Below x4.heap.size x4 w') (fun w' h' => (hHeld.trans (hN4.mono hHeld.size)).trans (h'.mono (Nat.le_trans hHeld.size hN4.size))) _ _ _ _ ?_)
  clear hK K hHeld hT
  have hT : Below W.heap.size W x4 := hT4
  have hHeld : Below x4.heap.size x4 x4 := Below.refl _ _
  clear hT4 hN4
  try simp only [Act.put, s_put, s_0, s_1]
  refine wpAnyH_ready (rs := [7]) (by kernel_rfl) (by simp) ?_
  refine AllReadyH.cons (o := ⟨some 10, .call { callee := .value (.func 200), args := #[.tmp 7, .tmp 9], argTypes := #[52, 3] }, 4, _, _, _⟩) rfl (fun K hK => ?_) AllReadyH.nil
  go_simp
  refine (C7.out _).mono ?_
  rintro e x7 ⟨rfl, hN7⟩
  go_wp2_with fail
  have hT7 : Below W.heap.size W x7 := hT.trans (hN7.mono hT.size)
  refine hK.out _ _ (hHeld.trans (hN7.mono hHeld.size)) (fun _ => held_up (S' := fun w' => Below x7.heap.size x7 w') (fun w' h' => (hHeld.trans (hN7.mono hHeld.size)).trans (h'.mono (Nat.le_trans hHeld.size hN7.size))) _ _ _ _ ?_)
  clear hK K hHeld hT
  have hT : Below W.heap.size W x7 := hT7
  have hHeld : Below x7.heap.size x7 x7 := Below.refl _ _
  clear hT7 hN7
  try simp only [Act.put, s_put, s_0, s_1]
  refine wpAnyH_take (i := 8) (oi := ⟨some 11, .pick (.tmp 6) (.tmp 10) (.const (Value.bool false)), 4, _, _, _⟩) (v := ?v8y) rfl (by kernel_rfl) (by kernel_rfl) (by kernel_rfl) (fun _ _ _ h => h) (Or.inl ⟨by rfl, ?hy8y⟩) hHeld ?rest8y
  case hy8y => intro w9 hSw; go_simp; (try with_reducible rfl)
  try simp only [Act.put, s_put, s_0, s_1]
  refine wpAnyH_take (i := 9) (oi := ⟨some 2, .assign (.tmp 11), 4, _, _, _⟩) (v := ?v9y) rfl (by kernel_rfl) (by kernel_rfl) (by kernel_rfl) (fun _ _ _ h => h) (Or.inl ⟨by rfl, ?hy9y⟩) hHeld ?rest9y
  case hy9y => intro w9 hSw; go_simp; (try with_reducible rfl)
  try simp only [Act.put, s_put, s_0, s_1]
  refine wpAnyH_done (by kernel_rfl) ?_ _
  refine NoPanic.normal ?_
  go_wp2
  go_ret
  exact ⟨rfl, hW0.trans (hT.mono hW0.size)⟩
set_option maxRecDepth 100000 in
set_option maxHeartbeats 4000000 in
theorem rightF_not (s : ByteArray) (k : Int) (w : World) (hs : nameB s = false) : Calls Tryz.prog 176 #[fldV s k] w fun e w' => e = .returned (.bool false) ∧ Below w.heap.size w w' := by
  have C2 : Hid (∀ w, Calls Tryz.prog 103 #[.string s] w fun e w' => e = .returned (.bool false) ∧ Below w.heap.size w w') := fun w => by have := name_any s w; rwa [hs] at this
  clear hs
  go_enter Tryz.func176, Tryz.ntmps176
  go_wp2_with fail
  have hW0 : Below w.heap.size w (w.alloc (fldO s k)) := (Below.refl _ w).alloc (Nat.le_refl _) _
  have HC : Hid ((w.alloc (fldO s k)).cell? ⟨w.heap.size, 0, none⟩ = some (.string s) ∧ (w.alloc (fldO s k)).cell? ⟨w.heap.size, 1, none⟩ = some (.int .i64 k)) := ⟨by simp, by simp⟩
  generalize w.alloc (fldO s k) = W at hW0 HC ⊢
  refine wp_region_noPanic ?_
  refine wp_region_held_drew (S := fun w' => Below W.heap.size W w') (by kernel_rfl) ((Below.refl _ _).drew) (fun hHeld => ?_)
  have hT : Below W.heap.size W W.drew := hHeld
  obtain ⟨d, hd⟩ : ∃ d, d = W.drew := ⟨_, rfl⟩
  rw [← hd] at hHeld hT ⊢
  clear hd
  refine wpAnyH_take (i := 0) (oi := ⟨some 3, .fieldAddr 112 (.tmp 1) 0, 0, _, _, _⟩) (v := ?v0n) rfl (by kernel_rfl) (by kernel_rfl) (by kernel_rfl) (fun _ _ _ h => h) (Or.inl ⟨by rfl, ?hy0n⟩) hHeld ?rest0n
  case hy0n => intro w9 hSw; go_simp; (try with_reducible rfl)
  try simp only [Act.put, s_put, s_0, s_1]
  refine wpAnyH_take (i := 1) (oi := ⟨some 4, .load 9 (.tmp 3), 9, _, _, _⟩) (v := ?v1n) rfl (by kernel_rfl) (by kernel_rfl) (by kernel_rfl) (fun _ _ _ h => h) (Or.inl ⟨by rfl, ?hy1n⟩) hHeld ?rest1n
  case hy1n => intro w9 hSw; have cc := cell_later HC.out.1 hSw; go_simp; (try with_reducible rfl)
  try simp only [Act.put, s_put, s_0, s_1]
  refine wpAnyH_ready (rs := [2]) (by kernel_rfl) (by simp) ?_
  refine AllReadyH.cons (o := ⟨some 5, .call { callee := .value (.func 103), args := #[.tmp 4], argTypes := #[9] }, 4, _, _, _⟩) rfl (fun K hK => ?_) AllReadyH.nil
  go_simp
  refine (C2.out _).mono ?_
  rintro e x2 ⟨rfl, hN2⟩
  go_wp2_with fail
  have hT2 : Below W.heap.size W x2 := hT.trans (hN2.mono hT.size)
  refine hK.out _ _ (hHeld.trans (hN2.mono hHeld.size)) (fun _ => held_up (S' := fun w' => Below x2.heap.size x2 w') (fun w' h' => (hHeld.trans (hN2.mono hHeld.size)).trans (h'.mono (Nat.le_trans hHeld.size hN2.size))) _ _ _ _ ?_)
  clear hK K hHeld hT
  have hT : Below W.heap.size W x2 := hT2
  have hHeld : Below x2.heap.size x2 x2 := Below.refl _ _
  clear hT2 hN2
  try simp only [Act.put, s_put, s_0, s_1]
  refine wpAnyH_take (i := 3) (oi := ⟨some 6, .move (.tmp 5), 4, _, _, _⟩) (v := ?v3n) rfl (by kernel_rfl) (by kernel_rfl) (by kernel_rfl) (fun _ _ _ h => h) (Or.inl ⟨by rfl, ?hy3n⟩) hHeld ?rest3n
  case hy3n => intro w9 hSw; go_simp; (try with_reducible rfl)
  try simp only [Act.put, s_put, s_0, s_1]
  refine wpAnyH_take (i := 4) (oi := ⟨some 7, .call { callee := .value (.func 192), args := #[], argTypes := #[] }, 52, _, _, _⟩) (v := undef) rfl (by kernel_rfl) (by kernel_rfl) (by kernel_rfl) (fun _ _ _ h => h) (Or.inr ⟨by rfl, rfl⟩) hHeld ?rest4n
  try simp only [Act.put, s_put, s_0, s_1]
  refine wpAnyH_take (i := 5) (oi := ⟨some 8, .fieldAddr 112 (.tmp 1) 1, 0, _, _, _⟩) (v := undef) rfl (by kernel_rfl) (by kernel_rfl) (by kernel_rfl) (fun _ _ _ h => h) (Or.inr ⟨by rfl, rfl⟩) hHeld ?rest5n
  try simp only [Act.put, s_put, s_0, s_1]
  refine wpAnyH_take (i := 6) (oi := ⟨some 9, .load 3 (.tmp 8), 3, _, _, _⟩) (v := undef) rfl (by kernel_rfl) (by kernel_rfl) (by kernel_rfl) (fun _ _ _ h => h) (Or.inr ⟨by rfl, rfl⟩) hHeld ?rest6n
  try simp only [Act.put, s_put, s_0, s_1]
  refine wpAnyH_take (i := 7) (oi := ⟨some 10, .call { callee := .value (.func 200), args := #[.tmp 7, .tmp 9], argTypes := #[52, 3] }, 4, _, _, _⟩) (v := undef) rfl (by kernel_rfl) (by kernel_rfl) (by kernel_rfl) (fun _ _ _ h => h) (Or.inr ⟨by rfl, rfl⟩) hHeld ?rest7n
  try simp only [Act.put, s_put, s_0, s_1]
  refine wpAnyH_take (i := 8) (oi := ⟨some 11, .pick (.tmp 6) (.tmp 10) (.const (Value.bool false)), 4, _, _, _⟩) (v := ?v8n) rfl (by kernel_rfl) (by kernel_rfl) (by kernel_rfl) (fun _ _ _ h => h) (Or.inl ⟨by rfl, ?hy8n⟩) hHeld ?rest8n
  case hy8n => intro w9 hSw; go_simp; (try with_reducible rfl)
  try simp only [Act.put, s_put, s_0, s_1]
  refine wpAnyH_take (i := 9) (oi := ⟨some 2, .assign (.tmp 11), 4, _, _, _⟩) (v := ?v9n) rfl (by kernel_rfl) (by kernel_rfl) (by kernel_rfl) (fun _ _ _ h => h) (Or.inl ⟨by rfl, ?hy9n⟩) hHeld ?rest9n
  case hy9n => intro w9 hSw; go_simp; (try with_reducible rfl)
  try simp only [Act.put, s_put, s_0, s_1]
  refine wpAnyH_done (by kernel_rfl) ?_ _
  refine NoPanic.normal ?_
  go_wp2
  go_ret
  exact ⟨rfl, hW0.trans (hT.mono hW0.size)⟩
theorem rightF_any (s : ByteArray) (k : Int) (w : World) : Calls Tryz.prog 176 #[fldV s k] w fun e w' => e = .returned (.bool (rightF s k)) ∧ Below w.heap.size w w' := by
  unfold rightF
  cases hs : nameB s with
  | true => simpa using rightF_yes s k w hs
  | false => simpa using rightF_not s k w hs
end Go.Proofs.YtkfpgkohkhhlhaaGreatDoor
namespace Go.Proofs.YtkfpgkohkhhlhaaGreatDoor
open Go.RowKit

set_option maxRecDepth 100000 in
set_option maxHeartbeats 2000000 in
theorem check_long (S : ByteArray) (a : Option Addr) (n cap : Nat) (w : World) (hn : ¬ n ≤ 16) :
    Calls Tryz.prog 146 #[schV S (.slice a n cap)] w fun e w' => e = .returned (.int .i64 2) ∧ Below w.heap.size w w' := by
  have h16 : 16 < (n : Int) := by omega
  go_enter Tryz.func146, Tryz.ntmps146
  go_wp2
  go_ret
  exact ⟨rfl, (Below.refl _ _).alloc (Nat.le_refl _) _⟩
set_option maxRecDepth 100000 in
set_option maxHeartbeats 2000000 in
theorem check_name (S : ByteArray) (a : Option Addr) (n cap : Nat) (w : World) (hn : n ≤ 16) (hS : nameB S = false) :
    Calls Tryz.prog 146 #[schV S (.slice a n cap)] w fun e w' => e = .returned (.int .i64 1) ∧ Below w.heap.size w w' := by
  have h16 : ¬ 16 < (n : Int) := by omega
  have hB0 : Below w.heap.size w (w.alloc (schO S (.slice a n cap))) := (Below.refl _ _).alloc (Nat.le_refl _) _
  have C : Hid (Calls Tryz.prog 103 _ _ _) := name_any S (w.alloc (schO S (.slice a n cap)))
  rw [hS] at C
  clear hS
  go_enter Tryz.func146, Tryz.ntmps146
  go_wp2_with (first | (go_at_call 103; refine C.out.mono ?_; rintro e w1 ⟨rfl, hB1⟩))
  go_ret
  exact ⟨rfl, bt hB0 hB1⟩
set_option maxRecDepth 100000 in
set_option maxHeartbeats 2000000 in
theorem check_dup (S : ByteArray) (a : Option Addr) (n cap : Nat) (Nm : Nat → ByteArray) (K : Nat → Int) (w : World) (H : Flds w a n Nm K) (hn : n ≤ 16) (hS : nameB S = true) (hD : dupB Nm n = true) :
    Calls Tryz.prog 146 #[schV S (.slice a n cap)] w fun e w' => e = .returned (.int .i64 1) ∧ Below w.heap.size w w' := by
  have h16 : ¬ 16 < (n : Int) := by omega
  have hB0 : Below w.heap.size w (w.alloc (schO S (.slice a n cap))) := (Below.refl _ _).alloc (Nat.le_refl _) _
  have C : Hid (Calls Tryz.prog 103 _ _ _) := name_any S (w.alloc (schO S (.slice a n cap)))
  rw [hS] at C
  have HX : Hid ((w.alloc (schO S (.slice a n cap))).cell? ⟨w.heap.size, 1, none⟩ = some (.slice a n cap)) := by
    show (w.alloc (schO S (.slice a n cap))).cell? ⟨w.heap.size, 1, none⟩ = some (.slice a n cap)
    rw [World.cell?_alloc_at _ _ _ _ rfl]; rfl
  have C2 : Hid (∀ w1, Below (w.alloc (schO S (.slice a n cap))).heap.size (w.alloc (schO S (.slice a n cap))) w1 → Calls Tryz.prog 147 #[.int .i64 n, .func (.func 175) #[] #[.pointer (some ⟨w.heap.size, 0, none⟩)]] w1 fun e w' => e = .returned (.bool (dupB Nm n)) ∧ Below w1.heap.size w1 w') :=
    fun w1 hB => twice_check a n cap w.heap.size Nm _ w1 ((H.later hB0).later hB) hn (cell_later HX.out hB)
  rw [hD] at C2
  clear hS hD H
  go_enter Tryz.func146, Tryz.ntmps146
  go_wp2_with (first
    | (go_at_call 103
       refine C.out.mono ?_
       rintro e w1 ⟨rfl, hB1⟩
       have f1 := cell_later HX.out hB1)
    | (go_at_call 147
       refine (C2.out _ hB1).mono ?_
       rintro e w2 ⟨rfl, hB2⟩))
  go_ret
  exact ⟨rfl, bt (bt hB0 hB1) hB2⟩
set_option maxRecDepth 100000 in
set_option maxHeartbeats 2000000 in
theorem check_all (S : ByteArray) (a : Option Addr) (n cap : Nat) (Nm : Nat → ByteArray) (K : Nat → Int) (w : World) (H : Flds w a n Nm K) (hn : n ≤ 16) (hS : nameB S = true) (hD : dupB Nm n = false) :
    Calls Tryz.prog 146 #[schV S (.slice a n cap)] w fun e w' => e = .returned (.int .i64 (if allR Nm K n = true then 0 else 1)) ∧ Below w.heap.size w w' := by
  obtain ⟨x, hx⟩ : ∃ x : Int, x = if allR Nm K n = true then 0 else 1 := ⟨_, rfl⟩
  rw [← hx]
  have HQ : Hid (x = if allR Nm K n = true then 0 else 1) := hx
  have HF : Hid (Flds w a n Nm K) := H
  have h16 : ¬ 16 < (n : Int) := by omega
  have hB0 : Below w.heap.size w (w.alloc (schO S (.slice a n cap))) := (Below.refl _ _).alloc (Nat.le_refl _) _
  have C : Hid (Calls Tryz.prog 103 _ _ _) := name_any S (w.alloc (schO S (.slice a n cap)))
  rw [hS] at C
  have HX : Hid ((w.alloc (schO S (.slice a n cap))).cell? ⟨w.heap.size, 1, none⟩ = some (.slice a n cap)) := by
    show (w.alloc (schO S (.slice a n cap))).cell? ⟨w.heap.size, 1, none⟩ = some (.slice a n cap)
    rw [World.cell?_alloc_at _ _ _ _ rfl]; rfl
  have C2 : Hid (∀ w1, Below (w.alloc (schO S (.slice a n cap))).heap.size (w.alloc (schO S (.slice a n cap))) w1 → Calls Tryz.prog 147 #[.int .i64 n, .func (.func 175) #[] #[.pointer (some ⟨w.heap.size, 0, none⟩)]] w1 fun e w' => e = .returned (.bool (dupB Nm n)) ∧ Below w1.heap.size w1 w') :=
    fun w1 hB => twice_check a n cap w.heap.size Nm _ w1 ((H.later hB0).later hB) hn (cell_later HX.out hB)
  rw [hD] at C2
  clear hS hD H hx
  go_enter Tryz.func146, Tryz.ntmps146
  go_upto_region 7 with (first
    | (go_at_call 103
       refine C.out.mono ?_
       rintro e w1 ⟨rfl, hB1⟩
       have f1 := cell_later HX.out hB1)
    | (go_at_call 147
       refine (C2.out _ hB1).mono ?_
       rintro e w2 ⟨rfl, hB2⟩
       have f2 := cell_later HX.out (bt hB1 hB2)
       clear f1))
  have hB3 := bt (bt hB0 hB1) hB2
  clear hB0 hB1 hB2 C C2 HX
  go_wp2_with fail
  go_loopw [24] (fun v wr => ∃ k : Nat, k ≤ n ∧ v = .int .i64 k ∧ Hid (allR Nm K k = true) ∧ Below w.heap.size w wr) (fun v _ => n - (intOf v).toNat)
  case atStart => exact ⟨0, Nat.zero_le _, rfl, rfl, hB3⟩
  case round =>
    clear f2
    obtain ⟨k, hk, rfl, HA, hB⟩ := hrel
    by_cases hkn : k < n
    · obtain ⟨b, off, rfl, hc⟩ := (HF.out.later hB) (by omega)
      have f0 := (hc k hkn).1.1
      have f1 := (hc k hkn).1.2
      have hB4 : Below w.heap.size w (wr.alloc (fldO (Nm k) (K k))) := hB.alloc hB.size _
      have C : Hid (Calls Tryz.prog 176 _ _ _) := rightF_any (Nm k) (K k) (wr.alloc (fldO (Nm k) (K k)))
      clear hc
      cases hr : rightF (Nm k) (K k) with
      | false =>
        rw [hr] at C
        have HN : Hid (allR Nm K n = false) := allR_not Nm K n k hkn hr
        clear hr
        go_wp2_with (first | (go_at_call 176; refine C.out.mono ?_; rintro e w5 ⟨rfl, hB5⟩))
        try rw [Exit.noGoto_ret]
        go_ret
        exact ⟨ret_int (by rw [HQ.out, HN.out]; rfl), bt hB4 hB5⟩
      | true =>
        rw [hr] at C
        have HY : Hid (allR Nm K (k + 1) = true) := by show allR Nm K (k + 1) = true; simp only [allR]; rw [HA.out, hr]; rfl
        clear hr
        go_wp2_with (first | (go_at_call 176; refine C.out.mono ?_; rintro e w5 ⟨rfl, hB5⟩))
        go_roundw
        case rel => exact ⟨k + 1, by omega, by go_num, HY, bt hB4 hB5⟩
        case measure => simp [intOf]; omega
    · obtain rfl : k = n := by omega
      go_wp2
      go_ret
      exact ⟨ret_int (by rw [HQ.out, HA.out]; rfl), hB⟩
theorem check_any (S : ByteArray) (a : Option Addr) (n cap : Nat) (Nm : Nat → ByteArray) (K : Nat → Int) (w : World) (H : Flds w a n Nm K) :
    Calls Tryz.prog 146 #[schV S (.slice a n cap)] w fun e w' => e = .returned (.int .i64 (chkZ S n Nm K)) ∧ Below w.heap.size w w' := by
  unfold chkZ
  by_cases hn : n ≤ 16
  · rw [if_neg (by omega)]
    cases hS : nameB S with
    | false => exact check_name S a n cap w hn hS
    | true =>
      rw [if_neg (by simp)]
      cases hD : dupB Nm n with
      | true => exact check_dup S a n cap Nm K w H hn hS hD
      | false => exact check_all S a n cap Nm K w H hn hS hD
  · rw [if_pos (by omega)]
    exact check_long S a n cap w hn
end Go.Proofs.YtkfpgkohkhhlhaaGreatDoor
namespace Go.Proofs.YtkfpgkohkhhlhaaGreatDoor
open Go.RowKit

/-- A schema, as it lies in memory: its name, its fields' slice, their names and kinds. -/
structure Sch where
  nm : ByteArray
  a : Option Addr
  l : Nat
  c : Nat
  fn : Nat → ByteArray
  fk : Nat → Int
abbrev Sch.v (x : Sch) : Value := .slice x.a x.l x.c
abbrev Sch.chk (x : Sch) : Int := chkZ x.nm x.l x.fn x.fk
/-- A slice of schemas. -/
def Schs (w : World) (a : Option Addr) (n : Nat) (Q : Nat → Sch) : Prop :=
  Row2 w a n (fun j => (Q j).nm) (fun j => (Q j).v) ∧ ∀ j, j < n → Flds w (Q j).a (Q j).l (Q j).fn (Q j).fk ∧ (Q j).l ≤ 9223372036854775807
theorem Schs.later {w w' : World} {a : Option Addr} {n : Nat} {Q : Nat → Sch} (h : Schs w a n Q) (hB : Below w.heap.size w w') : Schs w' a n Q :=
  ⟨h.1.later hB, fun j hj => ⟨(h.2 j hj).1.later hB, (h.2 j hj).2⟩⟩
/-- The first error of the first schemas. -/
def chks (Q : Nat → Sch) : Nat → Int
  | 0 => 0
  | k + 1 => if chks Q k = 0 then (Q k).chk else chks Q k
theorem chks_stop (Q : Nat → Sch) (k : Nat) (h0 : chks Q k = 0) (h1 : ¬ (Q k).chk = 0) : ∀ n, k < n → chks Q n = (Q k).chk
  | 0, h => by omega
  | n + 1, h => by
    by_cases e : k = n
    · subst e; simp [chks, h0]
    · have := chks_stop Q k h0 h1 n (by omega)
      simp [chks, this, h1]
theorem chks_ok (Q : Nat → Sch) : ∀ n, chks Q n = 0 → ∀ j, j < n → (Q j).chk = 0
  | 0, _, j, h => by omega
  | n + 1, h, j, hj => by
    simp only [chks] at h
    split at h
    · rename_i h0
      by_cases e : j = n
      · exact e ▸ h
      · exact chks_ok Q n h0 j (by omega)
    · contradiction
/-- Book's answer. -/
def bookZ (n : Nat) (Q : Nat → Sch) : Int :=
  if 16 < n then 2 else if chks Q n = 0 then (if dupB (fun j => (Q j).nm) n = true then 4 else 0) else chks Q n

set_option maxRecDepth 100000 in
set_option maxHeartbeats 2000000 in
theorem book_long (a : Option Addr) (n cap : Nat) (w : World) (hn : ¬ n ≤ 16) :
    Calls Tryz.prog 112 #[.slice a n cap] w fun e w' => e = .returned (.int .i64 2) ∧ Below w.heap.size w w' := by
  have h16 : 16 < (n : Int) := by omega
  go_enter Tryz.func112, Tryz.ntmps112
  go_wp2
  go_ret
  exact ⟨rfl, (Below.refl _ _).alloc (Nat.le_refl _) _⟩
set_option maxRecDepth 100000 in
set_option maxHeartbeats 2000000 in
theorem book_few (a : Option Addr) (n cap : Nat) (Q : Nat → Sch) (w : World) (H : Schs w a n Q) (hn : n ≤ 16) :
    Calls Tryz.prog 112 #[.slice a n cap] w fun e w' => e = .returned (.int .i64 (if chks Q n = 0 then (if dupB (fun j => (Q j).nm) n = true then 4 else 0) else chks Q n)) ∧ Below w.heap.size w w' := by
  obtain ⟨x, hx⟩ : ∃ x : Int, x = if chks Q n = 0 then (if dupB (fun j => (Q j).nm) n = true then 4 else 0) else chks Q n := ⟨_, rfl⟩
  rw [← hx]
  have HQ : Hid (x = if chks Q n = 0 then (if dupB (fun j => (Q j).nm) n = true then 4 else 0) else chks Q n) := hx
  have h16 : ¬ 16 < (n : Int) := by omega
  have hB0 : Below w.heap.size w (w.alloc (.cells #[.slice a n cap] 22)) := (Below.refl _ _).alloc (Nat.le_refl _) _
  have HX : Hid ((w.alloc (.cells #[.slice a n cap] 22)).cell? ⟨w.heap.size, 0, none⟩ = some (.slice a n cap)) := by
    show (w.alloc (.cells #[.slice a n cap] 22)).cell? ⟨w.heap.size, 0, none⟩ = some (.slice a n cap)
    rw [World.cell?_alloc_at _ _ _ _ rfl]; rfl
  have HF : Hid (Schs (w.alloc (.cells #[.slice a n cap] 22)) a n Q) := H.later hB0
  clear hx H
  go_enter Tryz.func112, Tryz.ntmps112
  go_upto_region 1 with fail
  obtain ⟨W, hW⟩ : ∃ W, W = (w.alloc (.cells #[.slice a n cap] 22)) := ⟨_, rfl⟩
  obtain ⟨P, hP⟩ : ∃ P, P = w.heap.size := ⟨_, rfl⟩
  rw [← hW, ← hP] at HX
  rw [← hW] at hB0 HF
  rw [← hW, ← hP]
  clear hW hP
  have f0 := HX.out
  go_wp2_with fail
  go_loopw [11] (fun v wr => ∃ k : Nat, k ≤ n ∧ v = .int .i64 k ∧ Hid (chks Q k = 0) ∧ Below W.heap.size W wr) (fun v _ => n - (intOf v).toNat)
  case atStart => exact ⟨0, Nat.zero_le _, rfl, rfl, Below.refl _ _⟩
  case round =>
    clear f0
    obtain ⟨k, hk, rfl, HA, hB⟩ := hrel
    by_cases hkn : k < n
    · have HG := HF.out.later hB
      obtain ⟨b, off, rfl, hc⟩ := HG.1 (by omega)
      have f0 := (hc k hkn).1.1
      have f1 := (hc k hkn).1.2
      have hB3 : Below wr.heap.size wr (wr.alloc (schO (Q k).nm (Q k).v)) := (Below.refl _ _).alloc (Nat.le_refl _) _
      have hB4 := bt hB hB3
      obtain ⟨y, hy⟩ : ∃ y, y = (Q k).chk := ⟨_, rfl⟩
      have C : Hid (Calls Tryz.prog 146 #[schV (Q k).nm (Q k).v] _ _) := check_any (Q k).nm (Q k).a (Q k).l (Q k).c (Q k).fn (Q k).fk (wr.alloc (schO (Q k).nm (Q k).v)) ((HG.2 k hkn).1.later hB3)
      have HY : Hid (y = (Q k).chk) := hy
      rw [show chkZ (Q k).nm (Q k).l (Q k).fn (Q k).fk = y from hy.symm] at C
      clear hc HG hy hB3
      by_cases hy0 : y = 0
      · subst hy0
        go_wp2_with (first | (go_at_call 146; refine C.out.mono ?_; rintro e w5 ⟨rfl, hB5⟩))
        go_roundw
        case rel => exact ⟨k + 1, by omega, by go_num, by show chks Q (k + 1) = 0; simp only [chks]; rw [if_pos HA.out]; exact HY.out.symm, bt hB4 hB5⟩
        case measure => simp [intOf]; omega
      · have hy1 : (y == 0) = false := by simpa using hy0
        go_wp2_with (first | (go_at_call 146; refine C.out.mono ?_; rintro e w5 ⟨rfl, hB5⟩))
        try rw [Exit.noGoto_ret]
        go_ret
        refine ⟨ret_int ?_, hB0.trans ((bt hB4 hB5).mono hB0.size)⟩
        have e1 := chks_stop Q k HA.out (by rw [← HY.out]; exact hy0) n hkn
        rw [HQ.out, e1, ← HY.out, if_neg hy0]
    · obtain rfl : k = n := by omega
      have f0 := cell_later HX.out hB
      have C : Hid (Calls Tryz.prog 147 _ wr _) := twice_book a k cap P (fun j => (Q j).nm) _ wr (HF.out.later hB).1 hn f0
      cases hd : dupB (fun j => (Q j).nm) k with
      | true =>
        rw [hd] at C
        have HD : Hid (dupB (fun j => (Q j).nm) k = true) := hd
        clear hd
        go_wp2_with (first | (go_at_call 147; refine C.out.mono ?_; rintro e w5 ⟨rfl, hB5⟩))
        go_ret
        exact ⟨ret_int (by rw [HQ.out, if_pos HA.out, if_pos HD.out]), hB0.trans ((bt hB hB5).mono hB0.size)⟩
      | false =>
        rw [hd] at C
        have HD : Hid (dupB (fun j => (Q j).nm) k = false) := hd
        clear hd
        go_wp2_with (first | (go_at_call 147; refine C.out.mono ?_; rintro e w5 ⟨rfl, hB5⟩))
        go_ret
        exact ⟨ret_int (by rw [HQ.out, if_pos HA.out, HD.out]; rfl), hB0.trans ((bt hB hB5).mono hB0.size)⟩
theorem book_any (a : Option Addr) (n cap : Nat) (Q : Nat → Sch) (w : World) (H : Schs w a n Q) :
    Calls Tryz.prog 112 #[.slice a n cap] w fun e w' => e = .returned (.int .i64 (bookZ n Q)) ∧ Below w.heap.size w w' := by
  unfold bookZ
  by_cases hn : n ≤ 16
  · rw [if_neg (by omega)]
    exact book_few a n cap Q w H hn
  · rw [if_pos (by omega)]
    exact book_long a n cap w hn
end Go.Proofs.YtkfpgkohkhhlhaaGreatDoor
namespace Go.Proofs.YtkfpgkohkhhlhaaGreatDoor
open Go.RowKit

/-- The sixteen cells. -/
abbrev askC (bk : Value) (q : Qy) (vv nv mv pv : Value) : Array Value := #[bk, .int .i64 q.p.k, .string q.p.s, .string q.p.t, .int .i64 q.p.lo, .int .i64 q.p.hi, .slice q.p.a q.p.n q.p.cap, .slice q.a q.n q.cap, .string q.key, .int .i64 q.mode, .int .i64 q.win, .slice q.ia q.m q.icap, vv, nv, mv, pv]
/-- A query that is asked, in its box. -/
def AB (W : World) (b : Nat) (bk : Value) (q : Qy) (vv nv mv pv : Value) : Prop := W.heap[b]? = some (.cells (askC bk q vv nv mv pv) 59 (0, 0))
section
variable {W : World} {b : Nat} {bk : Value} {q : Qy} {vv nv mv pv : Value}
theorem AB.lt (h : AB W b bk q vv nv mv pv) : b < W.heap.size := (Array.getElem?_eq_some_iff.1 h).1
theorem AB.later {W' : World} (h : AB W b bk q vv nv mv pv) (hB : Below W.heap.size W W') : AB W' b bk q vv nv mv pv := (hB.block b h.lt).trans h
theorem AB.book (h : AB W b bk q vv nv mv pv) : W.cell? ⟨b, 0, none⟩ = some bk := by unfold AB at h; simp [World.cell?, h]
theorem AB.node (h : AB W b bk q vv nv mv pv) : NodeP W b 1 q.p := by unfold AB at h; refine ⟨?_, ?_, ?_, ?_, ?_, ?_⟩ <;> simp [World.cell?, h]
theorem AB.rest (h : AB W b bk q vv nv mv pv) : W.cell? ⟨b, 7, none⟩ = some (.slice q.a q.n q.cap) ∧ W.cell? ⟨b, 8, none⟩ = some (.string q.key) ∧ W.cell? ⟨b, 9, none⟩ = some (.int .i64 q.mode) ∧ W.cell? ⟨b, 10, none⟩ = some (.int .i64 q.win) ∧ W.cell? ⟨b, 11, none⟩ = some (.slice q.ia q.m q.icap) := by
  unfold AB at h
  refine ⟨?_, ?_, ?_, ?_, ?_⟩ <;> simp [World.cell?, h]
theorem AB.made (h : AB W b bk q vv nv mv pv) : W.cell? ⟨b, 12, none⟩ = some vv ∧ W.cell? ⟨b, 13, none⟩ = some nv ∧ W.cell? ⟨b, 14, none⟩ = some mv ∧ W.cell? ⟨b, 15, none⟩ = some pv := by
  unfold AB at h
  refine ⟨?_, ?_, ?_, ?_⟩ <;> simp [World.cell?, h]
theorem AB.frozen (h : AB W b bk q vv nv mv pv) (j : Nat) : W.frozen? ⟨b, j, none⟩ = false := by unfold AB at h; simp [World.frozen?, h]
end
theorem NodeP.at1 {w : World} {B : Nat} {x : Pt} (h : NodeP w B 1 x) : w.cell? ⟨B, 1, none⟩ = some (.int .i64 x.k) ∧ w.cell? ⟨B, 2, none⟩ = some (.string x.s) ∧ w.cell? ⟨B, 3, none⟩ = some (.string x.t) ∧ w.cell? ⟨B, 4, none⟩ = some (.int .i64 x.lo) ∧
    w.cell? ⟨B, 5, none⟩ = some (.int .i64 x.hi) ∧ w.cell? ⟨B, 6, none⟩ = some (.slice x.a x.n x.cap) := h
/-- What a check answers: an error of this number; nothing that was there turns. -/
def Says (f : Nat) (b : Nat) (z : Int) (W : World) : Prop := Calls Tryz.prog f #[.pointer (some ⟨b, 0, none⟩)] W fun e w' => ∃ v, e = .returned v ∧ ErrW z v ∧ Below W.heap.size W w'
section
variable (b : Nat) (bk : Value) (q : Qy) (vv nv mv pv : Value) (W : World) (h : AB W b bk q vv nv mv pv)
include h
set_option maxRecDepth 100000 in
set_option maxHeartbeats 2000000 in
theorem schemas_any (a : Option Addr) (ns cs : Nat) (Q : Nat → Sch) (hbk : bk = .slice a ns cs) (hS : Schs W a ns Q) : Says 63 b (if bookZ ns Q = 0 then 0 else 1) W := by
  subst hbk
  have c0 := h.book
  have C := book_any a ns cs Q W hS
  unfold Says
  by_cases hz : bookZ ns Q = 0
  · rw [hz] at C
    rw [if_pos hz]
    clear hS h hz
    go_enter Tryz.func63, Tryz.ntmps63
    go_wp2_with (first
      | (go_at_call 112; refine C.mono ?_; rintro e w1 ⟨rfl, hB1⟩)
      | (go_at_call 111; refine (refusedIf_any false 1 _).mono ?_; rintro e w2 ⟨rfl, rfl⟩))
    go_ret
    exact ⟨_, rfl, .inl ⟨rfl, rfl⟩, hB1⟩
  · have t : (bookZ ns Q != 0) = true := by simpa using hz
    rw [if_neg hz]
    clear hS h hz
    go_enter Tryz.func63, Tryz.ntmps63
    go_wp2_with (first
      | (go_at_call 112; refine C.mono ?_; rintro e w1 ⟨rfl, hB1⟩)
      | (go_at_call 111; refine (refusedIf_any true 1 _).mono ?_; rintro e w2 ⟨rfl, rfl⟩))
    go_ret
    exact ⟨_, rfl, .inr ⟨by decide, .base 1, rfl, rfl⟩, hB1⟩
set_option maxRecDepth 100000 in
set_option maxHeartbeats 2000000 in
theorem clauses_any (hQ : IsQ W q) (hok : QOk q) (hsm : q.bulk ≤ 1048576) : Says 64 b (chkQ q) W := by
  obtain ⟨d1, d2, d3, d4, d5, d6⟩ := h.node.at1
  obtain ⟨d7, d8, d9, d10, d11⟩ := h.rest
  have C := checkQ_any q W hQ hok hsm
  unfold Says
  clear hQ hok hsm h
  go_enter Tryz.func64, Tryz.ntmps64
  go_wp2_with (first
    | (go_at_call 15; refine C.mono ?_; rintro e w1 ⟨rfl, hB1⟩)
    | (go_at_call 113; refine (refused_any _ _).mono ?_; rintro e w2 ⟨rfl, rfl⟩))
  go_ret
  exact ⟨_, rfl, errW_of _, hB1⟩
set_option maxRecDepth 100000 in
set_option maxHeartbeats 2000000 in
theorem pattern_any (hX : IsP W q.p) (hok : POk q.p) (hsm : q.p.size ≤ 1048576) : Calls Tryz.prog 65 #[.pointer (some ⟨b, 0, none⟩)] W fun e w' => ∃ z v, MadeZ q.p z ∧ e = .returned v ∧ ErrW z v ∧ Below W.heap.size W w' := by
  obtain ⟨d1, d2, d3, d4, d5, d6⟩ := h.node.at1
  have C := madeP_any q.p W hX hsm hok
  clear hX hok hsm h
  go_enter Tryz.func65, Tryz.ntmps65
  go_wp2_with (first
    | (go_at_call 16; refine C.mono ?_; rintro e w1 ⟨z, rfl, hz, hB1⟩)
    | (go_at_call 113; refine (refused_any _ _).mono ?_; rintro e w2 ⟨rfl, rfl⟩))
  go_ret
  exact ⟨_, _, hz, rfl, errW_of _, hB1⟩
set_option maxRecDepth 100000 in
set_option maxHeartbeats 2000000 in
theorem tailW_any (hX : IsP W q.p) (hsm : q.p.size ≤ 1048576) : Calls Tryz.prog 66 #[.pointer (some ⟨b, 0, none⟩)] W fun e w' => ∃ z v, (z = 4 ∨ z = 0) ∧ (z = 4 ↔ (∃ i, HasTail q.p i) ∧ q.win = 0) ∧ e = .returned v ∧ ErrW z v ∧ Below W.heap.size W w' := by
  obtain ⟨d1, d2, d3, d4, d5, d6⟩ := h.node.at1
  have hAB := h
  by_cases hT : ∃ i, HasTail q.p i
  · obtain ⟨i, hi⟩ := hT
    have C := tail_yes q.p i W hX hsm hi
    have HI : Hid (HasTail q.p i) := hi
    have HAB : Hid (AB W b bk q vv nv mv pv) := hAB
    by_cases hw : q.win = 0
    · have tw : (q.win == 0) = true := by simp [hw]
      have HW : Hid (q.win = 0) := hw
      clear hX hsm h hAB hi hw
      go_enter Tryz.func66, Tryz.ntmps66
      go_wp2_with (first
        | (go_at_call 19; refine C.mono ?_; rintro e w1 ⟨y, rfl, -, -, -, hB1⟩; obtain ⟨D, V, hD, hDb, hDV, hDB, hDn, hDs⟩ := boxP_put y w1; obtain ⟨⟨g0, g1, g2, g3, g4, g5⟩, f0, f1, f2, f3, f4, f5⟩ := zero_cells hDb; obtain ⟨-, -, -, k10, -⟩ := ((HAB.out.later hB1).later hDB).rest; have HV : Hid (Below W.heap.size W V) := hB1.trans (hDB.mono hB1.size); clear hDb hDn hDs hDB)
        | (go_at_call 111; refine (refusedIf_any true 4 _).mono ?_; rintro e w2 ⟨rfl, rfl⟩))
      go_ret
      exact ⟨4, _, .inl rfl, ⟨fun _ => ⟨⟨i, HI.out⟩, HW.out⟩, fun _ => rfl⟩, rfl, .inr ⟨by decide, .base 4, rfl, rfl⟩, HV.out⟩
    · have tw : (q.win == 0) = false := by simp [hw]
      have HW : Hid (¬ q.win = 0) := hw
      clear hX hsm h hAB hi hw
      go_enter Tryz.func66, Tryz.ntmps66
      go_wp2_with (first
        | (go_at_call 19; refine C.mono ?_; rintro e w1 ⟨y, rfl, -, -, -, hB1⟩; obtain ⟨D, V, hD, hDb, hDV, hDB, hDn, hDs⟩ := boxP_put y w1; obtain ⟨⟨g0, g1, g2, g3, g4, g5⟩, f0, f1, f2, f3, f4, f5⟩ := zero_cells hDb; obtain ⟨-, -, -, k10, -⟩ := ((HAB.out.later hB1).later hDB).rest; have HV : Hid (Below W.heap.size W V) := hB1.trans (hDB.mono hB1.size); clear hDb hDn hDs hDB)
        | (go_at_call 111; refine (refusedIf_any false 4 _).mono ?_; rintro e w2 ⟨rfl, rfl⟩))
      go_ret
      exact ⟨0, _, .inr rfl, ⟨fun h => absurd h (by decide), fun h => absurd h.2 HW.out⟩, rfl, .inl ⟨rfl, rfl⟩, HV.out⟩
  · have C := tail_no q.p W hX (fun i hi => hT ⟨i, hi⟩)
    have HT : Hid (¬ ∃ i, HasTail q.p i) := hT
    have HAB : Hid (AB W b bk q vv nv mv pv) := hAB
    clear hX hsm h hAB hT
    go_enter Tryz.func66, Tryz.ntmps66
    go_wp2_with (first
      | (go_at_call 19; refine C.mono ?_; rintro e w1 ⟨rfl, hB1⟩; obtain ⟨D, V, hD, hDb, hDV, hDB, hDn, hDs⟩ := boxP_put .nil w1; obtain ⟨⟨g0, g1, g2, g3, g4, g5⟩, f0, f1, f2, f3, f4, f5⟩ := zero_cells hDb; have HV : Hid (Below W.heap.size W V) := hB1.trans (hDB.mono hB1.size); clear hDb hDn hDs hDB)
      | (go_at_call 111; refine (refusedIf_any false 4 _).mono ?_; rintro e w2 ⟨rfl, rfl⟩))
    go_ret
    exact ⟨0, _, .inr rfl, ⟨fun h => absurd h (by decide), fun h => absurd h.1 HT.out⟩, rfl, .inl ⟨rfl, rfl⟩, by have h9 := HV.out; rw [← hDV] at h9; exact h9⟩
end
end Go.Proofs.YtkfpgkohkhhlhaaGreatDoor
namespace Go.Proofs.YtkfpgkohkhhlhaaGreatDoor
open Go.RowKit Go.Shelf
attribute [local go_sem] Oper.semAt_some

/-- The closure that goes down, as a value. -/
abbrev downWV (By Bd : Nat) : Value := .func (.func 90) #[] #[.pointer (some ⟨By, 0, none⟩), .pointer (some ⟨Bd, 0, none⟩)]

set_option maxRecDepth 100000 in
set_option maxHeartbeats 4000000 in
theorem downW_any {ι : Type} (l By Bd : Nat) (kids : ι → Nat) (kid : ι → Nat → ι) (rank : ι → Nat)
    (Mid Gone : ι → World → Option Addr → Nat → Nat → World → Prop) (Post : ι → World → World → Prop)
    (hrank : ∀ v i, i < kids v → rank (kid v i) < rank v)
    (hdr : ∀ v W a cap i Wi, Mid v W a cap i Wi → Mid v W a cap i Wi.drew)
    (hL : ∀ v W a cap i Wi, Mid v W a cap i Wi → kids v ≤ 9223372036854775807 ∧ Wi.cell? ⟨By, 0, none⟩ = some (.func (.yield l) #[] #[]))
    (hY : ∀ v W a cap i Wi, Mid v W a cap i Wi → i < kids v → ∃ b o, a = some ⟨b, o, none⟩ ∧ YieldAt Fence.wide 0 Tryz.prog l #[.pointer (some ⟨b, o + i * 6, none⟩)] Wi fun e W' => e = .returned (.bool true) ∧ Gone v W a cap i W')
    (hC : ∀ v W a cap i Wi, Gone v W a cap i Wi → ∃ b o a' cap', a = some ⟨b, o, none⟩ ∧ Wi.cell? ⟨b, o + i * 6 + 5, none⟩ = some (.slice a' (kids (kid v i)) cap') ∧ Wi.cell? ⟨Bd, 0, none⟩ = some (downWV By Bd) ∧ Mid (kid v i) Wi a' cap' 0 Wi ∧
      (∀ W', Post (kid v i) Wi W' → Mid v W a cap (i + 1) W'))
    (hE : ∀ v W a cap Wi, Mid v W a cap (kids v) Wi → Post v W Wi) :
    ∀ (r : Nat) (v : ι), rank v < r → ∀ (n : Nat) (a : Option Addr) (cap : Nat) (W : World), Mid v W a cap 0 W →
      CallsIn Fence.wide n Tryz.prog 90 #[.slice a (kids v) cap, .pointer (some ⟨By, 0, none⟩), .pointer (some ⟨Bd, 0, none⟩)] W fun e W' => e = .returned (.bool true) ∧ Post v W W' := by
  intro r
  induction r with
  | zero => intro v h; omega
  | succ r ih =>
    intro v hv n a cap W hpre
    have hdd : ∀ k : Nat, (Fence.wide.depth.isSome = true → 1 ≤ k) := fun k h => by cases h
    obtain ⟨hn0, -⟩ := hL v W a cap 0 W hpre
    refine callsIn_of_wp Tryz.func90 rfl trivial ?_ rfl
    simp only [Tryz.ntmps90, List.size_toArray, List.length_cons, List.length_nil, Nat.reduceAdd, Nat.reduceSub, Array.replicate_succ, Array.replicate_zero, List.push_toArray, List.append_toArray, List.nil_append, List.cons_append]
    gi_wp2
    gi_loopw [8] (fun u wr => ∃ i : Nat, i ≤ kids v ∧ u = .int .i64 i ∧ Mid v W a cap i wr) (fun u _ => kids v - (intOf u).toNat)
    case atStart => exact ⟨0, Nat.zero_le _, rfl, hpre⟩
    case round =>
      obtain ⟨i, hi, rfl, hmi⟩ := hrel
      by_cases hin : i < kids v
      · have hmd := hdr v W a cap i wr hmi
        obtain ⟨-, hby⟩ := hL v W a cap i _ hmd
        obtain ⟨b, o, rfl, hyy⟩ := hY v W a cap i _ hmd hin
        obtain ⟨fn, tmps, assign, body, hy, hR⟩ := yield_wide (n - 1) hyy
        clear hyy
        have HQ : Hid (i < kids v) := hin
        gi_wp2
        gi_region_with (first
          | ((try refine ⟨hdd _, ?_⟩); refine hR.mono ?_; clear hR; rintro e W1 ⟨rfl, hm⟩; obtain ⟨b1, o1, a', cap', hab, hc5, hcd, hpk, hpost⟩ := hC v W _ cap i W1 hm; cases hab
             have ihc := ih (kid v i) (by have := hrank v i HQ.out; omega) (n - 1) a' cap' W1 hpk)
          | (refine ⟨trivial, hdd _, ?_⟩; gi_at_call 90; refine ihc.mono ?_; clear ihc; rintro e W2 ⟨rfl, hj⟩))
        all_goals gi_wp2
        all_goals exact ⟨⟨i + 1, HQ.out, by simp, hpost _ hj⟩, by have := HQ.out; simp [intOf]; omega⟩
      · have hin' : i = kids v := by omega
        subst hin'
        gi_wp2
        go_ret
        exact ⟨rfl, hE _ _ _ _ _ hmi⟩
end Go.Proofs.YtkfpgkohkhhlhaaGreatDoor
