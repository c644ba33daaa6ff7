/-
  The document's Find, Field and Same (P7.1).
-/
import Derived.Test.YtdaldnpajihdlaaSchSame
import Derived.Test.YtdaldnpajihdlaaSchField
namespace Go.Proofs.Ytdaldnpajihdlaa
open Go.RowKit

set_option maxRecDepth 100000 in
set_option maxHeartbeats 4000000 in
theorem refFind_some (a : Option Addr) (n cap i : Nat) (Nm : Nat → ByteArray) (V : Nat → Value) (s : ByteArray) (w : World) (H : Row2 w a n Nm V) (hn : n ≤ 9223372036854775807) (hi : i < n) (he : Nm i = s) (hl : ∀ j, j < i → ¬ Nm j = s) :
    Calls Try.prog 7 #[.slice a n cap, .string s] w fun e w' => e = .returned (.tuple #[.int .i64 i, .bool true]) ∧ Below w.heap.size w w' := by
  obtain ⟨b, off, rfl, hc⟩ := H (by omega)
  have HC : Hid (∀ j, j < n → _) := hc
  have HE : Hid (Nm i = s) := he
  have HL : Hid (∀ j, j < i → ¬ Nm j = s) := hl
  clear H hc he hl
  go_enter Try.func7, Try.ntmps7
  go_wp2
  go_loopw [6] (fun v wr => ∃ k : Nat, k ≤ i ∧ v = .int .i64 k ∧ Below w.heap.size w wr) (fun v _ => i - (intOf v).toNat)
  case atStart => exact ⟨0, Nat.zero_le _, rfl, Below.refl _ _⟩
  case round =>
    obtain ⟨k, hk, rfl, hB⟩ := hrel
    have hkn : k < n := by omega
    have f0 := cell_later (HC.out k hkn).1.1 hB
    by_cases hki : k = i
    · subst hki
      have s1 := str_yes HE.out
      go_wp2
      try rw [Exit.noGoto_ret]
      exact bodyPost_ret (v := .tuple #[.int .i64 k, .bool true]) (by simp [results, Try.results7, go_sem]) rfl ⟨rfl, hB⟩
    · have s1 := str_not (HL.out k (by omega))
      go_wp2
      go_roundw
      case rel => exact ⟨k + 1, by omega, by go_num, hB⟩
      case measure => simp [intOf]; omega
set_option maxRecDepth 100000 in
set_option maxHeartbeats 4000000 in
theorem refFind_none (a : Option Addr) (n cap : Nat) (Nm : Nat → ByteArray) (V : Nat → Value) (s : ByteArray) (w : World) (H : Row2 w a n Nm V) (hn : n ≤ 9223372036854775807) (hl : ∀ j, j < n → ¬ Nm j = s) :
    Calls Try.prog 7 #[.slice a n cap, .string s] w fun e w' => e = .returned (.tuple #[.int .i64 0, .bool false]) ∧ Below w.heap.size w w' := by
  have HC : Hid (Row2 w a n Nm V) := H
  have HL : Hid (∀ j, j < n → ¬ Nm j = s) := hl
  clear H hl
  go_enter Try.func7, Try.ntmps7
  go_wp2
  go_loopw [6] (fun v wr => ∃ k : Nat, k ≤ n ∧ v = .int .i64 k ∧ Below w.heap.size w wr) (fun v _ => n - (intOf v).toNat)
  case atStart => exact ⟨0, Nat.zero_le _, rfl, Below.refl _ _⟩
  case round =>
    obtain ⟨k, hk, rfl, hB⟩ := hrel
    by_cases hkn : k < n
    · obtain ⟨b, off, rfl, hc⟩ := HC.out (by omega)
      have f0 := cell_later (hc k hkn).1.1 hB
      have s1 := str_not (HL.out k hkn)
      clear hc
      go_wp2
      go_roundw
      case rel => exact ⟨k + 1, by omega, by go_num, hB⟩
      case measure => simp [intOf]; omega
    · go_wp2
      exact bodyPost_ret (v := .tuple #[.int .i64 0, .bool false]) (by simp [results, Try.results7, go_sem]) rfl ⟨rfl, hB⟩
set_option maxRecDepth 100000 in
set_option maxHeartbeats 4000000 in
theorem refField_some (S : ByteArray) (a : Option Addr) (n cap i : Nat) (Nm : Nat → ByteArray) (K : Nat → Int) (s : ByteArray) (w : World) (H : Flds w a n Nm K) (hn : n ≤ 9223372036854775807) (hi : i < n) (he : Nm i = s) (hl : ∀ j, j < i → ¬ Nm j = s) :
    Calls Try.prog 9 #[schV S (.slice a n cap), .string s] w fun e w' => e = .returned (.tuple #[.int .i64 i, .int .i64 (K i), .bool true]) ∧ Below w.heap.size w w' := by
  obtain ⟨b, off, rfl, hc⟩ := H (by omega)
  obtain ⟨a, ha⟩ : ∃ a, a = some (⟨b, off, none⟩ : Addr) := ⟨_, rfl⟩
  have HC : Hid (∀ j, j < n → _) := hc
  have HE : Hid (Nm i = s) := he
  have HL : Hid (∀ j, j < i → ¬ Nm j = s) := hl
  rw [← ha]
  have hB0 : Below w.heap.size w (w.alloc (schO S (.slice a n cap))) := (Below.refl _ _).alloc (Nat.le_refl _) _
  have HX : Hid ((w.alloc (schO S (.slice a n cap))).cell? ⟨w.heap.size, 1, none⟩ = some (.slice a n cap)) := by
    show (w.alloc (schO S (.slice a n cap))).cell? ⟨w.heap.size, 1, none⟩ = some (.slice a n cap)
    rw [World.cell?_alloc_at _ _ _ _ rfl]; rfl
  rw [ha] at hB0 HX
  subst ha
  clear H hc he hl
  go_enter Try.func9, Try.ntmps9
  go_upto_region 1 with fail
  obtain ⟨W, hW⟩ : ∃ W, W = (w.alloc (schO S (.slice (some ⟨b, off, none⟩) n cap))) := ⟨_, rfl⟩
  obtain ⟨bs, hbs⟩ : ∃ bs, bs = w.heap.size := ⟨_, rfl⟩
  rw [← hW, ← hbs] at HX
  rw [← hW] at hB0
  rw [← hW, ← hbs]
  clear hW hbs
  go_wp2_with fail
  go_loopw [7] (fun v wr => ∃ k : Nat, k ≤ i ∧ v = .int .i64 k ∧ Below W.heap.size W wr) (fun v _ => i - (intOf v).toNat)
  case atStart => exact ⟨0, Nat.zero_le _, rfl, Below.refl _ _⟩
  case round =>
    obtain ⟨k, hk, rfl, hB⟩ := hrel
    have hkn : k < n := by omega
    have f0 := cell_later (cell_later (HC.out k hkn).1.1 hB0) hB
    have f1 : wr.cell? ⟨b, off + k * 2 + 1, none⟩ = some (.int .i64 (K k)) := cell_later (cell_later (HC.out k hkn).1.2 hB0) hB
    have x1 := cell_later HX.out hB
    by_cases hki : k = i
    · subst hki
      have s1 := str_yes HE.out
      go_wp2_with fail
      go_quiet (fail)
      go_wp2
      try rw [Exit.noGoto_ret]
      exact bodyPost_ret (v := .tuple #[.int .i64 k, .int .i64 (K k), .bool true]) (by simp [results, Try.results9, go_sem]) rfl ⟨rfl, bt hB0 (bd hB _)⟩
    · have s1 := str_not (HL.out k (by omega))
      go_wp2
      go_roundw
      case rel => exact ⟨k + 1, by omega, by go_num, hB⟩
      case measure => simp [intOf]; omega
set_option maxRecDepth 100000 in
set_option maxHeartbeats 4000000 in
theorem refField_none (S : ByteArray) (a : Option Addr) (n cap : Nat) (Nm : Nat → ByteArray) (K : Nat → Int) (s : ByteArray) (w : World) (H : Flds w a n Nm K) (hn : n ≤ 9223372036854775807) (hl : ∀ j, j < n → ¬ Nm j = s) :
    Calls Try.prog 9 #[schV S (.slice a n cap), .string s] w fun e w' => e = .returned (.tuple #[.int .i64 0, .int .i64 0, .bool false]) ∧ Below w.heap.size w w' := by
  have HC : Hid (Flds w a n Nm K) := H
  have HL : Hid (∀ j, j < n → ¬ Nm j = s) := hl
  have hB0 : Below w.heap.size w (w.alloc (schO S (.slice a n cap))) := (Below.refl _ _).alloc (Nat.le_refl _) _
  have HX : Hid ((w.alloc (schO S (.slice a n cap))).cell? ⟨w.heap.size, 1, none⟩ = some (.slice a n cap)) := by
    show (w.alloc (schO S (.slice a n cap))).cell? ⟨w.heap.size, 1, none⟩ = some (.slice a n cap)
    rw [World.cell?_alloc_at _ _ _ _ rfl]; rfl
  clear H hl
  go_enter Try.func9, Try.ntmps9
  go_upto_region 1 with fail
  obtain ⟨W, hW⟩ : ∃ W, W = (w.alloc (schO S (.slice a n cap))) := ⟨_, rfl⟩
  obtain ⟨bs, hbs⟩ : ∃ bs, bs = w.heap.size := ⟨_, rfl⟩
  rw [← hW, ← hbs] at HX
  rw [← hW] at hB0
  rw [← hW, ← hbs]
  clear hW hbs
  go_wp2_with fail
  go_loopw [7] (fun v wr => ∃ k : Nat, k ≤ n ∧ v = .int .i64 k ∧ Below W.heap.size W wr) (fun v _ => n - (intOf v).toNat)
  case atStart => exact ⟨0, Nat.zero_le _, rfl, Below.refl _ _⟩
  case round =>
    obtain ⟨k, hk, rfl, hB⟩ := hrel
    have x1 := cell_later HX.out hB
    by_cases hkn : k < n
    · obtain ⟨b, off, rfl, hc⟩ := HC.out (by omega)
      have f0 := cell_later (cell_later (hc k hkn).1.1 hB0) hB
      have s1 := str_not (HL.out k hkn)
      clear hc
      go_wp2
      go_roundw
      case rel => exact ⟨k + 1, by omega, by go_num, hB⟩
      case measure => simp [intOf]; omega
    · go_wp2
      exact bodyPost_ret (v := .tuple #[.int .i64 0, .int .i64 0, .bool false]) (by simp [results, Try.results9, go_sem]) rfl ⟨rfl, bt hB0 hB⟩
set_option maxRecDepth 100000 in
set_option maxHeartbeats 4000000 in
theorem refSame_name (S : ByteArray) (a : Option Addr) (n cap : Nat) (S' : ByteArray) (a' : Option Addr) (n' cap' : Nat) (w : World) (hs : ¬ S = S') :
    Calls Try.prog 15 #[schV S (.slice a n cap), schV S' (.slice a' n' cap')] w fun e w' => e = .returned (.bool false) ∧ Below w.heap.size w w' := by
  have hB0 : Below w.heap.size w ((w.alloc (schO S (.slice a n cap))).alloc (schO S' (.slice a' n' cap'))) := ((Below.refl _ _).alloc (Nat.le_refl _) _).alloc (by simp) _
  have s1 := str_not hs
  clear hs
  go_enter Try.func15, Try.ntmps15
  go_wp2
  go_ret
  exact ⟨rfl, hB0⟩
set_option maxRecDepth 100000 in
set_option maxHeartbeats 4000000 in
theorem refSame_len (S : ByteArray) (a : Option Addr) (n cap : Nat) (S' : ByteArray) (a' : Option Addr) (n' cap' : Nat) (w : World) (hs : S = S') (hn : ¬ n = n') :
    Calls Try.prog 15 #[schV S (.slice a n cap), schV S' (.slice a' n' cap')] w fun e w' => e = .returned (.bool false) ∧ Below w.heap.size w w' := by
  have hB0 : Below w.heap.size w ((w.alloc (schO S (.slice a n cap))).alloc (schO S' (.slice a' n' cap'))) := ((Below.refl _ _).alloc (Nat.le_refl _) _).alloc (by simp) _
  have s1 := str_yes hs
  have h1 : ¬ (n : Int) = n' := by omega
  have h2 : ((n : Int) == (n' : Int)) = false := by simpa using h1
  clear hs
  go_enter Try.func15, Try.ntmps15
  go_wp2
  go_ret
  exact ⟨rfl, hB0⟩
set_option maxRecDepth 100000 in
set_option maxHeartbeats 4000000 in
theorem refSame_flds (S : ByteArray) (a : Option Addr) (n cap : Nat) (Nm : Nat → ByteArray) (K : Nat → Int) (S' : ByteArray) (a' : Option Addr) (cap' : Nat) (Nm' : Nat → ByteArray) (K' : Nat → Int) (w : World) (H : Flds w a n Nm K) (H' : Flds w a' n Nm' K') (hn : n ≤ 9223372036854775807) (hs : S = S') :
    Calls Try.prog 15 #[schV S (.slice a n cap), schV S' (.slice a' n cap')] w fun e w' => e = .returned (.bool (eqTo Nm K Nm' K' n)) ∧ Below w.heap.size w w' := by
  obtain ⟨x, hx⟩ : ∃ x, x = eqTo Nm K Nm' K' n := ⟨_, rfl⟩
  rw [← hx]
  have HQ : Hid (x = eqTo Nm K Nm' K' n) := hx
  have hB0 : Below w.heap.size w ((w.alloc (schO S (.slice a n cap))).alloc (schO S' (.slice a' n cap'))) := ((Below.refl _ _).alloc (Nat.le_refl _) _).alloc (by simp) _
  have HF : Hid (Flds ((w.alloc (schO S (.slice a n cap))).alloc (schO S' (.slice a' n cap'))) a n Nm K) := H.later hB0
  have HG : Hid (Flds ((w.alloc (schO S (.slice a n cap))).alloc (schO S' (.slice a' n cap'))) a' n Nm' K') := H'.later hB0
  have HX : Hid (((w.alloc (schO S (.slice a n cap))).alloc (schO S' (.slice a' n cap'))).cell? ⟨w.heap.size, 0, none⟩ = some (.string S) ∧ ((w.alloc (schO S (.slice a n cap))).alloc (schO S' (.slice a' n cap'))).cell? ⟨w.heap.size, 1, none⟩ = some (.slice a n cap)) := by
    refine ⟨?_, ?_⟩ <;> rw [World.cell?_alloc_past _ _ _ (by simp), World.cell?_alloc_at _ _ _ _ rfl] <;> rfl
  have HY : Hid (((w.alloc (schO S (.slice a n cap))).alloc (schO S' (.slice a' n cap'))).cell? ⟨w.heap.size + 1, 0, none⟩ = some (.string S') ∧ ((w.alloc (schO S (.slice a n cap))).alloc (schO S' (.slice a' n cap'))).cell? ⟨w.heap.size + 1, 1, none⟩ = some (.slice a' n cap')) := by
    refine ⟨?_, ?_⟩ <;> rw [World.cell?_alloc_at _ _ _ _ (by simp)] <;> rfl
  have s1 := str_yes hs
  clear H H' hx hs
  go_enter Try.func15, Try.ntmps15
  go_upto_region 1 with fail
  obtain ⟨W, hW⟩ : ∃ W, W = ((w.alloc (schO S (.slice a n cap))).alloc (schO S' (.slice a' n cap'))) := ⟨_, rfl⟩
  obtain ⟨b2, hb2⟩ : ∃ b2, b2 = w.heap.size + 1 := ⟨_, rfl⟩
  obtain ⟨b1, hb1⟩ : ∃ b1, b1 = w.heap.size := ⟨_, rfl⟩
  rw [← hW, ← hb1] at HX
  rw [← hW, ← hb2] at HY
  rw [← hW] at hB0 HF HG
  rw [← hW, ← hb2, ← hb1]
  clear hW hb1 hb2
  have x0 := HX.out.1
  have x1 := HX.out.2
  have y0 := HY.out.1
  have y1 := HY.out.2
  go_wp2_with fail
  clear x0 x1 y0 y1
  go_loopw [5] (fun u wr => ∃ k : Nat, k ≤ n ∧ u = .int .i64 k ∧ Hid (eqTo Nm K Nm' K' k = true) ∧ Below W.heap.size W wr) (fun u _ => n - (intOf u).toNat)
  case atStart => exact ⟨0, Nat.zero_le _, rfl, rfl, Below.refl _ _⟩
  case round =>
    obtain ⟨k, hk, rfl, HA, hB⟩ := hrel
    have x1 := cell_later HX.out.2 hB
    have y1 := cell_later HY.out.2 hB
    by_cases hkn : k < n
    · obtain ⟨b, off, rfl, hc⟩ := (HF.out.later hB) (by omega)
      obtain ⟨b', off', rfl, hc'⟩ := (HG.out.later hB) (by omega)
      have f0 := (hc k hkn).1.1
      have f1 : wr.cell? ⟨b, off + k * 2 + 1, none⟩ = some (.int .i64 (K k)) := (hc k hkn).1.2
      have f2 := (hc' k hkn).1.1
      have f3 : wr.cell? ⟨b', off' + k * 2 + 1, none⟩ = some (.int .i64 (K' k)) := (hc' k hkn).1.2
      clear hc hc'
      by_cases hs : Nm k = Nm' k
      · have s1 := str_yes hs
        by_cases hq : K k = K' k
        · have s2 : (K k == K' k) = true := by simpa using hq
          have HY : Hid (eqTo Nm K Nm' K' (k + 1) = true) := by show eqTo Nm K Nm' K' (k + 1) = true; simp only [eqTo]; rw [HA.out]; simp [hs, hq]
          clear hs hq
          go_wp2_with fail
          go_quiet (fail)
          go_wp2
          go_roundw
          case rel => exact ⟨k + 1, by omega, by go_num, HY, bd hB _⟩
          case measure => simp [intOf]; omega
        · have s2 : (K k == K' k) = false := by simpa using hq
          have HN : Hid (eqTo Nm K Nm' K' n = false) := eqTo_not k hkn fun h => hq h.2
          clear hs hq
          go_wp2_with fail
          go_quiet (fail)
          go_wp2
          try rw [Exit.noGoto_ret]
          go_ret
          exact ⟨ret_bool (by rw [HQ.out, HN.out]), bt hB0 (bd hB _)⟩
      · have s1 := str_not hs
        have HN : Hid (eqTo Nm K Nm' K' n = false) := eqTo_not k hkn fun h => hs h.1
        clear hs
        go_wp2_with fail
        go_quiet (fail)
        go_wp2
        try rw [Exit.noGoto_ret]
        go_ret
        exact ⟨ret_bool (by rw [HQ.out, HN.out]), bt hB0 (bd hB _)⟩
    · obtain rfl : k = n := by omega
      go_wp2
      go_ret
      exact ⟨ret_bool (by rw [HQ.out, HA.out]), bt hB0 hB⟩
theorem refSame_any (S : ByteArray) (a : Option Addr) (n cap : Nat) (Nm : Nat → ByteArray) (K : Nat → Int) (S' : ByteArray) (a' : Option Addr) (n' cap' : Nat) (Nm' : Nat → ByteArray) (K' : Nat → Int) (w : World) (H : Flds w a n Nm K) (H' : Flds w a' n' Nm' K') (hn : n ≤ 9223372036854775807) :
    Calls Try.prog 15 #[schV S (.slice a n cap), schV S' (.slice a' n' cap')] w fun e w' => e = .returned (.bool (sameB S n Nm K S' n' Nm' K')) ∧ Below w.heap.size w w' := by
  unfold sameB
  by_cases hs : S = S'
  · rw [decide_eq_true hs, Bool.true_and]
    by_cases h : n = n'
    · subst h
      simpa using refSame_flds S a n cap Nm K S' a' cap' Nm' K' w H H' hn hs
    · rw [decide_eq_false h, Bool.false_and]
      exact refSame_len S a n cap S' a' n' cap' w hs h
  · rw [decide_eq_false hs, Bool.false_and]
    exact refSame_name S a n cap S' a' n' cap' w hs
end Go.Proofs.Ytdaldnpajihdlaa
