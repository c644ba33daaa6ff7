/-
  schema.Same (P7.1): all fields?
-/
import Derived.Test.YtdaldnpajihdlaaSchBook
import Derived.BigQuiet
namespace Go.Proofs.Ytdaldnpajihdlaa
open Go.RowKit

/-- Are the first fields the same? -/
def eqTo (Nm : Nat → ByteArray) (K : Nat → Int) (Nm' : Nat → ByteArray) (K' : Nat → Int) : Nat → Bool
  | 0 => true
  | k + 1 => eqTo Nm K Nm' K' k && (decide (Nm k = Nm' k) && decide (K k = K' k))
theorem eqTo_at (Nm : Nat → ByteArray) (K : Nat → Int) (Nm' : Nat → ByteArray) (K' : Nat → Int) : ∀ n, eqTo Nm K Nm' K' n = true ↔ ∀ j, j < n → Nm j = Nm' j ∧ K j = K' j
  | 0 => by simp [eqTo]
  | n + 1 => by
    simp only [eqTo, Bool.and_eq_true, decide_eq_true_eq, eqTo_at Nm K Nm' K' n]
    constructor
    · rintro ⟨h1, h2⟩ j hj
      by_cases e : j = n
      · exact e ▸ h2
      · exact h1 j (by omega)
    · exact fun h => ⟨fun j hj => h j (by omega), h n (by omega)⟩
theorem eqTo_not {Nm : Nat → ByteArray} {K : Nat → Int} {Nm' : Nat → ByteArray} {K' : Nat → Int} {n : Nat} (k : Nat) (hk : k < n) (h : ¬ (Nm k = Nm' k ∧ K k = K' k)) : eqTo Nm K Nm' K' n = false := by
  cases e : eqTo Nm K Nm' K' n with
  | false => rfl
  | true => exact absurd ((eqTo_at Nm K Nm' K' n).1 e k hk) h
/-- Same's answer. -/
def sameB (S : ByteArray) (n : Nat) (Nm : Nat → ByteArray) (K : Nat → Int) (S' : ByteArray) (n' : Nat) (Nm' : Nat → ByteArray) (K' : Nat → Int) : Bool :=
  decide (S = S') && (decide (n = n') && eqTo Nm K Nm' K' n)

set_option maxRecDepth 100000 in
set_option maxHeartbeats 4000000 in
theorem equal_len (a a' : Option Addr) (n n' cap cap' : Nat) (w : World) (hn : ¬ n = n') :
    Calls Try.prog 34 #[.slice a n cap, .slice a' n' cap'] w fun e w' => e = .returned (.bool false) ∧ Below w.heap.size w w' := by
  have h1 : ¬ (n : Int) = n' := by omega
  have h2 : ((n : Int) == (n' : Int)) = false := by simpa using h1
  go_enter Try.func34, Try.ntmps34
  go_wp2
  go_ret
  exact ⟨rfl, Below.refl _ _⟩
set_option maxRecDepth 100000 in
set_option maxHeartbeats 4000000 in
theorem equal_same (a a' : Option Addr) (n cap cap' : Nat) (Nm : Nat → ByteArray) (K : Nat → Int) (Nm' : Nat → ByteArray) (K' : Nat → Int) (w : World) (H : Flds w a n Nm K) (H' : Flds w a' n Nm' K') (hn : n ≤ 9223372036854775807) :
    Calls Try.prog 34 #[.slice a n cap, .slice a' n cap'] w fun e w' => e = .returned (.bool (eqTo Nm K Nm' K' n)) ∧ Below w.heap.size w w' := by
  obtain ⟨x, hx⟩ : ∃ x, x = eqTo Nm K Nm' K' n := ⟨_, rfl⟩
  rw [← hx]
  have HQ : Hid (x = eqTo Nm K Nm' K' n) := hx
  have HF : Hid (Flds w a n Nm K) := H
  have HG : Hid (Flds w a' n Nm' K') := H'
  clear H H' hx
  go_enter Try.func34, Try.ntmps34
  go_wp2
  go_loopw [13] (fun u wr => ∃ k : Nat, k ≤ n ∧ u = .int .i64 k ∧ Hid (eqTo Nm K Nm' K' k = true) ∧ Below w.heap.size w wr) (fun u _ => n - (intOf u).toNat)
  case atStart => exact ⟨0, Nat.zero_le _, rfl, rfl, Below.refl _ _⟩
  case round =>
    obtain ⟨k, hk, rfl, HA, hB⟩ := hrel
    by_cases hkn : k < n
    · obtain ⟨b, off, rfl, hc⟩ := (HF.out.later hB) (by omega)
      obtain ⟨b', off', rfl, hc'⟩ := (HG.out.later hB) (by omega)
      have f0 := (hc k hkn).1.1
      have f1 : wr.cell? ⟨b, off + k * 2 + 1, none⟩ = some (.int .i64 (K k)) := (hc k hkn).1.2
      have f2 := (hc' k hkn).1.1
      have f3 : wr.cell? ⟨b', off' + k * 2 + 1, none⟩ = some (.int .i64 (K' k)) := (hc' k hkn).1.2
      clear hc hc'
      by_cases hs : Nm k = Nm' k
      · have s1 := str_yes hs
        by_cases hq : K k = K' k
        · have s2 : (K k == K' k) = true := by simpa using hq
          have HY : Hid (eqTo Nm K Nm' K' (k + 1) = true) := by show eqTo Nm K Nm' K' (k + 1) = true; simp only [eqTo]; rw [HA.out]; simp [hs, hq]
          clear hs hq
          go_wp2_with fail
          go_quiet (fail)
          go_wp2
          go_roundw
          case rel => exact ⟨k + 1, by omega, by go_num, HY, bd hB _⟩
          case measure => simp [intOf]; omega
        · have s2 : (K k == K' k) = false := by simpa using hq
          have HN : Hid (eqTo Nm K Nm' K' n = false) := eqTo_not k hkn fun h => hq h.2
          clear hs hq
          go_wp2_with fail
          go_quiet (fail)
          go_wp2
          try rw [Exit.noGoto_ret]
          go_ret
          exact ⟨ret_bool (by rw [HQ.out, HN.out]), bd hB _⟩
      · have s1 := str_not hs
        have HN : Hid (eqTo Nm K Nm' K' n = false) := eqTo_not k hkn fun h => hs h.1
        clear hs
        go_wp2_with fail
        go_quiet (fail)
        go_wp2
        try rw [Exit.noGoto_ret]
        go_ret
        exact ⟨ret_bool (by rw [HQ.out, HN.out]), bd hB _⟩
    · obtain rfl : k = n := by omega
      go_wp2
      go_ret
      exact ⟨ret_bool (by rw [HQ.out, HA.out]), hB⟩
theorem equal_any (a a' : Option Addr) (n n' cap cap' : Nat) (Nm : Nat → ByteArray) (K : Nat → Int) (Nm' : Nat → ByteArray) (K' : Nat → Int) (w : World) (H : Flds w a n Nm K) (H' : Flds w a' n' Nm' K') (hn : n ≤ 9223372036854775807) :
    Calls Try.prog 34 #[.slice a n cap, .slice a' n' cap'] w fun e w' => e = .returned (.bool (decide (n = n') && eqTo Nm K Nm' K' n)) ∧ Below w.heap.size w w' := by
  by_cases h : n = n'
  · subst h
    simpa using equal_same a a' n cap cap' Nm K Nm' K' w H H' hn
  · simpa [h] using equal_len a a' n n' cap cap' w h
set_option maxRecDepth 100000 in
set_option maxHeartbeats 4000000 in
theorem same_any (S : ByteArray) (a : Option Addr) (n cap : Nat) (Nm : Nat → ByteArray) (K : Nat → Int) (S' : ByteArray) (a' : Option Addr) (n' cap' : Nat) (Nm' : Nat → ByteArray) (K' : Nat → Int) (w : World) (H : Flds w a n Nm K) (H' : Flds w a' n' Nm' K') (hn : n ≤ 9223372036854775807) :
    Calls Try.prog 14 #[schV S (.slice a n cap), schV S' (.slice a' n' cap')] w fun e w' => e = .returned (.bool (sameB S n Nm K S' n' Nm' K')) ∧ Below w.heap.size w w' := by
  have hB0 : Below w.heap.size w ((w.alloc (schO S (.slice a n cap))).alloc (schO S' (.slice a' n' cap'))) := ((Below.refl _ _).alloc (Nat.le_refl _) _).alloc (by simp) _
  have C : Hid (Calls Try.prog 34 _ ((w.alloc (schO S (.slice a n cap))).alloc (schO S' (.slice a' n' cap'))) _) := equal_any a a' n n' cap cap' Nm K Nm' K' ((w.alloc (schO S (.slice a n cap))).alloc (schO S' (.slice a' n' cap'))) (H.later hB0) (H'.later hB0) hn
  generalize hy : (decide (n = n') && eqTo Nm K Nm' K' n) = y at C
  have HY : Hid ((decide (n = n') && eqTo Nm K Nm' K' n) = y) := hy
  clear hy H H'
  by_cases hs : S = S'
  · have s1 := str_yes hs
    have HQ : Hid (sameB S n Nm K S' n' Nm' K' = y) := by show sameB S n Nm K S' n' Nm' K' = y; unfold sameB; rw [HY.out]; simp [hs]
    rw [HQ.out]
    clear hs
    go_enter Try.func14, Try.ntmps14
    go_wp2_with (first | (go_at_call 34; refine C.out.mono ?_; rintro e w1 ⟨rfl, hB1⟩))
    go_ret
    exact ⟨rfl, bt hB0 hB1⟩
  · have s1 := str_not hs
    have HQ : Hid (sameB S n Nm K S' n' Nm' K' = false) := by show sameB S n Nm K S' n' Nm' K' = false; unfold sameB; simp [hs]
    rw [HQ.out]
    clear hs
    go_enter Try.func14, Try.ntmps14
    go_wp2
    go_ret
    exact ⟨rfl, hB0⟩
end Go.Proofs.Ytdaldnpajihdlaa
