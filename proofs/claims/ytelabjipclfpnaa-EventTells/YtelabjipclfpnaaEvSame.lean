/-
  event.Same (P8.2): slices.Equal of values, and events.
-/
import Derived.Test.YtelabjipclfpnaaEvGet
import Derived.BigQuiet
import Derived.Deep.DeepCutAuto
namespace Go.Proofs.Ytelabjipclfpnaa
open Go.RowKit

set_option maxRecDepth 100000 in
set_option maxHeartbeats 2000000 in
theorem vequal_len (a a' : Option Addr) (n n' cap cap' : Nat) (w : World) (h : ¬ n = n') :
    Calls Try.prog 27 #[.slice a n cap, .slice a' n' cap'] w fun e w' => e = .returned (.bool false) ∧ Below w.heap.size w w' := by
  have h1 : ((n : Int) == (n' : Int)) = false := by simp; omega
  go_enter Try.func27, Try.ntmps27
  go_wp2
  go_ret
  exact ⟨rfl, Below.refl _ _⟩
set_option maxRecDepth 100000 in
set_option maxHeartbeats 4000000 in
theorem vequal_same (a a' : Option Addr) (n cap cap' : Nat) (V U : Nat → Val) (w : World) (H : Vals w a n V) (H' : Vals w a' n U) (hn : n ≤ 9223372036854775807) :
    Calls Try.prog 27 #[.slice a n cap, .slice a' n cap'] w fun e w' => e = .returned (.bool (eqVs V U n)) ∧ Below w.heap.size w w' := by
  obtain ⟨x, hx⟩ : ∃ x, x = eqVs V U n := ⟨_, rfl⟩
  rw [← hx]
  have HQ : Hid (x = eqVs V U n) := hx
  have HF : Hid (Vals w a n V) := H
  have HG : Hid (Vals w a' n U) := H'
  clear H H' hx
  go_enter Try.func27, Try.ntmps27
  go_wp2
  go_loopw [13] (fun u wr => ∃ k : Nat, k ≤ n ∧ u = .int .i64 k ∧ Hid (eqVs V U k = true) ∧ Below w.heap.size w wr) (fun u _ => n - (intOf u).toNat)
  case atStart => exact ⟨0, Nat.zero_le _, rfl, rfl, Below.refl _ _⟩
  case round =>
    obtain ⟨k, hk, rfl, HA, hB⟩ := hrel
    by_cases hkn : k < n
    · obtain ⟨b, off, rfl, hc⟩ := (HF.out.later hB) (by omega)
      obtain ⟨b', off', rfl, hc'⟩ := (HG.out.later hB) (by omega)
      obtain ⟨f0, f1, f2⟩ := hc k hkn
      obtain ⟨g0, g1, g2⟩ := hc' k hkn
      have HJ : Hid (k < n) := hkn
      clear hc hc'
      by_cases hk1 : (V k).k = (U k).k
      · have s1 : ((V k).k == (U k).k) = true := by simpa using hk1
        by_cases hn1 : (V k).n = (U k).n
        · have s2 : ((V k).n == (U k).n) = true := by simpa using hn1
          by_cases hs1 : (V k).s = (U k).s
          · have s3 := str_yes hs1
            have HE : Hid (eqV (V k) (U k) = true) := by show eqV (V k) (U k) = true; simp [eqV, hk1, hn1, hs1]
            clear hk1 hn1 hs1
            go_wp2_with fail
            go_quiet (fail)
            go_wp2
            go_roundw
            case rel => exact ⟨k + 1, HJ.out, by go_num, by show eqVs V U (k + 1) = true; simp only [eqVs]; rw [HA.out, HE.out]; rfl, bd hB _⟩
            case measure => have := HJ.out; simp [intOf]; omega
          · have s3 := str_not hs1
            have HE : Hid (eqV (V k) (U k) = false) := by show eqV (V k) (U k) = false; simp [eqV, hs1]
            clear hk1 hn1 hs1
            go_wp2_with fail
            go_quiet (fail)
            go_wp2
            try rw [Exit.noGoto_ret]
            go_ret
            exact ⟨ret_bool (by rw [HQ.out, eqVs_not V U n k HJ.out HE.out]), bd hB _⟩
        · have s2 : ((V k).n == (U k).n) = false := by simpa using hn1
          have HE : Hid (eqV (V k) (U k) = false) := by show eqV (V k) (U k) = false; simp [eqV, hn1]
          clear hk1 hn1
          go_wp2_with fail
          go_quiet (fail)
          go_wp2
          try rw [Exit.noGoto_ret]
          go_ret
          exact ⟨ret_bool (by rw [HQ.out, eqVs_not V U n k HJ.out HE.out]), bd hB _⟩
      · have s1 : ((V k).k == (U k).k) = false := by simpa using hk1
        have HE : Hid (eqV (V k) (U k) = false) := by show eqV (V k) (U k) = false; simp [eqV, hk1]
        clear hk1
        go_wp2_with fail
        go_quiet (fail)
        go_wp2
        try rw [Exit.noGoto_ret]
        go_ret
        exact ⟨ret_bool (by rw [HQ.out, eqVs_not V U n k HJ.out HE.out]), bd hB _⟩
    · obtain rfl : k = n := by omega
      go_wp2
      go_ret
      exact ⟨ret_bool (by rw [HQ.out, HA.out]), hB⟩
theorem vequal_any (a a' : Option Addr) (n n' cap cap' : Nat) (V U : Nat → Val) (w : World) (H : Vals w a n V) (H' : Vals w a' n' U) (hn : n ≤ 9223372036854775807) :
    Calls Try.prog 27 #[.slice a n cap, .slice a' n' cap'] w fun e w' => e = .returned (.bool (decide (n = n') && eqVs V U n)) ∧ Below w.heap.size w w' := by
  by_cases h : n = n'
  · subst h
    simpa using vequal_same a a' n cap cap' V U w H H' hn
  · simpa [h] using vequal_len a a' n n' cap cap' w h
set_option maxRecDepth 100000 in
set_option maxHeartbeats 2000000 in
theorem esame_type (ty : ByteArray) (t : Int) (va : Option Addr) (vl vc : Nat) (ty' : ByteArray) (t' : Int) (va' : Option Addr) (vl' vc' : Nat) (w : World) (hs : ¬ ty = ty') :
    Calls Try.prog 17 #[evtV ty t (.slice va vl vc), evtV ty' t' (.slice va' vl' vc')] w fun e w' => e = .returned (.bool false) ∧ Below w.heap.size w w' := by
  have s1 := str_not hs
  clear hs
  have hB0 : Below w.heap.size w ((w.alloc (evtO ty t (.slice va vl vc))).alloc (evtO ty' t' (.slice va' vl' vc'))) := ((Below.refl _ _).alloc (Nat.le_refl _) _).alloc (by simp) _
  go_enter Try.func17, Try.ntmps17
  go_wp2
  go_ret
  exact ⟨rfl, hB0⟩
set_option maxRecDepth 100000 in
set_option maxHeartbeats 2000000 in
theorem esame_time (ty : ByteArray) (t : Int) (va : Option Addr) (vl vc : Nat) (ty' : ByteArray) (t' : Int) (va' : Option Addr) (vl' vc' : Nat) (w : World) (hs : ty = ty') (ht : ¬ t = t') :
    Calls Try.prog 17 #[evtV ty t (.slice va vl vc), evtV ty' t' (.slice va' vl' vc')] w fun e w' => e = .returned (.bool false) ∧ Below w.heap.size w w' := by
  have s1 := str_yes hs
  have s2 : (t == t') = false := by simpa using ht
  clear hs ht
  have hB0 : Below w.heap.size w ((w.alloc (evtO ty t (.slice va vl vc))).alloc (evtO ty' t' (.slice va' vl' vc'))) := ((Below.refl _ _).alloc (Nat.le_refl _) _).alloc (by simp) _
  go_enter Try.func17, Try.ntmps17
  go_wp2
  go_ret
  exact ⟨rfl, hB0⟩
set_option maxRecDepth 100000 in
set_option maxHeartbeats 2000000 in
theorem esame_vals (ty : ByteArray) (t : Int) (va : Option Addr) (vl vc : Nat) (ty' : ByteArray) (t' : Int) (va' : Option Addr) (vl' vc' : Nat) (y : Bool) (w : World) (hs : ty = ty') (ht : t = t') (c : ∀ d, Below w.heap.size w d → Calls Try.prog 27 #[.slice va vl vc, .slice va' vl' vc'] d fun e w' => e = .returned (.bool y) ∧ Below d.heap.size d w') :
    Calls Try.prog 17 #[evtV ty t (.slice va vl vc), evtV ty' t' (.slice va' vl' vc')] w fun e w' => e = .returned (.bool y) ∧ Below w.heap.size w w' := by
  have s1 := str_yes hs
  have s2 : (t == t') = true := by simpa using ht
  clear hs ht
  have hB0 : Below w.heap.size w ((w.alloc (evtO ty t (.slice va vl vc))).alloc (evtO ty' t' (.slice va' vl' vc'))) := ((Below.refl _ _).alloc (Nat.le_refl _) _).alloc (by simp) _
  have C : Hid (Calls Try.prog 27 _ _ _) := c _ hB0
  clear c
  go_enter Try.func17, Try.ntmps17
  go_wp2_with (first | (go_at_call 27; refine C.out.mono ?_; rintro e w1 ⟨rfl, hB1⟩))
  go_ret
  exact ⟨rfl, bt hB0 hB1⟩
theorem evSame_any (x x' : Evt) (w : World) (H : IsEvt w x) (H' : IsEvt w x') :
    Calls Try.prog 17 #[evtV x.ty x.t x.v, evtV x'.ty x'.t x'.v] w fun e w' => e = .returned (.bool (sameE x x')) ∧ Below w.heap.size w w' := by
  unfold sameE
  by_cases hs : x.ty = x'.ty
  · by_cases ht : x.t = x'.t
    · rw [decide_eq_true hs, decide_eq_true ht, Bool.true_and, Bool.true_and]
      exact esame_vals _ _ _ _ _ _ _ _ _ _ _ w hs ht fun d hd => vequal_any _ _ _ _ _ _ _ _ d (H.1.later hd) (H'.1.later hd) H.2
    · rw [decide_eq_false ht, Bool.false_and, Bool.and_false]
      exact esame_time _ _ _ _ _ _ _ _ _ _ w hs ht
  · rw [decide_eq_false hs, Bool.false_and]
    exact esame_type _ _ _ _ _ _ _ _ _ _ w hs
end Go.Proofs.Ytelabjipclfpnaa
