/-
  The document's Same (haruspexref08, P8.2).
-/
import Derived.Test.YtelabjipclfpnaaEvSame
namespace Go.Proofs.Ytelabjipclfpnaa
open Go.RowKit

set_option maxRecDepth 100000 in
set_option maxHeartbeats 4000000 in
theorem rsame_type (ty : ByteArray) (t : Int) (va : Option Addr) (n vc : Nat) (ty' : ByteArray) (t' : Int) (va' : Option Addr) (n' vc' : Nat) (w : World) (hs : ¬ ty = ty') :
    Calls Try.prog 18 #[evtV ty t (.slice va n vc), evtV ty' t' (.slice va' n' vc')] w fun e w' => e = .returned (.bool false) ∧ Below w.heap.size w w' := by
  have s1 := str_not hs
  clear hs
  have hB0 : Below w.heap.size w ((w.alloc (evtO ty t (.slice va n vc))).alloc (evtO ty' t' (.slice va' n' vc'))) := ((Below.refl _ _).alloc (Nat.le_refl _) _).alloc (by simp) _
  go_enter Try.func18, Try.ntmps18
  go_wp2
  go_ret
  exact ⟨rfl, hB0⟩
set_option maxRecDepth 100000 in
set_option maxHeartbeats 4000000 in
theorem rsame_time (ty : ByteArray) (t : Int) (va : Option Addr) (n vc : Nat) (ty' : ByteArray) (t' : Int) (va' : Option Addr) (n' vc' : Nat) (w : World) (hs : ty = ty') (ht : ¬ t = t') :
    Calls Try.prog 18 #[evtV ty t (.slice va n vc), evtV ty' t' (.slice va' n' vc')] w fun e w' => e = .returned (.bool false) ∧ Below w.heap.size w w' := by
  have s1 := str_yes hs
  have s2 : (t == t') = false := by simpa using ht
  clear hs ht
  have hB0 : Below w.heap.size w ((w.alloc (evtO ty t (.slice va n vc))).alloc (evtO ty' t' (.slice va' n' vc'))) := ((Below.refl _ _).alloc (Nat.le_refl _) _).alloc (by simp) _
  go_enter Try.func18, Try.ntmps18
  go_wp2
  go_ret
  exact ⟨rfl, hB0⟩
set_option maxRecDepth 100000 in
set_option maxHeartbeats 4000000 in
theorem rsame_len (ty : ByteArray) (t : Int) (va : Option Addr) (n vc : Nat) (ty' : ByteArray) (t' : Int) (va' : Option Addr) (n' vc' : Nat) (w : World) (hs : ty = ty') (ht : t = t') (hl : ¬ n = n') :
    Calls Try.prog 18 #[evtV ty t (.slice va n vc), evtV ty' t' (.slice va' n' vc')] w fun e w' => e = .returned (.bool false) ∧ Below w.heap.size w w' := by
  subst ht
  have s1 := str_yes hs
  have s3 : ((n : Int) == (n' : Int)) = false := by simp; omega
  clear hs hl
  have hB0 : Below w.heap.size w ((w.alloc (evtO ty t (.slice va n vc))).alloc (evtO ty' t (.slice va' n' vc'))) := ((Below.refl _ _).alloc (Nat.le_refl _) _).alloc (by simp) _
  go_enter Try.func18, Try.ntmps18
  go_wp2
  go_ret
  exact ⟨rfl, hB0⟩
set_option maxRecDepth 100000 in
set_option maxHeartbeats 4000000 in
theorem rsame_vals (ty : ByteArray) (t : Int) (va : Option Addr) (n vc : Nat) (ty' : ByteArray) (t' : Int) (va' : Option Addr) (n' vc' : Nat) (w : World) (V U : Nat → Val) (hs : ty = ty') (ht : t = t') (hl : n = n') (H : Vals w va n V) (H' : Vals w va' n U) (hn : n ≤ 9223372036854775807) :
    Calls Try.prog 18 #[evtV ty t (.slice va n vc), evtV ty' t' (.slice va' n' vc')] w fun e w' => e = .returned (.bool (eqVs V U n)) ∧ Below w.heap.size w w' := by
  subst hl ht
  have s1 := str_yes hs
  obtain ⟨x, hx⟩ : ∃ x, x = eqVs V U n := ⟨_, rfl⟩
  rw [← hx]
  have HQ : Hid (x = eqVs V U n) := hx
  have HF : Hid (Vals w va n V) := H
  have HG : Hid (Vals w va' n U) := H'
  clear H H' hx hs
  have X := Box3.new 26 w (.string ty) (.int .i64 t) (.slice va n vc)
  have Y := Box3.new 26 (w.alloc (evtO ty t (.slice va n vc))) (.string ty') (.int .i64 t) (.slice va' n vc')
  have e9 : (w.alloc (evtO ty t (.slice va n vc))).heap.size = w.heap.size + 1 := by simp
  rw [e9] at Y
  have HX : Hid (Box3 26 ((w.alloc (evtO ty t (.slice va n vc))).alloc (evtO ty' t (.slice va' n vc'))) w.heap.size (.string ty) (.int .i64 t) (.slice va n vc)) := X.keep ((Below.refl _ _).alloc (Nat.le_refl _) _)
  have HY : Hid (Box3 26 ((w.alloc (evtO ty t (.slice va n vc))).alloc (evtO ty' t (.slice va' n vc'))) (w.heap.size + 1) (.string ty') (.int .i64 t) (.slice va' n vc')) := Y
  clear X Y e9
  have hB0 : Below w.heap.size w ((w.alloc (evtO ty t (.slice va n vc))).alloc (evtO ty' t (.slice va' n vc'))) := ((Below.refl _ _).alloc (Nat.le_refl _) _).alloc (by simp) _
  go_enter Try.func18, Try.ntmps18
  go_upto_region 1 with fail
  obtain ⟨W, hW⟩ : ∃ W, W = (w.alloc (evtO ty t (.slice va n vc))).alloc (evtO ty' t (.slice va' n vc')) := ⟨_, rfl⟩
  obtain ⟨p, hp⟩ : ∃ p, p = w.heap.size := ⟨_, rfl⟩
  obtain ⟨q, hq⟩ : ∃ q, q = w.heap.size + 1 := ⟨_, rfl⟩
  rw [← hW, ← hq, ← hp]
  rw [← hW] at hB0
  rw [← hW, ← hp] at HX
  rw [← hW, ← hq] at HY
  clear hW hp hq
  obtain ⟨x0, x1, x2⟩ := HX.out.cells
  obtain ⟨y0, y1, y2⟩ := HY.out.cells
  go_wp2_with fail
  clear x0 x1 x2 y0 y1 y2
  go_loopw [5] (fun u wr => ∃ k : Nat, k ≤ n ∧ u = .int .i64 k ∧ Hid (eqVs V U k = true) ∧ Below W.heap.size W wr) (fun u _ => n - (intOf u).toNat)
  case atStart => exact ⟨0, Nat.zero_le _, rfl, rfl, Below.refl _ _⟩
  case round =>
    obtain ⟨k, hk, rfl, HA, hB⟩ := hrel
    have x2 := (HX.out.keep hB).cells.2.2
    have y2 := (HY.out.keep hB).cells.2.2
    by_cases hkn : k < n
    · obtain ⟨b, off, rfl, hc⟩ := (HF.out.later (bt hB0 hB)) (by omega)
      obtain ⟨b', off', rfl, hc'⟩ := (HG.out.later (bt hB0 hB)) (by omega)
      obtain ⟨f0, f1, f2⟩ := hc k hkn
      obtain ⟨g0, g1, g2⟩ := hc' k hkn
      have HJ : Hid (k < n) := hkn
      clear hc hc'
      by_cases hk1 : (V k).k = (U k).k
      · have r1 : ((V k).k == (U k).k) = true := by simpa using hk1
        by_cases hn1 : (V k).n = (U k).n
        · have r2 : ((V k).n == (U k).n) = true := by simpa using hn1
          by_cases hs1 : (V k).s = (U k).s
          · have r3 := str_yes hs1
            have HE : Hid (eqV (V k) (U k) = true) := by show eqV (V k) (U k) = true; simp [eqV, hk1, hn1, hs1]
            clear hk1 hn1 hs1
            go_wp2_with fail
            go_quiet (fail)
            go_wp2
            go_roundw
            case rel => exact ⟨k + 1, HJ.out, by go_num, by show eqVs V U (k + 1) = true; simp only [eqVs]; rw [HA.out, HE.out]; rfl, bd hB _⟩
            case measure => have := HJ.out; simp [intOf]; omega
          · have r3 := str_not hs1
            have HE : Hid (eqV (V k) (U k) = false) := by show eqV (V k) (U k) = false; simp [eqV, hs1]
            clear hk1 hn1 hs1
            go_wp2_with fail
            go_quiet (fail)
            go_wp2
            try rw [Exit.noGoto_ret]
            go_ret
            exact ⟨ret_bool (by rw [HQ.out, eqVs_not V U n k HJ.out HE.out]), bd (bt hB0 hB) _⟩
        · have r2 : ((V k).n == (U k).n) = false := by simpa using hn1
          have HE : Hid (eqV (V k) (U k) = false) := by show eqV (V k) (U k) = false; simp [eqV, hn1]
          clear hk1 hn1
          go_wp2_with fail
          go_quiet (fail)
          go_wp2
          try rw [Exit.noGoto_ret]
          go_ret
          exact ⟨ret_bool (by rw [HQ.out, eqVs_not V U n k HJ.out HE.out]), bd (bt hB0 hB) _⟩
      · have r1 : ((V k).k == (U k).k) = false := by simpa using hk1
        have HE : Hid (eqV (V k) (U k) = false) := by show eqV (V k) (U k) = false; simp [eqV, hk1]
        clear hk1
        go_wp2_with fail
        go_quiet (fail)
        go_wp2
        try rw [Exit.noGoto_ret]
        go_ret
        exact ⟨ret_bool (by rw [HQ.out, eqVs_not V U n k HJ.out HE.out]), bd (bt hB0 hB) _⟩
    · obtain rfl : k = n := by omega
      go_wp2
      go_ret
      exact ⟨ret_bool (by rw [HQ.out, HA.out]), bt hB0 hB⟩
theorem refSame_any (x x' : Evt) (w : World) (H : IsEvt w x) (H' : IsEvt w x') :
    Calls Try.prog 18 #[evtV x.ty x.t x.v, evtV x'.ty x'.t x'.v] w fun e w' => e = .returned (.bool (sameE x x')) ∧ Below w.heap.size w w' := by
  unfold sameE
  by_cases hs : x.ty = x'.ty
  · by_cases ht : x.t = x'.t
    · rw [decide_eq_true hs, decide_eq_true ht, Bool.true_and, Bool.true_and]
      by_cases hl : x.l = x'.l
      · rw [decide_eq_true hl, Bool.true_and]
        exact rsame_vals _ _ _ _ _ _ _ _ _ _ w x.vs x'.vs hs ht hl H.1 (hl ▸ H'.1) H.2
      · rw [decide_eq_false hl, Bool.false_and]
        exact rsame_len _ _ _ _ _ _ _ _ _ _ w hs ht hl
    · rw [decide_eq_false ht, Bool.false_and, Bool.and_false]
      exact rsame_time _ _ _ _ _ _ _ _ _ _ w hs ht
  · rw [decide_eq_false hs, Bool.false_and]
    exact rsame_type _ _ _ _ _ _ _ _ _ _ w hs
end Go.Proofs.Ytelabjipclfpnaa
