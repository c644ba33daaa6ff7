/-
  pat.Same: by slices.EqualFunc, which is handed pat.Same itself.
-/
import Derived.Test.YtjclelmbpmlioaaPatRefSame
namespace Go.Proofs.Ytjclelmbpmlioaa
open Go.RowKit

set_option maxRecDepth 100000 in
set_option maxHeartbeats 4000000 in
theorem equalFunc_no (a a' : Option Addr) (n m cap cap' : Nat) (w : World) (hne : ¬ n = m) :
    Calls Try.prog 29 #[.slice a n cap, .slice a' m cap', .func (.func 13) #[] #[]] w fun e w' => e = .returned (.bool false) ∧ Below w.heap.size w w' := by
  have t := ne_no (show ¬ ((n : Nat) : Int) = ((m : Nat) : Int) by omega)
  clear hne
  go_enter Try.func29, Try.ntmps29
  go_wp2
  go_ret
  exact ⟨rfl, Below.refl _ _⟩
set_option maxRecDepth 100000 in
set_option maxHeartbeats 4000000 in
theorem equalFunc_any (a a' : Option Addr) (n cap cap' : Nat) (c c' : Nat → Pt) (w : World) (hn : n ≤ 9223372036854775807) (h1 : ∀ i, i < n → ∃ b o, a = some ⟨b, o, none⟩ ∧ NodeP w b (o + i * 6) (c i)) (h2 : ∀ i, i < n → ∃ b o, a' = some ⟨b, o, none⟩ ∧ NodeP w b (o + i * 6) (c' i))
    (hC : ∀ i, i < n → ∀ W, Below w.heap.size w W → Calls Try.prog 13 #[(c i).val, (c' i).val] W fun e w' => e = .returned (.bool (sameP (c i) (c' i))) ∧ Below W.heap.size W w') :
    Calls Try.prog 29 #[.slice a n cap, .slice a' n cap', .func (.func 13) #[] #[]] w fun e w' => e = .returned (.bool (allN (fun i => sameP (c i) (c' i)) n)) ∧ Below w.heap.size w w' := by
  obtain ⟨r, hr⟩ : ∃ r, r = allN (fun i => sameP (c i) (c' i)) n := ⟨_, rfl⟩
  have HF : Hid (∀ i, i < n → sameP (c i) (c' i) = false → r = false) := fun i hi h => hr.trans (allN_false hi h)
  have HT : Hid ((∀ i, i < n → sameP (c i) (c' i) = true) → r = true) := fun h => hr.trans (allN_true.2 h)
  rw [← hr]
  have HC : Hid (∀ i, i < n → ∀ W, Below w.heap.size w W → Calls Try.prog 13 #[(c i).val, (c' i).val] W fun e w' => e = .returned (.bool (sameP (c i) (c' i))) ∧ Below W.heap.size W w') := hC
  have H1 : Hid (∀ i, i < n → ∃ b o, a = some ⟨b, o, none⟩ ∧ NodeP w b (o + i * 6) (c i)) := h1
  have H2 : Hid (∀ i, i < n → ∃ b o, a' = some ⟨b, o, none⟩ ∧ NodeP w b (o + i * 6) (c' i)) := h2
  clear hr hC h1 h2
  go_enter Try.func29, Try.ntmps29
  go_wp2
  go_loopw [17] (fun u wr => ∃ k : Nat, k ≤ n ∧ u = .int .i64 k ∧ Hid (∀ i, i < k → sameP (c i) (c' i) = true) ∧ Below w.heap.size w wr) (fun u _ => n - (intOf u).toNat)
  case atStart => exact ⟨0, Nat.zero_le _, rfl, fun i hi => absurd hi (Nat.not_lt_zero _), Below.refl _ _⟩
  case round =>
    obtain ⟨k, hk, rfl, HK, hB⟩ := hrel
    by_cases hkn : k < n
    · obtain ⟨b, o, rfl, hn1⟩ := H1.out k hkn
      obtain ⟨b', o', rfl, hn2⟩ := H2.out k hkn
      obtain ⟨A, hA, hB2, hs, hm1, hm2⟩ := boxP_two (c k) (c' k) wr
      have hlt := hn1.lt
      have hlt2 := hn2.lt
      have q2 : NodeP (wr.alloc (.cells (c k).cells 24)) b' (o' + k * 6) (c' k) := (hn2.later hB).later ((Below.refl _ _).alloc (Nat.le_refl _) _)
      obtain ⟨d0, d1, d2, d3, d4, d5⟩ := hn1.later hB
      obtain ⟨f0, f1, f2, f3, f4, f5⟩ := q2
      obtain ⟨g0, g1, g2, g3, g4, g5⟩ := hm1.at0
      obtain ⟨i0, i1, i2, i3, i4, i5⟩ := hm2.at0
      have hc := HC.out k hkn A (hB.trans (hB2.mono hB.size))
      have HKN : Hid (k < n) := hkn
      have HB : Hid (Below w.heap.size w A) := hB.trans (hB2.mono hB.size)
      obtain ⟨q, hq⟩ : ∃ q, q = sameP (c k) (c' k) := ⟨_, rfl⟩
      rw [← hq] at hc
      have HE : Hid (q = sameP (c k) (c' k)) := hq
      clear hq hn1 hn2 hm1 hm2 hB2 hs hB
      go_wp2_with (go_at_call 13; refine hc.mono ?_; clear hc; rintro e w2 ⟨rfl, hB2⟩; cases q)
      all_goals go_wp2
      all_goals first
        | (go_ret; exact ⟨by rw [HF.out k HKN.out HE.out.symm]; rfl, HB.out.trans (hB2.mono HB.out.size)⟩)
        | (go_roundw
           case rel =>
             refine ⟨k + 1, HKN.out, by go_num, fun i hi => ?_, HB.out.trans (hB2.mono HB.out.size)⟩
             by_cases e : i = k
             · rw [e]; exact HE.out.symm
             · exact HK.out i (by omega)
           case measure => have := HKN.out; simp [intOf]; omega)
    · obtain rfl : k = n := by omega
      go_wp2
      go_ret
      exact ⟨by rw [HT.out HK.out]; rfl, hB⟩
set_option maxRecDepth 100000 in
set_option maxHeartbeats 8000000 in
theorem samePat_any : ∀ (x y : Pt) (w : World), IsP w x → IsP w y → Calls Try.prog 13 #[x.val, y.val] w fun e w' => e = .returned (.bool (sameP x y)) ∧ Below w.heap.size w w' := by
  refine Pt.ind fun x ih y w hX hY => ?_
  obtain ⟨A, hA, hB, hs, hn, hm⟩ := boxP_two x y w
  obtain ⟨a0, a1, a2, a3, a4, a5⟩ := hn.at0
  obtain ⟨b0, b1, b2, b3, b4, b5⟩ := hm.at0
  have HB : Hid (Below w.heap.size w A) := hB
  have EQ : Hid (∀ d, Below A.heap.size A d → Calls Try.prog 29 #[.slice x.a x.n x.cap, .slice y.a y.n y.cap, .func (.func 13) #[] #[]] d fun e w' => e = .returned (.bool (decide (x.n = y.n) && allN (fun i => sameP (x.c i) (y.c i)) x.n)) ∧ Below d.heap.size d w') := fun d hd => by
    have hw := hB.trans (hd.mono (by omega))
    by_cases e : x.n = y.n
    · rw [decide_eq_true e, Bool.true_and, ← e]
      refine equalFunc_any x.a y.a x.n x.cap y.cap x.c y.c d hX.len (fun i hi => ?_) (fun i hi => ?_) fun i hi W hW => ?_
      · obtain ⟨b, o, ea, h1, _⟩ := (hX.later hw).part hi
        exact ⟨b, o, ea, h1⟩
      · obtain ⟨b, o, ea, h1, _⟩ := (hY.later hw).part (e ▸ hi)
        exact ⟨b, o, ea, h1⟩
      · obtain ⟨_, _, _, _, h1⟩ := (hX.later (hw.trans (hW.mono hw.size))).part hi
        obtain ⟨_, _, _, _, h2⟩ := (hY.later (hw.trans (hW.mono hw.size))).part (e ▸ hi)
        exact ih i hi _ W h1 h2
    · rw [decide_eq_false e, Bool.false_and]
      exact equalFunc_no x.a y.a x.n y.n x.cap y.cap d e
  obtain ⟨q, hq⟩ : ∃ q, q = (decide (x.n = y.n) && allN (fun i => sameP (x.c i) (y.c i)) x.n) := ⟨_, rfl⟩
  rw [← hq] at EQ
  have HR : Hid (sameP x y = (decide (x.k = y.k) && (decide (x.s = y.s) && (decide (x.t = y.t) && (decide (x.lo = y.lo) && (decide (x.hi = y.hi) && q)))))) := by show _ = _; rw [hq]; exact sameP_eq x y
  clear ih hX hY hB hn hm hq
  generalize sameP x y = r at HR ⊢
  by_cases e1 : x.k = y.k
  · by_cases e2 : x.s = y.s
    · by_cases e3 : x.t = y.t
      · by_cases e4 : x.lo = y.lo
        · by_cases e5 : x.hi = y.hi
          · have HR' : Hid (r = q) := by show r = q; rw [HR.out, decide_eq_true e1, decide_eq_true e2, decide_eq_true e3, decide_eq_true e4, decide_eq_true e5]; simp
            have t1 : (x.k == y.k) = true := by simpa using e1
            have t2 := str_yes e2
            have t3 := str_yes e3
            have t4 : (x.lo == y.lo) = true := by simpa using e4
            have t5 : (x.hi == y.hi) = true := by simpa using e5
            clear e1 e2 e3 e4 e5 HR
            go_enter Try.func13, Try.ntmps13
            go_wp2_with (go_at_call 29; refine (EQ.out _ (Below.refl _ _)).mono ?_; clear EQ; rintro e w2 ⟨rfl, hB2⟩)
            go_ret
            exact ⟨by rw [HR'.out]; rfl, HB.out.trans (hB2.mono (by omega))⟩
          · have HR' : Hid (r = false) := by show r = false; rw [HR.out, decide_eq_true e1, decide_eq_true e2, decide_eq_true e3, decide_eq_true e4, decide_eq_false e5]; simp
            have t1 : (x.k == y.k) = true := by simpa using e1
            have t2 := str_yes e2
            have t3 := str_yes e3
            have t4 : (x.lo == y.lo) = true := by simpa using e4
            have t5 : (x.hi == y.hi) = false := by simpa using e5
            clear e1 e2 e3 e4 e5 HR EQ
            go_enter Try.func13, Try.ntmps13
            go_wp2
            go_ret
            exact ⟨by rw [HR'.out]; rfl, HB.out⟩
        · have HR' : Hid (r = false) := by show r = false; rw [HR.out, decide_eq_true e1, decide_eq_true e2, decide_eq_true e3, decide_eq_false e4]; simp
          have t1 : (x.k == y.k) = true := by simpa using e1
          have t2 := str_yes e2
          have t3 := str_yes e3
          have t4 : (x.lo == y.lo) = false := by simpa using e4
          clear e1 e2 e3 e4 HR EQ
          go_enter Try.func13, Try.ntmps13
          go_wp2
          go_ret
          exact ⟨by rw [HR'.out]; rfl, HB.out⟩
      · have HR' : Hid (r = false) := by show r = false; rw [HR.out, decide_eq_true e1, decide_eq_true e2, decide_eq_false e3]; simp
        have t1 : (x.k == y.k) = true := by simpa using e1
        have t2 := str_yes e2
        have t3 := str_not e3
        clear e1 e2 e3 HR EQ
        go_enter Try.func13, Try.ntmps13
        go_wp2
        go_ret
        exact ⟨by rw [HR'.out]; rfl, HB.out⟩
    · have HR' : Hid (r = false) := by show r = false; rw [HR.out, decide_eq_true e1, decide_eq_false e2]; simp
      have t1 : (x.k == y.k) = true := by simpa using e1
      have t2 := str_not e2
      clear e1 e2 HR EQ
      go_enter Try.func13, Try.ntmps13
      go_wp2
      go_ret
      exact ⟨by rw [HR'.out]; rfl, HB.out⟩
  · have HR' : Hid (r = false) := by show r = false; rw [HR.out, decide_eq_false e1]; simp
    have t1 : (x.k == y.k) = false := by simpa using e1
    clear e1 HR EQ
    go_enter Try.func13, Try.ntmps13
    go_wp2
    go_ret
    exact ⟨by rw [HR'.out]; rfl, HB.out⟩
end Go.Proofs.Ytjclelmbpmlioaa
