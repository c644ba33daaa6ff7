/-
  query.Same.
  query.Names, the walk.
  query.Where; the document's Light of queries; law13's awake.
  QueryRenamed: one name for another, wherever the two lie.
-/
import Derived.Test.YtinnhaojmnmliaaGreatCQryClausesC
import Derived.Test.YtinnhaojmnmliaaGreatCExprOrd
import Derived.Test.YtinnhaojmnmliaaGreatCPatRenMath
import Derived.Test.YtinnhaojmnmliaaGreatCVarsMath
import Derived.Test.YtinnhaojmnmliaaGreatCExprNodes
import Derived.Test.YtinnhaojmnmliaaGreatCQryRename
import Derived.Test.YtinnhaojmnmliaaGreatCRefVar
import Derived.Test.YtinnhaojmnmliaaGreatCPatRightC
namespace Go.Proofs.YtinnhaojmnmliaaGreat
open Go.RowKit

theorem boxX_two (x y : X) (w : World) : ∃ A, (w.alloc (.cells x.cells 32)).alloc (.cells y.cells 32) = A ∧ Below w.heap.size w A ∧ A.heap.size = w.heap.size + 2 ∧ Node A w.heap.size 0 x ∧ Node A (w.heap.size + 1) 0 y := by
  refine ⟨_, rfl, ((Below.refl _ w).alloc (Nat.le_refl _) _).alloc (by simp) _, by simp, (node_new w _ x).later ((Below.refl _ _).alloc (Nat.le_refl _) _), ?_⟩
  have := node_new (w.alloc (.cells x.cells 32)) 32 y
  rwa [World.size_alloc] at this
set_option maxRecDepth 100000 in
set_option maxHeartbeats 4000000 in
theorem equalX_no (a a' : Option Addr) (n m cap cap' : Nat) (w : World) (hne : ¬ n = m) :
    Calls Tryz.prog 36 #[.slice a n cap, .slice a' m cap', .func (.func 37) #[] #[]] w fun e w' => e = .returned (.bool false) ∧ Below w.heap.size w w' := by
  have t := ne_no (show ¬ ((n : Nat) : Int) = ((m : Nat) : Int) by omega)
  clear hne
  go_enter Tryz.func36, Tryz.ntmps36
  go_wp2
  go_ret
  exact ⟨rfl, Below.refl _ _⟩
set_option maxRecDepth 100000 in
set_option maxHeartbeats 4000000 in
theorem equalX_any (a a' : Option Addr) (n cap cap' : Nat) (c c' : Nat → X) (w : World) (hn : n ≤ 9223372036854775807) (h1 : ∀ i, i < n → ∃ b o, a = some ⟨b, o, none⟩ ∧ Node w b (o + i * 7) (c i)) (h2 : ∀ i, i < n → ∃ b o, a' = some ⟨b, o, none⟩ ∧ Node w b (o + i * 7) (c' i))
    (hC : ∀ i, i < n → ∀ W, Below w.heap.size w W → Calls Tryz.prog 37 #[(c i).val, (c' i).val] W fun e w' => e = .returned (.bool ((ordX (c i) (c' i) == 0))) ∧ Below W.heap.size W w') :
    Calls Tryz.prog 36 #[.slice a n cap, .slice a' n cap', .func (.func 37) #[] #[]] w fun e w' => e = .returned (.bool (allN (fun i => (ordX (c i) (c' i) == 0)) n)) ∧ Below w.heap.size w w' := by
  obtain ⟨r, hr⟩ : ∃ r, r = allN (fun i => (ordX (c i) (c' i) == 0)) n := ⟨_, rfl⟩
  have HF : Hid (∀ i, i < n → (ordX (c i) (c' i) == 0) = false → r = false) := fun i hi h => hr.trans (allN_false hi h)
  have HT : Hid ((∀ i, i < n → (ordX (c i) (c' i) == 0) = true) → r = true) := fun h => hr.trans (allN_true.2 h)
  rw [← hr]
  have HC : Hid (∀ i, i < n → ∀ W, Below w.heap.size w W → Calls Tryz.prog 37 #[(c i).val, (c' i).val] W fun e w' => e = .returned (.bool ((ordX (c i) (c' i) == 0))) ∧ Below W.heap.size W w') := hC
  have H1 : Hid (∀ i, i < n → ∃ b o, a = some ⟨b, o, none⟩ ∧ Node w b (o + i * 7) (c i)) := h1
  have H2 : Hid (∀ i, i < n → ∃ b o, a' = some ⟨b, o, none⟩ ∧ Node w b (o + i * 7) (c' i)) := h2
  clear hr hC h1 h2
  go_enter Tryz.func36, Tryz.ntmps36
  go_wp2
  go_loopw [17] (fun u wr => ∃ k : Nat, k ≤ n ∧ u = .int .i64 k ∧ Hid (∀ i, i < k → (ordX (c i) (c' i) == 0) = true) ∧ Below w.heap.size w wr) (fun u _ => n - (intOf u).toNat)
  case atStart => exact ⟨0, Nat.zero_le _, rfl, fun i hi => absurd hi (Nat.not_lt_zero _), Below.refl _ _⟩
  case round =>
    obtain ⟨k, hk, rfl, HK, hB⟩ := hrel
    by_cases hkn : k < n
    · obtain ⟨b, o, rfl, hn1⟩ := H1.out k hkn
      obtain ⟨b', o', rfl, hn2⟩ := H2.out k hkn
      obtain ⟨A, hA, hB2, hs, hm1, hm2⟩ := boxX_two (c k) (c' k) wr
      have hlt := hn1.lt
      have hlt2 := hn2.lt
      have q2 : Node (wr.alloc (.cells (c k).cells 32)) b' (o' + k * 7) (c' k) := (hn2.later hB).later ((Below.refl _ _).alloc (Nat.le_refl _) _)
      obtain ⟨d0, d1, d2, d3, d4, d5, d6⟩ := hn1.later hB
      obtain ⟨f0, f1, f2, f3, f4, f5, f6⟩ := q2
      obtain ⟨g0, g1, g2, g3, g4, g5, g6⟩ := hm1.at0
      obtain ⟨i0, i1, i2, i3, i4, i5, i6⟩ := hm2.at0
      have hc := HC.out k hkn A (hB.trans (hB2.mono hB.size))
      have HKN : Hid (k < n) := hkn
      have HB : Hid (Below w.heap.size w A) := hB.trans (hB2.mono hB.size)
      obtain ⟨q, hq⟩ : ∃ q, q = (ordX (c k) (c' k) == 0) := ⟨_, rfl⟩
      rw [← hq] at hc
      have HE : Hid (q = (ordX (c k) (c' k) == 0)) := hq
      clear hq hn1 hn2 hm1 hm2 hB2 hs hB
      go_wp2_with (go_at_call 37; refine hc.mono ?_; clear hc; rintro e w2 ⟨rfl, hB2⟩; cases q)
      all_goals go_wp2
      all_goals first
        | (go_ret; exact ⟨by rw [HF.out k HKN.out HE.out.symm]; rfl, HB.out.trans (hB2.mono HB.out.size)⟩)
        | (go_roundw
           case rel =>
             refine ⟨k + 1, HKN.out, by go_num, fun i hi => ?_, HB.out.trans (hB2.mono HB.out.size)⟩
             by_cases e : i = k
             · rw [e]; exact HE.out.symm
             · exact HK.out i (by omega)
           case measure => have := HKN.out; simp [intOf]; omega)
    · obtain rfl : k = n := by omega
      go_wp2
      go_ret
      exact ⟨by rw [HT.out HK.out]; rfl, hB⟩
set_option maxRecDepth 100000 in
set_option maxHeartbeats 4000000 in
theorem equalI_no (a a' : Option Addr) (n m cap cap' : Nat) (w : World) (hne : ¬ n = m) :
    Calls Tryz.prog 38 #[.slice a n cap, .slice a' m cap'] w fun e w' => e = .returned (.bool false) ∧ Below w.heap.size w w' := by
  have t := ne_no (show ¬ ((n : Nat) : Int) = ((m : Nat) : Int) by omega)
  clear hne
  go_enter Tryz.func38, Tryz.ntmps38
  go_wp2
  go_ret
  exact ⟨rfl, Below.refl _ _⟩
set_option maxRecDepth 100000 in
set_option maxHeartbeats 4000000 in
theorem equalI_any (a a' : Option Addr) (n cap cap' : Nat) (V U : Nat → It) (w : World) (H : Its w a n V) (H' : Its w a' n U) (hn : n ≤ 9223372036854775807) :
    Calls Tryz.prog 38 #[.slice a n cap, .slice a' n cap'] w fun e w' => e = .returned (.bool (allN (fun i => sameI (V i) (U i)) n)) ∧ Below w.heap.size w w' := by
  obtain ⟨x, hx⟩ : ∃ x, x = allN (fun i => sameI (V i) (U i)) n := ⟨_, rfl⟩
  have HF0 : Hid (∀ i, i < n → sameI (V i) (U i) = false → x = false) := fun i hi h => hx.trans (allN_false hi h)
  have HT : Hid ((∀ i, i < n → sameI (V i) (U i) = true) → x = true) := fun h => hx.trans (allN_true.2 h)
  rw [← hx]
  have HF : Hid (Its w a n V) := H
  have HG : Hid (Its w a' n U) := H'
  clear H H' hx
  go_enter Tryz.func38, Tryz.ntmps38
  go_wp2
  go_loopw [13] (fun u wr => ∃ k : Nat, k ≤ n ∧ u = .int .i64 k ∧ Hid (∀ i, i < k → sameI (V i) (U i) = true) ∧ Below w.heap.size w wr) (fun u _ => n - (intOf u).toNat)
  case atStart => exact ⟨0, Nat.zero_le _, rfl, fun i hi => absurd hi (Nat.not_lt_zero _), Below.refl _ _⟩
  case round =>
    obtain ⟨k, hk, rfl, HK, hB⟩ := hrel
    by_cases hkn : k < n
    · obtain ⟨b, off, rfl, f0, f1, f2, f3⟩ := (HF.out.later hB) k hkn
      obtain ⟨b', off', rfl, g0, g1, g2, g3⟩ := (HG.out.later hB) k hkn
      have HKN : Hid (k < n) := hkn
      have hcm := neqI (V k) (U k)
      obtain ⟨z, hz⟩ : ∃ z, z = sameI (V k) (U k) := ⟨_, rfl⟩
      rw [← hz] at hcm
      have HE : Hid (z = sameI (V k) (U k)) := hz
      clear hz
      go_wp2_with fail
      cases z
      · simp only [Bool.not_false] at hcm
        go_quiet (fail)
        go_wp2
        try rw [Exit.noGoto_ret]
        go_ret
        exact ⟨by rw [HF0.out k HKN.out HE.out.symm]; rfl, bd hB _⟩
      · simp only [Bool.not_true] at hcm
        go_quiet (fail)
        go_wp2
        go_roundw
        case rel =>
          refine ⟨k + 1, HKN.out, by go_num, fun i hi => ?_, bd hB _⟩
          by_cases e : i = k
          · rw [e]; exact HE.out.symm
          · exact HK.out i (by omega)
        case measure => have := HKN.out; simp [intOf]; omega
    · obtain rfl : k = n := by omega
      go_wp2
      go_ret
      exact ⟨by rw [HT.out HK.out]; rfl, hB⟩
theorem sameQ_parts (q r : Qy) : sameQ q r = (decide (q.key = r.key) && (decide (q.mode = r.mode) && (decide (q.win = r.win) && (sameP q.p r.p && ((decide (q.n = r.n) && allN (fun i => ordX (q.c i) (r.c i) == 0) q.n) && (decide (q.m = r.m) && allN (fun i => sameI (q.it i) (r.it i)) q.m)))))) := by
  unfold sameQ
  generalize sameP q.p r.p = b1
  generalize decide (q.key = r.key) = b2
  generalize decide (q.mode = r.mode) = b3
  generalize decide (q.win = r.win) = b4
  generalize decide (q.n = r.n) = b5
  generalize decide (q.m = r.m) = b6
  generalize allN (fun i => ordX (q.c i) (r.c i) == 0) q.n = b7
  generalize allN (fun i => sameI (q.it i) (r.it i)) q.m = b8
  cases b1 <;> cases b2 <;> cases b3 <;> cases b4 <;> cases b5 <;> cases b6 <;> cases b7 <;> cases b8 <;> rfl
set_option maxRecDepth 100000 in
set_option maxHeartbeats 8000000 in
theorem sameQ_any (q r : Qy) (w : World) (hQ : IsQ w q) (hR : IsQ w r) : Calls Tryz.prog 12 #[q.val, r.val] w fun e w' => e = .returned (.bool (sameQ q r)) ∧ Below w.heap.size w w' := by
  obtain ⟨A, hA, hB, hs, hn, hm⟩ := boxQ_two q r w
  have C1 : Hid (Calls Tryz.prog 35 #[q.p.val, r.p.val] A fun e w' => e = .returned (.bool (sameP q.p r.p)) ∧ Below A.heap.size A w') := samePat_any q.p r.p A (hQ.p.later hB) (hR.p.later hB)
  have C2 : Hid (∀ d, Below A.heap.size A d → Calls Tryz.prog 36 #[.slice q.a q.n q.cap, .slice r.a r.n r.cap, .func (.func 37) #[] #[]] d fun e w' => e = .returned (.bool (decide (q.n = r.n) && allN (fun i => ordX (q.c i) (r.c i) == 0) q.n)) ∧ Below d.heap.size d w') := fun d hd => by
    have hw := hB.trans (hd.mono (by omega))
    by_cases e : q.n = r.n
    · rw [decide_eq_true e, Bool.true_and, ← e]
      refine equalX_any q.a r.a q.n q.cap r.cap q.c r.c d hQ.x.len (fun i hi => ?_) (fun i hi => ?_) fun i hi W hW => ?_
      · obtain ⟨b, o, ea, h1, _⟩ := (hQ.x.later hw).part (x := q.x) hi
        exact ⟨b, o, ea, h1⟩
      · obtain ⟨b, o, ea, h1, _⟩ := (hR.x.later hw).part (x := r.x) (show i < r.n from e ▸ hi)
        exact ⟨b, o, ea, h1⟩
      · obtain ⟨_, _, _, _, h1⟩ := (hQ.x.later (hw.trans (hW.mono hw.size))).part (x := q.x) hi
        obtain ⟨_, _, _, _, h2⟩ := (hR.x.later (hw.trans (hW.mono hw.size))).part (x := r.x) (show i < r.n from e ▸ hi)
        exact sameX_any _ _ W h1 h2
    · rw [decide_eq_false e, Bool.false_and]
      exact equalX_no q.a r.a q.n r.n q.cap r.cap d e
  have C3 : Hid (∀ d, Below A.heap.size A d → Calls Tryz.prog 38 #[.slice q.ia q.m q.icap, .slice r.ia r.m r.icap] d fun e w' => e = .returned (.bool (decide (q.m = r.m) && allN (fun i => sameI (q.it i) (r.it i)) q.m)) ∧ Below d.heap.size d w') := fun d hd => by
    have hw := hB.trans (hd.mono (by omega))
    by_cases e : q.m = r.m
    · rw [decide_eq_true e, Bool.true_and, ← e]
      exact equalI_any q.ia r.ia q.m q.icap r.icap q.it r.it d (hQ.it.later hw) (fun i hi => hR.it.later hw i (e ▸ hi)) (by have := hQ.len; omega)
    · rw [decide_eq_false e, Bool.false_and]
      exact equalI_no q.ia r.ia q.m r.m q.icap r.icap d e
  have HR := sameQ_parts q r
  generalize (decide (q.n = r.n) && allN (fun i => ordX (q.c i) (r.c i) == 0) q.n) = b2 at HR C2
  generalize (decide (q.m = r.m) && allN (fun i => sameI (q.it i) (r.it i)) q.m) = b3 at HR C3
  generalize sameP q.p r.p = b1 at HR C1
  obtain ⟨v, hv⟩ : ∃ v, v = sameQ q r := ⟨_, rfl⟩
  rw [← hv] at HR ⊢
  have HN : Hid (QB A w.heap.size q) := hn
  have HM : Hid (QB A (w.heap.size + 1) r) := hm
  have HB : Hid (Below w.heap.size w A) := hB
  obtain ⟨⟨k0, k1, k2, k3, k4, k5⟩, k6, k7, k8, k9, k10⟩ := hn.at0
  obtain ⟨⟨l0, l1, l2, l3, l4, l5⟩, l6, l7, l8, l9, l10⟩ := hm.at0
  clear hQ hR hB hn hm hv
  by_cases e1 : q.key = r.key
  · have t1 := str_yes e1
    by_cases e2 : q.mode = r.mode
    · have t2 : (q.mode == r.mode) = true := by simpa using e2
      by_cases e3 : q.win = r.win
      · have t3 : (q.win == r.win) = true := by simpa using e3
        have HR' : Hid (v = (b1 && (b2 && b3))) := by show _ = _; rw [HR, decide_eq_true e1, decide_eq_true e2, decide_eq_true e3]; simp
        clear e1 e2 e3 HR
        go_enter Tryz.func12, Tryz.ntmps12
        go_wp2_with (first
          | (go_at_call 35; refine C1.out.mono ?_; rintro e w1 ⟨rfl, hB1⟩; obtain ⟨-, p6, -, -, -, p10⟩ := (HN.out.later hB1).at0; obtain ⟨-, r6, -, -, -, r10⟩ := (HM.out.later hB1).at0; cases b1)
          | (go_at_call 36; refine (C2.out _ hB1).mono ?_; rintro e w2 ⟨rfl, hB2⟩; obtain ⟨-, -, -, -, -, s10⟩ := ((HN.out.later hB1).later hB2).at0; obtain ⟨-, -, -, -, -, u10⟩ := ((HM.out.later hB1).later hB2).at0; cases b2)
          | (go_at_call 38; refine (C3.out _ (hB1.trans (hB2.mono hB1.size))).mono ?_; rintro e w3 ⟨rfl, hB3⟩))
        all_goals go_ret
        all_goals first
          | exact ⟨by rw [HR'.out]; rfl, HB.out.trans ((hB1.trans ((hB2.trans (hB3.mono hB2.size)).mono hB1.size)).mono HB.out.size)⟩
          | exact ⟨by rw [HR'.out]; rfl, HB.out.trans ((hB1.trans (hB2.mono hB1.size)).mono HB.out.size)⟩
          | exact ⟨by rw [HR'.out]; rfl, HB.out.trans (hB1.mono HB.out.size)⟩
      · have t3 : (q.win == r.win) = false := by simpa using e3
        have HR' : Hid (v = false) := by show _ = _; rw [HR, decide_eq_true e1, decide_eq_true e2, decide_eq_false e3]; simp
        clear e1 e2 e3 HR C1 C2 C3
        go_enter Tryz.func12, Tryz.ntmps12
        go_wp2
        go_ret
        exact ⟨by rw [HR'.out]; rfl, HB.out⟩
    · have t2 : (q.mode == r.mode) = false := by simpa using e2
      have HR' : Hid (v = false) := by show _ = _; rw [HR, decide_eq_true e1, decide_eq_false e2]; simp
      clear e1 e2 HR C1 C2 C3
      go_enter Tryz.func12, Tryz.ntmps12
      go_wp2
      go_ret
      exact ⟨by rw [HR'.out]; rfl, HB.out⟩
  · have t1 := str_not e1
    have HR' : Hid (v = false) := by show _ = _; rw [HR, decide_eq_false e1]; simp
    clear e1 HR C1 C2 C3
    go_enter Tryz.func12, Tryz.ntmps12
    go_wp2
    go_ret
    exact ⟨by rw [HR'.out]; rfl, HB.out⟩
end Go.Proofs.YtinnhaojmnmliaaGreat
namespace Go.Proofs.YtinnhaojmnmliaaGreat
open Go.RowKit Go.Maps Go.WideMaps Go.Sort

/-- The row that is gone over first. -/
theorem push_after {q : Qy} {A w1 w2 w3 : World} {n₀ : Nat} {v1 : Value} {a : Option Addr} {cap : Nat} {L : List ByteArray} (hL : L = namesP q.p ++ varsX q.x) (_ : A.heap.size = n₀ + 2) (hb : q.p.size + q.x.size + q.m ≤ 1048576)
    (h1 : w1.ownsRow A.heap.size 9 1 v1 (vs1 (firstL (usesP q.p)) (firstL (usesP q.p)).length).length (vs1 (firstL (usesP q.p)) (firstL (usesP q.p)).length)) (b1 : RowKit.Below A.heap.size A w1) (b2 : RowKit.Below w1.heap.size w1 w2) (b3 : RowKit.Below w2.heap.size w2 w3)
    (hT : Txs w3 a (varsX q.x).length (atS (varsX q.x))) :
    ∃ v5 w5, (Builtin.append_ #[42, 42] 42 #[v1, .slice a (varsX q.x).length cap]).run Tryz.prog w3 = .ok v5 w5 ∧ w5.ownsRow A.heap.size 9 1 v5 L.length (cellsS L) ∧ RowKit.Below A.heap.size A w5 := by
  subst hL
  have e : vs1 (firstL (usesP q.p)) (firstL (usesP q.p)).length = cellsS (namesP q.p) := by simp [vs1, cellsS, namesP, List.take_length]
  rw [e] at h1
  have el : (cellsS (namesP q.p)).length = (namesP q.p).length := by simp [cellsS]
  rw [el] at h1
  have b23 := b2.trans (b3.mono b2.size)
  have h3 := own_laterS h1 b23
  have bA := b1.trans (b23.mono b1.size)
  have hp := namesP_len q.p
  have hx := vars_len q.x
  obtain ⟨v5, w5, hrun, hown, hgr⟩ := push_strs h3 bA.size a (varsX q.x).length cap (atS (varsX q.x)) hT (by omega)
  rw [lstS_all] at hown
  exact ⟨v5, w5, hrun, hown, bA.grown hgr bA.size fun k e => (h3.lt k e).1⟩
set_option maxRecDepth 100000 in
set_option maxHeartbeats 8000000 in
theorem namesQ_any (q : Qy) (w : World) (hQ : IsQ w q) (hok : QOk q) (hsm : q.bulk ≤ 1048576) :
    Calls Tryz.prog 15 #[q.val] w fun e w' => ∃ v, e = .returned v ∧ w'.ownsRow w.heap.size 9 1 v (namesQ q).length (cellsS (namesQ q)) ∧ Below w.heap.size w w' := by
  have hb := hsm
  unfold Qy.bulk at hb
  have hmm := @run_makeMap Tryz.prog
  have HQ : Hid (IsQ w q) := hQ
  have HO : Hid (∀ s ∈ allV q, s.size ≤ maxLen) := allV_ok hok
  have HOK : Hid (QOk q) := hok
  obtain ⟨L, hL⟩ : ∃ L, L = namesP q.p ++ varsX q.x := ⟨_, rfl⟩
  have HL : Hid (L = namesP q.p ++ varsX q.x) := hL
  clear hQ hok hsm hL
  go_enter Tryz.func15, Tryz.ntmps15
  go_upto_region 2 with fail
  obtain ⟨A, hA⟩ : ∃ A, (w.alloc (.cells q.cells 28)).alloc (.map #[] 0) = A := ⟨_, rfl⟩
  have hsz : A.heap.size = w.heap.size + 2 := by rw [← hA]; simp
  have hB : Below w.heap.size w A := by rw [← hA]; exact ((Below.refl _ w).alloc (Nat.le_refl _) _).alloc (by simp) _
  have qb0 : QB A w.heap.size q := by rw [← hA]; exact (alloc_old (by simp)).trans (QB.new w q)
  have mb0 : A.ownsMap Tryz.prog 9 RU (w.heap.size + 1) 0 (.map []) := by
    have := World.ownsMap_made (w.alloc (.cells q.cells 28)) Tryz.prog 9 RU
    rw [World.size_alloc, hA] at this
    exact this
  rw [hA]
  obtain ⟨⟨k0, k1, k2, k3, k4, k5⟩, k6, -⟩ := qb0.at0
  have C1 : Hid (Calls Tryz.prog 40 #[q.p.val] A _) := vars12_any q.p A (HQ.out.p.later hB) (by omega) HOK.out.p
  have C2 : Hid (∀ d, Calls Tryz.prog 42 #[.slice q.a q.n q.cap] d _) := fun d => joined_any q.a q.n q.cap q.c d
  have C3 : Hid (∀ d, RowKit.Below A.heap.size A d → Calls Tryz.prog 41 #[q.x.val] d _) := fun d h => vars_any q.x d (HQ.out.x.later (hB.trans (h.mono hB.size))) (by omega)
  have QB0 : Hid (QB A w.heap.size q) := qb0
  have MB0 : Hid (A.ownsMap Tryz.prog 9 RU (w.heap.size + 1) 0 (.map [])) := mb0
  have HB : Hid (RowKit.Below w.heap.size w A) := hB
  have HSZ : Hid (A.heap.size = w.heap.size + 2) := hsz
  clear hA qb0 mb0 hsz hB hmm
  go_wp2_with (first
    | (go_at_call 40; refine C1.out.mono ?_; rintro e w1 ⟨v1, v2, v3, rfl, hR3, hB1⟩; have d6 := (QB0.out.later hB1).at0.2.1; have HR3 : Hid _ := hR3.o1; clear hR3 k0 k1 k2 k3 k4 k5 k6)
    | (go_at_call 42; refine (C2.out _).mono ?_; rintro e w2 ⟨rfl, hB2⟩)
    | (go_at_call 41; refine (C3.out _ (hB1.trans (hB2.mono hB1.size))).mono ?_; rintro e w3 ⟨v4, rfl, hR4, hB3⟩; obtain ⟨a4, cap4, rfl, hT4, hl4, hc4⟩ := own_txs hR4; obtain ⟨v5, w5, hrun, hown5, hgr5⟩ := push_after (q := q) HL.out HSZ.out hb HR3.out hB1 hB2 hB3 hT4 (cap := cap4); obtain ⟨a5, cap5, rfl, hT5, hl5, hc5⟩ := own_txs hown5; have HR5 : Hid (_ = _) := hrun; clear hrun hR4)
    | (at_builtin; refine wpList_append_run rfl (.tmp 19) (.tmp 23) 42 rfl _ _ _ rfl rfl HR5.out ?_))
  have hB5 : RowKit.Below w.heap.size w w5 := HB.out.trans (hgr5.mono HB.out.size)
  have QB5 : Hid (QB w5 w.heap.size q) := QB0.out.later hgr5
  have hMlt : w.heap.size + 1 < A.heap.size := by have := HSZ.out; omega
  have MB5 : Hid (w5.ownsMap Tryz.prog 9 RU (w.heap.size + 1) 0 (.map [])) := by
    obtain ⟨es, clock, hb', Ft, hs, hD⟩ := MB0.out
    exact ⟨es, clock, (hgr5.block _ hMlt).trans hb', Ft, hs, hD⟩
  have hN5 : w.heap.size + 2 ≤ w5.heap.size := by have := HSZ.out; have := hgr5.size; omega
  have hLl : L.length + q.m ≤ 1048576 := by
    have h1 := namesP_len q.p
    have h2 := vars_len q.x
    rw [HL.out, List.length_append]
    omega
  have HT5 : Hid (Txs w5 a5 L.length (atS L) ∧ ∀ b o, a5 = some ⟨b, o, none⟩ → 0 < L.length → w.heap.size + 2 ≤ b) := by
    refine ⟨hT5, fun b o e h0 => ?_⟩
    rcases hown5.2 with ⟨e', _⟩ | ⟨g, cap, cur, e', hg, _⟩
    · injection e' with e1 _ _
      rw [e1] at e; cases e
    · injection e' with e1 _ _
      rw [e1] at e; cases e
      have := HSZ.out; omega
  clear hT4 hl4 hc4 hT5 hl5 hc5 hown5 hgr5 hB1 hB2 hB3 HR3 HR5 C1 C2 C3 QB0 MB0 HSZ d6 hMlt HB
  have HAL : Hid (∀ k, k < L.length → (atS L k).size ≤ maxLen) := fun k hk => by
    refine HO.out _ ?_
    rw [allV, List.mem_append, ← HL.out]
    refine .inl ?_
    unfold atS
    rw [List.getD_eq_getElem?_getD, List.getElem?_eq_getElem hk]
    exact List.getElem_mem hk
  have HTS : Hid (∀ k, k < L.length → L.take (k + 1) = L.take k ++ [atS L k]) := fun k hk => take_snoc _ k hk
  go_loopw [26] (fun v wr => ∃ k : Nat, k ≤ L.length ∧ v = .int .i64 k ∧ (∃ D, wr.ownsMap Tryz.prog 9 RU (w.heap.size + 1) k D ∧ Hid (Hs (L.take k) D)) ∧ Lb w5.heap.size (w.heap.size + 1) w5 wr) (fun v _ => L.length - (intOf v).toNat)
  case atStart => exact ⟨0, Nat.zero_le _, rfl, ⟨_, MB5.out, hs_none⟩, Lb.refl _ _ _⟩
  case round =>
    obtain ⟨k, hk, rfl, ⟨D, hown, HH⟩, hLb⟩ := hrel
    by_cases hkn : k < L.length
    · obtain ⟨⟨b, o, rfl, hcs⟩, hbo⟩ := And.intro (HT5.out.1 (by omega)) HT5.out.2
      have hbm := hbo b o rfl (by omega)
      have hblt := World.block_lt_of_cell? w5 _ (hcs k hkn)
      have c0 : wr.cell? ⟨b, o + k, none⟩ = some (.string (atS L k)) := by
        rw [World.cell?_of_block (w := w5) (w' := wr) (a := ⟨b, o + k, none⟩) (hLb.block b hblt (by omega))]
        exact hcs k hkn
      have HKN : Hid (k < L.length) := hkn
      have hkey : keyOf Tryz.prog 9 (.string (atS L k)) = some (keyS (atS L k)) := keyOf_string_mk Tryz.underlying9 (HAL.out k hkn)
      clear hcs hbo
      go_wp2_with (first
        | (at_mapUpdate; refine wpList_mapUpdate_own _ rfl _ _ _ 60 rfl 9 66 str_law Tryz.underlying60 RU (w.heap.size + 1) k _ rfl hown (by unfold maxLen; omega) _ _ _ rfl rfl hkey _ [] rfl ?_; intro w1 hown1 hgrow1)
        | go_in)
      go_roundw
      case rel => exact ⟨k + 1, by omega, by go_num, ⟨_, hown1, by show Hs _ _; rw [HTS.out k HKN.out]; exact HH.out.more hown.isMap (hown.tidy str_law) _ _⟩, hLb.trans (Lb.grown hgrow1 hLb.size)⟩
      case measure => simp [intOf]; omega
    · obtain rfl : k = L.length := by omega
      have QB6 : QB wr w.heap.size q := (hLb.block _ (by omega) (by omega)).trans QB5.out
      have c10 := QB6.at0.2.2.2.2.2
      have hH6 : Hs L D := by have := HH.out; rw [List.take_length] at this; exact this
      have HH6 : Hid (Hs L D) := hH6
      have hB6 : RowKit.Below w.heap.size w wr := hB5.trans (hLb.below (by omega) (by omega))
      have HITS : Hid (Its w q.ia q.m q.it) := HQ.out.it
      have HOI : Hid (∀ i, i < q.m → (q.it i).s.size ≤ maxLen) := fun i hi => (HOK.out.it i hi).2.1
      clear HH hH6 QB6 HT5 HAL HTS hk hkn
      go_wp2_with fail
      obtain ⟨w6, hw6⟩ : ∃ w6, w6 = wr := ⟨_, rfl⟩
      rw [← hw6] at hB6 hown hLb ⊢
      clear c10 hw6
      have hM6 : w.heap.size + 1 < w6.heap.size := by have := hLb.size; omega
      go_loopw [37] (fun v wr => ∃ k : Nat, k ≤ q.m ∧ v = .int .i64 k ∧ (∃ D, wr.ownsMap Tryz.prog 9 RU (w.heap.size + 1) (L.length + k) D ∧ Hid (Hs (L ++ lstS (fun i => (q.it i).s) k) D)) ∧ Lb w6.heap.size (w.heap.size + 1) w6 wr) (fun v _ => q.m - (intOf v).toNat)
      case atStart => exact ⟨0, Nat.zero_le _, rfl, ⟨D, hown, by show Hs _ _; rw [lstS, List.append_nil]; exact HH6.out⟩, Lb.refl _ _ _⟩
      case round =>
        obtain ⟨k, hk, rfl, ⟨D2, hown2, HH2⟩, hLb2⟩ := hrel
        have hBr : RowKit.Below w.heap.size w wr := hB6.trans (hLb2.below (by omega) (by omega))
        by_cases hkn : k < q.m
        · obtain ⟨b, o, ea, i0, i1, i2, i3⟩ := (HITS.out.later hBr) k hkn
          rw [ea]
          have HKN : Hid (k < q.m) := hkn
          have hkey : keyOf Tryz.prog 9 (.string (q.it k).s) = some (keyS (q.it k).s) := keyOf_string_mk Tryz.underlying9 (HOI.out k hkn)
          have hownA : (wr.alloc (.cells (q.it k).cells 56)).ownsMap Tryz.prog 9 RU (w.heap.size + 1) (L.length + k) D2 := hown2.alloc _
          have HLA : Hid (Lb w6.heap.size (w.heap.size + 1) w6 (wr.alloc (.cells (q.it k).cells 56))) := hLb2.trans (.of_below ((RowKit.Below.refl _ _).alloc hLb2.size _))
          clear ea
          go_wp2_with (first
            | (at_mapUpdate; refine wpList_mapUpdate_own _ rfl _ _ _ 60 rfl 9 66 str_law Tryz.underlying60 RU (w.heap.size + 1) (L.length + k) _ rfl hownA (by unfold maxLen; omega) _ _ _ rfl rfl hkey _ [] rfl ?_; intro w1 hown1 hgrow1)
            | go_in)
          refine ⟨⟨k + 1, hkn, by simp, ⟨_, by rw [← Nat.add_assoc]; exact hown1, ?_⟩, HLA.out.trans (Lb.grown hgrow1 HLA.out.size)⟩, ?_⟩
          · show Hs _ _
            rw [lstS, ← List.append_assoc]
            exact HH2.out.more hown2.isMap (hown2.tidy str_law) _ _
          · simp [intOf]
            omega
        · obtain rfl : k = q.m := by omega
          have hH : Hs (allV q) D2 := by have := HH2.out; rw [HL.out] at this; exact this
          have hsz : Maps.size D2 ≤ 1048576 := by
            have h1 := HH2.out.le
            rw [List.length_append, lstS_len] at h1
            omega
          have C5 : Hid (∀ mb d, Calls Tryz.prog 44 #[.map mb] d _) := fun mb d => keysM_any mb d
          have C6 : Hid (Calls Tryz.prog 43 #[.func (.func 74) #[] #[.pointer (some ⟨wr.heap.size, 0, none⟩)]] (wr.alloc (.cells #[.map (some (w.heap.size + 1))] 60)) _) := sortedM_any (w.heap.size + 1) (L.length + q.m) D2 RU wr hown2 (by unfold maxLen; omega) (by omega)
          have HSK : Hid (∀ ss : List (List UInt8), ss.Perm (strKeys D2) → (sortB ss).map encStr = cellsS (namesQ q) ∧ ss.length = (namesQ q).length) := fun ss hp => sorted_keys hown2 (namesQ_sorted q) (fun s => by rw [namesQ_mem]; exact (hH.has s).symm) hp
          clear hH hsz
          go_wp2_with (first
            | (go_at_call 44; refine (C5.out _ _).mono ?_; rintro e w7 ⟨rfl, hw7⟩; subst hw7)
            | (go_at_call 43; refine C6.out.mono ?_; rintro e w8 ⟨v8, ss, rfl, hperm, hrow, hB8⟩))
          go_ret
          obtain ⟨hc1, hc2⟩ := HSK.out ss hperm
          rw [hc1, hc2] at hrow
          refine ⟨v8, rfl, own_low hrow ?_, hBr.trans ?_⟩
          · simp
            have := hBr.size
            omega
          · exact ((RowKit.Below.refl _ _).alloc hBr.size _).trans (hB8.mono (by simp; have := hBr.size; omega))
end Go.Proofs.YtinnhaojmnmliaaGreat
namespace Go.Proofs.YtinnhaojmnmliaaGreat
open Go.RowKit

theorem ren_none {g : ByteArray → ByteArray} (hg : ∀ s, g s = s) : ∀ x : X, ordX (renX g x) x = 0 := by
  refine X.ind fun x ih => ?_
  obtain ⟨p1, p2, p3, p4, p5, p6⟩ := renX_parts g x
  refine (ordX_zero _ _).2 ⟨p1, p2, ?_, p4, p5, fun i hi => by rw [p6]; exact ih i (p5 ▸ hi)⟩
  rw [p3, hg]
  simp
/-- What Where hands back: conditions as the parts of one. -/
def WhereAns (x : X) (w : World) (e : Ending) (w' : World) : Prop :=
  ∃ (a : Option Addr) (n cap : Nat) (c : Nat → X), e = .returned (.slice a n cap) ∧ IsX w' (X.mk 16 val0 ⟨#[]⟩ ⟨#[]⟩ a n cap c) ∧ n = (if x.k = 16 then x.n else 1) ∧ (∀ i, i < n → ordX (c i) (if x.k = 16 then x.c i else x) = 0) ∧ Below w.heap.size w w'
set_option maxRecDepth 100000 in
set_option maxHeartbeats 4000000 in
theorem whereQ_any (x : X) (w : World) (hX : IsX w x) (hsm : x.size ≤ 1048576) (hok : XOk x) : Calls Tryz.prog 7 #[x.val] w (WhereAns x w) := by
  have hB : Below w.heap.size w (w.alloc (.cells x.cells 32)) := (Below.refl _ _).alloc (Nat.le_refl _) _
  have C1 : Hid (Calls Tryz.prog 20 #[x.val, .slice none 0 0, .slice none 0 0] (w.alloc (.cells x.cells 32)) _) := renameN_any x none none 0 0 0 0 (fun _ => ⟨#[]⟩) (fun _ => ⟨#[]⟩) _ (hX.later hB) hsm hok (fun h => absurd h (Nat.lt_irrefl _)) (fun h => absurd h (Nat.lt_irrefl _)) (by omega) (by omega) (Nat.le_refl _) (by omega) (fun j hj => absurd hj (Nat.not_lt_zero _))
  have hx0 := alloc_new w (.cells x.cells 32)
  have HX0 : Hid _ := hx0
  obtain ⟨k0, k1, k2, k3, k4, k5, k6⟩ := (node_box hx0).at0
  clear hX hx0
  go_enter Tryz.func7, Tryz.ntmps7
  go_upto_region 2 with (first | (go_at_call 20; refine C1.out.mono ?_; rintro e W1 ⟨y, rfl, hXA, hord, hin, hB1⟩; have u0 := (hB1.block w.heap.size (by simp)).trans HX0.out; obtain ⟨e0, e1, e2, e3, e4, e5, e6⟩ := (node_box u0).at0; have ff : ∀ j, W1.frozen? ⟨w.heap.size, j, none⟩ = false := fun j => Free.frozen ⟨_, u0⟩ j; have f0 := ff 0; have f1 := ff 1; have f2 := ff 2; have f3 := ff 3; have f4 := ff 4; have f5 := ff 5; have f6 := ff 6; clear ff k0 k1 k2 k3 k4 k5 k6))
  clear e0 e1 e2 e3 e4 e5 e6 f0 f1 f2 f3 f4 f5 f6
  obtain ⟨W2, hW2⟩ : ∃ W2, set7 W1 w.heap.size y = W2 := ⟨_, rfl⟩
  have hW2' := hW2
  unfold set7 at hW2'
  rw [hW2']
  have hn2 : W2.heap[w.heap.size]? = some (.cells y.cells 32 (0, 0)) := by rw [← hW2]; exact heap_set7 u0
  have hs2 : W2.heap.size = W1.heap.size := by rw [← hW2]; simp
  have hlt : w.heap.size < W1.heap.size := by have := hB1.size; simp at this; omega
  have HX2 : Hid (IsX W2 y) := by
    show IsX W2 y
    rw [← hW2]
    exact hXA.is.kept (T := fun k => k ≠ w.heap.size) (fun k o hk _ e => (heap_set7_other hk).trans e) fun k hk => by have := hin k hk; simp at this; omega
  have hB2 : Below w.heap.size w W2 := by rw [← hW2]; exact below_set7 (hB.trans (hB1.mono (by simp))) (Nat.le_refl _)
  have hid : ordX y x = 0 := (ordX_comp y _ x).1 hord (ren_none (fun s => rfl) x)
  obtain ⟨o1, o2, o3, o4, o5, o6⟩ := (ordX_zero _ _).1 hid
  obtain ⟨k0, k1, k2, k3, k4, k5, k6⟩ := (node_box hn2).at0
  have HID : Hid (ordX y x = 0) := hid
  have HO5 : Hid (y.n = x.n) := o5
  have HO6 : Hid (∀ i, i < y.n → ordX (y.c i) (x.c i) = 0) := o6
  have HO1 : Hid (y.k = x.k) := o1
  clear hW2' hW2 u0 hXA hord hin hB1 hB C1 HX0 hid o1 o2 o3 o4 o5 o6 hlt hs2 hn2
  by_cases h16 : y.k = 16
  · have t : (y.k == 16) = true := by simpa using h16
    have HK : Hid (x.k = 16) := HO1.out ▸ h16
    clear h16
    go_wp2
    go_ret
    refine ⟨y.a, y.n, y.cap, y.c, rfl, ?_, ?_, ?_, hB2⟩
    · have := HX2.out
      rw [isX_eq] at this ⊢
      exact this
    · rw [if_pos HK.out]; exact HO5.out
    · intro i hi
      rw [if_pos HK.out]
      exact HO6.out i hi
  · have t : (y.k == 16) = false := by simpa using h16
    have HK : Hid (¬ x.k = 16) := HO1.out ▸ h16
    clear h16
    go_wp2
    go_ret
    have hBl : Below W2.heap.size W2 (W2.alloc (.cells y.cells 32)) := (Below.refl _ _).alloc (Nat.le_refl _) _
    refine ⟨some ⟨W2.heap.size, 0, none⟩, 1, 1, fun _ => y, rfl, ⟨Nat.le_refl _, by omega, fun i hi => ⟨W2.heap.size, 0, rfl, ?_, HX2.out.later hBl⟩⟩, ?_, ?_, hB2.trans (hBl.mono hB2.size)⟩
    · obtain rfl : i = 0 := by omega
      exact node_box (alloc_new W2 (.cells y.cells 32))
    · rw [if_neg HK.out]
    · intro i hi
      rw [if_neg HK.out]
      exact HID.out
set_option maxRecDepth 100000 in
theorem awake13_any (w : World) : Calls Tryz.prog 6 #[] w fun e w' => e = .returned (.bool true) ∧ Below w.heap.size w w' := by
  have C1 : Hid (Calls Tryz.prog 7 #[.agg #[.int .i64 1, .int .i64 0, .int .i64 0, .string ⟨#[]⟩, .string ⟨#[]⟩, .string ⟨#[]⟩, .slice none 0 0]] w _) := whereQ_any (X.mk 1 val0 ⟨#[]⟩ ⟨#[]⟩ none 0 0 (fun _ => .nil)) w ⟨Nat.le_refl _, by omega, fun i hi => absurd hi (Nat.not_lt_zero _)⟩ (by simp [X.size, sumN]) ⟨Nat.zero_le _, Nat.zero_le _, fun i hi => absurd hi (Nat.not_lt_zero _)⟩
  go_enter Tryz.func6, Tryz.ntmps6
  go_wp2_with (first | (go_at_call 7; refine C1.out.mono ?_; rintro e W1 ⟨a, n, cap, c, rfl, _, hn, _, hB1⟩; rw [if_neg (by simp [X.k])] at hn; subst hn))
  go_ret
  exact ⟨rfl, hB1⟩
/-- One of the two. -/
def SomeB (w : World) (e : Ending) (w' : World) : Prop := ∃ b : Bool, e = .returned (.bool b) ∧ Below w.heap.size w w'
set_option maxRecDepth 100000 in
set_option maxHeartbeats 4000000 in
theorem lightQ_any (q : Qy) (w : World) (hQ : IsQ w q) (hsm : q.bulk ≤ 1048576) : Calls Tryz.prog 5 #[q.val] w (SomeB w) := by
  unfold Qy.bulk at hsm
  have hB0 : Below w.heap.size w (w.alloc (.cells q.cells 28)) := (Below.refl _ _).alloc (Nat.le_refl _) _
  have C1 : Hid (Calls Tryz.prog 18 #[q.p.val] (w.alloc (.cells q.cells 28)) _) := refSizeP_any q.p _ (hQ.p.later hB0) (by omega)
  have HI : Hid (∀ i, i < q.n → ∀ W, Below w.heap.size w W → Calls Tryz.prog 19 #[(q.c i).val] W fun e w' => e = .returned (.int .i64 (szZ (q.c i))) ∧ Below W.heap.size W w') := fun i hi W hW => by
    obtain ⟨_, _, _, _, h1⟩ := (hQ.x.later hW).part (x := q.x) hi
    exact refSize_any _ W h1
  have HQ : Hid (IsQ w q) := hQ
  have qb := QB.new w q
  have QB0 : Hid (QB (w.alloc (.cells q.cells 28)) w.heap.size q) := qb
  obtain ⟨⟨k0, k1, k2, k3, k4, k5⟩, -⟩ := qb.at0
  have hlen : q.n ≤ 9223372036854775807 := hQ.x.len
  have HB0 : Hid (Below w.heap.size w (w.alloc (.cells q.cells 28))) := hB0
  clear hQ qb hB0
  go_enter Tryz.func5, Tryz.ntmps5
  go_wp2_with (first | (go_at_call 18; refine C1.out.mono ?_; rintro e w1 ⟨rfl, hB1⟩))
  have hw1 : Below w.heap.size w w1 := HB0.out.trans (hB1.mono HB0.out.size)
  have QB1 : Hid (QB w1 w.heap.size q) := QB0.out.later hB1
  clear k0 k1 k2 k3 k4 k5 C1 QB0 HB0 hB1
  go_loopw [3, 4] (fun u v wr => ∃ (k : Nat) (z : Int), k ≤ q.n ∧ u = .int .i64 z ∧ v = .int .i64 k ∧ Below w1.heap.size w1 wr) (fun _ v _ => q.n - (intOf v).toNat)
  case atStart => exact ⟨0, _, Nat.zero_le _, rfl, rfl, Below.refl _ _⟩
  case round =>
    obtain ⟨k, z, hk, rfl, rfl, hB⟩ := hrel
    have hw := hw1.trans (hB.mono hw1.size)
    obtain ⟨-, c6, -, -, -, c10⟩ := (QB1.out.later hB).at0
    by_cases hkn : k < q.n
    · obtain ⟨b, o, ea, hn, -⟩ := (HQ.out.x.later hw).part (x := q.x) hkn
      have ea1 : q.a = some ⟨b, o, none⟩ := ea
      rw [ea1] at c6
      have hn1 : Node wr b (o + k * 7) (q.c k) := hn
      obtain ⟨d0, d1, d2, d3, d4, d5, d6⟩ := hn1
      have hc := HI.out k hkn wr hw
      have HKN : Hid (k < q.n) := hkn
      clear ea ea1 hn
      go_wp2_with (first | (go_at_call 19; refine hc.mono ?_; clear hc; rintro e w2 ⟨rfl, hB2⟩))
      refine ⟨⟨k + 1, _, HKN.out, rfl, by simp, hB.trans (hB2.mono hB.size)⟩, ?_⟩
      have := HKN.out
      simp [intOf]
      omega
    · obtain rfl : k = q.n := by omega
      go_wp2
      all_goals go_ret
      all_goals exact ⟨_, rfl, hw⟩
end Go.Proofs.YtinnhaojmnmliaaGreat
namespace Go.Proofs.YtinnhaojmnmliaaGreat
open Go.RowKit

theorem s_put {α : Type} (l : List α) (i : Nat) (a : α) : l.toArray.setIfInBounds i a = (l.set i a).toArray := List.setIfInBounds_toArray ..
theorem s_0 {α : Type} (x y : α) (l : List α) : (x :: l).set 0 y = y :: l := List.set_cons_zero
theorem s_1 {α : Type} (x y : α) (l : List α) (n : Nat) : (x :: l).set (n + 1) y = x :: l.set n y := List.set_cons_succ
theorem brefl (x : World) : Below x.heap.size x x := Below.refl _ _
theorem btr {a b c : World} (h : Below a.heap.size a b) (g : Below b.heap.size b c) : Below a.heap.size a c := h.trans (g.mono h.size)
theorem bup {a b c : World} (h : Below a.heap.size a b) (g : Below b.heap.size b c) : ∀ w', Below c.heap.size c w' → Below a.heap.size a w' := fun _ k => (btr h g).trans (k.mono (btr h g).size)
theorem boxQ_oneR (q : Qy) (w : World) : ∃ A, w.alloc (.cells q.cells 28) = A ∧ Below w.heap.size w A ∧ A.heap.size = w.heap.size + 1 ∧ QB A w.heap.size q := ⟨_, rfl, (Below.refl _ _).alloc (Nat.le_refl _) _, by simp, QB.new w q⟩
/-- One name for another, wherever the two lie. -/
theorem rename_oneQ (x : Qy) (v u : ByteArray) (d : World) (hX : IsQ d x) (hok : QOk x) (hsm : x.bulk ≤ 1048576) (zv : v.size ≤ maxLen) (a b : Option Addr) (ha : Txs d a 1 (fun _ => v)) (hb : Txs d b 1 (fun _ => u)) :
    Calls Tryz.prog 17 #[x.val, .slice a 1 1, .slice b 1 1] d fun e w' => ∃ y : Qy, e = .returned y.val ∧ Hid (RnQ (one v u) x y) ∧ Hid (IsQ w' y) ∧ Below d.heap.size d w' := by
  refine (renameQ_any x _ _ 1 1 1 1 _ _ _ hX hok hsm ha hb (by omega) (by omega) (by omega) (by omega) (fun _ _ => zv)).mono ?_
  rintro e w' ⟨y, rfl, q1, q2, q3⟩
  exact ⟨y, rfl, q2, q1, q3⟩
theorem txs_new (d : World) (v : ByteArray) : Txs (d.alloc (.cells #[.string v] 9)) (some ⟨d.heap.size, 0, none⟩) 1 (fun _ => v) := fun _ => ⟨_, _, rfl, fun j hj => by
  obtain rfl : j = 0 := by omega
  exact (Boxed.new d 9 (.string v)).cell⟩
end Go.Proofs.YtinnhaojmnmliaaGreat
