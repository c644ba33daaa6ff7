/-
  The same queries; of no function.
  pat.Same: by slices.EqualFunc, which is handed pat.Same itself.
  query.Same.
  The document's Same of queries.
-/
import Derived.Test.YtinnhaojmnmliaaGreatEBrief
import Derived.Test.YtinnhaojmnmliaaGreatCPatBase
import Derived.Test.YtinnhaojmnmliaaGreatFExprOrd
import Derived.Test.YtinnhaojmnmliaaGreatFExprRefOrder
namespace Go.Proofs.YtinnhaojmnmliaaGreat
open Go.RowKit

/-- The same items? -/
def sameI (x y : It) : Bool := decide (x.nm = y.nm) && (decide (x.k = y.k) && (decide (x.s = y.s) && decide (x.f = y.f)))
theorem sameI_iff (x y : It) : sameI x y = true ↔ x = y := by
  cases x
  cases y
  simp [sameI]
theorem neqI (x y : It) (W : World) : (binOp .neq 56 x.val y.val).run Tryz.prog W = .ok (.bool (!sameI x y)) W := by
  simp [go_sem, same_str, sameI]
  by_cases h1 : x.nm = y.nm <;> by_cases h2 : x.k = y.k <;> by_cases h3 : x.s = y.s <;> by_cases h4 : x.f = y.f <;> simp [h1, h2, h3, h4]
/-- The same queries? -/
def sameQ (q r : Qy) : Bool := sameP q.p r.p && (decide (q.key = r.key) && (decide (q.mode = r.mode) && (decide (q.win = r.win) && (decide (q.n = r.n) && (decide (q.m = r.m) && (allN (fun i => ordX (q.c i) (r.c i) == 0) q.n && allN (fun i => sameI (q.it i) (r.it i)) q.m))))))
theorem sameQ_iff (q r : Qy) : sameQ q r = true ↔ Sm q.p r.p ∧ q.key = r.key ∧ q.mode = r.mode ∧ q.win = r.win ∧ q.n = r.n ∧ q.m = r.m ∧ (∀ i, i < q.n → ordX (q.c i) (r.c i) = 0) ∧ ∀ i, i < q.m → q.it i = r.it i := by
  simp only [sameQ, Bool.and_eq_true, decide_eq_true_eq, allN_true, beq_iff_eq, sameI_iff, Sm]
theorem boxQ_two (q r : Qy) (w : World) : ∃ A, (w.alloc (.cells q.cells 28)).alloc (.cells r.cells 28) = A ∧ Below w.heap.size w A ∧ A.heap.size = w.heap.size + 2 ∧ QB A w.heap.size q ∧ QB A (w.heap.size + 1) r :=
  ⟨_, rfl, ((Below.refl _ w).alloc (Nat.le_refl _) _).alloc (by simp) _, by simp, (alloc_old (by simp)).trans (QB.new w q), by
    have := QB.new (w.alloc (.cells q.cells 28)) r
    rw [World.size_alloc] at this
    exact this⟩
theorem boxQ_below (q r : Qy) (w : World) : Below w.heap.size w ((w.alloc (.cells q.cells 28)).alloc (.cells r.cells 28)) := ((Below.refl _ w).alloc (Nat.le_refl _) _).alloc (by simp) _
theorem boxQ_first (q r : Qy) (w : World) : QB ((w.alloc (.cells q.cells 28)).alloc (.cells r.cells 28)) w.heap.size q := (alloc_old (by simp)).trans (QB.new w q)
theorem boxQ_second (q r : Qy) (w : World) : QB ((w.alloc (.cells q.cells 28)).alloc (.cells r.cells 28)) (w.heap.size + 1) r := by
  have := QB.new (w.alloc (.cells q.cells 28)) r
  rw [World.size_alloc] at this
  exact this
end Go.Proofs.YtinnhaojmnmliaaGreat
namespace Go.Proofs.YtinnhaojmnmliaaGreat
open Go.RowKit

set_option maxRecDepth 100000 in
set_option maxHeartbeats 4000000 in
theorem equalFunc_no (a a' : Option Addr) (n m cap cap' : Nat) (w : World) (hne : ¬ n = m) :
    Calls Tryz.prog 68 #[.slice a n cap, .slice a' m cap', .func (.func 35) #[] #[]] w fun e w' => e = .returned (.bool false) ∧ Below w.heap.size w w' := by
  have t := ne_no (show ¬ ((n : Nat) : Int) = ((m : Nat) : Int) by omega)
  clear hne
  go_enter Tryz.func68, Tryz.ntmps68
  go_wp2
  go_ret
  exact ⟨rfl, Below.refl _ _⟩
set_option maxRecDepth 100000 in
set_option maxHeartbeats 4000000 in
theorem equalFunc_any (a a' : Option Addr) (n cap cap' : Nat) (c c' : Nat → Pt) (w : World) (hn : n ≤ 9223372036854775807) (h1 : ∀ i, i < n → ∃ b o, a = some ⟨b, o, none⟩ ∧ NodeP w b (o + i * 6) (c i)) (h2 : ∀ i, i < n → ∃ b o, a' = some ⟨b, o, none⟩ ∧ NodeP w b (o + i * 6) (c' i))
    (hC : ∀ i, i < n → ∀ W, Below w.heap.size w W → Calls Tryz.prog 35 #[(c i).val, (c' i).val] W fun e w' => e = .returned (.bool (sameP (c i) (c' i))) ∧ Below W.heap.size W w') :
    Calls Tryz.prog 68 #[.slice a n cap, .slice a' n cap', .func (.func 35) #[] #[]] w fun e w' => e = .returned (.bool (allN (fun i => sameP (c i) (c' i)) n)) ∧ Below w.heap.size w w' := by
  obtain ⟨r, hr⟩ : ∃ r, r = allN (fun i => sameP (c i) (c' i)) n := ⟨_, rfl⟩
  have HF : Hid (∀ i, i < n → sameP (c i) (c' i) = false → r = false) := fun i hi h => hr.trans (allN_false hi h)
  have HT : Hid ((∀ i, i < n → sameP (c i) (c' i) = true) → r = true) := fun h => hr.trans (allN_true.2 h)
  rw [← hr]
  have HC : Hid (∀ i, i < n → ∀ W, Below w.heap.size w W → Calls Tryz.prog 35 #[(c i).val, (c' i).val] W fun e w' => e = .returned (.bool (sameP (c i) (c' i))) ∧ Below W.heap.size W w') := hC
  have H1 : Hid (∀ i, i < n → ∃ b o, a = some ⟨b, o, none⟩ ∧ NodeP w b (o + i * 6) (c i)) := h1
  have H2 : Hid (∀ i, i < n → ∃ b o, a' = some ⟨b, o, none⟩ ∧ NodeP w b (o + i * 6) (c' i)) := h2
  clear hr hC h1 h2
  go_enter Tryz.func68, Tryz.ntmps68
  go_wp2
  go_loopw [17] (fun u wr => ∃ k : Nat, k ≤ n ∧ u = .int .i64 k ∧ Hid (∀ i, i < k → sameP (c i) (c' i) = true) ∧ Below w.heap.size w wr) (fun u _ => n - (intOf u).toNat)
  case atStart => exact ⟨0, Nat.zero_le _, rfl, fun i hi => absurd hi (Nat.not_lt_zero _), Below.refl _ _⟩
  case round =>
    obtain ⟨k, hk, rfl, HK, hB⟩ := hrel
    by_cases hkn : k < n
    · obtain ⟨b, o, rfl, hn1⟩ := H1.out k hkn
      obtain ⟨b', o', rfl, hn2⟩ := H2.out k hkn
      obtain ⟨A, hA, hB2, hs, hm1, hm2⟩ := boxP_two (c k) (c' k) wr
      have hlt := hn1.lt
      have hlt2 := hn2.lt
      have q2 : NodeP (wr.alloc (.cells (c k).cells 24)) b' (o' + k * 6) (c' k) := (hn2.later hB).later ((Below.refl _ _).alloc (Nat.le_refl _) _)
      obtain ⟨d0, d1, d2, d3, d4, d5⟩ := hn1.later hB
      obtain ⟨f0, f1, f2, f3, f4, f5⟩ := q2
      obtain ⟨g0, g1, g2, g3, g4, g5⟩ := hm1.at0
      obtain ⟨i0, i1, i2, i3, i4, i5⟩ := hm2.at0
      have hc := HC.out k hkn A (hB.trans (hB2.mono hB.size))
      have HKN : Hid (k < n) := hkn
      have HB : Hid (Below w.heap.size w A) := hB.trans (hB2.mono hB.size)
      obtain ⟨q, hq⟩ : ∃ q, q = sameP (c k) (c' k) := ⟨_, rfl⟩
      rw [← hq] at hc
      have HE : Hid (q = sameP (c k) (c' k)) := hq
      clear hq hn1 hn2 hm1 hm2 hB2 hs hB
      go_wp2_with (go_at_call 35; refine hc.mono ?_; clear hc; rintro e w2 ⟨rfl, hB2⟩; cases q)
      all_goals go_wp2
      all_goals first
        | (go_ret; exact ⟨by rw [HF.out k HKN.out HE.out.symm]; rfl, HB.out.trans (hB2.mono HB.out.size)⟩)
        | (go_roundw
           case rel =>
             refine ⟨k + 1, HKN.out, by go_num, fun i hi => ?_, HB.out.trans (hB2.mono HB.out.size)⟩
             by_cases e : i = k
             · rw [e]; exact HE.out.symm
             · exact HK.out i (by omega)
           case measure => have := HKN.out; simp [intOf]; omega)
    · obtain rfl : k = n := by omega
      go_wp2
      go_ret
      exact ⟨by rw [HT.out HK.out]; rfl, hB⟩
set_option maxRecDepth 100000 in
set_option maxHeartbeats 8000000 in
theorem samePat_any : ∀ (x y : Pt) (w : World), IsP w x → IsP w y → Calls Tryz.prog 35 #[x.val, y.val] w fun e w' => e = .returned (.bool (sameP x y)) ∧ Below w.heap.size w w' := by
  refine Pt.ind fun x ih y w hX hY => ?_
  obtain ⟨A, hA, hB, hs, hn, hm⟩ := boxP_two x y w
  obtain ⟨a0, a1, a2, a3, a4, a5⟩ := hn.at0
  obtain ⟨b0, b1, b2, b3, b4, b5⟩ := hm.at0
  have HB : Hid (Below w.heap.size w A) := hB
  have EQ : Hid (∀ d, Below A.heap.size A d → Calls Tryz.prog 68 #[.slice x.a x.n x.cap, .slice y.a y.n y.cap, .func (.func 35) #[] #[]] d fun e w' => e = .returned (.bool (decide (x.n = y.n) && allN (fun i => sameP (x.c i) (y.c i)) x.n)) ∧ Below d.heap.size d w') := fun d hd => by
    have hw := hB.trans (hd.mono (by omega))
    by_cases e : x.n = y.n
    · rw [decide_eq_true e, Bool.true_and, ← e]
      refine equalFunc_any x.a y.a x.n x.cap y.cap x.c y.c d hX.len (fun i hi => ?_) (fun i hi => ?_) fun i hi W hW => ?_
      · obtain ⟨b, o, ea, h1, _⟩ := (hX.later hw).part hi
        exact ⟨b, o, ea, h1⟩
      · obtain ⟨b, o, ea, h1, _⟩ := (hY.later hw).part (e ▸ hi)
        exact ⟨b, o, ea, h1⟩
      · obtain ⟨_, _, _, _, h1⟩ := (hX.later (hw.trans (hW.mono hw.size))).part hi
        obtain ⟨_, _, _, _, h2⟩ := (hY.later (hw.trans (hW.mono hw.size))).part (e ▸ hi)
        exact ih i hi _ W h1 h2
    · rw [decide_eq_false e, Bool.false_and]
      exact equalFunc_no x.a y.a x.n y.n x.cap y.cap d e
  obtain ⟨q, hq⟩ : ∃ q, q = (decide (x.n = y.n) && allN (fun i => sameP (x.c i) (y.c i)) x.n) := ⟨_, rfl⟩
  rw [← hq] at EQ
  have HR : Hid (sameP x y = (decide (x.k = y.k) && (decide (x.s = y.s) && (decide (x.t = y.t) && (decide (x.lo = y.lo) && (decide (x.hi = y.hi) && q)))))) := by show _ = _; rw [hq]; exact sameP_eq x y
  clear ih hX hY hB hn hm hq
  generalize sameP x y = r at HR ⊢
  by_cases e1 : x.k = y.k
  · by_cases e2 : x.s = y.s
    · by_cases e3 : x.t = y.t
      · by_cases e4 : x.lo = y.lo
        · by_cases e5 : x.hi = y.hi
          · have HR' : Hid (r = q) := by show r = q; rw [HR.out, decide_eq_true e1, decide_eq_true e2, decide_eq_true e3, decide_eq_true e4, decide_eq_true e5]; simp
            have t1 : (x.k == y.k) = true := by simpa using e1
            have t2 := str_yes e2
            have t3 := str_yes e3
            have t4 : (x.lo == y.lo) = true := by simpa using e4
            have t5 : (x.hi == y.hi) = true := by simpa using e5
            clear e1 e2 e3 e4 e5 HR
            go_enter Tryz.func35, Tryz.ntmps35
            go_wp2_with (go_at_call 68; refine (EQ.out _ (Below.refl _ _)).mono ?_; clear EQ; rintro e w2 ⟨rfl, hB2⟩)
            go_ret
            exact ⟨by rw [HR'.out]; rfl, HB.out.trans (hB2.mono (by omega))⟩
          · have HR' : Hid (r = false) := by show r = false; rw [HR.out, decide_eq_true e1, decide_eq_true e2, decide_eq_true e3, decide_eq_true e4, decide_eq_false e5]; simp
            have t1 : (x.k == y.k) = true := by simpa using e1
            have t2 := str_yes e2
            have t3 := str_yes e3
            have t4 : (x.lo == y.lo) = true := by simpa using e4
            have t5 : (x.hi == y.hi) = false := by simpa using e5
            clear e1 e2 e3 e4 e5 HR EQ
            go_enter Tryz.func35, Tryz.ntmps35
            go_wp2
            go_ret
            exact ⟨by rw [HR'.out]; rfl, HB.out⟩
        · have HR' : Hid (r = false) := by show r = false; rw [HR.out, decide_eq_true e1, decide_eq_true e2, decide_eq_true e3, decide_eq_false e4]; simp
          have t1 : (x.k == y.k) = true := by simpa using e1
          have t2 := str_yes e2
          have t3 := str_yes e3
          have t4 : (x.lo == y.lo) = false := by simpa using e4
          clear e1 e2 e3 e4 HR EQ
          go_enter Tryz.func35, Tryz.ntmps35
          go_wp2
          go_ret
          exact ⟨by rw [HR'.out]; rfl, HB.out⟩
      · have HR' : Hid (r = false) := by show r = false; rw [HR.out, decide_eq_true e1, decide_eq_true e2, decide_eq_false e3]; simp
        have t1 : (x.k == y.k) = true := by simpa using e1
        have t2 := str_yes e2
        have t3 := str_not e3
        clear e1 e2 e3 HR EQ
        go_enter Tryz.func35, Tryz.ntmps35
        go_wp2
        go_ret
        exact ⟨by rw [HR'.out]; rfl, HB.out⟩
    · have HR' : Hid (r = false) := by show r = false; rw [HR.out, decide_eq_true e1, decide_eq_false e2]; simp
      have t1 : (x.k == y.k) = true := by simpa using e1
      have t2 := str_not e2
      clear e1 e2 HR EQ
      go_enter Tryz.func35, Tryz.ntmps35
      go_wp2
      go_ret
      exact ⟨by rw [HR'.out]; rfl, HB.out⟩
  · have HR' : Hid (r = false) := by show r = false; rw [HR.out, decide_eq_false e1]; simp
    have t1 : (x.k == y.k) = false := by simpa using e1
    clear e1 HR EQ
    go_enter Tryz.func35, Tryz.ntmps35
    go_wp2
    go_ret
    exact ⟨by rw [HR'.out]; rfl, HB.out⟩
end Go.Proofs.YtinnhaojmnmliaaGreat
namespace Go.Proofs.YtinnhaojmnmliaaGreat
open Go.RowKit

theorem boxX_two (x y : X) (w : World) : ∃ A, (w.alloc (.cells x.cells 32)).alloc (.cells y.cells 32) = A ∧ Below w.heap.size w A ∧ A.heap.size = w.heap.size + 2 ∧ Node A w.heap.size 0 x ∧ Node A (w.heap.size + 1) 0 y := by
  refine ⟨_, rfl, ((Below.refl _ w).alloc (Nat.le_refl _) _).alloc (by simp) _, by simp, (node_new w _ x).later ((Below.refl _ _).alloc (Nat.le_refl _) _), ?_⟩
  have := node_new (w.alloc (.cells x.cells 32)) 32 y
  rwa [World.size_alloc] at this
set_option maxRecDepth 100000 in
set_option maxHeartbeats 4000000 in
theorem equalX_no (a a' : Option Addr) (n m cap cap' : Nat) (w : World) (hne : ¬ n = m) :
    Calls Tryz.prog 36 #[.slice a n cap, .slice a' m cap', .func (.func 37) #[] #[]] w fun e w' => e = .returned (.bool false) ∧ Below w.heap.size w w' := by
  have t := ne_no (show ¬ ((n : Nat) : Int) = ((m : Nat) : Int) by omega)
  clear hne
  go_enter Tryz.func36, Tryz.ntmps36
  go_wp2
  go_ret
  exact ⟨rfl, Below.refl _ _⟩
set_option maxRecDepth 100000 in
set_option maxHeartbeats 4000000 in
theorem equalX_any (a a' : Option Addr) (n cap cap' : Nat) (c c' : Nat → X) (w : World) (hn : n ≤ 9223372036854775807) (h1 : ∀ i, i < n → ∃ b o, a = some ⟨b, o, none⟩ ∧ Node w b (o + i * 7) (c i)) (h2 : ∀ i, i < n → ∃ b o, a' = some ⟨b, o, none⟩ ∧ Node w b (o + i * 7) (c' i))
    (hC : ∀ i, i < n → ∀ W, Below w.heap.size w W → Calls Tryz.prog 37 #[(c i).val, (c' i).val] W fun e w' => e = .returned (.bool ((ordX (c i) (c' i) == 0))) ∧ Below W.heap.size W w') :
    Calls Tryz.prog 36 #[.slice a n cap, .slice a' n cap', .func (.func 37) #[] #[]] w fun e w' => e = .returned (.bool (allN (fun i => (ordX (c i) (c' i) == 0)) n)) ∧ Below w.heap.size w w' := by
  obtain ⟨r, hr⟩ : ∃ r, r = allN (fun i => (ordX (c i) (c' i) == 0)) n := ⟨_, rfl⟩
  have HF : Hid (∀ i, i < n → (ordX (c i) (c' i) == 0) = false → r = false) := fun i hi h => hr.trans (allN_false hi h)
  have HT : Hid ((∀ i, i < n → (ordX (c i) (c' i) == 0) = true) → r = true) := fun h => hr.trans (allN_true.2 h)
  rw [← hr]
  have HC : Hid (∀ i, i < n → ∀ W, Below w.heap.size w W → Calls Tryz.prog 37 #[(c i).val, (c' i).val] W fun e w' => e = .returned (.bool ((ordX (c i) (c' i) == 0))) ∧ Below W.heap.size W w') := hC
  have H1 : Hid (∀ i, i < n → ∃ b o, a = some ⟨b, o, none⟩ ∧ Node w b (o + i * 7) (c i)) := h1
  have H2 : Hid (∀ i, i < n → ∃ b o, a' = some ⟨b, o, none⟩ ∧ Node w b (o + i * 7) (c' i)) := h2
  clear hr hC h1 h2
  go_enter Tryz.func36, Tryz.ntmps36
  go_wp2
  go_loopw [17] (fun u wr => ∃ k : Nat, k ≤ n ∧ u = .int .i64 k ∧ Hid (∀ i, i < k → (ordX (c i) (c' i) == 0) = true) ∧ Below w.heap.size w wr) (fun u _ => n - (intOf u).toNat)
  case atStart => exact ⟨0, Nat.zero_le _, rfl, fun i hi => absurd hi (Nat.not_lt_zero _), Below.refl _ _⟩
  case round =>
    obtain ⟨k, hk, rfl, HK, hB⟩ := hrel
    by_cases hkn : k < n
    · obtain ⟨b, o, rfl, hn1⟩ := H1.out k hkn
      obtain ⟨b', o', rfl, hn2⟩ := H2.out k hkn
      obtain ⟨A, hA, hB2, hs, hm1, hm2⟩ := boxX_two (c k) (c' k) wr
      have hlt := hn1.lt
      have hlt2 := hn2.lt
      have q2 : Node (wr.alloc (.cells (c k).cells 32)) b' (o' + k * 7) (c' k) := (hn2.later hB).later ((Below.refl _ _).alloc (Nat.le_refl _) _)
      obtain ⟨d0, d1, d2, d3, d4, d5, d6⟩ := hn1.later hB
      obtain ⟨f0, f1, f2, f3, f4, f5, f6⟩ := q2
      obtain ⟨g0, g1, g2, g3, g4, g5, g6⟩ := hm1.at0
      obtain ⟨i0, i1, i2, i3, i4, i5, i6⟩ := hm2.at0
      have hc := HC.out k hkn A (hB.trans (hB2.mono hB.size))
      have HKN : Hid (k < n) := hkn
      have HB : Hid (Below w.heap.size w A) := hB.trans (hB2.mono hB.size)
      obtain ⟨q, hq⟩ : ∃ q, q = (ordX (c k) (c' k) == 0) := ⟨_, rfl⟩
      rw [← hq] at hc
      have HE : Hid (q = (ordX (c k) (c' k) == 0)) := hq
      clear hq hn1 hn2 hm1 hm2 hB2 hs hB
      go_wp2_with (go_at_call 37; refine hc.mono ?_; clear hc; rintro e w2 ⟨rfl, hB2⟩; cases q)
      all_goals go_wp2
      all_goals first
        | (go_ret; exact ⟨by rw [HF.out k HKN.out HE.out.symm]; rfl, HB.out.trans (hB2.mono HB.out.size)⟩)
        | (go_roundw
           case rel =>
             refine ⟨k + 1, HKN.out, by go_num, fun i hi => ?_, HB.out.trans (hB2.mono HB.out.size)⟩
             by_cases e : i = k
             · rw [e]; exact HE.out.symm
             · exact HK.out i (by omega)
           case measure => have := HKN.out; simp [intOf]; omega)
    · obtain rfl : k = n := by omega
      go_wp2
      go_ret
      exact ⟨by rw [HT.out HK.out]; rfl, hB⟩
set_option maxRecDepth 100000 in
set_option maxHeartbeats 4000000 in
theorem equalI_no (a a' : Option Addr) (n m cap cap' : Nat) (w : World) (hne : ¬ n = m) :
    Calls Tryz.prog 38 #[.slice a n cap, .slice a' m cap'] w fun e w' => e = .returned (.bool false) ∧ Below w.heap.size w w' := by
  have t := ne_no (show ¬ ((n : Nat) : Int) = ((m : Nat) : Int) by omega)
  clear hne
  go_enter Tryz.func38, Tryz.ntmps38
  go_wp2
  go_ret
  exact ⟨rfl, Below.refl _ _⟩
set_option maxRecDepth 100000 in
set_option maxHeartbeats 4000000 in
theorem equalI_any (a a' : Option Addr) (n cap cap' : Nat) (V U : Nat → It) (w : World) (H : Its w a n V) (H' : Its w a' n U) (hn : n ≤ 9223372036854775807) :
    Calls Tryz.prog 38 #[.slice a n cap, .slice a' n cap'] w fun e w' => e = .returned (.bool (allN (fun i => sameI (V i) (U i)) n)) ∧ Below w.heap.size w w' := by
  obtain ⟨x, hx⟩ : ∃ x, x = allN (fun i => sameI (V i) (U i)) n := ⟨_, rfl⟩
  have HF0 : Hid (∀ i, i < n → sameI (V i) (U i) = false → x = false) := fun i hi h => hx.trans (allN_false hi h)
  have HT : Hid ((∀ i, i < n → sameI (V i) (U i) = true) → x = true) := fun h => hx.trans (allN_true.2 h)
  rw [← hx]
  have HF : Hid (Its w a n V) := H
  have HG : Hid (Its w a' n U) := H'
  clear H H' hx
  go_enter Tryz.func38, Tryz.ntmps38
  go_wp2
  go_loopw [13] (fun u wr => ∃ k : Nat, k ≤ n ∧ u = .int .i64 k ∧ Hid (∀ i, i < k → sameI (V i) (U i) = true) ∧ Below w.heap.size w wr) (fun u _ => n - (intOf u).toNat)
  case atStart => exact ⟨0, Nat.zero_le _, rfl, fun i hi => absurd hi (Nat.not_lt_zero _), Below.refl _ _⟩
  case round =>
    obtain ⟨k, hk, rfl, HK, hB⟩ := hrel
    by_cases hkn : k < n
    · obtain ⟨b, off, rfl, f0, f1, f2, f3⟩ := (HF.out.later hB) k hkn
      obtain ⟨b', off', rfl, g0, g1, g2, g3⟩ := (HG.out.later hB) k hkn
      have HKN : Hid (k < n) := hkn
      have hcm := neqI (V k) (U k)
      obtain ⟨z, hz⟩ : ∃ z, z = sameI (V k) (U k) := ⟨_, rfl⟩
      rw [← hz] at hcm
      have HE : Hid (z = sameI (V k) (U k)) := hz
      clear hz
      go_wp2_with fail
      cases z
      · simp only [Bool.not_false] at hcm
        go_quiet (fail)
        go_wp2
        try rw [Exit.noGoto_ret]
        go_ret
        exact ⟨by rw [HF0.out k HKN.out HE.out.symm]; rfl, bd hB _⟩
      · simp only [Bool.not_true] at hcm
        go_quiet (fail)
        go_wp2
        go_roundw
        case rel =>
          refine ⟨k + 1, HKN.out, by go_num, fun i hi => ?_, bd hB _⟩
          by_cases e : i = k
          · rw [e]; exact HE.out.symm
          · exact HK.out i (by omega)
        case measure => have := HKN.out; simp [intOf]; omega
    · obtain rfl : k = n := by omega
      go_wp2
      go_ret
      exact ⟨by rw [HT.out HK.out]; rfl, hB⟩
theorem sameQ_parts (q r : Qy) : sameQ q r = (decide (q.key = r.key) && (decide (q.mode = r.mode) && (decide (q.win = r.win) && (sameP q.p r.p && ((decide (q.n = r.n) && allN (fun i => ordX (q.c i) (r.c i) == 0) q.n) && (decide (q.m = r.m) && allN (fun i => sameI (q.it i) (r.it i)) q.m)))))) := by
  unfold sameQ
  generalize sameP q.p r.p = b1
  generalize decide (q.key = r.key) = b2
  generalize decide (q.mode = r.mode) = b3
  generalize decide (q.win = r.win) = b4
  generalize decide (q.n = r.n) = b5
  generalize decide (q.m = r.m) = b6
  generalize allN (fun i => ordX (q.c i) (r.c i) == 0) q.n = b7
  generalize allN (fun i => sameI (q.it i) (r.it i)) q.m = b8
  cases b1 <;> cases b2 <;> cases b3 <;> cases b4 <;> cases b5 <;> cases b6 <;> cases b7 <;> cases b8 <;> rfl
set_option maxRecDepth 100000 in
set_option maxHeartbeats 8000000 in
theorem sameQ_any (q r : Qy) (w : World) (hQ : IsQ w q) (hR : IsQ w r) : Calls Tryz.prog 12 #[q.val, r.val] w fun e w' => e = .returned (.bool (sameQ q r)) ∧ Below w.heap.size w w' := by
  obtain ⟨A, hA, hB, hs, hn, hm⟩ := boxQ_two q r w
  have C1 : Hid (Calls Tryz.prog 35 #[q.p.val, r.p.val] A fun e w' => e = .returned (.bool (sameP q.p r.p)) ∧ Below A.heap.size A w') := samePat_any q.p r.p A (hQ.p.later hB) (hR.p.later hB)
  have C2 : Hid (∀ d, Below A.heap.size A d → Calls Tryz.prog 36 #[.slice q.a q.n q.cap, .slice r.a r.n r.cap, .func (.func 37) #[] #[]] d fun e w' => e = .returned (.bool (decide (q.n = r.n) && allN (fun i => ordX (q.c i) (r.c i) == 0) q.n)) ∧ Below d.heap.size d w') := fun d hd => by
    have hw := hB.trans (hd.mono (by omega))
    by_cases e : q.n = r.n
    · rw [decide_eq_true e, Bool.true_and, ← e]
      refine equalX_any q.a r.a q.n q.cap r.cap q.c r.c d hQ.x.len (fun i hi => ?_) (fun i hi => ?_) fun i hi W hW => ?_
      · obtain ⟨b, o, ea, h1, _⟩ := (hQ.x.later hw).part (x := q.x) hi
        exact ⟨b, o, ea, h1⟩
      · obtain ⟨b, o, ea, h1, _⟩ := (hR.x.later hw).part (x := r.x) (show i < r.n from e ▸ hi)
        exact ⟨b, o, ea, h1⟩
      · obtain ⟨_, _, _, _, h1⟩ := (hQ.x.later (hw.trans (hW.mono hw.size))).part (x := q.x) hi
        obtain ⟨_, _, _, _, h2⟩ := (hR.x.later (hw.trans (hW.mono hw.size))).part (x := r.x) (show i < r.n from e ▸ hi)
        exact sameX_any _ _ W h1 h2
    · rw [decide_eq_false e, Bool.false_and]
      exact equalX_no q.a r.a q.n r.n q.cap r.cap d e
  have C3 : Hid (∀ d, Below A.heap.size A d → Calls Tryz.prog 38 #[.slice q.ia q.m q.icap, .slice r.ia r.m r.icap] d fun e w' => e = .returned (.bool (decide (q.m = r.m) && allN (fun i => sameI (q.it i) (r.it i)) q.m)) ∧ Below d.heap.size d w') := fun d hd => by
    have hw := hB.trans (hd.mono (by omega))
    by_cases e : q.m = r.m
    · rw [decide_eq_true e, Bool.true_and, ← e]
      exact equalI_any q.ia r.ia q.m q.icap r.icap q.it r.it d (hQ.it.later hw) (fun i hi => hR.it.later hw i (e ▸ hi)) (by have := hQ.len; omega)
    · rw [decide_eq_false e, Bool.false_and]
      exact equalI_no q.ia r.ia q.m r.m q.icap r.icap d e
  have HR := sameQ_parts q r
  generalize (decide (q.n = r.n) && allN (fun i => ordX (q.c i) (r.c i) == 0) q.n) = b2 at HR C2
  generalize (decide (q.m = r.m) && allN (fun i => sameI (q.it i) (r.it i)) q.m) = b3 at HR C3
  generalize sameP q.p r.p = b1 at HR C1
  obtain ⟨v, hv⟩ : ∃ v, v = sameQ q r := ⟨_, rfl⟩
  rw [← hv] at HR ⊢
  have HN : Hid (QB A w.heap.size q) := hn
  have HM : Hid (QB A (w.heap.size + 1) r) := hm
  have HB : Hid (Below w.heap.size w A) := hB
  obtain ⟨⟨k0, k1, k2, k3, k4, k5⟩, k6, k7, k8, k9, k10⟩ := hn.at0
  obtain ⟨⟨l0, l1, l2, l3, l4, l5⟩, l6, l7, l8, l9, l10⟩ := hm.at0
  clear hQ hR hB hn hm hv
  by_cases e1 : q.key = r.key
  · have t1 := str_yes e1
    by_cases e2 : q.mode = r.mode
    · have t2 : (q.mode == r.mode) = true := by simpa using e2
      by_cases e3 : q.win = r.win
      · have t3 : (q.win == r.win) = true := by simpa using e3
        have HR' : Hid (v = (b1 && (b2 && b3))) := by show _ = _; rw [HR, decide_eq_true e1, decide_eq_true e2, decide_eq_true e3]; simp
        clear e1 e2 e3 HR
        go_enter Tryz.func12, Tryz.ntmps12
        go_wp2_with (first
          | (go_at_call 35; refine C1.out.mono ?_; rintro e w1 ⟨rfl, hB1⟩; obtain ⟨-, p6, -, -, -, p10⟩ := (HN.out.later hB1).at0; obtain ⟨-, r6, -, -, -, r10⟩ := (HM.out.later hB1).at0; cases b1)
          | (go_at_call 36; refine (C2.out _ hB1).mono ?_; rintro e w2 ⟨rfl, hB2⟩; obtain ⟨-, -, -, -, -, s10⟩ := ((HN.out.later hB1).later hB2).at0; obtain ⟨-, -, -, -, -, u10⟩ := ((HM.out.later hB1).later hB2).at0; cases b2)
          | (go_at_call 38; refine (C3.out _ (hB1.trans (hB2.mono hB1.size))).mono ?_; rintro e w3 ⟨rfl, hB3⟩))
        all_goals go_ret
        all_goals first
          | exact ⟨by rw [HR'.out]; rfl, HB.out.trans ((hB1.trans ((hB2.trans (hB3.mono hB2.size)).mono hB1.size)).mono HB.out.size)⟩
          | exact ⟨by rw [HR'.out]; rfl, HB.out.trans ((hB1.trans (hB2.mono hB1.size)).mono HB.out.size)⟩
          | exact ⟨by rw [HR'.out]; rfl, HB.out.trans (hB1.mono HB.out.size)⟩
      · have t3 : (q.win == r.win) = false := by simpa using e3
        have HR' : Hid (v = false) := by show _ = _; rw [HR, decide_eq_true e1, decide_eq_true e2, decide_eq_false e3]; simp
        clear e1 e2 e3 HR C1 C2 C3
        go_enter Tryz.func12, Tryz.ntmps12
        go_wp2
        go_ret
        exact ⟨by rw [HR'.out]; rfl, HB.out⟩
    · have t2 : (q.mode == r.mode) = false := by simpa using e2
      have HR' : Hid (v = false) := by show _ = _; rw [HR, decide_eq_true e1, decide_eq_false e2]; simp
      clear e1 e2 HR C1 C2 C3
      go_enter Tryz.func12, Tryz.ntmps12
      go_wp2
      go_ret
      exact ⟨by rw [HR'.out]; rfl, HB.out⟩
  · have t1 := str_not e1
    have HR' : Hid (v = false) := by show _ = _; rw [HR, decide_eq_false e1]; simp
    clear e1 HR C1 C2 C3
    go_enter Tryz.func12, Tryz.ntmps12
    go_wp2
    go_ret
    exact ⟨by rw [HR'.out]; rfl, HB.out⟩
end Go.Proofs.YtinnhaojmnmliaaGreat
namespace Go.Proofs.YtinnhaojmnmliaaGreat
open Go.RowKit

set_option maxRecDepth 100000 in
set_option maxHeartbeats 8000000 in
theorem refSameQ_no (q r : Qy) (w : World) (hQ : IsQ w q) (hR : IsQ w r) (h : ¬ (sameP q.p r.p = true ∧ q.key = r.key ∧ q.mode = r.mode ∧ q.win = r.win ∧ q.n = r.n ∧ q.m = r.m)) :
    Calls Tryz.prog 13 #[q.val, r.val] w fun e w' => e = .returned (.bool false) ∧ Below w.heap.size w w' := by
  have C1 : Hid (∀ d, Below w.heap.size w d → Calls Tryz.prog 39 #[q.p.val, r.p.val] d fun e w' => e = .returned (.bool (sameP q.p r.p)) ∧ Below d.heap.size d w') := fun d h => refSameP_any q.p r.p d (hQ.p.later h) (hR.p.later h)
  obtain ⟨⟨k0, k1, k2, k3, k4, k5⟩, -⟩ := (boxQ_first q r w).at0
  obtain ⟨⟨l0, l1, l2, l3, l4, l5⟩, -⟩ := (boxQ_second q r w).at0
  clear hQ hR
  by_cases sm : sameP q.p r.p = true
  · have hsm : sameP q.p r.p = true := sm
    by_cases e1 : q.key = r.key
    · have te1 := str_yes e1
      by_cases e2 : q.mode = r.mode
      · have te2 := ne_yes e2
        by_cases e3 : q.win = r.win
        · have te3 := ne_yes e3
          by_cases e4 : q.n = r.n
          · have te4 := ne_yes (show ((q.n : Nat) : Int) = ((r.n : Nat) : Int) by rw [e4])
            by_cases e5 : q.m = r.m
            · have te5 := ne_yes (show ((q.m : Nat) : Int) = ((r.m : Nat) : Int) by rw [e5])
              exact absurd ⟨sm, e1, e2, e3, e4, e5⟩ h
            · have te5 := ne_no (show ¬ ((q.m : Nat) : Int) = ((r.m : Nat) : Int) from fun q => e5 (by omega))
              rw [hsm] at C1
              clear h sm e1 e2 e3 e4 e5 hsm
              go_enter Tryz.func13, Tryz.ntmps13
              go_wp2_with (first | (go_at_call 39; refine (C1.out _ (boxQ_below q r w)).mono ?_; rintro e w1 ⟨rfl, hB1⟩; obtain ⟨⟨a0, a1, a2, a3, a4, a5⟩, a6, a7, a8, a9, a10⟩ := ((boxQ_first q r w).later hB1).at0; obtain ⟨⟨b0, b1, b2, b3, b4, b5⟩, b6, b7, b8, b9, b10⟩ := ((boxQ_second q r w).later hB1).at0))
              go_ret
              exact ⟨rfl, (boxQ_below q r w).trans (hB1.mono (boxQ_below q r w).size)⟩
          · have te4 := ne_no (show ¬ ((q.n : Nat) : Int) = ((r.n : Nat) : Int) from fun q => e4 (by omega))
            rw [hsm] at C1
            clear h sm e1 e2 e3 e4 hsm
            go_enter Tryz.func13, Tryz.ntmps13
            go_wp2_with (first | (go_at_call 39; refine (C1.out _ (boxQ_below q r w)).mono ?_; rintro e w1 ⟨rfl, hB1⟩; obtain ⟨⟨a0, a1, a2, a3, a4, a5⟩, a6, a7, a8, a9, a10⟩ := ((boxQ_first q r w).later hB1).at0; obtain ⟨⟨b0, b1, b2, b3, b4, b5⟩, b6, b7, b8, b9, b10⟩ := ((boxQ_second q r w).later hB1).at0))
            go_ret
            exact ⟨rfl, (boxQ_below q r w).trans (hB1.mono (boxQ_below q r w).size)⟩
        · have te3 := ne_no e3
          rw [hsm] at C1
          clear h sm e1 e2 e3 hsm
          go_enter Tryz.func13, Tryz.ntmps13
          go_wp2_with (first | (go_at_call 39; refine (C1.out _ (boxQ_below q r w)).mono ?_; rintro e w1 ⟨rfl, hB1⟩; obtain ⟨⟨a0, a1, a2, a3, a4, a5⟩, a6, a7, a8, a9, a10⟩ := ((boxQ_first q r w).later hB1).at0; obtain ⟨⟨b0, b1, b2, b3, b4, b5⟩, b6, b7, b8, b9, b10⟩ := ((boxQ_second q r w).later hB1).at0))
          go_ret
          exact ⟨rfl, (boxQ_below q r w).trans (hB1.mono (boxQ_below q r w).size)⟩
      · have te2 := ne_no e2
        rw [hsm] at C1
        clear h sm e1 e2 hsm
        go_enter Tryz.func13, Tryz.ntmps13
        go_wp2_with (first | (go_at_call 39; refine (C1.out _ (boxQ_below q r w)).mono ?_; rintro e w1 ⟨rfl, hB1⟩; obtain ⟨⟨a0, a1, a2, a3, a4, a5⟩, a6, a7, a8, a9, a10⟩ := ((boxQ_first q r w).later hB1).at0; obtain ⟨⟨b0, b1, b2, b3, b4, b5⟩, b6, b7, b8, b9, b10⟩ := ((boxQ_second q r w).later hB1).at0))
        go_ret
        exact ⟨rfl, (boxQ_below q r w).trans (hB1.mono (boxQ_below q r w).size)⟩
    · have te1 := str_not e1
      rw [hsm] at C1
      clear h sm e1 hsm
      go_enter Tryz.func13, Tryz.ntmps13
      go_wp2_with (first | (go_at_call 39; refine (C1.out _ (boxQ_below q r w)).mono ?_; rintro e w1 ⟨rfl, hB1⟩; obtain ⟨⟨a0, a1, a2, a3, a4, a5⟩, a6, a7, a8, a9, a10⟩ := ((boxQ_first q r w).later hB1).at0; obtain ⟨⟨b0, b1, b2, b3, b4, b5⟩, b6, b7, b8, b9, b10⟩ := ((boxQ_second q r w).later hB1).at0))
      go_ret
      exact ⟨rfl, (boxQ_below q r w).trans (hB1.mono (boxQ_below q r w).size)⟩
  · have hsm : sameP q.p r.p = false := by simpa using sm
    rw [hsm] at C1
    clear h sm hsm
    go_enter Tryz.func13, Tryz.ntmps13
    go_wp2_with (first | (go_at_call 39; refine (C1.out _ (boxQ_below q r w)).mono ?_; rintro e w1 ⟨rfl, hB1⟩; obtain ⟨⟨a0, a1, a2, a3, a4, a5⟩, a6, a7, a8, a9, a10⟩ := ((boxQ_first q r w).later hB1).at0; obtain ⟨⟨b0, b1, b2, b3, b4, b5⟩, b6, b7, b8, b9, b10⟩ := ((boxQ_second q r w).later hB1).at0))
    go_ret
    exact ⟨rfl, (boxQ_below q r w).trans (hB1.mono (boxQ_below q r w).size)⟩
set_option maxRecDepth 100000 in
set_option maxHeartbeats 8000000 in
theorem refSameQ_row (q r : Qy) (w : World) (hQ : IsQ w q) (hR : IsQ w r) (e0 : sameP q.p r.p = true) (e1 : q.key = r.key) (e2 : q.mode = r.mode) (e3 : q.win = r.win) (e4 : q.n = r.n) (e5 : q.m = r.m) :
    Calls Tryz.prog 13 #[q.val, r.val] w fun e w' => e = .returned (.bool (sameQ q r)) ∧ Below w.heap.size w w' := by
  obtain ⟨v, hv⟩ : ∃ v, v = sameQ q r := ⟨_, rfl⟩
  have HF : Hid (∀ i, i < q.n → ¬ ordX (q.c i) (r.c i) = 0 → v = false) := fun i hi h => by
    rw [hv, Bool.eq_false_iff]
    exact fun e => h (((sameQ_iff q r).1 e).2.2.2.2.2.2.1 i hi)
  have HF2 : Hid (∀ i, i < q.m → sameI (q.it i) (r.it i) = false → v = false) := fun i hi h => by
    rw [hv, Bool.eq_false_iff]
    intro e
    rw [(sameI_iff _ _).2 (((sameQ_iff q r).1 e).2.2.2.2.2.2.2 i hi)] at h
    cases h
  have HT : Hid ((∀ i, i < q.n → ordX (q.c i) (r.c i) = 0) → (∀ i, i < q.m → sameI (q.it i) (r.it i) = true) → v = true) := fun h1 h2 => by
    rw [hv]
    exact (sameQ_iff q r).2 ⟨e0, e1, e2, e3, e4, e5, h1, fun i hi => (sameI_iff _ _).1 (h2 i hi)⟩
  rw [← hv]
  obtain ⟨A, hA, hB, hs, hn, hm⟩ := boxQ_two q r w
  have C1 : Hid (Calls Tryz.prog 39 #[q.p.val, r.p.val] A fun e w' => e = .returned (.bool true) ∧ Below A.heap.size A w') := by
    have := refSameP_any q.p r.p A (hQ.p.later hB) (hR.p.later hB)
    rw [e0] at this
    exact this
  have HI : Hid (∀ i, i < q.n → ∀ W, Below w.heap.size w W → Calls Tryz.prog 21 #[(q.c i).val, (r.c i).val] W fun e w' => e = .returned (.bool (ordX (q.c i) (r.c i) == 0)) ∧ Below W.heap.size W w') := fun i hi W hW => by
    obtain ⟨_, _, _, _, h1⟩ := (hQ.x.later hW).part (x := q.x) hi
    obtain ⟨_, _, _, _, h2⟩ := (hR.x.later hW).part (x := r.x) (show i < r.n from e4 ▸ hi)
    exact refSameX_any _ _ W h1 h2
  have HX : Hid (IsQ w q) := hQ
  have HY : Hid (IsQ w r) := hR
  have HB : Hid (Below w.heap.size w A) := hB
  have HN : Hid (QB A w.heap.size q) := hn
  have HM : Hid (QB A (w.heap.size + 1) r) := hm
  have HS : Hid (A.heap.size = w.heap.size + 2) := hs
  have H4 : Hid (q.n = r.n) := e4
  have H5 : Hid (q.m = r.m) := e5
  have t1 := str_yes e1
  have t2 := ne_yes e2
  have t3 := ne_yes e3
  have t4 := ne_yes (show ((q.n : Nat) : Int) = ((r.n : Nat) : Int) by rw [e4])
  have t5 := ne_yes (show ((q.m : Nat) : Int) = ((r.m : Nat) : Int) by rw [e5])
  obtain ⟨⟨k0, k1, k2, k3, k4, k5⟩, -⟩ := hn.at0
  obtain ⟨⟨l0, l1, l2, l3, l4, l5⟩, -⟩ := hm.at0
  have hlen : q.n ≤ 9223372036854775807 := hQ.x.len
  have hlem : q.m ≤ 9223372036854775807 := by have := hQ.len; omega
  clear hQ hR hv hB hn hm hs e0 e1 e2 e3 e4 e5
  go_enter Tryz.func13, Tryz.ntmps13
  go_upto_region 1 with fail
  clear hA
  go_wp2_with (first | (go_at_call 39; refine C1.out.mono ?_; rintro e w1 ⟨rfl, hB1⟩; obtain ⟨⟨a0, a1, a2, a3, a4, a5⟩, a6, a7, a8, a9, a10⟩ := (HN.out.later hB1).at0; obtain ⟨⟨b0, b1, b2, b3, b4, b5⟩, b6, b7, b8, b9, b10⟩ := (HM.out.later hB1).at0))
  have hw1 : Below w.heap.size w w1 := HB.out.trans (hB1.mono HB.out.size)
  clear k0 k1 k2 k3 k4 k5 l0 l1 l2 l3 l4 l5 t1 t2 t3 t4 t5 a0 a1 a2 a3 a4 a5 b0 b1 b2 b3 b4 b5 a6 a7 a8 a9 a10 b6 b7 b8 b9 b10 C1
  have HN1 : Hid (QB w1 w.heap.size q) := HN.out.later hB1
  have HM1 : Hid (QB w1 (w.heap.size + 1) r) := HM.out.later hB1
  have hs1 : w.heap.size + 2 ≤ w1.heap.size := by have := HS.out; have := hB1.size; omega
  clear HN HM HB HS hB1
  go_loopw [5] (fun u wr => ∃ k : Nat, k ≤ q.n ∧ u = .int .i64 k ∧ Hid (∀ i, i < k → ordX (q.c i) (r.c i) = 0) ∧ Below w1.heap.size w1 wr) (fun u _ => q.n - (intOf u).toNat)
  case atStart => exact ⟨0, Nat.zero_le _, rfl, fun i hi => absurd hi (Nat.not_lt_zero _), Below.refl _ _⟩
  case round =>
    obtain ⟨k, hk, rfl, HK, hB⟩ := hrel
    have hw := hw1.trans (hB.mono (by omega))
    obtain ⟨-, c6, -⟩ := (HN1.out.later hB).at0
    obtain ⟨-, g6, -⟩ := (HM1.out.later hB).at0
    by_cases hkn : k < q.n
    · have hkm : k < r.n := by have := H4.out; omega
      obtain ⟨b, o, ea, hn, -⟩ := (HX.out.x.later hw).part (x := q.x) hkn
      obtain ⟨b', o', ea', hn', -⟩ := (HY.out.x.later hw).part (x := r.x) hkm
      have ea1 : q.a = some ⟨b, o, none⟩ := ea
      have ea2 : r.a = some ⟨b', o', none⟩ := ea'
      rw [ea1] at c6
      rw [ea2] at g6
      have hn1 : Node wr b (o + k * 7) (q.c k) := hn
      have hn2 : Node wr b' (o' + k * 7) (r.c k) := hn'
      obtain ⟨d0, d1, d2, d3, d4, d5, d6⟩ := hn1
      obtain ⟨f0, f1, f2, f3, f4, f5, f6⟩ := hn2
      have hc := HI.out k hkn wr.drew (hw.trans (Below.refl _ _).drew)
      have HKN : Hid (k < q.n) := hkn
      have HQ : Hid (Below w.heap.size w wr) := hw
      obtain ⟨z, hz⟩ : ∃ z, z = (ordX (q.c k) (r.c k) == 0) := ⟨_, rfl⟩
      rw [← hz] at hc
      have HE : Hid (z = (ordX (q.c k) (r.c k) == 0)) := hz
      clear hw hz ea ea' ea1 ea2 hn hn'
      go_wp2
      go_region_with (go_at_call 21; refine hc.mono ?_; clear hc; rintro e w2 ⟨rfl, hB2⟩)
      all_goals cases z
      all_goals go_wp2
      all_goals first
        | (go_ret; exact ⟨by rw [HF.out k HKN.out (fun e => by have := HE.out; rw [e] at this; cases this)]; rfl, HQ.out.trans ((Below.refl _ _).drew.trans (hB2.mono (by have := HQ.out.size; exact this)))⟩)
        | (go_roundw
           case rel =>
             refine ⟨k + 1, HKN.out, by go_num, fun i hi => ?_, hB.trans ((Below.refl _ _).drew.trans (hB2.mono hB.size))⟩
             by_cases e : i = k
             · rw [e]; simpa using HE.out.symm
             · exact HK.out i (by omega)
           case measure => have := HKN.out; simp [intOf]; omega)
    · obtain rfl : k = q.n := by omega
      go_wp2_with fail
      have hB0 := hB
      have hw0 := hw
      have HKX : Hid (∀ i, i < q.n → ordX (q.c i) (r.c i) = 0) := HK.out
      clear HK HI hB hw hk hkn
      obtain ⟨w5, hw5⟩ : ∃ w5, w5 = wr := ⟨_, rfl⟩
      rw [← hw5] at hB0 hw0 ⊢
      clear c6 g6 hw5
      go_loopw [6] (fun u wr => ∃ k : Nat, k ≤ q.m ∧ u = .int .i64 k ∧ Hid (∀ i, i < k → sameI (q.it i) (r.it i) = true) ∧ Below w5.heap.size w5 wr) (fun u _ => q.m - (intOf u).toNat)
      case atStart => exact ⟨0, Nat.zero_le _, rfl, fun i hi => absurd hi (Nat.not_lt_zero _), Below.refl _ _⟩
      case round =>
        obtain ⟨k, hk, rfl, HK, hB⟩ := hrel
        have hw := hw0.trans (hB.mono hw0.size)
        have hbb := hB0.trans (hB.mono hB0.size)
        obtain ⟨-, -, -, -, -, c10⟩ := (HN1.out.later hbb).at0
        obtain ⟨-, -, -, -, -, g10⟩ := (HM1.out.later hbb).at0
        by_cases hkn : k < q.m
        · have hkm : k < r.m := by have := H5.out; omega
          obtain ⟨b, o, ea, d0, d1, d2, d3⟩ := (HX.out.it.later hw) k hkn
          obtain ⟨b', o', ea', f0, f1, f2, f3⟩ := (HY.out.it.later hw) k hkm
          rw [ea] at c10
          rw [ea'] at g10
          have HKN : Hid (k < q.m) := hkn
          have HQ : Hid (Below w.heap.size w wr) := hw
          have hcm := neqI (q.it k) (r.it k)
          obtain ⟨z, hz⟩ : ∃ z, z = sameI (q.it k) (r.it k) := ⟨_, rfl⟩
          rw [← hz] at hcm
          have HE : Hid (z = sameI (q.it k) (r.it k)) := hz
          clear hw hz ea ea'
          go_wp2_with fail
          cases z
          · simp only [Bool.not_false] at hcm
            go_quiet (fail)
            go_wp2
            try rw [Exit.noGoto_ret]
            go_ret
            exact ⟨by rw [HF2.out k HKN.out HE.out.symm]; rfl, bd HQ.out _⟩
          · simp only [Bool.not_true] at hcm
            go_quiet (fail)
            go_wp2
            go_roundw
            case rel =>
              refine ⟨k + 1, HKN.out, by go_num, fun i hi => ?_, bd hB _⟩
              by_cases e : i = k
              · rw [e]; exact HE.out.symm
              · exact HK.out i (by omega)
            case measure => have := HKN.out; simp [intOf]; omega
        · obtain rfl : k = q.m := by omega
          go_wp2
          go_ret
          exact ⟨by rw [HT.out HKX.out HK.out]; rfl, hw⟩
theorem refSameQ_any (q r : Qy) (w : World) (hQ : IsQ w q) (hR : IsQ w r) : Calls Tryz.prog 13 #[q.val, r.val] w fun e w' => e = .returned (.bool (sameQ q r)) ∧ Below w.heap.size w w' := by
  by_cases h : sameP q.p r.p = true ∧ q.key = r.key ∧ q.mode = r.mode ∧ q.win = r.win ∧ q.n = r.n ∧ q.m = r.m
  · obtain ⟨h0, h1, h2, h3, h4, h5⟩ := h
    exact refSameQ_row q r w hQ hR h0 h1 h2 h3 h4 h5
  · have : sameQ q r = false := by
      rw [Bool.eq_false_iff]
      intro e
      obtain ⟨h0, h1, h2, h3, h4, h5, _⟩ := (sameQ_iff q r).1 e
      exact h ⟨h0, h1, h2, h3, h4, h5⟩
    rw [this]
    exact refSameQ_no q r w hQ hR h
end Go.Proofs.YtinnhaojmnmliaaGreat
