/-
  The document's Same of queries.
  pat.Size.
  query.Where; the document's Light of queries; law13's awake.
-/
import Derived.Test.YtinnhaojmnmliaaCQryRename
import Derived.Test.YtinnhaojmnmliaaCExprRefOrd
import Derived.Test.YtinnhaojmnmliaaCPatRefSame
import Derived.Test.YtinnhaojmnmliaaCPatNodes
import Derived.Test.YtinnhaojmnmliaaCRefVar
namespace Go.Proofs.Ytinnhaojmnmliaa
open Go.RowKit

/-- The same items? -/
def sameI (x y : It) : Bool := decide (x.nm = y.nm) && (decide (x.k = y.k) && (decide (x.s = y.s) && decide (x.f = y.f)))
theorem sameI_iff (x y : It) : sameI x y = true ↔ x = y := by
  cases x
  cases y
  simp [sameI]
theorem neqI (x y : It) (W : World) : (binOp .neq 73 x.val y.val).run Try.prog W = .ok (.bool (!sameI x y)) W := by
  simp [go_sem, same_str, sameI]
  by_cases h1 : x.nm = y.nm <;> by_cases h2 : x.k = y.k <;> by_cases h3 : x.s = y.s <;> by_cases h4 : x.f = y.f <;> simp [h1, h2, h3, h4]
/-- The same queries? -/
def sameQ (q r : Qy) : Bool := sameP q.p r.p && (decide (q.key = r.key) && (decide (q.mode = r.mode) && (decide (q.win = r.win) && (decide (q.n = r.n) && (decide (q.m = r.m) && (allN (fun i => ordX (q.c i) (r.c i) == 0) q.n && allN (fun i => sameI (q.it i) (r.it i)) q.m))))))
theorem sameQ_iff (q r : Qy) : sameQ q r = true ↔ Sm q.p r.p ∧ q.key = r.key ∧ q.mode = r.mode ∧ q.win = r.win ∧ q.n = r.n ∧ q.m = r.m ∧ (∀ i, i < q.n → ordX (q.c i) (r.c i) = 0) ∧ ∀ i, i < q.m → q.it i = r.it i := by
  simp only [sameQ, Bool.and_eq_true, decide_eq_true_eq, allN_true, beq_iff_eq, sameI_iff, Sm]
theorem boxQ_two (q r : Qy) (w : World) : ∃ A, (w.alloc (.cells q.cells 43)).alloc (.cells r.cells 43) = A ∧ Below w.heap.size w A ∧ A.heap.size = w.heap.size + 2 ∧ QB A w.heap.size q ∧ QB A (w.heap.size + 1) r :=
  ⟨_, rfl, ((Below.refl _ w).alloc (Nat.le_refl _) _).alloc (by simp) _, by simp, (alloc_old (by simp)).trans (QB.new w q), by
    have := QB.new (w.alloc (.cells q.cells 43)) r
    rw [World.size_alloc] at this
    exact this⟩
theorem boxQ_below (q r : Qy) (w : World) : Below w.heap.size w ((w.alloc (.cells q.cells 43)).alloc (.cells r.cells 43)) := ((Below.refl _ w).alloc (Nat.le_refl _) _).alloc (by simp) _
theorem boxQ_first (q r : Qy) (w : World) : QB ((w.alloc (.cells q.cells 43)).alloc (.cells r.cells 43)) w.heap.size q := (alloc_old (by simp)).trans (QB.new w q)
theorem boxQ_second (q r : Qy) (w : World) : QB ((w.alloc (.cells q.cells 43)).alloc (.cells r.cells 43)) (w.heap.size + 1) r := by
  have := QB.new (w.alloc (.cells q.cells 43)) r
  rw [World.size_alloc] at this
  exact this
set_option maxRecDepth 100000 in
set_option maxHeartbeats 8000000 in
theorem refSameQ_no (q r : Qy) (w : World) (hQ : IsQ w q) (hR : IsQ w r) (h : ¬ (sameP q.p r.p = true ∧ q.key = r.key ∧ q.mode = r.mode ∧ q.win = r.win ∧ q.n = r.n ∧ q.m = r.m)) :
    Calls Try.prog 26 #[q.val, r.val] w fun e w' => e = .returned (.bool false) ∧ Below w.heap.size w w' := by
  have C1 : Hid (∀ d, Below w.heap.size w d → Calls Try.prog 14 #[q.p.val, r.p.val] d fun e w' => e = .returned (.bool (sameP q.p r.p)) ∧ Below d.heap.size d w') := fun d h => refSameP_any q.p r.p d (hQ.p.later h) (hR.p.later h)
  obtain ⟨⟨k0, k1, k2, k3, k4, k5⟩, -⟩ := (boxQ_first q r w).at0
  obtain ⟨⟨l0, l1, l2, l3, l4, l5⟩, -⟩ := (boxQ_second q r w).at0
  clear hQ hR
  by_cases sm : sameP q.p r.p = true
  · have hsm : sameP q.p r.p = true := sm
    by_cases e1 : q.key = r.key
    · have te1 := str_yes e1
      by_cases e2 : q.mode = r.mode
      · have te2 := ne_yes e2
        by_cases e3 : q.win = r.win
        · have te3 := ne_yes e3
          by_cases e4 : q.n = r.n
          · have te4 := ne_yes (show ((q.n : Nat) : Int) = ((r.n : Nat) : Int) by rw [e4])
            by_cases e5 : q.m = r.m
            · have te5 := ne_yes (show ((q.m : Nat) : Int) = ((r.m : Nat) : Int) by rw [e5])
              exact absurd ⟨sm, e1, e2, e3, e4, e5⟩ h
            · have te5 := ne_no (show ¬ ((q.m : Nat) : Int) = ((r.m : Nat) : Int) from fun q => e5 (by omega))
              rw [hsm] at C1
              clear h sm e1 e2 e3 e4 e5 hsm
              go_enter Try.func26, Try.ntmps26
              go_wp2_with (first | (go_at_call 14; refine (C1.out _ (boxQ_below q r w)).mono ?_; rintro e w1 ⟨rfl, hB1⟩; obtain ⟨⟨a0, a1, a2, a3, a4, a5⟩, a6, a7, a8, a9, a10⟩ := ((boxQ_first q r w).later hB1).at0; obtain ⟨⟨b0, b1, b2, b3, b4, b5⟩, b6, b7, b8, b9, b10⟩ := ((boxQ_second q r w).later hB1).at0))
              go_ret
              exact ⟨rfl, (boxQ_below q r w).trans (hB1.mono (boxQ_below q r w).size)⟩
          · have te4 := ne_no (show ¬ ((q.n : Nat) : Int) = ((r.n : Nat) : Int) from fun q => e4 (by omega))
            rw [hsm] at C1
            clear h sm e1 e2 e3 e4 hsm
            go_enter Try.func26, Try.ntmps26
            go_wp2_with (first | (go_at_call 14; refine (C1.out _ (boxQ_below q r w)).mono ?_; rintro e w1 ⟨rfl, hB1⟩; obtain ⟨⟨a0, a1, a2, a3, a4, a5⟩, a6, a7, a8, a9, a10⟩ := ((boxQ_first q r w).later hB1).at0; obtain ⟨⟨b0, b1, b2, b3, b4, b5⟩, b6, b7, b8, b9, b10⟩ := ((boxQ_second q r w).later hB1).at0))
            go_ret
            exact ⟨rfl, (boxQ_below q r w).trans (hB1.mono (boxQ_below q r w).size)⟩
        · have te3 := ne_no e3
          rw [hsm] at C1
          clear h sm e1 e2 e3 hsm
          go_enter Try.func26, Try.ntmps26
          go_wp2_with (first | (go_at_call 14; refine (C1.out _ (boxQ_below q r w)).mono ?_; rintro e w1 ⟨rfl, hB1⟩; obtain ⟨⟨a0, a1, a2, a3, a4, a5⟩, a6, a7, a8, a9, a10⟩ := ((boxQ_first q r w).later hB1).at0; obtain ⟨⟨b0, b1, b2, b3, b4, b5⟩, b6, b7, b8, b9, b10⟩ := ((boxQ_second q r w).later hB1).at0))
          go_ret
          exact ⟨rfl, (boxQ_below q r w).trans (hB1.mono (boxQ_below q r w).size)⟩
      · have te2 := ne_no e2
        rw [hsm] at C1
        clear h sm e1 e2 hsm
        go_enter Try.func26, Try.ntmps26
        go_wp2_with (first | (go_at_call 14; refine (C1.out _ (boxQ_below q r w)).mono ?_; rintro e w1 ⟨rfl, hB1⟩; obtain ⟨⟨a0, a1, a2, a3, a4, a5⟩, a6, a7, a8, a9, a10⟩ := ((boxQ_first q r w).later hB1).at0; obtain ⟨⟨b0, b1, b2, b3, b4, b5⟩, b6, b7, b8, b9, b10⟩ := ((boxQ_second q r w).later hB1).at0))
        go_ret
        exact ⟨rfl, (boxQ_below q r w).trans (hB1.mono (boxQ_below q r w).size)⟩
    · have te1 := str_not e1
      rw [hsm] at C1
      clear h sm e1 hsm
      go_enter Try.func26, Try.ntmps26
      go_wp2_with (first | (go_at_call 14; refine (C1.out _ (boxQ_below q r w)).mono ?_; rintro e w1 ⟨rfl, hB1⟩; obtain ⟨⟨a0, a1, a2, a3, a4, a5⟩, a6, a7, a8, a9, a10⟩ := ((boxQ_first q r w).later hB1).at0; obtain ⟨⟨b0, b1, b2, b3, b4, b5⟩, b6, b7, b8, b9, b10⟩ := ((boxQ_second q r w).later hB1).at0))
      go_ret
      exact ⟨rfl, (boxQ_below q r w).trans (hB1.mono (boxQ_below q r w).size)⟩
  · have hsm : sameP q.p r.p = false := by simpa using sm
    rw [hsm] at C1
    clear h sm hsm
    go_enter Try.func26, Try.ntmps26
    go_wp2_with (first | (go_at_call 14; refine (C1.out _ (boxQ_below q r w)).mono ?_; rintro e w1 ⟨rfl, hB1⟩; obtain ⟨⟨a0, a1, a2, a3, a4, a5⟩, a6, a7, a8, a9, a10⟩ := ((boxQ_first q r w).later hB1).at0; obtain ⟨⟨b0, b1, b2, b3, b4, b5⟩, b6, b7, b8, b9, b10⟩ := ((boxQ_second q r w).later hB1).at0))
    go_ret
    exact ⟨rfl, (boxQ_below q r w).trans (hB1.mono (boxQ_below q r w).size)⟩
set_option maxRecDepth 100000 in
set_option maxHeartbeats 8000000 in
theorem refSameQ_row (q r : Qy) (w : World) (hQ : IsQ w q) (hR : IsQ w r) (e0 : sameP q.p r.p = true) (e1 : q.key = r.key) (e2 : q.mode = r.mode) (e3 : q.win = r.win) (e4 : q.n = r.n) (e5 : q.m = r.m) :
    Calls Try.prog 26 #[q.val, r.val] w fun e w' => e = .returned (.bool (sameQ q r)) ∧ Below w.heap.size w w' := by
  obtain ⟨v, hv⟩ : ∃ v, v = sameQ q r := ⟨_, rfl⟩
  have HF : Hid (∀ i, i < q.n → ¬ ordX (q.c i) (r.c i) = 0 → v = false) := fun i hi h => by
    rw [hv, Bool.eq_false_iff]
    exact fun e => h (((sameQ_iff q r).1 e).2.2.2.2.2.2.1 i hi)
  have HF2 : Hid (∀ i, i < q.m → sameI (q.it i) (r.it i) = false → v = false) := fun i hi h => by
    rw [hv, Bool.eq_false_iff]
    intro e
    rw [(sameI_iff _ _).2 (((sameQ_iff q r).1 e).2.2.2.2.2.2.2 i hi)] at h
    cases h
  have HT : Hid ((∀ i, i < q.n → ordX (q.c i) (r.c i) = 0) → (∀ i, i < q.m → sameI (q.it i) (r.it i) = true) → v = true) := fun h1 h2 => by
    rw [hv]
    exact (sameQ_iff q r).2 ⟨e0, e1, e2, e3, e4, e5, h1, fun i hi => (sameI_iff _ _).1 (h2 i hi)⟩
  rw [← hv]
  obtain ⟨A, hA, hB, hs, hn, hm⟩ := boxQ_two q r w
  have C1 : Hid (Calls Try.prog 14 #[q.p.val, r.p.val] A fun e w' => e = .returned (.bool true) ∧ Below A.heap.size A w') := by
    have := refSameP_any q.p r.p A (hQ.p.later hB) (hR.p.later hB)
    rw [e0] at this
    exact this
  have HI : Hid (∀ i, i < q.n → ∀ W, Below w.heap.size w W → Calls Try.prog 43 #[(q.c i).val, (r.c i).val] W fun e w' => e = .returned (.bool (ordX (q.c i) (r.c i) == 0)) ∧ Below W.heap.size W w') := fun i hi W hW => by
    obtain ⟨_, _, _, _, h1⟩ := (hQ.x.later hW).part (x := q.x) hi
    obtain ⟨_, _, _, _, h2⟩ := (hR.x.later hW).part (x := r.x) (show i < r.n from e4 ▸ hi)
    exact refSameX_any _ _ W h1 h2
  have HX : Hid (IsQ w q) := hQ
  have HY : Hid (IsQ w r) := hR
  have HB : Hid (Below w.heap.size w A) := hB
  have HN : Hid (QB A w.heap.size q) := hn
  have HM : Hid (QB A (w.heap.size + 1) r) := hm
  have HS : Hid (A.heap.size = w.heap.size + 2) := hs
  have H4 : Hid (q.n = r.n) := e4
  have H5 : Hid (q.m = r.m) := e5
  have t1 := str_yes e1
  have t2 := ne_yes e2
  have t3 := ne_yes e3
  have t4 := ne_yes (show ((q.n : Nat) : Int) = ((r.n : Nat) : Int) by rw [e4])
  have t5 := ne_yes (show ((q.m : Nat) : Int) = ((r.m : Nat) : Int) by rw [e5])
  obtain ⟨⟨k0, k1, k2, k3, k4, k5⟩, -⟩ := hn.at0
  obtain ⟨⟨l0, l1, l2, l3, l4, l5⟩, -⟩ := hm.at0
  have hlen : q.n ≤ 9223372036854775807 := hQ.x.len
  have hlem : q.m ≤ 9223372036854775807 := by have := hQ.len; omega
  clear hQ hR hv hB hn hm hs e0 e1 e2 e3 e4 e5
  go_enter Try.func26, Try.ntmps26
  go_upto_region 1 with fail
  clear hA
  go_wp2_with (first | (go_at_call 14; refine C1.out.mono ?_; rintro e w1 ⟨rfl, hB1⟩; obtain ⟨⟨a0, a1, a2, a3, a4, a5⟩, a6, a7, a8, a9, a10⟩ := (HN.out.later hB1).at0; obtain ⟨⟨b0, b1, b2, b3, b4, b5⟩, b6, b7, b8, b9, b10⟩ := (HM.out.later hB1).at0))
  have hw1 : Below w.heap.size w w1 := HB.out.trans (hB1.mono HB.out.size)
  clear k0 k1 k2 k3 k4 k5 l0 l1 l2 l3 l4 l5 t1 t2 t3 t4 t5 a0 a1 a2 a3 a4 a5 b0 b1 b2 b3 b4 b5 a6 a7 a8 a9 a10 b6 b7 b8 b9 b10 C1
  have HN1 : Hid (QB w1 w.heap.size q) := HN.out.later hB1
  have HM1 : Hid (QB w1 (w.heap.size + 1) r) := HM.out.later hB1
  have hs1 : w.heap.size + 2 ≤ w1.heap.size := by have := HS.out; have := hB1.size; omega
  clear HN HM HB HS hB1
  go_loopw [5] (fun u wr => ∃ k : Nat, k ≤ q.n ∧ u = .int .i64 k ∧ Hid (∀ i, i < k → ordX (q.c i) (r.c i) = 0) ∧ Below w1.heap.size w1 wr) (fun u _ => q.n - (intOf u).toNat)
  case atStart => exact ⟨0, Nat.zero_le _, rfl, fun i hi => absurd hi (Nat.not_lt_zero _), Below.refl _ _⟩
  case round =>
    obtain ⟨k, hk, rfl, HK, hB⟩ := hrel
    have hw := hw1.trans (hB.mono (by omega))
    obtain ⟨-, c6, -⟩ := (HN1.out.later hB).at0
    obtain ⟨-, g6, -⟩ := (HM1.out.later hB).at0
    by_cases hkn : k < q.n
    · have hkm : k < r.n := by have := H4.out; omega
      obtain ⟨b, o, ea, hn, -⟩ := (HX.out.x.later hw).part (x := q.x) hkn
      obtain ⟨b', o', ea', hn', -⟩ := (HY.out.x.later hw).part (x := r.x) hkm
      have ea1 : q.a = some ⟨b, o, none⟩ := ea
      have ea2 : r.a = some ⟨b', o', none⟩ := ea'
      rw [ea1] at c6
      rw [ea2] at g6
      have hn1 : Node wr b (o + k * 7) (q.c k) := hn
      have hn2 : Node wr b' (o' + k * 7) (r.c k) := hn'
      obtain ⟨d0, d1, d2, d3, d4, d5, d6⟩ := hn1
      obtain ⟨f0, f1, f2, f3, f4, f5, f6⟩ := hn2
      have hc := HI.out k hkn wr.drew (hw.trans (Below.refl _ _).drew)
      have HKN : Hid (k < q.n) := hkn
      have HQ : Hid (Below w.heap.size w wr) := hw
      obtain ⟨z, hz⟩ : ∃ z, z = (ordX (q.c k) (r.c k) == 0) := ⟨_, rfl⟩
      rw [← hz] at hc
      have HE : Hid (z = (ordX (q.c k) (r.c k) == 0)) := hz
      clear hw hz ea ea' ea1 ea2 hn hn'
      go_wp2
      go_region_with (go_at_call 43; refine hc.mono ?_; clear hc; rintro e w2 ⟨rfl, hB2⟩)
      all_goals cases z
      all_goals go_wp2
      all_goals first
        | (go_ret; exact ⟨by rw [HF.out k HKN.out (fun e => by have := HE.out; rw [e] at this; cases this)]; rfl, HQ.out.trans ((Below.refl _ _).drew.trans (hB2.mono (by have := HQ.out.size; exact this)))⟩)
        | (go_roundw
           case rel =>
             refine ⟨k + 1, HKN.out, by go_num, fun i hi => ?_, hB.trans ((Below.refl _ _).drew.trans (hB2.mono hB.size))⟩
             by_cases e : i = k
             · rw [e]; simpa using HE.out.symm
             · exact HK.out i (by omega)
           case measure => have := HKN.out; simp [intOf]; omega)
    · obtain rfl : k = q.n := by omega
      go_wp2_with fail
      have hB0 := hB
      have hw0 := hw
      have HKX : Hid (∀ i, i < q.n → ordX (q.c i) (r.c i) = 0) := HK.out
      clear HK HI hB hw hk hkn
      obtain ⟨w5, hw5⟩ : ∃ w5, w5 = wr := ⟨_, rfl⟩
      rw [← hw5] at hB0 hw0 ⊢
      clear c6 g6 hw5
      go_loopw [6] (fun u wr => ∃ k : Nat, k ≤ q.m ∧ u = .int .i64 k ∧ Hid (∀ i, i < k → sameI (q.it i) (r.it i) = true) ∧ Below w5.heap.size w5 wr) (fun u _ => q.m - (intOf u).toNat)
      case atStart => exact ⟨0, Nat.zero_le _, rfl, fun i hi => absurd hi (Nat.not_lt_zero _), Below.refl _ _⟩
      case round =>
        obtain ⟨k, hk, rfl, HK, hB⟩ := hrel
        have hw := hw0.trans (hB.mono hw0.size)
        have hbb := hB0.trans (hB.mono hB0.size)
        obtain ⟨-, -, -, -, -, c10⟩ := (HN1.out.later hbb).at0
        obtain ⟨-, -, -, -, -, g10⟩ := (HM1.out.later hbb).at0
        by_cases hkn : k < q.m
        · have hkm : k < r.m := by have := H5.out; omega
          obtain ⟨b, o, ea, d0, d1, d2, d3⟩ := (HX.out.it.later hw) k hkn
          obtain ⟨b', o', ea', f0, f1, f2, f3⟩ := (HY.out.it.later hw) k hkm
          rw [ea] at c10
          rw [ea'] at g10
          have HKN : Hid (k < q.m) := hkn
          have HQ : Hid (Below w.heap.size w wr) := hw
          have hcm := neqI (q.it k) (r.it k)
          obtain ⟨z, hz⟩ : ∃ z, z = sameI (q.it k) (r.it k) := ⟨_, rfl⟩
          rw [← hz] at hcm
          have HE : Hid (z = sameI (q.it k) (r.it k)) := hz
          clear hw hz ea ea'
          go_wp2_with fail
          cases z
          · simp only [Bool.not_false] at hcm
            go_quiet (fail)
            go_wp2
            try rw [Exit.noGoto_ret]
            go_ret
            exact ⟨by rw [HF2.out k HKN.out HE.out.symm]; rfl, bd HQ.out _⟩
          · simp only [Bool.not_true] at hcm
            go_quiet (fail)
            go_wp2
            go_roundw
            case rel =>
              refine ⟨k + 1, HKN.out, by go_num, fun i hi => ?_, bd hB _⟩
              by_cases e : i = k
              · rw [e]; exact HE.out.symm
              · exact HK.out i (by omega)
            case measure => have := HKN.out; simp [intOf]; omega
        · obtain rfl : k = q.m := by omega
          go_wp2
          go_ret
          exact ⟨by rw [HT.out HKX.out HK.out]; rfl, hw⟩
theorem refSameQ_any (q r : Qy) (w : World) (hQ : IsQ w q) (hR : IsQ w r) : Calls Try.prog 26 #[q.val, r.val] w fun e w' => e = .returned (.bool (sameQ q r)) ∧ Below w.heap.size w w' := by
  by_cases h : sameP q.p r.p = true ∧ q.key = r.key ∧ q.mode = r.mode ∧ q.win = r.win ∧ q.n = r.n ∧ q.m = r.m
  · obtain ⟨h0, h1, h2, h3, h4, h5⟩ := h
    exact refSameQ_row q r w hQ hR h0 h1 h2 h3 h4 h5
  · have : sameQ q r = false := by
      rw [Bool.eq_false_iff]
      intro e
      obtain ⟨h0, h1, h2, h3, h4, h5, _⟩ := (sameQ_iff q r).1 e
      exact h ⟨h0, h1, h2, h3, h4, h5⟩
    rw [this]
    exact refSameQ_no q r w hQ hR h
end Go.Proofs.Ytinnhaojmnmliaa
namespace Go.Proofs.Ytinnhaojmnmliaa
open Go.RowKit Go.Shelf
attribute [local go_sem] Oper.semAt_some

set_option maxRecDepth 100000 in
set_option maxHeartbeats 2000000 in
theorem sizeP_in (n : Nat) (x : Pt) (w : World) (hX : IsP w x) (hsm : x.size ≤ 1048576) :
    CallsIn Fence.wide n Try.prog 19 #[x.val] w fun e w' => e = .returned (.int .i64 x.size) ∧ Below w.heap.size w w' := by
  have hdd : ∀ k : Nat, (Fence.wide.depth.isSome = true → 1 ≤ k) := fun k h => by cases h
  refine callsIn_of_wp_marks Try.func19 rfl trivial ?_ rfl
  simp only [Try.ntmps19, List.size_toArray, List.length_cons, List.length_nil, Nat.reduceAdd, Nat.reduceSub, Array.replicate_succ, Array.replicate_zero, List.push_toArray, List.append_toArray, List.nil_append, List.cons_append]
  gi_wp2_with (refine ⟨trivial, hdd _, ?_⟩; gi_at_call 32; refine (nodesP_in _ _ _).mono ?_; rintro e w' ⟨rfl, rfl⟩)
  obtain ⟨A, hA⟩ : ∃ A, (((w.alloc (.cells x.cells 24)).alloc (.cells #[.int .i64 0] 3)).alloc (.cells #[.pointer (some ⟨w.heap.size, 0, none⟩)] 52)) = A := ⟨_, rfl⟩
  have hsz : A.heap.size = w.heap.size + 3 := by rw [← hA]; simp
  have hB : Below w.heap.size w A := by rw [← hA]; exact (((Below.refl _ w).alloc (Nat.le_refl _) _).alloc (by simp) _).alloc (by simp; omega) _
  have hnode : NodeP A w.heap.size 0 x := by
    rw [← hA]
    exact ((nodeP_new w 24 x).later ((Below.refl _ _).alloc (Nat.le_refl _) _)).later ((Below.refl _ _).alloc (Nat.le_refl _) _)
  have hbn : Boxed A (w.heap.size + 1) 3 (.int .i64 0) := by
    have := (Boxed.new (w.alloc (.cells x.cells 24)) 3 (.int .i64 0)).alloc (.cells #[.pointer (some ⟨w.heap.size, 0, none⟩)] 52)
    rw [World.size_alloc, hA] at this
    exact this
  have hbp : Boxed A (w.heap.size + 1 + 1) 52 (.pointer (some ⟨w.heap.size, 0, none⟩)) := by
    have := Boxed.new ((w.alloc (.cells x.cells 24)).alloc (.cells #[.int .i64 0] 3)) 52 (.pointer (some ⟨w.heap.size, 0, none⟩))
    rw [World.size_alloc, World.size_alloc, hA] at this
    exact this
  rw [hA]
  refine nodesP_fold (w.heap.size + 1 + 1) w.heap.size 0 x (fun k => k < w.heap.size + 1) (fun pre W => Boxed W (w.heap.size + 1) 3 (.int .i64 pre.length) ∧ Below w.heap.size w W) (fun _ _ => False)
    rfl rfl hbp.cell hsm (fun k hk => by omega) (by omega) hnode (PIn.xt (n := w.heap.size) (fun k hk => by omega) (hX.inn.below hB)) ?_ ?_ ?_ ?_
    (fun d b o => { tmps := #[x.val, .pointer (some ⟨w.heap.size, 0, none⟩), .int .i64 0, .pointer (some ⟨w.heap.size + 1, 0, none⟩), .func (.func 54) #[] #[.pointer (some ⟨w.heap.size + 1 + 1, 0, none⟩)], .int .i64 d, .pointer (some ⟨b, o, none⟩), undef, undef, undef], defers := [] }) ?_ ?_ ?_ ?_
  · rintro pre W B hag ⟨h1, h2⟩
    exact ⟨hag.boxed h1, hag.below (by omega) h2⟩
  · exact fun pre W h => ⟨h.1, h.2.drew⟩
  · exact fun W h => ⟨Boxed.kept_of hbn h (by omega), hB.trans (h.mono (by omega))⟩
  · exact fun _ _ _ _ h => h
  · intro l d b o W K hK
    gi_wp2
    simpa using hK
  · rintro l d b o y pre W hb hn hx ⟨h1, h2⟩ hs ⟨post, hpo⟩
    have hlen : pre.length < 1048576 := by
      have := congrArg List.length hpo
      rw [length_visP, List.length_append, List.length_cons] at this
      omega
    generalize hq : pre.length = q at hlen h1
    have HQ : Hid (pre.length = q) := hq
    clear hq hpo
    have c1 := h1.cell
    have f1 := h1.frozen
    gi_wp2
    exact ⟨(KeepsOthers.setCell _ _ _).from _, Kp.set _ (by simp; omega), by rw [List.length_append, HQ.out]; exact h1.set _, h2.setCell (p := ⟨w.heap.size + 1, 0, none⟩) (by simp) _⟩
  · rintro D W hD ⟨h1, h2⟩ hK
    have c1 := h1.cell
    gi_wp2
    refine ⟨by simp, .inl ⟨_, _, rfl, run_takeDeferred hK, ?_⟩⟩
    exact ⟨_, results_tmp rfl _ _ _, by rw [length_visP]; rfl, h2.trans (belowK_b (w := w) (Nat.le_refl _) W D _ _ (by omega) hK rfl rfl)⟩
  · exact fun _ _ _ _ h _ => h.elim
theorem sizeP_any (x : Pt) (w : World) (hX : IsP w x) (hsm : x.size ≤ 1048576) : Calls Try.prog 19 #[x.val] w fun e w' => e = .returned (.int .i64 x.size) ∧ Below w.heap.size w w' :=
  (callsIn_wide (n := 3)).1 (sizeP_in 3 x w hX hsm)
set_option maxRecDepth 100000 in
set_option maxHeartbeats 4000000 in
theorem refSizeP_any : ∀ (x : Pt) (w : World), IsP w x → x.size ≤ 1048576 → Calls Try.prog 20 #[x.val] w fun e w' => e = .returned (.int .i64 x.size) ∧ Below w.heap.size w w' := by
  refine Pt.ind fun x ih w hX hsm => ?_
  obtain ⟨r, hr⟩ : ∃ r : Int, r = x.size := ⟨_, rfl⟩
  have HR : Hid (r = ((1 + sumN (fun i => (x.c i).size) x.n : Nat) : Int)) := by show r = _; rw [hr, x.size_eq]
  rw [← hr]
  have HI : Hid (∀ i, i < x.n → ∀ w, IsP w (x.c i) → Calls Try.prog 20 #[(x.c i).val] w fun e w' => e = .returned (.int .i64 (x.c i).size) ∧ Below w.heap.size w w') := fun i hi w h => ih i hi w h (by have := x.size_part i hi; omega)
  have HX : Hid (IsP w x) := hX
  have hlen := hX.len
  have HS : Hid (∀ k, k < x.n → 1 + sumN (fun i => (x.c i).size) k + (x.c k).size ≤ 1048576) := fun k hk => by have := sumN_part (f := fun i => (x.c i).size) hk; have := x.size_eq; omega
  obtain ⟨A, hA, hB0, hs, hN⟩ := boxP_one x w
  have HB : Hid (Below w.heap.size w A) := hB0
  have HN : Hid (NodeP A w.heap.size 0 x) := hN
  clear ih hX hr hB0 hN hsm
  go_enter Try.func20, Try.ntmps20
  go_wp2_with fail
  go_loopw [3, 4] (fun u v wr => ∃ k : Nat, k ≤ x.n ∧ u = .int .i64 ((1 + sumN (fun i => (x.c i).size) k : Nat) : Int) ∧ v = .int .i64 k ∧ Below A.heap.size A wr) (fun _ v _ => x.n - (intOf v).toNat)
  case atStart => exact ⟨0, Nat.zero_le _, rfl, rfl, Below.refl _ _⟩
  case round =>
    obtain ⟨k, hk, rfl, rfl, hB⟩ := hrel
    obtain ⟨-, -, -, -, -, c6⟩ := (nodeP_on HN.out (hB.mono (by omega))).at0
    have hw := HB.out.trans (hB.mono (by omega))
    by_cases hkn : k < x.n
    · obtain ⟨b, o, ea, hn, hx⟩ := (HX.out.later hw).part hkn
      rw [ea] at c6
      obtain ⟨d0, d1, d2, d3, d4, d5⟩ := hn
      have hc := HI.out k hkn wr hx
      have HK : Hid (k < x.n) := hkn
      have HQ : Hid (Below w.heap.size w wr) := hw
      have hb := HS.out k hkn
      have HE : Hid (1 + sumN (fun i => (x.c i).size) (k + 1) = 1 + sumN (fun i => (x.c i).size) k + (x.c k).size) := by show _ = _; simp only [sumN]; omega
      generalize 1 + sumN (fun i => (x.c i).size) k = p at hb HE ⊢
      generalize (x.c k).size = q at hc hb HE
      clear hx hw
      go_wp2_with (go_at_call 20; refine hc.mono ?_; rintro e w2 ⟨rfl, hB2⟩)
      exact ⟨⟨k + 1, HK.out, by rw [HE.out]; simp, by simp, hB.trans (hB2.mono hB.size)⟩, by have := HK.out; simp [intOf]; omega⟩
    · have hk' : k = x.n := by omega
      subst hk'
      go_wp2
      go_ret
      exact ⟨ret_int HR.out.symm, hw⟩
set_option maxHeartbeats 1000000 in
theorem lightP_any (x : Pt) (w : World) (hX : IsP w x) (hsm : x.size ≤ 1048576) : Calls Try.prog 5 #[x.val] w fun e w' => e = .returned (.bool (decide (x.size ≤ 300))) ∧ Below w.heap.size w w' := by
  obtain ⟨A, hA, hB, hs, hN⟩ := boxP_one x w
  obtain ⟨c0, c1, c2, c3, c4, c5⟩ := hN.at0
  have hc := refSizeP_any x A (hX.later hB) hsm
  have HB : Hid (Below w.heap.size w A) := hB
  have HE : Hid (decide ((x.size : Int) ≤ 300) = decide (x.size ≤ 300)) := by show _ = _; congr 1; exact propext (by omega)
  clear hB hN hX
  go_enter Try.func5, Try.ntmps5
  go_wp2_with (go_at_call 20; refine hc.mono ?_; rintro e w2 ⟨rfl, hB2⟩)
  go_ret
  refine ⟨?_, HB.out.trans (hB2.mono (by omega))⟩
  rw [← HE.out]
  rfl
/-- The node that awake asks. -/
def leafP : Pt := .mk 1 ⟨#[97]⟩ ⟨#[116]⟩ 0 0 none 0 0 (fun _ => .nil)
set_option maxRecDepth 100000 in
set_option maxHeartbeats 1000000 in
theorem awake12_any (w : World) : Calls Try.prog 6 #[] w fun e w' => e = .returned (.bool true) ∧ Below w.heap.size w w' := by
  have hc : Calls Try.prog 19 #[.agg #[.int .i64 1, .string ⟨#[97]⟩, .string ⟨#[116]⟩, .int .i64 0, .int .i64 0, .slice none 0 0]] w fun e w' => e = .returned (.int .i64 1) ∧ Below w.heap.size w w' :=
    sizeP_any leafP w ⟨by omega, by omega, fun i hi => by omega⟩ (by simp [leafP, Pt.size, sumN])
  go_enter Try.func6, Try.ntmps6
  go_wp2_with (go_at_call 19; refine hc.mono ?_; rintro e w2 ⟨rfl, hB2⟩)
  go_ret
  exact ⟨rfl, hB2⟩
end Go.Proofs.Ytinnhaojmnmliaa
namespace Go.Proofs.Ytinnhaojmnmliaa
open Go.RowKit

theorem ren_none {g : ByteArray → ByteArray} (hg : ∀ s, g s = s) : ∀ x : X, ordX (renX g x) x = 0 := by
  refine X.ind fun x ih => ?_
  obtain ⟨p1, p2, p3, p4, p5, p6⟩ := renX_parts g x
  refine (ordX_zero _ _).2 ⟨p1, p2, ?_, p4, p5, fun i hi => by rw [p6]; exact ih i (p5 ▸ hi)⟩
  rw [p3, hg]
  simp
/-- What Where hands back: conditions as the parts of one. -/
def WhereAns (x : X) (w : World) (e : Ending) (w' : World) : Prop :=
  ∃ (a : Option Addr) (n cap : Nat) (c : Nat → X), e = .returned (.slice a n cap) ∧ IsX w' (X.mk 16 val0 ⟨#[]⟩ ⟨#[]⟩ a n cap c) ∧ n = (if x.k = 16 then x.n else 1) ∧ (∀ i, i < n → ordX (c i) (if x.k = 16 then x.c i else x) = 0) ∧ Below w.heap.size w w'
set_option maxRecDepth 100000 in
set_option maxHeartbeats 4000000 in
theorem whereQ_any (x : X) (w : World) (hX : IsX w x) (hsm : x.size ≤ 1048576) (hok : XOk x) : Calls Try.prog 42 #[x.val] w (WhereAns x w) := by
  have hB : Below w.heap.size w (w.alloc (.cells x.cells 69)) := (Below.refl _ _).alloc (Nat.le_refl _) _
  have C1 : Hid (Calls Try.prog 45 #[x.val, .slice none 0 0, .slice none 0 0] (w.alloc (.cells x.cells 69)) _) := renameN_any x none none 0 0 0 0 (fun _ => ⟨#[]⟩) (fun _ => ⟨#[]⟩) _ (hX.later hB) hsm hok (fun h => absurd h (Nat.lt_irrefl _)) (fun h => absurd h (Nat.lt_irrefl _)) (by omega) (by omega) (Nat.le_refl _) (by omega) (fun j hj => absurd hj (Nat.not_lt_zero _))
  have hx0 := alloc_new w (.cells x.cells 69)
  have HX0 : Hid _ := hx0
  obtain ⟨k0, k1, k2, k3, k4, k5, k6⟩ := (node_box hx0).at0
  clear hX hx0
  go_enter Try.func42, Try.ntmps42
  go_upto_region 2 with (first | (go_at_call 45; refine C1.out.mono ?_; rintro e W1 ⟨y, rfl, hXA, hord, hin, hB1⟩; have u0 := (hB1.block w.heap.size (by simp)).trans HX0.out; obtain ⟨e0, e1, e2, e3, e4, e5, e6⟩ := (node_box u0).at0; have ff : ∀ j, W1.frozen? ⟨w.heap.size, j, none⟩ = false := fun j => Free.frozen ⟨_, u0⟩ j; have f0 := ff 0; have f1 := ff 1; have f2 := ff 2; have f3 := ff 3; have f4 := ff 4; have f5 := ff 5; have f6 := ff 6; clear ff k0 k1 k2 k3 k4 k5 k6))
  clear e0 e1 e2 e3 e4 e5 e6 f0 f1 f2 f3 f4 f5 f6
  obtain ⟨W2, hW2⟩ : ∃ W2, set7 W1 w.heap.size y = W2 := ⟨_, rfl⟩
  have hW2' := hW2
  unfold set7 at hW2'
  rw [hW2']
  have hn2 : W2.heap[w.heap.size]? = some (.cells y.cells 69 (0, 0)) := by rw [← hW2]; exact heap_set7 u0
  have hs2 : W2.heap.size = W1.heap.size := by rw [← hW2]; simp
  have hlt : w.heap.size < W1.heap.size := by have := hB1.size; simp at this; omega
  have HX2 : Hid (IsX W2 y) := by
    show IsX W2 y
    rw [← hW2]
    exact hXA.is.kept (T := fun k => k ≠ w.heap.size) (fun k o hk _ e => (heap_set7_other hk).trans e) fun k hk => by have := hin k hk; simp at this; omega
  have hB2 : Below w.heap.size w W2 := by rw [← hW2]; exact below_set7 (hB.trans (hB1.mono (by simp))) (Nat.le_refl _)
  have hid : ordX y x = 0 := (ordX_comp y _ x).1 hord (ren_none (fun s => rfl) x)
  obtain ⟨o1, o2, o3, o4, o5, o6⟩ := (ordX_zero _ _).1 hid
  obtain ⟨k0, k1, k2, k3, k4, k5, k6⟩ := (node_box hn2).at0
  have HID : Hid (ordX y x = 0) := hid
  have HO5 : Hid (y.n = x.n) := o5
  have HO6 : Hid (∀ i, i < y.n → ordX (y.c i) (x.c i) = 0) := o6
  have HO1 : Hid (y.k = x.k) := o1
  clear hW2' hW2 u0 hXA hord hin hB1 hB C1 HX0 hid o1 o2 o3 o4 o5 o6 hlt hs2 hn2
  by_cases h16 : y.k = 16
  · have t : (y.k == 16) = true := by simpa using h16
    have HK : Hid (x.k = 16) := HO1.out ▸ h16
    clear h16
    go_wp2
    go_ret
    refine ⟨y.a, y.n, y.cap, y.c, rfl, ?_, ?_, ?_, hB2⟩
    · have := HX2.out
      rw [isX_eq] at this ⊢
      exact this
    · rw [if_pos HK.out]; exact HO5.out
    · intro i hi
      rw [if_pos HK.out]
      exact HO6.out i hi
  · have t : (y.k == 16) = false := by simpa using h16
    have HK : Hid (¬ x.k = 16) := HO1.out ▸ h16
    clear h16
    go_wp2
    go_ret
    have hBl : Below W2.heap.size W2 (W2.alloc (.cells y.cells 69)) := (Below.refl _ _).alloc (Nat.le_refl _) _
    refine ⟨some ⟨W2.heap.size, 0, none⟩, 1, 1, fun _ => y, rfl, ⟨Nat.le_refl _, by omega, fun i hi => ⟨W2.heap.size, 0, rfl, ?_, HX2.out.later hBl⟩⟩, ?_, ?_, hB2.trans (hBl.mono hB2.size)⟩
    · obtain rfl : i = 0 := by omega
      exact node_box (alloc_new W2 (.cells y.cells 69))
    · rw [if_neg HK.out]
    · intro i hi
      rw [if_neg HK.out]
      exact HID.out
set_option maxRecDepth 100000 in
theorem awake13_any (w : World) : Calls Try.prog 25 #[] w fun e w' => e = .returned (.bool true) ∧ Below w.heap.size w w' := by
  have C1 : Hid (Calls Try.prog 42 #[.agg #[.int .i64 1, .int .i64 0, .int .i64 0, .string ⟨#[]⟩, .string ⟨#[]⟩, .string ⟨#[]⟩, .slice none 0 0]] w _) := whereQ_any (X.mk 1 val0 ⟨#[]⟩ ⟨#[]⟩ none 0 0 (fun _ => .nil)) w ⟨Nat.le_refl _, by omega, fun i hi => absurd hi (Nat.not_lt_zero _)⟩ (by simp [X.size, sumN]) ⟨Nat.zero_le _, Nat.zero_le _, fun i hi => absurd hi (Nat.not_lt_zero _)⟩
  go_enter Try.func25, Try.ntmps25
  go_wp2_with (first | (go_at_call 42; refine C1.out.mono ?_; rintro e W1 ⟨a, n, cap, c, rfl, _, hn, _, hB1⟩; rw [if_neg (by simp [X.k])] at hn; subst hn))
  go_ret
  exact ⟨rfl, hB1⟩
/-- One of the two. -/
def SomeB (w : World) (e : Ending) (w' : World) : Prop := ∃ b : Bool, e = .returned (.bool b) ∧ Below w.heap.size w w'
set_option maxRecDepth 100000 in
set_option maxHeartbeats 4000000 in
theorem lightQ_any (q : Qy) (w : World) (hQ : IsQ w q) (hsm : q.bulk ≤ 1048576) : Calls Try.prog 24 #[q.val] w (SomeB w) := by
  unfold Qy.bulk at hsm
  have hB0 : Below w.heap.size w (w.alloc (.cells q.cells 43)) := (Below.refl _ _).alloc (Nat.le_refl _) _
  have C1 : Hid (Calls Try.prog 20 #[q.p.val] (w.alloc (.cells q.cells 43)) _) := refSizeP_any q.p _ (hQ.p.later hB0) (by omega)
  have HI : Hid (∀ i, i < q.n → ∀ W, Below w.heap.size w W → Calls Try.prog 41 #[(q.c i).val] W fun e w' => e = .returned (.int .i64 (szZ (q.c i))) ∧ Below W.heap.size W w') := fun i hi W hW => by
    obtain ⟨_, _, _, _, h1⟩ := (hQ.x.later hW).part (x := q.x) hi
    exact refSize_any _ W h1
  have HQ : Hid (IsQ w q) := hQ
  have qb := QB.new w q
  have QB0 : Hid (QB (w.alloc (.cells q.cells 43)) w.heap.size q) := qb
  obtain ⟨⟨k0, k1, k2, k3, k4, k5⟩, -⟩ := qb.at0
  have hlen : q.n ≤ 9223372036854775807 := hQ.x.len
  have HB0 : Hid (Below w.heap.size w (w.alloc (.cells q.cells 43))) := hB0
  clear hQ qb hB0
  go_enter Try.func24, Try.ntmps24
  go_wp2_with (first | (go_at_call 20; refine C1.out.mono ?_; rintro e w1 ⟨rfl, hB1⟩))
  have hw1 : Below w.heap.size w w1 := HB0.out.trans (hB1.mono HB0.out.size)
  have QB1 : Hid (QB w1 w.heap.size q) := QB0.out.later hB1
  clear k0 k1 k2 k3 k4 k5 C1 QB0 HB0 hB1
  go_loopw [3, 4] (fun u v wr => ∃ (k : Nat) (z : Int), k ≤ q.n ∧ u = .int .i64 z ∧ v = .int .i64 k ∧ Below w1.heap.size w1 wr) (fun _ v _ => q.n - (intOf v).toNat)
  case atStart => exact ⟨0, _, Nat.zero_le _, rfl, rfl, Below.refl _ _⟩
  case round =>
    obtain ⟨k, z, hk, rfl, rfl, hB⟩ := hrel
    have hw := hw1.trans (hB.mono hw1.size)
    obtain ⟨-, c6, -, -, -, c10⟩ := (QB1.out.later hB).at0
    by_cases hkn : k < q.n
    · obtain ⟨b, o, ea, hn, -⟩ := (HQ.out.x.later hw).part (x := q.x) hkn
      have ea1 : q.a = some ⟨b, o, none⟩ := ea
      rw [ea1] at c6
      have hn1 : Node wr b (o + k * 7) (q.c k) := hn
      obtain ⟨d0, d1, d2, d3, d4, d5, d6⟩ := hn1
      have hc := HI.out k hkn wr hw
      have HKN : Hid (k < q.n) := hkn
      clear ea ea1 hn
      go_wp2_with (first | (go_at_call 41; refine hc.mono ?_; clear hc; rintro e w2 ⟨rfl, hB2⟩))
      refine ⟨⟨k + 1, _, HKN.out, rfl, by simp, hB.trans (hB2.mono hB.size)⟩, ?_⟩
      have := HKN.out
      simp [intOf]
      omega
    · obtain rfl : k = q.n := by omega
      go_wp2
      all_goals go_ret
      all_goals exact ⟨_, rfl, hw⟩
end Go.Proofs.Ytinnhaojmnmliaa
