/-
  pat.Tail and the document's.
  The document's Same of patterns.
  pat.Same: by slices.EqualFunc, which is handed pat.Same itself.
-/
import Derived.Test.YtinnhaojmnmliaaDPatAt
import Derived.Test.YtinnhaojmnmliaaDTxt
import Derived.Deep.RegionWith
namespace Go.Proofs.Ytinnhaojmnmliaa
open Go.RowKit

/-- The PNot at the end, if there is one. -/
def HasTail (x : Pt) (q : Nat) : Prop := x.k = 2 ∧ x.n = q + 1 ∧ (x.c q).k = 6
theorem noTail {x : Pt} (h : ∀ q, ¬ HasTail x q) : ¬ x.k = 2 ∨ (x.k = 2 ∧ x.n = 0) ∨ (x.k = 2 ∧ ∃ q, x.n = q + 1 ∧ ¬ (x.c q).k = 6) := by
  by_cases h1 : x.k = 2
  · by_cases h2 : x.n = 0
    · exact .inr (.inl ⟨h1, h2⟩)
    · exact .inr (.inr ⟨h1, x.n - 1, by omega, fun h3 => h (x.n - 1) ⟨h1, by omega, h3⟩⟩)
  · exact .inl h1
theorem HasTail.one {x : Pt} {p q : Nat} (h : HasTail x p) (g : HasTail x q) : p = q := by have := h.2.1; have := g.2.1; omega
set_option maxRecDepth 100000 in
set_option maxHeartbeats 4000000 in
theorem tail_yes (x : Pt) (q : Nat) (w : World) (hX : IsP w x) (hsm : x.size ≤ 1048576) (h : HasTail x q) : Calls Try.prog 11 #[x.val] w fun e w' => ∃ y : Pt, e = .returned (.tuple #[y.val, .bool true]) ∧ PA w' y ∧ Sm y (x.c q) ∧ (∀ k, inP k y → w.heap.size ≤ k) ∧ Below w.heap.size w w' := by
  obtain ⟨A, hA, hB, hs, hn, hr⟩ := boxP_res x w
  obtain ⟨a0, a1, a2, a3, a4, a5⟩ := hn.at0
  have HB : Hid (Below w.heap.size w A) := hB
  have HR : Hid (A.heap[w.heap.size + 1]? = some (.cells zeroP 24 (0, 0))) := hr
  obtain ⟨h1, h2, h3⟩ := h
  have hlen := hX.len
  obtain ⟨b, o, ea, hm, hx⟩ := (hX.later hB).part (show q < x.n by omega)
  have hx0 : IsP w (x.c q) := by obtain ⟨_, _, _, _, h⟩ := hX.part (show q < x.n by omega); exact h
  have HX0 : Hid (IsP w (x.c q)) := hx0
  have hc := copiedP_any (x.c q) A hx (by have := x.size_part q (by omega); omega)
  rw [ea] at a5
  have hq : ((x.n : Nat) : Int) - 1 = (q : Int) := by omega
  have hlt : q < x.n := by omega
  have hpos : 0 < x.n := by omega
  have hnz : (((x.n : Nat) : Int) == 0) = false := by simp; omega
  obtain ⟨d0, d1, d2, d3, d4, d5⟩ := hm
  have t1 : (x.k == 2) = true := by simp [h1]
  have t3 : ((x.c q).k == 6) = true := by simp [h3]
  obtain ⟨⟨g0, g1, g2, g3, g4, g5⟩, f0, f1, f2, f3, f4, f5⟩ := zero_cells HR.out
  clear hB hn hr hX hx hx0 h1 h2 h3 ea g0 g1 g2 g3 g4 g5 f0 f1 f2 f3 f4 f5
  go_enter Try.func11, Try.ntmps11
  go_wp2_with (go_at_call 31; refine hc.mono ?_; clear hc; rintro e w2 ⟨y, rfl, hPA, hSm, hin, hB2⟩; have hr2 := (hB2.block (w.heap.size + 1) (by omega)).trans HR.out; obtain ⟨⟨g0, g1, g2, g3, g4, g5⟩, f0, f1, f2, f3, f4, f5⟩ := zero_cells hr2)
  have hblk : (set6 w2 (w.heap.size + 1) y).heap[w.heap.size + 1]? = some (.cells y.cells 24 (0, 0)) := heap_set6 (z := .nil) hr2
  refine bodyPost_ret (results_row_tmp rfl _ _ (w.heap.size + 1) 24 _ (0, 0) _ rfl hblk Try.underlying24 rfl (by kernel_rfl)) rfl ?_
  exact ⟨y, rfl, hPA.kept (T := fun k => k ≠ w.heap.size + 1) (fun k o hk _ e => (heap_set6_other hk).trans e) (fun k hk => by have := hin k hk; omega), hSm, fun k hk => by have := hin k hk; omega, below_set6 (HB.out.trans (hB2.mono (by omega))) (by omega)⟩
set_option maxRecDepth 100000 in
set_option maxHeartbeats 4000000 in
theorem tail_no (x : Pt) (w : World) (hX : IsP w x) (h : ∀ q, ¬ HasTail x q) : Calls Try.prog 11 #[x.val] w fun e w' => e = .returned (.tuple #[.agg zeroP, .bool false]) ∧ Below w.heap.size w w' := by
  obtain ⟨A, hA, hB, hs, hn, hr⟩ := boxP_res x w
  obtain ⟨a0, a1, a2, a3, a4, a5⟩ := hn.at0
  have HB : Hid (Below w.heap.size w A) := hB
  have HR : Hid (A.heap[w.heap.size + 1]? = some (.cells zeroP 24 (0, 0))) := hr
  have hlen := hX.len
  have HX : Hid (IsP A x) := hX.later hB
  obtain ⟨⟨g0, g1, g2, g3, g4, g5⟩, f0, f1, f2, f3, f4, f5⟩ := zero_cells HR.out
  have HBL : Hid ((set6 A (w.heap.size + 1) .nil).heap[w.heap.size + 1]? = some (.cells zeroP 24 (0, 0))) := heap_set6 (z := .nil) HR.out
  have HBE : Hid (Below w.heap.size w (set6 A (w.heap.size + 1) .nil)) := below_set6 HB.out (by omega)
  clear hB hn hr hX hs
  rcases noTail h with h1 | ⟨h1, h2⟩ | ⟨h1, q, h2, h3⟩
  · have t1 : (x.k == 2) = false := by simp [h1]
    clear h h1
    go_enter Try.func11, Try.ntmps11
    go_wp2
    refine bodyPost_ret (results_row_tmp rfl _ _ (w.heap.size + 1) 24 _ (0, 0) _ rfl HBL.out Try.underlying24 rfl (by kernel_rfl)) rfl ?_
    exact ⟨rfl, HBE.out⟩
  · have t1 : (x.k == 2) = true := by simp [h1]
    rw [h2] at a5
    clear h h1 h2
    go_enter Try.func11, Try.ntmps11
    go_wp2
    refine bodyPost_ret (results_row_tmp rfl _ _ (w.heap.size + 1) 24 _ (0, 0) _ rfl HBL.out Try.underlying24 rfl (by kernel_rfl)) rfl ?_
    exact ⟨rfl, HBE.out⟩
  · have t1 : (x.k == 2) = true := by simp [h1]
    have t3 : ((x.c q).k == 6) = false := by simp [h3]
    obtain ⟨b, o, ea, hm, -⟩ := HX.out.part (show q < x.n by omega)
    rw [ea] at a5
    have hq : ((x.n : Nat) : Int) - 1 = (q : Int) := by omega
    have hlt : q < x.n := by omega
    have hpos : 0 < x.n := by omega
    have hnz : (((x.n : Nat) : Int) == 0) = false := by simp; omega
    obtain ⟨d0, d1, d2, d3, d4, d5⟩ := hm
    clear h h1 h2 h3 ea
    go_enter Try.func11, Try.ntmps11
    go_upto_region 4 with (fail)
    clear d0 d1 d2 d3 d4 d5 a0 a1 a2 a3 a4 a5 hq hlt hpos hnz t1 t3
    go_wp2
    refine bodyPost_ret (results_row_tmp rfl _ _ (w.heap.size + 1) 24 _ (0, 0) _ rfl HBL.out Try.underlying24 rfl (by kernel_rfl)) rfl ?_
    exact ⟨rfl, HBE.out⟩
set_option maxRecDepth 100000 in
set_option maxHeartbeats 4000000 in
theorem refTail_yes (x : Pt) (q : Nat) (w : World) (hX : IsP w x) (h : HasTail x q) : Calls Try.prog 12 #[x.val] w fun e w' => e = .returned (.tuple #[(x.c q).val, .bool true]) ∧ IsP w (x.c q) ∧ Below w.heap.size w w' := by
  obtain ⟨A, hA, hB, hs, hn, hr⟩ := boxP_res x w
  obtain ⟨a0, a1, a2, a3, a4, a5⟩ := hn.at0
  have HB : Hid (Below w.heap.size w A) := hB
  have HR : Hid (A.heap[w.heap.size + 1]? = some (.cells zeroP 24 (0, 0))) := hr
  obtain ⟨h1, h2, h3⟩ := h
  have hlen := hX.len
  obtain ⟨b, o, ea, hm, hx⟩ := (hX.later hB).part (show q < x.n by omega)
  have hx0 : IsP w (x.c q) := by obtain ⟨_, _, _, _, h⟩ := hX.part (show q < x.n by omega); exact h
  have HX0 : Hid (IsP w (x.c q)) := hx0
  rw [ea] at a5
  have hq : ((x.n : Nat) : Int) - 1 = (q : Int) := by omega
  have hlt : q < x.n := by omega
  have hpos : 0 < x.n := by omega
  have hnz : (((x.n : Nat) : Int) == 0) = false := by simp; omega
  obtain ⟨d0, d1, d2, d3, d4, d5⟩ := hm
  have t1 : (x.k != 2) = false := by simp [h1]
  have t3 : ((x.c q).k != 6) = false := by simp [h3]
  obtain ⟨⟨g0, g1, g2, g3, g4, g5⟩, f0, f1, f2, f3, f4, f5⟩ := zero_cells HR.out
  have hblk : (set6 A (w.heap.size + 1) (x.c q)).heap[w.heap.size + 1]? = some (.cells (x.c q).cells 24 (0, 0)) := heap_set6 (z := .nil) HR.out
  clear hB hn hr hX hx hx0 h1 h2 h3 ea
  go_enter Try.func12, Try.ntmps12
  go_wp2
  refine bodyPost_ret (results_row_tmp rfl _ _ (w.heap.size + 1) 24 _ (0, 0) _ rfl hblk Try.underlying24 rfl (by kernel_rfl)) rfl ?_
  exact ⟨rfl, HX0.out, below_set6 HB.out (by omega)⟩
set_option maxRecDepth 100000 in
set_option maxHeartbeats 4000000 in
theorem refTail_no (x : Pt) (w : World) (hX : IsP w x) (h : ∀ q, ¬ HasTail x q) : Calls Try.prog 12 #[x.val] w fun e w' => e = .returned (.tuple #[.agg zeroP, .bool false]) ∧ Below w.heap.size w w' := by
  obtain ⟨A, hA, hB, hs, hn, hr⟩ := boxP_res x w
  obtain ⟨a0, a1, a2, a3, a4, a5⟩ := hn.at0
  have HB : Hid (Below w.heap.size w A) := hB
  have HR : Hid (A.heap[w.heap.size + 1]? = some (.cells zeroP 24 (0, 0))) := hr
  have hlen := hX.len
  have HX : Hid (IsP A x) := hX.later hB
  obtain ⟨⟨g0, g1, g2, g3, g4, g5⟩, f0, f1, f2, f3, f4, f5⟩ := zero_cells HR.out
  have HBL : Hid ((set6 A (w.heap.size + 1) .nil).heap[w.heap.size + 1]? = some (.cells zeroP 24 (0, 0))) := heap_set6 (z := .nil) HR.out
  have HBE : Hid (Below w.heap.size w (set6 A (w.heap.size + 1) .nil)) := below_set6 HB.out (by omega)
  clear hB hn hr hX hs
  rcases noTail h with h1 | ⟨h1, h2⟩ | ⟨h1, q, h2, h3⟩
  · have t1 : (x.k != 2) = true := by simp [h1]
    clear h h1
    go_enter Try.func12, Try.ntmps12
    go_wp2
    refine bodyPost_ret (results_row_tmp rfl _ _ (w.heap.size + 1) 24 _ (0, 0) _ rfl HBL.out Try.underlying24 rfl (by kernel_rfl)) rfl ?_
    exact ⟨rfl, HBE.out⟩
  · have t1 : (x.k != 2) = false := by simp [h1]
    rw [h2] at a5
    clear h h1 h2
    go_enter Try.func12, Try.ntmps12
    go_wp2
    refine bodyPost_ret (results_row_tmp rfl _ _ (w.heap.size + 1) 24 _ (0, 0) _ rfl HBL.out Try.underlying24 rfl (by kernel_rfl)) rfl ?_
    exact ⟨rfl, HBE.out⟩
  · have t1 : (x.k != 2) = false := by simp [h1]
    have t3 : ((x.c q).k != 6) = true := by simp [h3]
    obtain ⟨b, o, ea, hm, -⟩ := HX.out.part (show q < x.n by omega)
    rw [ea] at a5
    have hq : ((x.n : Nat) : Int) - 1 = (q : Int) := by omega
    have hlt : q < x.n := by omega
    have hpos : 0 < x.n := by omega
    have hnz : (((x.n : Nat) : Int) == 0) = false := by simp; omega
    obtain ⟨d0, d1, d2, d3, d4, d5⟩ := hm
    clear h h1 h2 h3 ea
    go_enter Try.func12, Try.ntmps12
    go_upto_region 3 with (fail)
    clear d0 d1 d2 d3 d4 d5 a0 a1 a2 a3 a4 a5 hq hlt hpos hnz t1 t3
    go_wp2
    refine bodyPost_ret (results_row_tmp rfl _ _ (w.heap.size + 1) 24 _ (0, 0) _ rfl HBL.out Try.underlying24 rfl (by kernel_rfl)) rfl ?_
    exact ⟨rfl, HBE.out⟩
end Go.Proofs.Ytinnhaojmnmliaa
namespace Go.Proofs.Ytinnhaojmnmliaa
open Go.RowKit

theorem ne_yes {a b : Int} (h : a = b) : (a != b) = false := by simp [h]
theorem ne_no {a b : Int} (h : ¬ a = b) : (a != b) = true := by simp [h]
/-- Two that differ in a field. -/
theorem sameP_false {x y : Pt} (h : ¬ (x.k = y.k ∧ x.s = y.s ∧ x.t = y.t ∧ x.lo = y.lo ∧ x.hi = y.hi ∧ x.n = y.n)) : sameP x y = false := by
  rw [Bool.eq_false_iff]
  intro e
  obtain ⟨h1, h2, h3, h4, h5, h6, _⟩ := (sm_iff x y).1 e
  exact h ⟨h1, h2, h3, h4, h5, h6⟩
theorem sameP_part {x y : Pt} {i : Nat} (hi : i < x.n) (h : sameP (x.c i) (y.c i) = false) : sameP x y = false := by
  rw [Bool.eq_false_iff]
  intro e
  have := ((sm_iff x y).1 e).2.2.2.2.2.2 i hi
  unfold Sm at this
  rw [h] at this
  cases this
set_option maxRecDepth 100000 in
set_option maxHeartbeats 4000000 in
theorem refSameP_row (x y : Pt) (w : World) (hX : IsP w x) (hY : IsP w y) (e1 : x.k = y.k) (e2 : x.s = y.s) (e3 : x.t = y.t) (e4 : x.lo = y.lo) (e5 : x.hi = y.hi) (e6 : x.n = y.n)
    (ih : ∀ i, i < x.n → ∀ (y : Pt) (w : World), IsP w (x.c i) → IsP w y → Calls Try.prog 14 #[(x.c i).val, y.val] w fun e w' => e = .returned (.bool (sameP (x.c i) y)) ∧ Below w.heap.size w w') :
    Calls Try.prog 14 #[x.val, y.val] w fun e w' => e = .returned (.bool (sameP x y)) ∧ Below w.heap.size w w' := by
  obtain ⟨r, hr⟩ : ∃ r, r = sameP x y := ⟨_, rfl⟩
  have HF : Hid (∀ i, i < x.n → sameP (x.c i) (y.c i) = false → r = false) := fun i hi h => hr.trans (sameP_part hi h)
  have HT : Hid ((∀ i, i < x.n → sameP (x.c i) (y.c i) = true) → r = true) := fun h => hr.trans ((sm_iff x y).2 ⟨e1, e2, e3, e4, e5, e6, h⟩)
  rw [← hr]
  obtain ⟨A, hA, hB, hs, hn, hm⟩ := boxP_two x y w
  obtain ⟨a0, a1, a2, a3, a4, a5⟩ := hn.at0
  obtain ⟨b0, b1, b2, b3, b4, b5⟩ := hm.at0
  have hlen := hX.len
  have HI : Hid (∀ i, i < x.n → ∀ W, Below w.heap.size w W → Calls Try.prog 14 #[(x.c i).val, (y.c i).val] W fun e w' => e = .returned (.bool (sameP (x.c i) (y.c i))) ∧ Below W.heap.size W w') := fun i hi W hW => by
    obtain ⟨_, _, _, _, h1⟩ := (hX.later hW).part hi
    obtain ⟨_, _, _, _, h2⟩ := (hY.later hW).part (e6 ▸ hi)
    exact ih i hi _ W h1 h2
  have HX : Hid (IsP w x) := hX
  have HY : Hid (IsP w y) := hY
  have HB : Hid (Below w.heap.size w A) := hB
  have HN : Hid (NodeP A w.heap.size 0 x) := hn
  have HM : Hid (NodeP A (w.heap.size + 1) 0 y) := hm
  have HS : Hid (A.heap.size = w.heap.size + 2) := hs
  have H6 : Hid (x.n = y.n) := e6
  have t1 := ne_yes e1
  have t2 := str_yes e2
  have t3 := str_yes e3
  have t4 := ne_yes e4
  have t5 := ne_yes e5
  have t6 := ne_yes (show ((x.n : Nat) : Int) = ((y.n : Nat) : Int) by rw [e6])
  clear ih hX hY hr hB hn hm hs e1 e2 e3 e4 e5 e6
  go_enter Try.func14, Try.ntmps14
  go_wp2
  go_loopw [5] (fun u wr => ∃ k : Nat, k ≤ x.n ∧ u = .int .i64 k ∧ Hid (∀ i, i < k → sameP (x.c i) (y.c i) = true) ∧ Below A.heap.size A wr) (fun u _ => x.n - (intOf u).toNat)
  case atStart => exact ⟨0, Nat.zero_le _, rfl, fun i hi => absurd hi (Nat.not_lt_zero _), Below.refl _ _⟩
  case round =>
    obtain ⟨k, hk, rfl, HK, hB⟩ := hrel
    have hs := HS.out
    have hw := HB.out.trans (hB.mono (by omega))
    obtain ⟨-, -, -, -, -, c5⟩ := (HN.out.below hB (by omega)).at0
    obtain ⟨-, -, -, -, -, g5⟩ := (HM.out.below hB (by omega)).at0
    clear a0 a1 a2 a3 a4 a5 b0 b1 b2 b3 b4 b5 t1 t2 t3 t4 t5 t6
    by_cases hkn : k < x.n
    · have hkm : k < y.n := by have := H6.out; omega
      obtain ⟨b, o, ea, hn, -⟩ := (HX.out.later hw).part hkn
      obtain ⟨b', o', ea', hn', -⟩ := (HY.out.later hw).part hkm
      rw [ea] at c5
      rw [ea'] at g5
      obtain ⟨d0, d1, d2, d3, d4, d5⟩ := hn
      obtain ⟨f0, f1, f2, f3, f4, f5⟩ := hn'
      have hc := HI.out k hkn wr.drew (hw.trans (Below.refl _ _).drew)
      have HKN : Hid (k < x.n) := hkn
      have HQ : Hid (Below w.heap.size w wr) := hw
      obtain ⟨q, hq⟩ : ∃ q, q = sameP (x.c k) (y.c k) := ⟨_, rfl⟩
      rw [← hq] at hc
      have HE : Hid (q = sameP (x.c k) (y.c k)) := hq
      clear hw hq ea ea' hs
      go_wp2
      go_region_with (go_at_call 14; refine hc.mono ?_; clear hc; rintro e w2 ⟨rfl, hB2⟩)
      all_goals cases q
      all_goals go_wp2
      all_goals first
        | (go_ret; exact ⟨by rw [HF.out k HKN.out HE.out.symm]; rfl, HQ.out.trans ((Below.refl _ _).drew.trans (hB2.mono (by have := HQ.out.size; exact this)))⟩)
        | (go_roundw
           case rel =>
             refine ⟨k + 1, HKN.out, by go_num, fun i hi => ?_, hB.trans ((Below.refl _ _).drew.trans (hB2.mono hB.size))⟩
             by_cases e : i = k
             · rw [e]; exact HE.out.symm
             · exact HK.out i (by omega)
           case measure => have := HKN.out; simp [intOf]; omega)
    · obtain rfl : k = x.n := by omega
      go_wp2
      go_ret
      exact ⟨by rw [HT.out HK.out]; rfl, hw⟩
set_option maxRecDepth 100000 in
set_option maxHeartbeats 8000000 in
theorem refSameP_any : ∀ (x y : Pt) (w : World), IsP w x → IsP w y → Calls Try.prog 14 #[x.val, y.val] w fun e w' => e = .returned (.bool (sameP x y)) ∧ Below w.heap.size w w' := by
  refine Pt.ind fun x ih y w hX hY => ?_
  by_cases h : x.k = y.k ∧ x.s = y.s ∧ x.t = y.t ∧ x.lo = y.lo ∧ x.hi = y.hi ∧ x.n = y.n
  · obtain ⟨e1, e2, e3, e4, e5, e6⟩ := h
    exact refSameP_row x y w hX hY e1 e2 e3 e4 e5 e6 ih
  · rw [sameP_false h]
    obtain ⟨A, hA, hB, hs, hn, hm⟩ := boxP_two x y w
    obtain ⟨a0, a1, a2, a3, a4, a5⟩ := hn.at0
    obtain ⟨b0, b1, b2, b3, b4, b5⟩ := hm.at0
    have HB : Hid (Below w.heap.size w A) := hB
    clear ih hX hY hB hn hm hs
    by_cases e1 : x.k = y.k
    · have t1 := ne_yes e1
      by_cases e2 : x.s = y.s
      · have t2 := str_yes e2
        by_cases e3 : x.t = y.t
        · have t3 := str_yes e3
          by_cases e4 : x.lo = y.lo
          · have t4 := ne_yes e4
            by_cases e5 : x.hi = y.hi
            · have t5 := ne_yes e5
              have t6 := ne_no (show ¬ ((x.n : Nat) : Int) = ((y.n : Nat) : Int) from fun q => h ⟨e1, e2, e3, e4, e5, by omega⟩)
              clear h e1 e2 e3 e4 e5
              go_enter Try.func14, Try.ntmps14
              go_wp2
              go_ret
              exact ⟨rfl, HB.out⟩
            · have t5 := ne_no e5
              clear h e1 e2 e3 e4 e5
              go_enter Try.func14, Try.ntmps14
              go_wp2
              go_ret
              exact ⟨rfl, HB.out⟩
          · have t4 := ne_no e4
            clear h e1 e2 e3 e4
            go_enter Try.func14, Try.ntmps14
            go_wp2
            go_ret
            exact ⟨rfl, HB.out⟩
        · have t3 := str_not e3
          clear h e1 e2 e3
          go_enter Try.func14, Try.ntmps14
          go_wp2
          go_ret
          exact ⟨rfl, HB.out⟩
      · have t2 := str_not e2
        clear h e1 e2
        go_enter Try.func14, Try.ntmps14
        go_wp2
        go_ret
        exact ⟨rfl, HB.out⟩
    · have t1 := ne_no e1
      clear h e1
      go_enter Try.func14, Try.ntmps14
      go_wp2
      go_ret
      exact ⟨rfl, HB.out⟩
end Go.Proofs.Ytinnhaojmnmliaa
namespace Go.Proofs.Ytinnhaojmnmliaa
open Go.RowKit

set_option maxRecDepth 100000 in
set_option maxHeartbeats 4000000 in
theorem equalFunc_no (a a' : Option Addr) (n m cap cap' : Nat) (w : World) (hne : ¬ n = m) :
    Calls Try.prog 40 #[.slice a n cap, .slice a' m cap', .func (.func 23) #[] #[]] w fun e w' => e = .returned (.bool false) ∧ Below w.heap.size w w' := by
  have t := ne_no (show ¬ ((n : Nat) : Int) = ((m : Nat) : Int) by omega)
  clear hne
  go_enter Try.func40, Try.ntmps40
  go_wp2
  go_ret
  exact ⟨rfl, Below.refl _ _⟩
set_option maxRecDepth 100000 in
set_option maxHeartbeats 4000000 in
theorem equalFunc_any (a a' : Option Addr) (n cap cap' : Nat) (c c' : Nat → Pt) (w : World) (hn : n ≤ 9223372036854775807) (h1 : ∀ i, i < n → ∃ b o, a = some ⟨b, o, none⟩ ∧ NodeP w b (o + i * 6) (c i)) (h2 : ∀ i, i < n → ∃ b o, a' = some ⟨b, o, none⟩ ∧ NodeP w b (o + i * 6) (c' i))
    (hC : ∀ i, i < n → ∀ W, Below w.heap.size w W → Calls Try.prog 23 #[(c i).val, (c' i).val] W fun e w' => e = .returned (.bool (sameP (c i) (c' i))) ∧ Below W.heap.size W w') :
    Calls Try.prog 40 #[.slice a n cap, .slice a' n cap', .func (.func 23) #[] #[]] w fun e w' => e = .returned (.bool (allN (fun i => sameP (c i) (c' i)) n)) ∧ Below w.heap.size w w' := by
  obtain ⟨r, hr⟩ : ∃ r, r = allN (fun i => sameP (c i) (c' i)) n := ⟨_, rfl⟩
  have HF : Hid (∀ i, i < n → sameP (c i) (c' i) = false → r = false) := fun i hi h => hr.trans (allN_false hi h)
  have HT : Hid ((∀ i, i < n → sameP (c i) (c' i) = true) → r = true) := fun h => hr.trans (allN_true.2 h)
  rw [← hr]
  have HC : Hid (∀ i, i < n → ∀ W, Below w.heap.size w W → Calls Try.prog 23 #[(c i).val, (c' i).val] W fun e w' => e = .returned (.bool (sameP (c i) (c' i))) ∧ Below W.heap.size W w') := hC
  have H1 : Hid (∀ i, i < n → ∃ b o, a = some ⟨b, o, none⟩ ∧ NodeP w b (o + i * 6) (c i)) := h1
  have H2 : Hid (∀ i, i < n → ∃ b o, a' = some ⟨b, o, none⟩ ∧ NodeP w b (o + i * 6) (c' i)) := h2
  clear hr hC h1 h2
  go_enter Try.func40, Try.ntmps40
  go_wp2
  go_loopw [17] (fun u wr => ∃ k : Nat, k ≤ n ∧ u = .int .i64 k ∧ Hid (∀ i, i < k → sameP (c i) (c' i) = true) ∧ Below w.heap.size w wr) (fun u _ => n - (intOf u).toNat)
  case atStart => exact ⟨0, Nat.zero_le _, rfl, fun i hi => absurd hi (Nat.not_lt_zero _), Below.refl _ _⟩
  case round =>
    obtain ⟨k, hk, rfl, HK, hB⟩ := hrel
    by_cases hkn : k < n
    · obtain ⟨b, o, rfl, hn1⟩ := H1.out k hkn
      obtain ⟨b', o', rfl, hn2⟩ := H2.out k hkn
      obtain ⟨A, hA, hB2, hs, hm1, hm2⟩ := boxP_two (c k) (c' k) wr
      have hlt := hn1.lt
      have hlt2 := hn2.lt
      have q2 : NodeP (wr.alloc (.cells (c k).cells 24)) b' (o' + k * 6) (c' k) := (hn2.later hB).later ((Below.refl _ _).alloc (Nat.le_refl _) _)
      obtain ⟨d0, d1, d2, d3, d4, d5⟩ := hn1.later hB
      obtain ⟨f0, f1, f2, f3, f4, f5⟩ := q2
      obtain ⟨g0, g1, g2, g3, g4, g5⟩ := hm1.at0
      obtain ⟨i0, i1, i2, i3, i4, i5⟩ := hm2.at0
      have hc := HC.out k hkn A (hB.trans (hB2.mono hB.size))
      have HKN : Hid (k < n) := hkn
      have HB : Hid (Below w.heap.size w A) := hB.trans (hB2.mono hB.size)
      obtain ⟨q, hq⟩ : ∃ q, q = sameP (c k) (c' k) := ⟨_, rfl⟩
      rw [← hq] at hc
      have HE : Hid (q = sameP (c k) (c' k)) := hq
      clear hq hn1 hn2 hm1 hm2 hB2 hs hB
      go_wp2_with (go_at_call 23; refine hc.mono ?_; clear hc; rintro e w2 ⟨rfl, hB2⟩; cases q)
      all_goals go_wp2
      all_goals first
        | (go_ret; exact ⟨by rw [HF.out k HKN.out HE.out.symm]; rfl, HB.out.trans (hB2.mono HB.out.size)⟩)
        | (go_roundw
           case rel =>
             refine ⟨k + 1, HKN.out, by go_num, fun i hi => ?_, HB.out.trans (hB2.mono HB.out.size)⟩
             by_cases e : i = k
             · rw [e]; exact HE.out.symm
             · exact HK.out i (by omega)
           case measure => have := HKN.out; simp [intOf]; omega)
    · obtain rfl : k = n := by omega
      go_wp2
      go_ret
      exact ⟨by rw [HT.out HK.out]; rfl, hB⟩
set_option maxRecDepth 100000 in
set_option maxHeartbeats 8000000 in
theorem samePat_any : ∀ (x y : Pt) (w : World), IsP w x → IsP w y → Calls Try.prog 23 #[x.val, y.val] w fun e w' => e = .returned (.bool (sameP x y)) ∧ Below w.heap.size w w' := by
  refine Pt.ind fun x ih y w hX hY => ?_
  obtain ⟨A, hA, hB, hs, hn, hm⟩ := boxP_two x y w
  obtain ⟨a0, a1, a2, a3, a4, a5⟩ := hn.at0
  obtain ⟨b0, b1, b2, b3, b4, b5⟩ := hm.at0
  have HB : Hid (Below w.heap.size w A) := hB
  have EQ : Hid (∀ d, Below A.heap.size A d → Calls Try.prog 40 #[.slice x.a x.n x.cap, .slice y.a y.n y.cap, .func (.func 23) #[] #[]] d fun e w' => e = .returned (.bool (decide (x.n = y.n) && allN (fun i => sameP (x.c i) (y.c i)) x.n)) ∧ Below d.heap.size d w') := fun d hd => by
    have hw := hB.trans (hd.mono (by omega))
    by_cases e : x.n = y.n
    · rw [decide_eq_true e, Bool.true_and, ← e]
      refine equalFunc_any x.a y.a x.n x.cap y.cap x.c y.c d hX.len (fun i hi => ?_) (fun i hi => ?_) fun i hi W hW => ?_
      · obtain ⟨b, o, ea, h1, _⟩ := (hX.later hw).part hi
        exact ⟨b, o, ea, h1⟩
      · obtain ⟨b, o, ea, h1, _⟩ := (hY.later hw).part (e ▸ hi)
        exact ⟨b, o, ea, h1⟩
      · obtain ⟨_, _, _, _, h1⟩ := (hX.later (hw.trans (hW.mono hw.size))).part hi
        obtain ⟨_, _, _, _, h2⟩ := (hY.later (hw.trans (hW.mono hw.size))).part (e ▸ hi)
        exact ih i hi _ W h1 h2
    · rw [decide_eq_false e, Bool.false_and]
      exact equalFunc_no x.a y.a x.n y.n x.cap y.cap d e
  obtain ⟨q, hq⟩ : ∃ q, q = (decide (x.n = y.n) && allN (fun i => sameP (x.c i) (y.c i)) x.n) := ⟨_, rfl⟩
  rw [← hq] at EQ
  have HR : Hid (sameP x y = (decide (x.k = y.k) && (decide (x.s = y.s) && (decide (x.t = y.t) && (decide (x.lo = y.lo) && (decide (x.hi = y.hi) && q)))))) := by show _ = _; rw [hq]; exact sameP_eq x y
  clear ih hX hY hB hn hm hq
  generalize sameP x y = r at HR ⊢
  by_cases e1 : x.k = y.k
  · by_cases e2 : x.s = y.s
    · by_cases e3 : x.t = y.t
      · by_cases e4 : x.lo = y.lo
        · by_cases e5 : x.hi = y.hi
          · have HR' : Hid (r = q) := by show r = q; rw [HR.out, decide_eq_true e1, decide_eq_true e2, decide_eq_true e3, decide_eq_true e4, decide_eq_true e5]; simp
            have t1 : (x.k == y.k) = true := by simpa using e1
            have t2 := str_yes e2
            have t3 := str_yes e3
            have t4 : (x.lo == y.lo) = true := by simpa using e4
            have t5 : (x.hi == y.hi) = true := by simpa using e5
            clear e1 e2 e3 e4 e5 HR
            go_enter Try.func23, Try.ntmps23
            go_wp2_with (go_at_call 40; refine (EQ.out _ (Below.refl _ _)).mono ?_; clear EQ; rintro e w2 ⟨rfl, hB2⟩)
            go_ret
            exact ⟨by rw [HR'.out]; rfl, HB.out.trans (hB2.mono (by omega))⟩
          · have HR' : Hid (r = false) := by show r = false; rw [HR.out, decide_eq_true e1, decide_eq_true e2, decide_eq_true e3, decide_eq_true e4, decide_eq_false e5]; simp
            have t1 : (x.k == y.k) = true := by simpa using e1
            have t2 := str_yes e2
            have t3 := str_yes e3
            have t4 : (x.lo == y.lo) = true := by simpa using e4
            have t5 : (x.hi == y.hi) = false := by simpa using e5
            clear e1 e2 e3 e4 e5 HR EQ
            go_enter Try.func23, Try.ntmps23
            go_wp2
            go_ret
            exact ⟨by rw [HR'.out]; rfl, HB.out⟩
        · have HR' : Hid (r = false) := by show r = false; rw [HR.out, decide_eq_true e1, decide_eq_true e2, decide_eq_true e3, decide_eq_false e4]; simp
          have t1 : (x.k == y.k) = true := by simpa using e1
          have t2 := str_yes e2
          have t3 := str_yes e3
          have t4 : (x.lo == y.lo) = false := by simpa using e4
          clear e1 e2 e3 e4 HR EQ
          go_enter Try.func23, Try.ntmps23
          go_wp2
          go_ret
          exact ⟨by rw [HR'.out]; rfl, HB.out⟩
      · have HR' : Hid (r = false) := by show r = false; rw [HR.out, decide_eq_true e1, decide_eq_true e2, decide_eq_false e3]; simp
        have t1 : (x.k == y.k) = true := by simpa using e1
        have t2 := str_yes e2
        have t3 := str_not e3
        clear e1 e2 e3 HR EQ
        go_enter Try.func23, Try.ntmps23
        go_wp2
        go_ret
        exact ⟨by rw [HR'.out]; rfl, HB.out⟩
    · have HR' : Hid (r = false) := by show r = false; rw [HR.out, decide_eq_true e1, decide_eq_false e2]; simp
      have t1 : (x.k == y.k) = true := by simpa using e1
      have t2 := str_not e2
      clear e1 e2 HR EQ
      go_enter Try.func23, Try.ntmps23
      go_wp2
      go_ret
      exact ⟨by rw [HR'.out]; rfl, HB.out⟩
  · have HR' : Hid (r = false) := by show r = false; rw [HR.out, decide_eq_false e1]; simp
    have t1 : (x.k == y.k) = false := by simpa using e1
    clear e1 HR EQ
    go_enter Try.func23, Try.ntmps23
    go_wp2
    go_ret
    exact ⟨by rw [HR'.out]; rfl, HB.out⟩
end Go.Proofs.Ytinnhaojmnmliaa
