/-
  The document's Same of patterns.
  The document's Rename: a row of patterns that grows; of no function.
-/
import Derived.Test.YtjclelmbpmlioaaJPatMath
import Derived.Test.YtjclelmbpmlioaaJNamesMath
import Derived.Test.YtjclelmbpmlioaaJPatRename
import Derived.Deep.RegionWith
import Derived.Maps.AppendAt
namespace Go.Proofs.Ytjclelmbpmlioaa
open Go.RowKit

theorem ne_yes {a b : Int} (h : a = b) : (a != b) = false := by simp [h]
theorem ne_no {a b : Int} (h : ¬ a = b) : (a != b) = true := by simp [h]
/-- Two that differ in a field. -/
theorem sameP_false {x y : Pt} (h : ¬ (x.k = y.k ∧ x.s = y.s ∧ x.t = y.t ∧ x.lo = y.lo ∧ x.hi = y.hi ∧ x.n = y.n)) : sameP x y = false := by
  rw [Bool.eq_false_iff]
  intro e
  obtain ⟨h1, h2, h3, h4, h5, h6, _⟩ := (sm_iff x y).1 e
  exact h ⟨h1, h2, h3, h4, h5, h6⟩
theorem sameP_part {x y : Pt} {i : Nat} (hi : i < x.n) (h : sameP (x.c i) (y.c i) = false) : sameP x y = false := by
  rw [Bool.eq_false_iff]
  intro e
  have := ((sm_iff x y).1 e).2.2.2.2.2.2 i hi
  unfold Sm at this
  rw [h] at this
  cases this
set_option maxRecDepth 100000 in
set_option maxHeartbeats 4000000 in
theorem refSameP_row (x y : Pt) (w : World) (hX : IsP w x) (hY : IsP w y) (e1 : x.k = y.k) (e2 : x.s = y.s) (e3 : x.t = y.t) (e4 : x.lo = y.lo) (e5 : x.hi = y.hi) (e6 : x.n = y.n)
    (ih : ∀ i, i < x.n → ∀ (y : Pt) (w : World), IsP w (x.c i) → IsP w y → Calls Try.prog 8 #[(x.c i).val, y.val] w fun e w' => e = .returned (.bool (sameP (x.c i) y)) ∧ Below w.heap.size w w') :
    Calls Try.prog 8 #[x.val, y.val] w fun e w' => e = .returned (.bool (sameP x y)) ∧ Below w.heap.size w w' := by
  obtain ⟨r, hr⟩ : ∃ r, r = sameP x y := ⟨_, rfl⟩
  have HF : Hid (∀ i, i < x.n → sameP (x.c i) (y.c i) = false → r = false) := fun i hi h => hr.trans (sameP_part hi h)
  have HT : Hid ((∀ i, i < x.n → sameP (x.c i) (y.c i) = true) → r = true) := fun h => hr.trans ((sm_iff x y).2 ⟨e1, e2, e3, e4, e5, e6, h⟩)
  rw [← hr]
  obtain ⟨A, hA, hB, hs, hn, hm⟩ := boxP_two x y w
  obtain ⟨a0, a1, a2, a3, a4, a5⟩ := hn.at0
  obtain ⟨b0, b1, b2, b3, b4, b5⟩ := hm.at0
  have hlen := hX.len
  have HI : Hid (∀ i, i < x.n → ∀ W, Below w.heap.size w W → Calls Try.prog 8 #[(x.c i).val, (y.c i).val] W fun e w' => e = .returned (.bool (sameP (x.c i) (y.c i))) ∧ Below W.heap.size W w') := fun i hi W hW => by
    obtain ⟨_, _, _, _, h1⟩ := (hX.later hW).part hi
    obtain ⟨_, _, _, _, h2⟩ := (hY.later hW).part (e6 ▸ hi)
    exact ih i hi _ W h1 h2
  have HX : Hid (IsP w x) := hX
  have HY : Hid (IsP w y) := hY
  have HB : Hid (Below w.heap.size w A) := hB
  have HN : Hid (NodeP A w.heap.size 0 x) := hn
  have HM : Hid (NodeP A (w.heap.size + 1) 0 y) := hm
  have HS : Hid (A.heap.size = w.heap.size + 2) := hs
  have H6 : Hid (x.n = y.n) := e6
  have t1 := ne_yes e1
  have t2 := str_yes e2
  have t3 := str_yes e3
  have t4 := ne_yes e4
  have t5 := ne_yes e5
  have t6 := ne_yes (show ((x.n : Nat) : Int) = ((y.n : Nat) : Int) by rw [e6])
  clear ih hX hY hr hB hn hm hs e1 e2 e3 e4 e5 e6
  go_enter Try.func8, Try.ntmps8
  go_wp2
  go_loopw [5] (fun u wr => ∃ k : Nat, k ≤ x.n ∧ u = .int .i64 k ∧ Hid (∀ i, i < k → sameP (x.c i) (y.c i) = true) ∧ Below A.heap.size A wr) (fun u _ => x.n - (intOf u).toNat)
  case atStart => exact ⟨0, Nat.zero_le _, rfl, fun i hi => absurd hi (Nat.not_lt_zero _), Below.refl _ _⟩
  case round =>
    obtain ⟨k, hk, rfl, HK, hB⟩ := hrel
    have hs := HS.out
    have hw := HB.out.trans (hB.mono (by omega))
    obtain ⟨-, -, -, -, -, c5⟩ := (HN.out.below hB (by omega)).at0
    obtain ⟨-, -, -, -, -, g5⟩ := (HM.out.below hB (by omega)).at0
    clear a0 a1 a2 a3 a4 a5 b0 b1 b2 b3 b4 b5 t1 t2 t3 t4 t5 t6
    by_cases hkn : k < x.n
    · have hkm : k < y.n := by have := H6.out; omega
      obtain ⟨b, o, ea, hn, -⟩ := (HX.out.later hw).part hkn
      obtain ⟨b', o', ea', hn', -⟩ := (HY.out.later hw).part hkm
      rw [ea] at c5
      rw [ea'] at g5
      obtain ⟨d0, d1, d2, d3, d4, d5⟩ := hn
      obtain ⟨f0, f1, f2, f3, f4, f5⟩ := hn'
      have hc := HI.out k hkn wr.drew (hw.trans (Below.refl _ _).drew)
      have HKN : Hid (k < x.n) := hkn
      have HQ : Hid (Below w.heap.size w wr) := hw
      obtain ⟨q, hq⟩ : ∃ q, q = sameP (x.c k) (y.c k) := ⟨_, rfl⟩
      rw [← hq] at hc
      have HE : Hid (q = sameP (x.c k) (y.c k)) := hq
      clear hw hq ea ea' hs
      go_wp2
      go_region_with (go_at_call 8; refine hc.mono ?_; clear hc; rintro e w2 ⟨rfl, hB2⟩)
      all_goals cases q
      all_goals go_wp2
      all_goals first
        | (go_ret; exact ⟨by rw [HF.out k HKN.out HE.out.symm]; rfl, HQ.out.trans ((Below.refl _ _).drew.trans (hB2.mono (by have := HQ.out.size; exact this)))⟩)
        | (go_roundw
           case rel =>
             refine ⟨k + 1, HKN.out, by go_num, fun i hi => ?_, hB.trans ((Below.refl _ _).drew.trans (hB2.mono hB.size))⟩
             by_cases e : i = k
             · rw [e]; exact HE.out.symm
             · exact HK.out i (by omega)
           case measure => have := HKN.out; simp [intOf]; omega)
    · obtain rfl : k = x.n := by omega
      go_wp2
      go_ret
      exact ⟨by rw [HT.out HK.out]; rfl, hw⟩
set_option maxRecDepth 100000 in
set_option maxHeartbeats 8000000 in
theorem refSameP_any : ∀ (x y : Pt) (w : World), IsP w x → IsP w y → Calls Try.prog 8 #[x.val, y.val] w fun e w' => e = .returned (.bool (sameP x y)) ∧ Below w.heap.size w w' := by
  refine Pt.ind fun x ih y w hX hY => ?_
  by_cases h : x.k = y.k ∧ x.s = y.s ∧ x.t = y.t ∧ x.lo = y.lo ∧ x.hi = y.hi ∧ x.n = y.n
  · obtain ⟨e1, e2, e3, e4, e5, e6⟩ := h
    exact refSameP_row x y w hX hY e1 e2 e3 e4 e5 e6 ih
  · rw [sameP_false h]
    obtain ⟨A, hA, hB, hs, hn, hm⟩ := boxP_two x y w
    obtain ⟨a0, a1, a2, a3, a4, a5⟩ := hn.at0
    obtain ⟨b0, b1, b2, b3, b4, b5⟩ := hm.at0
    have HB : Hid (Below w.heap.size w A) := hB
    clear ih hX hY hB hn hm hs
    by_cases e1 : x.k = y.k
    · have t1 := ne_yes e1
      by_cases e2 : x.s = y.s
      · have t2 := str_yes e2
        by_cases e3 : x.t = y.t
        · have t3 := str_yes e3
          by_cases e4 : x.lo = y.lo
          · have t4 := ne_yes e4
            by_cases e5 : x.hi = y.hi
            · have t5 := ne_yes e5
              have t6 := ne_no (show ¬ ((x.n : Nat) : Int) = ((y.n : Nat) : Int) from fun q => h ⟨e1, e2, e3, e4, e5, by omega⟩)
              clear h e1 e2 e3 e4 e5
              go_enter Try.func8, Try.ntmps8
              go_wp2
              go_ret
              exact ⟨rfl, HB.out⟩
            · have t5 := ne_no e5
              clear h e1 e2 e3 e4 e5
              go_enter Try.func8, Try.ntmps8
              go_wp2
              go_ret
              exact ⟨rfl, HB.out⟩
          · have t4 := ne_no e4
            clear h e1 e2 e3 e4
            go_enter Try.func8, Try.ntmps8
            go_wp2
            go_ret
            exact ⟨rfl, HB.out⟩
        · have t3 := str_not e3
          clear h e1 e2 e3
          go_enter Try.func8, Try.ntmps8
          go_wp2
          go_ret
          exact ⟨rfl, HB.out⟩
      · have t2 := str_not e2
        clear h e1 e2
        go_enter Try.func8, Try.ntmps8
        go_wp2
        go_ret
        exact ⟨rfl, HB.out⟩
    · have t1 := ne_no e1
      clear h e1
      go_enter Try.func8, Try.ntmps8
      go_wp2
      go_ret
      exact ⟨rfl, HB.out⟩
end Go.Proofs.Ytjclelmbpmlioaa
namespace Go.Proofs.Ytjclelmbpmlioaa
open Go.RowKit

theorem IsP.kept {T : Nat → Prop} {W W' : World} (h : Kp T W W') : ∀ {x : Pt}, (∀ k, inP k x → T k) → IsP W x → IsP W' x := by
  refine @(Pt.ind fun x ih hT hx => ?_)
  rw [isP_eq] at hx ⊢
  refine ⟨hx.1, hx.2.1, fun i hi => ?_⟩
  obtain ⟨b, o, e, hn, hc⟩ := hx.2.2 i hi
  have hb : T b := hT b ((inP_eq _ _).2 (.inl ⟨by omega, o, e⟩))
  exact ⟨b, o, e, hn.kept h hb, ih i hi (fun k hk => hT k ((inP_eq _ _).2 (.inr ⟨i, hi, hk⟩))) hc⟩
theorem inP_ltI {w : World} {k : Nat} : ∀ {x : Pt}, IsP w x → inP k x → k < w.heap.size := by
  refine @(Pt.ind fun x ih hx hk => ?_)
  rw [isP_eq] at hx
  rcases (inP_eq _ _).1 hk with ⟨h0, o, e⟩ | ⟨i, hi, hk⟩
  · obtain ⟨b, o', e', hn, _⟩ := hx.2.2 0 h0
    rw [e] at e'
    cases e'
    exact hn.lt
  · obtain ⟨b, o', e', _, hc⟩ := hx.2.2 i hi
    exact ih i hi hc hk
/-- One more. -/
def updP (c : Nat → Pt) (i : Nat) (y : Pt) : Nat → Pt := fun j => if j = i then y else c j
theorem updP_same (c : Nat → Pt) (i : Nat) (y : Pt) : updP c i y i = y := by simp [updP]
theorem updP_other {c : Nat → Pt} {i j : Nat} {y : Pt} (h : j ≠ i) : updP c i y j = c j := by simp [updP, h]
theorem rowP_upd (c : Nat → Pt) (i : Nat) (y : Pt) : rowP (updP c i y) (i + 1) = rowP c i ++ y.cells.toList := by
  rw [rowP, updP_same, rowP_congr fun j hj => updP_other (by omega)]
/-- The parts of a row: each a pattern in its world, new since B, none of them in the row's own block. -/
def GrownP (B : Nat) (w : World) (u : Value) (i : Nat) (c : Nat → Pt) : Prop :=
  w.ownsRow B 24 6 u i (rowP c i) ∧ ∀ j, j < i → IsP w (c j) ∧ ∀ k, inP k (c j) → B ≤ k ∧ u.ownBlock ≠ some k
theorem grownP_nil (B : Nat) (w : World) (c : Nat → Pt) : GrownP B w (.slice none 0 0) 0 c := ⟨World.ownsRow_nil _ _ _ _, fun _ h => absurd h (Nat.not_lt_zero _)⟩
theorem GrownP.later {B i : Nat} {w w' : World} {u : Value} {c : Nat → Pt} (h : GrownP B w u i c) (hB : Below w.heap.size w w') : GrownP B w' u i c :=
  ⟨own_laterS h.1 hB, fun j hj => ⟨(h.2 j hj).1.later hB, (h.2 j hj).2⟩⟩
/-- One more behind them: what the append makes of it. -/
theorem GrownP.push {B i : Nat} {w : World} {u : Value} {c : Nat → Pt} (h : GrownP B w u i c) (hb : B ≤ w.heap.size) (hi : i ≤ 1759218604390) (y : Pt) (hy : IsP w y) (hn : ∀ k, inP k y → B ≤ k ∧ u.ownBlock ≠ some k) :
    ∃ a' cap' w', (Builtin.append_ #[22, 22] 22 #[u, .slice (some ⟨w.heap.size, 0, none⟩) 1 1]).run Try.prog (w.alloc (.cells y.cells 24)) = .ok (.slice a' (i + 1) cap') w' ∧
      GrownP B w' (.slice a' (i + 1) cap') (i + 1) (updP c i y) ∧ Below B w w' ∧ w.heap.size ≤ w'.heap.size := by
  obtain ⟨i0, hi0, hz0, hz1, hz2⟩ := info_parts infoP
  have hB0 : Below w.heap.size w (w.alloc (.cells y.cells 24)) := (Below.refl _ _).alloc (Nat.le_refl _) _
  have hrow : ∀ j v, (y.cells.toList)[j]? = some v → (w.alloc (.cells y.cells 24)).cell? ((Addr.mk w.heap.size 0 none).add j) = some v := by
    have := nodesP_cells (w := w.alloc (.cells y.cells 24)) (b := w.heap.size) (o := 0) (n := 1) (c := fun _ => y) fun q hq => by
      obtain rfl : q = 0 := by omega
      exact nodeP_new w _ y
    simpa [rowP] using this
  obtain ⟨v', w', hrun, hown', hgrow, _, hat⟩ := run_append_own_at (P := Try.prog) (w := w.alloc (.cells y.cells 24)) B 22 22 24 i0 _ 6 80 Try.underlying22 hi0 hz0 hz1 hz2 rfl (by decide) u i (rowP c i) (h.1.alloc _) ⟨w.heap.size, 0, none⟩ 1 1 y.cells.toList rfl
    hrow (fun q hq => by simp at hq; rcases hq with rfl | rfl | rfl | rfl | rfl | rfl <;> rfl) (by unfold maxLen; omega) (by omega) (by simp; omega)
  rw [← rowP_upd] at hown'
  obtain ⟨a', cap', rfl, hcap, _, _⟩ := ownP_nodes hown'
  have hlt : ∀ q, u.ownBlock = some q → B ≤ q ∧ q < w.heap.size := fun q e => ⟨(h.1.lt q e).1, (h.1.lt q e).2⟩
  have hBw : Below B w w' := (hB0.mono hb).grown hgrow (by simp; omega) fun q e => (hlt q e).1
  have hk : Kp (fun q => u.ownBlock ≠ some q) w w' := fun q o hq _ e => (hgrow.block q (by have := (Array.getElem?_eq_some_iff.1 e).1; simp; omega) fun e' => hq e'.symm).trans ((hB0.block q (Array.getElem?_eq_some_iff.1 e).1).trans e)
  have hown'' : ∀ q, q < w.heap.size → u.ownBlock ≠ some q → (Value.slice a' (i + 1) cap').ownBlock ≠ some q := fun q hq h1 h2 => by
    rcases hat with h3 | h3
    · rw [h3] at h2; exact h1 h2
    · rw [h3] at h2
      injection h2 with h2
      simp at h2
      omega
  refine ⟨a', cap', w', hrun, ⟨hown', fun j hj => ?_⟩, hBw, by have := hgrow.size; simp at this; omega⟩
  by_cases e : j = i
  · subst e
    rw [updP_same]
    exact ⟨hy.kept hk fun q hq => (hn q hq).2, fun q hq => ⟨(hn q hq).1, hown'' q (inP_ltI hy hq) (hn q hq).2⟩⟩
  · rw [updP_other e]
    obtain ⟨q1, q2⟩ := h.2 j (by omega)
    exact ⟨q1.kept hk fun q hq => (q2 q hq).2, fun q hq => ⟨(q2 q hq).1, hown'' q (inP_ltI q1 hq) (q2 q hq).2⟩⟩
/-- A row as the parts of a pattern. -/
theorem GrownP.is {B i : Nat} {w : World} {a : Option Addr} {cap : Nat} {c : Nat → Pt} (h : GrownP B w (.slice a i cap) i c) (k : Int) (s t : ByteArray) (lo hi : Int) :
    IsP w (.mk k s t lo hi a i cap c) ∧ ∀ q, inP q (.mk k s t lo hi a i cap c) → B ≤ q := by
  obtain ⟨a', cap', e, h1, h2, h3⟩ := ownP_nodes h.1
  cases e
  refine ⟨⟨h1, by unfold maxLen at h2; omega, fun j hj => ?_⟩, fun q hq => ?_⟩
  · obtain ⟨g, e, _, _, _, hn⟩ := h3 (by omega)
    exact ⟨g, 0, e, by rw [Nat.zero_add]; exact hn j hj, (h.2 j hj).1⟩
  · rcases hq with ⟨h0, o, e⟩ | ⟨j, hj, hq⟩
    · obtain ⟨g, e', hg, _⟩ := h3 h0
      rw [e'] at e
      cases e
      exact hg
    · exact ((h.2 j hj).2 q hq).1
end Go.Proofs.Ytjclelmbpmlioaa
