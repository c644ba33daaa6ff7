/-
  Patterns as they lie in memory; of no function.
  The document's Same of patterns.
  A slice of texts, by index.
  Of what came in: how much it is, cells of small types; of no function.
  Queries as they lie in memory; items in rows of four cells; of no function.
  The closure of expr.nodes that goes down (nodes$1$1), for whatever is done at the nodes.
-/
import Derived.Test.YtinnhaojmnmliaaGreatCExprMath
import Derived.Test.YtinnhaojmnmliaaGreatCTxt
import Derived.Test.YtinnhaojmnmliaaGreatCValOrderMath
import Derived.BigQuiet
import Derived.Deep.RegionWith
import Derived.Deep.Strs
import Derived.RangeFuncNested
import Derived.RangeFuncBound
import Derived.RangeFuncCalls
import Derived.RangeFuncLeaves
import Derived.RangeFuncBox
import Derived.Shelf.Abstract
import Derived.Shelf.RegionOpen
import Derived.WalkKit
import Derived.OwnWalkIn
import Derived.TacticsInMore
import Derived.LoopNIn
import Derived.LoopIn
namespace Go.Proofs.YtinnhaojmnmliaaGreat
open Go.RowKit

abbrev Pt.slice (x : Pt) : Value := .slice x.a x.n x.cap
/-- A pattern as a value. -/
abbrev Pt.val (x : Pt) : Value := .agg #[.int .i64 x.k, .string x.s, .string x.t, .int .i64 x.lo, .int .i64 x.hi, .slice x.a x.n x.cap]
/-- The six cells of a node. -/
def NodeP (w : World) (b o : Nat) (x : Pt) : Prop :=
  w.cell? ⟨b, o, none⟩ = some (.int .i64 x.k) ∧ w.cell? ⟨b, o + 1, none⟩ = some (.string x.s) ∧ w.cell? ⟨b, o + 2, none⟩ = some (.string x.t) ∧ w.cell? ⟨b, o + 3, none⟩ = some (.int .i64 x.lo) ∧
    w.cell? ⟨b, o + 4, none⟩ = some (.int .i64 x.hi) ∧ w.cell? ⟨b, o + 5, none⟩ = some (.slice x.a x.n x.cap)
/-- All that lies below a pattern. -/
def IsP (w : World) : Pt → Prop
  | .nil => True
  | .mk _ _ _ _ _ a n cap c => n ≤ cap ∧ cap ≤ 9223372036854775807 ∧ ∀ i, i < n → ∃ b o, a = some ⟨b, o, none⟩ ∧ NodeP w b (o + i * 6) (c i) ∧ IsP w (c i)
theorem isP_eq (w : World) (x : Pt) : IsP w x ↔ x.n ≤ x.cap ∧ x.cap ≤ 9223372036854775807 ∧ ∀ i, i < x.n → ∃ b o, x.a = some ⟨b, o, none⟩ ∧ NodeP w b (o + i * 6) (x.c i) ∧ IsP w (x.c i) := by
  cases x with
  | nil => simp [IsP, Pt.n, Pt.cap]
  | mk => rfl
theorem IsP.part {w : World} {x : Pt} (h : IsP w x) {i : Nat} (hi : i < x.n) : ∃ b o, x.a = some ⟨b, o, none⟩ ∧ NodeP w b (o + i * 6) (x.c i) ∧ IsP w (x.c i) := ((isP_eq w x).1 h).2.2 i hi
theorem IsP.len {w : World} {x : Pt} (h : IsP w x) : x.n ≤ 9223372036854775807 := by have := (isP_eq w x).1 h; omega
theorem NodeP.of {w w' : World} {b o : Nat} {x : Pt} (h : NodeP w b o x) (hk : ∀ j, j < 6 → w'.cell? ⟨b, o + j, none⟩ = w.cell? ⟨b, o + j, none⟩) : NodeP w' b o x :=
  ⟨(hk 0 (by omega)).trans h.1, (hk 1 (by omega)).trans h.2.1, (hk 2 (by omega)).trans h.2.2.1, (hk 3 (by omega)).trans h.2.2.2.1, (hk 4 (by omega)).trans h.2.2.2.2.1, (hk 5 (by omega)).trans h.2.2.2.2.2⟩
theorem NodeP.lt {w : World} {b o : Nat} {x : Pt} (h : NodeP w b o x) : b < w.heap.size := by
  have h0 := h.1
  simp only [World.cell?] at h0
  by_cases hb : b < w.heap.size
  · exact hb
  · rw [Array.getElem?_eq_none (by omega)] at h0
    cases h0
theorem NodeP.later {w w' : World} {b o : Nat} {x : Pt} (h : NodeP w b o x) (hB : Below w.heap.size w w') : NodeP w' b o x := h.of fun j _ => hB.cell (p := ⟨b, o + j, none⟩) h.lt
theorem IsP.later {w w' : World} (hB : Below w.heap.size w w') : ∀ {x : Pt}, IsP w x → IsP w' x
  | .nil, _ => trivial
  | .mk _ _ _ _ _ _ _ _ c, h => by
    obtain ⟨h1, h2, h3⟩ := h
    refine ⟨h1, h2, fun i hi => ?_⟩
    obtain ⟨b, o, e, hn, hx⟩ := h3 i hi
    exact ⟨b, o, e, hn.later hB, IsP.later hB hx⟩
/-- What lies below n₀ alone. -/
def PIn (n₀ : Nat) (w : World) : Pt → Prop
  | .nil => True
  | .mk _ _ _ _ _ a n cap c => n ≤ cap ∧ cap ≤ 9223372036854775807 ∧ ∀ i, i < n → ∃ b o, a = some ⟨b, o, none⟩ ∧ b < n₀ ∧ NodeP w b (o + i * 6) (c i) ∧ PIn n₀ w (c i)
theorem pIn_eq (n₀ : Nat) (w : World) (x : Pt) : PIn n₀ w x ↔ x.n ≤ x.cap ∧ x.cap ≤ 9223372036854775807 ∧ ∀ i, i < x.n → ∃ b o, x.a = some ⟨b, o, none⟩ ∧ b < n₀ ∧ NodeP w b (o + i * 6) (x.c i) ∧ PIn n₀ w (x.c i) := by
  cases x with
  | nil => simp [PIn, Pt.n, Pt.cap]
  | mk => rfl
theorem IsP.inn {w : World} : ∀ {x : Pt}, IsP w x → PIn w.heap.size w x
  | .nil, _ => trivial
  | .mk _ _ _ _ _ _ _ _ c, h => by
    obtain ⟨h1, h2, h3⟩ := h
    refine ⟨h1, h2, fun i hi => ?_⟩
    obtain ⟨b, o, e, hn, hx⟩ := h3 i hi
    exact ⟨b, o, e, hn.lt, hn, hx.inn⟩
theorem PIn.is {n₀ : Nat} {w : World} : ∀ {x : Pt}, PIn n₀ w x → IsP w x
  | .nil, _ => trivial
  | .mk _ _ _ _ _ _ _ _ c, h => by
    obtain ⟨h1, h2, h3⟩ := h
    refine ⟨h1, h2, fun i hi => ?_⟩
    obtain ⟨b, o, e, _, hn, hx⟩ := h3 i hi
    exact ⟨b, o, e, hn, hx.is⟩
theorem NodeP.below {n₀ : Nat} {w w' : World} {b o : Nat} {x : Pt} (h : NodeP w b o x) (hB : Below n₀ w w') (hb : b < n₀) : NodeP w' b o x := h.of fun j _ => hB.cell (p := ⟨b, o + j, none⟩) hb
theorem PIn.below {n₀ : Nat} {w w' : World} (hB : Below n₀ w w') : ∀ {x : Pt}, PIn n₀ w x → PIn n₀ w' x
  | .nil, _ => trivial
  | .mk _ _ _ _ _ _ _ _ c, h => by
    obtain ⟨h1, h2, h3⟩ := h
    refine ⟨h1, h2, fun i hi => ?_⟩
    obtain ⟨b, o, e, hb, hn, hx⟩ := h3 i hi
    exact ⟨b, o, e, hb, hn.below hB hb, PIn.below hB hx⟩
theorem PIn.mono {n₀ n₁ : Nat} {w : World} (hn : n₀ ≤ n₁) : ∀ {x : Pt}, PIn n₀ w x → PIn n₁ w x
  | .nil, _ => trivial
  | .mk _ _ _ _ _ _ _ _ c, h => by
    obtain ⟨h1, h2, h3⟩ := h
    refine ⟨h1, h2, fun i hi => ?_⟩
    obtain ⟨b, o, e, hb, hn', hx⟩ := h3 i hi
    exact ⟨b, o, e, by omega, hn', PIn.mono hn hx⟩
/-- Texts no longer than texts can be. -/
def POk : Pt → Prop
  | .nil => True
  | .mk _ s t _ _ _ n _ c => s.size ≤ maxLen ∧ t.size ≤ maxLen ∧ ∀ i, i < n → POk (c i)
theorem pOk_eq (x : Pt) : POk x ↔ x.s.size ≤ maxLen ∧ x.t.size ≤ maxLen ∧ ∀ i, i < x.n → POk (x.c i) := by
  cases x with
  | nil => exact ⟨fun _ => ⟨Nat.zero_le _, Nat.zero_le _, fun i hi => absurd hi (Nat.not_lt_zero _)⟩, fun _ => trivial⟩
  | mk => rfl
/-- The six cells of a pattern as one value. -/
abbrev Pt.cells (x : Pt) : Array Value := #[.int .i64 x.k, .string x.s, .string x.t, .int .i64 x.lo, .int .i64 x.hi, .slice x.a x.n x.cap]
theorem nodeP_box {w : World} {B : Nat} {t : TypeId} {x : Pt} (h : w.heap[B]? = some (.cells x.cells t (0, 0))) : NodeP w B 0 x := by
  refine ⟨?_, ?_, ?_, ?_, ?_, ?_⟩ <;> simp [World.cell?, h]
theorem nodeP_new (w : World) (t : TypeId) (x : Pt) : NodeP (w.alloc (.cells x.cells t)) w.heap.size 0 x := nodeP_box (World.alloc_heap_new w _)
theorem NodeP.at0 {w : World} {B : Nat} {x : Pt} (h : NodeP w B 0 x) : w.cell? ⟨B, 0, none⟩ = some (.int .i64 x.k) ∧ w.cell? ⟨B, 1, none⟩ = some (.string x.s) ∧ w.cell? ⟨B, 2, none⟩ = some (.string x.t) ∧ w.cell? ⟨B, 3, none⟩ = some (.int .i64 x.lo) ∧
    w.cell? ⟨B, 4, none⟩ = some (.int .i64 x.hi) ∧ w.cell? ⟨B, 5, none⟩ = some (.slice x.a x.n x.cap) := by
  have := h
  simp only [NodeP, Nat.zero_add] at this
  exact this
/-- The box that holds a pattern stays. -/
theorem nodeP_on {w A W : World} {x : Pt} (hn : NodeP A w.heap.size 0 x) (hB : Below (w.heap.size + 1) A W) : NodeP W w.heap.size 0 x := hn.below hB (by omega)
/-- A pattern in a box of its own. -/
theorem boxP_one (x : Pt) (w : World) : ∃ A, w.alloc (.cells x.cells 24) = A ∧ Below w.heap.size w A ∧ A.heap.size = w.heap.size + 1 ∧ NodeP A w.heap.size 0 x :=
  ⟨_, rfl, (Below.refl _ w).alloc (Nat.le_refl _) _, by simp, nodeP_new w _ x⟩
theorem boxP_two (x y : Pt) (w : World) : ∃ A, (w.alloc (.cells x.cells 24)).alloc (.cells y.cells 24) = A ∧ Below w.heap.size w A ∧ A.heap.size = w.heap.size + 2 ∧ NodeP A w.heap.size 0 x ∧ NodeP A (w.heap.size + 1) 0 y := by
  refine ⟨_, rfl, ((Below.refl _ w).alloc (Nat.le_refl _) _).alloc (by simp) _, by simp, (nodeP_new w _ x).later ((Below.refl _ _).alloc (Nat.le_refl _) _), ?_⟩
  have := nodeP_new (w.alloc (.cells x.cells 24)) 24 y
  rwa [World.size_alloc] at this
theorem lengthP_le_size (v : Pt) : v.n ≤ v.size := by
  have : ∀ m, m ≤ sumN (fun i => (v.c i).size) m := by
    intro m
    induction m with
    | zero => exact Nat.le_refl _
    | succ m ih => have := (v.c m).size_pos; simp only [sumN]; omega
  have := this v.n
  rw [v.size_eq]
  omega
/-- The machine's numbers. -/
def INat (z : Int) : Prop := -9223372036854775808 ≤ z ∧ z < 9223372036854775808
end Go.Proofs.YtinnhaojmnmliaaGreat
namespace Go.Proofs.YtinnhaojmnmliaaGreat
open Go.RowKit

theorem ne_yes {a b : Int} (h : a = b) : (a != b) = false := by simp [h]
theorem ne_no {a b : Int} (h : ¬ a = b) : (a != b) = true := by simp [h]
/-- Two that differ in a field. -/
theorem sameP_false {x y : Pt} (h : ¬ (x.k = y.k ∧ x.s = y.s ∧ x.t = y.t ∧ x.lo = y.lo ∧ x.hi = y.hi ∧ x.n = y.n)) : sameP x y = false := by
  rw [Bool.eq_false_iff]
  intro e
  obtain ⟨h1, h2, h3, h4, h5, h6, _⟩ := (sm_iff x y).1 e
  exact h ⟨h1, h2, h3, h4, h5, h6⟩
theorem sameP_part {x y : Pt} {i : Nat} (hi : i < x.n) (h : sameP (x.c i) (y.c i) = false) : sameP x y = false := by
  rw [Bool.eq_false_iff]
  intro e
  have := ((sm_iff x y).1 e).2.2.2.2.2.2 i hi
  unfold Sm at this
  rw [h] at this
  cases this
set_option maxRecDepth 100000 in
set_option maxHeartbeats 4000000 in
theorem refSameP_row (x y : Pt) (w : World) (hX : IsP w x) (hY : IsP w y) (e1 : x.k = y.k) (e2 : x.s = y.s) (e3 : x.t = y.t) (e4 : x.lo = y.lo) (e5 : x.hi = y.hi) (e6 : x.n = y.n)
    (ih : ∀ i, i < x.n → ∀ (y : Pt) (w : World), IsP w (x.c i) → IsP w y → Calls Tryz.prog 39 #[(x.c i).val, y.val] w fun e w' => e = .returned (.bool (sameP (x.c i) y)) ∧ Below w.heap.size w w') :
    Calls Tryz.prog 39 #[x.val, y.val] w fun e w' => e = .returned (.bool (sameP x y)) ∧ Below w.heap.size w w' := by
  obtain ⟨r, hr⟩ : ∃ r, r = sameP x y := ⟨_, rfl⟩
  have HF : Hid (∀ i, i < x.n → sameP (x.c i) (y.c i) = false → r = false) := fun i hi h => hr.trans (sameP_part hi h)
  have HT : Hid ((∀ i, i < x.n → sameP (x.c i) (y.c i) = true) → r = true) := fun h => hr.trans ((sm_iff x y).2 ⟨e1, e2, e3, e4, e5, e6, h⟩)
  rw [← hr]
  obtain ⟨A, hA, hB, hs, hn, hm⟩ := boxP_two x y w
  obtain ⟨a0, a1, a2, a3, a4, a5⟩ := hn.at0
  obtain ⟨b0, b1, b2, b3, b4, b5⟩ := hm.at0
  have hlen := hX.len
  have HI : Hid (∀ i, i < x.n → ∀ W, Below w.heap.size w W → Calls Tryz.prog 39 #[(x.c i).val, (y.c i).val] W fun e w' => e = .returned (.bool (sameP (x.c i) (y.c i))) ∧ Below W.heap.size W w') := fun i hi W hW => by
    obtain ⟨_, _, _, _, h1⟩ := (hX.later hW).part hi
    obtain ⟨_, _, _, _, h2⟩ := (hY.later hW).part (e6 ▸ hi)
    exact ih i hi _ W h1 h2
  have HX : Hid (IsP w x) := hX
  have HY : Hid (IsP w y) := hY
  have HB : Hid (Below w.heap.size w A) := hB
  have HN : Hid (NodeP A w.heap.size 0 x) := hn
  have HM : Hid (NodeP A (w.heap.size + 1) 0 y) := hm
  have HS : Hid (A.heap.size = w.heap.size + 2) := hs
  have H6 : Hid (x.n = y.n) := e6
  have t1 := ne_yes e1
  have t2 := str_yes e2
  have t3 := str_yes e3
  have t4 := ne_yes e4
  have t5 := ne_yes e5
  have t6 := ne_yes (show ((x.n : Nat) : Int) = ((y.n : Nat) : Int) by rw [e6])
  clear ih hX hY hr hB hn hm hs e1 e2 e3 e4 e5 e6
  go_enter Tryz.func39, Tryz.ntmps39
  go_wp2
  go_loopw [5] (fun u wr => ∃ k : Nat, k ≤ x.n ∧ u = .int .i64 k ∧ Hid (∀ i, i < k → sameP (x.c i) (y.c i) = true) ∧ Below A.heap.size A wr) (fun u _ => x.n - (intOf u).toNat)
  case atStart => exact ⟨0, Nat.zero_le _, rfl, fun i hi => absurd hi (Nat.not_lt_zero _), Below.refl _ _⟩
  case round =>
    obtain ⟨k, hk, rfl, HK, hB⟩ := hrel
    have hs := HS.out
    have hw := HB.out.trans (hB.mono (by omega))
    obtain ⟨-, -, -, -, -, c5⟩ := (HN.out.below hB (by omega)).at0
    obtain ⟨-, -, -, -, -, g5⟩ := (HM.out.below hB (by omega)).at0
    clear a0 a1 a2 a3 a4 a5 b0 b1 b2 b3 b4 b5 t1 t2 t3 t4 t5 t6
    by_cases hkn : k < x.n
    · have hkm : k < y.n := by have := H6.out; omega
      obtain ⟨b, o, ea, hn, -⟩ := (HX.out.later hw).part hkn
      obtain ⟨b', o', ea', hn', -⟩ := (HY.out.later hw).part hkm
      rw [ea] at c5
      rw [ea'] at g5
      obtain ⟨d0, d1, d2, d3, d4, d5⟩ := hn
      obtain ⟨f0, f1, f2, f3, f4, f5⟩ := hn'
      have hc := HI.out k hkn wr.drew (hw.trans (Below.refl _ _).drew)
      have HKN : Hid (k < x.n) := hkn
      have HQ : Hid (Below w.heap.size w wr) := hw
      obtain ⟨q, hq⟩ : ∃ q, q = sameP (x.c k) (y.c k) := ⟨_, rfl⟩
      rw [← hq] at hc
      have HE : Hid (q = sameP (x.c k) (y.c k)) := hq
      clear hw hq ea ea' hs
      go_wp2
      go_region_with (go_at_call 39; refine hc.mono ?_; clear hc; rintro e w2 ⟨rfl, hB2⟩)
      all_goals cases q
      all_goals go_wp2
      all_goals first
        | (go_ret; exact ⟨by rw [HF.out k HKN.out HE.out.symm]; rfl, HQ.out.trans ((Below.refl _ _).drew.trans (hB2.mono (by have := HQ.out.size; exact this)))⟩)
        | (go_roundw
           case rel =>
             refine ⟨k + 1, HKN.out, by go_num, fun i hi => ?_, hB.trans ((Below.refl _ _).drew.trans (hB2.mono hB.size))⟩
             by_cases e : i = k
             · rw [e]; exact HE.out.symm
             · exact HK.out i (by omega)
           case measure => have := HKN.out; simp [intOf]; omega)
    · obtain rfl : k = x.n := by omega
      go_wp2
      go_ret
      exact ⟨by rw [HT.out HK.out]; rfl, hw⟩
set_option maxRecDepth 100000 in
set_option maxHeartbeats 8000000 in
theorem refSameP_any : ∀ (x y : Pt) (w : World), IsP w x → IsP w y → Calls Tryz.prog 39 #[x.val, y.val] w fun e w' => e = .returned (.bool (sameP x y)) ∧ Below w.heap.size w w' := by
  refine Pt.ind fun x ih y w hX hY => ?_
  by_cases h : x.k = y.k ∧ x.s = y.s ∧ x.t = y.t ∧ x.lo = y.lo ∧ x.hi = y.hi ∧ x.n = y.n
  · obtain ⟨e1, e2, e3, e4, e5, e6⟩ := h
    exact refSameP_row x y w hX hY e1 e2 e3 e4 e5 e6 ih
  · rw [sameP_false h]
    obtain ⟨A, hA, hB, hs, hn, hm⟩ := boxP_two x y w
    obtain ⟨a0, a1, a2, a3, a4, a5⟩ := hn.at0
    obtain ⟨b0, b1, b2, b3, b4, b5⟩ := hm.at0
    have HB : Hid (Below w.heap.size w A) := hB
    clear ih hX hY hB hn hm hs
    by_cases e1 : x.k = y.k
    · have t1 := ne_yes e1
      by_cases e2 : x.s = y.s
      · have t2 := str_yes e2
        by_cases e3 : x.t = y.t
        · have t3 := str_yes e3
          by_cases e4 : x.lo = y.lo
          · have t4 := ne_yes e4
            by_cases e5 : x.hi = y.hi
            · have t5 := ne_yes e5
              have t6 := ne_no (show ¬ ((x.n : Nat) : Int) = ((y.n : Nat) : Int) from fun q => h ⟨e1, e2, e3, e4, e5, by omega⟩)
              clear h e1 e2 e3 e4 e5
              go_enter Tryz.func39, Tryz.ntmps39
              go_wp2
              go_ret
              exact ⟨rfl, HB.out⟩
            · have t5 := ne_no e5
              clear h e1 e2 e3 e4 e5
              go_enter Tryz.func39, Tryz.ntmps39
              go_wp2
              go_ret
              exact ⟨rfl, HB.out⟩
          · have t4 := ne_no e4
            clear h e1 e2 e3 e4
            go_enter Tryz.func39, Tryz.ntmps39
            go_wp2
            go_ret
            exact ⟨rfl, HB.out⟩
        · have t3 := str_not e3
          clear h e1 e2 e3
          go_enter Tryz.func39, Tryz.ntmps39
          go_wp2
          go_ret
          exact ⟨rfl, HB.out⟩
      · have t2 := str_not e2
        clear h e1 e2
        go_enter Tryz.func39, Tryz.ntmps39
        go_wp2
        go_ret
        exact ⟨rfl, HB.out⟩
    · have t1 := ne_no e1
      clear h e1
      go_enter Tryz.func39, Tryz.ntmps39
      go_wp2
      go_ret
      exact ⟨rfl, HB.out⟩
end Go.Proofs.YtinnhaojmnmliaaGreat
namespace Go.Proofs.YtinnhaojmnmliaaGreat
open Go.RowKit

/-- A slice of texts, by index. -/
def Txs (w : World) (a : Option Addr) (n : Nat) (S : Nat → ByteArray) : Prop := 0 < n → ∃ b o, a = some ⟨b, o, none⟩ ∧ ∀ j, j < n → w.cell? ⟨b, o + j, none⟩ = some (.string (S j))
theorem Txs.later {w w' : World} {a : Option Addr} {n : Nat} {S : Nat → ByteArray} (h : Txs w a n S) (hB : Below w.heap.size w w') : Txs w' a n S := fun h0 => by
  obtain ⟨b, o, e, hc⟩ := h h0
  exact ⟨b, o, e, fun j hj => cell_later (hc j hj) hB⟩
theorem Txs.lt {W : World} {a : Option Addr} {n : Nat} {S : Nat → ByteArray} (hx : Txs W a n S) (h0 : 0 < n) {b o : Nat} (e : a = some ⟨b, o, none⟩) : b < W.heap.size := by
  obtain ⟨b', o', e', hc⟩ := hx h0
  rw [e] at e'
  cases e'
  exact World.block_lt_of_cell? W _ (hc 0 h0)
end Go.Proofs.YtinnhaojmnmliaaGreat
namespace Go.Proofs.YtinnhaojmnmliaaGreat
open Go.RowKit Go.ChangeShapes Go.WideShapes

section
variable {H : Type}
theorem cells_i : Tryz.prog.cellsOf 3 = 1 := by kernel_rfl
theorem cells_s : Tryz.prog.cellsOf 9 = 1 := by kernel_rfl
theorem bulk_app (l r : List (DataW H)) : Rows.uptoBulkAll (l ++ r) = Rows.uptoBulkAll l + Rows.uptoBulkAll r := by
  induction l with
  | nil => simp [Rows.uptoBulkAll]
  | cons x l ih => simp only [List.cons_append, Rows.uptoBulkAll, ih]; omega
theorem bulk_range (D : Nat → DataW H) : ∀ n, Rows.uptoBulkAll ((List.range n).map D) = sumN (fun i => Rows.uptoBulk (D i)) n
  | 0 => rfl
  | n + 1 => by
    rw [List.range_succ, List.map_append, bulk_app, bulk_range D n]
    simp [sumN, Rows.uptoBulkAll]
theorem sumN_mono {f g : Nat → Nat} : ∀ {n : Nat}, (∀ i, i < n → f i ≤ g i) → sumN f n ≤ sumN g n
  | 0, _ => Nat.le_refl _
  | n + 1, h => by
    have h1 := sumN_mono (n := n) fun i hi => h i (by omega)
    have h2 := h n (by omega)
    simp only [sumN]
    omega
theorem add_none (b o j : Nat) : (Addr.mk b o none).add j = ⟨b, o + j, none⟩ := by
  unfold Addr.add
  split
  · simp
  · rfl
end
end Go.Proofs.YtinnhaojmnmliaaGreat
namespace Go.Proofs.YtinnhaojmnmliaaGreat
open Go.RowKit

/-- An item: its Name, kind, Var and Field. -/
structure It where
  nm : ByteArray
  k : Int
  s : ByteArray
  f : ByteArray
abbrev It.val (x : It) : Value := .agg #[.string x.nm, .int .i64 x.k, .string x.s, .string x.f]
/-- The four cells of an item. -/
def ItAt (w : World) (b o : Nat) (x : It) : Prop :=
  w.cell? ⟨b, o, none⟩ = some (.string x.nm) ∧ w.cell? ⟨b, o + 1, none⟩ = some (.int .i64 x.k) ∧ w.cell? ⟨b, o + 2, none⟩ = some (.string x.s) ∧ w.cell? ⟨b, o + 3, none⟩ = some (.string x.f)
theorem ItAt.lt {w : World} {b o : Nat} {x : It} (h : ItAt w b o x) : b < w.heap.size := World.block_lt_of_cell? w _ h.1
theorem ItAt.later {w w' : World} {b o : Nat} {x : It} (h : ItAt w b o x) (hB : Below w.heap.size w w') : ItAt w' b o x :=
  ⟨cell_later h.1 hB, cell_later h.2.1 hB, cell_later h.2.2.1 hB, cell_later h.2.2.2 hB⟩
theorem itAt_box {w : World} {B : Nat} {t : TypeId} {x : It} (h : w.heap[B]? = some (.cells #[.string x.nm, .int .i64 x.k, .string x.s, .string x.f] t (0, 0))) : ItAt w B 0 x := by
  refine ⟨?_, ?_, ?_, ?_⟩ <;> simp [World.cell?, h]
/-- Items in a slice, by index. -/
def Its (w : World) (a : Option Addr) (n : Nat) (I : Nat → It) : Prop := ∀ i, i < n → ∃ b o, a = some ⟨b, o, none⟩ ∧ ItAt w b (o + i * 4) (I i)
theorem Its.later {w w' : World} {a : Option Addr} {n : Nat} {I : Nat → It} (h : Its w a n I) (hB : Below w.heap.size w w') : Its w' a n I := fun i hi => by
  obtain ⟨b, o, e, hc⟩ := h i hi
  exact ⟨b, o, e, hc.later hB⟩
/-- A query: its pattern, its conditions (as the parts of one), Key, Mode, Within and items. -/
structure Qy where
  p : Pt
  a : Option Addr
  n : Nat
  cap : Nat
  c : Nat → X
  key : ByteArray
  mode : Int
  win : Int
  ia : Option Addr
  m : Nat
  icap : Nat
  it : Nat → It
/-- Its conditions as one. -/
abbrev Qy.x (q : Qy) : X := .mk 16 val0 ⟨#[]⟩ ⟨#[]⟩ q.a q.n q.cap q.c
abbrev Qy.cells (q : Qy) : Array Value := #[.int .i64 q.p.k, .string q.p.s, .string q.p.t, .int .i64 q.p.lo, .int .i64 q.p.hi, .slice q.p.a q.p.n q.p.cap, .slice q.a q.n q.cap, .string q.key, .int .i64 q.mode, .int .i64 q.win, .slice q.ia q.m q.icap]
abbrev Qy.val (q : Qy) : Value := .agg q.cells
structure IsQ (w : World) (q : Qy) : Prop where
  p : IsP w q.p
  x : IsX w q.x
  it : Its w q.ia q.m q.it
  len : q.m ≤ q.icap ∧ q.icap ≤ 9223372036854775807
theorem IsQ.later {w w' : World} {q : Qy} (h : IsQ w q) (hB : Below w.heap.size w w') : IsQ w' q := ⟨h.p.later hB, h.x.later hB, h.it.later hB, h.len⟩
/-- Texts no longer than texts can be. -/
structure QOk (q : Qy) : Prop where
  p : POk q.p
  x : XOk q.x
  key : q.key.size ≤ maxLen
  it : ∀ i, i < q.m → (q.it i).nm.size ≤ maxLen ∧ (q.it i).s.size ≤ maxLen ∧ (q.it i).f.size ≤ maxLen
/-- How much there is of it. -/
def Qy.bulk (q : Qy) : Nat := q.p.size + q.x.size + q.m
/-- The cells of some items, one behind the other. -/
abbrev It.cells (x : It) : Array Value := #[.string x.nm, .int .i64 x.k, .string x.s, .string x.f]
def rowI4 (c : Nat → It) : Nat → List Value
  | 0 => []
  | n + 1 => rowI4 c n ++ (c n).cells.toList
theorem rowI4_len (c : Nat → It) : ∀ n, (rowI4 c n).length = n * 4
  | 0 => rfl
  | n + 1 => by rw [rowI4, List.length_append, rowI4_len c n]; simp; omega
theorem rowI4_get (c : Nat → It) : ∀ n i j, i < n → j < 4 → (rowI4 c n)[i * 4 + j]? = (c i).cells[j]?
  | 0, _, _, h, _ => by omega
  | n + 1, i, j, h, hj => by
    rw [rowI4]
    by_cases e : i = n
    · subst e
      rw [List.getElem?_append_right (by rw [rowI4_len]; omega), rowI4_len, show i * 4 + j - i * 4 = j by omega]
      simp
    · rw [List.getElem?_append_left (by rw [rowI4_len]; omega)]
      exact rowI4_get c n i j (by omega) hj
theorem rowI4_one (c : Nat → It) : ∀ n, ∀ u ∈ rowI4 c n, u.oneCell' = true
  | 0, u, h => by simp [rowI4] at h
  | n + 1, u, h => by
    rw [rowI4, List.mem_append] at h
    rcases h with h | h
    · exact rowI4_one c n u h
    · simp at h
      rcases h with rfl | rfl | rfl | rfl <;> rfl
theorem rowI4_congr {c d : Nat → It} : ∀ {n : Nat}, (∀ i, i < n → c i = d i) → rowI4 c n = rowI4 d n
  | 0, _ => rfl
  | n + 1, h => by rw [rowI4, rowI4, rowI4_congr fun i hi => h i (by omega), h n (by omega)]
/-- Items, one behind the other, as cells. -/
theorem its_cells {w : World} {b o n : Nat} {c : Nat → It} (h : ∀ i, i < n → ItAt w b (o + i * 4) (c i)) : ∀ j u, (rowI4 c n)[j]? = some u → w.cell? ((Addr.mk b o none).add j) = some u := by
  intro j u hu
  have hj : j < n * 4 := by have := (List.getElem?_eq_some_iff.1 hu).1; rwa [rowI4_len] at this
  have hi : j / 4 < n := by omega
  have hm : j % 4 < 4 := Nat.mod_lt _ (by omega)
  have he : j / 4 * 4 + j % 4 = j := by omega
  have := rowI4_get c n (j / 4) (j % 4) hi hm
  rw [he, hu] at this
  rw [add_none]
  obtain ⟨d0, d1, d2, d3⟩ := h (j / 4) hi
  obtain ⟨m, hm'⟩ : ∃ m, m = j % 4 := ⟨_, rfl⟩
  rw [← hm'] at this hm he
  rw [show o + j = o + j / 4 * 4 + m by omega]
  match m, hm with
  | 0, _ => simp at this; rw [this]; exact d0
  | 1, _ => simp at this; rw [this]; exact d1
  | 2, _ => simp at this; rw [this]; exact d2
  | 3, _ => simp at this; rw [this]; exact d3
/-- A row that a call owns, item by item. -/
theorem own_its {w : World} {base n : Nat} {v : Value} {c : Nat → It} (h : w.ownsRow base 56 4 v n (rowI4 c n)) :
    ∃ a cap, v = .slice a n cap ∧ n ≤ cap ∧ cap ≤ maxLen ∧ (0 < n → ∃ g, a = some ⟨g, 0, none⟩ ∧ base ≤ g ∧ g < w.heap.size ∧ (∃ cur, w.heap[g]? = some (.cells cur 56 (0, 0))) ∧ ∀ i, i < n → ItAt w g (i * 4) (c i)) := by
  rcases h.2 with ⟨rfl, rfl⟩ | ⟨g, cap, cur, rfl, hg, hc, hnc, hcm, hs, ht⟩
  · exact ⟨none, 0, rfl, Nat.le_refl _, Nat.zero_le _, fun h => by omega⟩
  · refine ⟨_, cap, rfl, hnc, hcm, fun h0 => ⟨g, rfl, hg, (Array.getElem?_eq_some_iff.1 hc).1, ⟨cur, hc⟩, fun i hi => ?_⟩⟩
    have key : ∀ j, j < 4 → w.cell? ⟨g, i * 4 + j, none⟩ = (c i).cells[j]? := by
      intro j hj
      rw [← rowI4_get c n i j hi hj, ← ht, List.getElem?_take_of_lt (by omega)]
      simp only [World.cell?, hc]
      rw [Array.getElem?_toList]
      rfl
    exact ⟨key 0 (by omega), key 1 (by omega), key 2 (by omega), key 3 (by omega)⟩
theorem own_its' {w : World} {base n : Nat} {v : Value} {c : Nat → It} (h : w.ownsRow base 56 4 v n (rowI4 c n)) : ∃ a cap, v = .slice a n cap ∧ n ≤ cap ∧ cap ≤ maxLen ∧ Its w a n c := by
  obtain ⟨a, cap, rfl, h1, h2, h3⟩ := own_its h
  refine ⟨a, cap, rfl, h1, h2, fun i hi => ?_⟩
  obtain ⟨g, e, _, _, _, hc⟩ := h3 (by omega)
  exact ⟨g, 0, e, by rw [Nat.zero_add]; exact hc i hi⟩
theorem infoI4 : (Tryz.prog.info? 56).map (fun i => (i.zero, i.size, i.bytes)) = some (some (.agg #[.string ⟨#[]⟩, .int .i64 0, .string ⟨#[]⟩, .string ⟨#[]⟩]), 4, 56) := by kernel_rfl
/-- Some items more behind a row that the call owns. -/
theorem push_i {w : World} {base n : Nat} {v : Value} {xs : List Value} (h : w.ownsRow base 56 4 v n xs) (hb : base ≤ w.heap.size) (p : Addr) (m k : Nat) (c : Nat → It) (hm : ∀ i, i < m → ∃ b o, p = ⟨b, o, none⟩ ∧ ItAt w b (o + i * 4) (c i)) (hn : n + m ≤ 16777216) :
    ∃ v' w', (Builtin.append_ #[26, 26] 26 #[v, .slice (some p) m k]).run Tryz.prog w = .ok v' w' ∧ w'.ownsRow base 56 4 v' (n + m) (xs ++ rowI4 c m) ∧ w.grownBy w' v.ownBlock := by
  obtain ⟨i0, hi, hz0, hz1, hz2⟩ := info_parts infoI4
  obtain ⟨v', w', hrun, hown', hgrow, _⟩ := run_append_own (P := Tryz.prog) (w := w) base 26 26 56 i0 _ 4 56 Tryz.underlying26 hi hz0 hz1 hz2 rfl (by decide) v n xs h p m k (rowI4 c m) (rowI4_len c m)
    (fun j u hu => by
      have h0 : 0 < m := by
        have := (List.getElem?_eq_some_iff.1 hu).1
        rw [rowI4_len] at this
        omega
      obtain ⟨b, o, rfl, _⟩ := hm 0 h0
      refine its_cells (fun i hi => ?_) j u hu
      obtain ⟨b', o', e, hn'⟩ := hm i hi
      cases e
      exact hn') (rowI4_one c m) (by unfold maxLen; omega) (by omega) hb
  exact ⟨v', w', hrun, hown', hgrow⟩
end Go.Proofs.YtinnhaojmnmliaaGreat
namespace Go.Proofs.YtinnhaojmnmliaaGreat
open Go.RowKit Go.Shelf
attribute [local go_sem] Oper.semAt_some

/-- The closure that goes down, as a value. -/
abbrev downV (By Bd : Nat) : Value := .func (.func 81) #[] #[.pointer (some ⟨By, 0, none⟩), .pointer (some ⟨Bd, 0, none⟩)]

set_option maxRecDepth 100000 in
set_option maxHeartbeats 4000000 in
theorem down_any {ι : Type} (l By Bd : Nat) (kids : ι → Nat) (kid : ι → Nat → ι) (rank : ι → Nat)
    (Pre : ι → Nat → Nat → Int → World → Prop) (Mid : ι → Nat → Nat → Int → World → Option Addr → Nat → Nat → World → Prop) (Post Stop : ι → Nat → Nat → Int → World → World → Prop)
    (hrank : ∀ v i, i < kids v → rank (kid v i) < rank v)
    (hP : ∀ v b o d W, Pre v b o d W → W.cell? ⟨By, 0, none⟩ = some (.func (.yield l) #[] #[]))
    (hY : ∀ v b o d W, Pre v b o d W → YieldAt Fence.wide 0 Tryz.prog l #[.int .i64 d, .pointer (some ⟨b, o, none⟩)] W fun e W' =>
      (e = .returned (.bool true) ∧ ∃ a cap, Mid v b o d W a cap 0 W') ∨ (e = .returned (.bool false) ∧ Stop v b o d W W'))
    (hL : ∀ v b o d W a cap i Wi, Mid v b o d W a cap i Wi → kids v ≤ 9223372036854775807 ∧ Wi.cell? ⟨b, o + 6, none⟩ = some (.slice a (kids v) cap) ∧ Wi.cell? ⟨Bd, 0, none⟩ = some (downV By Bd))
    (hC : ∀ v b o d W a cap i Wi, Mid v b o d W a cap i Wi → i < kids v → ∃ b' o', a = some ⟨b', o', none⟩ ∧ Pre (kid v i) b' (o' + i * 7) (IntKind.i64.wrap (d + 1)) Wi.drew ∧
      (∀ W', Post (kid v i) b' (o' + i * 7) (IntKind.i64.wrap (d + 1)) Wi.drew W' → Mid v b o d W a cap (i + 1) W') ∧ (∀ W', Stop (kid v i) b' (o' + i * 7) (IntKind.i64.wrap (d + 1)) Wi.drew W' → Stop v b o d W W'))
    (hE : ∀ v b o d W a cap Wi, Mid v b o d W a cap (kids v) Wi → Post v b o d W Wi) :
    ∀ (r : Nat) (v : ι), rank v < r → ∀ (n b o : Nat) (d : Int) (W : World), Pre v b o d W →
      CallsIn Fence.wide n Tryz.prog 81 #[.int .i64 d, .pointer (some ⟨b, o, none⟩), .pointer (some ⟨By, 0, none⟩), .pointer (some ⟨Bd, 0, none⟩)] W fun e W' =>
        (e = .returned (.bool true) ∧ Post v b o d W W') ∨ (e = .returned (.bool false) ∧ Stop v b o d W W') := by
  intro r
  induction r with
  | zero => intro v h; omega
  | succ r ih =>
    intro v hv n b o d W hpre
    have hdd : ∀ k : Nat, (Fence.wide.depth.isSome = true → 1 ≤ k) := fun k h => by cases h
    have hby := hP v b o d W hpre
    obtain ⟨fn, tmps, assign, body, hy, hR⟩ := yield_wide (n - 1) (hY v b o d W hpre)
    refine callsIn_of_wp Tryz.func81 rfl trivial ?_ rfl
    simp only [Tryz.ntmps81, List.size_toArray, List.length_cons, List.length_nil, Nat.reduceAdd, Nat.reduceSub, Array.replicate_succ, Array.replicate_zero, List.push_toArray, List.append_toArray, List.nil_append, List.cons_append]
    gi_wp2_with (first
      | ((try refine ⟨hdd _, ?_⟩); refine hR.mono ?_; clear hR; rintro e W1 (⟨rfl, a, cap, hm⟩ | ⟨rfl, hs⟩); (try (obtain ⟨hn0, hc6, hcd⟩ := hL v b o d W a cap 0 W1 hm))))
    · obtain ⟨hn1, -⟩ := hL v b o d W a cap 0 W1 hm
      gi_loopw [18] (fun u wr => ∃ i : Nat, i ≤ kids v ∧ u = .int .i64 i ∧ Mid v b o d W a cap i wr) (fun u _ => kids v - (intOf u).toNat)
      case atStart => exact ⟨0, Nat.zero_le _, rfl, hm⟩
      case round =>
        obtain ⟨i, hi, rfl, hmi⟩ := hrel
        obtain ⟨-, hc6i, hcdi⟩ := hL v b o d W a cap i wr hmi
        by_cases hin : i < kids v
        · obtain ⟨b', o', rfl, hp', hpost, hstop⟩ := hC v b o d W a cap i wr hmi hin
          have ihc := (ih (kid v i) (by have := hrank v i hin; omega) (n - 1) b' (o' + i * 7) _ wr.drew hp').mono (R' := fun e W2 => ∃ r, e = .returned (.bool r) ∧ ((r = true ∧ Mid v b o d W (some ⟨b', o', none⟩) cap (i + 1) W2) ∨ (r = false ∧ Stop v b o d W W2)))
            (fun e W2 h => h.elim (fun h => ⟨true, h.1, .inl ⟨rfl, hpost W2 h.2⟩⟩) (fun h => ⟨false, h.1, .inr ⟨rfl, hstop W2 h.2⟩⟩))
          clear ih hpost hstop
          have HQ : Hid (i < kids v) := hin
          gi_wp2
          gi_region_with ((refine ⟨trivial, hdd _, ?_⟩; gi_at_call 81; refine ihc.mono ?_; clear ihc; rintro e W2 ⟨r, rfl, hj⟩))
          all_goals (rcases hj with ⟨rfl, hj⟩ | ⟨rfl, hj⟩)
          all_goals gi_wp2
          all_goals first
            | (go_ret; exact .inr ⟨rfl, hj⟩)
            | exact ⟨⟨i + 1, HQ.out, by simp, hj⟩, by have := HQ.out; simp [intOf]; omega⟩
        · have hin' : i = kids v := by omega
          subst hin'
          gi_wp2
          go_ret
          exact .inl ⟨rfl, hE _ _ _ _ _ _ _ _ hmi⟩
    · gi_wp2
      go_ret
      exact .inr ⟨rfl, hs⟩
end Go.Proofs.YtinnhaojmnmliaaGreat
