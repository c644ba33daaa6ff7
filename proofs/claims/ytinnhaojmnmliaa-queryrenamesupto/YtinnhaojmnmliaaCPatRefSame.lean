/-
  The document's Same of patterns.
  A slice of texts, by index.
  Of what came in: how much it is, cells of small types; of no function.
  Queries as they lie in memory; items in rows of four cells; of no function.
  The closure of expr.nodes that goes down (nodes$1$1), for whatever is done at the nodes.
  expr.nodes: a range over all nodes of a condition that changes none of them.
-/
import Derived.Test.YtinnhaojmnmliaaCNamesMath
import Derived.Test.YtinnhaojmnmliaaCExprRange
import Derived.Test.YtinnhaojmnmliaaCTxt
import Derived.Deep.RegionWith
import Derived.Deep.Strs
import Derived.RangeFuncNested
import Derived.RangeFuncBound
import Derived.RangeFuncCalls
import Derived.RangeFuncLeaves
import Derived.RangeFuncBox
import Derived.Shelf.Abstract
import Derived.Shelf.RegionOpen
import Derived.WalkKit
import Derived.OwnWalkIn
import Derived.TacticsInMore
import Derived.LoopNIn
import Derived.LoopIn
import Derived.Laws.EntriesVeiled
namespace Go.Proofs.Ytinnhaojmnmliaa
open Go.RowKit

theorem ne_yes {a b : Int} (h : a = b) : (a != b) = false := by simp [h]
theorem ne_no {a b : Int} (h : ¬ a = b) : (a != b) = true := by simp [h]
/-- Two that differ in a field. -/
theorem sameP_false {x y : Pt} (h : ¬ (x.k = y.k ∧ x.s = y.s ∧ x.t = y.t ∧ x.lo = y.lo ∧ x.hi = y.hi ∧ x.n = y.n)) : sameP x y = false := by
  rw [Bool.eq_false_iff]
  intro e
  obtain ⟨h1, h2, h3, h4, h5, h6, _⟩ := (sm_iff x y).1 e
  exact h ⟨h1, h2, h3, h4, h5, h6⟩
theorem sameP_part {x y : Pt} {i : Nat} (hi : i < x.n) (h : sameP (x.c i) (y.c i) = false) : sameP x y = false := by
  rw [Bool.eq_false_iff]
  intro e
  have := ((sm_iff x y).1 e).2.2.2.2.2.2 i hi
  unfold Sm at this
  rw [h] at this
  cases this
set_option maxRecDepth 100000 in
set_option maxHeartbeats 4000000 in
theorem refSameP_row (x y : Pt) (w : World) (hX : IsP w x) (hY : IsP w y) (e1 : x.k = y.k) (e2 : x.s = y.s) (e3 : x.t = y.t) (e4 : x.lo = y.lo) (e5 : x.hi = y.hi) (e6 : x.n = y.n)
    (ih : ∀ i, i < x.n → ∀ (y : Pt) (w : World), IsP w (x.c i) → IsP w y → Calls Try.prog 14 #[(x.c i).val, y.val] w fun e w' => e = .returned (.bool (sameP (x.c i) y)) ∧ Below w.heap.size w w') :
    Calls Try.prog 14 #[x.val, y.val] w fun e w' => e = .returned (.bool (sameP x y)) ∧ Below w.heap.size w w' := by
  obtain ⟨r, hr⟩ : ∃ r, r = sameP x y := ⟨_, rfl⟩
  have HF : Hid (∀ i, i < x.n → sameP (x.c i) (y.c i) = false → r = false) := fun i hi h => hr.trans (sameP_part hi h)
  have HT : Hid ((∀ i, i < x.n → sameP (x.c i) (y.c i) = true) → r = true) := fun h => hr.trans ((sm_iff x y).2 ⟨e1, e2, e3, e4, e5, e6, h⟩)
  rw [← hr]
  obtain ⟨A, hA, hB, hs, hn, hm⟩ := boxP_two x y w
  obtain ⟨a0, a1, a2, a3, a4, a5⟩ := hn.at0
  obtain ⟨b0, b1, b2, b3, b4, b5⟩ := hm.at0
  have hlen := hX.len
  have HI : Hid (∀ i, i < x.n → ∀ W, Below w.heap.size w W → Calls Try.prog 14 #[(x.c i).val, (y.c i).val] W fun e w' => e = .returned (.bool (sameP (x.c i) (y.c i))) ∧ Below W.heap.size W w') := fun i hi W hW => by
    obtain ⟨_, _, _, _, h1⟩ := (hX.later hW).part hi
    obtain ⟨_, _, _, _, h2⟩ := (hY.later hW).part (e6 ▸ hi)
    exact ih i hi _ W h1 h2
  have HX : Hid (IsP w x) := hX
  have HY : Hid (IsP w y) := hY
  have HB : Hid (Below w.heap.size w A) := hB
  have HN : Hid (NodeP A w.heap.size 0 x) := hn
  have HM : Hid (NodeP A (w.heap.size + 1) 0 y) := hm
  have HS : Hid (A.heap.size = w.heap.size + 2) := hs
  have H6 : Hid (x.n = y.n) := e6
  have t1 := ne_yes e1
  have t2 := str_yes e2
  have t3 := str_yes e3
  have t4 := ne_yes e4
  have t5 := ne_yes e5
  have t6 := ne_yes (show ((x.n : Nat) : Int) = ((y.n : Nat) : Int) by rw [e6])
  clear ih hX hY hr hB hn hm hs e1 e2 e3 e4 e5 e6
  go_enter Try.func14, Try.ntmps14
  go_wp2
  go_loopw [5] (fun u wr => ∃ k : Nat, k ≤ x.n ∧ u = .int .i64 k ∧ Hid (∀ i, i < k → sameP (x.c i) (y.c i) = true) ∧ Below A.heap.size A wr) (fun u _ => x.n - (intOf u).toNat)
  case atStart => exact ⟨0, Nat.zero_le _, rfl, fun i hi => absurd hi (Nat.not_lt_zero _), Below.refl _ _⟩
  case round =>
    obtain ⟨k, hk, rfl, HK, hB⟩ := hrel
    have hs := HS.out
    have hw := HB.out.trans (hB.mono (by omega))
    obtain ⟨-, -, -, -, -, c5⟩ := (HN.out.below hB (by omega)).at0
    obtain ⟨-, -, -, -, -, g5⟩ := (HM.out.below hB (by omega)).at0
    clear a0 a1 a2 a3 a4 a5 b0 b1 b2 b3 b4 b5 t1 t2 t3 t4 t5 t6
    by_cases hkn : k < x.n
    · have hkm : k < y.n := by have := H6.out; omega
      obtain ⟨b, o, ea, hn, -⟩ := (HX.out.later hw).part hkn
      obtain ⟨b', o', ea', hn', -⟩ := (HY.out.later hw).part hkm
      rw [ea] at c5
      rw [ea'] at g5
      obtain ⟨d0, d1, d2, d3, d4, d5⟩ := hn
      obtain ⟨f0, f1, f2, f3, f4, f5⟩ := hn'
      have hc := HI.out k hkn wr.drew (hw.trans (Below.refl _ _).drew)
      have HKN : Hid (k < x.n) := hkn
      have HQ : Hid (Below w.heap.size w wr) := hw
      obtain ⟨q, hq⟩ : ∃ q, q = sameP (x.c k) (y.c k) := ⟨_, rfl⟩
      rw [← hq] at hc
      have HE : Hid (q = sameP (x.c k) (y.c k)) := hq
      clear hw hq ea ea' hs
      go_wp2
      go_region_with (go_at_call 14; refine hc.mono ?_; clear hc; rintro e w2 ⟨rfl, hB2⟩)
      all_goals cases q
      all_goals go_wp2
      all_goals first
        | (go_ret; exact ⟨by rw [HF.out k HKN.out HE.out.symm]; rfl, HQ.out.trans ((Below.refl _ _).drew.trans (hB2.mono (by have := HQ.out.size; exact this)))⟩)
        | (go_roundw
           case rel =>
             refine ⟨k + 1, HKN.out, by go_num, fun i hi => ?_, hB.trans ((Below.refl _ _).drew.trans (hB2.mono hB.size))⟩
             by_cases e : i = k
             · rw [e]; exact HE.out.symm
             · exact HK.out i (by omega)
           case measure => have := HKN.out; simp [intOf]; omega)
    · obtain rfl : k = x.n := by omega
      go_wp2
      go_ret
      exact ⟨by rw [HT.out HK.out]; rfl, hw⟩
set_option maxRecDepth 100000 in
set_option maxHeartbeats 8000000 in
theorem refSameP_any : ∀ (x y : Pt) (w : World), IsP w x → IsP w y → Calls Try.prog 14 #[x.val, y.val] w fun e w' => e = .returned (.bool (sameP x y)) ∧ Below w.heap.size w w' := by
  refine Pt.ind fun x ih y w hX hY => ?_
  by_cases h : x.k = y.k ∧ x.s = y.s ∧ x.t = y.t ∧ x.lo = y.lo ∧ x.hi = y.hi ∧ x.n = y.n
  · obtain ⟨e1, e2, e3, e4, e5, e6⟩ := h
    exact refSameP_row x y w hX hY e1 e2 e3 e4 e5 e6 ih
  · rw [sameP_false h]
    obtain ⟨A, hA, hB, hs, hn, hm⟩ := boxP_two x y w
    obtain ⟨a0, a1, a2, a3, a4, a5⟩ := hn.at0
    obtain ⟨b0, b1, b2, b3, b4, b5⟩ := hm.at0
    have HB : Hid (Below w.heap.size w A) := hB
    clear ih hX hY hB hn hm hs
    by_cases e1 : x.k = y.k
    · have t1 := ne_yes e1
      by_cases e2 : x.s = y.s
      · have t2 := str_yes e2
        by_cases e3 : x.t = y.t
        · have t3 := str_yes e3
          by_cases e4 : x.lo = y.lo
          · have t4 := ne_yes e4
            by_cases e5 : x.hi = y.hi
            · have t5 := ne_yes e5
              have t6 := ne_no (show ¬ ((x.n : Nat) : Int) = ((y.n : Nat) : Int) from fun q => h ⟨e1, e2, e3, e4, e5, by omega⟩)
              clear h e1 e2 e3 e4 e5
              go_enter Try.func14, Try.ntmps14
              go_wp2
              go_ret
              exact ⟨rfl, HB.out⟩
            · have t5 := ne_no e5
              clear h e1 e2 e3 e4 e5
              go_enter Try.func14, Try.ntmps14
              go_wp2
              go_ret
              exact ⟨rfl, HB.out⟩
          · have t4 := ne_no e4
            clear h e1 e2 e3 e4
            go_enter Try.func14, Try.ntmps14
            go_wp2
            go_ret
            exact ⟨rfl, HB.out⟩
        · have t3 := str_not e3
          clear h e1 e2 e3
          go_enter Try.func14, Try.ntmps14
          go_wp2
          go_ret
          exact ⟨rfl, HB.out⟩
      · have t2 := str_not e2
        clear h e1 e2
        go_enter Try.func14, Try.ntmps14
        go_wp2
        go_ret
        exact ⟨rfl, HB.out⟩
    · have t1 := ne_no e1
      clear h e1
      go_enter Try.func14, Try.ntmps14
      go_wp2
      go_ret
      exact ⟨rfl, HB.out⟩
end Go.Proofs.Ytinnhaojmnmliaa
namespace Go.Proofs.Ytinnhaojmnmliaa
open Go.RowKit

/-- A slice of texts, by index. -/
def Txs (w : World) (a : Option Addr) (n : Nat) (S : Nat → ByteArray) : Prop := 0 < n → ∃ b o, a = some ⟨b, o, none⟩ ∧ ∀ j, j < n → w.cell? ⟨b, o + j, none⟩ = some (.string (S j))
theorem Txs.later {w w' : World} {a : Option Addr} {n : Nat} {S : Nat → ByteArray} (h : Txs w a n S) (hB : Below w.heap.size w w') : Txs w' a n S := fun h0 => by
  obtain ⟨b, o, e, hc⟩ := h h0
  exact ⟨b, o, e, fun j hj => cell_later (hc j hj) hB⟩
theorem Txs.lt {W : World} {a : Option Addr} {n : Nat} {S : Nat → ByteArray} (hx : Txs W a n S) (h0 : 0 < n) {b o : Nat} (e : a = some ⟨b, o, none⟩) : b < W.heap.size := by
  obtain ⟨b', o', e', hc⟩ := hx h0
  rw [e] at e'
  cases e'
  exact World.block_lt_of_cell? W _ (hc 0 h0)
end Go.Proofs.Ytinnhaojmnmliaa
namespace Go.Proofs.Ytinnhaojmnmliaa
open Go.RowKit Go.ChangeShapes Go.WideShapes

section
variable {H : Type}
theorem cells_i : Try.prog.cellsOf 3 = 1 := by kernel_rfl
theorem cells_s : Try.prog.cellsOf 9 = 1 := by kernel_rfl
theorem bulk_app (l r : List (DataW H)) : Rows.uptoBulkAll (l ++ r) = Rows.uptoBulkAll l + Rows.uptoBulkAll r := by
  induction l with
  | nil => simp [Rows.uptoBulkAll]
  | cons x l ih => simp only [List.cons_append, Rows.uptoBulkAll, ih]; omega
theorem bulk_range (D : Nat → DataW H) : ∀ n, Rows.uptoBulkAll ((List.range n).map D) = sumN (fun i => Rows.uptoBulk (D i)) n
  | 0 => rfl
  | n + 1 => by
    rw [List.range_succ, List.map_append, bulk_app, bulk_range D n]
    simp [sumN, Rows.uptoBulkAll]
theorem sumN_mono {f g : Nat → Nat} : ∀ {n : Nat}, (∀ i, i < n → f i ≤ g i) → sumN f n ≤ sumN g n
  | 0, _ => Nat.le_refl _
  | n + 1, h => by
    have h1 := sumN_mono (n := n) fun i hi => h i (by omega)
    have h2 := h n (by omega)
    simp only [sumN]
    omega
theorem add_none (b o j : Nat) : (Addr.mk b o none).add j = ⟨b, o + j, none⟩ := by
  unfold Addr.add
  split
  · simp
  · rfl
end
end Go.Proofs.Ytinnhaojmnmliaa
namespace Go.Proofs.Ytinnhaojmnmliaa
open Go.RowKit

/-- An item: its Name, kind, Var and Field. -/
structure It where
  nm : ByteArray
  k : Int
  s : ByteArray
  f : ByteArray
abbrev It.val (x : It) : Value := .agg #[.string x.nm, .int .i64 x.k, .string x.s, .string x.f]
/-- The four cells of an item. -/
def ItAt (w : World) (b o : Nat) (x : It) : Prop :=
  w.cell? ⟨b, o, none⟩ = some (.string x.nm) ∧ w.cell? ⟨b, o + 1, none⟩ = some (.int .i64 x.k) ∧ w.cell? ⟨b, o + 2, none⟩ = some (.string x.s) ∧ w.cell? ⟨b, o + 3, none⟩ = some (.string x.f)
theorem ItAt.lt {w : World} {b o : Nat} {x : It} (h : ItAt w b o x) : b < w.heap.size := World.block_lt_of_cell? w _ h.1
theorem ItAt.later {w w' : World} {b o : Nat} {x : It} (h : ItAt w b o x) (hB : Below w.heap.size w w') : ItAt w' b o x :=
  ⟨cell_later h.1 hB, cell_later h.2.1 hB, cell_later h.2.2.1 hB, cell_later h.2.2.2 hB⟩
/-- Items in a slice, by index. -/
def Its (w : World) (a : Option Addr) (n : Nat) (I : Nat → It) : Prop := ∀ i, i < n → ∃ b o, a = some ⟨b, o, none⟩ ∧ ItAt w b (o + i * 4) (I i)
theorem Its.later {w w' : World} {a : Option Addr} {n : Nat} {I : Nat → It} (h : Its w a n I) (hB : Below w.heap.size w w') : Its w' a n I := fun i hi => by
  obtain ⟨b, o, e, hc⟩ := h i hi
  exact ⟨b, o, e, hc.later hB⟩
/-- A query: its pattern, its conditions (as the parts of one), Key, Mode, Within and items. -/
structure Qy where
  p : Pt
  a : Option Addr
  n : Nat
  cap : Nat
  c : Nat → X
  key : ByteArray
  mode : Int
  win : Int
  ia : Option Addr
  m : Nat
  icap : Nat
  it : Nat → It
/-- Its conditions as one. -/
abbrev Qy.x (q : Qy) : X := .mk 16 val0 ⟨#[]⟩ ⟨#[]⟩ q.a q.n q.cap q.c
abbrev Qy.cells (q : Qy) : Array Value := #[.int .i64 q.p.k, .string q.p.s, .string q.p.t, .int .i64 q.p.lo, .int .i64 q.p.hi, .slice q.p.a q.p.n q.p.cap, .slice q.a q.n q.cap, .string q.key, .int .i64 q.mode, .int .i64 q.win, .slice q.ia q.m q.icap]
abbrev Qy.val (q : Qy) : Value := .agg q.cells
structure IsQ (w : World) (q : Qy) : Prop where
  p : IsP w q.p
  x : IsX w q.x
  it : Its w q.ia q.m q.it
  len : q.m ≤ q.icap ∧ q.icap ≤ 9223372036854775807
theorem IsQ.later {w w' : World} {q : Qy} (h : IsQ w q) (hB : Below w.heap.size w w') : IsQ w' q := ⟨h.p.later hB, h.x.later hB, h.it.later hB, h.len⟩
/-- Texts no longer than texts can be. -/
structure QOk (q : Qy) : Prop where
  p : POk q.p
  x : XOk q.x
  key : q.key.size ≤ maxLen
  it : ∀ i, i < q.m → (q.it i).nm.size ≤ maxLen ∧ (q.it i).s.size ≤ maxLen ∧ (q.it i).f.size ≤ maxLen
/-- How much there is of it. -/
def Qy.bulk (q : Qy) : Nat := q.p.size + q.x.size + q.m
/-- The cells of some items, one behind the other. -/
abbrev It.cells (x : It) : Array Value := #[.string x.nm, .int .i64 x.k, .string x.s, .string x.f]
def rowI4 (c : Nat → It) : Nat → List Value
  | 0 => []
  | n + 1 => rowI4 c n ++ (c n).cells.toList
theorem rowI4_len (c : Nat → It) : ∀ n, (rowI4 c n).length = n * 4
  | 0 => rfl
  | n + 1 => by rw [rowI4, List.length_append, rowI4_len c n]; simp; omega
theorem rowI4_get (c : Nat → It) : ∀ n i j, i < n → j < 4 → (rowI4 c n)[i * 4 + j]? = (c i).cells[j]?
  | 0, _, _, h, _ => by omega
  | n + 1, i, j, h, hj => by
    rw [rowI4]
    by_cases e : i = n
    · subst e
      rw [List.getElem?_append_right (by rw [rowI4_len]; omega), rowI4_len, show i * 4 + j - i * 4 = j by omega]
      simp
    · rw [List.getElem?_append_left (by rw [rowI4_len]; omega)]
      exact rowI4_get c n i j (by omega) hj
theorem rowI4_one (c : Nat → It) : ∀ n, ∀ u ∈ rowI4 c n, u.oneCell' = true
  | 0, u, h => by simp [rowI4] at h
  | n + 1, u, h => by
    rw [rowI4, List.mem_append] at h
    rcases h with h | h
    · exact rowI4_one c n u h
    · simp at h
      rcases h with rfl | rfl | rfl | rfl <;> rfl
theorem rowI4_congr {c d : Nat → It} : ∀ {n : Nat}, (∀ i, i < n → c i = d i) → rowI4 c n = rowI4 d n
  | 0, _ => rfl
  | n + 1, h => by rw [rowI4, rowI4, rowI4_congr fun i hi => h i (by omega), h n (by omega)]
/-- Items, one behind the other, as cells. -/
theorem its_cells {w : World} {b o n : Nat} {c : Nat → It} (h : ∀ i, i < n → ItAt w b (o + i * 4) (c i)) : ∀ j u, (rowI4 c n)[j]? = some u → w.cell? ((Addr.mk b o none).add j) = some u := by
  intro j u hu
  have hj : j < n * 4 := by have := (List.getElem?_eq_some_iff.1 hu).1; rwa [rowI4_len] at this
  have hi : j / 4 < n := by omega
  have hm : j % 4 < 4 := Nat.mod_lt _ (by omega)
  have he : j / 4 * 4 + j % 4 = j := by omega
  have := rowI4_get c n (j / 4) (j % 4) hi hm
  rw [he, hu] at this
  rw [add_none]
  obtain ⟨d0, d1, d2, d3⟩ := h (j / 4) hi
  obtain ⟨m, hm'⟩ : ∃ m, m = j % 4 := ⟨_, rfl⟩
  rw [← hm'] at this hm he
  rw [show o + j = o + j / 4 * 4 + m by omega]
  match m, hm with
  | 0, _ => simp at this; rw [this]; exact d0
  | 1, _ => simp at this; rw [this]; exact d1
  | 2, _ => simp at this; rw [this]; exact d2
  | 3, _ => simp at this; rw [this]; exact d3
/-- A row that a call owns, item by item. -/
theorem own_its {w : World} {base n : Nat} {v : Value} {c : Nat → It} (h : w.ownsRow base 73 4 v n (rowI4 c n)) :
    ∃ a cap, v = .slice a n cap ∧ n ≤ cap ∧ cap ≤ maxLen ∧ (0 < n → ∃ g, a = some ⟨g, 0, none⟩ ∧ base ≤ g ∧ g < w.heap.size ∧ (∃ cur, w.heap[g]? = some (.cells cur 73 (0, 0))) ∧ ∀ i, i < n → ItAt w g (i * 4) (c i)) := by
  rcases h.2 with ⟨rfl, rfl⟩ | ⟨g, cap, cur, rfl, hg, hc, hnc, hcm, hs, ht⟩
  · exact ⟨none, 0, rfl, Nat.le_refl _, Nat.zero_le _, fun h => by omega⟩
  · refine ⟨_, cap, rfl, hnc, hcm, fun h0 => ⟨g, rfl, hg, (Array.getElem?_eq_some_iff.1 hc).1, ⟨cur, hc⟩, fun i hi => ?_⟩⟩
    have key : ∀ j, j < 4 → w.cell? ⟨g, i * 4 + j, none⟩ = (c i).cells[j]? := by
      intro j hj
      rw [← rowI4_get c n i j hi hj, ← ht, List.getElem?_take_of_lt (by omega)]
      simp only [World.cell?, hc]
      rw [Array.getElem?_toList]
      rfl
    exact ⟨key 0 (by omega), key 1 (by omega), key 2 (by omega), key 3 (by omega)⟩
theorem own_its' {w : World} {base n : Nat} {v : Value} {c : Nat → It} (h : w.ownsRow base 73 4 v n (rowI4 c n)) : ∃ a cap, v = .slice a n cap ∧ n ≤ cap ∧ cap ≤ maxLen ∧ Its w a n c := by
  obtain ⟨a, cap, rfl, h1, h2, h3⟩ := own_its h
  refine ⟨a, cap, rfl, h1, h2, fun i hi => ?_⟩
  obtain ⟨g, e, _, _, _, hc⟩ := h3 (by omega)
  exact ⟨g, 0, e, by rw [Nat.zero_add]; exact hc i hi⟩
theorem infoI4 : (Try.prog.info? 73).map (fun i => (i.zero, i.size, i.bytes)) = some (some (.agg #[.string ⟨#[]⟩, .int .i64 0, .string ⟨#[]⟩, .string ⟨#[]⟩]), 4, 56) := by kernel_rfl
/-- Some items more behind a row that the call owns. -/
theorem push_i {w : World} {base n : Nat} {v : Value} {xs : List Value} (h : w.ownsRow base 73 4 v n xs) (hb : base ≤ w.heap.size) (p : Addr) (m k : Nat) (c : Nat → It) (hm : ∀ i, i < m → ∃ b o, p = ⟨b, o, none⟩ ∧ ItAt w b (o + i * 4) (c i)) (hn : n + m ≤ 16777216) :
    ∃ v' w', (Builtin.append_ #[41, 41] 41 #[v, .slice (some p) m k]).run Try.prog w = .ok v' w' ∧ w'.ownsRow base 73 4 v' (n + m) (xs ++ rowI4 c m) ∧ w.grownBy w' v.ownBlock := by
  obtain ⟨i0, hi, hz0, hz1, hz2⟩ := info_parts infoI4
  obtain ⟨v', w', hrun, hown', hgrow, _⟩ := run_append_own (P := Try.prog) (w := w) base 41 41 73 i0 _ 4 56 Try.underlying41 hi hz0 hz1 hz2 rfl (by decide) v n xs h p m k (rowI4 c m) (rowI4_len c m)
    (fun j u hu => by
      have h0 : 0 < m := by
        have := (List.getElem?_eq_some_iff.1 hu).1
        rw [rowI4_len] at this
        omega
      obtain ⟨b, o, rfl, _⟩ := hm 0 h0
      refine its_cells (fun i hi => ?_) j u hu
      obtain ⟨b', o', e, hn'⟩ := hm i hi
      cases e
      exact hn') (rowI4_one c m) (by unfold maxLen; omega) (by omega) hb
  exact ⟨v', w', hrun, hown', hgrow⟩
end Go.Proofs.Ytinnhaojmnmliaa
namespace Go.Proofs.Ytinnhaojmnmliaa
open Go.RowKit Go.Shelf
attribute [local go_sem] Oper.semAt_some

/-- The closure that goes down, as a value. -/
abbrev downV (By Bd : Nat) : Value := .func (.func 80) #[] #[.pointer (some ⟨By, 0, none⟩), .pointer (some ⟨Bd, 0, none⟩)]

set_option maxRecDepth 100000 in
set_option maxHeartbeats 4000000 in
theorem down_any {ι : Type} (l By Bd : Nat) (kids : ι → Nat) (kid : ι → Nat → ι) (rank : ι → Nat)
    (Pre : ι → Nat → Nat → Int → World → Prop) (Mid : ι → Nat → Nat → Int → World → Option Addr → Nat → Nat → World → Prop) (Post Stop : ι → Nat → Nat → Int → World → World → Prop)
    (hrank : ∀ v i, i < kids v → rank (kid v i) < rank v)
    (hP : ∀ v b o d W, Pre v b o d W → W.cell? ⟨By, 0, none⟩ = some (.func (.yield l) #[] #[]))
    (hY : ∀ v b o d W, Pre v b o d W → YieldAt Fence.wide 0 Try.prog l #[.int .i64 d, .pointer (some ⟨b, o, none⟩)] W fun e W' =>
      (e = .returned (.bool true) ∧ ∃ a cap, Mid v b o d W a cap 0 W') ∨ (e = .returned (.bool false) ∧ Stop v b o d W W'))
    (hL : ∀ v b o d W a cap i Wi, Mid v b o d W a cap i Wi → kids v ≤ 9223372036854775807 ∧ Wi.cell? ⟨b, o + 6, none⟩ = some (.slice a (kids v) cap) ∧ Wi.cell? ⟨Bd, 0, none⟩ = some (downV By Bd))
    (hC : ∀ v b o d W a cap i Wi, Mid v b o d W a cap i Wi → i < kids v → ∃ b' o', a = some ⟨b', o', none⟩ ∧ Pre (kid v i) b' (o' + i * 7) (IntKind.i64.wrap (d + 1)) Wi.drew ∧
      (∀ W', Post (kid v i) b' (o' + i * 7) (IntKind.i64.wrap (d + 1)) Wi.drew W' → Mid v b o d W a cap (i + 1) W') ∧ (∀ W', Stop (kid v i) b' (o' + i * 7) (IntKind.i64.wrap (d + 1)) Wi.drew W' → Stop v b o d W W'))
    (hE : ∀ v b o d W a cap Wi, Mid v b o d W a cap (kids v) Wi → Post v b o d W Wi) :
    ∀ (r : Nat) (v : ι), rank v < r → ∀ (n b o : Nat) (d : Int) (W : World), Pre v b o d W →
      CallsIn Fence.wide n Try.prog 80 #[.int .i64 d, .pointer (some ⟨b, o, none⟩), .pointer (some ⟨By, 0, none⟩), .pointer (some ⟨Bd, 0, none⟩)] W fun e W' =>
        (e = .returned (.bool true) ∧ Post v b o d W W') ∨ (e = .returned (.bool false) ∧ Stop v b o d W W') := by
  intro r
  induction r with
  | zero => intro v h; omega
  | succ r ih =>
    intro v hv n b o d W hpre
    have hdd : ∀ k : Nat, (Fence.wide.depth.isSome = true → 1 ≤ k) := fun k h => by cases h
    have hby := hP v b o d W hpre
    obtain ⟨fn, tmps, assign, body, hy, hR⟩ := yield_wide (n - 1) (hY v b o d W hpre)
    refine callsIn_of_wp Try.func80 rfl trivial ?_ rfl
    simp only [Try.ntmps80, List.size_toArray, List.length_cons, List.length_nil, Nat.reduceAdd, Nat.reduceSub, Array.replicate_succ, Array.replicate_zero, List.push_toArray, List.append_toArray, List.nil_append, List.cons_append]
    gi_wp2_with (first
      | ((try refine ⟨hdd _, ?_⟩); refine hR.mono ?_; clear hR; rintro e W1 (⟨rfl, a, cap, hm⟩ | ⟨rfl, hs⟩); (try (obtain ⟨hn0, hc6, hcd⟩ := hL v b o d W a cap 0 W1 hm))))
    · obtain ⟨hn1, -⟩ := hL v b o d W a cap 0 W1 hm
      gi_loopw [18] (fun u wr => ∃ i : Nat, i ≤ kids v ∧ u = .int .i64 i ∧ Mid v b o d W a cap i wr) (fun u _ => kids v - (intOf u).toNat)
      case atStart => exact ⟨0, Nat.zero_le _, rfl, hm⟩
      case round =>
        obtain ⟨i, hi, rfl, hmi⟩ := hrel
        obtain ⟨-, hc6i, hcdi⟩ := hL v b o d W a cap i wr hmi
        by_cases hin : i < kids v
        · obtain ⟨b', o', rfl, hp', hpost, hstop⟩ := hC v b o d W a cap i wr hmi hin
          have ihc := (ih (kid v i) (by have := hrank v i hin; omega) (n - 1) b' (o' + i * 7) _ wr.drew hp').mono (R' := fun e W2 => ∃ r, e = .returned (.bool r) ∧ ((r = true ∧ Mid v b o d W (some ⟨b', o', none⟩) cap (i + 1) W2) ∨ (r = false ∧ Stop v b o d W W2)))
            (fun e W2 h => h.elim (fun h => ⟨true, h.1, .inl ⟨rfl, hpost W2 h.2⟩⟩) (fun h => ⟨false, h.1, .inr ⟨rfl, hstop W2 h.2⟩⟩))
          clear ih hpost hstop
          have HQ : Hid (i < kids v) := hin
          gi_wp2
          gi_region_with ((refine ⟨trivial, hdd _, ?_⟩; gi_at_call 80; refine ihc.mono ?_; clear ihc; rintro e W2 ⟨r, rfl, hj⟩))
          all_goals (rcases hj with ⟨rfl, hj⟩ | ⟨rfl, hj⟩)
          all_goals gi_wp2
          all_goals first
            | (go_ret; exact .inr ⟨rfl, hj⟩)
            | exact ⟨⟨i + 1, HQ.out, by simp, hj⟩, by have := HQ.out; simp [intOf]; omega⟩
        · have hin' : i = kids v := by omega
          subst hin'
          gi_wp2
          go_ret
          exact .inl ⟨rfl, hE _ _ _ _ _ _ _ _ hmi⟩
    · gi_wp2
      go_ret
      exact .inr ⟨rfl, hs⟩
end Go.Proofs.Ytinnhaojmnmliaa
namespace Go.Proofs.Ytinnhaojmnmliaa
open Go.RowKit Go.Shelf
attribute [local go_sem] Oper.semAt_some

set_option maxRecDepth 100000 in
set_option maxHeartbeats 1000000 in
theorem nodes_in (n : Nat) (p : Option Addr) (w : World) :
    CallsIn Fence.wide n Try.prog 67 #[.pointer p] w fun e w' => e = .returned (.func (.func 79) #[] #[.pointer (some ⟨w.heap.size, 0, none⟩)]) ∧ w' = w.alloc (.cells #[.pointer p] 98) := by
  refine callsIn_of_wp Try.func67 rfl trivial ?_ rfl
  simp only [Try.ntmps67, List.size_toArray, List.length_cons, List.length_nil, Nat.reduceAdd, Nat.reduceSub, Array.replicate_succ, Array.replicate_zero, List.push_toArray, List.append_toArray, List.nil_append, List.cons_append]
  gi_wp2
  go_ret
  exact ⟨rfl, rfl⟩

set_option maxRecDepth 100000 in
set_option maxHeartbeats 2000000 in
/-- The function that expr.nodes hands back: it lays yield and the closure in boxes of their own, and goes down. -/
theorem nodes1_in (n l Bp b o : Nat) (W : World) (R : Ending → World → Prop) (hBp : W.cell? ⟨Bp, 0, none⟩ = some (.pointer (some ⟨b, o, none⟩)))
    (hdown : ∀ W2, Boxed W2 W.heap.size 107 (.func (.yield l) #[] #[]) → Boxed W2 (W.heap.size + 1) 107 (downV W.heap.size (W.heap.size + 1)) → Below W.heap.size W W2 → W2.heap.size = W.heap.size + 2 →
      CallsIn Fence.wide (n - 1) Try.prog 80 #[.int .i64 1, .pointer (some ⟨b, o, none⟩), .pointer (some ⟨W.heap.size, 0, none⟩), .pointer (some ⟨W.heap.size + 1, 0, none⟩)] W2 fun e W' => ∃ r, e = .returned (.bool r) ∧ R (.returned (.bool r)) W') :
    CallsIn Fence.wide n Try.prog 79 #[.func (.yield l) #[] #[], .pointer (some ⟨Bp, 0, none⟩)] W fun e W' => (∃ v, e = .returned v) ∧ ∃ r, R (.returned (.bool r)) W' := by
  have hdd : ∀ k : Nat, (Fence.wide.depth.isSome = true → 1 ≤ k) := fun k h => by cases h
  have h1 : Boxed (W.alloc (.cells #[.func (.yield l) #[] #[]] 107)) W.heap.size 107 (.func (.yield l) #[] #[]) := Boxed.new _ _ _
  have hlt : Bp < W.heap.size := by
    obtain ⟨ob, ho, -⟩ := cells_of_cell hBp
    exact (Array.getElem?_eq_some_iff.1 ho).1
  obtain ⟨A, hA⟩ : ∃ A, (W.alloc (.cells #[.func (.yield l) #[] #[]] 107)).alloc (.cells #[.nilFunc] 107) = A := ⟨_, rfl⟩
  have b1 : Boxed A W.heap.size 107 (.func (.yield l) #[] #[]) := hA ▸ h1.alloc _
  have b2 : Boxed A (W.heap.size + 1) 107 .nilFunc := by
    have := Boxed.new (W.alloc (.cells #[.func (.yield l) #[] #[]] 107)) 107 .nilFunc
    rw [World.size_alloc, hA] at this
    exact this
  have hB : Below W.heap.size W A := by rw [← hA]; exact ((Below.refl _ W).alloc (Nat.le_refl _) _).alloc (by simp) _
  have hsz : A.heap.size = W.heap.size + 2 := by rw [← hA]; simp
  have c2 := b2.cell
  have f2 := b2.frozen
  have b3 := b2.set (downV W.heap.size (W.heap.size + 1))
  have b4 := b1.other (show W.heap.size ≠ W.heap.size + 1 by omega) (downV W.heap.size (W.heap.size + 1))
  have hB3 : Below W.heap.size W (A.setCell ⟨W.heap.size + 1, 0, none⟩ (downV W.heap.size (W.heap.size + 1))) := hB.setCell (p := ⟨W.heap.size + 1, 0, none⟩) (by simp) _
  have c3 := b3.cell
  have cp := (hB3.cell (p := ⟨Bp, 0, none⟩) hlt).trans hBp
  have hd := hdown _ b4 b3 hB3 (by rw [World.size_setCell]; exact hsz)
  clear hdown
  refine callsIn_of_wp Try.func79 rfl trivial ?_ rfl
  simp only [Try.ntmps79, List.size_toArray, List.length_cons, List.length_nil, Nat.reduceAdd, Nat.reduceSub, Array.replicate_succ, Array.replicate_zero, List.push_toArray, List.append_toArray, List.nil_append, List.cons_append]
  gi_wp2_with (refine ⟨trivial, hdd _, ?_⟩; gi_at_call 80; refine hd.mono ?_; rintro e W3 ⟨r, rfl, hr⟩)
  go_end0
  exact ⟨⟨_, rfl⟩, _, hr⟩
/-- All nodes in their order, each with how many lie on the way down to it. -/
def visX (d : Int) : X → List (Int × X)
  | .nil => [(d, .nil)]
  | .mk k v s f a n cap c => (d, .mk k v s f a n cap c) :: catN (fun i => visX (IntKind.i64.wrap (d + 1)) (c i)) n
theorem visX_eq (d : Int) (x : X) : visX d x = (d, x) :: catN (fun i => visX (IntKind.i64.wrap (d + 1)) (x.c i)) x.n := by cases x <;> rfl

theorem Node.kept {T : Nat → Prop} {W W' : World} (h : Kp T W W') {b o : Nat} {x : X} (hb : T b) (hn : Node W b o x) : Node W' b o x :=
  ⟨h.cell (p := ⟨b, o, none⟩) hb hn.1, h.cell (p := ⟨b, o + 1, none⟩) hb hn.2.1, h.cell (p := ⟨b, o + 2, none⟩) hb hn.2.2.1, h.cell (p := ⟨b, o + 3, none⟩) hb hn.2.2.2.1, h.cell (p := ⟨b, o + 4, none⟩) hb hn.2.2.2.2.1, h.cell (p := ⟨b, o + 5, none⟩) hb hn.2.2.2.2.2.1, h.cell (p := ⟨b, o + 6, none⟩) hb hn.2.2.2.2.2.2⟩
theorem Node.ag {B : Nat} {W A : World} (h : Ag B W A) {b o : Nat} {x : X} (hn : Node W b o x) : Node A b o x := hn.of fun _ _ => h.cell _
/-- A condition whose parts lie in such blocks. -/
def XT (T : Nat → Prop) (w : World) : X → Prop
  | .nil => True
  | .mk _ _ _ _ a n cap c => n ≤ cap ∧ cap ≤ 9223372036854775807 ∧ ∀ i, i < n → ∃ b o, a = some ⟨b, o, none⟩ ∧ T b ∧ Node w b (o + i * 7) (c i) ∧ XT T w (c i)
theorem xT_eq (T : Nat → Prop) (w : World) (x : X) : XT T w x ↔ x.n ≤ x.cap ∧ x.cap ≤ 9223372036854775807 ∧ ∀ i, i < x.n → ∃ b o, x.a = some ⟨b, o, none⟩ ∧ T b ∧ Node w b (o + i * 7) (x.c i) ∧ XT T w (x.c i) := by
  cases x with
  | nil => simp [XT, X.n, X.cap]
  | mk => rfl
theorem XT.kept {T : Nat → Prop} {W W' : World} (h : Kp T W W') : ∀ {x : X}, XT T W x → XT T W' x := by
  refine @(X.ind fun x ih hx => ?_)
  rw [xT_eq] at hx ⊢
  refine ⟨hx.1, hx.2.1, fun i hi => ?_⟩
  obtain ⟨b, o, e, hb, hn, hc⟩ := hx.2.2 i hi
  exact ⟨b, o, e, hb, hn.kept h hb, ih i hi hc⟩
theorem XT.of {T : Nat → Prop} {W W' : World} (h : ∀ p v, W.cell? p = some v → W'.cell? p = some v) : ∀ {x : X}, XT T W x → XT T W' x := by
  refine @(X.ind fun x ih hx => ?_)
  rw [xT_eq] at hx ⊢
  refine ⟨hx.1, hx.2.1, fun i hi => ?_⟩
  obtain ⟨b, o, e, hb, hn, hc⟩ := hx.2.2 i hi
  exact ⟨b, o, e, hb, ⟨h _ _ hn.1, h _ _ hn.2.1, h _ _ hn.2.2.1, h _ _ hn.2.2.2.1, h _ _ hn.2.2.2.2.1, h _ _ hn.2.2.2.2.2.1, h _ _ hn.2.2.2.2.2.2⟩, ih i hi hc⟩
theorem IsX.xt {T : Nat → Prop} {w : World} (hT : ∀ k, k < w.heap.size → T k) : ∀ {x : X}, IsX w x → XT T w x := by
  refine @(X.ind fun x ih hx => ?_)
  rw [isX_eq] at hx
  rw [xT_eq]
  refine ⟨hx.1, hx.2.1, fun i hi => ?_⟩
  obtain ⟨b, o, e, hn, hc⟩ := hx.2.2 i hi
  exact ⟨b, o, e, hT b hn.lt, hn, ih i hi hc⟩

theorem XIn.xt {n : Nat} {T : Nat → Prop} {w : World} (hT : ∀ k, k < n → T k) {x : X} (h : XIn n w x) : XT T w x := by
  revert h
  revert x
  refine @(X.ind fun x ih hx => ?_)
  rw [xIn_eq] at hx
  rw [xT_eq]
  refine ⟨hx.1, hx.2.1, fun i hi => ?_⟩
  obtain ⟨b, o, e, hb, hn, hc⟩ := hx.2.2 i hi
  exact ⟨b, o, e, hT b hb, hn, ih i hi hc⟩
/-- What a round of the range is handed. -/
structure Vis where
  d : Int
  b : Nat
  o : Nat
  y : X
  pre : List (Int × X)

/-- A range over all nodes, each once, in their order. -/
theorem nodes_fold {n : Nat} {g : Operand} {ps : Array Tmp} {assign body : Code} {Q : Exit → Act → World → Prop} {a : Act} {w : World} (Bp b0 o0 : Nat) (x : X) (T : Nat → Prop) (J : List (Int × X) → World → Prop) (Jx : Code → World → Prop)
    (hg : a.eval g = .func (.func 79) #[] #[.pointer (some ⟨Bp, 0, none⟩)]) (hps : ps.size = 2) (hBp : w.cell? ⟨Bp, 0, none⟩ = some (.pointer (some ⟨b0, o0, none⟩)))
    (hT : ∀ k, T k → k < w.heap.size) (hb0 : T b0) (hN : Node w b0 o0 x) (hX : XT T w x)
    (hJ : ∀ pre W A, Ag w.heap.size W A → J pre W → J pre A) (hJd : ∀ pre W, J pre W → J pre W.drew) (h0 : ∀ W, Below w.heap.size w W → J [] W) (hJx : ∀ c W A, Ag w.heap.size W A → Jx c W → Jx c A)
    (a₁ : Int → Nat → Nat → Act)
    (hassign : ∀ (l : Nat) (d : Int) (b o : Nat) (W : World) (K : Act → World → Prop), K (a₁ d b o) W →
      assign.wpIn (Fence.wide.inRound l) (n - 1 - 1) Try.prog (Exit.then K (fun _ _ _ => False)) { tmps := (ps.zip #[.int .i64 d, .pointer (some ⟨b, o, none⟩)]).foldl (fun t (p, v) => t.setIfInBounds p v) a.tmps, defers := [] } W)
    (hbody : ∀ (l : Nat) (d : Int) (b o : Nat) (y : X) (pre : List (Int × X)) (W : World), T b → Node W b o y → XT T W y → J pre W → w.heap.size + 4 ≤ W.heap.size → pre.length < (visX 1 x).length →
      body.wpIn (Fence.wide.inRound l) (n - 1 - 1) Try.prog (foldPost w.heap.size (fun k => T k ∨ k = w.heap.size + 2 ∨ k = w.heap.size + 3) (J (pre ++ [(d, y)])) Jx W) (a₁ d b o) W)
    (hdone : ∀ (D : Nat) (W : World), w.heap.size ≤ D → J (visX 1 x) W → W.heap[D]? = some (.deferred (some [])) → Q .normal { a with defers := { target := .collected D, args := #[] } :: a.defers } W)
    (hstop : ∀ (D : Nat) (c : Code) (W : World), w.heap.size ≤ D → Jx c W → W.heap[D]? = some (.deferred (some [])) → c.wpIn Fence.wide n Try.prog Q { a with defers := { target := .collected D, args := #[] } :: a.defers } W) :
    (Code.rangeFunc g ps assign body).wpIn Fence.wide n Try.prog Q a w := by
  obtain ⟨T', hT'⟩ : ∃ T' : Nat → Prop, T' = fun k => T k ∨ k = w.heap.size + 2 ∨ k = w.heap.size + 3 := ⟨_, rfl⟩
  have tT : ∀ k, T k → T' k := fun k hk => by rw [hT']; exact .inl hk
  refine wpIn_range (α := Vis) hg (enters_of Try.func79 (by kernel_rfl) rfl) (encs := fun v => #[.int .i64 v.d, .pointer (some ⟨v.b, v.o, none⟩)]) (fun _ => hps.symm)
    (fun v W => T v.b ∧ Node W v.b v.o v.y ∧ XT T W v.y ∧ J v.pre W ∧ w.heap.size + 4 ≤ W.heap.size ∧ v.pre.length < (visX 1 x).length)
    (fun v W W' => Kp T' W W' ∧ J (v.pre ++ [(v.d, v.y)]) W' ∧ w.heap.size + 4 ≤ W'.heap.size)
    (fun c _ _ W' => Jx c W') (J (visX 1 x)) Jx ?_ ?_ ?_ (fun W A h => hJ _ W A h) hJx (fun v => a₁ v.d v.b v.o) (fun l v W K hK => hassign l v.d v.b v.o W K hK) ?_ ?_ hdone hstop
  · rintro v W A hag ⟨h1, h2, h3, h4, h5, h6⟩
    exact ⟨h1, h2.ag hag, h3.of fun p v h => (hag.cell p).trans h, hJ _ _ _ hag h4, by rw [hag.size]; exact h5, h6⟩
  · rintro v W A A' W' hag hag' ⟨h1, h2, h3⟩
    exact ⟨Kp.ag hag hag' h1, hJ _ _ _ hag' h2, by rw [hag'.size]; exact h3⟩
  · rintro c v W A A' W' hag hag' h
    exact hJx _ _ _ hag' h
  · rintro l v W ⟨h1, h2, h3, h4, h5, h6⟩ _
    refine wpIn_mono (hbody l v.d v.b v.o v.y v.pre W h1 h2 h3 h4 h5 h6) ?_
    rintro e a3 W3 hp
    cases e with
    | normal => exact ⟨hp.1, by rw [hT']; exact hp.2.1, hp.2.2, Nat.le_trans h5 hp.1.size⟩
    | ret => exact hp
    | exit id => exact hp
    | goto t => exact hp
    | panic ch => exact hp.elim
    | outgrown => exact hp.elim
  · intro l Rec RecX W1 hB1 hs1 hrec1 hrec hrecx hY
    have hkT : Kp T w W1 := Kp.of_below hB1 hT
    have hlt : Bp < w.heap.size := by
      obtain ⟨ob, ho, -⟩ := cells_of_cell hBp
      exact (Array.getElem?_eq_some_iff.1 ho).1
    refine (nodes1_in (n - 1) l Bp b0 o0 W1 (fun e W' => (e = .returned (.bool true) ∧ J (visX 1 x) W' ∧ Rec W') ∨ (e = .returned (.bool false) ∧ ∃ c, Jx c W' ∧ RecX c W')) ((hB1.cell (p := ⟨Bp, 0, none⟩) hlt).trans hBp) ?_).mono ?_
    · intro W2 by2 bd2 hB2 hs2
      have key := down_any (ι := Int × X × List (Int × X)) l W1.heap.size (W1.heap.size + 1) (fun v => v.2.1.n) (fun v i => (IntKind.i64.wrap (v.1 + 1), v.2.1.c i, v.2.2 ++ (v.1, v.2.1) :: catN (fun i => visX (IntKind.i64.wrap (v.1 + 1)) (v.2.1.c i)) i)) (fun v => v.2.1.size)
        (fun v b o d W => v.1 = d ∧ T b ∧ Node W b o v.2.1 ∧ XT T W v.2.1 ∧ J v.2.2 W ∧ Rec W ∧ Boxed W W1.heap.size 107 (.func (.yield l) #[] #[]) ∧ Boxed W (W1.heap.size + 1) 107 (downV W1.heap.size (W1.heap.size + 1)) ∧ w.heap.size + 4 ≤ W.heap.size ∧ v.2.2.length + (visX v.1 v.2.1).length ≤ (visX 1 x).length)
        (fun v b o d W a cap i Wi => a = v.2.1.a ∧ cap = v.2.1.cap ∧ v.1 = d ∧ T b ∧ Node Wi b o v.2.1 ∧ XT T Wi v.2.1 ∧ J (v.2.2 ++ (v.1, v.2.1) :: catN (fun i => visX (IntKind.i64.wrap (v.1 + 1)) (v.2.1.c i)) i) Wi ∧ Rec Wi ∧
          Boxed Wi W1.heap.size 107 (.func (.yield l) #[] #[]) ∧ Boxed Wi (W1.heap.size + 1) 107 (downV W1.heap.size (W1.heap.size + 1)) ∧ w.heap.size + 4 ≤ Wi.heap.size ∧ Kp T' W Wi ∧ v.2.2.length + (visX v.1 v.2.1).length ≤ (visX 1 x).length)
        (fun v b o d W W' => J (v.2.2 ++ visX v.1 v.2.1) W' ∧ Rec W' ∧ Kp T' W W' ∧ w.heap.size + 4 ≤ W'.heap.size)
        (fun v b o d W W' => ∃ c, Jx c W' ∧ RecX c W')
        (fun v i hi => X.size_part v.2.1 i hi) (fun v b o d W h => h.2.2.2.2.2.2.1.cell) ?_ ?_ ?_ ?_ (x.size + 1) (1, x, []) (by simp) (n - 1 - 1) b0 o0 1 W2 ?_
      · refine key.mono ?_
        rintro e W' (⟨rfl, h1, h2, -⟩ | ⟨rfl, h⟩)
        · exact ⟨true, rfl, .inl ⟨rfl, by simpa using h1, h2⟩⟩
        · exact ⟨false, rfl, .inr ⟨rfl, h⟩⟩
      · rintro ⟨d', y, pre⟩ b o d W ⟨rfl, h1, h2, h3, h4, h5, h6, h7, h8, hN⟩
        refine YieldAt.mono (hY 0 ⟨d', b, o, y, pre⟩ W ⟨h1, h2, h3, h4, h8, by rw [visX_eq d' y] at hN; simp only [List.length_cons] at hN ⊢; omega⟩ h5) ?_
        rintro e W' (⟨rfl, ⟨k1, k2, k3⟩, k4, -⟩ | ⟨rfl, c, k1, k2⟩)
        · have kT : Kp T W W' := k1.mono tT
          exact .inl ⟨rfl, y.a, y.cap, rfl, rfl, rfl, h1, h2.kept kT h1, h3.kept kT, by simpa [catN] using k2, k4, k1.boxed (by rw [hT']; exact .inr (.inl (by omega))) h6, k1.boxed (by rw [hT']; exact .inr (.inr (by omega))) h7, k3, k1, hN⟩
        · exact .inr ⟨rfl, c, k1, k2⟩
      · rintro ⟨d', y, pre⟩ b o d W a cap i Wi ⟨rfl, rfl, rfl, h1, h2, h3, h4, h5, h6, h7, h8, h9, hN⟩
        have := ((xT_eq _ _ _).1 h3)
        simp only at this
        exact ⟨by simp only; omega, h2.2.2.2.2.2.2, h7.cell⟩
      · rintro ⟨d', y, pre⟩ b o d W a cap i Wi ⟨rfl, rfl, rfl, h1, h2, h3, h4, h5, h6, h7, h8, h9, hN⟩ hi
        obtain ⟨b', o', ea, hb', hn', hx'⟩ := ((xT_eq _ _ _).1 h3).2.2 i hi
        refine ⟨b', o', ea, ⟨rfl, hb', hn', XT.of (W := Wi) (W' := Wi.drew) (fun _ _ h => h) hx', hJd _ _ h4, hrec Wi Wi.drew ⟨Nat.le_refl _, fun _ _ _ h _ => h⟩ h5, h6, h7, h8, ?_⟩, ?_, fun W' h => h⟩
        · have hl := catN_len (fun i => visX (IntKind.i64.wrap (d' + 1)) (y.c i)) hi
          rw [visX_eq d' y] at hN
          simp only [List.length_cons, List.length_append] at hN hl ⊢
          omega
        rintro W' ⟨k1, k2, k3, k4⟩
        have kk : Kp T' Wi W' := k3
        have kT : Kp T Wi W' := kk.mono tT
        exact ⟨rfl, rfl, rfl, h1, h2.kept kT h1, h3.kept kT, by simpa [catN] using k1, k2, kk.boxed (by rw [hT']; exact .inr (.inl (by omega))) h6, kk.boxed (by rw [hT']; exact .inr (.inr (by omega))) h7, k4, h9.trans kk, hN⟩
      · rintro ⟨d', y, pre⟩ b o d W a cap Wi ⟨rfl, rfl, rfl, h1, h2, h3, h4, h5, h6, h7, h8, h9, hN⟩
        exact ⟨by rw [visX_eq]; exact h4, h5, h9, h8⟩
      · have hB : Below w.heap.size w W2 := hB1.trans (hB2.mono (by omega))
        have kT : Kp T w W2 := Kp.of_below hB hT
        refine ⟨rfl, hb0, hN.kept kT hb0, hX.kept kT, h0 W2 hB, hrec W1 W2 ⟨by omega, fun k o hk ho _ => ?_⟩ hrec1, by2, bd2, by omega, by simp⟩
        exact (hB2.block k (Array.getElem?_eq_some_iff.1 ho).1).trans ho
    · rintro e W' ⟨hv, r, (⟨-, h1, h2⟩ | ⟨-, h⟩)⟩
      · exact ⟨hv, .inl ⟨h1, h2⟩⟩
      · exact ⟨hv, .inr h⟩
end Go.Proofs.Ytinnhaojmnmliaa
