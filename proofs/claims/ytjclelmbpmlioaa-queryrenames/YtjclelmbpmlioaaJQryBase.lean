/-
  Queries as they lie in memory; items in rows of four cells; of no function.
  query.joined; slices.Clone of items.
  Queries in a box; of no function.
  query.firsts: each name's first place.
  The same queries; of no function.
  query.Where; the document's Light of queries; law13's awake.
-/
import Derived.Test.YtjclelmbpmlioaaJExprBase
import Derived.Test.YtjclelmbpmlioaaJPatMath
import Derived.Test.YtjclelmbpmlioaaJPatRefSame
import Derived.Test.YtjclelmbpmlioaaJNamesMath
import Derived.Test.YtjclelmbpmlioaaJExprRename
import Derived.Test.YtjclelmbpmlioaaJPatCopied
import Derived.WalkKit
import Derived.OwnWalkIn
import Derived.Maps.OwnSet
import Derived.Maps.OwnIn
import Derived.Maps.Views
namespace Go.Proofs.Ytjclelmbpmlioaa
open Go.RowKit

/-- An item: its Name, kind, Var and Field. -/
structure It where
  nm : ByteArray
  k : Int
  s : ByteArray
  f : ByteArray
abbrev It.val (x : It) : Value := .agg #[.string x.nm, .int .i64 x.k, .string x.s, .string x.f]
/-- The four cells of an item. -/
def ItAt (w : World) (b o : Nat) (x : It) : Prop :=
  w.cell? ⟨b, o, none⟩ = some (.string x.nm) ∧ w.cell? ⟨b, o + 1, none⟩ = some (.int .i64 x.k) ∧ w.cell? ⟨b, o + 2, none⟩ = some (.string x.s) ∧ w.cell? ⟨b, o + 3, none⟩ = some (.string x.f)
theorem ItAt.lt {w : World} {b o : Nat} {x : It} (h : ItAt w b o x) : b < w.heap.size := World.block_lt_of_cell? w _ h.1
theorem ItAt.later {w w' : World} {b o : Nat} {x : It} (h : ItAt w b o x) (hB : Below w.heap.size w w') : ItAt w' b o x :=
  ⟨cell_later h.1 hB, cell_later h.2.1 hB, cell_later h.2.2.1 hB, cell_later h.2.2.2 hB⟩
theorem itAt_box {w : World} {B : Nat} {t : TypeId} {x : It} (h : w.heap[B]? = some (.cells #[.string x.nm, .int .i64 x.k, .string x.s, .string x.f] t (0, 0))) : ItAt w B 0 x := by
  refine ⟨?_, ?_, ?_, ?_⟩ <;> simp [World.cell?, h]
/-- Items in a slice, by index. -/
def Its (w : World) (a : Option Addr) (n : Nat) (I : Nat → It) : Prop := ∀ i, i < n → ∃ b o, a = some ⟨b, o, none⟩ ∧ ItAt w b (o + i * 4) (I i)
theorem Its.later {w w' : World} {a : Option Addr} {n : Nat} {I : Nat → It} (h : Its w a n I) (hB : Below w.heap.size w w') : Its w' a n I := fun i hi => by
  obtain ⟨b, o, e, hc⟩ := h i hi
  exact ⟨b, o, e, hc.later hB⟩
/-- A query: its pattern, its conditions (as the parts of one), Key, Mode, Within and items. -/
structure Qy where
  p : Pt
  a : Option Addr
  n : Nat
  cap : Nat
  c : Nat → X
  key : ByteArray
  mode : Int
  win : Int
  ia : Option Addr
  m : Nat
  icap : Nat
  it : Nat → It
/-- Its conditions as one. -/
abbrev Qy.x (q : Qy) : X := .mk 16 val0 ⟨#[]⟩ ⟨#[]⟩ q.a q.n q.cap q.c
abbrev Qy.cells (q : Qy) : Array Value := #[.int .i64 q.p.k, .string q.p.s, .string q.p.t, .int .i64 q.p.lo, .int .i64 q.p.hi, .slice q.p.a q.p.n q.p.cap, .slice q.a q.n q.cap, .string q.key, .int .i64 q.mode, .int .i64 q.win, .slice q.ia q.m q.icap]
abbrev Qy.val (q : Qy) : Value := .agg q.cells
structure IsQ (w : World) (q : Qy) : Prop where
  p : IsP w q.p
  x : IsX w q.x
  it : Its w q.ia q.m q.it
  len : q.m ≤ q.icap ∧ q.icap ≤ 9223372036854775807
theorem IsQ.later {w w' : World} {q : Qy} (h : IsQ w q) (hB : Below w.heap.size w w') : IsQ w' q := ⟨h.p.later hB, h.x.later hB, h.it.later hB, h.len⟩
/-- Texts no longer than texts can be. -/
structure QOk (q : Qy) : Prop where
  p : POk q.p
  x : XOk q.x
  key : q.key.size ≤ maxLen
  it : ∀ i, i < q.m → (q.it i).nm.size ≤ maxLen ∧ (q.it i).s.size ≤ maxLen ∧ (q.it i).f.size ≤ maxLen
/-- How much there is of it. -/
def Qy.bulk (q : Qy) : Nat := q.p.size + q.x.size + q.m
/-- The cells of some items, one behind the other. -/
abbrev It.cells (x : It) : Array Value := #[.string x.nm, .int .i64 x.k, .string x.s, .string x.f]
def rowI4 (c : Nat → It) : Nat → List Value
  | 0 => []
  | n + 1 => rowI4 c n ++ (c n).cells.toList
theorem rowI4_len (c : Nat → It) : ∀ n, (rowI4 c n).length = n * 4
  | 0 => rfl
  | n + 1 => by rw [rowI4, List.length_append, rowI4_len c n]; simp; omega
theorem rowI4_get (c : Nat → It) : ∀ n i j, i < n → j < 4 → (rowI4 c n)[i * 4 + j]? = (c i).cells[j]?
  | 0, _, _, h, _ => by omega
  | n + 1, i, j, h, hj => by
    rw [rowI4]
    by_cases e : i = n
    · subst e
      rw [List.getElem?_append_right (by rw [rowI4_len]; omega), rowI4_len, show i * 4 + j - i * 4 = j by omega]
      simp
    · rw [List.getElem?_append_left (by rw [rowI4_len]; omega)]
      exact rowI4_get c n i j (by omega) hj
theorem rowI4_one (c : Nat → It) : ∀ n, ∀ u ∈ rowI4 c n, u.oneCell' = true
  | 0, u, h => by simp [rowI4] at h
  | n + 1, u, h => by
    rw [rowI4, List.mem_append] at h
    rcases h with h | h
    · exact rowI4_one c n u h
    · simp at h
      rcases h with rfl | rfl | rfl | rfl <;> rfl
theorem rowI4_congr {c d : Nat → It} : ∀ {n : Nat}, (∀ i, i < n → c i = d i) → rowI4 c n = rowI4 d n
  | 0, _ => rfl
  | n + 1, h => by rw [rowI4, rowI4, rowI4_congr fun i hi => h i (by omega), h n (by omega)]
/-- Items, one behind the other, as cells. -/
theorem its_cells {w : World} {b o n : Nat} {c : Nat → It} (h : ∀ i, i < n → ItAt w b (o + i * 4) (c i)) : ∀ j u, (rowI4 c n)[j]? = some u → w.cell? ((Addr.mk b o none).add j) = some u := by
  intro j u hu
  have hj : j < n * 4 := by have := (List.getElem?_eq_some_iff.1 hu).1; rwa [rowI4_len] at this
  have hi : j / 4 < n := by omega
  have hm : j % 4 < 4 := Nat.mod_lt _ (by omega)
  have he : j / 4 * 4 + j % 4 = j := by omega
  have := rowI4_get c n (j / 4) (j % 4) hi hm
  rw [he, hu] at this
  rw [add_none]
  obtain ⟨d0, d1, d2, d3⟩ := h (j / 4) hi
  obtain ⟨m, hm'⟩ : ∃ m, m = j % 4 := ⟨_, rfl⟩
  rw [← hm'] at this hm he
  rw [show o + j = o + j / 4 * 4 + m by omega]
  match m, hm with
  | 0, _ => simp at this; rw [this]; exact d0
  | 1, _ => simp at this; rw [this]; exact d1
  | 2, _ => simp at this; rw [this]; exact d2
  | 3, _ => simp at this; rw [this]; exact d3
/-- A row that a call owns, item by item. -/
theorem own_its {w : World} {base n : Nat} {v : Value} {c : Nat → It} (h : w.ownsRow base 72 4 v n (rowI4 c n)) :
    ∃ a cap, v = .slice a n cap ∧ n ≤ cap ∧ cap ≤ maxLen ∧ (0 < n → ∃ g, a = some ⟨g, 0, none⟩ ∧ base ≤ g ∧ g < w.heap.size ∧ (∃ cur, w.heap[g]? = some (.cells cur 72 (0, 0))) ∧ ∀ i, i < n → ItAt w g (i * 4) (c i)) := by
  rcases h.2 with ⟨rfl, rfl⟩ | ⟨g, cap, cur, rfl, hg, hc, hnc, hcm, hs, ht⟩
  · exact ⟨none, 0, rfl, Nat.le_refl _, Nat.zero_le _, fun h => by omega⟩
  · refine ⟨_, cap, rfl, hnc, hcm, fun h0 => ⟨g, rfl, hg, (Array.getElem?_eq_some_iff.1 hc).1, ⟨cur, hc⟩, fun i hi => ?_⟩⟩
    have key : ∀ j, j < 4 → w.cell? ⟨g, i * 4 + j, none⟩ = (c i).cells[j]? := by
      intro j hj
      rw [← rowI4_get c n i j hi hj, ← ht, List.getElem?_take_of_lt (by omega)]
      simp only [World.cell?, hc]
      rw [Array.getElem?_toList]
      rfl
    exact ⟨key 0 (by omega), key 1 (by omega), key 2 (by omega), key 3 (by omega)⟩
theorem infoI4 : (Try.prog.info? 72).map (fun i => (i.zero, i.size, i.bytes)) = some (some (.agg #[.string ⟨#[]⟩, .int .i64 0, .string ⟨#[]⟩, .string ⟨#[]⟩]), 4, 56) := by kernel_rfl
/-- Some items more behind a row that the call owns. -/
theorem push_i {w : World} {base n : Nat} {v : Value} {xs : List Value} (h : w.ownsRow base 72 4 v n xs) (hb : base ≤ w.heap.size) (p : Addr) (m k : Nat) (c : Nat → It) (hm : ∀ i, i < m → ∃ b o, p = ⟨b, o, none⟩ ∧ ItAt w b (o + i * 4) (c i)) (hn : n + m ≤ 2513169434843) :
    ∃ v' w', (Builtin.append_ #[39, 39] 39 #[v, .slice (some p) m k]).run Try.prog w = .ok v' w' ∧ w'.ownsRow base 72 4 v' (n + m) (xs ++ rowI4 c m) ∧ w.grownBy w' v.ownBlock := by
  obtain ⟨i0, hi, hz0, hz1, hz2⟩ := info_parts infoI4
  obtain ⟨v', w', hrun, hown', hgrow, _⟩ := run_append_own (P := Try.prog) (w := w) base 39 39 72 i0 _ 4 56 Try.underlying39 hi hz0 hz1 hz2 rfl (by decide) v n xs h p m k (rowI4 c m) (rowI4_len c m)
    (fun j u hu => by
      have h0 : 0 < m := by
        have := (List.getElem?_eq_some_iff.1 hu).1
        rw [rowI4_len] at this
        omega
      obtain ⟨b, o, rfl, _⟩ := hm 0 h0
      refine its_cells (fun i hi => ?_) j u hu
      obtain ⟨b', o', e, hn'⟩ := hm i hi
      cases e
      exact hn') (rowI4_one c m) (by unfold maxLen; omega) (by omega) hb
  exact ⟨v', w', hrun, hown', hgrow⟩
end Go.Proofs.Ytjclelmbpmlioaa
namespace Go.Proofs.Ytjclelmbpmlioaa
open Go.RowKit

set_option maxRecDepth 100000 in
theorem joined_any (a : Option Addr) (n cap : Nat) (c : Nat → X) (w : World) : Calls Try.prog 37 #[.slice a n cap] w fun e w' => e = .returned (X.mk 16 val0 ⟨#[]⟩ ⟨#[]⟩ a n cap c).val ∧ Below w.heap.size w w' := by
  go_enter Try.func37, Try.ntmps37
  go_wp2
  exact bodyPost_ret (v := (X.mk 16 val0 ⟨#[]⟩ ⟨#[]⟩ a n cap c).val) (by simp [results, Try.results37, go_sem]; exact ⟨rfl, rfl, rfl, rfl, rfl, rfl, rfl, rfl, rfl⟩) rfl ⟨rfl, (Below.refl _ _).alloc (Nat.le_refl _) _⟩
set_option maxRecDepth 100000 in
set_option maxHeartbeats 2000000 in
theorem cloneI_wide (a : Option Addr) (n cap : Nat) (c : Nat → It) (w : World) (h : Its w a n c) (hn : n ≤ 2513169434843) :
    Calls Try.prog 38 #[.slice a n cap] w fun e w' => ∃ v, e = .returned v ∧ w'.ownsRow w.heap.size 72 4 v n (rowI4 c n) ∧ Below w.heap.size w w' := by
  cases a with
  | none =>
    obtain rfl : n = 0 := by
      by_cases h0 : 0 < n
      · obtain ⟨_, _, e, _⟩ := h 0 h0
        cases e
      · omega
    clear h
    have he : ∀ w : World, (binOp .eql 39 (.slice none 0 cap) (.slice none 0 0)).run Try.prog w = .ok (.bool true) w := fun _ => rfl
    go_enter Try.func38, Try.ntmps38
    go_wp2
    go_ret
    exact ⟨_, rfl, World.ownsRow_nil _ _ _ _, Below.refl _ _⟩
  | some x =>
    have hB0 : Below w.heap.size w (w.alloc (.cells #[] 72)) := (Below.refl _ _).alloc (Nat.le_refl _) _
    have hown0 : (w.alloc (.cells #[] 72)).ownsRow w.heap.size 72 4 (.slice (some ⟨w.heap.size, 0, none⟩) 0 0) 0 [] :=
      ⟨rfl, .inr ⟨w.heap.size, 0, #[], rfl, Nat.le_refl _, alloc_new w _, Nat.le_refl _, Nat.zero_le _, rfl, rfl⟩⟩
    obtain ⟨v1, w1, hrun1, hown1, hg1⟩ := push_i hown0 (by simp) x n cap c (fun i hi => by
      obtain ⟨b', o', e, hn'⟩ := h i hi
      cases e
      exact ⟨b', o', rfl, hn'.later hB0⟩) (by omega)
    simp only [Nat.zero_add, List.nil_append] at hown1
    have hB1 : Below w.heap.size w w1 := hB0.grown hg1 (by simp) (by intro k hk; simp [Value.ownBlock] at hk; omega)
    have HR1 : Hid (_ = _) := hrun1
    clear h hown0 hB0 hg1 hrun1
    have he : ∀ w : World, (binOp .eql 39 (.slice (some x) n cap) (.slice none 0 0)).run Try.prog w = .ok (.bool false) w := fun _ => rfl
    go_enter Try.func38, Try.ntmps38
    go_wp2_with (first | (at_builtin; refine wpList_append_run rfl (.tmp 5) (.tmp 6) 39 rfl _ _ _ rfl rfl HR1.out ?_))
    go_ret
    exact ⟨_, rfl, hown1, hB1⟩
end Go.Proofs.Ytjclelmbpmlioaa
namespace Go.Proofs.Ytjclelmbpmlioaa
open Go.RowKit

/-- A query in its box. -/
def QB (W : World) (b : Nat) (q : Qy) : Prop := W.heap[b]? = some (.cells q.cells 41 (0, 0))
theorem QB.at0 {W : World} {b : Nat} {q : Qy} (h : QB W b q) : (W.cell? ⟨b, 0, none⟩ = some (.int .i64 q.p.k) ∧ W.cell? ⟨b, 1, none⟩ = some (.string q.p.s) ∧ W.cell? ⟨b, 2, none⟩ = some (.string q.p.t) ∧ W.cell? ⟨b, 3, none⟩ = some (.int .i64 q.p.lo) ∧
    W.cell? ⟨b, 4, none⟩ = some (.int .i64 q.p.hi) ∧ W.cell? ⟨b, 5, none⟩ = some (.slice q.p.a q.p.n q.p.cap)) ∧ W.cell? ⟨b, 6, none⟩ = some (.slice q.a q.n q.cap) ∧ W.cell? ⟨b, 7, none⟩ = some (.string q.key) ∧ W.cell? ⟨b, 8, none⟩ = some (.int .i64 q.mode) ∧
    W.cell? ⟨b, 9, none⟩ = some (.int .i64 q.win) ∧ W.cell? ⟨b, 10, none⟩ = some (.slice q.ia q.m q.icap) := by
  unfold QB at h
  refine ⟨⟨?_, ?_, ?_, ?_, ?_, ?_⟩, ?_, ?_, ?_, ?_, ?_⟩ <;> simp [World.cell?, h]
theorem QB.frozen {W : World} {b : Nat} {q : Qy} (h : QB W b q) (j : Nat) : W.frozen? ⟨b, j, none⟩ = false := by
  unfold QB at h
  simp [World.frozen?, h]
theorem QB.lt {W : World} {b : Nat} {q : Qy} (h : QB W b q) : b < W.heap.size := (Array.getElem?_eq_some_iff.1 h).1
theorem QB.later {W W' : World} {b : Nat} {q : Qy} (h : QB W b q) (hB : Below W.heap.size W W') : QB W' b q := (hB.block b h.lt).trans h
theorem QB.new (W : World) (q : Qy) : QB (W.alloc (.cells q.cells 41)) W.heap.size q := alloc_new W _
end Go.Proofs.Ytjclelmbpmlioaa
namespace Go.Proofs.Ytjclelmbpmlioaa
open Go.RowKit Go.Shelf Go.Maps Go.WideMaps
attribute [local go_sem] Oper.semAt_some

set_option maxRecDepth 100000 in
set_option maxHeartbeats 4000000 in
theorem firstsQ_in (n : Nat) (a : Option Addr) (m cap : Nat) (S : Nat → ByteArray) (w : World) (hx : Txs w a m S) (hm : m ≤ 9223372036854775807) (hs : ∀ j, j < m → (S j).size ≤ maxLen) :
    CallsIn Fence.wide n Try.prog 39 #[.slice a m cap] w fun e w' => e = .returned (.map (some w.heap.size)) ∧ (∃ D, w'.ownsMap Try.prog 9 (plainElem (H := Unit) Try.prog 3) w.heap.size m D ∧ Firsts S m 0 D) ∧ Below w.heap.size w w' := by
  have hdd : ∀ k : Nat, (Fence.wide.depth.isSome = true → 1 ≤ k) := fun k h => by cases h
  have hmm := @run_makeMap Try.prog
  refine callsIn_of_wp_marks Try.func39 rfl trivial ?_ rfl
  simp only [Try.ntmps39, List.size_toArray, List.length_cons, List.length_nil, Nat.reduceAdd, Nat.reduceSub, Array.replicate_succ, Array.replicate_zero, List.push_toArray, List.append_toArray, List.nil_append, List.cons_append]
  gi_wp2_with (refine ⟨trivial, hdd _, ?_⟩; gi_at_call 23; refine (backward_in _ _ _ _ _).mono ?_; rintro e w' ⟨rfl, rfl⟩)
  obtain ⟨A, hA⟩ : ∃ A, (((w.alloc (.map #[] 0)).alloc (.cells #[.map (some w.heap.size)] 47)).alloc (.cells #[.slice a m cap] 25)) = A := ⟨_, rfl⟩
  have hsz : A.heap.size = w.heap.size + 3 := by rw [← hA]; simp
  have hB : Below w.heap.size w A := by rw [← hA]; exact (((Below.refl _ w).alloc (Nat.le_refl _) _).alloc (by simp) _).alloc (by simp; omega) _
  have hbm : Boxed A (w.heap.size + 1) 47 (.map (some w.heap.size)) := by
    have := (Boxed.new (w.alloc (.map #[] 0)) 47 (.map (some w.heap.size))).alloc (.cells #[.slice a m cap] 25)
    rw [World.size_alloc, hA] at this
    exact this
  have hbs : Boxed A (w.heap.size + 1 + 1) 25 (.slice a m cap) := by
    have := Boxed.new ((w.alloc (.map #[] 0)).alloc (.cells #[.map (some w.heap.size)] 47)) 25 (.slice a m cap)
    rw [World.size_alloc, World.size_alloc, hA] at this
    exact this
  have hown : A.ownsMap Try.prog 9 (plainElem (H := Unit) Try.prog 3) w.heap.size 0 (.map []) := by
    rw [← hA]
    exact ((World.ownsMap_made w _ _ _).alloc _).alloc _
  rw [hA]
  refine back_fold (w.heap.size + 1 + 1) a m cap S (fun k W => (∃ D, W.ownsMap Try.prog 9 (plainElem (H := Unit) Try.prog 3) w.heap.size (m - k) D ∧ Hid (Firsts S m k D)) ∧ Boxed W (w.heap.size + 1) 47 (.map (some w.heap.size)) ∧ Below w.heap.size w W)
    rfl rfl hbs (hx.later hB) hm ?_ ?_
    (fun k => { tmps := #[.slice a m cap, undef, .map none, .pointer (some ⟨w.heap.size + 1, 0, none⟩), .int .i64 k, .string (S k), .map (some w.heap.size), .slice a m cap, .func (.func 41) #[] #[.pointer (some ⟨w.heap.size + 1 + 1, 0, none⟩)], .int .i64 k, .string (S k), undef, undef, undef, undef], defers := [] }) ?_ ?_ ?_
  · rintro k W B hag ⟨⟨D, h1, h2⟩, h3, h4⟩
    exact ⟨⟨D, ownsMap_ag hag (by omega) h1, h2⟩, hag.boxed h3, hag.below (by omega) h4⟩
  · exact fun W h => ⟨⟨_, (ownsMap_below h (by omega) hown).mono (Nat.zero_le _), firsts_none S m⟩, Boxed.kept_of hbm h (by omega), hB.trans (h.mono (by omega))⟩
  · intro l k W K hK
    gi_wp2
    first | exact hK | simpa using hK
  · rintro l k W hk ⟨⟨D, h1, h2⟩, h3, h4⟩ hs2
    have c1 := h3.cell
    have HS : Hid ((S k).size ≤ maxLen) := hs k hk
    have hkey : keyOf Try.prog 9 (.string (S k)) = some (keyS (S k)) := keyOf_string_mk Try.underlying9 HS.out
    gi_wp2_with (first
      | (gi_at_mapUpdate; refine wpListIn_mapUpdate_own _ rfl _ _ _ 47 rfl 9 3 str_law Try.underlying47 (plainElem (H := Unit) Try.prog 3) w.heap.size (m - (k + 1)) _ rfl h1 (by unfold maxLen; omega) _ _ _ rfl rfl hkey _ [] (plainElem_int Try.underlying3 (WalkArith.wf_i64 (by omega))) ?_; intro w1 hown1 hgrow1)
      | gi_in)
    have hmap : ∀ (k' : Nat) (o : Obj), o.isCells = true → W.heap[k']? = some o → w1.heap[k']? = some o := fun k' o ho e => by
      refine (hgrow1.block k' (Array.getElem?_eq_some_iff.1 e).1 fun q => ?_).trans e
      injection q with q
      subst q
      obtain ⟨es, clock, e1, _⟩ := h1
      rw [e1] at e
      cases e
      cases ho
    refine ⟨⟨hgrow1.size, fun k' o hk' ho _ => (hgrow1.block k' (Array.getElem?_eq_some_iff.1 ho).1 fun q => ?_).trans ho⟩, fun k' o _ ho e => hmap k' o ho e, ⟨_, hown1.mono (by omega), h2.out.more h1.isMap hk⟩, hmap _ _ rfl h3, h4.grown hgrow1 h4.size (fun j hj => by cases hj; exact Nat.le_refl _)⟩
    injection q with q
    omega
  · rintro D W hD ⟨⟨E, h1, h2⟩, h3, h4⟩ hK
    have c1 := h3.cell
    gi_wp2
    refine ⟨by simp, .inl ⟨_, _, rfl, run_takeDeferred hK, ?_⟩⟩
    have hbk := belowK_b (w := A) (n₀ := A.heap.size) (Nat.le_refl _) W D _ (.deferred none) hD hK rfl rfl
    exact ⟨_, results_tmp rfl _ _ _, rfl, ⟨E, (ownsMap_below hbk (by omega) h1).mono (by omega), h2.out⟩, h4.trans (hbk.mono (by omega))⟩
theorem firstsQ_any (a : Option Addr) (m cap : Nat) (S : Nat → ByteArray) (w : World) (hx : Txs w a m S) (hm : m ≤ 9223372036854775807) (hs : ∀ j, j < m → (S j).size ≤ maxLen) :
    Calls Try.prog 39 #[.slice a m cap] w fun e w' => e = .returned (.map (some w.heap.size)) ∧ (∃ D, w'.ownsMap Try.prog 9 (plainElem (H := Unit) Try.prog 3) w.heap.size m D ∧ Firsts S m 0 D) ∧ Below w.heap.size w w' :=
  (callsIn_wide (n := 3)).1 (firstsQ_in 3 a m cap S w hx hm hs)
end Go.Proofs.Ytjclelmbpmlioaa
namespace Go.Proofs.Ytjclelmbpmlioaa
open Go.RowKit

/-- The same items? -/
def sameI (x y : It) : Bool := decide (x.nm = y.nm) && (decide (x.k = y.k) && (decide (x.s = y.s) && decide (x.f = y.f)))
theorem sameI_iff (x y : It) : sameI x y = true ↔ x = y := by
  cases x
  cases y
  simp [sameI]
theorem neqI (x y : It) (W : World) : (binOp .neq 72 x.val y.val).run Try.prog W = .ok (.bool (!sameI x y)) W := by
  simp [go_sem, same_str, sameI]
  by_cases h1 : x.nm = y.nm <;> by_cases h2 : x.k = y.k <;> by_cases h3 : x.s = y.s <;> by_cases h4 : x.f = y.f <;> simp [h1, h2, h3, h4]
/-- The same queries? -/
def sameQ (q r : Qy) : Bool := sameP q.p r.p && (decide (q.key = r.key) && (decide (q.mode = r.mode) && (decide (q.win = r.win) && (decide (q.n = r.n) && (decide (q.m = r.m) && (allN (fun i => ordX (q.c i) (r.c i) == 0) q.n && allN (fun i => sameI (q.it i) (r.it i)) q.m))))))
theorem sameQ_iff (q r : Qy) : sameQ q r = true ↔ Sm q.p r.p ∧ q.key = r.key ∧ q.mode = r.mode ∧ q.win = r.win ∧ q.n = r.n ∧ q.m = r.m ∧ (∀ i, i < q.n → ordX (q.c i) (r.c i) = 0) ∧ ∀ i, i < q.m → q.it i = r.it i := by
  simp only [sameQ, Bool.and_eq_true, decide_eq_true_eq, allN_true, beq_iff_eq, sameI_iff, Sm]
theorem boxQ_two (q r : Qy) (w : World) : ∃ A, (w.alloc (.cells q.cells 41)).alloc (.cells r.cells 41) = A ∧ Below w.heap.size w A ∧ A.heap.size = w.heap.size + 2 ∧ QB A w.heap.size q ∧ QB A (w.heap.size + 1) r :=
  ⟨_, rfl, ((Below.refl _ w).alloc (Nat.le_refl _) _).alloc (by simp) _, by simp, (alloc_old (by simp)).trans (QB.new w q), by
    have := QB.new (w.alloc (.cells q.cells 41)) r
    rw [World.size_alloc] at this
    exact this⟩
theorem boxQ_below (q r : Qy) (w : World) : Below w.heap.size w ((w.alloc (.cells q.cells 41)).alloc (.cells r.cells 41)) := ((Below.refl _ w).alloc (Nat.le_refl _) _).alloc (by simp) _
theorem boxQ_first (q r : Qy) (w : World) : QB ((w.alloc (.cells q.cells 41)).alloc (.cells r.cells 41)) w.heap.size q := (alloc_old (by simp)).trans (QB.new w q)
theorem boxQ_second (q r : Qy) (w : World) : QB ((w.alloc (.cells q.cells 41)).alloc (.cells r.cells 41)) (w.heap.size + 1) r := by
  have := QB.new (w.alloc (.cells q.cells 41)) r
  rw [World.size_alloc] at this
  exact this
end Go.Proofs.Ytjclelmbpmlioaa
namespace Go.Proofs.Ytjclelmbpmlioaa
open Go.RowKit

theorem IsX.keptW {T : Nat → Prop} {W W' : World} (h : Kp T W W') : ∀ {x : X}, (∀ k, inX k x → T k) → IsX W x → IsX W' x := by
  refine @(X.ind fun x ih hT hx => ?_)
  rw [isX_eq] at hx ⊢
  refine ⟨hx.1, hx.2.1, fun i hi => ?_⟩
  obtain ⟨b, o, e, hn, hc⟩ := hx.2.2 i hi
  have hb : T b := hT b ((inX_eq _ _).2 (.inl ⟨by omega, o, e⟩))
  exact ⟨b, o, e, hn.kept h hb, ih i hi (fun k hk => hT k ((inX_eq _ _).2 (.inr ⟨i, hi, hk⟩))) hc⟩
theorem ren_none {g : ByteArray → ByteArray} (hg : ∀ s, g s = s) : ∀ x : X, ordX (renX g x) x = 0 := by
  refine X.ind fun x ih => ?_
  obtain ⟨p1, p2, p3, p4, p5, p6⟩ := renX_parts g x
  refine (ordX_zero _ _).2 ⟨p1, p2, ?_, p4, p5, fun i hi => by rw [p6]; exact ih i (p5 ▸ hi)⟩
  rw [p3, hg]
  simp
/-- What Where hands back: conditions as the parts of one. -/
def WhereAns (x : X) (w : World) (e : Ending) (w' : World) : Prop :=
  ∃ (a : Option Addr) (n cap : Nat) (c : Nat → X), e = .returned (.slice a n cap) ∧ IsX w' (X.mk 16 val0 ⟨#[]⟩ ⟨#[]⟩ a n cap c) ∧ n = (if x.k = 16 then x.n else 1) ∧ (∀ i, i < n → ordX (c i) (if x.k = 16 then x.c i else x) = 0) ∧ Below w.heap.size w w'
set_option maxRecDepth 100000 in
set_option maxHeartbeats 4000000 in
theorem whereQ_any (x : X) (w : World) (hX : IsX w x) (hsm : x.size ≤ 1048576) (hok : XOk x) : Calls Try.prog 34 #[x.val] w (WhereAns x w) := by
  have hB : Below w.heap.size w (w.alloc (.cells x.cells 68)) := (Below.refl _ _).alloc (Nat.le_refl _) _
  have C1 : Hid (Calls Try.prog 36 #[x.val, .slice none 0 0, .slice none 0 0] (w.alloc (.cells x.cells 68)) _) := renameN_any x none none 0 0 0 0 (fun _ => ⟨#[]⟩) (fun _ => ⟨#[]⟩) _ (hX.later hB) hsm hok (fun h => absurd h (Nat.lt_irrefl _)) (fun h => absurd h (Nat.lt_irrefl _)) (by omega) (by omega) (Nat.le_refl _) (by omega) (fun j hj => absurd hj (Nat.not_lt_zero _))
  have hx0 := alloc_new w (.cells x.cells 68)
  have HX0 : Hid _ := hx0
  obtain ⟨k0, k1, k2, k3, k4, k5, k6⟩ := (node_box hx0).at0
  clear hX hx0
  go_enter Try.func34, Try.ntmps34
  go_upto_region 2 with (first | (go_at_call 36; refine C1.out.mono ?_; rintro e W1 ⟨y, rfl, hXA, hord, hin, hB1⟩; have u0 := (hB1.block w.heap.size (by simp)).trans HX0.out; obtain ⟨e0, e1, e2, e3, e4, e5, e6⟩ := (node_box u0).at0; have ff : ∀ j, W1.frozen? ⟨w.heap.size, j, none⟩ = false := fun j => Free.frozen ⟨_, u0⟩ j; have f0 := ff 0; have f1 := ff 1; have f2 := ff 2; have f3 := ff 3; have f4 := ff 4; have f5 := ff 5; have f6 := ff 6; clear ff k0 k1 k2 k3 k4 k5 k6))
  clear e0 e1 e2 e3 e4 e5 e6 f0 f1 f2 f3 f4 f5 f6
  obtain ⟨W2, hW2⟩ : ∃ W2, set7 W1 w.heap.size y = W2 := ⟨_, rfl⟩
  have hW2' := hW2
  unfold set7 at hW2'
  rw [hW2']
  have hn2 : W2.heap[w.heap.size]? = some (.cells y.cells 68 (0, 0)) := by rw [← hW2]; exact heap_set7 u0
  have hs2 : W2.heap.size = W1.heap.size := by rw [← hW2]; simp
  have hlt : w.heap.size < W1.heap.size := by have := hB1.size; simp at this; omega
  have HX2 : Hid (IsX W2 y) := by
    show IsX W2 y
    rw [← hW2]
    exact hXA.is.keptW (T := fun k => k ≠ w.heap.size) (fun k o hk _ e => (heap_set7_other hk).trans e) fun k hk => by have := hin k hk; simp at this; omega
  have hB2 : Below w.heap.size w W2 := by rw [← hW2]; exact below_set7 (hB.trans (hB1.mono (by simp))) (Nat.le_refl _)
  have hid : ordX y x = 0 := (ordX_comp y _ x).1 hord (ren_none (fun s => rfl) x)
  obtain ⟨o1, o2, o3, o4, o5, o6⟩ := (ordX_zero _ _).1 hid
  obtain ⟨k0, k1, k2, k3, k4, k5, k6⟩ := (node_box hn2).at0
  have HID : Hid (ordX y x = 0) := hid
  have HO5 : Hid (y.n = x.n) := o5
  have HO6 : Hid (∀ i, i < y.n → ordX (y.c i) (x.c i) = 0) := o6
  have HO1 : Hid (y.k = x.k) := o1
  clear hW2' hW2 u0 hXA hord hin hB1 hB C1 HX0 hid o1 o2 o3 o4 o5 o6 hlt hs2 hn2
  by_cases h16 : y.k = 16
  · have t : (y.k == 16) = true := by simpa using h16
    have HK : Hid (x.k = 16) := HO1.out ▸ h16
    clear h16
    go_wp2
    go_ret
    refine ⟨y.a, y.n, y.cap, y.c, rfl, ?_, ?_, ?_, hB2⟩
    · have := HX2.out
      rw [isX_eq] at this ⊢
      exact this
    · rw [if_pos HK.out]; exact HO5.out
    · intro i hi
      rw [if_pos HK.out]
      exact HO6.out i hi
  · have t : (y.k == 16) = false := by simpa using h16
    have HK : Hid (¬ x.k = 16) := HO1.out ▸ h16
    clear h16
    go_wp2
    go_ret
    have hBl : Below W2.heap.size W2 (W2.alloc (.cells y.cells 68)) := (Below.refl _ _).alloc (Nat.le_refl _) _
    refine ⟨some ⟨W2.heap.size, 0, none⟩, 1, 1, fun _ => y, rfl, ⟨Nat.le_refl _, by omega, fun i hi => ⟨W2.heap.size, 0, rfl, ?_, HX2.out.later hBl⟩⟩, ?_, ?_, hB2.trans (hBl.mono hB2.size)⟩
    · obtain rfl : i = 0 := by omega
      exact node_box (alloc_new W2 (.cells y.cells 68))
    · rw [if_neg HK.out]
    · intro i hi
      rw [if_neg HK.out]
      exact HID.out
set_option maxRecDepth 100000 in
theorem awake13_any (w : World) : Calls Try.prog 17 #[] w fun e w' => e = .returned (.bool true) ∧ Below w.heap.size w w' := by
  have C1 : Hid (Calls Try.prog 34 #[.agg #[.int .i64 1, .int .i64 0, .int .i64 0, .string ⟨#[]⟩, .string ⟨#[]⟩, .string ⟨#[]⟩, .slice none 0 0]] w _) := whereQ_any (X.mk 1 val0 ⟨#[]⟩ ⟨#[]⟩ none 0 0 (fun _ => .nil)) w ⟨Nat.le_refl _, by omega, fun i hi => absurd hi (Nat.not_lt_zero _)⟩ (by simp [X.size, sumN]) ⟨Nat.zero_le _, Nat.zero_le _, fun i hi => absurd hi (Nat.not_lt_zero _)⟩
  go_enter Try.func17, Try.ntmps17
  go_wp2_with (first | (go_at_call 34; refine C1.out.mono ?_; rintro e W1 ⟨a, n, cap, c, rfl, _, hn, _, hB1⟩; rw [if_neg (by simp [X.k])] at hn; subst hn))
  go_ret
  exact ⟨rfl, hB1⟩
/-- One of the two. -/
def SomeB (w : World) (e : Ending) (w' : World) : Prop := ∃ b : Bool, e = .returned (.bool b) ∧ Below w.heap.size w w'
set_option maxRecDepth 100000 in
set_option maxHeartbeats 4000000 in
theorem lightQ_wide (q : Qy) (w : World) (hQ : IsQ w q) : Calls Try.prog 16 #[q.val] w (SomeB w) := by
  have hB0 : Below w.heap.size w (w.alloc (.cells q.cells 41)) := (Below.refl _ _).alloc (Nat.le_refl _) _
  have C1 : Hid (Calls Try.prog 21 #[q.p.val] (w.alloc (.cells q.cells 41)) _) := refSizeP_wide q.p _ (hQ.p.later hB0)
  have HI : Hid (∀ i, i < q.n → ∀ W, Below w.heap.size w W → Calls Try.prog 33 #[(q.c i).val] W fun e w' => e = .returned (.int .i64 (szZ (q.c i))) ∧ Below W.heap.size W w') := fun i hi W hW => by
    obtain ⟨_, _, _, _, h1⟩ := (hQ.x.later hW).part (x := q.x) hi
    exact refSize_any _ W h1
  have HQ : Hid (IsQ w q) := hQ
  have qb := QB.new w q
  have QB0 : Hid (QB (w.alloc (.cells q.cells 41)) w.heap.size q) := qb
  obtain ⟨⟨k0, k1, k2, k3, k4, k5⟩, -⟩ := qb.at0
  have hlen : q.n ≤ 9223372036854775807 := hQ.x.len
  have HB0 : Hid (Below w.heap.size w (w.alloc (.cells q.cells 41))) := hB0
  clear hQ qb hB0
  go_enter Try.func16, Try.ntmps16
  go_wp2_with (first | (go_at_call 21; refine C1.out.mono ?_; rintro e w1 ⟨rfl, hB1⟩))
  have hw1 : Below w.heap.size w w1 := HB0.out.trans (hB1.mono HB0.out.size)
  have QB1 : Hid (QB w1 w.heap.size q) := QB0.out.later hB1
  clear k0 k1 k2 k3 k4 k5 C1 QB0 HB0 hB1
  go_loopw [3, 4] (fun u v wr => ∃ (k : Nat) (z : Int), k ≤ q.n ∧ u = .int .i64 z ∧ v = .int .i64 k ∧ Below w1.heap.size w1 wr) (fun _ v _ => q.n - (intOf v).toNat)
  case atStart => exact ⟨0, _, Nat.zero_le _, rfl, rfl, Below.refl _ _⟩
  case round =>
    obtain ⟨k, z, hk, rfl, rfl, hB⟩ := hrel
    have hw := hw1.trans (hB.mono hw1.size)
    obtain ⟨-, c6, -, -, -, c10⟩ := (QB1.out.later hB).at0
    by_cases hkn : k < q.n
    · obtain ⟨b, o, ea, hn, -⟩ := (HQ.out.x.later hw).part (x := q.x) hkn
      have ea1 : q.a = some ⟨b, o, none⟩ := ea
      rw [ea1] at c6
      have hn1 : Node wr b (o + k * 7) (q.c k) := hn
      obtain ⟨d0, d1, d2, d3, d4, d5, d6⟩ := hn1
      have hc := HI.out k hkn wr hw
      have HKN : Hid (k < q.n) := hkn
      clear ea ea1 hn
      go_wp2_with (first | (go_at_call 33; refine hc.mono ?_; clear hc; rintro e w2 ⟨rfl, hB2⟩))
      refine ⟨⟨k + 1, _, HKN.out, rfl, by simp, hB.trans (hB2.mono hB.size)⟩, ?_⟩
      have := HKN.out
      simp [intOf]
      omega
    · obtain rfl : k = q.n := by omega
      go_wp2
      all_goals go_ret
      all_goals exact ⟨_, rfl, hw⟩
end Go.Proofs.Ytjclelmbpmlioaa
