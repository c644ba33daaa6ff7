/-
  Rows of notes whose ways may lie anywhere; what the document's nodes appends. Of no function but append.
  The walk of a region that draws its order, held under what lies below, outside any fence; of no function.
  haruspexref22.nodes.
  word.Upper, word.large; the document's lower, upper, digit, Sign, Name, Upper.
  The document's Right of a value (haruspexref06), at any value.
-/
import Derived.Test.YtfnfegcjgnbgbaaGreatDoorTAbUses
import Derived.Test.YtfnfegcjgnbgbaaGreatDoorTAbWay
import Derived.Test.YtfnfegcjgnbgbaaGreatDoorTValOrder
import Derived.Deep.Upon
import Derived.Deep.RegionHeld3
import Derived.OrdersIn
import Derived.Below
import Derived.WalkKit
import Derived.Outline
import Derived.Deep.DeepCutAuto
import Derived.Deep.CutBlock
namespace Go.Proofs.YtfnfegcjgnbgbaaGreatDoor
open Go.RowKit Go.Shelf

/-- A row of notes that a call owns; their ways may be anybody's. -/
structure NtR (W : World) (base : Nat) (v : Value) (L : List Nt) (us : List Value) : Prop where
  len : us.length = L.length
  row : W.ownsRow base 56 2 v L.length (ntCells us L)
  way : ∀ (j : Nat) (u : Value) (n : Nt), us[j]? = some u → L[j]? = some n → Wy W 0 u n.1
theorem Nts.r {W : World} {base : Nat} {K : Nat → Prop} {v : Value} {L : List Nt} {us : List Value} (h : Nts W base K v L us) : NtR W base v L us :=
  ⟨h.len, h.row, fun j u n hu hn => own_low22 (h.way j u n hu hn).1 (Nat.zero_le _)⟩
theorem NtR.nil (W : World) (base : Nat) : NtR W base (.slice none 0 0) [] [] := ⟨rfl, World.ownsRow_nil _ _ _ _, fun j u n h => by cases h⟩
theorem NtR.later {W W' : World} {base : Nat} {v : Value} {L : List Nt} {us : List Value} (h : NtR W base v L us) (hB : Below W.heap.size W W') : NtR W' base v L us :=
  ⟨h.len, own_same h.row fun k _ _ hc => (hB.block k (heap_lt hc)).trans hc, fun j u n hu hn => (h.way j u n hu hn).same fun k _ _ hc => (hB.block k (heap_lt hc)).trans hc⟩
theorem NtR.low {W : World} {B B' : Nat} {v : Value} {L : List Nt} {us : List Value} (h : NtR W B v L us) (hB : B' ≤ B) : NtR W B' v L us := ⟨h.len, own_low22 h.row hB, h.way⟩
theorem NtR.shape {W : World} {base : Nat} {v : Value} {L : List Nt} {us : List Value} (h : NtR W base v L us) : ∃ a cap, v = .slice a L.length cap := by
  rcases h.row.2 with ⟨rfl, e⟩ | ⟨g, cap, cur, rfl, -⟩
  · exact ⟨none, 0, by rw [e]⟩
  · exact ⟨_, _, rfl⟩
theorem NtR.ntAt {W : World} {base : Nat} {a : Option Addr} {n cap : Nat} {L : List Nt} {us : List Value} (h : NtR W base (.slice a n cap) L us) : ∀ i p, L[i]? = some p → ∃ g va vc, NtAt W a i p g va vc := fun i p hp => by
  have h0 : Nts W 0 (fun _ => True) (.slice a n cap) L us := ⟨h.len, own_low22 h.row (Nat.zero_le _), fun j u n hu hn => ⟨h.way j u n hu hn, fun _ _ => trivial⟩⟩
  obtain ⟨P, hPL, hP⟩ := h0.pairs
  rw [← hPL, List.getElem?_map, Option.map_eq_some_iff] at hp
  obtain ⟨q, hq, rfl⟩ := hp
  exact hP.ntAt hq
theorem ntCells_append : ∀ {us us' : List Value} {L L' : List Nt}, us.length = L.length → ntCells (us ++ us') (L ++ L') = ntCells us L ++ ntCells us' L'
  | [], _, [], _, _ => rfl
  | u :: us, _, n :: L, _, h => by simp only [List.cons_append, ntCells]; rw [ntCells_append (by simpa using h)]
theorem ntCells_one : ∀ {us : List Value} {L : List Nt}, (∀ u ∈ us, u.oneCell' = true) → ∀ u ∈ ntCells us L, u.oneCell' = true
  | [], _, _, u, hu => by cases hu
  | _ :: _, [], _, u, hu => by cases hu
  | v :: us, n :: L, h, u, hu => by
    simp only [ntCells, List.mem_cons] at hu
    rcases hu with rfl | rfl | hu
    · exact h _ (List.mem_cons_self ..)
    · rfl
    · exact ntCells_one (fun v hv => h v (List.mem_cons_of_mem _ hv)) u hu
/-- What is appended: nothing, or what lies in memory. -/
def NtSrc (W : World) (x : Value) (L : List Nt) (us : List Value) : Prop := us.length = L.length ∧ (∀ (j : Nat) (u : Value) (n : Nt), us[j]? = some u → L[j]? = some n → Wy W 0 u n.1) ∧
  ((L = [] ∧ x = .slice none 0 0) ∨ ∃ ad c, x = .slice (some ad) L.length c ∧ ∀ j u, (ntCells us L)[j]? = some u → W.cell? (ad.add j) = some u)
theorem NtR.src {W : World} {base : Nat} {v : Value} {L : List Nt} {us : List Value} (h : NtR W base v L us) : NtSrc W v L us := by
  refine ⟨h.len, h.way, ?_⟩
  rcases h.row.2 with ⟨rfl, e⟩ | ⟨g, cap, cur, rfl, h1, h2, h3, h4, h5, h6⟩
  · exact .inl ⟨List.eq_nil_of_length_eq_zero e, rfl⟩
  · refine .inr ⟨_, _, rfl, fun j u hu => ?_⟩
    rw [show (⟨g, 0, none⟩ : Addr).add j = ⟨g, j, none⟩ by simp [Addr.add]; intro e; omega, cell_heap h2]
    rw [← h6, List.getElem?_take] at hu
    split at hu
    · simpa using hu
    · cases hu
theorem ntSrc_one {W : World} {u : Value} {way : List Int} {z : Int} (hu : Wy W 0 u way) {g : Nat} {t : TypeId} (hg : W.heap[g]? = some (.cells #[u, .int .i64 z] t (0, 0))) : NtSrc W (.slice (some ⟨g, 0, none⟩) 1 1) [(way, z)] [u] := by
  refine ⟨rfl, fun j u' n h1 h2 => ?_, .inr ⟨_, _, rfl, fun j y hy => ?_⟩⟩
  · match j, h1, h2 with
    | 0, h1, h2 => simp at h1 h2; subst h1 h2; exact hu
  · match j, hy with
    | 0, hy => simp [ntCells] at hy; subst hy; simp [Addr.add, World.cell?, hg]
    | 1, hy => simp [ntCells] at hy; subst hy; simp [Addr.add, World.cell?, hg]
/-- Some notes more. -/
theorem ntr_append {W : World} {base : Nat} {v x : Value} {L L2 : List Nt} {us us2 : List Value} (h : NtR W base v L us) (hb : base ≤ W.heap.size) (hx : NtSrc W x L2 us2) (hL : L.length + L2.length ≤ 1048576) :
    ∃ a' cap' W', (Builtin.append_ #[31, 31] 31 #[v, x]).run Tryz.prog W = .ok (.slice a' (L ++ L2).length cap') W' ∧ NtR W' base (.slice a' (L ++ L2).length cap') (L ++ L2) (us ++ us2) ∧ W.grownBy W' v.ownBlock := by
  obtain ⟨i0, hi, hz0, hz1, hz2⟩ := info_parts infoNt
  obtain ⟨hlen, hway, hx⟩ := hx
  have hnt : ∀ {W' : World}, W.grownBy W' v.ownBlock → ∀ (k : Nat) (c : Array Value), W.heap[k]? = some (.cells c 3 (0, 0)) → W'.heap[k]? = some (.cells c 3 (0, 0)) := fun hgrow k c hc => by
    refine (hgrow.block k (heap_lt hc) (fun e => ?_)).trans hc
    rcases h.row.2 with ⟨rfl, -⟩ | ⟨g', cap, cur, rfl, -, h2, -⟩
    · cases e
    · cases e
      rw [hc] at h2
      simp at h2
  have ways : ∀ {W' : World}, W.grownBy W' v.ownBlock → ∀ (j : Nat) (u : Value) (n : Nt), (us ++ us2)[j]? = some u → (L ++ L2)[j]? = some n → Wy W' 0 u n.1 := fun hg j u n hu hn => by
    by_cases e : j < us.length
    · rw [List.getElem?_append_left e] at hu
      rw [List.getElem?_append_left (by rw [← h.len]; exact e)] at hn
      exact (h.way j u n hu hn).same fun k c _ hc => hnt hg k c hc
    · rw [List.getElem?_append_right (by omega)] at hu
      rw [List.getElem?_append_right (by rw [← h.len]; omega), ← h.len] at hn
      exact (hway _ u n hu hn).same fun k c _ hc => hnt hg k c hc
  have key : ∃ v' W', (Builtin.append_ #[31, 31] 31 #[v, x]).run Tryz.prog W = .ok v' W' ∧ W'.ownsRow base 56 2 v' (L.length + L2.length) (ntCells us L ++ ntCells us2 L2) ∧ W.grownBy W' v.ownBlock := by
    rcases hx with ⟨rfl, rfl⟩ | ⟨ad, c, rfl, hcell⟩
    · have hu2 : us2 = [] := List.eq_nil_of_length_eq_zero (by simpa using hlen)
      subst hu2
      obtain ⟨a, cap, rfl⟩ := h.shape
      have hle : L.length ≤ cap := by
        rcases h.row.2 with ⟨e, e0⟩ | ⟨g, cap', cur, e, h1, h2, h3, -⟩
        · omega
        · injection e with e1 e2 e3
          omega
      refine ⟨.slice a L.length cap, W, run_append_nothing (P := Tryz.prog) W 31 31 31 56 i0 Tryz.underlying31 hi a L.length cap hle _ (Src.ofNil W Tryz.underlying31 0), by simpa [ntCells] using h.row, ⟨rfl, rfl, rfl, Nat.le_refl _, fun _ _ _ => rfl⟩⟩
    · obtain ⟨v', W', hrun, hown', hgrow, -, -⟩ := run_append_own_at (P := Tryz.prog) (w := W) base 31 31 56 i0 (.agg #[.slice none 0 0, .int .i64 0]) 2 32 Tryz.underlying31 hi hz0 hz1 hz2 rfl (by decide) v _ _ h.row ad L2.length c (ntCells us2 L2) (ntCells_len hlen) hcell
        (ntCells_one fun u hu => by
          obtain ⟨j, hj⟩ := List.getElem?_of_mem hu
          have hj2 := (List.getElem?_eq_some_iff.1 hj).1
          obtain ⟨n, hn⟩ : ∃ n, L2[j]? = some n := ⟨_, List.getElem?_eq_getElem (by omega)⟩
          obtain ⟨a, cap, e, -⟩ := (hway j u n hj hn).shape
          rw [e]
          simp [Value.oneCell']) (by unfold maxLen; omega) (by omega) hb
      exact ⟨v', W', hrun, hown', hgrow⟩
  obtain ⟨v', W', hrun, hown', hgrow⟩ := key
  rw [← List.length_append, ← ntCells_append h.len] at hown'
  have hn : NtR W' base v' (L ++ L2) (us ++ us2) := ⟨by simp [h.len, hlen], hown', ways hgrow⟩
  obtain ⟨a', cap', rfl⟩ := hn.shape
  exact ⟨a', cap', W', hrun, hn, hgrow⟩
/-- A new row: the way, and one number more. -/
theorem next_new {W : World} {va : Option Addr} {vm vc : Nat} {way : List Int} (h : Wy W 0 (.slice va vm vc) way) (hn : way.length ≤ 1048575) (i : Int) :
    ∃ (v1 : Value) (W1 : World) (a2 : Option Addr) (cap2 : Nat) (W2 : World), (Builtin.append_ #[39, 39] 39 #[.slice (some ⟨W.heap.size, 0, none⟩) 0 0, .slice va vm vc]).run Tryz.prog (W.alloc (.cells #[] 3)) = .ok v1 W1 ∧
      (Builtin.append_ #[39, 39] 39 #[v1, .slice (some ⟨W1.heap.size, 0, none⟩) 1 1]).run Tryz.prog (W1.alloc (.cells #[.int .i64 i] 3)) = .ok (.slice a2 (way.length + 1) cap2) W2 ∧
      Wy W2 0 (.slice a2 (way.length + 1) cap2) (way ++ [i]) ∧ Below W.heap.size W W2 := by
  obtain ⟨i0, hi, hz0, hz1, hz2⟩ := info_parts infoW
  obtain ⟨A, hA⟩ : ∃ A, W.alloc (.cells #[] 3) = A := ⟨_, rfl⟩
  have hBA : Below W.heap.size W A := by rw [← hA]; exact (Below.refl _ W).alloc (Nat.le_refl _) _
  have sA : A.heap.size = W.heap.size + 1 := by rw [← hA]; simp
  have cA : A.heap[W.heap.size]? = some (.cells #[] 3 (0, 0)) := by rw [← hA]; exact alloc_new _ _
  have own0 : A.ownsRow W.heap.size 3 1 (.slice (some ⟨W.heap.size, 0, none⟩) 0 0) 0 [] := ⟨rfl, .inr ⟨W.heap.size, 0, #[], rfl, Nat.le_refl _, cA, Nat.le_refl _, by decide, rfl, rfl⟩⟩
  have hwA : Wy A 0 (.slice va vm vc) way := h.same fun k c _ hc => (hBA.block k (heap_lt hc)).trans hc
  have key : ∃ v1 W1, (Builtin.append_ #[39, 39] 39 #[.slice (some ⟨W.heap.size, 0, none⟩) 0 0, .slice va vm vc]).run Tryz.prog A = .ok v1 W1 ∧ Wy W1 W.heap.size v1 way ∧ A.grownBy W1 (some W.heap.size) := by
    rcases hwA.2 with ⟨e, e0⟩ | ⟨g, cap, cur, e, h1, h2, h3, h4, h5, h6⟩
    · cases e
      have hw0 : way = [] := List.eq_nil_of_length_eq_zero e0
      subst hw0
      exact ⟨_, A, run_append_nothing (P := Tryz.prog) A 39 39 39 3 i0 Tryz.underlying39 hi _ 0 0 (Nat.le_refl _) _ (Src.ofNil A Tryz.underlying39 0), own0, ⟨rfl, rfl, rfl, Nat.le_refl _, fun _ _ _ => rfl⟩⟩
    · cases e
      obtain ⟨v', W', hrun, hown', hgrow, -, -⟩ := run_append_own_at (P := Tryz.prog) (w := A) W.heap.size 39 39 3 i0 (.int .i64 0) 1 8 Tryz.underlying39 hi hz0 hz1 hz2 rfl (by decide) _ _ _ own0 ⟨g, 0, none⟩ way.length vc (waysI way) (by simp [waysI]) (hwA.cells (g := g) rfl)
        (fun u hu => by obtain ⟨z, -, rfl⟩ := List.mem_map.1 hu; rfl) (by unfold maxLen; omega) (by omega) (by omega)
      exact ⟨v', W', hrun, by simpa using hown', hgrow⟩
  obtain ⟨v1, W1, hrun1, hw1, hg1⟩ := key
  have hB1 : Below W.heap.size W W1 := hBA.trans ⟨hg1.os, hg1.tape, hg1.output, by have := hg1.size; omega, fun k hk => hg1.block k (by omega) (by simp; omega)⟩
  obtain ⟨D, hD⟩ : ∃ D, W1.alloc (.cells #[.int .i64 i] 3) = D := ⟨_, rfl⟩
  have hBD : Below W1.heap.size W1 D := by rw [← hD]; exact (Below.refl _ W1).alloc (Nat.le_refl _) _
  have bD : Boxed D W1.heap.size 3 (.int .i64 i) := by rw [← hD]; exact Boxed.new _ _ _
  have hwD : Wy D W.heap.size v1 way := hw1.same fun k c _ hc => (hBD.block k (heap_lt hc)).trans hc
  have sD := hBD.size
  have s1 := hB1.size
  obtain ⟨v2, W2, hrun2, hs⟩ := way_append hwD (by omega) (by omega) bD
  obtain ⟨a2, cap2, rfl, -⟩ := hs.own.shape
  rw [List.length_append] at hs hrun2
  refine ⟨v1, W1, a2, cap2, W2, by rw [hA]; exact hrun1, by rw [hD]; exact hrun2, own_low22 hs.own (Nat.zero_le _), ?_⟩
  refine hB1.trans ((hBD.mono s1).trans ⟨hs.grown.os, hs.grown.tape, hs.grown.output, by have := hs.grown.size; omega, fun k hk => hs.grown.block k (by omega) (fun e => ?_)⟩)
  have := (hwD.lt k e.symm).1
  omega
theorem length_catN {α : Type} (f : Nat → List α) : ∀ n, (catN f n).length = sumN (fun i => (f i).length) n
  | 0 => rfl
  | n + 1 => by rw [catN, sumN, List.length_append, length_catN f n]
theorem ownR_len (b u : Bool) (way : List Int) (x : Pt) : (ownR b u way x).length ≤ 2 := by
  unfold ownR
  rw [List.length_append]
  split <;> split <;> simp
theorem sumN_two {f g : Nat → Nat} : ∀ {n : Nat}, (∀ i, i < n → f i ≤ 2 * g i) → sumN f n ≤ 2 * sumN g n
  | 0, _ => Nat.le_refl _
  | n + 1, h => by
    have h1 := sumN_two (n := n) fun i hi => h i (by omega)
    have h2 := h n (by omega)
    simp only [sumN]
    omega
theorem nodesL_len : ∀ (x : Pt) (u b : Bool) (way : List Int), (nodesL u b way x).length ≤ 2 * x.size := by
  refine Pt.ind fun x ih u b way => ?_
  rw [nodesL_eq, List.length_append, length_catN]
  have h1 := ownR_len b u way x
  have h2 := sumN_two (n := x.n) fun i hi => ih i hi (x.k == 3) (x.k == 2 && (decide (way.length = 0) && decide (i + 1 = x.n))) (way ++ [(i : Int)])
  have h3 := x.size_eq
  omega
end Go.Proofs.YtfnfegcjgnbgbaaGreatDoor
namespace Go.Proofs.YtfnfegcjgnbgbaaGreatDoor
open Go.RowKit

section
variable {P : Program} {ops : Array Oper} {Q : Exit → Act → World → Prop} {md : Region.Mode} {S : World → Prop} {fuel : Nat} {listed : Array Bool} {a b : Act} {w : World}
/-- One that only reckons. -/
theorem tko (i : Nat) {k : Nat} {op : Op} {ty : TypeId} {ps af gd} {v : Value} (h : wpAnyH P md ops Q S fuel (listed.setIfInBounds i true) b w)
    (hi : ops[i]? = some ⟨some k, op, ty, ps, af, gd⟩ := by rfl) (hs : Region.noSelect ops = true := by kernel_rfl) (hf : Region.free md ops listed i = true := by kernel_rfl) (hr : (Region.ready md ops listed).contains i = true := by kernel_rfl)
    (hw : Region.wanted ⟨some k, op, ty, ps, af, gd⟩ (yielded ops a.tmps) = true := by rfl) (hy : ∀ w, S w → (execOp a.eval ⟨some k, op, ty, ps, af, gd⟩).run P w = .ok (.value v) w := by intro w9 hSw; go_simp; (try with_reducible rfl))
    (hQ : ∀ c a w, Q (.panic c) (a.put (some k) v) w → Q (.panic c) a w := by exact fun _ _ _ h => h) (hS : S w := by assumption) (hb : a.put (some k) v = b := by ((try simp only [Act.put, si_put, si_0, si_1]); rfl)) : wpAnyH P md ops Q S (fuel + 1) listed a w :=
  wpAnyH_take hi hs hf hr hQ (.inl ⟨hw, hy⟩) hS (hb ▸ h)
/-- One that is left out. -/
theorem tno (i : Nat) {k : Nat} {op : Op} {ty : TypeId} {ps af gd} (h : wpAnyH P md ops Q S fuel (listed.setIfInBounds i true) b w)
    (hi : ops[i]? = some ⟨some k, op, ty, ps, af, gd⟩ := by rfl) (hs : Region.noSelect ops = true := by kernel_rfl) (hf : Region.free md ops listed i = true := by kernel_rfl) (hr : (Region.ready md ops listed).contains i = true := by kernel_rfl)
    (hw : Region.wanted ⟨some k, op, ty, ps, af, gd⟩ (yielded ops a.tmps) = false := by rfl) (hQ : ∀ c a w, Q (.panic c) (a.put (some k) undef) w → Q (.panic c) a w := by exact fun _ _ _ h => h) (hS : S w := by assumption) (hb : a.put (some k) undef = b := by ((try simp only [Act.put, si_put, si_0, si_1]); rfl)) : wpAnyH P md ops Q S (fuel + 1) listed a w :=
  wpAnyH_take hi hs hf hr hQ (.inr ⟨hw, rfl⟩) hS (hb ▸ h)
/-- The one that comes up. -/
theorem rdo (i : Nat) {ds : Option Tmp} {op : Op} {ty : TypeId} {ps af gd}
    (h : ∀ K' : Act → World → Prop, Shut (∀ a w, S w → (S w → wpAnyH P md ops Q S fuel (listed.setIfInBounds i true) a w) → K' a w) → if Region.wanted ⟨ds, op, ty, ps, af, gd⟩ (yielded ops a.tmps) = true then Oper.wp P ⟨ds, op, ty, ps, af, gd⟩ a w K' Q else K' (a.put ds undef) w)
    (hr : Region.ready md ops listed = [i] := by kernel_rfl) (hi : ops[i]? = some ⟨ds, op, ty, ps, af, gd⟩ := by rfl) : wpAnyH P md ops Q S (fuel + 1) listed a w := wpAnyH_ready hr (by simp) (AllReadyH.cons hi h AllReadyH.nil)
/-- The beginning, under any condition. -/
theorem bgs {id : Nat} {W : World} (S : World → Prop) (hS : S W.drew) (h : S W.drew → wpAnyH P .any ops (NoPanic Q) S ops.size (Array.replicate ops.size false) a W.drew) (hm : P.follows .mixedOrders = true := by kernel_rfl) : (Code.region id ops true).wp P Q a W :=
  wp_region_noPanic (wp_region_held_drew hm hS h)
/-- The end. -/
theorem dno (h : Q .normal a w) (hr : Region.ready md ops listed = [] := by kernel_rfl) : wpAnyH P md ops (NoPanic Q) S fuel listed a w := wpAnyH_done hr (NoPanic.normal h) _
end
/-- An append, by its run. -/
theorem wpOp_app22 {P : Program} {w w' : World} {o : Oper} {a : Act} {K : Act → World → Prop} {Q : Exit → Act → World → Prop} (s x : Operand) (t : TypeId)
    (hop : o.op = Op.call { callee := Callee.builtin Builtin.append, args := #[s, x], argTypes := #[t, t] }) (v y v' : Value) (hs : a.eval s = v) (hx : a.eval x = y)
    (hrun : (Builtin.append_ #[t, t] o.type #[v, y]).run P w = .ok v' w') (hK : K (a.put o.dst v') w') : Oper.wp P o a w K Q := by
  unfold Oper.wp
  simp [execOp, hop, resolve, invoke, builtin, hs, hx, hrun, Result.andThen]
  exact hK
end Go.Proofs.YtfnfegcjgnbgbaaGreatDoor
namespace Go.Proofs.YtfnfegcjgnbgbaaGreatDoor
open Go.RowKit Go.Shelf
attribute [local go_sem] Oper.semAt_some

theorem wrap_pred22 (n : Nat) (h : n ≤ 9223372036854775807) : IntKind.i64.wrap ((n : Int) - 1) = (n : Int) - 1 := by
  rw [IntWalk.i64_left, IntWalk.wrap64_in _ (by omega)]
theorem sumN_below22 (f : Nat → Nat) {k : Nat} : ∀ {n : Nat}, k ≤ n → sumN f k ≤ sumN f n
  | 0, h => by rw [show k = 0 by omega]; exact Nat.le_refl _
  | n + 1, h => by
    by_cases e : k = n + 1
    · rw [e]; exact Nat.le_refl _
    · exact Nat.le_trans (sumN_below22 f (n := n) (by omega)) (by simp only [sumN]; omega)
/-- What the document's nodes answers. -/
def NodesAns (L : List Nt) (w : World) (e : Ending) (w' : World) : Prop := ∃ (a : Option Addr) (cap : Nat) (us : List Value), e = .returned (.slice a L.length cap) ∧ NtR w' w.heap.size (.slice a L.length cap) L us ∧ Below w.heap.size w w'
/-- What stays told while it goes. -/
structure NJ (x : Pt) (w W : World) (v : Value) (L : List Nt) : Prop where
  row : ∃ us, NtR W w.heap.size v L us
  node : W.heap[w.heap.size]? = some (.cells x.cells 24 (0, 0))
  low : Below w.heap.size w W
theorem NJ.at0 {x : Pt} {w W : World} {v : Value} {L : List Nt} (h : NJ x w W v L) : NodeP W w.heap.size 0 x := by
  unfold NodeP
  refine ⟨?_, ?_, ?_, ?_, ?_, ?_⟩ <;> rw [cell_heap h.node] <;> rfl
theorem NJ.later {x : Pt} {w W W' : World} {v : Value} {L : List Nt} (h : NJ x w W v L) (hB : Below W.heap.size W W') : NJ x w W' v L := by
  obtain ⟨us, hr⟩ := h.row
  exact ⟨⟨us, hr.later hB⟩, (hB.block _ (heap_lt h.node)).trans h.node, h.low.trans (hB.mono h.low.size)⟩
theorem NJ.append {x : Pt} {w W : World} {v : Value} {L : List Nt} (h : NJ x w W v L) {D : World} (hD : Below W.heap.size W D) {y : Value} {L2 : List Nt} {us2 : List Value} (hy : NtSrc D y L2 us2) (hl : L.length + L2.length ≤ 1048576) :
    ∃ a' cap' W', (Builtin.append_ #[31, 31] 31 #[v, y]).run Tryz.prog D = .ok (.slice a' (L ++ L2).length cap') W' ∧ NJ x w W' (.slice a' (L ++ L2).length cap') (L ++ L2) := by
  have hD' := h.later hD
  obtain ⟨us, hr⟩ := hD'.row
  have hsz := hD'.low.size
  obtain ⟨a', cap', W', hrun, hn, hg⟩ := ntr_append hr hsz hy hl
  have own : ∀ k, v.ownBlock = some k → w.heap.size ≤ k ∧ ∃ c, D.heap[k]? = some (.cells c 56 (0, 0)) := fun k hk => by
    rcases hr.row.2 with ⟨e, -⟩ | ⟨g, cap, cur, e, h1, h2, -⟩
    · rw [e] at hk; cases hk
    · rw [e] at hk; cases hk; exact ⟨h1, _, h2⟩
  refine ⟨a', cap', W', hrun, ⟨_, hn⟩, (hg.block _ (heap_lt hD'.node) (fun e => ?_)).trans hD'.node, hD'.low.trans ⟨hg.os, hg.tape, hg.output, by have := hg.size; omega, fun k hk => hg.block k (by omega) (fun e => ?_)⟩⟩
  · obtain ⟨-, c, hc⟩ := own _ e.symm
    rw [hD'.node] at hc
    simp at hc
  · have := (own _ e.symm).1
    omega
/-- One note more, of a way. -/
theorem NJ.push {x : Pt} {w W : World} {v : Value} {L : List Nt} (h : NJ x w W v L) {u : Value} {way : List Int} (hu : Wy w 0 u way) (z : Int) (hl : L.length ≤ 1048575) :
    ∃ a' cap' W', (Builtin.append_ #[31, 31] 31 #[v, .slice (some ⟨W.heap.size, 0, none⟩) 1 1]).run Tryz.prog (W.alloc (.cells #[u, .int .i64 z] 56)) = .ok (.slice a' (L ++ [(way, z)]).length cap') W' ∧ NJ x w W' (.slice a' (L ++ [(way, z)]).length cap') (L ++ [(way, z)]) := by
  have hB : Below W.heap.size W (W.alloc (.cells #[u, .int .i64 z] 56)) := (Below.refl _ W).alloc (Nat.le_refl _) _
  have hu2 : Wy (W.alloc (.cells #[u, .int .i64 z] 56)) 0 u way := hu.same fun k c _ hc => ((hB.block k (heap_lt ((h.low.block k (heap_lt hc)).trans hc))).trans ((h.low.block k (heap_lt hc)).trans hc))
  exact h.append hB (ntSrc_one hu2 (g := W.heap.size) (t := 56) (alloc_new _ _)) (by simp; omega)
set_option maxRecDepth 100000 in
set_option maxHeartbeats 16000000 in
theorem refNodes_any : ∀ (x : Pt) (way : List Int) (va : Option Addr) (vc : Nat) (u b : Bool) (w : World), IsP w x → Wy w 0 (.slice va way.length vc) way → way.length + x.deep ≤ 1000 → x.size ≤ 1000 →
    Calls Tryz.prog 32 #[x.val, .slice va way.length vc, .bool u, .bool b] w (NodesAns (nodesL u b way x) w) := by
  refine Pt.ind fun x ih way va vc u b w hX hW hd hsz => ?_
  obtain ⟨A, hA, hB0, hs, hN⟩ := boxP_one x w
  have hlen := hX.len
  obtain ⟨a0, a1, a2, a3, a4, a5⟩ := hN.at0
  have HX : Hid (IsP w x ∧ Wy w 0 (.slice va way.length vc) way ∧ way.length + x.deep ≤ 1000 ∧ x.size ≤ 1000) := ⟨hX, hW, hd, hsz⟩
  have HB : Hid (Below w.heap.size w A ∧ A.heap.size = w.heap.size + 1 ∧ NodeP A w.heap.size 0 x) := ⟨hB0, hs, hN⟩
  have HI : Hid (∀ i, i < x.n → ∀ (way : List Int) (va : Option Addr) (vc : Nat) (u b : Bool) (w : World), IsP w (x.c i) → Wy w 0 (.slice va way.length vc) way → way.length + (x.c i).deep ≤ 1000 → (x.c i).size ≤ 1000 → Calls Tryz.prog 32 #[(x.c i).val, .slice va way.length vc, .bool u, .bool b] w (NodesAns (nodesL u b way (x.c i)) w)) := ih
  clear ih hX hW hd hsz hB0 hs hN
  obtain ⟨m, hm⟩ : ∃ m, m = way.length := ⟨_, rfl⟩
  rw [← hm]
  have HM : Hid (m = way.length) := hm
  clear hm
  obtain ⟨z, hz⟩ : ∃ z, z = whatR x b := ⟨_, rfl⟩
  have HZ : Hid (z = whatR x b) := hz
  clear hz
  go_enter Tryz.func32, Tryz.ntmps32
  go_upto_block 0 with fail
  go_cut [9] (fun s9 W => s9 = .int .i64 z ∧ W = A)
  case first =>
    have wk : whatR x b = (if x.k = 2 then 1 else if x.k = 3 then 2 else if x.k = 4 then 3 else if x.k = 6 then (if b = true then 7 else 6) else if x.k = 5 then (if x.lo = x.hi then 5 else 4) else 0) := rfl
    have hz := HZ.out.trans wk
    clear wk
    by_cases k2 : x.k = 2
    · have t2 : (x.k == 2) = true := by simp [k2]
      rw [if_pos k2] at hz
      clear k2
      go_wp2
      go_meet
      case rel => exact ⟨by rw [hz], rfl⟩
    have t2 : (x.k == 2) = false := by simp [k2]
    rw [if_neg k2] at hz
    by_cases k3 : x.k = 3
    · have t3 : (x.k == 3) = true := by simp [k3]
      rw [if_pos k3] at hz
      clear k2 k3
      go_wp2
      go_meet
      case rel => exact ⟨by rw [hz], rfl⟩
    have t3 : (x.k == 3) = false := by simp [k3]
    rw [if_neg k3] at hz
    by_cases k4 : x.k = 4
    · have t4 : (x.k == 4) = true := by simp [k4]
      rw [if_pos k4] at hz
      clear k2 k3 k4
      go_wp2
      go_meet
      case rel => exact ⟨by rw [hz], rfl⟩
    have t4 : (x.k == 4) = false := by simp [k4]
    rw [if_neg k4] at hz
    by_cases k6 : x.k = 6
    · have t6 : (x.k == 6) = true := by simp [k6]
      rw [if_pos k6] at hz
      clear k2 k3 k4 k6
      cases b with
      | true =>
        rw [if_pos rfl] at hz
        go_wp2
        go_meet
        case rel => exact ⟨by rw [hz], rfl⟩
      | false =>
        rw [if_neg (by simp)] at hz
        go_wp2
        go_meet
        case rel => exact ⟨by rw [hz], rfl⟩
    have t6 : (x.k == 6) = false := by simp [k6]
    rw [if_neg k6] at hz
    by_cases k5 : x.k = 5
    · have t5 : (x.k == 5) = true := by simp [k5]
      rw [if_pos k5] at hz
      clear k2 k3 k4 k5 k6
      by_cases hl : x.lo = x.hi
      · rw [if_pos hl] at hz
        have tl : (x.lo == x.hi) = true := by simp [hl]
        clear hl
        go_wp2
        go_meet
        case rel => exact ⟨by rw [hz], rfl⟩
      · rw [if_neg hl] at hz
        have tl : (x.lo == x.hi) = false := by simp [hl]
        clear hl
        go_wp2
        go_meet
        case rel => exact ⟨by rw [hz], rfl⟩
    have t5 : (x.k == 5) = false := by simp [k5]
    rw [if_neg k5] at hz
    clear k2 k3 k4 k5 k6
    go_wp2
    go_meet
    case rel => exact ⟨by rw [hz], rfl⟩
  case rest =>
    obtain ⟨rfl, rfl⟩ := hcut
    obtain ⟨L0, hL0⟩ : ∃ L0 : List Nt, L0 = if (z != 0) = true then [(way, z)] else [] := ⟨_, rfl⟩
    have J0 : NJ x w wc (.slice none 0 0) [] := ⟨⟨[], NtR.nil _ _⟩, by rw [← hA]; exact alloc_new _ _, HB.out.1⟩
    have HL0 : Hid (L0 = if (z != 0) = true then [(way, z)] else []) := hL0
    clear hL0
    go_upto_if 32 with fail
    go_cut [10] (fun s10 W => ∃ a cap, s10 = .slice a L0.length cap ∧ Hid (NJ x w W s10 L0))
    case first =>
      cases hzz : z != 0 with
      | false =>
        have hL : L0 = [] := by rw [HL0.out, hzz]; rfl
        subst hL
        go_wp2
        go_meet
        case rel => exact ⟨none, 0, rfl, J0⟩
      | true =>
        have hL : L0 = [] ++ [(way, z)] := by rw [HL0.out, hzz]; rfl
        subst hL
        have hw := HX.out.2.1
        rw [← HM.out] at hw
        obtain ⟨a', cap', W', hrun, hJ⟩ := J0.push hw z (by simp)
        have HR : Hid (_ = _) := hrun
        have HJ : Hid (NJ _ _ _ _ _) := hJ
        clear hrun hJ hw
        go_wp2_with (at_builtin; refine wpList_app22 rfl (.tmp 33) (.tmp 37) 31 rfl _ _ _ rfl rfl HR.out ?_)
        go_meet
        case rel => exact ⟨_, _, rfl, HJ⟩
    case rest =>
      clear J0 hA a0 a1 a2 a3 a4 a5
      obtain ⟨o1, c1, rfl, J1⟩ := hcut
      obtain ⟨a0, a1, a2, a3, a4, a5⟩ := J1.out.at0
      obtain ⟨y, hy⟩ : ∃ y, (u && x.k != 1) = y := ⟨_, rfl⟩
      obtain ⟨L1, hL1⟩ : ∃ L1 : List Nt, L1 = L0 ++ if y = true then [(way, 14)] else [] := ⟨_, rfl⟩
      have HL1 : Hid (L1 = ownR b u way x) := by show L1 = _; rw [hL1, HL0.out, ← hy, HZ.out]; rfl
      have hl0 : L0.length ≤ 1 := by rw [HL0.out]; split <;> simp
      go_upto_region 21 with fail
      go_cut [44] (fun s44 W => s44 = .bool y ∧ W = wc)
      case first =>
        cases u
        · have hy' : y = false := by rw [← hy]; rfl
          subst hy'
          go_wp2
          go_meet
          case rel => exact ⟨rfl, rfl⟩
        · have hy' : y = (x.k != 1) := by rw [← hy]; rfl
          subst hy'
          go_wp2
          go_meet
          case rel => exact ⟨rfl, rfl⟩
      case rest =>
        obtain ⟨rfl, rfl⟩ := hcut
        go_upto_if 44 with fail
        go_cut [10] (fun s10 W => ∃ a cap, s10 = .slice a L1.length cap ∧ Hid (NJ x w W s10 L1))
        case first =>
          cases y with
          | false =>
            have hL : L1 = L0 := by rw [hL1]; simp
            clear HL1 hL1
            subst hL
            go_wp2
            go_meet
            case rel => exact ⟨_, _, rfl, J1⟩
          | true =>
            have hL : L1 = L0 ++ [(way, 14)] := by rw [hL1]; simp
            clear HL1 hL1
            subst hL
            have hw := HX.out.2.1
            rw [← HM.out] at hw
            obtain ⟨a', cap', W', hrun, hJ⟩ := J1.out.push hw 14 (by omega)
            have HR : Hid (_ = _) := hrun
            have HJ : Hid (NJ _ _ _ _ _) := hJ
            clear hrun hJ hw
            go_wp2_with (at_builtin; refine wpList_app22 rfl (.tmp 45) (.tmp 48) 31 rfl _ _ _ rfl rfl HR.out ?_)
            go_meet
            case rel => exact ⟨a', cap', by simp, by have h9 := HJ.out; rw [List.length_append] at h9; exact h9⟩
        case rest =>
          clear J1 a0 a1 a2 a3 a4 a5 hy hL1 HL0 hl0 HB HZ
          obtain ⟨o2, c2, rfl, J2⟩ := hcut
          obtain ⟨Lk, hLk⟩ : ∃ Lk : Nat → List Nt, ∀ k, Lk k = ownR b u way x ++ catN (fun i => nodesL (x.k == 3) (x.k == 2 && (decide (way.length = 0) && decide (i + 1 = x.n))) (way ++ [(i : Int)]) (x.c i)) k := ⟨_, fun _ => rfl⟩
          have H0 : Lk 0 = L1 := by rw [hLk, HL1.out]; simp [catN]
          have HLn : Hid (Lk x.n = nodesL u b way x) := by show Lk x.n = _; rw [hLk, ← nodesL_eq]
          have HLs : Hid (∀ k, Lk (k + 1) = Lk k ++ nodesL (x.k == 3) (x.k == 2 && (decide (way.length = 0) && decide (k + 1 = x.n))) (way ++ [(k : Int)]) (x.c k)) := fun k => by rw [hLk, hLk, catN, List.append_assoc]
          have HLl : Hid (∀ k, k < x.n → (Lk k).length ≤ 1000000) := fun k hk => by
            rw [hLk, List.length_append, length_catN]
            have h1 := ownR_len b u way x
            have h2 := sumN_two (n := k) (f := fun i => (nodesL (x.k == 3) (x.k == 2 && (decide (way.length = 0) && decide (i + 1 = x.n))) (way ++ [(i : Int)]) (x.c i)).length) (g := fun i => (x.c i).size) fun i hi => nodesL_len _ _ _ _
            have h3 := sumN_below22 (fun i => (x.c i).size) (Nat.le_of_lt hk)
            have h4 := x.size_eq
            have h5 := HX.out.2.2.2
            omega
          clear hLk HL1
          go_wp2_with fail
          go_loopw [11, 10] (fun iv ov wr => ∃ (k : Nat) (a : Option Addr) (cap : Nat), k ≤ x.n ∧ iv = .int .i64 k ∧ ov = .slice a (Lk k).length cap ∧ Hid (NJ x w wr (.slice a (Lk k).length cap) (Lk k))) (fun iv _ _ => x.n - (intOf iv).toNat)
          case atStart => exact ⟨0, o2, c2, Nat.zero_le _, rfl, by rw [H0], by rw [H0]; exact J2⟩
          case round =>
            obtain ⟨k, oa, oc, hk, rfl, rfl, J⟩ := hrel
            obtain ⟨a0, -, -, -, -, a5⟩ := J.out.at0
            by_cases hkn : k < x.n
            · obtain ⟨pb, po, ea, hn, hx⟩ := (HX.out.1.later J.out.low).part hkn
              have hw : Wy wr 0 (.slice va m vc) way := by
                rw [HM.out]
                exact HX.out.2.1.same fun k c _ hc => (J.out.low.block k (heap_lt hc)).trans hc
              have hw9 : way.length ≤ 1000 := by have := HX.out.2.2.1; omega
              rw [HM.out] at hw
              obtain ⟨v1, W1, a2, cap2, W2, r1, r2, hw2, hB2⟩ := next_new hw (by omega) (k : Int)
              rw [← HM.out] at r1 r2 hw2
              have HR1 : Hid (_ = _) := r1
              have HR2 : Hid (_ = _) := r2
              have HS : Hid (∀ {X v L}, NJ x w X v L → NodeP X w.heap.size 0 x ∧ NodeP X pb (po + k * 6) (x.c k)) := fun {X v L} h => by
                obtain ⟨pb', po', ea', hn', -⟩ := (HX.out.1.later h.low).part hkn
                rw [ea] at ea'
                cases ea'
                exact ⟨h.at0, hn'⟩
              have J2' : NJ x w W2 (.slice oa (Lk k).length oc) (Lk k) := J.out.later hB2
              have J3 : NJ x w W2.drew (.slice oa (Lk k).length oc) (Lk k) := J2'.later (Below.refl _ _).drew
              have hx3 : IsP W2.drew (x.c k) := by
                obtain ⟨_, _, _, _, h⟩ := (HX.out.1.later J3.low).part hkn
                exact h
              have hcall : Calls Tryz.prog 32 #[(x.c k).val, .slice a2 (m + 1) cap2, .bool (x.k == 3), .bool (x.k == 2 && (((m : Nat) : Int) == 0 && (k : Int) == (x.n : Int) - 1))] W2.drew (NodesAns (nodesL (x.k == 3) (x.k == 2 && (decide (way.length = 0) && decide (k + 1 = x.n))) (way ++ [(k : Int)]) (x.c k)) W2.drew) := by
                have e : (way ++ [(k : Int)]).length = m + 1 := by rw [List.length_append, ← HM.out]; rfl
                have h1 := HI.out k hkn (way ++ [(k : Int)]) a2 cap2 (x.k == 3) (x.k == 2 && (decide (way.length = 0) && decide (k + 1 = x.n))) W2.drew hx3 (by rw [e]; exact hw2) (by have := HX.out.2.2.1; have := x.deep_part k hkn; rw [List.length_append]; simp; omega) (by have := HX.out.2.2.2; have := x.size_part k hkn; omega)
                rw [e] at h1
                have e1 : decide (way.length = 0) = (((m : Nat) : Int) == 0) := by rw [← HM.out, Bool.eq_iff_iff]; simp
                have e2 : decide (k + 1 = x.n) = ((k : Int) == (x.n : Int) - 1) := by rw [Bool.eq_iff_iff]; simp; omega
                rw [e1, e2] at h1 ⊢
                exact h1
              have fin : ∀ X a3 cap3 us3, NtR X W2.drew.heap.size (.slice a3 (nodesL (x.k == 3) (x.k == 2 && (decide (way.length = 0) && decide (k + 1 = x.n))) (way ++ [(k : Int)]) (x.c k)).length cap3) (nodesL (x.k == 3) (x.k == 2 && (decide (way.length = 0) && decide (k + 1 = x.n))) (way ++ [(k : Int)]) (x.c k)) us3 → Below W2.drew.heap.size W2.drew X → ∃ o4 c4 W4, Hid ((Builtin.append_ #[31, 31] 31 #[.slice oa (Lk k).length oc, .slice a3 (nodesL (x.k == 3) (x.k == 2 && (decide (way.length = 0) && decide (k + 1 = x.n))) (way ++ [(k : Int)]) (x.c k)).length cap3]).run Tryz.prog X = .ok (.slice o4 (Lk (k + 1)).length c4) W4) ∧ Hid (NJ x w W4 (.slice o4 (Lk (k + 1)).length c4) (Lk (k + 1))) ∧ NodeP W4 w.heap.size 0 x ∧ NodeP W4 pb (po + k * 6) (x.c k) := fun X a3 cap3 us3 hN3 hB3 => by
                obtain ⟨o4, c4, W4, hrun, hJ⟩ := J3.append hB3 hN3.src (by have := HLl.out k hkn; have := nodesL_len (x.c k) (x.k == 3) (x.k == 2 && (decide (way.length = 0) && decide (k + 1 = x.n))) (way ++ [(k : Int)]); have := HX.out.2.2.2; have := x.size_part k hkn; omega)
                rw [← HLs.out k] at hrun hJ
                exact ⟨o4, c4, W4, hrun, hJ, HS.out hJ⟩
              have SD := HS.out J3
              obtain ⟨R, hR⟩ : ∃ R, R = nodesL (x.k == 3) (x.k == 2 && (decide (way.length = 0) && decide (k + 1 = x.n))) (way ++ [(k : Int)]) (x.c k) := ⟨_, rfl⟩
              rw [← hR] at hcall fin
              rw [ea] at a5
              have HK : Hid (k < x.n) := hkn
              have hpred := wrap_pred22 x.n hlen
              clear hR r1 r2 hw hw2 hn hx hx3 J2' hw9 HI
              go_wp2_with (first
                | (at_builtin; refine wpList_app22 rfl (.tmp 57) (.tmp 58) 39 rfl _ _ _ rfl rfl HR1.out ?_)
                | (at_builtin; refine wpList_app22 rfl (.tmp 59) (.tmp 61) 39 rfl _ _ _ rfl rfl HR2.out ?_))
              refine bgs (fun X => NodeP X w.heap.size 0 x ∧ NodeP X pb (po + k * 6) (x.c k)) SD (fun hHeld => ?_)
              clear a0 a5
              cases t2 : x.k == 2 with
              | false =>
                rw [t2] at hcall
                refine tko 0 ?_
                refine tko 1 ?_
                refine tko 2 ?_ (hy := by intro w9 hSw; obtain ⟨⟨c0, -, -, -, -, c5⟩, d0, d1, d2, d3, d4, d5⟩ := hSw; go_simp; (try with_reducible rfl))
                refine tko 3 ?_
                refine tko 4 ?_
                refine tko 5 ?_ (hy := by intro w9 hSw; obtain ⟨⟨c0, -, -, -, -, c5⟩, d0, d1, d2, d3, d4, d5⟩ := hSw; go_simp; (try with_reducible rfl))
                refine tko 6 ?_
                refine tko 7 ?_
                refine tko 8 ?_ (hy := by intro w9 hSw; obtain ⟨⟨c0, -, -, -, -, c5⟩, d0, d1, d2, d3, d4, d5⟩ := hSw; go_simp; (try with_reducible rfl))
                refine tko 9 ?_
                refine tko 10 ?_
                refine tko 11 ?_ (hy := by intro w9 hSw; obtain ⟨⟨c0, -, -, -, -, c5⟩, d0, d1, d2, d3, d4, d5⟩ := hSw; go_simp; (try with_reducible rfl))
                refine tko 12 ?_
                refine tko 13 ?_
                refine tno 14 ?_
                refine tno 15 ?_
                refine tno 16 ?_
                refine tko 17 ?_
                refine tko 18 ?_
                refine tno 19 ?_
                refine tno 20 ?_
                refine tno 21 ?_
                refine tno 22 ?_
                refine tno 23 ?_
                refine tno 24 ?_
                refine tko 25 ?_
                refine rdo 26 (fun K1 hK1 => ?_)
                go_simp
                refine hcall.mono ?_
                clear hcall
                rintro e X ⟨a3, cap3, us3, rfl, hN3, hB3⟩
                obtain ⟨o4, c4, W4, HR3, J4, S4⟩ := fin X a3 cap3 us3 hN3 hB3
                clear fin
                go_simp
                refine hK1.out _ _ (HS.out (J3.later hB3)) (fun hHeld => ?_)
                clear hK1 K1
                refine rdo 27 (fun K1 hK1 => ?_)
                rw [if_pos (by rfl)]
                refine wpOp_app22 (.tmp 63) (.tmp 89) 31 rfl _ _ _ rfl rfl HR3.out ?_
                refine hK1.out _ _ S4 (fun hHeld => ?_)
                clear hK1 K1
                (try simp only [Act.put, si_put, si_0, si_1])
                refine rdo 28 (fun K1 hK1 => ?_)
                go_simp
                refine hK1.out _ _ S4 (fun hHeld => ?_)
                clear hK1 K1
                refine dno ?_
                go_wp2
                refine ⟨⟨k + 1, _, _, HK.out, by simp, rfl, J4⟩, ?_⟩
                have := HK.out
                simp [intOf]
                omega
              | true =>
                cases l0 : ((m : Nat) : Int) == 0 with
                | false =>
                  rw [t2, l0] at hcall
                  refine tko 0 ?_
                  refine tko 1 ?_
                  refine tko 2 ?_ (hy := by intro w9 hSw; obtain ⟨⟨c0, -, -, -, -, c5⟩, d0, d1, d2, d3, d4, d5⟩ := hSw; go_simp; (try with_reducible rfl))
                  refine tko 3 ?_
                  refine tko 4 ?_
                  refine tko 5 ?_ (hy := by intro w9 hSw; obtain ⟨⟨c0, -, -, -, -, c5⟩, d0, d1, d2, d3, d4, d5⟩ := hSw; go_simp; (try with_reducible rfl))
                  refine tko 6 ?_
                  refine tko 7 ?_
                  refine tko 8 ?_ (hy := by intro w9 hSw; obtain ⟨⟨c0, -, -, -, -, c5⟩, d0, d1, d2, d3, d4, d5⟩ := hSw; go_simp; (try with_reducible rfl))
                  refine tko 9 ?_
                  refine tko 10 ?_
                  refine tko 11 ?_ (hy := by intro w9 hSw; obtain ⟨⟨c0, -, -, -, -, c5⟩, d0, d1, d2, d3, d4, d5⟩ := hSw; go_simp; (try with_reducible rfl))
                  refine tko 12 ?_
                  refine tko 13 ?_
                  refine tko 14 ?_
                  refine tko 15 ?_
                  refine tko 16 ?_
                  refine tko 17 ?_
                  refine tko 18 ?_
                  refine tno 19 ?_
                  refine tno 20 ?_
                  refine tno 21 ?_
                  refine tno 22 ?_
                  refine tno 23 ?_
                  refine tno 24 ?_
                  refine tko 25 ?_
                  refine rdo 26 (fun K1 hK1 => ?_)
                  go_simp
                  refine hcall.mono ?_
                  clear hcall
                  rintro e X ⟨a3, cap3, us3, rfl, hN3, hB3⟩
                  obtain ⟨o4, c4, W4, HR3, J4, S4⟩ := fin X a3 cap3 us3 hN3 hB3
                  clear fin
                  go_simp
                  refine hK1.out _ _ (HS.out (J3.later hB3)) (fun hHeld => ?_)
                  clear hK1 K1
                  refine rdo 27 (fun K1 hK1 => ?_)
                  rw [if_pos (by rfl)]
                  refine wpOp_app22 (.tmp 63) (.tmp 89) 31 rfl _ _ _ rfl rfl HR3.out ?_
                  refine hK1.out _ _ S4 (fun hHeld => ?_)
                  clear hK1 K1
                  (try simp only [Act.put, si_put, si_0, si_1])
                  refine rdo 28 (fun K1 hK1 => ?_)
                  go_simp
                  refine hK1.out _ _ S4 (fun hHeld => ?_)
                  clear hK1 K1
                  refine dno ?_
                  go_wp2
                  refine ⟨⟨k + 1, _, _, HK.out, by simp, rfl, J4⟩, ?_⟩
                  have := HK.out
                  simp [intOf]
                  omega
                | true =>
                  rw [t2, l0] at hcall
                  refine tko 0 ?_
                  refine tko 1 ?_
                  refine tko 2 ?_ (hy := by intro w9 hSw; obtain ⟨⟨c0, -, -, -, -, c5⟩, d0, d1, d2, d3, d4, d5⟩ := hSw; go_simp; (try with_reducible rfl))
                  refine tko 3 ?_
                  refine tko 4 ?_
                  refine tko 5 ?_ (hy := by intro w9 hSw; obtain ⟨⟨c0, -, -, -, -, c5⟩, d0, d1, d2, d3, d4, d5⟩ := hSw; go_simp; (try with_reducible rfl))
                  refine tko 6 ?_
                  refine tko 7 ?_
                  refine tko 8 ?_ (hy := by intro w9 hSw; obtain ⟨⟨c0, -, -, -, -, c5⟩, d0, d1, d2, d3, d4, d5⟩ := hSw; go_simp; (try with_reducible rfl))
                  refine tko 9 ?_
                  refine tko 10 ?_
                  refine tko 11 ?_ (hy := by intro w9 hSw; obtain ⟨⟨c0, -, -, -, -, c5⟩, d0, d1, d2, d3, d4, d5⟩ := hSw; go_simp; (try with_reducible rfl))
                  refine tko 12 ?_
                  refine tko 13 ?_
                  refine tko 14 ?_
                  refine tko 15 ?_
                  refine tko 16 ?_
                  refine tko 17 ?_
                  refine tko 18 ?_
                  refine tko 19 ?_
                  refine tko 20 ?_
                  refine tko 21 ?_ (hy := by intro w9 hSw; obtain ⟨⟨c0, -, -, -, -, c5⟩, d0, d1, d2, d3, d4, d5⟩ := hSw; go_simp; (try with_reducible rfl))
                  refine tko 22 ?_
                  refine tko (v := .int .i64 ((x.n : Int) - 1)) 23 ?_ (hy := by intro w9 hSw; go_simp; (try exact hpred))
                  refine tko 24 ?_
                  refine tko 25 ?_
                  refine rdo 26 (fun K1 hK1 => ?_)
                  go_simp
                  refine hcall.mono ?_
                  clear hcall
                  rintro e X ⟨a3, cap3, us3, rfl, hN3, hB3⟩
                  obtain ⟨o4, c4, W4, HR3, J4, S4⟩ := fin X a3 cap3 us3 hN3 hB3
                  clear fin
                  go_simp
                  refine hK1.out _ _ (HS.out (J3.later hB3)) (fun hHeld => ?_)
                  clear hK1 K1
                  refine rdo 27 (fun K1 hK1 => ?_)
                  rw [if_pos (by rfl)]
                  refine wpOp_app22 (.tmp 63) (.tmp 89) 31 rfl _ _ _ rfl rfl HR3.out ?_
                  refine hK1.out _ _ S4 (fun hHeld => ?_)
                  clear hK1 K1
                  (try simp only [Act.put, si_put, si_0, si_1])
                  refine rdo 28 (fun K1 hK1 => ?_)
                  go_simp
                  refine hK1.out _ _ S4 (fun hHeld => ?_)
                  clear hK1 K1
                  refine dno ?_
                  go_wp2
                  refine ⟨⟨k + 1, _, _, HK.out, by simp, rfl, J4⟩, ?_⟩
                  have := HK.out
                  simp [intOf]
                  omega
            · have hk' : k = x.n := by omega
              subst hk'
              go_wp2
              go_ret
              rw [HLn.out] at J ⊢
              obtain ⟨us, hr⟩ := J.out.row
              exact ⟨_, _, us, rfl, hr, J.out.low⟩
end Go.Proofs.YtfnfegcjgnbgbaaGreatDoor
namespace Go.Proofs.YtfnfegcjgnbgbaaGreatDoor
open Go.RowKit

set_option maxHeartbeats 400000 in
theorem refLower_any (r : Int) (w : World) : Calls Tryz.prog 84 #[.int .u8 r] w fun e w' => e = .returned (.bool (smallB r)) ∧ w' = w := by
  go_enter Tryz.func84, Tryz.ntmps84
  go_wp2
  all_goals go_ret
  all_goals refine ⟨ret_bool ?_, rfl⟩
  all_goals (unfold smallB; rw [Bool.eq_iff_iff]; simp <;> omega)
set_option maxHeartbeats 400000 in
theorem refDigit_any (r : Int) (w : World) : Calls Tryz.prog 98 #[.int .u8 r] w fun e w' => e = .returned (.bool (digitB r)) ∧ w' = w := by
  go_enter Tryz.func98, Tryz.ntmps98
  go_wp2
  all_goals go_ret
  all_goals refine ⟨ret_bool ?_, rfl⟩
  all_goals (unfold digitB; rw [Bool.eq_iff_iff]; simp <;> omega)
set_option maxHeartbeats 1000000 in
theorem refSign_any (r : Int) (w : World) : Calls Tryz.prog 83 #[.int .u8 r] w fun e w' => e = .returned (.bool (signB r)) ∧ w' = w := by
  obtain ⟨S, hS⟩ : ∃ S, S = smallB r := ⟨_, rfl⟩
  obtain ⟨D, hD⟩ : ∃ D, D = digitB r := ⟨_, rfl⟩
  have hl : ∀ w', Calls Tryz.prog 84 #[.int .u8 r] w' fun e w'' => e = .returned (.bool S) ∧ w'' = w' := fun w' => by rw [hS]; exact refLower_any r w'
  have hd : ∀ w', Calls Tryz.prog 98 #[.int .u8 r] w' fun e w'' => e = .returned (.bool D) ∧ w'' = w' := fun w' => by rw [hD]; exact refDigit_any r w'
  have e : signB r = (S || D || decide (r = 95)) := by rw [hS, hD]; unfold signB laterB digitB smallB; rw [Bool.eq_iff_iff]; simp only [Bool.or_eq_true, decide_eq_true_eq]; omega
  rw [e]
  have HL : Hid (∀ w', Calls Tryz.prog 84 _ w' _) := hl
  have HD : Hid (∀ w', Calls Tryz.prog 98 _ w' _) := hd
  clear hl hd hS hD e
  cases S <;> cases D
  all_goals (go_enter Tryz.func83, Tryz.ntmps83)
  all_goals (go_wp2_with (first | (go_at_call 84; refine (HL.out _).mono ?_; rintro e w1 ⟨rfl, hw1⟩; replace hw1 := hw1.symm; subst hw1) | (go_at_call 98; refine (HD.out _).mono ?_; rintro e w1 ⟨rfl, hw1⟩; replace hw1 := hw1.symm; subst hw1)))
  all_goals go_ret
  all_goals refine ⟨ret_bool ?_, rfl⟩
  all_goals (first | rfl | (rw [Bool.eq_iff_iff]; simp))

theorem sign_ok {c : Int} {j : Nat} (h : okB c j = true) : signB c = true := by
  unfold okB at h; unfold signB; simp only [Bool.or_eq_true, Bool.and_eq_true] at h ⊢
  exact h.imp id And.left
theorem sign_not {c : Int} (j : Nat) (h : signB c = false) : okB c j = false := by
  cases hk : okB c j with
  | false => rfl
  | true => rw [sign_ok hk] at h; cases h
theorem ok_sign {c : Int} {j : Nat} (hj : j ≠ 0) (h : signB c = true) : okB c j = true := by
  unfold okB; unfold signB at h; simp only [Bool.or_eq_true, Bool.and_eq_true, decide_eq_true_eq] at h ⊢
  exact h.imp id fun k => ⟨k, hj⟩

set_option maxRecDepth 100000 in
set_option maxHeartbeats 1000000 in
theorem refName_any (s : ByteArray) (w : World) (hs : s.size ≤ maxLen) : Calls Tryz.prog 61 #[.string s] w fun e w' => e = .returned (.bool (nameB s)) ∧ w' = w := by
  unfold maxLen at hs
  obtain ⟨B, hB⟩ : ∃ B, B = nameB s := ⟨_, rfl⟩
  rw [← hB]
  have HB : Hid (B = nameB s) := hB
  clear hB
  go_enter Tryz.func61, Tryz.ntmps61
  go_wp2
  go_loop [3] (fun i => ∃ k : Nat, k ≤ s.size ∧ i = .int .i64 k ∧ Hid (∀ j, j < k → signB (byteAt s j) = true)) (fun i => s.size - (intOf i).toNat)
  case atStart => exact ⟨0, Nat.zero_le _, rfl, fun j hj => by omega⟩
  case round =>
    obtain ⟨k, hk, rfl, HP⟩ := hrel
    by_cases hlt : k < s.size
    · have hlt' : (k : Int) < (s.size : Int) := by omega
      have hidx := at_str s k hlt
      cases hg : signB (byteAt s k) with
      | false =>
        have C : ∀ w', Calls Tryz.prog 83 #[.int .u8 (byteAt s k)] w' fun e w'' => e = .returned (.bool false) ∧ w'' = w' := fun w' => by rw [← hg]; exact refSign_any _ w'
        have HC : Hid (∀ w', Calls Tryz.prog 83 _ w' _) := C
        clear C
        go_wp2_with (first | (go_at_call 83; refine (HC.out _).mono ?_; rintro e w1 ⟨rfl, hw1⟩; replace hw1 := hw1.symm; subst hw1))
        try rw [Exit.noGoto_ret]
        go_ret
        exact ⟨ret_bool (by rw [HB.out, nameB_not k hlt (sign_not k hg)]), rfl⟩
      | true =>
        have C : ∀ w', Calls Tryz.prog 83 #[.int .u8 (byteAt s k)] w' fun e w'' => e = .returned (.bool true) ∧ w'' = w' := fun w' => by rw [← hg]; exact refSign_any _ w'
        have HC : Hid (∀ w', Calls Tryz.prog 83 _ w' _) := C
        clear C
        go_wp2_with (first | (go_at_call 83; refine (HC.out _).mono ?_; rintro e w1 ⟨rfl, hw1⟩; replace hw1 := hw1.symm; subst hw1))
        go_round
        case rel => exact ⟨k + 1, by omega, by go_num, fun j hj => if h : j = k then by rw [h]; exact hg else HP.out j (by omega)⟩
        case measure => simp [intOf]; omega
    · obtain rfl : k = s.size := by omega
      have hge : ¬ (s.size : Int) < (s.size : Int) := by omega
      by_cases h0 : s.size = 0
      · have h0' : (s.size : Int) = 0 := by omega
        go_wp2
        go_ret
        refine ⟨ret_bool ?_, rfl⟩
        rw [HB.out]; unfold nameB fitsB; simp [h0]
      · have hidx : ∀ w', (Instr.index 9 (.string s) (.int .i64 0)).run Tryz.prog w' = .ok (.int .u8 (byteAt s 0)) w' := fun w' => at_str s 0 (by omega) w'
        have HL : Hid (∀ w', Calls Tryz.prog 84 #[.int .u8 (byteAt s 0)] w' _) := fun w' => refLower_any (byteAt s 0) w'
        have h1 : (1 : Int) ≤ (s.size : Int) := by omega
        by_cases h32 : s.size ≤ 32
        · have h32' : (s.size : Int) ≤ 32 := by omega
          go_wp2_with (first | (go_at_call 84; refine (HL.out _).mono ?_; rintro e w1 ⟨rfl, hw1⟩; replace hw1 := hw1.symm; subst hw1))
          go_ret
          refine ⟨ret_bool ?_, rfl⟩
          rw [HB.out]
          cases hsm : smallB (byteAt s 0) with
          | true =>
            rw [nameB_all]
            · unfold fitsB; rw [decide_eq_true (by omega)]
            · intro j hj
              by_cases hj0 : j = 0
              · rw [hj0]; unfold okB; rw [hsm]; rfl
              · exact ok_sign hj0 (HP.out j hj)
          | false =>
            rw [nameB_not 0 (by omega)]
            unfold okB; rw [hsm]; simp
        · have h32' : ¬ (s.size : Int) ≤ 32 := by omega
          go_wp2_with (first | (go_at_call 84; refine (HL.out _).mono ?_; rintro e w1 ⟨rfl, hw1⟩; replace hw1 := hw1.symm; subst hw1))
          go_ret
          refine ⟨ret_bool ?_, rfl⟩
          rw [HB.out]; unfold nameB fitsB; rw [decide_eq_false (p := 1 ≤ s.size ∧ s.size ≤ 32) (by omega)]; simp

end Go.Proofs.YtfnfegcjgnbgbaaGreatDoor
namespace Go.Proofs.YtfnfegcjgnbgbaaGreatDoor
open Go.RowKit

set_option maxHeartbeats 1000000 in
theorem refRight_none (k n : Int) (s : ByteArray) (w : World) (h0 : (k == 0) = false) (h1 : (k == 1) = false) (h2 : (k == 2) = false) (h3 : (k == 3) = false) : Calls Tryz.prog 99 #[valV k n s] w fun e w' => e = .returned (.bool false) ∧ Below w.heap.size w w' := by
  go_enter Tryz.func99, Tryz.ntmps99
  go_wp2
  go_ret
  exact ⟨rfl, (Below.refl _ _).alloc (Nat.le_refl _) _⟩
set_option maxHeartbeats 1000000 in
theorem refRight_null0  (w : World) : Calls Tryz.prog 99 #[valV 0 0 ⟨#[]⟩] w fun e w' => e = .returned (.bool true) ∧ Below w.heap.size w w' := by
  go_enter Tryz.func99, Tryz.ntmps99
  go_wp2
  go_ret
  exact ⟨rfl, (Below.refl _ _).alloc (Nat.le_refl _) _⟩
set_option maxHeartbeats 1000000 in
theorem refRight_null1 (n : Int) (s : ByteArray) (w : World) (hn : (n == 0) = false) : Calls Tryz.prog 99 #[valV 0 n s] w fun e w' => e = .returned (.bool false) ∧ Below w.heap.size w w' := by
  go_enter Tryz.func99, Tryz.ntmps99
  go_wp2
  go_ret
  exact ⟨rfl, (Below.refl _ _).alloc (Nat.le_refl _) _⟩
set_option maxHeartbeats 1000000 in
theorem refRight_null2 (s : ByteArray) (w : World) (hs : (s.toList == []) = false) : Calls Tryz.prog 99 #[valV 0 0 s] w fun e w' => e = .returned (.bool false) ∧ Below w.heap.size w w' := by
  go_enter Tryz.func99, Tryz.ntmps99
  go_wp2
  go_ret
  exact ⟨rfl, (Below.refl _ _).alloc (Nat.le_refl _) _⟩
set_option maxHeartbeats 1000000 in
theorem refRight_bool0  (w : World) : Calls Tryz.prog 99 #[valV 1 0 ⟨#[]⟩] w fun e w' => e = .returned (.bool true) ∧ Below w.heap.size w w' := by
  go_enter Tryz.func99, Tryz.ntmps99
  go_wp2
  go_ret
  exact ⟨rfl, (Below.refl _ _).alloc (Nat.le_refl _) _⟩
set_option maxHeartbeats 1000000 in
theorem refRight_bool1  (w : World) : Calls Tryz.prog 99 #[valV 1 1 ⟨#[]⟩] w fun e w' => e = .returned (.bool true) ∧ Below w.heap.size w w' := by
  go_enter Tryz.func99, Tryz.ntmps99
  go_wp2
  go_ret
  exact ⟨rfl, (Below.refl _ _).alloc (Nat.le_refl _) _⟩
set_option maxHeartbeats 1000000 in
theorem refRight_bool2 (s : ByteArray) (w : World) (hs : (s.toList == []) = false) : Calls Tryz.prog 99 #[valV 1 0 s] w fun e w' => e = .returned (.bool false) ∧ Below w.heap.size w w' := by
  go_enter Tryz.func99, Tryz.ntmps99
  go_wp2
  go_ret
  exact ⟨rfl, (Below.refl _ _).alloc (Nat.le_refl _) _⟩
set_option maxHeartbeats 1000000 in
theorem refRight_bool3 (s : ByteArray) (w : World) (hs : (s.toList == []) = false) : Calls Tryz.prog 99 #[valV 1 1 s] w fun e w' => e = .returned (.bool false) ∧ Below w.heap.size w w' := by
  go_enter Tryz.func99, Tryz.ntmps99
  go_wp2
  go_ret
  exact ⟨rfl, (Below.refl _ _).alloc (Nat.le_refl _) _⟩
set_option maxHeartbeats 1000000 in
theorem refRight_bool4 (n : Int) (s : ByteArray) (w : World) (hn : (n == 0) = false) (h1 : (n == 1) = false) : Calls Tryz.prog 99 #[valV 1 n s] w fun e w' => e = .returned (.bool false) ∧ Below w.heap.size w w' := by
  go_enter Tryz.func99, Tryz.ntmps99
  go_wp2
  go_ret
  exact ⟨rfl, (Below.refl _ _).alloc (Nat.le_refl _) _⟩
set_option maxHeartbeats 1000000 in
theorem refRight_int0 (n : Int) (w : World) : Calls Tryz.prog 99 #[valV 2 n ⟨#[]⟩] w fun e w' => e = .returned (.bool true) ∧ Below w.heap.size w w' := by
  go_enter Tryz.func99, Tryz.ntmps99
  go_wp2
  go_ret
  exact ⟨rfl, (Below.refl _ _).alloc (Nat.le_refl _) _⟩
set_option maxHeartbeats 1000000 in
theorem refRight_int1 (n : Int) (s : ByteArray) (w : World) (hs : (s.toList == []) = false) : Calls Tryz.prog 99 #[valV 2 n s] w fun e w' => e = .returned (.bool false) ∧ Below w.heap.size w w' := by
  go_enter Tryz.func99, Tryz.ntmps99
  go_wp2
  go_ret
  exact ⟨rfl, (Below.refl _ _).alloc (Nat.le_refl _) _⟩
set_option maxHeartbeats 1000000 in
theorem refRight_text0 (s : ByteArray) (w : World) (hl : (s.size : Int) ≤ 256) : Calls Tryz.prog 99 #[valV 3 0 s] w fun e w' => e = .returned (.bool true) ∧ Below w.heap.size w w' := by
  go_enter Tryz.func99, Tryz.ntmps99
  go_wp2
  go_ret
  exact ⟨rfl, (Below.refl _ _).alloc (Nat.le_refl _) _⟩
set_option maxHeartbeats 1000000 in
theorem refRight_text1 (n : Int) (s : ByteArray) (w : World) (hn : (n == 0) = false) : Calls Tryz.prog 99 #[valV 3 n s] w fun e w' => e = .returned (.bool false) ∧ Below w.heap.size w w' := by
  go_enter Tryz.func99, Tryz.ntmps99
  go_wp2
  go_ret
  exact ⟨rfl, (Below.refl _ _).alloc (Nat.le_refl _) _⟩
set_option maxHeartbeats 1000000 in
theorem refRight_text2 (s : ByteArray) (w : World) (hl : ¬ (s.size : Int) ≤ 256) : Calls Tryz.prog 99 #[valV 3 0 s] w fun e w' => e = .returned (.bool false) ∧ Below w.heap.size w w' := by
  go_enter Tryz.func99, Tryz.ntmps99
  go_wp2
  go_ret
  exact ⟨rfl, (Below.refl _ _).alloc (Nat.le_refl _) _⟩
theorem refRight_any (k n : Int) (s : ByteArray) (w : World) : Calls Tryz.prog 99 #[valV k n s] w fun e w' => e = .returned (.bool (rightB k n s)) ∧ Below w.heap.size w w' := by
  unfold rightB
  by_cases h0 : k = 0
  · subst h0
    rw [if_pos rfl]
    by_cases hn : n = 0
    · subst hn
      cases hs : s.toList == [] with
      | true => obtain rfl := empty_str hs; simpa using refRight_null0 w
      | false => simpa using refRight_null2 s w hs
    · simpa [hn] using refRight_null1 n s w (by simpa using hn)
  · rw [if_neg h0]
    by_cases h1 : k = 1
    · subst h1
      rw [if_pos rfl]
      by_cases hn : n = 0
      · subst hn
        cases hs : s.toList == [] with
        | true => obtain rfl := empty_str hs; simpa using refRight_bool0 w
        | false => simpa using refRight_bool2 s w hs
      · by_cases hm : n = 1
        · subst hm
          cases hs : s.toList == [] with
          | true => obtain rfl := empty_str hs; simpa using refRight_bool1 w
          | false => simpa using refRight_bool3 s w hs
        · simpa [hn, hm] using refRight_bool4 n s w (by simpa using hn) (by simpa using hm)
    · rw [if_neg h1]
      by_cases h2 : k = 2
      · subst h2
        rw [if_pos rfl]
        cases hs : s.toList == [] with
        | true => obtain rfl := empty_str hs; exact refRight_int0 n w
        | false => exact refRight_int1 n s w hs
      · rw [if_neg h2]
        by_cases h3 : k = 3
        · subst h3
          rw [if_pos rfl]
          by_cases hn : n = 0
          · subst hn
            by_cases hl : (s.size : Int) ≤ 256
            · have e : decide (s.size ≤ 256) = true := decide_eq_true (by omega)
              rw [e]
              exact refRight_text0 s w hl
            · have e : decide (s.size ≤ 256) = false := decide_eq_false (by omega)
              rw [e]
              exact refRight_text2 s w hl
          · rw [decide_eq_false hn]; exact refRight_text1 n s w (by simpa using hn)
        · rw [if_neg h3]
          exact refRight_none k n s w (by simpa using h0) (by simpa using h1) (by simpa using h2) (by simpa using h3)
end Go.Proofs.YtfnfegcjgnbgbaaGreatDoor
