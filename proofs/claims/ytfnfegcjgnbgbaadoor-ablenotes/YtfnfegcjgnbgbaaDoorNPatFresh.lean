/-
  Conditions that lie apart: each row of parts in a block of its own, that may be written; of no function.
  expr.copied.
  pat.At and pat.Tail, and the document's.
-/
import Derived.Test.YtfnfegcjgnbgbaaDoorNPatApart
import Derived.Test.YtfnfegcjgnbgbaaDoorNPatCheck
import Derived.Test.YtfnfegcjgnbgbaaDoorNTxt
import Derived.Laws.ResultCell
namespace Go.Proofs.YtfnfegcjgnbgbaaDoor
open Go.RowKit

/-- The blocks in which a pattern's parts lie. -/
def inP (k : Nat) : Pt → Prop
  | .nil => False
  | .mk _ _ _ _ _ a n _ c => (0 < n ∧ ∃ o, a = some ⟨k, o, none⟩) ∨ ∃ i, i < n ∧ inP k (c i)
theorem inP_eq (k : Nat) (x : Pt) : inP k x ↔ (0 < x.n ∧ ∃ o, x.a = some ⟨k, o, none⟩) ∨ ∃ i, i < x.n ∧ inP k (x.c i) := by
  cases x with
  | nil => simp [inP, Pt.n]
  | mk => rfl
/-- It lies apart. -/
def PA (w : World) : Pt → Prop
  | .nil => True
  | .mk _ _ _ _ _ a n cap c => n ≤ cap ∧ cap ≤ 9223372036854775807 ∧ ∀ i, i < n → ∃ b, a = some ⟨b, 0, none⟩ ∧ FreeP w b ∧ NodeP w b (i * 6) (c i) ∧ PA w (c i) ∧ ¬ inP b (c i) ∧ ∀ j, j < n → j ≠ i → ∀ k, inP k (c i) → ¬ inP k (c j)
theorem pA_eq (w : World) (x : Pt) : PA w x ↔ x.n ≤ x.cap ∧ x.cap ≤ 9223372036854775807 ∧ ∀ i, i < x.n → ∃ b, x.a = some ⟨b, 0, none⟩ ∧ FreeP w b ∧ NodeP w b (i * 6) (x.c i) ∧ PA w (x.c i) ∧ ¬ inP b (x.c i) ∧ ∀ j, j < x.n → j ≠ i → ∀ k, inP k (x.c i) → ¬ inP k (x.c j) := by
  cases x with
  | nil => simp [PA, Pt.n, Pt.cap]
  | mk => rfl
theorem PA.is {w : World} : ∀ {x : Pt}, PA w x → IsP w x := by
  refine @(Pt.ind fun x ih hx => ?_)
  rw [pA_eq] at hx
  rw [isP_eq]
  refine ⟨hx.1, hx.2.1, fun i hi => ?_⟩
  obtain ⟨b, e, _, hn, hc, _⟩ := hx.2.2 i hi
  exact ⟨b, 0, e, by simpa using hn, ih i hi hc⟩
theorem FreeP.kept {T : Nat → Prop} {W W' : World} (h : Kp T W W') {b : Nat} (hb : T b) (hf : FreeP W b) : FreeP W' b := by
  obtain ⟨cur, hc⟩ := hf
  exact ⟨cur, h b _ hb rfl hc⟩
theorem FreeP.lt {w : World} {b : Nat} (h : FreeP w b) : b < w.heap.size := by
  obtain ⟨cur, hc⟩ := h
  exact (Array.getElem?_eq_some_iff.1 hc).1
theorem FreeP.ne {w : World} {b k : Nat} {t : TypeId} {u : Value} (h : FreeP w b) (hb : Boxed w k t u) (ht : t ≠ 24) : b ≠ k := by
  rintro rfl
  obtain ⟨cur, hc⟩ := h
  have hb' : w.heap[b]? = some (.cells #[u] t (0, 0)) := hb
  rw [hc] at hb'
  injection hb' with e
  injection e with _ e2
  exact ht e2.symm
theorem PA.kept {T : Nat → Prop} {W W' : World} (h : Kp T W W') : ∀ {x : Pt}, (∀ k, inP k x → T k) → PA W x → PA W' x := by
  refine @(Pt.ind fun x ih hT hx => ?_)
  rw [pA_eq] at hx ⊢
  refine ⟨hx.1, hx.2.1, fun i hi => ?_⟩
  obtain ⟨b, e, hf, hn, hc, hr⟩ := hx.2.2 i hi
  have hb : T b := hT b ((inP_eq _ _).2 (.inl ⟨by omega, 0, e⟩))
  exact ⟨b, e, hf.kept h hb, hn.kept h hb, ih i hi (fun k hk => hT k ((inP_eq _ _).2 (.inr ⟨i, hi, hk⟩))) hc, hr⟩
theorem inP_lt {w : World} {k : Nat} : ∀ {x : Pt}, PA w x → inP k x → k < w.heap.size := by
  refine @(Pt.ind fun x ih hx hk => ?_)
  rw [pA_eq] at hx
  rcases (inP_eq _ _).1 hk with ⟨h0, o, e⟩ | ⟨i, hi, hk⟩
  · obtain ⟨b, e', hf, _⟩ := hx.2.2 0 h0
    rw [e] at e'
    cases e'
    exact hf.lt
  · obtain ⟨b, e', _, _, hc, _⟩ := hx.2.2 i hi
    exact ih i hi hc hk
theorem PA.later {w w' : World} {x : Pt} (hB : Below w.heap.size w w') (h : PA w x) : PA w' x :=
  h.kept (T := fun k => k < w.heap.size) (Kp.of_below hB fun _ hk => hk) fun _ hk => inP_lt h hk
theorem PA.ag {B : Nat} {W A : World} (h : Ag B W A) {x : Pt} (hx : PA W x) : PA A x := hx.kept (T := fun _ => True) (fun k o _ ho e => (h.cells k o ho).2 e) fun _ _ => trivial
theorem FreeP.ag {B : Nat} {W A : World} (h : Ag B W A) {b : Nat} (hf : FreeP W b) : FreeP A b := by
  obtain ⟨cur, hc⟩ := hf
  exact ⟨cur, (h.cells _ _ rfl).2 hc⟩
theorem FreeP.set {W : World} {k b o : Nat} {v : Value} (hf : FreeP W k) : FreeP (W.setCell ⟨b, o, none⟩ v) k := by
  obtain ⟨cur, hc⟩ := hf
  by_cases e : k = b
  · subst e
    refine ⟨cur.setIfInBounds o v, ?_⟩
    simp only [World.setCell, Array.getElem?_modify, if_pos, hc]
    rfl
  · exact ⟨cur, (Below.heap_setCell W ⟨b, o, none⟩ v k e).trans hc⟩
/-- What stays: all blocks but b and those in S; in b all cells but one; what may be written. -/
structure KbP (b j0 : Nat) (S : Nat → Prop) (W W' : World) : Prop where
  oth : Kp (fun k => k ≠ b ∧ ¬ S k) W W'
  own : ∀ j u, j ≠ j0 → W.cell? ⟨b, j, none⟩ = some u → W'.cell? ⟨b, j, none⟩ = some u
  free : ∀ k, FreeP W k → FreeP W' k
  size : W.heap.size ≤ W'.heap.size
theorem KbP.node {b j0 : Nat} {S : Nat → Prop} {W W' : World} (h : KbP b j0 S W W') {k o : Nat} {x : Pt} (hk : k ≠ b) (hS : ¬ S k) (hn : NodeP W k o x) : NodeP W' k o x := hn.kept h.oth ⟨hk, hS⟩
theorem KbP.near {b j0 : Nat} {S : Nat → Prop} {W W' : World} (h : KbP b j0 S W W') {o : Nat} {x : Pt} (ho : ∀ t, t < 6 → o + t ≠ j0) (hn : NodeP W b o x) : NodeP W' b o x :=
  ⟨h.own _ _ (ho 0 (by omega)) hn.1, h.own _ _ (ho 1 (by omega)) hn.2.1, h.own _ _ (ho 2 (by omega)) hn.2.2.1, h.own _ _ (ho 3 (by omega)) hn.2.2.2.1, h.own _ _ (ho 4 (by omega)) hn.2.2.2.2.1, h.own _ _ (ho 5 (by omega)) hn.2.2.2.2.2⟩
theorem KbP.set (b j0 : Nat) (S : Nat → Prop) (W : World) (v : Value) : KbP b j0 S W (W.setCell ⟨b, j0, none⟩ v) :=
  ⟨fun k _ hk _ e => (Below.heap_setCell W ⟨b, j0, none⟩ v k hk.1).trans e, fun j u hj hc => (World.cell?_setCell_other _ _ _ _ (by intro e; cases e; exact hj rfl)).trans hc, fun _ hf => hf.set, Nat.le_of_eq (World.size_setCell ..).symm⟩
theorem KbP.of_below (b j0 : Nat) (S : Nat → Prop) {W W' : World} (h : Below W.heap.size W W') : KbP b j0 S W W' :=
  ⟨fun k o _ _ e => (h.block k (Array.getElem?_eq_some_iff.1 e).1).trans e,
   fun j u _ hc => by
    obtain ⟨o, ho, _⟩ := cells_of_cell hc
    exact (h.cell (p := ⟨b, j, none⟩) (Array.getElem?_eq_some_iff.1 ho).1).trans hc,
   fun k hf => by
    have hl := hf.lt
    obtain ⟨cur, hc⟩ := hf
    exact ⟨cur, (h.block k hl).trans hc⟩, h.size⟩
theorem KbP.refl (b j0 : Nat) (S : Nat → Prop) (W : World) : KbP b j0 S W W := .of_below b j0 S (Below.refl _ _)
theorem KbP.trans {b j0 : Nat} {S : Nat → Prop} {A B C : World} (h : KbP b j0 S A B) (g : KbP b j0 S B C) : KbP b j0 S A C :=
  ⟨h.oth.trans g.oth, fun j u hj hc => g.own j u hj (h.own j u hj hc), fun k hf => g.free k (h.free k hf), Nat.le_trans h.size g.size⟩
theorem KbP.mono {b j0 : Nat} {S S' : Nat → Prop} {W W' : World} (h : KbP b j0 S W W') (hS : ∀ k, S k → S' k) : KbP b j0 S' W W' := ⟨h.oth.mono fun k hk => ⟨hk.1, fun hs => hk.2 (hS k hs)⟩, h.own, h.free, h.size⟩
theorem KbP.ag {B b j0 : Nat} {S : Nat → Prop} {W A A' W' : World} (h : Ag B W A) (h' : Ag B A' W') (g : KbP b j0 S A A') : KbP b j0 S W W' :=
  ⟨Kp.ag h h' g.oth, fun j u hj hc => (h'.cell _).trans (g.own j u hj ((h.cell _).trans hc)), fun k hf => (g.free k (hf.ag h)).ag h', by rw [h'.size, ← h.size]; exact g.size⟩
/-- What was done to a part in block g is done to the whole, if g is among what may change or was not there. -/
theorem KbP.part {b j0 g j1 : Nat} {S S' : Nat → Prop} {W Wi W' : World} (h : KbP b j0 S W Wi) (f : KbP g j1 S' Wi W') (hg : S g ∨ W.heap.size ≤ g) (hS : ∀ k, S' k → S k ∨ W.heap.size ≤ k) (_ : b < W.heap.size) (hb1 : b ≠ g) (hb2 : ¬ S' b) : KbP b j0 S W W' := by
  refine ⟨fun k o hk ho e => ?_, fun j u hj hc => ?_, fun k hf => f.free k (h.free k hf), Nat.le_trans h.size f.size⟩
  · have hl : k < W.heap.size := (Array.getElem?_eq_some_iff.1 e).1
    refine f.oth k o ⟨?_, ?_⟩ ho (h.oth k o hk ho e)
    · rintro rfl
      rcases hg with hg | hg
      · exact hk.2 hg
      · omega
    · intro hs
      rcases hS k hs with h1 | h1
      · exact hk.2 h1
      · omega
  · exact f.oth.cell (p := ⟨b, j, none⟩) ⟨hb1, hb2⟩ (h.own j u hj hc)
/-- The same node with its parts elsewhere. -/
abbrev Pt.at (v : Pt) (a : Option Addr) (cap : Nat) (c : Nat → Pt) : Pt := .mk v.k v.s v.t v.lo v.hi a v.n cap c
theorem NodeP.at {w : World} {b o : Nat} {v : Pt} {a : Option Addr} {cap : Nat} {c c' : Nat → Pt} (h : NodeP w b o (v.at a cap c)) : NodeP w b o (v.at a cap c') := h
end Go.Proofs.YtfnfegcjgnbgbaaDoor
namespace Go.Proofs.YtfnfegcjgnbgbaaDoor
open Go.RowKit Go.Shelf
attribute [local go_sem] Oper.semAt_some

/-- What a round of expr.copied does: the node's parts lie in a row of their own now. -/
def CopP (N0 : Nat) (v : Pt) (b o : Nat) (W W' : World) : Prop :=
  ∃ a cap, NodeP W' b o (v.at a cap v.c) ∧ v.n ≤ cap ∧ cap ≤ maxLen ∧ (0 < v.n → ∃ g, a = some ⟨g, 0, none⟩ ∧ W.heap.size ≤ g ∧ g < W'.heap.size ∧ FreeP W' g ∧ ∀ i, i < v.n → NodeP W' g (i * 6) (v.c i)) ∧ Below N0 W W' ∧ KbP b (o + 5) (fun _ => False) W W'
/-- Ahead of it. -/
def CopPPre (N0 : Nat) (v : Pt) (b o : Nat) (W : World) : Prop := NodeP W b o v ∧ PIn N0 W v ∧ N0 ≤ b ∧ FreeP W b ∧ WdP v ∧ N0 ≤ W.heap.size
/-- The first i parts are copies. -/
def CopPMid (N0 : Nat) (v : Pt) (b o : Nat) (W : World) (a : Option Addr) (cap i : Nat) (Wi : World) : Prop :=
  ∃ c : Nat → Pt, NodeP Wi b o (v.at a cap v.c) ∧ v.n ≤ cap ∧ cap ≤ maxLen ∧ i ≤ v.n ∧
    (0 < v.n → ∃ g, a = some ⟨g, 0, none⟩ ∧ W.heap.size ≤ g ∧ g < Wi.heap.size ∧ FreeP Wi g ∧ (∀ j, j < i → NodeP Wi g (j * 6) (c j) ∧ ¬ inP g (c j)) ∧ (∀ j, i ≤ j → j < v.n → NodeP Wi g (j * 6) (v.c j))) ∧
    (∀ j, j < i → PA Wi (c j) ∧ Sm (c j) (v.c j) ∧ (∀ k, inP k (c j) → W.heap.size ≤ k ∧ k < Wi.heap.size) ∧ ∀ j', j' < i → j' ≠ j → ∀ k, inP k (c j) → ¬ inP k (c j')) ∧
    Below N0 W Wi ∧ KbP b (o + 5) (fun _ => False) W Wi ∧ PIn N0 Wi v ∧ N0 ≤ b ∧ b < W.heap.size ∧ WdP v ∧ N0 ≤ W.heap.size
/-- Behind it. -/
def CopPPost (N0 : Nat) (v : Pt) (b o : Nat) (W W' : World) : Prop :=
  ∃ y, NodeP W' b o y ∧ PA W' y ∧ Sm y v ∧ (∀ k, inP k y → W.heap.size ≤ k ∧ k < W'.heap.size) ∧ Below N0 W W' ∧ KbP b (o + 5) (fun _ => False) W W'
theorem CopPPre.ag {N0 B : Nat} {v : Pt} {b o : Nat} {W A : World} (h : Ag B W A) (hN : N0 ≤ B) (hp : CopPPre N0 v b o W) : CopPPre N0 v b o A := by
  obtain ⟨h1, h2, h3, h4, h5, h6⟩ := hp
  exact ⟨h1.ag h, h2.below (h.below hN (Below.refl _ _)), h3, h4.ag h, h5, by rw [h.size]; exact h6⟩
theorem CopP.ag {N0 B : Nat} {v : Pt} {b o : Nat} {W A A' W' : World} (h : Ag B W A) (h' : Ag B A' W') (hN : N0 ≤ B) (hp : CopP N0 v b o A A') : CopP N0 v b o W W' := by
  obtain ⟨a, cap, h1, h2, h3, h4, h5, h6⟩ := hp
  refine ⟨a, cap, h1.ag h', h2, h3, fun h0 => ?_, h.below_from hN (h'.below hN h5), KbP.ag h h' h6⟩
  obtain ⟨g, e, q1, q2, q3, q4⟩ := h4 h0
  exact ⟨g, e, by rw [← h.size]; exact q1, by rw [h'.size]; exact q2, q3.ag h', fun i hi => (q4 i hi).ag h'⟩
theorem CopPPost.ag {N0 B : Nat} {v : Pt} {b o : Nat} {W W' A : World} (h : Ag B W' A) (hN : N0 ≤ B) (hp : CopPPost N0 v b o W W') : CopPPost N0 v b o W A := by
  obtain ⟨y, h1, h2, h3, h4, h5, h6⟩ := hp
  exact ⟨y, h1.ag h, h2.ag h, h3, fun k hk => by rw [h.size]; exact h4 k hk, h.below hN h5, KbP.ag (Ag.refl B W) h h6⟩
theorem CopP.mid {N0 : Nat} {v : Pt} {b o : Nat} {W W' : World} (hp : CopPPre N0 v b o W) (h : CopP N0 v b o W W') : ∃ a cap, CopPMid N0 v b o W a cap 0 W' := by
  obtain ⟨p1, p2, p3, p4, p5, p6⟩ := hp
  obtain ⟨a, cap, h1, h2, h3, h4, h5, h6⟩ := h
  refine ⟨a, cap, v.c, h1, h2, h3, Nat.zero_le _, fun h0 => ?_, fun j hj => absurd hj (Nat.not_lt_zero _), h5, h6, p2.below h5, p3, p4.lt, p5, p6⟩
  obtain ⟨g, e, q1, q2, q3, q4⟩ := h4 h0
  exact ⟨g, e, q1, q2, q3, fun j hj => absurd hj (Nat.not_lt_zero _), fun j _ hj => q4 j hj⟩
theorem CopPMid.next {N0 : Nat} {v : Pt} {b o : Nat} {W : World} {a : Option Addr} {cap i : Nat} {Wi : World} (h : CopPMid N0 v b o W a cap i Wi) (hi : i < v.n) :
    ∃ b' o', a = some ⟨b', o', none⟩ ∧ CopPPre N0 (v.c i) b' (o' + i * 6) Wi.drew ∧ (∀ W', CopPPost N0 (v.c i) b' (o' + i * 6) Wi.drew W' → CopPMid N0 v b o W a cap (i + 1) W') := by
  obtain ⟨c, h1, h2, h3, h4, h5, h6, h7, h8, h9, h10, h11, h12, h13⟩ := h
  obtain ⟨g, e, q1, q2, q3, q4, q5⟩ := h5 (by omega)
  obtain ⟨b2, o2, _, _, hn2, hx2⟩ := ((pIn_eq _ _ _).1 h9).2.2 i hi
  refine ⟨g, 0, e, ⟨by rw [Nat.zero_add]; exact q5 i (Nat.le_refl _) hi, hx2.below (Below.refl _ _).drew, by omega, q3, ((wdP_eq v).1 h12).2 i hi, by have := h7.size; show N0 ≤ Wi.heap.size; omega⟩, ?_⟩
  rintro W' ⟨y, p1, p2, p3, p4, p5, p6⟩
  rw [Nat.zero_add] at p1 p6
  have p4' : ∀ k, inP k y → Wi.heap.size ≤ k ∧ k < W'.heap.size := p4
  have p5' : Below N0 Wi W' := ⟨p5.os, p5.tape, p5.output, p5.size, p5.block⟩
  have p6' : KbP g (i * 6 + 5) (fun _ => False) Wi W' := ⟨p6.oth, p6.own, p6.free, p6.size⟩
  clear p4 p5 p6
  have hWW := h8.size
  have hbg : b ≠ g := by omega
  obtain ⟨c', hc'⟩ : ∃ c' : Nat → Pt, c' = fun j => if j = i then y else c j := ⟨_, rfl⟩
  have ci : c' i = y := by rw [hc']; simp
  have cj : ∀ j, j < i → c' j = c j := fun j hj => by rw [hc']; simp only; rw [if_neg (by omega)]
  refine ⟨c', p6'.node hbg (fun h => h) h1, h2, h3, hi, fun _ => ⟨g, e, q1, Nat.lt_of_lt_of_le q2 p6'.size, p6'.free g q3, fun j hj => ?_, fun j hj1 hj2 => ?_⟩, fun j hj => ?_, h7.trans p5', h8.part p6' (.inr q1) (fun _ h => h.elim) h11 hbg (fun h => h), h9.below p5', h10, h11, h12, h13⟩
  · by_cases ej : j = i
    · subst ej
      rw [ci]
      exact ⟨p1, fun hg => by have := p4' g hg; omega⟩
    · rw [cj j (by omega)]
      obtain ⟨r1, r2⟩ := q4 j (by omega)
      exact ⟨p6'.near (fun t ht => by omega) r1, r2⟩
  · exact p6'.near (fun t ht => by omega) (q5 j (by omega) hj2)
  · by_cases ej : j = i
    · subst ej
      rw [ci]
      refine ⟨p2, p3, fun k hk => by have := p4' k hk; omega, fun j' hj' hne k hk => ?_⟩
      rw [cj j' (by omega)]
      intro hk'
      have := (h6 j' (by omega)).2.2.1 k hk'
      have := p4' k hk
      omega
    · rw [cj j (by omega)]
      obtain ⟨r1, r2, r3, r4⟩ := h6 j (by omega)
      refine ⟨r1.kept p6'.oth fun k hk => ⟨fun ek => ?_, fun h => h⟩, r2, fun k hk => by have := r3 k hk; have := p6'.size; omega, fun j' hj' hne k hk => ?_⟩
      · subst ek
        exact (q4 j (by omega)).2 hk
      · by_cases ej' : j' = i
        · subst ej'
          rw [ci]
          intro hk'
          have := r3 k hk
          have := p4' k hk'
          omega
        · rw [cj j' (by omega)]
          exact r4 j' (by omega) hne k hk
theorem CopPMid.done {N0 : Nat} {v : Pt} {b o : Nat} {W : World} {a : Option Addr} {cap : Nat} {Wi : World} (h : CopPMid N0 v b o W a cap v.n Wi) : CopPPost N0 v b o W Wi := by
  obtain ⟨c, h1, h2, h3, h4, h5, h6, h7, h8, h9, h10, h11, h12, h13⟩ := h
  refine ⟨v.at a cap c, h1, ?_, ?_, fun k hk => ?_, h7, h8⟩
  · refine ⟨h2, by unfold maxLen at h3; omega, fun i hi => ?_⟩
    obtain ⟨g, e, q1, q2, q3, q4, q5⟩ := h5 (by omega)
    obtain ⟨r1, r2, r3, r4⟩ := h6 i hi
    exact ⟨g, e, q3, (q4 i hi).1, r1, (q4 i hi).2, r4⟩
  · exact (sm_iff _ _).2 ⟨rfl, rfl, rfl, rfl, rfl, rfl, fun i hi => (h6 i hi).2.1⟩
  · rcases hk with ⟨h0, o', e'⟩ | ⟨i, hi, hk⟩
    · obtain ⟨g, e, q1, q2, _⟩ := h5 h0
      rw [e] at e'
      cases e'
      exact ⟨q1, q2⟩
    · exact (h6 i hi).2.2.1 k hk
/-- The six cells, one after the other. -/
abbrev set6 (W : World) (b : Nat) (y : Pt) : World :=
  (((((W.setCell ⟨b, 0, none⟩ (.int .i64 y.k)).setCell ⟨b, 1, none⟩ (.string y.s)).setCell ⟨b, 2, none⟩ (.string y.t)).setCell ⟨b, 3, none⟩ (.int .i64 y.lo)).setCell ⟨b, 4, none⟩ (.int .i64 y.hi)).setCell ⟨b, 5, none⟩ (.slice y.a y.n y.cap)
theorem heap_set6 {W : World} {b : Nat} {y z : Pt} {t : TypeId} (h : W.heap[b]? = some (.cells z.cells t (0, 0))) : (set6 W b y).heap[b]? = some (.cells y.cells t (0, 0)) := by
  rw [heap_set (heap_set (heap_set (heap_set (heap_set (heap_set h)))))]
  simp
theorem heap_set6_other {W : World} {b : Nat} {y : Pt} {k : Nat} (h : k ≠ b) : (set6 W b y).heap[k]? = W.heap[k]? :=
  (Below.heap_setCell _ _ _ _ h).trans ((Below.heap_setCell _ _ _ _ h).trans ((Below.heap_setCell _ _ _ _ h).trans ((Below.heap_setCell _ _ _ _ h).trans ((Below.heap_setCell _ _ _ _ h).trans (Below.heap_setCell _ _ _ _ h)))))
theorem below_set6 {n : Nat} {w W : World} {b : Nat} {y : Pt} (h : Below n w W) (hb : n ≤ b) : Below n w (set6 W b y) :=
  (((((h.setCell (p := ⟨b, 0, none⟩) hb _).setCell (p := ⟨b, 1, none⟩) hb _).setCell (p := ⟨b, 2, none⟩) hb _).setCell (p := ⟨b, 3, none⟩) hb _).setCell (p := ⟨b, 4, none⟩) hb _).setCell (p := ⟨b, 5, none⟩) hb _
/-- Behind the last store: the deferred list is taken, and the result's cells are read. -/
theorem end6 {fn : Func} {p : Tmp} {tmps : Array Value} {W : World} {b D : Nat} {y : Pt} (hr : fn.results = #[.cell p 24]) (hp : tmps.getD p undef = .pointer (some ⟨b, 0, none⟩))
    (hb : W.heap[b]? = some (.cells y.cells 24 (0, 0))) (hD : D ≠ b) : (results fn tmps).run Tryd.prog (W.putObj D (.deferred none)) = .ok y.val (W.putObj D (.deferred none)) :=
  results_cell_row hr tmps _ b 24 y.cells (0, 0) _ hp ((World.putObj_heap_other (fun e => hD e.symm)).trans hb) Tryd.underlying24 rfl (by kernel_rfl)
set_option maxRecDepth 100000 in
set_option maxHeartbeats 4000000 in
theorem copiedP_inW (n : Nat) (x : Pt) (w : World) (hX : IsP w x) (hsm : WdP x) :
    CallsIn Fence.wide n Tryd.prog 37 #[x.val] w fun e w' => ∃ y : Pt, e = .returned y.val ∧ PA w' y ∧ Sm y x ∧ (∀ k, inP k y → w.heap.size ≤ k) ∧ Below w.heap.size w w' := by
  have hdd : ∀ k : Nat, (Fence.wide.depth.isSome = true → 1 ≤ k) := fun k h => by cases h
  refine callsIn_of_wp_marks Tryd.func37 rfl trivial ?_ rfl
  simp only [Tryd.ntmps37, List.size_toArray, List.length_cons, List.length_nil, Nat.reduceAdd, Nat.reduceSub, Array.replicate_succ, Array.replicate_zero, List.push_toArray, List.append_toArray, List.nil_append, List.cons_append]
  gi_wp2_with (refine ⟨trivial, hdd _, ?_⟩; gi_at_call 34; refine (nodesP_in _ _ _).mono ?_; rintro e w' ⟨rfl, rfl⟩)
  obtain ⟨A, hA⟩ : ∃ A, (((w.alloc (.cells x.cells 24)).alloc (.cells Pt.nil.cells 24)).alloc (.cells #[.pointer (some ⟨w.heap.size, 0, none⟩)] 67)) = A := ⟨_, rfl⟩
  have hsz : A.heap.size = w.heap.size + 3 := by rw [← hA]; simp
  have hB : Below w.heap.size w A := by rw [← hA]; exact (((Below.refl _ w).alloc (Nat.le_refl _) _).alloc (by simp) _).alloc (by simp; omega) _
  have hnode : NodeP A w.heap.size 0 x := by
    rw [← hA]
    exact ((nodeP_new w 24 x).later ((Below.refl _ _).alloc (Nat.le_refl _) _)).later ((Below.refl _ _).alloc (Nat.le_refl _) _)
  have hfree : FreeP A w.heap.size := by
    rw [← hA]
    exact ⟨x.cells, (alloc_old (by simp; omega)).trans ((alloc_old (by simp)).trans (alloc_new _ _))⟩
  have hres : A.heap[w.heap.size + 1]? = some (.cells Pt.nil.cells 24 (0, 0)) := by
    rw [← hA, alloc_old (by simp)]
    exact alloc2_new _ _ _
  have hbp : Boxed A (w.heap.size + 1 + 1) 67 (.pointer (some ⟨w.heap.size, 0, none⟩)) := by
    have := Boxed.new ((w.alloc (.cells x.cells 24)).alloc (.cells Pt.nil.cells 24)) 67 (.pointer (some ⟨w.heap.size, 0, none⟩))
    rw [World.size_alloc, World.size_alloc, hA] at this
    exact this
  show Code.wpIn _ _ _ _ _ _ (((w.alloc (.cells x.cells 24)).alloc (.cells Pt.nil.cells 24)).alloc (.cells #[.pointer (some ⟨w.heap.size, 0, none⟩)] 67))
  rw [hA]
  have hXI := hX.inn.below hB
  refine nodesP_walk (ι := Pt) (w.heap.size + 1 + 1) w.heap.size 0 x Pt.n Pt.c Pt.size (CopPPre w.heap.size) (CopP w.heap.size) (CopPMid w.heap.size) (CopPPost w.heap.size)
    rfl rfl hbp.cell Pt.size_part (fun v b o W B hag h => h.ag hag (by omega)) (fun v b o W B B' W' hag hag' h => h.ag hag hag' (by omega)) (fun v b o W W' B hag h => h.ag hag (by omega))
    (fun W hW hs => ⟨hnode.below hW (by omega), hXI.below (hW.mono (by omega)), Nat.le_refl _, hfree.kept (T := fun k => k < A.heap.size) (Kp.of_below hW fun _ h => h) (by omega), hsm, by omega⟩)
    (fun d b o => { tmps := #[x.val, .pointer (some ⟨w.heap.size, 0, none⟩), .pointer (some ⟨w.heap.size + 1, 0, none⟩), undef, .pointer (some ⟨b, o, none⟩), .func (.func 52) #[] #[.pointer (some ⟨w.heap.size + 1 + 1, 0, none⟩)], .int .i64 d, .pointer (some ⟨b, o, none⟩), undef, undef, undef, undef, undef, undef, undef, undef, undef], defers := [] }) ?_ ?_
    (fun v b o W W' hp hg => hg.mid hp) ?_ (fun v b o W a cap i Wi h hi => h.next hi) (fun v b o W a cap Wi h => h.done) ?_
  · intro l d b o W K hK
    gi_wp2
    first | exact hK | simpa using hK
  · rintro l d b o v W ⟨p1, p2, p3, p4, p5, p6⟩ hs ⟨u2, b2⟩ ⟨u3, b3⟩
    have hnv : v.n ≤ 1759218604390 := ((wdP_eq v).1 p5).1
    have hcl := cloneP_wide v.a v.n v.cap v.c W (fun i hi => by obtain ⟨b', o', e, _, hn, _⟩ := ((pIn_eq _ _ _).1 p2).2.2 i hi; exact ⟨b', o', e, hn⟩) hnv
    have ne2 := p4.ne b2 (by decide)
    have ne3 := p4.ne b3 (by decide)
    have HP := p1
    obtain ⟨d0, d1, d2, d3, d4, d5⟩ := p1
    gi_wp2_with (refine ⟨trivial, hdd _, ?_⟩; gi_at_call 54; refine (CallsIn.inRound l (callsIn_wide.2 hcl)).mono ?_; clear hcl; rintro e W1 ⟨v1, rfl, ho, hB1⟩; obtain ⟨a1, cap1, rfl, hq1, hq2, hq3⟩ := ownP_nodes ho; clear ho; have d5' := (HP.later hB1).2.2.2.2.2; have ff := (p4.kept (T := fun k => k < W.heap.size) (Kp.of_below hB1 fun _ h => h) p4.lt).frozen (o + 5))
    have hW1 : Below w.heap.size W W1 := hB1.mono p6
    have kb : KbP b (o + 5) (fun _ => False) W W1 := .of_below _ _ _ hB1
    refine ⟨((KeepsOthers.mk hB1.size fun k o ho _ => (hB1.block k (Array.getElem?_eq_some_iff.1 ho).1).trans ho).trans (KeepsOthers.setCell _ _ _)).from _, ?_, a1, cap1, ?_, hq1, hq2, fun h0 => ?_, hW1.setCell (p := ⟨b, o + 5, none⟩) p3 _, kb.trans (KbP.set _ _ _ _ _)⟩
    · refine Kp.trans (fun k o _ _ ho => (hB1.block k (Array.getElem?_eq_some_iff.1 ho).1).trans ho) (Kp.set _ ?_)
      rintro (h | h)
      · omega
      · omega
    · obtain ⟨e0, e1, e2, e3, e4, e5⟩ := HP.later hB1
      refine ⟨?_, ?_, ?_, ?_, ?_, World.cell?_setCell_same _ _ _ e5⟩
      · exact (World.cell?_setCell_other _ _ _ _ (by intro e; injection e with _ e; omega)).trans e0
      · exact (World.cell?_setCell_other _ _ _ _ (by intro e; injection e with _ e; omega)).trans e1
      · exact (World.cell?_setCell_other _ _ _ _ (by intro e; injection e with _ e; omega)).trans e2
      · exact (World.cell?_setCell_other _ _ _ _ (by intro e; injection e with _ e; omega)).trans e3
      · exact (World.cell?_setCell_other _ _ _ _ (by intro e; injection e with _ e; omega)).trans e4
    · obtain ⟨g, eg, r1, r2, r3, r4⟩ := hq3 h0
      have hne : g ≠ b := by have := p4.lt; omega
      exact ⟨g, eg, r1, by rw [World.size_setCell]; exact r2, r3.set, fun i hi => (r4 i hi).kept (T := fun k => k ≠ b) (Kp.set _ (by simp)) hne⟩
  · rintro v b o W a cap i Wi ⟨c, h1, h2, h3, -⟩
    exact ⟨by unfold maxLen at h3; omega, h1.2.2.2.2.2⟩
  · rintro D W2 W hD hW2 hs ⟨y, h1, h2, h3, h4, h5, h6⟩ hK
    have g1 := h1.at0
    have hres2 : W.heap[w.heap.size + 1]? = some (.cells Pt.nil.cells 24 (0, 0)) := h6.oth _ _ ⟨by omega, fun h => h⟩ rfl ((hW2.block _ (by omega)).trans hres)
    have g2 : NodeP W (w.heap.size + 1) 0 Pt.nil := nodeP_box hres2
    have gf : ∀ j, W.frozen? ⟨w.heap.size + 1, j, none⟩ = false := fun j => FreeP.frozen ⟨_, hres2⟩ j
    obtain ⟨d0, d1, d2, d3, d4, d5⟩ := g1
    have g2' := g2.at0
    obtain ⟨e0, e1, e2, e3, e4, e5⟩ := g2'
    have f0 := gf 0
    have f1 := gf 1
    have f2 := gf 2
    have f3 := gf 3
    have f4 := gf 4
    have f5 := gf 5
    have hblk : (set6 W (w.heap.size + 1) y).heap[w.heap.size + 1]? = some (.cells y.cells 24 (0, 0)) := heap_set6 hres2
    have hK' : (set6 W (w.heap.size + 1) y).heap[D]? = some (.deferred (some [])) := (heap_set6_other (by omega)).trans hK
    have hBf : Below w.heap.size w (set6 W (w.heap.size + 1) y) := below_set6 ((hB.trans (hW2.mono (by omega))).trans h5) (by omega)
    have hkp : Kp (fun k => k ≠ w.heap.size + 1) W ((set6 W (w.heap.size + 1) y).putObj D (.deferred none)) := fun k ob hk ho e => by
      have hne : k ≠ D := by rintro rfl; rw [hK] at e; cases e; cases ho
      exact (World.putObj_heap_other hne).trans ((heap_set6_other hk).trans e)
    gi_wp2
    refine ⟨by simp, .inl ⟨_, _, rfl, run_takeDeferred hK', ?_⟩⟩
    exact ⟨_, end6 rfl rfl hblk (by omega), y, rfl, h2.kept hkp (fun k hk => by have := h4 k hk; omega), h3, fun k hk => by have := h4 k hk; omega, hBf.trans (belowK_b (w := w) (Nat.le_refl _) _ D _ _ (by omega) hK' rfl rfl)⟩
theorem copiedP_in (n : Nat) (x : Pt) (w : World) (hX : IsP w x) (hsm : x.size ≤ 1048576) :
    CallsIn Fence.wide n Tryd.prog 37 #[x.val] w fun e w' => ∃ y : Pt, e = .returned y.val ∧ PA w' y ∧ Sm y x ∧ (∀ k, inP k y → w.heap.size ≤ k) ∧ Below w.heap.size w w' := copiedP_inW n x w hX (wdP_of x hsm)
theorem copiedP_any (x : Pt) (w : World) (hX : IsP w x) (hsm : x.size ≤ 1048576) : Calls Tryd.prog 37 #[x.val] w fun e w' => ∃ y : Pt, e = .returned y.val ∧ PA w' y ∧ Sm y x ∧ (∀ k, inP k y → w.heap.size ≤ k) ∧ Below w.heap.size w w' :=
  (callsIn_wide (n := 3)).1 (copiedP_in 3 x w hX hsm)
end Go.Proofs.YtfnfegcjgnbgbaaDoor
namespace Go.Proofs.YtfnfegcjgnbgbaaDoor
open Go.RowKit

/-- The part that is reached by the first places of a way. -/
def atK (x : Pt) (Z : Nat → Int) : Nat → Option Pt
  | 0 => some x
  | k + 1 => match atK x Z k with
    | none => none
    | some y => if 0 ≤ Z k ∧ Z k < y.n then some (y.c (Z k).toNat) else none
theorem atK_yes {x y : Pt} {Z : Nat → Int} {k i : Nat} (h : atK x Z k = some y) (hi : Z k = i) (hn : i < y.n) : atK x Z (k + 1) = some (y.c i) := by
  simp only [atK, h]
  rw [if_pos ⟨by omega, by omega⟩, hi]
  rfl
theorem atK_no {x y : Pt} {Z : Nat → Int} {k : Nat} (h : atK x Z k = some y) (hn : ¬ (0 ≤ Z k ∧ Z k < y.n)) : atK x Z (k + 1) = none := by
  simp only [atK, h]
  rw [if_neg hn]
theorem atK_none {x : Pt} {Z : Nat → Int} {k : Nat} (h : atK x Z k = none) : ∀ m, k ≤ m → atK x Z m = none
  | 0, hm => by obtain rfl : k = 0 := by omega
                exact h
  | m + 1, hm => by
    by_cases e : k = m + 1
    · exact e ▸ h
    · simp only [atK, atK_none h m (by omega)]
theorem results_row_tmp {P : Program} {fn : Func} {p u : Tmp} {ty : TypeId} (h : fn.results = #[.cell p ty, .tmp u]) (tmps : Array Value) (w : World) (g : Nat) (t : TypeId) (cs : Array Value) (fr : Nat × Nat) (d : TypeDesc)
    (hp : tmps.getD p undef = .pointer (some ⟨g, 0, none⟩)) (hg : w.heap[g]? = some (.cells cs t fr))
    (hu : P.underlying ty = some d) (hd : (match d with | .struct _ | .array _ _ => true | _ => false) = true) (hi : (P.info? ty).map (·.size) = some cs.size) :
    (results fn tmps).run P w = .ok (.tuple #[.agg cs, tmps.getD u undef]) w := by
  rw [results_cell_tmp h, hp]
  simp [asAddr, run_loadVar_row w g t ty cs fr d hg hu hd hi]
/-- The zero pattern's cells. -/
abbrev zeroP : Array Value := #[.int .i64 0, .string ⟨#[]⟩, .string ⟨#[]⟩, .int .i64 0, .int .i64 0, .slice none 0 0]
theorem boxP_res (x : Pt) (w : World) : ∃ A, (w.alloc (.cells x.cells 24)).alloc (.cells zeroP 24) = A ∧ Below w.heap.size w A ∧ A.heap.size = w.heap.size + 2 ∧ NodeP A w.heap.size 0 x ∧ A.heap[w.heap.size + 1]? = some (.cells zeroP 24 (0, 0)) :=
  ⟨_, rfl, ((Below.refl _ w).alloc (Nat.le_refl _) _).alloc (by simp) _, by simp, (nodeP_new w _ x).later ((Below.refl _ _).alloc (Nat.le_refl _) _), alloc2_new _ _ _⟩
/-- The six cells of the box for the answer. -/
theorem zero_cells {w : World} {B : Nat} (h : w.heap[B]? = some (.cells zeroP 24 (0, 0))) : (w.cell? ⟨B, 0, none⟩ = some (.int .i64 0) ∧ w.cell? ⟨B, 1, none⟩ = some (.string ⟨#[]⟩) ∧ w.cell? ⟨B, 2, none⟩ = some (.string ⟨#[]⟩) ∧ w.cell? ⟨B, 3, none⟩ = some (.int .i64 0) ∧ w.cell? ⟨B, 4, none⟩ = some (.int .i64 0) ∧ w.cell? ⟨B, 5, none⟩ = some (.slice none 0 0)) ∧
    w.frozen? ⟨B, 0, none⟩ = false ∧ w.frozen? ⟨B, 1, none⟩ = false ∧ w.frozen? ⟨B, 2, none⟩ = false ∧ w.frozen? ⟨B, 3, none⟩ = false ∧ w.frozen? ⟨B, 4, none⟩ = false ∧ w.frozen? ⟨B, 5, none⟩ = false := by
  refine ⟨nodeP_box (x := .nil) h |>.at0, ?_, ?_, ?_, ?_, ?_, ?_⟩ <;> exact FreeP.frozen ⟨_, h⟩ _
end Go.Proofs.YtfnfegcjgnbgbaaDoor
