/-
  Conditions that lie apart: each row of parts in a block of its own, that may be written; of no function.
  expr.copied.
  pat.At and pat.Tail, and the document's.
  pat.Tail and the document's.
  pat.Same: by slices.EqualFunc, which is handed pat.Same itself.
  pat.Deep and the document's.
-/
import Derived.Test.YtfnfegcjgnbgbaaGreatDoorTPatApart
import Derived.Test.YtfnfegcjgnbgbaaGreatDoorTPatCheck
import Derived.Test.YtfnfegcjgnbgbaaGreatDoorTAbNote
import Derived.Test.YtfnfegcjgnbgbaaGreatDoorTPatRefSame
import Derived.Test.YtfnfegcjgnbgbaaGreatDoorTPatKinds
import Derived.Laws.ResultCell
import Derived.Deep.RegionWith
import Derived.Deep.DeepCutAuto
namespace Go.Proofs.YtfnfegcjgnbgbaaGreatDoor
open Go.RowKit

/-- The blocks in which a pattern's parts lie. -/
def inP (k : Nat) : Pt → Prop
  | .nil => False
  | .mk _ _ _ _ _ a n _ c => (0 < n ∧ ∃ o, a = some ⟨k, o, none⟩) ∨ ∃ i, i < n ∧ inP k (c i)
theorem inP_eq (k : Nat) (x : Pt) : inP k x ↔ (0 < x.n ∧ ∃ o, x.a = some ⟨k, o, none⟩) ∨ ∃ i, i < x.n ∧ inP k (x.c i) := by
  cases x with
  | nil => simp [inP, Pt.n]
  | mk => rfl
/-- It lies apart. -/
def PA (w : World) : Pt → Prop
  | .nil => True
  | .mk _ _ _ _ _ a n cap c => n ≤ cap ∧ cap ≤ 9223372036854775807 ∧ ∀ i, i < n → ∃ b, a = some ⟨b, 0, none⟩ ∧ FreeP w b ∧ NodeP w b (i * 6) (c i) ∧ PA w (c i) ∧ ¬ inP b (c i) ∧ ∀ j, j < n → j ≠ i → ∀ k, inP k (c i) → ¬ inP k (c j)
theorem pA_eq (w : World) (x : Pt) : PA w x ↔ x.n ≤ x.cap ∧ x.cap ≤ 9223372036854775807 ∧ ∀ i, i < x.n → ∃ b, x.a = some ⟨b, 0, none⟩ ∧ FreeP w b ∧ NodeP w b (i * 6) (x.c i) ∧ PA w (x.c i) ∧ ¬ inP b (x.c i) ∧ ∀ j, j < x.n → j ≠ i → ∀ k, inP k (x.c i) → ¬ inP k (x.c j) := by
  cases x with
  | nil => simp [PA, Pt.n, Pt.cap]
  | mk => rfl
theorem PA.is {w : World} : ∀ {x : Pt}, PA w x → IsP w x := by
  refine @(Pt.ind fun x ih hx => ?_)
  rw [pA_eq] at hx
  rw [isP_eq]
  refine ⟨hx.1, hx.2.1, fun i hi => ?_⟩
  obtain ⟨b, e, _, hn, hc, _⟩ := hx.2.2 i hi
  exact ⟨b, 0, e, by simpa using hn, ih i hi hc⟩
theorem FreeP.kept {T : Nat → Prop} {W W' : World} (h : Kp T W W') {b : Nat} (hb : T b) (hf : FreeP W b) : FreeP W' b := by
  obtain ⟨cur, hc⟩ := hf
  exact ⟨cur, h b _ hb rfl hc⟩
theorem FreeP.lt {w : World} {b : Nat} (h : FreeP w b) : b < w.heap.size := by
  obtain ⟨cur, hc⟩ := h
  exact (Array.getElem?_eq_some_iff.1 hc).1
theorem FreeP.ne {w : World} {b k : Nat} {t : TypeId} {u : Value} (h : FreeP w b) (hb : Boxed w k t u) (ht : t ≠ 24) : b ≠ k := by
  rintro rfl
  obtain ⟨cur, hc⟩ := h
  have hb' : w.heap[b]? = some (.cells #[u] t (0, 0)) := hb
  rw [hc] at hb'
  injection hb' with e
  injection e with _ e2
  exact ht e2.symm
theorem PA.kept {T : Nat → Prop} {W W' : World} (h : Kp T W W') : ∀ {x : Pt}, (∀ k, inP k x → T k) → PA W x → PA W' x := by
  refine @(Pt.ind fun x ih hT hx => ?_)
  rw [pA_eq] at hx ⊢
  refine ⟨hx.1, hx.2.1, fun i hi => ?_⟩
  obtain ⟨b, e, hf, hn, hc, hr⟩ := hx.2.2 i hi
  have hb : T b := hT b ((inP_eq _ _).2 (.inl ⟨by omega, 0, e⟩))
  exact ⟨b, e, hf.kept h hb, hn.kept h hb, ih i hi (fun k hk => hT k ((inP_eq _ _).2 (.inr ⟨i, hi, hk⟩))) hc, hr⟩
theorem inP_lt {w : World} {k : Nat} : ∀ {x : Pt}, PA w x → inP k x → k < w.heap.size := by
  refine @(Pt.ind fun x ih hx hk => ?_)
  rw [pA_eq] at hx
  rcases (inP_eq _ _).1 hk with ⟨h0, o, e⟩ | ⟨i, hi, hk⟩
  · obtain ⟨b, e', hf, _⟩ := hx.2.2 0 h0
    rw [e] at e'
    cases e'
    exact hf.lt
  · obtain ⟨b, e', _, _, hc, _⟩ := hx.2.2 i hi
    exact ih i hi hc hk
theorem PA.later {w w' : World} {x : Pt} (hB : Below w.heap.size w w') (h : PA w x) : PA w' x :=
  h.kept (T := fun k => k < w.heap.size) (Kp.of_below hB fun _ hk => hk) fun _ hk => inP_lt h hk
theorem PA.ag {B : Nat} {W A : World} (h : Ag B W A) {x : Pt} (hx : PA W x) : PA A x := hx.kept (T := fun _ => True) (fun k o _ ho e => (h.cells k o ho).2 e) fun _ _ => trivial
theorem FreeP.ag {B : Nat} {W A : World} (h : Ag B W A) {b : Nat} (hf : FreeP W b) : FreeP A b := by
  obtain ⟨cur, hc⟩ := hf
  exact ⟨cur, (h.cells _ _ rfl).2 hc⟩
theorem FreeP.set {W : World} {k b o : Nat} {v : Value} (hf : FreeP W k) : FreeP (W.setCell ⟨b, o, none⟩ v) k := by
  obtain ⟨cur, hc⟩ := hf
  by_cases e : k = b
  · subst e
    refine ⟨cur.setIfInBounds o v, ?_⟩
    simp only [World.setCell, Array.getElem?_modify, if_pos, hc]
    rfl
  · exact ⟨cur, (Below.heap_setCell W ⟨b, o, none⟩ v k e).trans hc⟩
/-- What stays: all blocks but b and those in S; in b all cells but one; what may be written. -/
structure KbP (b j0 : Nat) (S : Nat → Prop) (W W' : World) : Prop where
  oth : Kp (fun k => k ≠ b ∧ ¬ S k) W W'
  own : ∀ j u, j ≠ j0 → W.cell? ⟨b, j, none⟩ = some u → W'.cell? ⟨b, j, none⟩ = some u
  free : ∀ k, FreeP W k → FreeP W' k
  size : W.heap.size ≤ W'.heap.size
theorem KbP.node {b j0 : Nat} {S : Nat → Prop} {W W' : World} (h : KbP b j0 S W W') {k o : Nat} {x : Pt} (hk : k ≠ b) (hS : ¬ S k) (hn : NodeP W k o x) : NodeP W' k o x := hn.kept h.oth ⟨hk, hS⟩
theorem KbP.near {b j0 : Nat} {S : Nat → Prop} {W W' : World} (h : KbP b j0 S W W') {o : Nat} {x : Pt} (ho : ∀ t, t < 6 → o + t ≠ j0) (hn : NodeP W b o x) : NodeP W' b o x :=
  ⟨h.own _ _ (ho 0 (by omega)) hn.1, h.own _ _ (ho 1 (by omega)) hn.2.1, h.own _ _ (ho 2 (by omega)) hn.2.2.1, h.own _ _ (ho 3 (by omega)) hn.2.2.2.1, h.own _ _ (ho 4 (by omega)) hn.2.2.2.2.1, h.own _ _ (ho 5 (by omega)) hn.2.2.2.2.2⟩
theorem KbP.set (b j0 : Nat) (S : Nat → Prop) (W : World) (v : Value) : KbP b j0 S W (W.setCell ⟨b, j0, none⟩ v) :=
  ⟨fun k _ hk _ e => (Below.heap_setCell W ⟨b, j0, none⟩ v k hk.1).trans e, fun j u hj hc => (World.cell?_setCell_other _ _ _ _ (by intro e; cases e; exact hj rfl)).trans hc, fun _ hf => hf.set, Nat.le_of_eq (World.size_setCell ..).symm⟩
theorem KbP.of_below (b j0 : Nat) (S : Nat → Prop) {W W' : World} (h : Below W.heap.size W W') : KbP b j0 S W W' :=
  ⟨fun k o _ _ e => (h.block k (Array.getElem?_eq_some_iff.1 e).1).trans e,
   fun j u _ hc => by
    obtain ⟨o, ho, _⟩ := cells_of_cell hc
    exact (h.cell (p := ⟨b, j, none⟩) (Array.getElem?_eq_some_iff.1 ho).1).trans hc,
   fun k hf => by
    have hl := hf.lt
    obtain ⟨cur, hc⟩ := hf
    exact ⟨cur, (h.block k hl).trans hc⟩, h.size⟩
theorem KbP.refl (b j0 : Nat) (S : Nat → Prop) (W : World) : KbP b j0 S W W := .of_below b j0 S (Below.refl _ _)
theorem KbP.trans {b j0 : Nat} {S : Nat → Prop} {A B C : World} (h : KbP b j0 S A B) (g : KbP b j0 S B C) : KbP b j0 S A C :=
  ⟨h.oth.trans g.oth, fun j u hj hc => g.own j u hj (h.own j u hj hc), fun k hf => g.free k (h.free k hf), Nat.le_trans h.size g.size⟩
theorem KbP.mono {b j0 : Nat} {S S' : Nat → Prop} {W W' : World} (h : KbP b j0 S W W') (hS : ∀ k, S k → S' k) : KbP b j0 S' W W' := ⟨h.oth.mono fun k hk => ⟨hk.1, fun hs => hk.2 (hS k hs)⟩, h.own, h.free, h.size⟩
theorem KbP.ag {B b j0 : Nat} {S : Nat → Prop} {W A A' W' : World} (h : Ag B W A) (h' : Ag B A' W') (g : KbP b j0 S A A') : KbP b j0 S W W' :=
  ⟨Kp.ag h h' g.oth, fun j u hj hc => (h'.cell _).trans (g.own j u hj ((h.cell _).trans hc)), fun k hf => (g.free k (hf.ag h)).ag h', by rw [h'.size, ← h.size]; exact g.size⟩
/-- What was done to a part in block g is done to the whole, if g is among what may change or was not there. -/
theorem KbP.part {b j0 g j1 : Nat} {S S' : Nat → Prop} {W Wi W' : World} (h : KbP b j0 S W Wi) (f : KbP g j1 S' Wi W') (hg : S g ∨ W.heap.size ≤ g) (hS : ∀ k, S' k → S k ∨ W.heap.size ≤ k) (_ : b < W.heap.size) (hb1 : b ≠ g) (hb2 : ¬ S' b) : KbP b j0 S W W' := by
  refine ⟨fun k o hk ho e => ?_, fun j u hj hc => ?_, fun k hf => f.free k (h.free k hf), Nat.le_trans h.size f.size⟩
  · have hl : k < W.heap.size := (Array.getElem?_eq_some_iff.1 e).1
    refine f.oth k o ⟨?_, ?_⟩ ho (h.oth k o hk ho e)
    · rintro rfl
      rcases hg with hg | hg
      · exact hk.2 hg
      · omega
    · intro hs
      rcases hS k hs with h1 | h1
      · exact hk.2 h1
      · omega
  · exact f.oth.cell (p := ⟨b, j, none⟩) ⟨hb1, hb2⟩ (h.own j u hj hc)
/-- The same node with its parts elsewhere. -/
abbrev Pt.at (v : Pt) (a : Option Addr) (cap : Nat) (c : Nat → Pt) : Pt := .mk v.k v.s v.t v.lo v.hi a v.n cap c
theorem NodeP.at {w : World} {b o : Nat} {v : Pt} {a : Option Addr} {cap : Nat} {c c' : Nat → Pt} (h : NodeP w b o (v.at a cap c)) : NodeP w b o (v.at a cap c') := h
end Go.Proofs.YtfnfegcjgnbgbaaGreatDoor
namespace Go.Proofs.YtfnfegcjgnbgbaaGreatDoor
open Go.RowKit Go.Shelf
attribute [local go_sem] Oper.semAt_some

/-- What a round of expr.copied does: the node's parts lie in a row of their own now. -/
def CopP (N0 : Nat) (v : Pt) (b o : Nat) (W W' : World) : Prop :=
  ∃ a cap, NodeP W' b o (v.at a cap v.c) ∧ v.n ≤ cap ∧ cap ≤ maxLen ∧ (0 < v.n → ∃ g, a = some ⟨g, 0, none⟩ ∧ W.heap.size ≤ g ∧ g < W'.heap.size ∧ FreeP W' g ∧ ∀ i, i < v.n → NodeP W' g (i * 6) (v.c i)) ∧ Below N0 W W' ∧ KbP b (o + 5) (fun _ => False) W W'
/-- Ahead of it. -/
def CopPPre (N0 : Nat) (v : Pt) (b o : Nat) (W : World) : Prop := NodeP W b o v ∧ PIn N0 W v ∧ N0 ≤ b ∧ FreeP W b ∧ WdP v ∧ N0 ≤ W.heap.size
/-- The first i parts are copies. -/
def CopPMid (N0 : Nat) (v : Pt) (b o : Nat) (W : World) (a : Option Addr) (cap i : Nat) (Wi : World) : Prop :=
  ∃ c : Nat → Pt, NodeP Wi b o (v.at a cap v.c) ∧ v.n ≤ cap ∧ cap ≤ maxLen ∧ i ≤ v.n ∧
    (0 < v.n → ∃ g, a = some ⟨g, 0, none⟩ ∧ W.heap.size ≤ g ∧ g < Wi.heap.size ∧ FreeP Wi g ∧ (∀ j, j < i → NodeP Wi g (j * 6) (c j) ∧ ¬ inP g (c j)) ∧ (∀ j, i ≤ j → j < v.n → NodeP Wi g (j * 6) (v.c j))) ∧
    (∀ j, j < i → PA Wi (c j) ∧ Sm (c j) (v.c j) ∧ (∀ k, inP k (c j) → W.heap.size ≤ k ∧ k < Wi.heap.size) ∧ ∀ j', j' < i → j' ≠ j → ∀ k, inP k (c j) → ¬ inP k (c j')) ∧
    Below N0 W Wi ∧ KbP b (o + 5) (fun _ => False) W Wi ∧ PIn N0 Wi v ∧ N0 ≤ b ∧ b < W.heap.size ∧ WdP v ∧ N0 ≤ W.heap.size
/-- Behind it. -/
def CopPPost (N0 : Nat) (v : Pt) (b o : Nat) (W W' : World) : Prop :=
  ∃ y, NodeP W' b o y ∧ PA W' y ∧ Sm y v ∧ (∀ k, inP k y → W.heap.size ≤ k ∧ k < W'.heap.size) ∧ Below N0 W W' ∧ KbP b (o + 5) (fun _ => False) W W'
theorem CopPPre.ag {N0 B : Nat} {v : Pt} {b o : Nat} {W A : World} (h : Ag B W A) (hN : N0 ≤ B) (hp : CopPPre N0 v b o W) : CopPPre N0 v b o A := by
  obtain ⟨h1, h2, h3, h4, h5, h6⟩ := hp
  exact ⟨h1.ag h, h2.below (h.below hN (Below.refl _ _)), h3, h4.ag h, h5, by rw [h.size]; exact h6⟩
theorem CopP.ag {N0 B : Nat} {v : Pt} {b o : Nat} {W A A' W' : World} (h : Ag B W A) (h' : Ag B A' W') (hN : N0 ≤ B) (hp : CopP N0 v b o A A') : CopP N0 v b o W W' := by
  obtain ⟨a, cap, h1, h2, h3, h4, h5, h6⟩ := hp
  refine ⟨a, cap, h1.ag h', h2, h3, fun h0 => ?_, h.below_from hN (h'.below hN h5), KbP.ag h h' h6⟩
  obtain ⟨g, e, q1, q2, q3, q4⟩ := h4 h0
  exact ⟨g, e, by rw [← h.size]; exact q1, by rw [h'.size]; exact q2, q3.ag h', fun i hi => (q4 i hi).ag h'⟩
theorem CopPPost.ag {N0 B : Nat} {v : Pt} {b o : Nat} {W W' A : World} (h : Ag B W' A) (hN : N0 ≤ B) (hp : CopPPost N0 v b o W W') : CopPPost N0 v b o W A := by
  obtain ⟨y, h1, h2, h3, h4, h5, h6⟩ := hp
  exact ⟨y, h1.ag h, h2.ag h, h3, fun k hk => by rw [h.size]; exact h4 k hk, h.below hN h5, KbP.ag (Ag.refl B W) h h6⟩
theorem CopP.mid {N0 : Nat} {v : Pt} {b o : Nat} {W W' : World} (hp : CopPPre N0 v b o W) (h : CopP N0 v b o W W') : ∃ a cap, CopPMid N0 v b o W a cap 0 W' := by
  obtain ⟨p1, p2, p3, p4, p5, p6⟩ := hp
  obtain ⟨a, cap, h1, h2, h3, h4, h5, h6⟩ := h
  refine ⟨a, cap, v.c, h1, h2, h3, Nat.zero_le _, fun h0 => ?_, fun j hj => absurd hj (Nat.not_lt_zero _), h5, h6, p2.below h5, p3, p4.lt, p5, p6⟩
  obtain ⟨g, e, q1, q2, q3, q4⟩ := h4 h0
  exact ⟨g, e, q1, q2, q3, fun j hj => absurd hj (Nat.not_lt_zero _), fun j _ hj => q4 j hj⟩
theorem CopPMid.next {N0 : Nat} {v : Pt} {b o : Nat} {W : World} {a : Option Addr} {cap i : Nat} {Wi : World} (h : CopPMid N0 v b o W a cap i Wi) (hi : i < v.n) :
    ∃ b' o', a = some ⟨b', o', none⟩ ∧ CopPPre N0 (v.c i) b' (o' + i * 6) Wi.drew ∧ (∀ W', CopPPost N0 (v.c i) b' (o' + i * 6) Wi.drew W' → CopPMid N0 v b o W a cap (i + 1) W') := by
  obtain ⟨c, h1, h2, h3, h4, h5, h6, h7, h8, h9, h10, h11, h12, h13⟩ := h
  obtain ⟨g, e, q1, q2, q3, q4, q5⟩ := h5 (by omega)
  obtain ⟨b2, o2, _, _, hn2, hx2⟩ := ((pIn_eq _ _ _).1 h9).2.2 i hi
  refine ⟨g, 0, e, ⟨by rw [Nat.zero_add]; exact q5 i (Nat.le_refl _) hi, hx2.below (Below.refl _ _).drew, by omega, q3, ((wdP_eq v).1 h12).2 i hi, by have := h7.size; show N0 ≤ Wi.heap.size; omega⟩, ?_⟩
  rintro W' ⟨y, p1, p2, p3, p4, p5, p6⟩
  rw [Nat.zero_add] at p1 p6
  have p4' : ∀ k, inP k y → Wi.heap.size ≤ k ∧ k < W'.heap.size := p4
  have p5' : Below N0 Wi W' := ⟨p5.os, p5.tape, p5.output, p5.size, p5.block⟩
  have p6' : KbP g (i * 6 + 5) (fun _ => False) Wi W' := ⟨p6.oth, p6.own, p6.free, p6.size⟩
  clear p4 p5 p6
  have hWW := h8.size
  have hbg : b ≠ g := by omega
  obtain ⟨c', hc'⟩ : ∃ c' : Nat → Pt, c' = fun j => if j = i then y else c j := ⟨_, rfl⟩
  have ci : c' i = y := by rw [hc']; simp
  have cj : ∀ j, j < i → c' j = c j := fun j hj => by rw [hc']; simp only; rw [if_neg (by omega)]
  refine ⟨c', p6'.node hbg (fun h => h) h1, h2, h3, hi, fun _ => ⟨g, e, q1, Nat.lt_of_lt_of_le q2 p6'.size, p6'.free g q3, fun j hj => ?_, fun j hj1 hj2 => ?_⟩, fun j hj => ?_, h7.trans p5', h8.part p6' (.inr q1) (fun _ h => h.elim) h11 hbg (fun h => h), h9.below p5', h10, h11, h12, h13⟩
  · by_cases ej : j = i
    · subst ej
      rw [ci]
      exact ⟨p1, fun hg => by have := p4' g hg; omega⟩
    · rw [cj j (by omega)]
      obtain ⟨r1, r2⟩ := q4 j (by omega)
      exact ⟨p6'.near (fun t ht => by omega) r1, r2⟩
  · exact p6'.near (fun t ht => by omega) (q5 j (by omega) hj2)
  · by_cases ej : j = i
    · subst ej
      rw [ci]
      refine ⟨p2, p3, fun k hk => by have := p4' k hk; omega, fun j' hj' hne k hk => ?_⟩
      rw [cj j' (by omega)]
      intro hk'
      have := (h6 j' (by omega)).2.2.1 k hk'
      have := p4' k hk
      omega
    · rw [cj j (by omega)]
      obtain ⟨r1, r2, r3, r4⟩ := h6 j (by omega)
      refine ⟨r1.kept p6'.oth fun k hk => ⟨fun ek => ?_, fun h => h⟩, r2, fun k hk => by have := r3 k hk; have := p6'.size; omega, fun j' hj' hne k hk => ?_⟩
      · subst ek
        exact (q4 j (by omega)).2 hk
      · by_cases ej' : j' = i
        · subst ej'
          rw [ci]
          intro hk'
          have := r3 k hk
          have := p4' k hk'
          omega
        · rw [cj j' (by omega)]
          exact r4 j' (by omega) hne k hk
theorem CopPMid.done {N0 : Nat} {v : Pt} {b o : Nat} {W : World} {a : Option Addr} {cap : Nat} {Wi : World} (h : CopPMid N0 v b o W a cap v.n Wi) : CopPPost N0 v b o W Wi := by
  obtain ⟨c, h1, h2, h3, h4, h5, h6, h7, h8, h9, h10, h11, h12, h13⟩ := h
  refine ⟨v.at a cap c, h1, ?_, ?_, fun k hk => ?_, h7, h8⟩
  · refine ⟨h2, by unfold maxLen at h3; omega, fun i hi => ?_⟩
    obtain ⟨g, e, q1, q2, q3, q4, q5⟩ := h5 (by omega)
    obtain ⟨r1, r2, r3, r4⟩ := h6 i hi
    exact ⟨g, e, q3, (q4 i hi).1, r1, (q4 i hi).2, r4⟩
  · exact (sm_iff _ _).2 ⟨rfl, rfl, rfl, rfl, rfl, rfl, fun i hi => (h6 i hi).2.1⟩
  · rcases hk with ⟨h0, o', e'⟩ | ⟨i, hi, hk⟩
    · obtain ⟨g, e, q1, q2, _⟩ := h5 h0
      rw [e] at e'
      cases e'
      exact ⟨q1, q2⟩
    · exact (h6 i hi).2.2.1 k hk
/-- The six cells, one after the other. -/
abbrev set6 (W : World) (b : Nat) (y : Pt) : World :=
  (((((W.setCell ⟨b, 0, none⟩ (.int .i64 y.k)).setCell ⟨b, 1, none⟩ (.string y.s)).setCell ⟨b, 2, none⟩ (.string y.t)).setCell ⟨b, 3, none⟩ (.int .i64 y.lo)).setCell ⟨b, 4, none⟩ (.int .i64 y.hi)).setCell ⟨b, 5, none⟩ (.slice y.a y.n y.cap)
theorem heap_set6 {W : World} {b : Nat} {y z : Pt} {t : TypeId} (h : W.heap[b]? = some (.cells z.cells t (0, 0))) : (set6 W b y).heap[b]? = some (.cells y.cells t (0, 0)) := by
  rw [heap_set (heap_set (heap_set (heap_set (heap_set (heap_set h)))))]
  simp
theorem heap_set6_other {W : World} {b : Nat} {y : Pt} {k : Nat} (h : k ≠ b) : (set6 W b y).heap[k]? = W.heap[k]? :=
  (Below.heap_setCell _ _ _ _ h).trans ((Below.heap_setCell _ _ _ _ h).trans ((Below.heap_setCell _ _ _ _ h).trans ((Below.heap_setCell _ _ _ _ h).trans ((Below.heap_setCell _ _ _ _ h).trans (Below.heap_setCell _ _ _ _ h)))))
theorem below_set6 {n : Nat} {w W : World} {b : Nat} {y : Pt} (h : Below n w W) (hb : n ≤ b) : Below n w (set6 W b y) :=
  (((((h.setCell (p := ⟨b, 0, none⟩) hb _).setCell (p := ⟨b, 1, none⟩) hb _).setCell (p := ⟨b, 2, none⟩) hb _).setCell (p := ⟨b, 3, none⟩) hb _).setCell (p := ⟨b, 4, none⟩) hb _).setCell (p := ⟨b, 5, none⟩) hb _
/-- Behind the last store: the deferred list is taken, and the result's cells are read. -/
theorem end6 {fn : Func} {p : Tmp} {tmps : Array Value} {W : World} {b D : Nat} {y : Pt} (hr : fn.results = #[.cell p 24]) (hp : tmps.getD p undef = .pointer (some ⟨b, 0, none⟩))
    (hb : W.heap[b]? = some (.cells y.cells 24 (0, 0))) (hD : D ≠ b) : (results fn tmps).run Tryz.prog (W.putObj D (.deferred none)) = .ok y.val (W.putObj D (.deferred none)) :=
  results_cell_row hr tmps _ b 24 y.cells (0, 0) _ hp ((World.putObj_heap_other (fun e => hD e.symm)).trans hb) Tryz.underlying24 rfl (by kernel_rfl)
set_option maxRecDepth 100000 in
set_option maxHeartbeats 4000000 in
theorem copiedP_inW (n : Nat) (x : Pt) (w : World) (hX : IsP w x) (hsm : WdP x) :
    CallsIn Fence.wide n Tryz.prog 55 #[x.val] w fun e w' => ∃ y : Pt, e = .returned y.val ∧ PA w' y ∧ Sm y x ∧ (∀ k, inP k y → w.heap.size ≤ k) ∧ Below w.heap.size w w' := by
  have hdd : ∀ k : Nat, (Fence.wide.depth.isSome = true → 1 ≤ k) := fun k h => by cases h
  refine callsIn_of_wp_marks Tryz.func55 rfl trivial ?_ rfl
  simp only [Tryz.ntmps55, List.size_toArray, List.length_cons, List.length_nil, Nat.reduceAdd, Nat.reduceSub, Array.replicate_succ, Array.replicate_zero, List.push_toArray, List.append_toArray, List.nil_append, List.cons_append]
  gi_wp2_with (refine ⟨trivial, hdd _, ?_⟩; gi_at_call 52; refine (nodesP_in _ _ _).mono ?_; rintro e w' ⟨rfl, rfl⟩)
  obtain ⟨A, hA⟩ : ∃ A, (((w.alloc (.cells x.cells 24)).alloc (.cells Pt.nil.cells 24)).alloc (.cells #[.pointer (some ⟨w.heap.size, 0, none⟩)] 81)) = A := ⟨_, rfl⟩
  have hsz : A.heap.size = w.heap.size + 3 := by rw [← hA]; simp
  have hB : Below w.heap.size w A := by rw [← hA]; exact (((Below.refl _ w).alloc (Nat.le_refl _) _).alloc (by simp) _).alloc (by simp; omega) _
  have hnode : NodeP A w.heap.size 0 x := by
    rw [← hA]
    exact ((nodeP_new w 24 x).later ((Below.refl _ _).alloc (Nat.le_refl _) _)).later ((Below.refl _ _).alloc (Nat.le_refl _) _)
  have hfree : FreeP A w.heap.size := by
    rw [← hA]
    exact ⟨x.cells, (alloc_old (by simp; omega)).trans ((alloc_old (by simp)).trans (alloc_new _ _))⟩
  have hres : A.heap[w.heap.size + 1]? = some (.cells Pt.nil.cells 24 (0, 0)) := by
    rw [← hA, alloc_old (by simp)]
    exact alloc2_new _ _ _
  have hbp : Boxed A (w.heap.size + 1 + 1) 81 (.pointer (some ⟨w.heap.size, 0, none⟩)) := by
    have := Boxed.new ((w.alloc (.cells x.cells 24)).alloc (.cells Pt.nil.cells 24)) 81 (.pointer (some ⟨w.heap.size, 0, none⟩))
    rw [World.size_alloc, World.size_alloc, hA] at this
    exact this
  show Code.wpIn _ _ _ _ _ _ (((w.alloc (.cells x.cells 24)).alloc (.cells Pt.nil.cells 24)).alloc (.cells #[.pointer (some ⟨w.heap.size, 0, none⟩)] 81))
  rw [hA]
  have hXI := hX.inn.below hB
  refine nodesP_walk (ι := Pt) (w.heap.size + 1 + 1) w.heap.size 0 x Pt.n Pt.c Pt.size (CopPPre w.heap.size) (CopP w.heap.size) (CopPMid w.heap.size) (CopPPost w.heap.size)
    rfl rfl hbp.cell Pt.size_part (fun v b o W B hag h => h.ag hag (by omega)) (fun v b o W B B' W' hag hag' h => h.ag hag hag' (by omega)) (fun v b o W W' B hag h => h.ag hag (by omega))
    (fun W hW hs => ⟨hnode.below hW (by omega), hXI.below (hW.mono (by omega)), Nat.le_refl _, hfree.kept (T := fun k => k < A.heap.size) (Kp.of_below hW fun _ h => h) (by omega), hsm, by omega⟩)
    (fun d b o => { tmps := #[x.val, .pointer (some ⟨w.heap.size, 0, none⟩), .pointer (some ⟨w.heap.size + 1, 0, none⟩), undef, .pointer (some ⟨b, o, none⟩), .func (.func 77) #[] #[.pointer (some ⟨w.heap.size + 1 + 1, 0, none⟩)], .int .i64 d, .pointer (some ⟨b, o, none⟩), undef, undef, undef, undef, undef, undef, undef, undef, undef], defers := [] }) ?_ ?_
    (fun v b o W W' hp hg => hg.mid hp) ?_ (fun v b o W a cap i Wi h hi => h.next hi) (fun v b o W a cap Wi h => h.done) ?_
  · intro l d b o W K hK
    gi_wp2
    first | exact hK | simpa using hK
  · rintro l d b o v W ⟨p1, p2, p3, p4, p5, p6⟩ hs ⟨u2, b2⟩ ⟨u3, b3⟩
    have hnv : v.n ≤ 1759218604390 := ((wdP_eq v).1 p5).1
    have hcl := cloneP_wide v.a v.n v.cap v.c W (fun i hi => by obtain ⟨b', o', e, _, hn, _⟩ := ((pIn_eq _ _ _).1 p2).2.2 i hi; exact ⟨b', o', e, hn⟩) hnv
    have ne2 := p4.ne b2 (by decide)
    have ne3 := p4.ne b3 (by decide)
    have HP := p1
    obtain ⟨d0, d1, d2, d3, d4, d5⟩ := p1
    gi_wp2_with (refine ⟨trivial, hdd _, ?_⟩; gi_at_call 79; refine (CallsIn.inRound l (callsIn_wide.2 hcl)).mono ?_; clear hcl; rintro e W1 ⟨v1, rfl, ho, hB1⟩; obtain ⟨a1, cap1, rfl, hq1, hq2, hq3⟩ := ownP_nodes ho; clear ho; have d5' := (HP.later hB1).2.2.2.2.2; have ff := (p4.kept (T := fun k => k < W.heap.size) (Kp.of_below hB1 fun _ h => h) p4.lt).frozen (o + 5))
    have hW1 : Below w.heap.size W W1 := hB1.mono p6
    have kb : KbP b (o + 5) (fun _ => False) W W1 := .of_below _ _ _ hB1
    refine ⟨((KeepsOthers.mk hB1.size fun k o ho _ => (hB1.block k (Array.getElem?_eq_some_iff.1 ho).1).trans ho).trans (KeepsOthers.setCell _ _ _)).from _, ?_, a1, cap1, ?_, hq1, hq2, fun h0 => ?_, hW1.setCell (p := ⟨b, o + 5, none⟩) p3 _, kb.trans (KbP.set _ _ _ _ _)⟩
    · refine Kp.trans (fun k o _ _ ho => (hB1.block k (Array.getElem?_eq_some_iff.1 ho).1).trans ho) (Kp.set _ ?_)
      rintro (h | h)
      · omega
      · omega
    · obtain ⟨e0, e1, e2, e3, e4, e5⟩ := HP.later hB1
      refine ⟨?_, ?_, ?_, ?_, ?_, World.cell?_setCell_same _ _ _ e5⟩
      · exact (World.cell?_setCell_other _ _ _ _ (by intro e; injection e with _ e; omega)).trans e0
      · exact (World.cell?_setCell_other _ _ _ _ (by intro e; injection e with _ e; omega)).trans e1
      · exact (World.cell?_setCell_other _ _ _ _ (by intro e; injection e with _ e; omega)).trans e2
      · exact (World.cell?_setCell_other _ _ _ _ (by intro e; injection e with _ e; omega)).trans e3
      · exact (World.cell?_setCell_other _ _ _ _ (by intro e; injection e with _ e; omega)).trans e4
    · obtain ⟨g, eg, r1, r2, r3, r4⟩ := hq3 h0
      have hne : g ≠ b := by have := p4.lt; omega
      exact ⟨g, eg, r1, by rw [World.size_setCell]; exact r2, r3.set, fun i hi => (r4 i hi).kept (T := fun k => k ≠ b) (Kp.set _ (by simp)) hne⟩
  · rintro v b o W a cap i Wi ⟨c, h1, h2, h3, -⟩
    exact ⟨by unfold maxLen at h3; omega, h1.2.2.2.2.2⟩
  · rintro D W2 W hD hW2 hs ⟨y, h1, h2, h3, h4, h5, h6⟩ hK
    have g1 := h1.at0
    have hres2 : W.heap[w.heap.size + 1]? = some (.cells Pt.nil.cells 24 (0, 0)) := h6.oth _ _ ⟨by omega, fun h => h⟩ rfl ((hW2.block _ (by omega)).trans hres)
    have g2 : NodeP W (w.heap.size + 1) 0 Pt.nil := nodeP_box hres2
    have gf : ∀ j, W.frozen? ⟨w.heap.size + 1, j, none⟩ = false := fun j => FreeP.frozen ⟨_, hres2⟩ j
    obtain ⟨d0, d1, d2, d3, d4, d5⟩ := g1
    have g2' := g2.at0
    obtain ⟨e0, e1, e2, e3, e4, e5⟩ := g2'
    have f0 := gf 0
    have f1 := gf 1
    have f2 := gf 2
    have f3 := gf 3
    have f4 := gf 4
    have f5 := gf 5
    have hblk : (set6 W (w.heap.size + 1) y).heap[w.heap.size + 1]? = some (.cells y.cells 24 (0, 0)) := heap_set6 hres2
    have hK' : (set6 W (w.heap.size + 1) y).heap[D]? = some (.deferred (some [])) := (heap_set6_other (by omega)).trans hK
    have hBf : Below w.heap.size w (set6 W (w.heap.size + 1) y) := below_set6 ((hB.trans (hW2.mono (by omega))).trans h5) (by omega)
    have hkp : Kp (fun k => k ≠ w.heap.size + 1) W ((set6 W (w.heap.size + 1) y).putObj D (.deferred none)) := fun k ob hk ho e => by
      have hne : k ≠ D := by rintro rfl; rw [hK] at e; cases e; cases ho
      exact (World.putObj_heap_other hne).trans ((heap_set6_other hk).trans e)
    gi_wp2
    refine ⟨by simp, .inl ⟨_, _, rfl, run_takeDeferred hK', ?_⟩⟩
    exact ⟨_, end6 rfl rfl hblk (by omega), y, rfl, h2.kept hkp (fun k hk => by have := h4 k hk; omega), h3, fun k hk => by have := h4 k hk; omega, hBf.trans (belowK_b (w := w) (Nat.le_refl _) _ D _ _ (by omega) hK' rfl rfl)⟩
theorem copiedP_in (n : Nat) (x : Pt) (w : World) (hX : IsP w x) (hsm : x.size ≤ 1048576) :
    CallsIn Fence.wide n Tryz.prog 55 #[x.val] w fun e w' => ∃ y : Pt, e = .returned y.val ∧ PA w' y ∧ Sm y x ∧ (∀ k, inP k y → w.heap.size ≤ k) ∧ Below w.heap.size w w' := copiedP_inW n x w hX (wdP_of x hsm)
theorem copiedP_any (x : Pt) (w : World) (hX : IsP w x) (hsm : x.size ≤ 1048576) : Calls Tryz.prog 55 #[x.val] w fun e w' => ∃ y : Pt, e = .returned y.val ∧ PA w' y ∧ Sm y x ∧ (∀ k, inP k y → w.heap.size ≤ k) ∧ Below w.heap.size w w' :=
  (callsIn_wide (n := 3)).1 (copiedP_in 3 x w hX hsm)
end Go.Proofs.YtfnfegcjgnbgbaaGreatDoor
namespace Go.Proofs.YtfnfegcjgnbgbaaGreatDoor
open Go.RowKit

theorem results_row_tmp {P : Program} {fn : Func} {p u : Tmp} {ty : TypeId} (h : fn.results = #[.cell p ty, .tmp u]) (tmps : Array Value) (w : World) (g : Nat) (t : TypeId) (cs : Array Value) (fr : Nat × Nat) (d : TypeDesc)
    (hp : tmps.getD p undef = .pointer (some ⟨g, 0, none⟩)) (hg : w.heap[g]? = some (.cells cs t fr))
    (hu : P.underlying ty = some d) (hd : (match d with | .struct _ | .array _ _ => true | _ => false) = true) (hi : (P.info? ty).map (·.size) = some cs.size) :
    (results fn tmps).run P w = .ok (.tuple #[.agg cs, tmps.getD u undef]) w := by
  rw [results_cell_tmp h, hp]
  simp [asAddr, run_loadVar_row w g t ty cs fr d hg hu hd hi]
/-- The zero pattern's cells. -/
abbrev zeroP : Array Value := #[.int .i64 0, .string ⟨#[]⟩, .string ⟨#[]⟩, .int .i64 0, .int .i64 0, .slice none 0 0]
theorem boxP_res (x : Pt) (w : World) : ∃ A, (w.alloc (.cells x.cells 24)).alloc (.cells zeroP 24) = A ∧ Below w.heap.size w A ∧ A.heap.size = w.heap.size + 2 ∧ NodeP A w.heap.size 0 x ∧ A.heap[w.heap.size + 1]? = some (.cells zeroP 24 (0, 0)) :=
  ⟨_, rfl, ((Below.refl _ w).alloc (Nat.le_refl _) _).alloc (by simp) _, by simp, (nodeP_new w _ x).later ((Below.refl _ _).alloc (Nat.le_refl _) _), alloc2_new _ _ _⟩
/-- The six cells of the box for the answer. -/
theorem zero_cells {w : World} {B : Nat} (h : w.heap[B]? = some (.cells zeroP 24 (0, 0))) : (w.cell? ⟨B, 0, none⟩ = some (.int .i64 0) ∧ w.cell? ⟨B, 1, none⟩ = some (.string ⟨#[]⟩) ∧ w.cell? ⟨B, 2, none⟩ = some (.string ⟨#[]⟩) ∧ w.cell? ⟨B, 3, none⟩ = some (.int .i64 0) ∧ w.cell? ⟨B, 4, none⟩ = some (.int .i64 0) ∧ w.cell? ⟨B, 5, none⟩ = some (.slice none 0 0)) ∧
    w.frozen? ⟨B, 0, none⟩ = false ∧ w.frozen? ⟨B, 1, none⟩ = false ∧ w.frozen? ⟨B, 2, none⟩ = false ∧ w.frozen? ⟨B, 3, none⟩ = false ∧ w.frozen? ⟨B, 4, none⟩ = false ∧ w.frozen? ⟨B, 5, none⟩ = false := by
  refine ⟨nodeP_box (x := .nil) h |>.at0, ?_, ?_, ?_, ?_, ?_, ?_⟩ <;> exact FreeP.frozen ⟨_, h⟩ _
end Go.Proofs.YtfnfegcjgnbgbaaGreatDoor
namespace Go.Proofs.YtfnfegcjgnbgbaaGreatDoor
open Go.RowKit

/-- The PNot at the end, if there is one. -/
def HasTail (x : Pt) (q : Nat) : Prop := x.k = 2 ∧ x.n = q + 1 ∧ (x.c q).k = 6
theorem noTail {x : Pt} (h : ∀ q, ¬ HasTail x q) : ¬ x.k = 2 ∨ (x.k = 2 ∧ x.n = 0) ∨ (x.k = 2 ∧ ∃ q, x.n = q + 1 ∧ ¬ (x.c q).k = 6) := by
  by_cases h1 : x.k = 2
  · by_cases h2 : x.n = 0
    · exact .inr (.inl ⟨h1, h2⟩)
    · exact .inr (.inr ⟨h1, x.n - 1, by omega, fun h3 => h (x.n - 1) ⟨h1, by omega, h3⟩⟩)
  · exact .inl h1
set_option maxRecDepth 100000 in
set_option maxHeartbeats 4000000 in
theorem tail_yes (x : Pt) (q : Nat) (w : World) (hX : IsP w x) (hsm : x.size ≤ 1048576) (h : HasTail x q) : Calls Tryz.prog 28 #[x.val] w fun e w' => ∃ y : Pt, e = .returned (.tuple #[y.val, .bool true]) ∧ PA w' y ∧ Sm y (x.c q) ∧ (∀ k, inP k y → w.heap.size ≤ k) ∧ Below w.heap.size w w' := by
  obtain ⟨A, hA, hB, hs, hn, hr⟩ := boxP_res x w
  obtain ⟨a0, a1, a2, a3, a4, a5⟩ := hn.at0
  have HB : Hid (Below w.heap.size w A) := hB
  have HR : Hid (A.heap[w.heap.size + 1]? = some (.cells zeroP 24 (0, 0))) := hr
  obtain ⟨h1, h2, h3⟩ := h
  have hlen := hX.len
  obtain ⟨b, o, ea, hm, hx⟩ := (hX.later hB).part (show q < x.n by omega)
  have hx0 : IsP w (x.c q) := by obtain ⟨_, _, _, _, h⟩ := hX.part (show q < x.n by omega); exact h
  have HX0 : Hid (IsP w (x.c q)) := hx0
  have hc := copiedP_any (x.c q) A hx (by have := x.size_part q (by omega); omega)
  rw [ea] at a5
  have hq : ((x.n : Nat) : Int) - 1 = (q : Int) := by omega
  have hlt : q < x.n := by omega
  have hpos : 0 < x.n := by omega
  have hnz : (((x.n : Nat) : Int) == 0) = false := by simp; omega
  obtain ⟨d0, d1, d2, d3, d4, d5⟩ := hm
  have t1 : (x.k == 2) = true := by simp [h1]
  have t3 : ((x.c q).k == 6) = true := by simp [h3]
  obtain ⟨⟨g0, g1, g2, g3, g4, g5⟩, f0, f1, f2, f3, f4, f5⟩ := zero_cells HR.out
  clear hB hn hr hX hx hx0 h1 h2 h3 ea g0 g1 g2 g3 g4 g5 f0 f1 f2 f3 f4 f5
  go_enter Tryz.func28, Tryz.ntmps28
  go_wp2_with (go_at_call 55; refine hc.mono ?_; clear hc; rintro e w2 ⟨y, rfl, hPA, hSm, hin, hB2⟩; have hr2 := (hB2.block (w.heap.size + 1) (by omega)).trans HR.out; obtain ⟨⟨g0, g1, g2, g3, g4, g5⟩, f0, f1, f2, f3, f4, f5⟩ := zero_cells hr2)
  have hblk : (set6 w2 (w.heap.size + 1) y).heap[w.heap.size + 1]? = some (.cells y.cells 24 (0, 0)) := heap_set6 (z := .nil) hr2
  refine bodyPost_ret (results_row_tmp rfl _ _ (w.heap.size + 1) 24 _ (0, 0) _ rfl hblk Tryz.underlying24 rfl (by kernel_rfl)) rfl ?_
  exact ⟨y, rfl, hPA.kept (T := fun k => k ≠ w.heap.size + 1) (fun k o hk _ e => (heap_set6_other hk).trans e) (fun k hk => by have := hin k hk; omega), hSm, fun k hk => by have := hin k hk; omega, below_set6 (HB.out.trans (hB2.mono (by omega))) (by omega)⟩
set_option maxRecDepth 100000 in
set_option maxHeartbeats 4000000 in
theorem tail_no (x : Pt) (w : World) (hX : IsP w x) (h : ∀ q, ¬ HasTail x q) : Calls Tryz.prog 28 #[x.val] w fun e w' => e = .returned (.tuple #[.agg zeroP, .bool false]) ∧ Below w.heap.size w w' := by
  obtain ⟨A, hA, hB, hs, hn, hr⟩ := boxP_res x w
  obtain ⟨a0, a1, a2, a3, a4, a5⟩ := hn.at0
  have HB : Hid (Below w.heap.size w A) := hB
  have HR : Hid (A.heap[w.heap.size + 1]? = some (.cells zeroP 24 (0, 0))) := hr
  have hlen := hX.len
  have HX : Hid (IsP A x) := hX.later hB
  obtain ⟨⟨g0, g1, g2, g3, g4, g5⟩, f0, f1, f2, f3, f4, f5⟩ := zero_cells HR.out
  have HBL : Hid ((set6 A (w.heap.size + 1) .nil).heap[w.heap.size + 1]? = some (.cells zeroP 24 (0, 0))) := heap_set6 (z := .nil) HR.out
  have HBE : Hid (Below w.heap.size w (set6 A (w.heap.size + 1) .nil)) := below_set6 HB.out (by omega)
  clear hB hn hr hX hs
  rcases noTail h with h1 | ⟨h1, h2⟩ | ⟨h1, q, h2, h3⟩
  · have t1 : (x.k == 2) = false := by simp [h1]
    clear h h1
    go_enter Tryz.func28, Tryz.ntmps28
    go_wp2
    refine bodyPost_ret (results_row_tmp rfl _ _ (w.heap.size + 1) 24 _ (0, 0) _ rfl HBL.out Tryz.underlying24 rfl (by kernel_rfl)) rfl ?_
    exact ⟨rfl, HBE.out⟩
  · have t1 : (x.k == 2) = true := by simp [h1]
    rw [h2] at a5
    clear h h1 h2
    go_enter Tryz.func28, Tryz.ntmps28
    go_wp2
    refine bodyPost_ret (results_row_tmp rfl _ _ (w.heap.size + 1) 24 _ (0, 0) _ rfl HBL.out Tryz.underlying24 rfl (by kernel_rfl)) rfl ?_
    exact ⟨rfl, HBE.out⟩
  · have t1 : (x.k == 2) = true := by simp [h1]
    have t3 : ((x.c q).k == 6) = false := by simp [h3]
    obtain ⟨b, o, ea, hm, -⟩ := HX.out.part (show q < x.n by omega)
    rw [ea] at a5
    have hq : ((x.n : Nat) : Int) - 1 = (q : Int) := by omega
    have hlt : q < x.n := by omega
    have hpos : 0 < x.n := by omega
    have hnz : (((x.n : Nat) : Int) == 0) = false := by simp; omega
    obtain ⟨d0, d1, d2, d3, d4, d5⟩ := hm
    clear h h1 h2 h3 ea
    go_enter Tryz.func28, Tryz.ntmps28
    go_upto_region 4 with (fail)
    clear d0 d1 d2 d3 d4 d5 a0 a1 a2 a3 a4 a5 hq hlt hpos hnz t1 t3
    go_wp2
    refine bodyPost_ret (results_row_tmp rfl _ _ (w.heap.size + 1) 24 _ (0, 0) _ rfl HBL.out Tryz.underlying24 rfl (by kernel_rfl)) rfl ?_
    exact ⟨rfl, HBE.out⟩
end Go.Proofs.YtfnfegcjgnbgbaaGreatDoor
namespace Go.Proofs.YtfnfegcjgnbgbaaGreatDoor
open Go.RowKit

set_option maxRecDepth 100000 in
set_option maxHeartbeats 4000000 in
theorem equalFunc_no (a a' : Option Addr) (n m cap cap' : Nat) (w : World) (hne : ¬ n = m) :
    Calls Tryz.prog 80 #[.slice a n cap, .slice a' m cap', .func (.func 58) #[] #[]] w fun e w' => e = .returned (.bool false) ∧ Below w.heap.size w w' := by
  have t := ne_no (show ¬ ((n : Nat) : Int) = ((m : Nat) : Int) by omega)
  clear hne
  go_enter Tryz.func80, Tryz.ntmps80
  go_wp2
  go_ret
  exact ⟨rfl, Below.refl _ _⟩
set_option maxRecDepth 100000 in
set_option maxHeartbeats 4000000 in
theorem equalFunc_any (a a' : Option Addr) (n cap cap' : Nat) (c c' : Nat → Pt) (w : World) (hn : n ≤ 9223372036854775807) (h1 : ∀ i, i < n → ∃ b o, a = some ⟨b, o, none⟩ ∧ NodeP w b (o + i * 6) (c i)) (h2 : ∀ i, i < n → ∃ b o, a' = some ⟨b, o, none⟩ ∧ NodeP w b (o + i * 6) (c' i))
    (hC : ∀ i, i < n → ∀ W, Below w.heap.size w W → Calls Tryz.prog 58 #[(c i).val, (c' i).val] W fun e w' => e = .returned (.bool (sameP (c i) (c' i))) ∧ Below W.heap.size W w') :
    Calls Tryz.prog 80 #[.slice a n cap, .slice a' n cap', .func (.func 58) #[] #[]] w fun e w' => e = .returned (.bool (allN (fun i => sameP (c i) (c' i)) n)) ∧ Below w.heap.size w w' := by
  obtain ⟨r, hr⟩ : ∃ r, r = allN (fun i => sameP (c i) (c' i)) n := ⟨_, rfl⟩
  have HF : Hid (∀ i, i < n → sameP (c i) (c' i) = false → r = false) := fun i hi h => hr.trans (allN_false hi h)
  have HT : Hid ((∀ i, i < n → sameP (c i) (c' i) = true) → r = true) := fun h => hr.trans (allN_true.2 h)
  rw [← hr]
  have HC : Hid (∀ i, i < n → ∀ W, Below w.heap.size w W → Calls Tryz.prog 58 #[(c i).val, (c' i).val] W fun e w' => e = .returned (.bool (sameP (c i) (c' i))) ∧ Below W.heap.size W w') := hC
  have H1 : Hid (∀ i, i < n → ∃ b o, a = some ⟨b, o, none⟩ ∧ NodeP w b (o + i * 6) (c i)) := h1
  have H2 : Hid (∀ i, i < n → ∃ b o, a' = some ⟨b, o, none⟩ ∧ NodeP w b (o + i * 6) (c' i)) := h2
  clear hr hC h1 h2
  go_enter Tryz.func80, Tryz.ntmps80
  go_wp2
  go_loopw [17] (fun u wr => ∃ k : Nat, k ≤ n ∧ u = .int .i64 k ∧ Hid (∀ i, i < k → sameP (c i) (c' i) = true) ∧ Below w.heap.size w wr) (fun u _ => n - (intOf u).toNat)
  case atStart => exact ⟨0, Nat.zero_le _, rfl, fun i hi => absurd hi (Nat.not_lt_zero _), Below.refl _ _⟩
  case round =>
    obtain ⟨k, hk, rfl, HK, hB⟩ := hrel
    by_cases hkn : k < n
    · obtain ⟨b, o, rfl, hn1⟩ := H1.out k hkn
      obtain ⟨b', o', rfl, hn2⟩ := H2.out k hkn
      obtain ⟨A, hA, hB2, hs, hm1, hm2⟩ := boxP_two (c k) (c' k) wr
      have hlt := hn1.lt
      have hlt2 := hn2.lt
      have q2 : NodeP (wr.alloc (.cells (c k).cells 24)) b' (o' + k * 6) (c' k) := (hn2.later hB).later ((Below.refl _ _).alloc (Nat.le_refl _) _)
      obtain ⟨d0, d1, d2, d3, d4, d5⟩ := hn1.later hB
      obtain ⟨f0, f1, f2, f3, f4, f5⟩ := q2
      obtain ⟨g0, g1, g2, g3, g4, g5⟩ := hm1.at0
      obtain ⟨i0, i1, i2, i3, i4, i5⟩ := hm2.at0
      have hc := HC.out k hkn A (hB.trans (hB2.mono hB.size))
      have HKN : Hid (k < n) := hkn
      have HB : Hid (Below w.heap.size w A) := hB.trans (hB2.mono hB.size)
      obtain ⟨q, hq⟩ : ∃ q, q = sameP (c k) (c' k) := ⟨_, rfl⟩
      rw [← hq] at hc
      have HE : Hid (q = sameP (c k) (c' k)) := hq
      clear hq hn1 hn2 hm1 hm2 hB2 hs hB
      go_wp2_with (go_at_call 58; refine hc.mono ?_; clear hc; rintro e w2 ⟨rfl, hB2⟩; cases q)
      all_goals go_wp2
      all_goals first
        | (go_ret; exact ⟨by rw [HF.out k HKN.out HE.out.symm]; rfl, HB.out.trans (hB2.mono HB.out.size)⟩)
        | (go_roundw
           case rel =>
             refine ⟨k + 1, HKN.out, by go_num, fun i hi => ?_, HB.out.trans (hB2.mono HB.out.size)⟩
             by_cases e : i = k
             · rw [e]; exact HE.out.symm
             · exact HK.out i (by omega)
           case measure => have := HKN.out; simp [intOf]; omega)
    · obtain rfl : k = n := by omega
      go_wp2
      go_ret
      exact ⟨by rw [HT.out HK.out]; rfl, hB⟩
set_option maxRecDepth 100000 in
set_option maxHeartbeats 8000000 in
theorem samePat_any : ∀ (x y : Pt) (w : World), IsP w x → IsP w y → Calls Tryz.prog 58 #[x.val, y.val] w fun e w' => e = .returned (.bool (sameP x y)) ∧ Below w.heap.size w w' := by
  refine Pt.ind fun x ih y w hX hY => ?_
  obtain ⟨A, hA, hB, hs, hn, hm⟩ := boxP_two x y w
  obtain ⟨a0, a1, a2, a3, a4, a5⟩ := hn.at0
  obtain ⟨b0, b1, b2, b3, b4, b5⟩ := hm.at0
  have HB : Hid (Below w.heap.size w A) := hB
  have EQ : Hid (∀ d, Below A.heap.size A d → Calls Tryz.prog 80 #[.slice x.a x.n x.cap, .slice y.a y.n y.cap, .func (.func 58) #[] #[]] d fun e w' => e = .returned (.bool (decide (x.n = y.n) && allN (fun i => sameP (x.c i) (y.c i)) x.n)) ∧ Below d.heap.size d w') := fun d hd => by
    have hw := hB.trans (hd.mono (by omega))
    by_cases e : x.n = y.n
    · rw [decide_eq_true e, Bool.true_and, ← e]
      refine equalFunc_any x.a y.a x.n x.cap y.cap x.c y.c d hX.len (fun i hi => ?_) (fun i hi => ?_) fun i hi W hW => ?_
      · obtain ⟨b, o, ea, h1, _⟩ := (hX.later hw).part hi
        exact ⟨b, o, ea, h1⟩
      · obtain ⟨b, o, ea, h1, _⟩ := (hY.later hw).part (e ▸ hi)
        exact ⟨b, o, ea, h1⟩
      · obtain ⟨_, _, _, _, h1⟩ := (hX.later (hw.trans (hW.mono hw.size))).part hi
        obtain ⟨_, _, _, _, h2⟩ := (hY.later (hw.trans (hW.mono hw.size))).part (e ▸ hi)
        exact ih i hi _ W h1 h2
    · rw [decide_eq_false e, Bool.false_and]
      exact equalFunc_no x.a y.a x.n y.n x.cap y.cap d e
  obtain ⟨q, hq⟩ : ∃ q, q = (decide (x.n = y.n) && allN (fun i => sameP (x.c i) (y.c i)) x.n) := ⟨_, rfl⟩
  rw [← hq] at EQ
  have HR : Hid (sameP x y = (decide (x.k = y.k) && (decide (x.s = y.s) && (decide (x.t = y.t) && (decide (x.lo = y.lo) && (decide (x.hi = y.hi) && q)))))) := by show _ = _; rw [hq]; exact sameP_eq x y
  clear ih hX hY hB hn hm hq
  generalize sameP x y = r at HR ⊢
  by_cases e1 : x.k = y.k
  · by_cases e2 : x.s = y.s
    · by_cases e3 : x.t = y.t
      · by_cases e4 : x.lo = y.lo
        · by_cases e5 : x.hi = y.hi
          · have HR' : Hid (r = q) := by show r = q; rw [HR.out, decide_eq_true e1, decide_eq_true e2, decide_eq_true e3, decide_eq_true e4, decide_eq_true e5]; simp
            have t1 : (x.k == y.k) = true := by simpa using e1
            have t2 := str_yes e2
            have t3 := str_yes e3
            have t4 : (x.lo == y.lo) = true := by simpa using e4
            have t5 : (x.hi == y.hi) = true := by simpa using e5
            clear e1 e2 e3 e4 e5 HR
            go_enter Tryz.func58, Tryz.ntmps58
            go_wp2_with (go_at_call 80; refine (EQ.out _ (Below.refl _ _)).mono ?_; clear EQ; rintro e w2 ⟨rfl, hB2⟩)
            go_ret
            exact ⟨by rw [HR'.out]; rfl, HB.out.trans (hB2.mono (by omega))⟩
          · have HR' : Hid (r = false) := by show r = false; rw [HR.out, decide_eq_true e1, decide_eq_true e2, decide_eq_true e3, decide_eq_true e4, decide_eq_false e5]; simp
            have t1 : (x.k == y.k) = true := by simpa using e1
            have t2 := str_yes e2
            have t3 := str_yes e3
            have t4 : (x.lo == y.lo) = true := by simpa using e4
            have t5 : (x.hi == y.hi) = false := by simpa using e5
            clear e1 e2 e3 e4 e5 HR EQ
            go_enter Tryz.func58, Tryz.ntmps58
            go_wp2
            go_ret
            exact ⟨by rw [HR'.out]; rfl, HB.out⟩
        · have HR' : Hid (r = false) := by show r = false; rw [HR.out, decide_eq_true e1, decide_eq_true e2, decide_eq_true e3, decide_eq_false e4]; simp
          have t1 : (x.k == y.k) = true := by simpa using e1
          have t2 := str_yes e2
          have t3 := str_yes e3
          have t4 : (x.lo == y.lo) = false := by simpa using e4
          clear e1 e2 e3 e4 HR EQ
          go_enter Tryz.func58, Tryz.ntmps58
          go_wp2
          go_ret
          exact ⟨by rw [HR'.out]; rfl, HB.out⟩
      · have HR' : Hid (r = false) := by show r = false; rw [HR.out, decide_eq_true e1, decide_eq_true e2, decide_eq_false e3]; simp
        have t1 : (x.k == y.k) = true := by simpa using e1
        have t2 := str_yes e2
        have t3 := str_not e3
        clear e1 e2 e3 HR EQ
        go_enter Tryz.func58, Tryz.ntmps58
        go_wp2
        go_ret
        exact ⟨by rw [HR'.out]; rfl, HB.out⟩
    · have HR' : Hid (r = false) := by show r = false; rw [HR.out, decide_eq_true e1, decide_eq_false e2]; simp
      have t1 : (x.k == y.k) = true := by simpa using e1
      have t2 := str_not e2
      clear e1 e2 HR EQ
      go_enter Tryz.func58, Tryz.ntmps58
      go_wp2
      go_ret
      exact ⟨by rw [HR'.out]; rfl, HB.out⟩
  · have HR' : Hid (r = false) := by show r = false; rw [HR.out, decide_eq_false e1]; simp
    have t1 : (x.k == y.k) = false := by simpa using e1
    clear e1 HR EQ
    go_enter Tryz.func58, Tryz.ntmps58
    go_wp2
    go_ret
    exact ⟨by rw [HR'.out]; rfl, HB.out⟩
end Go.Proofs.YtfnfegcjgnbgbaaGreatDoor
namespace Go.Proofs.YtfnfegcjgnbgbaaGreatDoor
open Go.RowKit Go.Shelf
attribute [local go_sem] Oper.semAt_some

set_option maxRecDepth 100000 in
set_option maxHeartbeats 4000000 in
theorem refDeepP_any : ∀ (x : Pt) (w : World), IsP w x → x.size ≤ 1048576 → Calls Tryz.prog 81 #[x.val] w fun e w' => e = .returned (.int .i64 (x.deep : Int)) ∧ Below w.heap.size w w' := by
  refine Pt.ind fun x ih w hX hsm => ?_
  have HR : Hid (x.deep = maxN (fun i => (x.c i).deep) x.n + 1) := x.deep_eq
  have HD : Hid (x.deep ≤ 1048576) := Nat.le_trans x.deep_size hsm
  have HI : Hid (∀ i, i < x.n → ∀ w, IsP w (x.c i) → Calls Tryz.prog 81 #[(x.c i).val] w fun e w' => e = .returned (.int .i64 ((x.c i).deep : Int)) ∧ Below w.heap.size w w') := fun i hi w h => ih i hi w h (by have := x.size_part i hi; omega)
  have HX : Hid (IsP w x) := hX
  have hlen := hX.len
  obtain ⟨A, hA⟩ : ∃ A, w.alloc (.cells x.cells 24) = A := ⟨_, rfl⟩
  have HB : Hid (Below w.heap.size w A) := by show Below _ _ _; rw [← hA]; exact (Below.refl _ w).alloc (Nat.le_refl _) _
  have HN : Hid (NodeP A w.heap.size 0 x) := by show NodeP _ _ _ _; rw [← hA]; exact nodeP_new w _ x
  have hs : A.heap.size = w.heap.size + 1 := by rw [← hA]; simp
  clear ih hX hsm
  go_enter Tryz.func81, Tryz.ntmps81
  go_wp2_with fail
  go_loopw [3, 4] (fun u v wr => ∃ k m : Nat, k ≤ x.n ∧ u = .int .i64 (m : Int) ∧ Hid (m = maxN (fun i => (x.c i).deep) k) ∧ v = .int .i64 k ∧ Below A.heap.size A wr) (fun _ v _ => x.n - (intOf v).toNat)
  case atStart => exact ⟨0, 0, Nat.zero_le _, rfl, rfl, rfl, Below.refl _ _⟩
  case round =>
    obtain ⟨k, m, hk, rfl, Hm, rfl, hB⟩ := hrel
    obtain ⟨-, -, -, -, -, c6⟩ := (nodeP_on HN.out (hB.mono (by omega))).at0
    have hw := HB.out.trans (hB.mono (by omega))
    by_cases hkn : k < x.n
    · obtain ⟨b, o, ea, hn, hx⟩ := (HX.out.later hw).part hkn
      rw [ea] at c6
      obtain ⟨d0, d1, d2, d3, d4, d5⟩ := hn
      have hc := HI.out k hkn wr hx
      obtain ⟨q, hq⟩ : ∃ q, q = (x.c k).deep := ⟨_, rfl⟩
      rw [← hq] at hc
      have HQ : Hid (q = (x.c k).deep) := hq
      have HK : Hid (k < x.n) := hkn
      clear hx hw hq
      go_wp2_with (go_at_call 81; refine hc.mono ?_; rintro e w2 ⟨rfl, hB2⟩)
      refine ⟨⟨k + 1, max m q, HK.out, ?_, by show max m q = max (maxN _ k) _; rw [← Hm.out]; show max m q = max m (x.c k).deep; rw [← HQ.out], by simp, hB.trans (hB2.mono hB.size)⟩, by have := HK.out; simp [intOf]; omega⟩
      first
        | (rw [show ((max m q : Nat) : Int) = max (m : Int) q by omega]; done)
        | (by_cases hmq : m < q
           · rw [if_pos hmq, show max m q = q by omega]
           · rw [if_neg hmq, show max m q = m by omega])
    · have hk' : k = x.n := by omega
      subst hk'
      have e : x.deep = m + 1 := by rw [HR.out, Hm.out]
      have e2 := HD.out
      have hm1 : m + 1 ≤ 1048576 := by omega
      go_wp2
      go_ret
      exact ⟨ret_int (by omega), hw⟩
end Go.Proofs.YtfnfegcjgnbgbaaGreatDoor
