/-
  Conditions that lie apart: each row of parts in a block of its own, that may be written; of no function.
-/
import Derived.Test.YtjclelmbpmlioaaPatClone
import Derived.Test.YtjclelmbpmlioaaPatWalk
namespace Go.Proofs.Ytjclelmbpmlioaa
open Go.RowKit

/-- The blocks in which a pattern's parts lie. -/
def inP (k : Nat) : Pt → Prop
  | .nil => False
  | .mk _ _ _ _ _ a n _ c => (0 < n ∧ ∃ o, a = some ⟨k, o, none⟩) ∨ ∃ i, i < n ∧ inP k (c i)
theorem inP_eq (k : Nat) (x : Pt) : inP k x ↔ (0 < x.n ∧ ∃ o, x.a = some ⟨k, o, none⟩) ∨ ∃ i, i < x.n ∧ inP k (x.c i) := by
  cases x with
  | nil => simp [inP, Pt.n]
  | mk => rfl
/-- It lies apart. -/
def PA (w : World) : Pt → Prop
  | .nil => True
  | .mk _ _ _ _ _ a n cap c => n ≤ cap ∧ cap ≤ 9223372036854775807 ∧ ∀ i, i < n → ∃ b, a = some ⟨b, 0, none⟩ ∧ FreeP w b ∧ NodeP w b (i * 6) (c i) ∧ PA w (c i) ∧ ¬ inP b (c i) ∧ ∀ j, j < n → j ≠ i → ∀ k, inP k (c i) → ¬ inP k (c j)
theorem pA_eq (w : World) (x : Pt) : PA w x ↔ x.n ≤ x.cap ∧ x.cap ≤ 9223372036854775807 ∧ ∀ i, i < x.n → ∃ b, x.a = some ⟨b, 0, none⟩ ∧ FreeP w b ∧ NodeP w b (i * 6) (x.c i) ∧ PA w (x.c i) ∧ ¬ inP b (x.c i) ∧ ∀ j, j < x.n → j ≠ i → ∀ k, inP k (x.c i) → ¬ inP k (x.c j) := by
  cases x with
  | nil => simp [PA, Pt.n, Pt.cap]
  | mk => rfl
theorem PA.is {w : World} : ∀ {x : Pt}, PA w x → IsP w x := by
  refine @(Pt.ind fun x ih hx => ?_)
  rw [pA_eq] at hx
  rw [isP_eq]
  refine ⟨hx.1, hx.2.1, fun i hi => ?_⟩
  obtain ⟨b, e, _, hn, hc, _⟩ := hx.2.2 i hi
  exact ⟨b, 0, e, by simpa using hn, ih i hi hc⟩
theorem FreeP.kept {T : Nat → Prop} {W W' : World} (h : Kp T W W') {b : Nat} (hb : T b) (hf : FreeP W b) : FreeP W' b := by
  obtain ⟨cur, hc⟩ := hf
  exact ⟨cur, h b _ hb rfl hc⟩
theorem FreeP.lt {w : World} {b : Nat} (h : FreeP w b) : b < w.heap.size := by
  obtain ⟨cur, hc⟩ := h
  exact (Array.getElem?_eq_some_iff.1 hc).1
theorem FreeP.ne {w : World} {b k : Nat} {t : TypeId} {u : Value} (h : FreeP w b) (hb : Boxed w k t u) (ht : t ≠ 24) : b ≠ k := by
  rintro rfl
  obtain ⟨cur, hc⟩ := h
  have hb' : w.heap[b]? = some (.cells #[u] t (0, 0)) := hb
  rw [hc] at hb'
  injection hb' with e
  injection e with _ e2
  exact ht e2.symm
theorem PA.kept {T : Nat → Prop} {W W' : World} (h : Kp T W W') : ∀ {x : Pt}, (∀ k, inP k x → T k) → PA W x → PA W' x := by
  refine @(Pt.ind fun x ih hT hx => ?_)
  rw [pA_eq] at hx ⊢
  refine ⟨hx.1, hx.2.1, fun i hi => ?_⟩
  obtain ⟨b, e, hf, hn, hc, hr⟩ := hx.2.2 i hi
  have hb : T b := hT b ((inP_eq _ _).2 (.inl ⟨by omega, 0, e⟩))
  exact ⟨b, e, hf.kept h hb, hn.kept h hb, ih i hi (fun k hk => hT k ((inP_eq _ _).2 (.inr ⟨i, hi, hk⟩))) hc, hr⟩
theorem inP_lt {w : World} {k : Nat} : ∀ {x : Pt}, PA w x → inP k x → k < w.heap.size := by
  refine @(Pt.ind fun x ih hx hk => ?_)
  rw [pA_eq] at hx
  rcases (inP_eq _ _).1 hk with ⟨h0, o, e⟩ | ⟨i, hi, hk⟩
  · obtain ⟨b, e', hf, _⟩ := hx.2.2 0 h0
    rw [e] at e'
    cases e'
    exact hf.lt
  · obtain ⟨b, e', _, _, hc, _⟩ := hx.2.2 i hi
    exact ih i hi hc hk
theorem PA.later {w w' : World} {x : Pt} (hB : Below w.heap.size w w') (h : PA w x) : PA w' x :=
  h.kept (T := fun k => k < w.heap.size) (Kp.of_below hB fun _ hk => hk) fun _ hk => inP_lt h hk
theorem PA.ag {B : Nat} {W A : World} (h : Ag B W A) {x : Pt} (hx : PA W x) : PA A x := hx.kept (T := fun _ => True) (fun k o _ ho e => (h.cells k o ho).2 e) fun _ _ => trivial
theorem FreeP.ag {B : Nat} {W A : World} (h : Ag B W A) {b : Nat} (hf : FreeP W b) : FreeP A b := by
  obtain ⟨cur, hc⟩ := hf
  exact ⟨cur, (h.cells _ _ rfl).2 hc⟩
theorem FreeP.set {W : World} {k b o : Nat} {v : Value} (hf : FreeP W k) : FreeP (W.setCell ⟨b, o, none⟩ v) k := by
  obtain ⟨cur, hc⟩ := hf
  by_cases e : k = b
  · subst e
    refine ⟨cur.setIfInBounds o v, ?_⟩
    simp only [World.setCell, Array.getElem?_modify, if_pos, hc]
    rfl
  · exact ⟨cur, (Below.heap_setCell W ⟨b, o, none⟩ v k e).trans hc⟩
/-- What stays: all blocks but b and those in S; in b all cells but one; what may be written. -/
structure KbP (b j0 : Nat) (S : Nat → Prop) (W W' : World) : Prop where
  oth : Kp (fun k => k ≠ b ∧ ¬ S k) W W'
  own : ∀ j u, j ≠ j0 → W.cell? ⟨b, j, none⟩ = some u → W'.cell? ⟨b, j, none⟩ = some u
  free : ∀ k, FreeP W k → FreeP W' k
  size : W.heap.size ≤ W'.heap.size
theorem KbP.node {b j0 : Nat} {S : Nat → Prop} {W W' : World} (h : KbP b j0 S W W') {k o : Nat} {x : Pt} (hk : k ≠ b) (hS : ¬ S k) (hn : NodeP W k o x) : NodeP W' k o x := hn.kept h.oth ⟨hk, hS⟩
theorem KbP.near {b j0 : Nat} {S : Nat → Prop} {W W' : World} (h : KbP b j0 S W W') {o : Nat} {x : Pt} (ho : ∀ t, t < 6 → o + t ≠ j0) (hn : NodeP W b o x) : NodeP W' b o x :=
  ⟨h.own _ _ (ho 0 (by omega)) hn.1, h.own _ _ (ho 1 (by omega)) hn.2.1, h.own _ _ (ho 2 (by omega)) hn.2.2.1, h.own _ _ (ho 3 (by omega)) hn.2.2.2.1, h.own _ _ (ho 4 (by omega)) hn.2.2.2.2.1, h.own _ _ (ho 5 (by omega)) hn.2.2.2.2.2⟩
theorem KbP.set (b j0 : Nat) (S : Nat → Prop) (W : World) (v : Value) : KbP b j0 S W (W.setCell ⟨b, j0, none⟩ v) :=
  ⟨fun k _ hk _ e => (Below.heap_setCell W ⟨b, j0, none⟩ v k hk.1).trans e, fun j u hj hc => (World.cell?_setCell_other _ _ _ _ (by intro e; cases e; exact hj rfl)).trans hc, fun _ hf => hf.set, Nat.le_of_eq (World.size_setCell ..).symm⟩
theorem KbP.of_below (b j0 : Nat) (S : Nat → Prop) {W W' : World} (h : Below W.heap.size W W') : KbP b j0 S W W' :=
  ⟨fun k o _ _ e => (h.block k (Array.getElem?_eq_some_iff.1 e).1).trans e,
   fun j u _ hc => by
    obtain ⟨o, ho, _⟩ := cells_of_cell hc
    exact (h.cell (p := ⟨b, j, none⟩) (Array.getElem?_eq_some_iff.1 ho).1).trans hc,
   fun k hf => by
    have hl := hf.lt
    obtain ⟨cur, hc⟩ := hf
    exact ⟨cur, (h.block k hl).trans hc⟩, h.size⟩
theorem KbP.refl (b j0 : Nat) (S : Nat → Prop) (W : World) : KbP b j0 S W W := .of_below b j0 S (Below.refl _ _)
theorem KbP.trans {b j0 : Nat} {S : Nat → Prop} {A B C : World} (h : KbP b j0 S A B) (g : KbP b j0 S B C) : KbP b j0 S A C :=
  ⟨h.oth.trans g.oth, fun j u hj hc => g.own j u hj (h.own j u hj hc), fun k hf => g.free k (h.free k hf), Nat.le_trans h.size g.size⟩
theorem KbP.mono {b j0 : Nat} {S S' : Nat → Prop} {W W' : World} (h : KbP b j0 S W W') (hS : ∀ k, S k → S' k) : KbP b j0 S' W W' := ⟨h.oth.mono fun k hk => ⟨hk.1, fun hs => hk.2 (hS k hs)⟩, h.own, h.free, h.size⟩
theorem KbP.ag {B b j0 : Nat} {S : Nat → Prop} {W A A' W' : World} (h : Ag B W A) (h' : Ag B A' W') (g : KbP b j0 S A A') : KbP b j0 S W W' :=
  ⟨Kp.ag h h' g.oth, fun j u hj hc => (h'.cell _).trans (g.own j u hj ((h.cell _).trans hc)), fun k hf => (g.free k (hf.ag h)).ag h', by rw [h'.size, ← h.size]; exact g.size⟩
/-- What was done to a part in block g is done to the whole, if g is among what may change or was not there. -/
theorem KbP.part {b j0 g j1 : Nat} {S S' : Nat → Prop} {W Wi W' : World} (h : KbP b j0 S W Wi) (f : KbP g j1 S' Wi W') (hg : S g ∨ W.heap.size ≤ g) (hS : ∀ k, S' k → S k ∨ W.heap.size ≤ k) (_ : b < W.heap.size) (hb1 : b ≠ g) (hb2 : ¬ S' b) : KbP b j0 S W W' := by
  refine ⟨fun k o hk ho e => ?_, fun j u hj hc => ?_, fun k hf => f.free k (h.free k hf), Nat.le_trans h.size f.size⟩
  · have hl : k < W.heap.size := (Array.getElem?_eq_some_iff.1 e).1
    refine f.oth k o ⟨?_, ?_⟩ ho (h.oth k o hk ho e)
    · rintro rfl
      rcases hg with hg | hg
      · exact hk.2 hg
      · omega
    · intro hs
      rcases hS k hs with h1 | h1
      · exact hk.2 h1
      · omega
  · exact f.oth.cell (p := ⟨b, j, none⟩) ⟨hb1, hb2⟩ (h.own j u hj hc)
/-- The same node with its parts elsewhere. -/
abbrev Pt.at (v : Pt) (a : Option Addr) (cap : Nat) (c : Nat → Pt) : Pt := .mk v.k v.s v.t v.lo v.hi a v.n cap c
theorem NodeP.at {w : World} {b o : Nat} {v : Pt} {a : Option Addr} {cap : Nat} {c c' : Nat → Pt} (h : NodeP w b o (v.at a cap c)) : NodeP w b o (v.at a cap c') := h
end Go.Proofs.Ytjclelmbpmlioaa
