/-
  The document's Rename: a row of patterns that grows; of no function.
-/
import Derived.Test.YtjclelmbpmlioaaPatRename
import Derived.Test.YtjclelmbpmlioaaRefVar
import Derived.Maps.AppendAt
namespace Go.Proofs.Ytjclelmbpmlioaa
open Go.RowKit

theorem IsP.kept {T : Nat → Prop} {W W' : World} (h : Kp T W W') : ∀ {x : Pt}, (∀ k, inP k x → T k) → IsP W x → IsP W' x := by
  refine @(Pt.ind fun x ih hT hx => ?_)
  rw [isP_eq] at hx ⊢
  refine ⟨hx.1, hx.2.1, fun i hi => ?_⟩
  obtain ⟨b, o, e, hn, hc⟩ := hx.2.2 i hi
  have hb : T b := hT b ((inP_eq _ _).2 (.inl ⟨by omega, o, e⟩))
  exact ⟨b, o, e, hn.kept h hb, ih i hi (fun k hk => hT k ((inP_eq _ _).2 (.inr ⟨i, hi, hk⟩))) hc⟩
theorem inP_ltI {w : World} {k : Nat} : ∀ {x : Pt}, IsP w x → inP k x → k < w.heap.size := by
  refine @(Pt.ind fun x ih hx hk => ?_)
  rw [isP_eq] at hx
  rcases (inP_eq _ _).1 hk with ⟨h0, o, e⟩ | ⟨i, hi, hk⟩
  · obtain ⟨b, o', e', hn, _⟩ := hx.2.2 0 h0
    rw [e] at e'
    cases e'
    exact hn.lt
  · obtain ⟨b, o', e', _, hc⟩ := hx.2.2 i hi
    exact ih i hi hc hk
/-- One more. -/
def updP (c : Nat → Pt) (i : Nat) (y : Pt) : Nat → Pt := fun j => if j = i then y else c j
theorem updP_same (c : Nat → Pt) (i : Nat) (y : Pt) : updP c i y i = y := by simp [updP]
theorem updP_other {c : Nat → Pt} {i j : Nat} {y : Pt} (h : j ≠ i) : updP c i y j = c j := by simp [updP, h]
theorem rowP_upd (c : Nat → Pt) (i : Nat) (y : Pt) : rowP (updP c i y) (i + 1) = rowP c i ++ y.cells.toList := by
  rw [rowP, updP_same, rowP_congr fun j hj => updP_other (by omega)]
/-- The parts of a row: each a pattern in its world, new since B, none of them in the row's own block. -/
def GrownP (B : Nat) (w : World) (u : Value) (i : Nat) (c : Nat → Pt) : Prop :=
  w.ownsRow B 24 6 u i (rowP c i) ∧ ∀ j, j < i → IsP w (c j) ∧ ∀ k, inP k (c j) → B ≤ k ∧ u.ownBlock ≠ some k
theorem grownP_nil (B : Nat) (w : World) (c : Nat → Pt) : GrownP B w (.slice none 0 0) 0 c := ⟨World.ownsRow_nil _ _ _ _, fun _ h => absurd h (Nat.not_lt_zero _)⟩
theorem GrownP.later {B i : Nat} {w w' : World} {u : Value} {c : Nat → Pt} (h : GrownP B w u i c) (hB : Below w.heap.size w w') : GrownP B w' u i c :=
  ⟨own_laterS h.1 hB, fun j hj => ⟨(h.2 j hj).1.later hB, (h.2 j hj).2⟩⟩
/-- One more behind them: what the append makes of it. -/
theorem GrownP.push {B i : Nat} {w : World} {u : Value} {c : Nat → Pt} (h : GrownP B w u i c) (hb : B ≤ w.heap.size) (hi : i ≤ 1759218604390) (y : Pt) (hy : IsP w y) (hn : ∀ k, inP k y → B ≤ k ∧ u.ownBlock ≠ some k) :
    ∃ a' cap' w', (Builtin.append_ #[22, 22] 22 #[u, .slice (some ⟨w.heap.size, 0, none⟩) 1 1]).run Try.prog (w.alloc (.cells y.cells 24)) = .ok (.slice a' (i + 1) cap') w' ∧
      GrownP B w' (.slice a' (i + 1) cap') (i + 1) (updP c i y) ∧ Below B w w' ∧ w.heap.size ≤ w'.heap.size := by
  obtain ⟨i0, hi0, hz0, hz1, hz2⟩ := info_parts infoP
  have hB0 : Below w.heap.size w (w.alloc (.cells y.cells 24)) := (Below.refl _ _).alloc (Nat.le_refl _) _
  have hrow : ∀ j v, (y.cells.toList)[j]? = some v → (w.alloc (.cells y.cells 24)).cell? ((Addr.mk w.heap.size 0 none).add j) = some v := by
    have := nodesP_cells (w := w.alloc (.cells y.cells 24)) (b := w.heap.size) (o := 0) (n := 1) (c := fun _ => y) fun q hq => by
      obtain rfl : q = 0 := by omega
      exact nodeP_new w _ y
    simpa [rowP] using this
  obtain ⟨v', w', hrun, hown', hgrow, _, hat⟩ := run_append_own_at (P := Try.prog) (w := w.alloc (.cells y.cells 24)) B 22 22 24 i0 _ 6 80 Try.underlying22 hi0 hz0 hz1 hz2 rfl (by decide) u i (rowP c i) (h.1.alloc _) ⟨w.heap.size, 0, none⟩ 1 1 y.cells.toList rfl
    hrow (fun q hq => by simp at hq; rcases hq with rfl | rfl | rfl | rfl | rfl | rfl <;> rfl) (by unfold maxLen; omega) (by omega) (by simp; omega)
  rw [← rowP_upd] at hown'
  obtain ⟨a', cap', rfl, hcap, _, _⟩ := ownP_nodes hown'
  have hlt : ∀ q, u.ownBlock = some q → B ≤ q ∧ q < w.heap.size := fun q e => ⟨(h.1.lt q e).1, (h.1.lt q e).2⟩
  have hBw : Below B w w' := (hB0.mono hb).grown hgrow (by simp; omega) fun q e => (hlt q e).1
  have hk : Kp (fun q => u.ownBlock ≠ some q) w w' := fun q o hq _ e => (hgrow.block q (by have := (Array.getElem?_eq_some_iff.1 e).1; simp; omega) fun e' => hq e'.symm).trans ((hB0.block q (Array.getElem?_eq_some_iff.1 e).1).trans e)
  have hown'' : ∀ q, q < w.heap.size → u.ownBlock ≠ some q → (Value.slice a' (i + 1) cap').ownBlock ≠ some q := fun q hq h1 h2 => by
    rcases hat with h3 | h3
    · rw [h3] at h2; exact h1 h2
    · rw [h3] at h2
      injection h2 with h2
      simp at h2
      omega
  refine ⟨a', cap', w', hrun, ⟨hown', fun j hj => ?_⟩, hBw, by have := hgrow.size; simp at this; omega⟩
  by_cases e : j = i
  · subst e
    rw [updP_same]
    exact ⟨hy.kept hk fun q hq => (hn q hq).2, fun q hq => ⟨(hn q hq).1, hown'' q (inP_ltI hy hq) (hn q hq).2⟩⟩
  · rw [updP_other e]
    obtain ⟨q1, q2⟩ := h.2 j (by omega)
    exact ⟨q1.kept hk fun q hq => (q2 q hq).2, fun q hq => ⟨(q2 q hq).1, hown'' q (inP_ltI q1 hq) (q2 q hq).2⟩⟩
/-- A row as the parts of a pattern. -/
theorem GrownP.is {B i : Nat} {w : World} {a : Option Addr} {cap : Nat} {c : Nat → Pt} (h : GrownP B w (.slice a i cap) i c) (k : Int) (s t : ByteArray) (lo hi : Int) :
    IsP w (.mk k s t lo hi a i cap c) ∧ ∀ q, inP q (.mk k s t lo hi a i cap c) → B ≤ q := by
  obtain ⟨a', cap', e, h1, h2, h3⟩ := ownP_nodes h.1
  cases e
  refine ⟨⟨h1, by unfold maxLen at h2; omega, fun j hj => ?_⟩, fun q hq => ?_⟩
  · obtain ⟨g, e, _, _, _, hn⟩ := h3 (by omega)
    exact ⟨g, 0, e, by rw [Nat.zero_add]; exact hn j hj, (h.2 j hj).1⟩
  · rcases hq with ⟨h0, o, e⟩ | ⟨j, hj, hq⟩
    · obtain ⟨g, e', hg, _⟩ := h3 h0
      rw [e'] at e
      cases e
      exact hg
    · exact ((h.2 j hj).2 q hq).1
end Go.Proofs.Ytjclelmbpmlioaa
