/-
  The document's Rename: a row of conditions that grows; of no function.
-/
import Derived.Test.YtbmbdiimbhfeaaaExprRefName
import Derived.Maps.AppendAt
namespace Go.Proofs.Ytbmbdiimbhfeaaa
open Go.RowKit

theorem IsX.kept {T : Nat → Prop} {W W' : World} (h : Kp T W W') : ∀ {x : X}, (∀ k, inX k x → T k) → IsX W x → IsX W' x := by
  refine @(X.ind fun x ih hT hx => ?_)
  rw [isX_eq] at hx ⊢
  refine ⟨hx.1, hx.2.1, fun i hi => ?_⟩
  obtain ⟨b, o, e, hn, hc⟩ := hx.2.2 i hi
  have hb : T b := hT b ((inX_eq _ _).2 (.inl ⟨by omega, o, e⟩))
  exact ⟨b, o, e, hn.kept h hb, ih i hi (fun k hk => hT k ((inX_eq _ _).2 (.inr ⟨i, hi, hk⟩))) hc⟩
theorem inX_ltI {w : World} {k : Nat} : ∀ {x : X}, IsX w x → inX k x → k < w.heap.size := by
  refine @(X.ind fun x ih hx hk => ?_)
  rw [isX_eq] at hx
  rcases (inX_eq _ _).1 hk with ⟨h0, o, e⟩ | ⟨i, hi, hk⟩
  · obtain ⟨b, o', e', hn, _⟩ := hx.2.2 0 h0
    rw [e] at e'
    cases e'
    exact hn.lt
  · obtain ⟨b, o', e', _, hc⟩ := hx.2.2 i hi
    exact ih i hi hc hk
/-- One more. -/
def upd (c : Nat → X) (i : Nat) (y : X) : Nat → X := fun j => if j = i then y else c j
theorem upd_same (c : Nat → X) (i : Nat) (y : X) : upd c i y i = y := by simp [upd]
theorem upd_other {c : Nat → X} {i j : Nat} {y : X} (h : j ≠ i) : upd c i y j = c j := by simp [upd, h]
theorem rowX_upd (c : Nat → X) (i : Nat) (y : X) : rowX (upd c i y) (i + 1) = rowX c i ++ y.cells.toList := by
  rw [rowX, upd_same, rowX_congr fun j hj => upd_other (by omega)]
/-- The parts of a row: each a condition in its world, new since B, none of them in the row's own block. -/
def Grown (B : Nat) (w : World) (u : Value) (i : Nat) (c : Nat → X) : Prop :=
  w.ownsRow B 26 7 u i (rowX c i) ∧ ∀ j, j < i → IsX w (c j) ∧ ∀ k, inX k (c j) → B ≤ k ∧ u.ownBlock ≠ some k
theorem grown_nil (B : Nat) (w : World) (c : Nat → X) : Grown B w (.slice none 0 0) 0 c := ⟨World.ownsRow_nil _ _ _ _, fun _ h => absurd h (Nat.not_lt_zero _)⟩
theorem Grown.later {B i : Nat} {w w' : World} {u : Value} {c : Nat → X} (h : Grown B w u i c) (hB : Below w.heap.size w w') : Grown B w' u i c :=
  ⟨own_laterS h.1 hB, fun j hj => ⟨(h.2 j hj).1.later hB, (h.2 j hj).2⟩⟩
/-- One more behind them: what the append makes of it. -/
theorem Grown.push {B i : Nat} {w : World} {u : Value} {c : Nat → X} (h : Grown B w u i c) (hb : B ≤ w.heap.size) (hi : i ≤ 1048576) (y : X) (hy : IsX w y) (hn : ∀ k, inX k y → B ≤ k ∧ u.ownBlock ≠ some k) :
    ∃ a' cap' w', (Builtin.append_ #[24, 24] 24 #[u, .slice (some ⟨w.heap.size, 0, none⟩) 1 1]).run Try.prog (w.alloc (.cells y.cells 26)) = .ok (.slice a' (i + 1) cap') w' ∧
      Grown B w' (.slice a' (i + 1) cap') (i + 1) (upd c i y) ∧ Below B w w' ∧ w.heap.size ≤ w'.heap.size := by
  obtain ⟨i0, hi0, hz0, hz1, hz2⟩ := info_parts infoX
  have hB0 : Below w.heap.size w (w.alloc (.cells y.cells 26)) := (Below.refl _ _).alloc (Nat.le_refl _) _
  have hrow : ∀ j v, (y.cells.toList)[j]? = some v → (w.alloc (.cells y.cells 26)).cell? ((Addr.mk w.heap.size 0 none).add j) = some v := by
    have := nodes_cells (w := w.alloc (.cells y.cells 26)) (b := w.heap.size) (o := 0) (n := 1) (c := fun _ => y) fun q hq => by
      obtain rfl : q = 0 := by omega
      exact node_new w _ y
    simpa [rowX] using this
  obtain ⟨v', w', hrun, hown', hgrow, _, hat⟩ := run_append_own_at (P := Try.prog) (w := w.alloc (.cells y.cells 26)) B 24 24 26 i0 _ 7 96 Try.underlying24 hi0 hz0 hz1 hz2 rfl (by decide) u i (rowX c i) (h.1.alloc _) ⟨w.heap.size, 0, none⟩ 1 1 y.cells.toList rfl
    hrow (fun q hq => by simp at hq; rcases hq with rfl | rfl | rfl | rfl | rfl | rfl | rfl <;> rfl) (by unfold maxLen; omega) (by omega) (by simp; omega)
  rw [← rowX_upd] at hown'
  obtain ⟨a', cap', rfl, hcap, _, _⟩ := own_nodes hown'
  have hlt : ∀ q, u.ownBlock = some q → B ≤ q ∧ q < w.heap.size := fun q e => ⟨(h.1.lt q e).1, (h.1.lt q e).2⟩
  have hBw : Below B w w' := (hB0.mono hb).grown hgrow (by simp; omega) fun q e => (hlt q e).1
  have hk : Kp (fun q => u.ownBlock ≠ some q) w w' := fun q o hq _ e => (hgrow.block q (by have := (Array.getElem?_eq_some_iff.1 e).1; simp; omega) fun e' => hq e'.symm).trans ((hB0.block q (Array.getElem?_eq_some_iff.1 e).1).trans e)
  have hown'' : ∀ q, q < w.heap.size → u.ownBlock ≠ some q → (Value.slice a' (i + 1) cap').ownBlock ≠ some q := fun q hq h1 h2 => by
    rcases hat with h3 | h3
    · rw [h3] at h2; exact h1 h2
    · rw [h3] at h2
      injection h2 with h2
      simp at h2
      omega
  refine ⟨a', cap', w', hrun, ⟨hown', fun j hj => ?_⟩, hBw, by have := hgrow.size; simp at this; omega⟩
  by_cases e : j = i
  · subst e
    rw [upd_same]
    exact ⟨hy.kept hk fun q hq => (hn q hq).2, fun q hq => ⟨(hn q hq).1, hown'' q (inX_ltI hy hq) (hn q hq).2⟩⟩
  · rw [upd_other e]
    obtain ⟨q1, q2⟩ := h.2 j (by omega)
    exact ⟨q1.kept hk fun q hq => (q2 q hq).2, fun q hq => ⟨(q2 q hq).1, hown'' q (inX_ltI q1 hq) (q2 q hq).2⟩⟩
/-- A row as the parts of a condition. -/
theorem Grown.is {B i : Nat} {w : World} {a : Option Addr} {cap : Nat} {c : Nat → X} (h : Grown B w (.slice a i cap) i c) (k : Int) (v : Val) (s f : ByteArray) :
    IsX w (.mk k v s f a i cap c) ∧ ∀ q, inX q (.mk k v s f a i cap c) → B ≤ q := by
  obtain ⟨a', cap', e, h1, h2, h3⟩ := own_nodes h.1
  cases e
  refine ⟨⟨h1, by unfold maxLen at h2; omega, fun j hj => ?_⟩, fun q hq => ?_⟩
  · obtain ⟨g, e, _, _, _, hn⟩ := h3 (by omega)
    exact ⟨g, 0, e, by rw [Nat.zero_add]; exact hn j hj, (h.2 j hj).1⟩
  · rcases hq with ⟨h0, o, e⟩ | ⟨j, hj, hq⟩
    · obtain ⟨g, e', hg, _⟩ := h3 h0
      rw [e'] at e
      cases e
      exact hg
    · exact ((h.2 j hj).2 q hq).1
end Go.Proofs.Ytbmbdiimbhfeaaa
