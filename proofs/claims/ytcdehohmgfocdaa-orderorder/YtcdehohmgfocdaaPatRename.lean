/-
  pat.Rename.
-/
import Derived.Test.YtcdehohmgfocdaaPatRen
import Derived.Test.YtcdehohmgfocdaaPatNamed
import Derived.Test.YtcdehohmgfocdaaExprBack
import Derived.Sort.CutIn
import Derived.Lib.MinMax
namespace Go.Proofs.Ytcdehohmgfocdaa
open Go.RowKit Go.Shelf Go.Maps Go.WideMaps
attribute [local go_sem] Oper.semAt_some

theorem pOk_same : ∀ y x : Pt, Sm y x → POk x → POk y := by
  refine Pt.ind fun y ih x h hx => ?_
  obtain ⟨h1, h2, h3, h4, h5, h6, h7⟩ := (sm_iff _ _).1 h
  rw [pOk_eq] at hx ⊢
  exact ⟨h2 ▸ hx.1, h3 ▸ hx.2.1, fun i hi => ih i hi (x.c i) (h7 i hi) (hx.2.2 i (h6 ▸ hi))⟩
theorem lb_set6 {N1 B0 : Nat} {W : World} {y : Pt} : Lb N1 B0 W (set6 W B0 y) :=
  (((((Lb.set (.inl rfl)).trans (Lb.set (.inl rfl))).trans (Lb.set (.inl rfl))).trans (Lb.set (.inl rfl))).trans (Lb.set (.inl rfl))).trans (Lb.set (.inl rfl))

end Go.Proofs.Ytcdehohmgfocdaa
