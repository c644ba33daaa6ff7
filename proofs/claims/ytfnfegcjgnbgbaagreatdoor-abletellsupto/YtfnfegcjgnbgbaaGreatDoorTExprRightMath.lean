/-
  What a right condition is, node by node; plain facts.
-/
import Derived.Test.YtfnfegcjgnbgbaaGreatDoorTExprAlone
import Derived.Test.YtfnfegcjgnbgbaaGreatDoorTExprMath
import Derived.Test.YtfnfegcjgnbgbaaGreatDoorTValOrder
namespace Go.Proofs.YtfnfegcjgnbgbaaGreatDoor
open Go.RowKit

/-- A node is right, but for its parts. -/
def NodeR (y : X) : Prop := (y.k ≠ 1 → y.v = val0) ∧ (y.k ≠ 2 → y.s = ⟨#[]⟩ ∧ y.f = ⟨#[]⟩) ∧
  ((y.k = 1 ∧ y.n = 0 ∧ rightB y.v.k y.v.n y.v.s = true) ∨ (y.k = 2 ∧ y.n = 0 ∧ nameB y.s = true ∧ nameB y.f = true) ∨ ((y.k = 3 ∨ y.k = 15) ∧ y.n = 1) ∨ (4 ≤ y.k ∧ y.k ≤ 14 ∧ y.n = 2) ∨
    ((y.k = 16 ∨ y.k = 17) ∧ 2 ≤ y.n ∧ ∀ i, i < y.n → (y.c i).k ≠ y.k))
def TreeR : X → Prop
  | .nil => NodeR .nil
  | .mk k v s f a n cap c => NodeR (.mk k v s f a n cap c) ∧ ∀ i, i < n → TreeR (c i)
theorem treeR_eq (x : X) : TreeR x ↔ NodeR x ∧ ∀ i, i < x.n → TreeR (x.c i) := by
  cases x with
  | nil => simp [TreeR, X.n]
  | mk => rfl
theorem treeR_vis : ∀ (x : X) (d : Int), TreeR x ↔ ∀ v ∈ visX d x, NodeR v.2 := by
  refine X.ind fun x ih d => ?_
  rw [treeR_eq, visX_eq]
  constructor
  · rintro ⟨h1, h2⟩ v hv
    rcases List.mem_cons.1 hv with rfl | hv
    · exact h1
    · obtain ⟨i, hi, h⟩ := mem_catN.1 hv
      exact (ih i hi _).1 (h2 i hi) v h
  · intro h
    exact ⟨h (d, x) List.mem_cons_self, fun i hi => (ih i hi (IntKind.i64.wrap (d + 1))).2 fun v hv => h v (List.mem_cons_of_mem _ (mem_catN.2 ⟨i, hi, hv⟩))⟩
theorem alZ_zero (x y : X) : alZ x y = 0 ↔ x.k = y.k ∧ x.v = y.v ∧ x.s = y.s ∧ x.f = y.f ∧ x.n = y.n := by
  unfold alZ
  rw [orI_zero, orI_zero, orI_zero, orI_zero, ordV_zero]
  constructor
  · rintro ⟨h1, h2, h3, h4, h5⟩
    exact ⟨cmpI_zero h1, h2, cmpS_zero h3, cmpS_zero h4, by have := cmpI_zero h5; omega⟩
  · rintro ⟨h1, h2, h3, h4, h5⟩
    rw [h1, h3, h4, h5]
    exact ⟨cmpI_self _, h2, cmpS_self _, cmpS_self _, cmpI_self _⟩
/-- The node that has just what its kind has. -/
def ownC (y : X) : X := .mk y.k y.v ⟨#[]⟩ ⟨#[]⟩ none 0 0 (fun _ => .nil)
def ownF (y : X) : X := .mk y.k val0 y.s y.f none 0 0 (fun _ => .nil)
def ownP (y : X) : X := .mk y.k val0 ⟨#[]⟩ ⟨#[]⟩ y.a y.n y.cap y.c
theorem nodeR_C (y : X) (h : y.k = 1) : NodeR y ↔ rightB y.v.k y.v.n y.v.s = true ∧ alZ y (ownC y) = 0 := by
  rw [alZ_zero]
  constructor
  · rintro ⟨h1, h2, h3⟩
    have h4 := h2 (by omega)
    rcases h3 with h3 | h3 | h3 | h3 | h3
    · exact ⟨h3.2.2, rfl, rfl, h4.1, h4.2, h3.2.1⟩
    all_goals omega
  · rintro ⟨h1, -, -, h4, h5, h6⟩
    exact ⟨fun e => absurd h e, fun _ => ⟨h4, h5⟩, .inl ⟨h, h6, h1⟩⟩
theorem nodeR_F (y : X) (h : y.k = 2) : NodeR y ↔ (nameB y.s = true ∧ nameB y.f = true) ∧ alZ y (ownF y) = 0 := by
  rw [alZ_zero]
  constructor
  · rintro ⟨h1, h2, h3⟩
    have h4 := h1 (by omega)
    rcases h3 with h3 | h3 | h3 | h3 | h3
    · omega
    · exact ⟨h3.2.2, rfl, h4, rfl, rfl, h3.2.1⟩
    all_goals omega
  · rintro ⟨h1, -, h3, -, -, h6⟩
    exact ⟨fun _ => h3, fun e => absurd h e, .inr (.inl ⟨h, h6, h1⟩)⟩
theorem nodeR_one (y : X) (h : y.k = 3 ∨ y.k = 15) : NodeR y ↔ y.n = 1 ∧ alZ y (ownP y) = 0 := by
  rw [alZ_zero]
  constructor
  · rintro ⟨h1, h2, h3⟩
    have h4 := h1 (by omega)
    have h5 := h2 (by omega)
    rcases h3 with h3 | h3 | h3 | h3 | h3
    · omega
    · omega
    · exact ⟨h3.2, rfl, h4, h5.1, h5.2, rfl⟩
    all_goals omega
  · rintro ⟨h1, -, h3, h4, h5, -⟩
    exact ⟨fun _ => h3, fun _ => ⟨h4, h5⟩, .inr (.inr (.inl ⟨h, h1⟩))⟩
theorem nodeR_two (y : X) (h : 4 ≤ y.k ∧ y.k ≤ 14) : NodeR y ↔ y.n = 2 ∧ alZ y (ownP y) = 0 := by
  rw [alZ_zero]
  constructor
  · rintro ⟨h1, h2, h3⟩
    have h4 := h1 (by omega)
    have h5 := h2 (by omega)
    rcases h3 with h3 | h3 | h3 | h3 | h3
    · omega
    · omega
    · omega
    · exact ⟨h3.2.2, rfl, h4, h5.1, h5.2, rfl⟩
    · omega
  · rintro ⟨h1, -, h3, h4, h5, -⟩
    exact ⟨fun _ => h3, fun _ => ⟨h4, h5⟩, .inr (.inr (.inr (.inl ⟨h.1, h.2, h1⟩)))⟩
theorem nodeR_many (y : X) (h : y.k = 16 ∨ y.k = 17) : NodeR y ↔ (2 ≤ y.n ∧ ∀ i, i < y.n → (y.c i).k ≠ y.k) ∧ alZ y (ownP y) = 0 := by
  rw [alZ_zero]
  constructor
  · rintro ⟨h1, h2, h3⟩
    have h4 := h1 (by omega)
    have h5 := h2 (by omega)
    rcases h3 with h3 | h3 | h3 | h3 | h3
    · omega
    · omega
    · omega
    · omega
    · exact ⟨h3.2, rfl, h4, h5.1, h5.2, rfl⟩
  · rintro ⟨h1, -, h3, h4, h5, -⟩
    exact ⟨fun _ => h3, fun _ => ⟨h4, h5⟩, .inr (.inr (.inr (.inr ⟨h, h1⟩)))⟩
theorem nodeR_none (y : X) (h : ¬ (1 ≤ y.k ∧ y.k ≤ 17)) : ¬ NodeR y := by
  rintro ⟨-, -, h3⟩
  omega
end Go.Proofs.YtfnfegcjgnbgbaaGreatDoor
