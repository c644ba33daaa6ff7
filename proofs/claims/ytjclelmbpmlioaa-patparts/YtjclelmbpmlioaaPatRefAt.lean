/-
  The document's At of patterns.
-/
import Derived.Test.YtjclelmbpmlioaaPatAt
import Derived.Deep.RegionWith
import Derived.Deep.DeepCutAuto
namespace Go.Proofs.Ytjclelmbpmlioaa
open Go.RowKit

theorem boxP_three (x : Pt) (w : World) : ∃ A, ((w.alloc (.cells x.cells 24)).alloc (.cells zeroP 24)).alloc (.cells x.cells 24) = A ∧ Below w.heap.size w A ∧ A.heap.size = w.heap.size + 3 ∧ A.heap[w.heap.size + 1]? = some (.cells zeroP 24 (0, 0)) ∧ A.heap[w.heap.size + 2]? = some (.cells x.cells 24 (0, 0)) := by
  refine ⟨_, rfl, (((Below.refl _ w).alloc (Nat.le_refl _) _).alloc (by simp) _).alloc (by simp; omega) _, by simp, ?_, ?_⟩
  · rw [alloc_old (by simp)]
    exact alloc2_new _ _ _
  · have := alloc_new ((w.alloc (.cells x.cells 24)).alloc (.cells zeroP 24)) (.cells x.cells 24)
    rw [World.size_alloc, World.size_alloc] at this
    exact this
/-- The six cells of a box that may be written. -/
theorem box_cells {w : World} {B : Nat} {z : Pt} (h : w.heap[B]? = some (.cells z.cells 24 (0, 0))) : (w.cell? ⟨B, 0, none⟩ = some (.int .i64 z.k) ∧ w.cell? ⟨B, 1, none⟩ = some (.string z.s) ∧ w.cell? ⟨B, 2, none⟩ = some (.string z.t) ∧ w.cell? ⟨B, 3, none⟩ = some (.int .i64 z.lo) ∧ w.cell? ⟨B, 4, none⟩ = some (.int .i64 z.hi) ∧ w.cell? ⟨B, 5, none⟩ = some (.slice z.a z.n z.cap)) ∧
    w.frozen? ⟨B, 0, none⟩ = false ∧ w.frozen? ⟨B, 1, none⟩ = false ∧ w.frozen? ⟨B, 2, none⟩ = false ∧ w.frozen? ⟨B, 3, none⟩ = false ∧ w.frozen? ⟨B, 4, none⟩ = false ∧ w.frozen? ⟨B, 5, none⟩ = false := by
  refine ⟨nodeP_box h |>.at0, ?_, ?_, ?_, ?_, ?_, ?_⟩ <;> exact FreeP.frozen ⟨_, h⟩ _
/-- How far the document's At has come. -/
def AtR (x : Pt) (Z : Nat → Int) (m : Nat) (w A : World) (v : Value) (wr : World) : Prop :=
  ∃ (k : Nat) (z : Pt), k ≤ m ∧ v = .int .i64 k ∧ Hid (atK x Z k = some z) ∧ Hid (wr.heap[w.heap.size + 2]? = some (.cells z.cells 24 (0, 0))) ∧ Hid (IsP w z) ∧ Hid (Below (w.heap.size + 2) A wr)
end Go.Proofs.Ytjclelmbpmlioaa
