/-
  Three cells in a block of their own: of no program.
-/
import Derived.Test.YtdfmehbnhdhbcaaDoorRows
import Derived.WalkKit
import Derived.Below
namespace Go.Proofs.YtdfmehbnhdhbcaaDoor
open Go.RowKit

/-- Three cells in a block of their own. -/
def Box3 (t : TypeId) (w : World) (b : Nat) (x y z : Value) : Prop := w.heap[b]? = some (.cells #[x, y, z] t)
theorem Box3.lt {t : TypeId} {w : World} {b : Nat} {x y z : Value} (h : Box3 t w b x y z) : b < w.heap.size := (Array.getElem?_eq_some_iff.1 h).1
theorem Box3.keep {t : TypeId} {w w' : World} {b : Nat} {x y z : Value} (h : Box3 t w b x y z) (hk : Below w.heap.size w w') : Box3 t w' b x y z := (hk.block b h.lt).trans h
theorem Box3.new (t : TypeId) (w : World) (x y z : Value) : Box3 t (w.alloc (.cells #[x, y, z] t)) w.heap.size x y z := by
  show (w.heap.push (.cells #[x, y, z] t))[w.heap.size]? = some _
  simp
theorem Box3.cells {t : TypeId} {w : World} {b : Nat} {x y z : Value} (h : Box3 t w b x y z) : w.cell? ⟨b, 0, none⟩ = some x ∧ w.cell? ⟨b, 1, none⟩ = some y ∧ w.cell? ⟨b, 2, none⟩ = some z := by
  unfold Box3 at h
  refine ⟨?_, ?_, ?_⟩ <;> simp [World.cell?, h]
theorem Box3.frozen {t : TypeId} {w : World} {b : Nat} {x y z : Value} (h : Box3 t w b x y z) (i : Nat) : w.frozen? ⟨b, i, none⟩ = false := by
  unfold Box3 at h
  simp [World.frozen?, h]
theorem Box3.set {t : TypeId} {w : World} {b : Nat} {x y z : Value} (h : Box3 t w b x y z) (x' y' z' : Value) : Box3 t (((w.setCell ⟨b, 0, none⟩ x').setCell ⟨b, 1, none⟩ y').setCell ⟨b, 2, none⟩ z') b x' y' z' := by
  unfold Box3 at h ⊢
  simp [World.setCell, Array.getElem?_modify, h]
theorem Box3.set2 {t : TypeId} {w : World} {b : Nat} {x y z : Value} (h : Box3 t w b x y z) (z' : Value) : Box3 t (w.setCell ⟨b, 2, none⟩ z') b x y z' := by
  unfold Box3 at h ⊢
  simp [World.setCell, Array.getElem?_modify, h]
end Go.Proofs.YtdfmehbnhdhbcaaDoor
