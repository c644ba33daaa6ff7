/-
  Two cells in a block of their own (a schema or a field in a variable); what stays in memory, by the block's type.
-/
import Derived.Test.YtelabjipclfpnaaSchBase
namespace Go.Proofs.Ytelabjipclfpnaa
open Go.RowKit

/-- Whatever lies in memory in blocks of a type lies there behind the call. -/
def Keep (t : TypeId) (w w' : World) : Prop := ∀ (k : Nat) (c : Array Value) (f : Nat × Nat), w.heap[k]? = some (.cells c t f) → w'.heap[k]? = some (.cells c t f)
theorem Keep.trans {t : TypeId} {a b c : World} (h : Keep t a b) (g : Keep t b c) : Keep t a c := fun k x f e => g k x f (h k x f e)
theorem keep_below {t : TypeId} {w w' : World} (b : Below w.heap.size w w') : Keep t w w' := fun k _ _ e => (b.block k (Array.getElem?_eq_some_iff.1 e).1).trans e
/-- Two cells in a block of their own. -/
def Box2 (t : TypeId) (w : World) (b : Nat) (x y : Value) : Prop := w.heap[b]? = some (.cells #[x, y] t)
theorem Box2.keep {t : TypeId} {w w' : World} {b : Nat} {x y : Value} (h : Box2 t w b x y) (hk : Keep t w w') : Box2 t w' b x y := hk _ _ _ h
theorem Box2.new (t : TypeId) (w : World) (x y : Value) : Box2 t (w.alloc (.cells #[x, y] t)) w.heap.size x y := heap_alloc_new w _
theorem Box2.cells {t : TypeId} {w : World} {b : Nat} {x y : Value} (h : Box2 t w b x y) : w.cell? ⟨b, 0, none⟩ = some x ∧ w.cell? ⟨b, 1, none⟩ = some y := by
  unfold Box2 at h
  refine ⟨?_, ?_⟩ <;> simp [World.cell?, h]
theorem Box2.frozen {t : TypeId} {w : World} {b : Nat} {x y : Value} (h : Box2 t w b x y) (i : Nat) : w.frozen? ⟨b, i, none⟩ = false := by
  unfold Box2 at h
  simp [World.frozen?, h]
theorem Box2.lt {t : TypeId} {w : World} {b : Nat} {x y : Value} (h : Box2 t w b x y) : b < w.heap.size := (Array.getElem?_eq_some_iff.1 h).1
theorem Box2.set1 {t : TypeId} {w : World} {b : Nat} {x y : Value} (h : Box2 t w b x y) (z : Value) : Box2 t (w.setCell ⟨b, 1, none⟩ z) b x z := by
  unfold Box2 at h ⊢
  simp [World.setCell, Array.getElem?_modify, h]
theorem Box2.set0 {t : TypeId} {w : World} {b : Nat} {x y : Value} (h : Box2 t w b x y) (z : Value) : Box2 t (w.setCell ⟨b, 0, none⟩ z) b z y := by
  unfold Box2 at h ⊢
  simp [World.setCell, Array.getElem?_modify, h]
theorem Box2.other {t : TypeId} {w : World} {b : Nat} {x y : Value} (h : Box2 t w b x y) (a : Addr) (z : Value) (hne : b ≠ a.block) : Box2 t (w.setCell a z) b x y := by
  unfold Box2 at h ⊢
  rw [Below.heap_setCell _ _ _ _ hne, h]
end Go.Proofs.Ytelabjipclfpnaa
