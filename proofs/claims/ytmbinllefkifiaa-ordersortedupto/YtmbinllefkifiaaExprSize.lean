/-
  expr.Size.
-/
import Derived.Test.YtmbinllefkifiaaExprNodes
namespace Go.Proofs.Ytmbinllefkifiaa
open Go.RowKit Go.Shelf
attribute [local go_sem] Oper.semAt_some

/-- The seven cells of a condition as one value. -/
abbrev X.cells (x : X) : Array Value := #[.int .i64 x.k, .int .i64 x.v.k, .int .i64 x.v.n, .string x.v.s, .string x.s, .string x.f, .slice x.a x.n x.cap]
theorem node_box {w : World} {B : Nat} {t : TypeId} {x : X} (h : w.heap[B]? = some (.cells x.cells t (0, 0))) : Node w B 0 x := by
  refine ⟨?_, ?_, ?_, ?_, ?_, ?_, ?_⟩ <;> simp [World.cell?, h]
theorem node_new (w : World) (t : TypeId) (x : X) : Node (w.alloc (.cells x.cells t)) w.heap.size 0 x := node_box (World.alloc_heap_new w _)
theorem length_vis : ∀ (x : X) (d : Int), (visX d x).length = x.size := by
  refine X.ind fun x ih d => ?_
  have : ∀ m, m ≤ x.n → (catN (fun i => visX (IntKind.i64.wrap (d + 1)) (x.c i)) m).length = sumN (fun i => (x.c i).size) m := by
    intro m
    induction m with
    | zero => intro _; rfl
    | succ m ihm => intro hm; simp only [catN, sumN, List.length_append]; rw [ihm (by omega), ih m (by omega)]
  rw [visX_eq, X.size_eq, List.length_cons, this _ (Nat.le_refl _)]
  omega
end Go.Proofs.Ytmbinllefkifiaa
