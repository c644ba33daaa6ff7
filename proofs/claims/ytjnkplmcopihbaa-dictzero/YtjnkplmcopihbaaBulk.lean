/-
  Of what came in: how much it is, cells of small types; of no function.
-/
import Derived.Test.YtjnkplmcopihbaaTrees
import Derived.Deep.Strs
namespace Go.Proofs.Ytjnkplmcopihbaa
open Go.RowKit Go.ChangeShapes Go.WideShapes

section
variable {H : Type}
theorem cells_i : Try.prog.cellsOf 3 = 1 := by kernel_rfl
theorem cells_s : Try.prog.cellsOf 9 = 1 := by kernel_rfl
theorem bulk_app (l r : List (DataW H)) : Rows.uptoBulkAll (l ++ r) = Rows.uptoBulkAll l + Rows.uptoBulkAll r := by
  induction l with
  | nil => simp [Rows.uptoBulkAll]
  | cons x l ih => simp only [List.cons_append, Rows.uptoBulkAll, ih]; omega
theorem bulk_range (D : Nat → DataW H) : ∀ n, Rows.uptoBulkAll ((List.range n).map D) = sumN (fun i => Rows.uptoBulk (D i)) n
  | 0 => rfl
  | n + 1 => by
    rw [List.range_succ, List.map_append, bulk_app, bulk_range D n]
    simp [sumN, Rows.uptoBulkAll]
theorem sumN_mono {f g : Nat → Nat} : ∀ {n : Nat}, (∀ i, i < n → f i ≤ g i) → sumN f n ≤ sumN g n
  | 0, _ => Nat.le_refl _
  | n + 1, h => by
    have h1 := sumN_mono (n := n) fun i hi => h i (by omega)
    have h2 := h n (by omega)
    simp only [sumN]
    omega
theorem add_none (b o j : Nat) : (Addr.mk b o none).add j = ⟨b, o + j, none⟩ := by
  unfold Addr.add
  split
  · simp
  · rfl
end
end Go.Proofs.Ytjnkplmcopihbaa
