/-
  Values that came in: one by itself, a slice of them by index.
-/
import Derived.Test.YtabhjmfacgbbgaaValMake
import Derived.Test.YtabhjmfacgbbgaaArgs
import Derived.Deep.Strs
import Derived.OpenShut
import Derived.ProofKit
namespace Go.Proofs.Ytabhjmfacgbbgaa
open Go.RowKit Go.ChangeShapes Go.WideShapes

section
variable {H : Type} {enc : TypeId × Value → H} {w : World} {base : Nat} {spare : Nat → Bool} {held : Bool}
theorem val_under : ∃ f0 f1 f2 : Field, Try.prog.underlying 30 = some (.struct #[f0, f1, f2]) ∧ f0.offset = 0 ∧ f1.offset = 1 ∧ f2.offset = 2 ∧ f0.type = 3 ∧ f1.type = 2 ∧ f2.type = 9 := ⟨_, _, _, Try.underlying30, rfl, rfl, rfl, rfl, rfl, rfl⟩
theorem cells_v : Try.prog.cellsOf 30 = 3 := by kernel_rfl
theorem cells_i : Try.prog.cellsOf 3 = 1 := by kernel_rfl
theorem cells_n : Try.prog.cellsOf 2 = 1 := by kernel_rfl
theorem cells_s : Try.prog.cellsOf 9 = 1 := by kernel_rfl
/-- The cells of a value, read. -/
theorem trod_val {fuel : Nat} {cs : List Value} {x : DataW H × List MemPlace} (h : DataW.trod enc Try.prog w base spare held fuel 30 cs = some x) :
    ∃ k n s, cs = [.int .i64 k, .int .i64 n, .string s] ∧ x = (.agg [.lit (.int .i64 k), .lit (.int .i64 n), .lit (.string s.data.toList)], []) ∧ (Lit.int .i64 k).wf = true ∧ (Lit.int .i64 n).wf = true ∧ s.size ≤ maxLen := by
  obtain ⟨f0, f1, f2, hu, o0, o1, o2, t0, t1, t2⟩ := val_under
  obtain ⟨y0, y1, y2, m, rfl, hl, g0, g1, g2⟩ := Deep.trod_struct3 hu h
  rw [cells_v] at hl
  rw [o0, t0, cells_i] at g0
  rw [o1, t1, cells_n] at g1
  rw [o2, t2, cells_s] at g2
  match cs, hl with
  | [c0, c1, c2], _ =>
    obtain ⟨k, e0, rfl, w0⟩ := DataW.trod_int Try.underlying3 g0
    obtain ⟨n, e1, rfl, w1⟩ := DataW.trod_int Try.underlying2 g1
    obtain ⟨s, e2, rfl, w2⟩ := DataW.trod_string Try.underlying9 g2
    simp at e0 e1 e2
    subst e0 e1 e2
    exact ⟨k, n, s, rfl, rfl, w0, w1, w2⟩
/-- A value that came in. -/
theorem open_val {v : Value} {d : DataW H} {p : List MemPlace} {r : Reach} {b0 : Nat} (hv : Value.okWide Try.prog w r b0 30 v) (h : DataW.Trod enc Try.prog w base spare held 30 v d p) :
    ∃ k n s, v = valV k n s ∧ (Lit.int .i64 k).wf = true ∧ (Lit.int .i64 n).wf = true ∧ s.size ≤ maxLen := by
  obtain ⟨f0, f1, f2, hu, -⟩ := val_under
  obtain ⟨cs, rfl, hc⟩ := okWide_struct hu hv
  obtain ⟨fuel, hf⟩ := h
  obtain ⟨k, n, s, e, -, w0, w1, w2⟩ := trod_val hf
  simp only [Value.cells] at e
  refine ⟨k, n, s, ?_, w0, w1, w2⟩
  have : cs = #[.int .i64 k, .int .i64 n, .string s] := by
    apply Array.ext'
    simpa using e
  rw [this]
end
end Go.Proofs.Ytabhjmfacgbbgaa
