/-
  What the rows' condition on word's two tables gives the walks: they lie as the program's text lays them.
-/
import Derived.Test.YtgmooknbfcdcoaaDoorQuoteTabs
import Derived.ProofKit
import Derived.LaidMore
import Derived.OpenShut
import Derived.Stop.Joined
import Derived.Lib.LaidTab
namespace Go.Proofs.YtgmooknbfcdcoaaDoor
open Go.ChangeShapes Go.WideShapes Go.ChangeAt Go.RowKit

def laidL : List (String × DataW Unit) := [("haruspex/word.escapes", Rows.laid_haruspex_word_escapes), ("haruspex/word.digits", Rows.laid_haruspex_word_digits)]
theorem gDig : Tryd.prog.globalNamed "haruspex/word.digits" = some 0 := by kernel_rfl
theorem gEsc : Tryd.prog.globalNamed "haruspex/word.escapes" = some 1 := by kernel_rfl
theorem tDig : (Tryd.prog.globals[0]?).map (·.type) = some 41 := by kernel_rfl
theorem tEsc : (Tryd.prog.globals[1]?).map (·.type) = some 47 := by kernel_rfl
theorem cellsU8 : Tryd.prog.cellsOf 5 = 1 := by kernel_rfl
theorem cellsInt : Tryd.prog.cellsOf 3 = 1 := by kernel_rfl
theorem cellsDig : Tryd.prog.cellsOf 41 = 16 := by kernel_rfl
theorem cellsE : Tryd.prog.cellsOf 46 = 2 := by kernel_rfl
theorem cellsEsc : Tryd.prog.cellsOf 47 = 6 := by kernel_rfl
theorem door_met (os : Os) (args : Array Value) : laidMetH Tryd.prog laidL ((World.doorLaid Tryd.prog 400 os).forCall (fun _ _ => 0) ⟨#[], args, []⟩).memory :=
  laidMetH_of_parts3 (fuel := 8) (laidMet_of_run' 8 (by kernel_rfl) (by kernel_rfl)) (by kernel_rfl) (by kernel_rfl)

theorem heap_of_var {W : World} {name : String} {g : Nat} {cs : Array Value} (hg : Tryd.prog.globalNamed name = some g) (hv : W.var? Tryd.prog name = some cs) : ∃ t f, W.heap[g]? = some (.cells cs t f) := by
  unfold World.var? at hv
  rw [hg] at hv
  simp only [Option.bind_some] at hv
  split at hv
  · rename_i c t f hh
    cases hv
    exact ⟨t, f, hh⟩
  · cases hv
theorem row_of_escape {H : Type} {enc : TypeId × Value → H} {w : World} {base : Nat} {sp : Nat → Bool} {held : Bool} {fuel : Nat} {cs : List Value} {a b : Int} {p : List MemPlace}
    (h : DataW.trod enc Tryd.prog w base sp held fuel 46 cs = some (.agg [.lit (.int .u8 a), .lit (.int .i64 b)], p)) : cs = [.int .u8 a, .int .i64 b] := by
  obtain ⟨y0, y1, n, hx, hl, h0, h1⟩ := trod_struct2 Tryd.underlying46 h
  obtain ⟨m, e0, f0, _⟩ := DataW.trod_int Tryd.underlying5 h0
  obtain ⟨k, e1, f1, _⟩ := DataW.trod_int Tryd.underlying3 h1
  rw [f0, f1] at hx
  simp only [Prod.mk.injEq, DataW.agg.injEq, List.cons.injEq, DataW.lit.injEq, Lit.int.injEq, true_and, and_true] at hx
  obtain ⟨⟨rfl, rfl⟩, _⟩ := hx
  rw [cellsE] at hl
  rw [cellsU8] at e0
  rw [cellsInt] at e1
  match cs, hl with
  | [x, y], _ =>
    simp at e0 e1
    rw [e0, e1]
theorem esc_of_trod {H : Type} {enc : TypeId × Value → H} {w : World} {base : Nat} {sp : Nat → Bool} {held : Bool} {fuel : Nat} {cs : List Value} {p : List MemPlace}
    (h : DataW.trod enc Tryd.prog w base sp held fuel 47 cs = some (Rows.laid_haruspex_word_escapes, p)) : cs = escC.toList := by
  obtain ⟨xs, m, _, hx, hl, hn, hel⟩ := DataW.trod_array Tryd.underlying47 h
  rw [cellsEsc] at hl
  have e0 := hel 0 (by omega)
  have e1 := hel 1 (by omega)
  have e2 := hel 2 (by omega)
  rw [cellsE] at e0 e1 e2
  match xs, hn with
  | [x0, x1, x2], _ =>
    unfold Rows.laid_haruspex_word_escapes at hx
    simp only [Prod.mk.injEq, DataW.agg.injEq, List.map_cons, List.map_nil, List.cons.injEq, and_true] at hx
    obtain ⟨⟨a0, a1, a2⟩, _⟩ := hx
    obtain ⟨x0, p0⟩ := x0
    obtain ⟨x1, p1⟩ := x1
    obtain ⟨x2, p2⟩ := x2
    dsimp only at a0 a1 a2
    subst a0 a1 a2
    have r0 := row_of_escape (show _ = some (_, p0) from e0)
    have r1 := row_of_escape (show _ = some (_, p1) from e1)
    have r2 := row_of_escape (show _ = some (_, p2) from e2)
    match cs, hl with
    | [c0, c1, c2, c3, c4, c5], _ =>
      simp at r0 r1 r2
      simp [r0, r1, r2, escC]
theorem tabs_of_laid {W : World} (h : laidMetH Tryd.prog laidL W) : Tabs W := by
  rw [MakeChecks.laidMetH_plain _ _ _ (by kernel_rfl)] at h
  obtain ⟨ps, ⟨g0, t0, cs0, f0, p0, q0, hg0, ht0, hv0, hd0, ⟨g1, t1, cs1, f1, p1, q1, hg1, ht1, hv1, hd1, _, _⟩, _⟩, _, _⟩ := h
  obtain rfl := Option.some.inj (gEsc.symm.trans hg0)
  obtain rfl := Option.some.inj (gDig.symm.trans hg1)
  obtain rfl := Option.some.inj (tEsc.symm.trans ht0)
  obtain rfl := Option.some.inj (tDig.symm.trans ht1)
  have e1 : cs1.toList = _ := Lib.cells_of_tab (zs := [48, 49, 50, 51, 52, 53, 54, 55, 56, 57, 97, 98, 99, 100, 101, 102]) Tryd.underlying41 Tryd.underlying5 cellsU8 cellsDig hd1
  have e0 := esc_of_trod hd0
  obtain rfl : cs0 = escC := Array.toList_inj.1 e0
  obtain rfl : cs1 = digC := Array.toList_inj.1 e1
  exact ⟨heap_of_var gDig hv1, heap_of_var gEsc hv0⟩
end Go.Proofs.YtgmooknbfcdcoaaDoor
