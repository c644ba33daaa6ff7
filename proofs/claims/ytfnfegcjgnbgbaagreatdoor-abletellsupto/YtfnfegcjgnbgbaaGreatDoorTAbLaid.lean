/-
  What the rows' condition on able's three tables gives the walks: they lie as the program's text lays them.
-/
import Derived.Test.YtfnfegcjgnbgbaaGreatDoorTAbWay
import Derived.ProofKit
import Derived.LaidMore
import Derived.OpenShut
import Derived.Stop.Joined
import Derived.Lib.LaidTab
import Derived.Lib.LaidU8
namespace Go.Proofs.YtfnfegcjgnbgbaaGreatDoor
open Go.ChangeShapes Go.WideShapes Go.ChangeAt Go.RowKit

def laidA : List (String × DataW Unit) := [("haruspex/able.lacked", Rows.laid_haruspex_able_lacked), ("haruspex/able.words", Rows.laid_haruspex_able_words), ("haruspex/able.modes", Rows.laid_haruspex_able_modes)]
theorem gLac : Tryz.prog.globalNamed "haruspex/able.lacked" = some 1 := by kernel_rfl
theorem gWor : Tryz.prog.globalNamed "haruspex/able.words" = some 2 := by kernel_rfl
theorem gMod : Tryz.prog.globalNamed "haruspex/able.modes" = some 0 := by kernel_rfl
theorem tLac : (Tryz.prog.globals[1]?).map (·.type) = some 72 := by kernel_rfl
theorem tWor : (Tryz.prog.globals[2]?).map (·.type) = some 73 := by kernel_rfl
theorem tMod : (Tryz.prog.globals[0]?).map (·.type) = some 67 := by kernel_rfl
theorem cellsB1 : Tryz.prog.cellsOf 4 = 1 := by kernel_rfl
theorem cellsS1 : Tryz.prog.cellsOf 9 = 1 := by kernel_rfl
theorem cellsI1 : Tryz.prog.cellsOf 3 = 1 := by kernel_rfl
theorem cellsB15 : Tryz.prog.cellsOf 71 = 15 := by kernel_rfl
theorem cellsB60 : Tryz.prog.cellsOf 72 = 60 := by kernel_rfl
theorem cellsS15 : Tryz.prog.cellsOf 73 = 15 := by kernel_rfl
theorem cellsI3 : Tryz.prog.cellsOf 67 = 3 := by kernel_rfl
theorem door_met (os : Os) (args : Array Value) : laidMetH Tryz.prog laidA ((World.doorLaid Tryz.prog 400 os).forCall (fun _ _ => 0) ⟨#[], args, []⟩).memory :=
  laidMetH_of_parts3 (fuel := 8) (laidMet_of_run' 8 (by kernel_rfl) (by kernel_rfl)) (by kernel_rfl) (by kernel_rfl)
theorem heap_of_var {W : World} {name : String} {g : Nat} {cs : Array Value} (hg : Tryz.prog.globalNamed name = some g) (hv : W.var? Tryz.prog name = some cs) : ∃ t f, W.heap[g]? = some (.cells cs t f) := by
  unfold World.var? at hv
  rw [hg] at hv
  simp only [Option.bind_some] at hv
  split at hv
  · rename_i c t f hh
    cases hv
    exact ⟨t, f, hh⟩
  · cases hv
theorem lac_data {H : Type} : (Rows.laid_haruspex_able_lacked : DataW H) = .agg ((List.range 4).map fun i => .agg ((List.range 15).map fun k => .lit (.bool (lacksB (i : Nat) (k : Nat))))) := rfl
theorem one_at {cs : List Value} {i : Nat} {v : Value} (h : (cs.drop i).take 1 = [v]) : cs[i]? = some v := by
  have := congrArg (·[0]?) h
  simpa [List.getElem?_take, List.getElem?_drop] using this
theorem lac_of_trod {H : Type} {enc : TypeId × Value → H} {w : World} {base : Nat} {sp : Nat → Bool} {held : Bool} {fuel : Nat} {cs : List Value} {p : List MemPlace}
    (h : DataW.trod enc Tryz.prog w base sp held fuel 72 cs = some (Rows.laid_haruspex_able_lacked, p)) : cs = lackL := by
  have hl : cs.length = 60 := by
    obtain ⟨xs, m, _, hx, hl, hn, hel⟩ := DataW.trod_array Tryz.underlying72 h
    rwa [cellsB60] at hl
  rw [lac_data] at h
  apply List.ext_getElem?
  intro j
  by_cases hj : j < 60
  · obtain ⟨f1, d1, q1, hd1, he1⟩ := Lib.array_elem Tryz.underlying72 h (j / 15) (by omega)
    rw [List.getElem?_map, List.getElem?_range (by omega)] at hd1
    simp only [Option.map_some, Option.some.injEq] at hd1
    subst hd1
    obtain ⟨f2, d2, q2, hd2, he2⟩ := Lib.array_elem Tryz.underlying71 he1 (j % 15) (by omega)
    rw [List.getElem?_map, List.getElem?_range (by omega)] at hd2
    simp only [Option.map_some, Option.some.injEq] at hd2
    subst hd2
    obtain ⟨b, e1, e2⟩ := DataW.trod_bool Tryz.underlying4 he2
    simp only [Prod.mk.injEq, DataW.lit.injEq, Lit.bool.injEq] at e2
    rw [cellsB1, Nat.mul_one, cellsB15] at e1
    have h1 := one_at e1
    rw [List.getElem?_take, if_pos (by omega), List.getElem?_drop, show j / 15 * 15 + j % 15 = j by omega] at h1
    rw [h1, ← e2.1]
    simp only [lackL, List.getElem?_map, List.getElem?_range hj, Option.map_some]
  · rw [List.getElem?_eq_none (by omega), List.getElem?_eq_none (by simp [lackL]; omega)]
theorem wor_of_trod {H : Type} {enc : TypeId × Value → H} {w : World} {base : Nat} {sp : Nat → Bool} {held : Bool} {fuel : Nat} {cs : List Value} {p : List MemPlace}
    (h : DataW.trod enc Tryz.prog w base sp held fuel 73 cs = some (Rows.laid_haruspex_able_words, p)) : cs = wordC.toList := by
  have hl : cs.length = 15 := by
    obtain ⟨xs, m, _, hx, hl, hn, hel⟩ := DataW.trod_array Tryz.underlying73 h
    rwa [cellsS15] at hl
  have hd : (Rows.laid_haruspex_able_words : DataW H) = .agg (wordD.map fun b => .lit (.string b)) := rfl
  have hc : wordC.toList = wordD.map fun b => Value.string ⟨b.toArray⟩ := rfl
  rw [hd] at h
  rw [hc]
  apply List.ext_getElem?
  intro i
  by_cases hi : i < 15
  · obtain ⟨fuel', d, q, hdi, he⟩ := Lib.array_elem Tryz.underlying73 h i hi
    obtain ⟨s, e1, e2, _⟩ := DataW.trod_string Tryz.underlying9 he
    rw [cellsS1, Nat.mul_one] at e1
    have h1 := one_at e1
    simp only [Prod.mk.injEq] at e2
    rw [e2.1, List.getElem?_map, Option.map_eq_some_iff] at hdi
    obtain ⟨b, hb, hb2⟩ := hdi
    simp only [DataW.lit.injEq, Lit.string.injEq] at hb2
    rw [h1, List.getElem?_map, hb, hb2]
    rfl
  · rw [List.getElem?_eq_none (by omega), List.getElem?_eq_none (by rw [List.length_map]; show 15 ≤ i; omega)]
theorem tabs_of_laid {W : World} (h : laidMetH Tryz.prog laidA W) : AbT W := by
  rw [MakeChecks.laidMetH_plain _ _ _ (by kernel_rfl)] at h
  have r0 := Lib.laidMet.reads h (n := "haruspex/able.lacked") (d := Rows.laid_haruspex_able_lacked) (.head _)
  have r1 := Lib.laidMet.reads h (n := "haruspex/able.words") (d := Rows.laid_haruspex_able_words) (.tail _ (.head _))
  have r2 := Lib.laidMet.reads h (n := "haruspex/able.modes") (d := Rows.laid_haruspex_able_modes) (.tail _ (.tail _ (.head _)))
  refine ⟨?_, ?_, ?_⟩
  · obtain ⟨g, t, cs, fuel, p, hg, hty, hvar, hd⟩ := r2
    obtain rfl := Option.some.inj (gMod.symm.trans hg)
    obtain rfl := Option.some.inj (tMod.symm.trans hty)
    have e1 : cs.toList = _ := Lib.cells_of_tab (zs := [9, 10, 11]) Tryz.underlying67 Tryz.underlying3 cellsI1 cellsI3 hd
    obtain rfl : cs = modeC := Array.toList_inj.1 e1
    exact heap_of_var gMod hvar
  · obtain ⟨g, t, cs, fuel, p, hg, hty, hvar, hd⟩ := r0
    obtain rfl := Option.some.inj (gLac.symm.trans hg)
    obtain rfl := Option.some.inj (tLac.symm.trans hty)
    obtain rfl : cs = lackL.toArray := Array.toList_inj.1 (by rw [lac_of_trod hd])
    exact heap_of_var gLac hvar
  · obtain ⟨g, t, cs, fuel, p, hg, hty, hvar, hd⟩ := r1
    obtain rfl := Option.some.inj (gWor.symm.trans hg)
    obtain rfl := Option.some.inj (tWor.symm.trans hty)
    obtain rfl : cs = wordC := Array.toList_inj.1 (wor_of_trod hd)
    exact heap_of_var gWor hvar
end Go.Proofs.YtfnfegcjgnbgbaaGreatDoor
