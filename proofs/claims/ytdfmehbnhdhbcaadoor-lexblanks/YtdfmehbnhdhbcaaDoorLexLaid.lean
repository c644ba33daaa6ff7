/-
  What the rows' condition on the tables gives the walks: word's two, lex's signs and utf8's two lie as the program's text lays them.
-/
import Derived.Test.YtdfmehbnhdhbcaaDoorLexTabs
import Derived.ProofKit
import Derived.OpenShut
import Derived.Stop.Joined
import Derived.LaidMore
import Derived.Lib.LaidTab
import Derived.Lib.LaidU8T
import Derived.PinnedBridge
import Derived.Lay
namespace Go.Proofs.YtdfmehbnhdhbcaaDoor
open Go.ChangeShapes Go.WideShapes Go.ChangeAt Go.RowKit

def laidX : List (String × DataW Unit) := [("haruspex/word.escapes", Rows.laid_haruspex_word_escapes), ("haruspex/word.digits", Rows.laid_haruspex_word_digits), ("unicode/utf8.acceptRanges", Rows.laid_unicode_utf8_acceptRanges), ("haruspex/lex.signs", Rows.laid_haruspex_lex_signs), ("unicode/utf8.first", Rows.laid_unicode_utf8_first)]
theorem gDig : Tryd.prog.globalNamed "haruspex/word.digits" = some 4 := by kernel_rfl
theorem gEsc : Tryd.prog.globalNamed "haruspex/word.escapes" = some 3 := by kernel_rfl
theorem gSig : Tryd.prog.globalNamed "haruspex/lex.signs" = some 0 := by kernel_rfl
theorem tDig : (Tryd.prog.globals[4]?).map (·.type) = some 65 := by kernel_rfl
theorem tEsc : (Tryd.prog.globals[3]?).map (·.type) = some 64 := by kernel_rfl
theorem tSig : (Tryd.prog.globals[0]?).map (·.type) = some 53 := by kernel_rfl
theorem cellsU8 : Tryd.prog.cellsOf 5 = 1 := by kernel_rfl
theorem cellsInt : Tryd.prog.cellsOf 3 = 1 := by kernel_rfl
theorem cellsStr : Tryd.prog.cellsOf 9 = 1 := by kernel_rfl
theorem cellsSig : Tryd.prog.cellsOf 53 = 22 := by kernel_rfl
theorem cellsDig : Tryd.prog.cellsOf 65 = 16 := by kernel_rfl
theorem cellsE : Tryd.prog.cellsOf 63 = 2 := by kernel_rfl
theorem cellsEsc : Tryd.prog.cellsOf 64 = 6 := by kernel_rfl
/-- A start where the tables lie so. -/
theorem door_met (os : Os) (args : Array Value) : laidMetH Tryd.prog laidX ((World.laidAll Tryd.prog os laidX).forCall (fun _ _ => 0) ⟨#[], args, []⟩).memory := by
  rw [MakeChecks.laidMetH_plain _ _ _ (by kernel_rfl)]
  exact laidMet_laidAll _ (by kernel_rfl) (by kernel_rfl)

theorem heap_of_var {W : World} {name : String} {g : Nat} {cs : Array Value} (hg : Tryd.prog.globalNamed name = some g) (hv : W.var? Tryd.prog name = some cs) : ∃ t f, W.heap[g]? = some (.cells cs t f) := by
  unfold World.var? at hv
  rw [hg] at hv
  simp only [Option.bind_some] at hv
  split at hv
  · rename_i c t f hh
    cases hv
    exact ⟨t, f, hh⟩
  · cases hv
theorem row_of_escape {H : Type} {enc : TypeId × Value → H} {w : World} {base : Nat} {sp : Nat → Bool} {held : Bool} {fuel : Nat} {cs : List Value} {a b : Int} {p : List MemPlace}
    (h : DataW.trod enc Tryd.prog w base sp held fuel 63 cs = some (.agg [.lit (.int .u8 a), .lit (.int .i64 b)], p)) : cs = [.int .u8 a, .int .i64 b] := by
  obtain ⟨y0, y1, n, hx, hl, h0, h1⟩ := trod_struct2 Tryd.underlying63 h
  obtain ⟨m, e0, f0, _⟩ := DataW.trod_int Tryd.underlying5 h0
  obtain ⟨k, e1, f1, _⟩ := DataW.trod_int Tryd.underlying3 h1
  rw [f0, f1] at hx
  simp only [Prod.mk.injEq, DataW.agg.injEq, List.cons.injEq, DataW.lit.injEq, Lit.int.injEq, true_and, and_true] at hx
  obtain ⟨⟨rfl, rfl⟩, _⟩ := hx
  rw [cellsE] at hl
  rw [cellsU8] at e0
  rw [cellsInt] at e1
  match cs, hl with
  | [x, y], _ =>
    simp at e0 e1
    rw [e0, e1]
theorem esc_of_trod {H : Type} {enc : TypeId × Value → H} {w : World} {base : Nat} {sp : Nat → Bool} {held : Bool} {fuel : Nat} {cs : List Value} {p : List MemPlace}
    (h : DataW.trod enc Tryd.prog w base sp held fuel 64 cs = some (Rows.laid_haruspex_word_escapes, p)) : cs = escC.toList := by
  obtain ⟨xs, m, _, hx, hl, hn, hel⟩ := DataW.trod_array Tryd.underlying64 h
  rw [cellsEsc] at hl
  have e0 := hel 0 (by omega)
  have e1 := hel 1 (by omega)
  have e2 := hel 2 (by omega)
  rw [cellsE] at e0 e1 e2
  match xs, hn with
  | [x0, x1, x2], _ =>
    unfold Rows.laid_haruspex_word_escapes at hx
    simp only [Prod.mk.injEq, DataW.agg.injEq, List.map_cons, List.map_nil, List.cons.injEq, and_true] at hx
    obtain ⟨⟨a0, a1, a2⟩, _⟩ := hx
    obtain ⟨x0, p0⟩ := x0
    obtain ⟨x1, p1⟩ := x1
    obtain ⟨x2, p2⟩ := x2
    dsimp only at a0 a1 a2
    subst a0 a1 a2
    have r0 := row_of_escape (show _ = some (_, p0) from e0)
    have r1 := row_of_escape (show _ = some (_, p1) from e1)
    have r2 := row_of_escape (show _ = some (_, p2) from e2)
    match cs, hl with
    | [c0, c1, c2, c3, c4, c5], _ =>
      simp at r0 r1 r2
      simp [r0, r1, r2, escC]
def sgD : List (List UInt8) := [[60, 61], [62, 61], [60, 62], [45, 62], [40], [41], [44], [46], [43], [45], [42], [47], [37], [61], [60], [62], [33], [124], [123], [125], [91], [93]]
theorem sg_of_trod {H : Type} {enc : TypeId × Value → H} {w : World} {base : Nat} {sp : Nat → Bool} {held : Bool} {fuel : Nat} {cs : List Value} {p : List MemPlace}
    (h : DataW.trod enc Tryd.prog w base sp held fuel 53 cs = some (Rows.laid_haruspex_lex_signs, p)) : cs = sgC.toList := by
  have hl : cs.length = 22 := by
    obtain ⟨xs, m, _, hx, hl, hn, hel⟩ := DataW.trod_array Tryd.underlying53 h
    rwa [cellsSig] at hl
  have hd : (Rows.laid_haruspex_lex_signs : DataW H) = .agg (sgD.map fun b => .lit (.string b)) := rfl
  have hc : sgC.toList = sgD.map fun b => Value.string ⟨b.toArray⟩ := rfl
  rw [hd] at h
  rw [hc]
  apply List.ext_getElem?
  intro i
  by_cases hi : i < 22
  · obtain ⟨fuel', d, q, hdi, he⟩ := Lib.array_elem Tryd.underlying53 h i hi
    obtain ⟨s, e1, e2, _⟩ := DataW.trod_string Tryd.underlying9 he
    rw [cellsStr, Nat.mul_one] at e1
    have h1 : cs[i]? = some (.string s) := by
      have := congrArg (·[0]?) e1
      simpa [List.getElem?_take, List.getElem?_drop] using this
    simp only [Prod.mk.injEq] at e2
    rw [e2.1, List.getElem?_map, Option.map_eq_some_iff] at hdi
    obtain ⟨b, hb, hb2⟩ := hdi
    simp only [DataW.lit.injEq, Lit.string.injEq] at hb2
    rw [h1, List.getElem?_map, hb, hb2]
    rfl
  · rw [List.getElem?_eq_none (by omega), List.getElem?_eq_none (by rw [List.length_map]; show 22 ≤ i; omega)]
theorem acc_eq : (Rows.laid_unicode_utf8_acceptRanges : DataW Unit) = Lib.acceptData := by kernel_rfl
theorem fst_eq : Rows.laid_unicode_utf8_first = Lib.firstData := Pinned.utf8First_eq
theorem tabs_of_laid {W : World} (h : laidMetH Tryd.prog laidX W) : LexT W := by
  rw [MakeChecks.laidMetH_plain _ _ _ (by kernel_rfl)] at h
  have r0 := Lib.laidMet.reads h (n := "haruspex/word.escapes") (d := Rows.laid_haruspex_word_escapes) (.head _)
  have r1 := Lib.laidMet.reads h (n := "haruspex/word.digits") (d := Rows.laid_haruspex_word_digits) (.tail _ (.head _))
  have r2 := Lib.laidMet.reads h (n := "unicode/utf8.acceptRanges") (d := Rows.laid_unicode_utf8_acceptRanges) (.tail _ (.tail _ (.head _)))
  have r3 := Lib.laidMet.reads h (n := "haruspex/lex.signs") (d := Rows.laid_haruspex_lex_signs) (.tail _ (.tail _ (.tail _ (.head _))))
  have r4 := Lib.laidMet.reads h (n := "unicode/utf8.first") (d := Rows.laid_unicode_utf8_first) (.tail _ (.tail _ (.tail _ (.tail _ (.head _)))))
  rw [acc_eq] at r2
  rw [fst_eq] at r4
  refine ⟨⟨?_, ?_⟩, utf8Tabs_of_readsT (U8Types.of260 Tryd.lays260) ⟨by kernel_rfl, by kernel_rfl, by kernel_rfl, by kernel_rfl, by kernel_rfl, by kernel_rfl, by kernel_rfl⟩ r4 r2, ?_⟩
  · obtain ⟨g, t, cs, fuel, p, hg, hty, hvar, hd⟩ := r1
    obtain rfl := Option.some.inj (gDig.symm.trans hg)
    obtain rfl := Option.some.inj (tDig.symm.trans hty)
    have e1 : cs.toList = _ := Lib.cells_of_tab (zs := [48, 49, 50, 51, 52, 53, 54, 55, 56, 57, 97, 98, 99, 100, 101, 102]) Tryd.underlying65 Tryd.underlying5 cellsU8 cellsDig hd
    obtain rfl : cs = digC := Array.toList_inj.1 e1
    exact heap_of_var gDig hvar
  · obtain ⟨g, t, cs, fuel, p, hg, hty, hvar, hd⟩ := r0
    obtain rfl := Option.some.inj (gEsc.symm.trans hg)
    obtain rfl := Option.some.inj (tEsc.symm.trans hty)
    obtain rfl : cs = escC := Array.toList_inj.1 (esc_of_trod hd)
    exact heap_of_var gEsc hvar
  · obtain ⟨g, t, cs, fuel, p, hg, hty, hvar, hd⟩ := r3
    obtain rfl := Option.some.inj (gSig.symm.trans hg)
    obtain rfl := Option.some.inj (tSig.symm.trans hty)
    obtain rfl : cs = sgC := Array.toList_inj.1 (sg_of_trod hd)
    exact heap_of_var gSig hvar
end Go.Proofs.YtdfmehbnhdhbcaaDoor
