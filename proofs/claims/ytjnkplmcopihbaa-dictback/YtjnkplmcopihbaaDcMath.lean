/-
  Texts by numbers: plain facts on rows of texts, of no program.
-/
import Derived.Test.YtjnkplmcopihbaaVarMap
import Derived.Test.YtjnkplmcopihbaaTextRows
namespace Go.Proofs.Ytjnkplmcopihbaa
open Go.RowKit

/-- The number of a text: its first place. -/
def numL (L : List ByteArray) (s : ByteArray) : Option Nat := L.findIdx? fun t => decide (t = s)
theorem numL_nil (s : ByteArray) : numL [] s = none := rfl
theorem numL_none {L : List ByteArray} {s : ByteArray} : numL L s = none ↔ s ∉ L := by
  rw [numL, List.findIdx?_eq_none_iff]
  constructor
  · intro h hs
    have := h s hs
    simp at this
  · intro h x hx
    rw [decide_eq_false_iff_not]
    intro e
    exact h (e ▸ hx)
theorem numL_lt {L : List ByteArray} {s : ByteArray} {j : Nat} (h : numL L s = some j) : j < L.length ∧ atS L j = s ∧ ∀ i, i < j → atS L i ≠ s := by
  rw [numL, List.findIdx?_eq_some_iff_getElem] at h
  obtain ⟨hj, h1, h2⟩ := h
  refine ⟨hj, by simpa [atS, hj] using of_decide_eq_true h1, fun i hi e => ?_⟩
  refine h2 i hi (decide_eq_true ?_)
  rw [← e]
  simp [atS, show i < L.length by omega]
theorem numL_at {L : List ByteArray} {s : ByteArray} {j : Nat} (hj : j < L.length) (h1 : atS L j = s) (h2 : ∀ i, i < j → atS L i ≠ s) : numL L s = some j := by
  rw [numL, List.findIdx?_eq_some_iff_getElem]
  refine ⟨hj, decide_eq_true (by simpa [atS, hj] using h1), fun i hi e => h2 i hi ?_⟩
  have := of_decide_eq_true e
  rw [← this]
  simp [atS, show i < L.length by omega]
theorem numL_push {L : List ByteArray} {s : ByteArray} (h : numL L s = none) (t : ByteArray) : numL (L ++ [s]) t = if t = s then some L.length else numL L t := by
  have hs := numL_none.1 h
  by_cases e : t = s
  · subst e
    rw [if_pos rfl]
    refine numL_at (by simp) (by simp [atS]) fun i hi e => hs ?_
    rw [← e]
    simp [atS, List.getElem?_append_left hi, hi]
  · rw [if_neg e]
    simp only [numL, List.findIdx?_append, List.findIdx?_cons, List.findIdx?_nil]
    rw [decide_eq_false (fun q : s = t => e q.symm)]
    simp
/-- P23.1's Add: the number, the error, the texts behind it. -/
def addZ (most : Int) (L : List ByteArray) (s : ByteArray) : Int × Int × List ByteArray := match numL L s with
  | some j => ((j : Int), 0, L)
  | none => if 256 < s.size ∨ (L.length : Int) = most then (0, 2, L) else ((L.length : Int), 0, L ++ [s])
/-- P23.1's Get. -/
def dgetZ (L : List ByteArray) (i : Int) : ByteArray × Int := if 0 ≤ i ∧ i < L.length then (atS L i.toNat, 0) else (⟨#[]⟩, 6)
/-- P23.1's Find. -/
def dnumZ (L : List ByteArray) (s : ByteArray) : Int := match numL L s with
  | some j => (j : Int)
  | none => 0
/-- A row of texts of which none is there twice and none is too long, and no more than there may be. -/
structure Txt1 (most : Int) (L : List ByteArray) : Prop where
  nd : L.Nodup
  sz : ∀ s ∈ L, s.size ≤ 256
  fit : (L.length : Int) ≤ most
  m1 : most ≤ 4096
theorem Txt1.nil {most : Int} (h0 : 0 ≤ most) (h1 : most ≤ 4096) : Txt1 most [] := ⟨List.nodup_nil, (by intro s hs; cases hs), by simpa using h0, h1⟩
theorem Txt1.push {most : Int} {L : List ByteArray} {s : ByteArray} (h : Txt1 most L) (hs : numL L s = none) (hz : s.size ≤ 256) (hl : (L.length : Int) ≠ most) : Txt1 most (L ++ [s]) := by
  have hf := h.fit
  refine ⟨?_, ?_, by rw [List.length_append, List.length_singleton]; omega, h.m1⟩
  · rw [List.nodup_append]
    refine ⟨h.nd, by simp, fun a ha b hb e => numL_none.1 hs ?_⟩
    obtain rfl := List.mem_singleton.1 hb
    exact e ▸ ha
  · intro x hx
    rcases List.mem_append.1 hx with hx | hx
    · exact h.sz x hx
    · obtain rfl := List.mem_singleton.1 hx
      exact hz
theorem addZ_ok {most : Int} {L : List ByteArray} (h : Txt1 most L) (s : ByteArray) : Txt1 most (addZ most L s).2.2 := by
  unfold addZ
  split
  · exact h
  · next hn =>
    split
    · exact h
    · next hc => exact h.push hn (by omega) (by omega)
end Go.Proofs.Ytjnkplmcopihbaa
