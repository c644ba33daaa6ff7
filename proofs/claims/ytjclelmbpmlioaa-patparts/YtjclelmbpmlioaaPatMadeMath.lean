/-
  When a pattern is well made: plain facts, of no function.
-/
import Derived.Test.YtjclelmbpmlioaaPatRightMath
namespace Go.Proofs.Ytjclelmbpmlioaa
open Go.RowKit

/-- May a PNot stand at place i among the parts? -/
def notB (x : Pt) (whole : Bool) (i : Nat) : Bool := !((x.c i).k == 6) || (x.k == 2 && (!(i == 0) && (!((x.c (i - 1)).k == 6) && (!(i + 1 == x.n) || whole))))
def betweenB (x : Pt) (whole : Bool) : Bool := allN (notB x whole) x.n
/-- No Var stands in two parts. -/
def Apart (x : Pt) : Prop := ∀ i j, i < j → j < x.n → ∀ a ∈ usesP (x.c i), ∀ b ∈ usesP (x.c j), a.s ≠ b.s
/-- Two nodes with one Var that may stand in parts of a POr. -/
def Agree (a b : Pt) : Prop := a.t = b.t ∧ (a.k = 6 ↔ b.k = 6)
def AlikeP (x : Pt) : Prop := ∀ a ∈ usesP x, ∀ b ∈ usesP x, a.s = b.s → Agree a b
/-- Well made, as pat.Made asks. -/
def MadeP (x : Pt) : Prop := x.k ≠ 6 ∧ AlikeP x ∧ ∀ v ∈ visP 1 x, betweenB v.2 (v.1 == 1) = true ∧ (v.2.k = 4 ∨ Apart v.2)
/-- One more name, if it is new. -/
def addU (l : List Pt) (y : Pt) : List Pt := if l.any (fun z => decide (z.s = y.s)) = true then l else l ++ [y]
/-- The nodes where names stand first. -/
def firstL (l : List Pt) : List Pt := l.foldl addU []
theorem firstL_snoc (l : List Pt) (y : Pt) : firstL (l ++ [y]) = addU (firstL l) y := by simp [firstL]
/-- A name's place among them. -/
def idxF (l : List Pt) (s : ByteArray) : Option Nat := l.findIdx? (fun y => decide (y.s = s))
theorem idxF_nil (s : ByteArray) : idxF [] s = none := rfl
theorem idxF_some {l : List Pt} {s : ByteArray} {i : Nat} (h : idxF l s = some i) : ∃ y, l[i]? = some y ∧ y.s = s := by
  unfold idxF at h
  obtain ⟨hl, h1, _⟩ := List.findIdx?_eq_some_iff_getElem.1 h
  exact ⟨l[i], List.getElem?_eq_getElem hl, by simpa using h1⟩
theorem idxF_none {l : List Pt} {s : ByteArray} : idxF l s = none ↔ ∀ y ∈ l, y.s ≠ s := by
  unfold idxF
  rw [List.findIdx?_eq_none_iff]
  constructor
  · intro h y hy e; have := h y hy; simp [e] at this
  · intro h y hy; simpa using h y hy
theorem addU_some {l : List Pt} {y : Pt} {i : Nat} (h : idxF l y.s = some i) : addU l y = l := by
  obtain ⟨z, hz, e⟩ := idxF_some h
  unfold addU
  rw [if_pos (List.any_eq_true.2 ⟨z, List.mem_of_getElem? hz, by simp [e]⟩)]
theorem addU_none {l : List Pt} {y : Pt} (h : idxF l y.s = none) : addU l y = l ++ [y] := by
  unfold addU
  rw [if_neg]
  intro e
  obtain ⟨z, hz, q⟩ := List.any_eq_true.1 e
  exact (idxF_none.1 h) z hz (by simpa using q)
theorem idxF_snoc {l : List Pt} {y : Pt} (h : idxF l y.s = none) (s : ByteArray) : idxF (l ++ [y]) s = if s = y.s then some l.length else idxF l s := by
  by_cases e : s = y.s
  · rw [if_pos e, e]
    unfold idxF at h ⊢
    rw [List.findIdx?_append, h]
    simp [List.findIdx?_cons]
  · rw [if_neg e]
    unfold idxF
    rw [List.findIdx?_append]
    have : ([y] : List Pt).findIdx? (fun z => decide (z.s = s)) = none := by
      simp [List.findIdx?_cons, show ¬ y.s = s from fun q => e q.symm]
    rw [this]
    simp
theorem mem_firstL : ∀ {l : List Pt} {y : Pt}, y ∈ firstL l → y ∈ l := by
  have key : ∀ (l acc : List Pt) (y : Pt), y ∈ l.foldl addU acc → y ∈ acc ∨ y ∈ l := by
    intro l
    induction l with
    | nil => intro acc y h; exact .inl h
    | cons z l ih =>
      intro acc y h
      rcases ih (addU acc z) y h with h | h
      · unfold addU at h
        split at h
        · exact .inl h
        · rcases List.mem_append.1 h with h | h
          · exact .inl h
          · rw [List.mem_singleton] at h; exact .inr (by rw [h]; simp)
      · exact .inr (List.mem_cons_of_mem _ h)
  intro l y h
  rcases key l [] y h with h | h
  · simp at h
  · exact h
theorem firstL_has : ∀ {l : List Pt} {y : Pt}, y ∈ l → ∃ z ∈ firstL l, z.s = y.s := by
  have mono : ∀ (l acc : List Pt) (z : Pt), z ∈ acc → z ∈ l.foldl addU acc := by
    intro l
    induction l with
    | nil => intro acc z h; exact h
    | cons u l ih =>
      intro acc z h
      refine ih _ z ?_
      unfold addU
      split
      · exact h
      · exact List.mem_append_left _ h
  have key : ∀ (l acc : List Pt) (y : Pt), y ∈ l → ∃ z ∈ l.foldl addU acc, z.s = y.s := by
    intro l
    induction l with
    | nil => intro acc y h; simp at h
    | cons u l ih =>
      intro acc y h
      rcases List.mem_cons.1 h with rfl | h
      · by_cases e : acc.any (fun z => decide (z.s = y.s)) = true
        · obtain ⟨z, hz, q⟩ := List.any_eq_true.1 e
          refine ⟨z, mono l _ z ?_, by simpa using q⟩
          unfold addU
          rw [if_pos e]
          exact hz
        · refine ⟨y, mono l _ y ?_, rfl⟩
          unfold addU
          rw [if_neg e]
          simp
      · exact ih _ y h
  intro l y h
  exact key l [] y h
theorem length_firstL : ∀ l : List Pt, (firstL l).length ≤ l.length := by
  have key : ∀ (l acc : List Pt), (l.foldl addU acc).length ≤ acc.length + l.length := by
    intro l
    induction l with
    | nil => intro acc; simp
    | cons u l ih =>
      intro acc
      have := ih (addU acc u)
      have h2 : (addU acc u).length ≤ acc.length + 1 := by unfold addU; split <;> simp
      simp only [List.foldl_cons, List.length_cons]
      omega
  intro l
  simpa [firstL] using key l []
theorem length_uses (x : Pt) : (usesP x).length ≤ x.size := by
  rw [← uses_visP x 1, List.length_map, ← length_visP x 1]
  exact List.length_filter_le _ _
/-- All uses agree just where each agrees with the first of its name. -/
theorem alike_first {x : Pt} : AlikeP x ↔ ∀ a ∈ usesP x, ∀ f ∈ firstL (usesP x), f.s = a.s → Agree a f := by
  constructor
  · intro h a ha f hf e
    exact h a ha f (mem_firstL hf) e.symm
  · intro h a ha b hb e
    obtain ⟨f, hf, q⟩ := firstL_has ha
    have h1 := h a ha f hf q
    have h2 := h b hb f hf (q.trans e)
    exact ⟨h1.1.trans h2.1.symm, h1.2.trans h2.2.symm⟩
theorem vis_uses {x y : Pt} {d : Nat} (h : (d, y) ∈ visP 1 x) : ∀ a ∈ usesP y, a ∈ usesP x := by
  have key : ∀ (x : Pt) (d : Nat), ∀ v ∈ visP d x, ∀ a ∈ usesP v.2, a ∈ usesP x := by
    refine Pt.ind fun x ih d v hv a ha => ?_
    rw [visP_eq] at hv
    rcases List.mem_cons.1 hv with rfl | hv
    · exact ha
    · obtain ⟨i, hi, hv⟩ := mem_catN.1 hv
      rw [usesP_eq]
      exact List.mem_append_right _ (mem_catN.2 ⟨i, hi, ih i hi (d + 1) v hv a ha⟩)
  exact key x 1 (d, y) h
end Go.Proofs.Ytjclelmbpmlioaa
