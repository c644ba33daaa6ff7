/-
  Names in order, each once: plain facts, of no function.
-/
import Derived.Test.YtcdehohmgfocdaaExprMath
namespace Go.Proofs.Ytcdehohmgfocdaa
open Go.RowKit

/-- Names by their bytes, each once. -/
def Sorted : List ByteArray → Prop
  | [] => True
  | a :: l => (∀ b ∈ l, cmpS a b < 0) ∧ Sorted l
/-- One into sorted ones, once. -/
def intoL (s : ByteArray) : List ByteArray → List ByteArray
  | [] => [s]
  | a :: l => if cmpS s a < 0 then s :: a :: l else if cmpS s a = 0 then a :: l else a :: intoL s l
theorem mem_into (s x : ByteArray) : ∀ l : List ByteArray, x ∈ intoL s l ↔ x = s ∨ x ∈ l
  | [] => by simp [intoL]
  | a :: l => by
    simp only [intoL]
    split
    · simp
    · split
      · rename_i h
        have := cmpS_zero h
        subst this
        simp
      · simp only [List.mem_cons, mem_into s x l]
        constructor
        · rintro (h | h | h)
          · exact .inr (.inl h)
          · exact .inl h
          · exact .inr (.inr h)
        · rintro (h | h | h)
          · exact .inr (.inl h)
          · exact .inl h
          · exact .inr (.inr h)
theorem less_on {a b c : ByteArray} (h1 : cmpS a b < 0) (h2 : cmpS b c < 0) : cmpS a c < 0 := (cmpS_comp a b c).2.1 h1 (by omega)
theorem sorted_into (s : ByteArray) : ∀ l : List ByteArray, Sorted l → Sorted (intoL s l)
  | [], _ => ⟨fun b hb => by simp at hb, trivial⟩
  | a :: l, h => by
    simp only [intoL]
    split
    · rename_i hs
      refine ⟨fun b hb => ?_, h⟩
      rcases List.mem_cons.1 hb with rfl | hb
      · exact hs
      · exact less_on hs (h.1 b hb)
    · split
      · exact h
      · rename_i h1 h2
        refine ⟨fun b hb => ?_, sorted_into s l h.2⟩
        rcases (mem_into s b l).1 hb with rfl | hb
        · have := cmpS_turn a b; omega
        · exact h.1 b hb
/-- Sorted ones with the same names are the same. -/
theorem sorted_one : ∀ (l m : List ByteArray), Sorted l → Sorted m → (∀ x, x ∈ l ↔ x ∈ m) → l = m
  | [], [], _, _, _ => rfl
  | [], b :: m, _, _, h => absurd ((h b).2 (by simp)) (by simp)
  | a :: l, [], _, _, h => absurd ((h a).1 (by simp)) (by simp)
  | a :: l, b :: m, hl, hm, h => by
    have hab : a = b := by
      rcases List.mem_cons.1 ((h a).1 (by simp)) with e | e
      · exact e
      · rcases List.mem_cons.1 ((h b).2 (by simp)) with f | f
        · exact f.symm
        · have h1 := hm.1 a e
          have h2 := hl.1 b f
          have := cmpS_turn a b
          omega
    subst hab
    have not_mem : ∀ {l : List ByteArray}, (∀ b ∈ l, cmpS a b < 0) → a ∉ l := fun hb ha => by have := hb a ha; rw [cmpS_self] at this; omega
    rw [sorted_one l m hl.2 hm.2 fun x => ?_]
    constructor
    · intro hx
      rcases List.mem_cons.1 ((h x).1 (List.mem_cons_of_mem _ hx)) with e | e
      · subst e; exact absurd hx (not_mem hl.1)
      · exact e
    · intro hx
      rcases List.mem_cons.1 ((h x).2 (List.mem_cons_of_mem _ hx)) with e | e
      · subst e; exact absurd hx (not_mem hm.1)
      · exact e
theorem sorted_nodup : ∀ l : List ByteArray, Sorted l → l.Nodup
  | [], _ => List.nodup_nil
  | a :: l, h => List.nodup_cons.2 ⟨fun ha => by have := h.1 a ha; rw [cmpS_self] at this; omega, sorted_nodup l h.2⟩
/-- Names that are all among others are at most as many. -/
theorem nodup_le : ∀ (l m : List ByteArray), l.Nodup → (∀ x ∈ l, x ∈ m) → l.length ≤ m.length
  | [], _, _, _ => by simp
  | a :: l, m, h, hs => by
    obtain ⟨p, q, rfl⟩ := List.append_of_mem (hs a (by simp))
    obtain ⟨h1, h2⟩ := List.nodup_cons.1 h
    have := nodup_le l (p ++ q) h2 fun x hx => by
      have hm := hs x (List.mem_cons_of_mem _ hx)
      rw [List.mem_append, List.mem_cons] at hm
      rw [List.mem_append]
      rcases hm with hm | hm | hm
      · exact .inl hm
      · exact absurd (hm ▸ hx) h1
      · exact .inr hm
    simp only [List.length_cons, List.length_append] at this ⊢
    omega
theorem nodup_map (g : ByteArray → ByteArray) : ∀ (l : List ByteArray), l.Nodup → (∀ x ∈ l, ∀ y ∈ l, g x = g y → x = y) → (l.map g).Nodup
  | [], _, _ => by simp
  | a :: l, h, hg => by
    obtain ⟨h1, h2⟩ := List.nodup_cons.1 h
    rw [List.map_cons, List.nodup_cons]
    refine ⟨fun ha => ?_, nodup_map g l h2 fun x hx y hy => hg x (List.mem_cons_of_mem _ hx) y (List.mem_cons_of_mem _ hy)⟩
    obtain ⟨x, hx, e⟩ := List.mem_map.1 ha
    have := hg x (List.mem_cons_of_mem _ hx) a (by simp) e
    exact h1 (this ▸ hx)
/-- Sorted ones whose names are others' new names, no two the same: as many. -/
theorem sorted_map_length (g : ByteArray → ByteArray) (l m : List ByteArray) (hl : Sorted l) (hm : Sorted m) (hg : ∀ x ∈ l, ∀ y ∈ l, g x = g y → x = y) (h : ∀ x, x ∈ m ↔ ∃ y ∈ l, g y = x) : m.length = l.length := by
  have n1 := nodup_map g l (sorted_nodup l hl) hg
  have h1 := nodup_le m (l.map g) (sorted_nodup m hm) fun x hx => List.mem_map.2 ((h x).1 hx)
  have h2 := nodup_le (l.map g) m n1 fun x hx => (h x).2 (List.mem_map.1 hx)
  rw [List.length_map] at h1 h2
  omega

/-- The names that a condition's fields have. -/
def hasVar (s : ByteArray) : X → Prop
  | .nil => False
  | .mk k _ v _ _ n _ c => (k = 2 ∧ v = s) ∨ ∃ i, i < n ∧ hasVar s (c i)
theorem hasVar_eq (s : ByteArray) (x : X) : hasVar s x ↔ (x.k = 2 ∧ x.s = s) ∨ ∃ i, i < x.n ∧ hasVar s (x.c i) := by
  cases x with
  | nil => simp [hasVar, X.k, X.n]
  | mk => exact Iff.rfl
theorem hasVar_same (s : ByteArray) : ∀ x y : X, ordX x y = 0 → hasVar s x → hasVar s y := by
  refine X.ind fun x ih y h hx => ?_
  · obtain ⟨h1, _, h3, _, h5, h6⟩ := (ordX_zero _ _).1 h
    rw [hasVar_eq] at hx ⊢
    rcases hx with ⟨e1, e2⟩ | ⟨i, hi, hv⟩
    · exact .inl ⟨h1 ▸ e1, h3 ▸ e2⟩
    · exact .inr ⟨i, h5 ▸ hi, ih i hi (y.c i) (h6 i hi) hv⟩
/-- With other names. -/
def renX (g : ByteArray → ByteArray) : X → X
  | .nil => .nil
  | .mk k v s f a n cap c => .mk k v (if k = 2 then g s else s) f a n cap (fun i => renX g (c i))
theorem renX_parts (g : ByteArray → ByteArray) (x : X) : (renX g x).k = x.k ∧ (renX g x).v = x.v ∧ (renX g x).s = (if x.k = 2 then g x.s else x.s) ∧ (renX g x).f = x.f ∧ (renX g x).n = x.n ∧ ∀ i, (renX g x).c i = renX g (x.c i) := by
  cases x with
  | nil => exact ⟨rfl, rfl, rfl, rfl, rfl, fun _ => rfl⟩
  | mk => exact ⟨rfl, rfl, rfl, rfl, rfl, fun _ => rfl⟩
theorem renX_same (g : ByteArray → ByteArray) : ∀ x y : X, ordX x y = 0 → ordX (renX g x) (renX g y) = 0 := by
  refine X.ind fun x ih y h => ?_
  · obtain ⟨h1, h2, h3, h4, h5, h6⟩ := (ordX_zero _ _).1 h
    obtain ⟨a1, a2, a3, a4, a5, a6⟩ := renX_parts g x
    obtain ⟨b1, b2, b3, b4, b5, b6⟩ := renX_parts g y
    rw [ordX_zero, a1, a2, a3, a4, a5, b1, b2, b3, b4, b5, h1, h3]
    refine ⟨rfl, h2, rfl, h4, h5, fun i hi => ?_⟩
    rw [a6, b6]
    exact ih i hi (y.c i) (h6 i hi)
/-- And back: it is the same. -/
theorem renX_back (g h : ByteArray → ByteArray) : ∀ x : X, (∀ s, hasVar s x → h (g s) = s) → ordX x (renX h (renX g x)) = 0 := by
  refine X.ind fun x ih hb => ?_
  obtain ⟨a1, a2, a3, a4, a5, a6⟩ := renX_parts g x
  obtain ⟨b1, b2, b3, b4, b5, b6⟩ := renX_parts h (renX g x)
  rw [ordX_zero, b1, b2, b3, b4, b5, a1, a2, a3, a4, a5]
  refine ⟨rfl, rfl, ?_, rfl, rfl, fun i hi => ?_⟩
  · by_cases hk : x.k = 2
    · rw [if_pos hk, if_pos hk]
      exact (hb x.s ((hasVar_eq _ _).2 (.inl ⟨hk, rfl⟩))).symm
    · rw [if_neg hk, if_neg hk]
  · rw [b6, a6]
    exact ih i hi fun t ht => hb t ((hasVar_eq _ _).2 (.inr ⟨i, hi, ht⟩))
theorem hasVar_ren (g : ByteArray → ByteArray) (t : ByteArray) : ∀ x : X, hasVar t (renX g x) ↔ ∃ s, hasVar s x ∧ g s = t := by
  refine X.ind fun x ih => ?_
  obtain ⟨a1, a2, a3, a4, a5, a6⟩ := renX_parts g x
  rw [hasVar_eq, a1, a3, a5]
  constructor
  · rintro (⟨hk, e⟩ | ⟨i, hi, h⟩)
    · rw [if_pos hk] at e
      exact ⟨x.s, (hasVar_eq _ _).2 (.inl ⟨hk, rfl⟩), e⟩
    · rw [a6] at h
      obtain ⟨r, h1, h2⟩ := (ih i hi).1 h
      exact ⟨r, (hasVar_eq _ _).2 (.inr ⟨i, hi, h1⟩), h2⟩
  · rintro ⟨r, h1, h2⟩
    rcases (hasVar_eq _ _).1 h1 with ⟨hk, e⟩ | ⟨i, hi, h⟩
    · exact .inl ⟨hk, by rw [if_pos hk, e]; exact h2⟩
    · exact .inr ⟨i, hi, by rw [a6]; exact (ih i hi).2 ⟨r, h, h2⟩⟩
theorem size_ren (g : ByteArray → ByteArray) : ∀ x : X, (renX g x).size = x.size := by
  refine X.ind fun x ih => ?_
  obtain ⟨a1, a2, a3, a4, a5, a6⟩ := renX_parts g x
  have : ∀ m, m ≤ x.n → sumN (fun i => ((renX g x).c i).size) m = sumN (fun i => (x.c i).size) m := by
    intro m
    induction m with
    | zero => intro _; rfl
    | succ m ihm => intro hm; simp only [sumN]; rw [ihm (by omega), a6, ih m (by omega)]
  rw [X.size_eq, X.size_eq x, a5, this x.n (Nat.le_refl _)]
/-- The document's Vars: those of the parts, one into the others. -/
def intoAll (l : List ByteArray) : List ByteArray → List ByteArray
  | [] => l
  | s :: m => intoAll (intoL s l) m
theorem mem_intoAll (x : ByteArray) : ∀ m l : List ByteArray, x ∈ intoAll l m ↔ x ∈ l ∨ x ∈ m
  | [], l => by simp [intoAll]
  | s :: m, l => by
    simp only [intoAll, mem_intoAll x m, mem_into, List.mem_cons]
    constructor
    · rintro ((h | h) | h)
      · exact .inr (.inl h)
      · exact .inl h
      · exact .inr (.inr h)
    · rintro (h | h | h)
      · exact .inl (.inr h)
      · exact .inl (.inl h)
      · exact .inr h
theorem sorted_intoAll : ∀ m l : List ByteArray, Sorted l → Sorted (intoAll l m)
  | [], _, h => h
  | s :: m, l, h => sorted_intoAll m _ (sorted_into s l h)
def accN (l : List ByteArray) (f : Nat → List ByteArray) : Nat → List ByteArray
  | 0 => l
  | n + 1 => intoAll (accN l f n) (f n)
def varsX : X → List ByteArray
  | .nil => []
  | .mk k _ s _ _ n _ c => accN (if k = 2 then [s] else []) (fun i => varsX (c i)) n
theorem mem_accN (x : ByteArray) (l : List ByteArray) (f : Nat → List ByteArray) : ∀ n, x ∈ accN l f n ↔ x ∈ l ∨ ∃ i, i < n ∧ x ∈ f i
  | 0 => by simp [accN]
  | n + 1 => by
    simp only [accN, mem_intoAll, mem_accN x l f n]
    constructor
    · rintro ((h | ⟨i, hi, h⟩) | h)
      · exact .inl h
      · exact .inr ⟨i, by omega, h⟩
      · exact .inr ⟨n, by omega, h⟩
    · rintro (h | ⟨i, hi, h⟩)
      · exact .inl (.inl h)
      · by_cases e : i = n
        · exact .inr (e ▸ h)
        · exact .inl (.inr ⟨i, by omega, h⟩)
theorem sorted_accN (l : List ByteArray) (f : Nat → List ByteArray) (h : Sorted l) : ∀ n, Sorted (accN l f n)
  | 0 => h
  | n + 1 => sorted_intoAll _ _ (sorted_accN l f h n)
theorem varsX_eq (x : X) : varsX x = accN (if x.k = 2 then [x.s] else []) (fun i => varsX (x.c i)) x.n := by cases x <;> rfl
theorem sorted_vars (x : X) : Sorted (varsX x) := by
  rw [varsX_eq]
  refine sorted_accN _ _ ?_ _
  split
  · exact ⟨fun b hb => by simp at hb, trivial⟩
  · trivial
theorem mem_vars (t : ByteArray) : ∀ x : X, t ∈ varsX x ↔ hasVar t x := by
  refine X.ind fun x ih => ?_
  rw [varsX_eq, mem_accN, hasVar_eq]
  constructor
  · rintro (h | ⟨i, hi, h⟩)
    · split at h
      · rename_i hk
        simp at h
        exact .inl ⟨hk, h.symm⟩
      · simp at h
    · exact .inr ⟨i, hi, (ih i hi).1 h⟩
  · rintro (⟨hk, e⟩ | ⟨i, hi, h⟩)
    · exact .inl (by rw [if_pos hk]; simp [e])
    · exact .inr ⟨i, hi, (ih i hi).2 h⟩
/-- Sorted names that are just a condition's are what Vars tells. -/
theorem vars_one (l : List ByteArray) (x : X) (h : Sorted l) (hm : ∀ t, t ∈ l ↔ hasVar t x) : l = varsX x :=
  sorted_one l (varsX x) h (sorted_vars x) fun t => (hm t).trans (mem_vars t x).symm
end Go.Proofs.Ytcdehohmgfocdaa
