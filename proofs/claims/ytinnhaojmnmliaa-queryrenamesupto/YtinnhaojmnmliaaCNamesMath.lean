/-
  Names in order, each once: plain facts, of no function.
  Small facts that many texts share: texts that are the same, names as keys, what stays; of no function.
  Conditions as they lie in memory; of no function.
  Patterns (api.Pat) as trees: how many nodes, how deep, which are the same, with other names; plain facts, of no function.
  Patterns as they lie in memory; of no function.
-/
import Derived.Test.YtinnhaojmnmliaaCExprRange
import Derived.Test.YtinnhaojmnmliaaCTxt
import Derived.Maps.OwnSet
import Derived.BigQuiet
namespace Go.Proofs.Ytinnhaojmnmliaa
open Go.RowKit

/-- Names by their bytes, each once. -/
def Sorted : List ByteArray → Prop
  | [] => True
  | a :: l => (∀ b ∈ l, cmpS a b < 0) ∧ Sorted l
/-- One into sorted ones, once. -/
def intoL (s : ByteArray) : List ByteArray → List ByteArray
  | [] => [s]
  | a :: l => if cmpS s a < 0 then s :: a :: l else if cmpS s a = 0 then a :: l else a :: intoL s l
theorem mem_into (s x : ByteArray) : ∀ l : List ByteArray, x ∈ intoL s l ↔ x = s ∨ x ∈ l
  | [] => by simp [intoL]
  | a :: l => by
    simp only [intoL]
    split
    · simp
    · split
      · rename_i h
        have := cmpS_zero h
        subst this
        simp
      · simp only [List.mem_cons, mem_into s x l]
        constructor
        · rintro (h | h | h)
          · exact .inr (.inl h)
          · exact .inl h
          · exact .inr (.inr h)
        · rintro (h | h | h)
          · exact .inr (.inl h)
          · exact .inl h
          · exact .inr (.inr h)
theorem less_on {a b c : ByteArray} (h1 : cmpS a b < 0) (h2 : cmpS b c < 0) : cmpS a c < 0 := (cmpS_comp a b c).2.1 h1 (by omega)
theorem sorted_into (s : ByteArray) : ∀ l : List ByteArray, Sorted l → Sorted (intoL s l)
  | [], _ => ⟨fun b hb => by simp at hb, trivial⟩
  | a :: l, h => by
    simp only [intoL]
    split
    · rename_i hs
      refine ⟨fun b hb => ?_, h⟩
      rcases List.mem_cons.1 hb with rfl | hb
      · exact hs
      · exact less_on hs (h.1 b hb)
    · split
      · exact h
      · rename_i h1 h2
        refine ⟨fun b hb => ?_, sorted_into s l h.2⟩
        rcases (mem_into s b l).1 hb with rfl | hb
        · have := cmpS_turn a b; omega
        · exact h.1 b hb
/-- Sorted ones with the same names are the same. -/
theorem sorted_one : ∀ (l m : List ByteArray), Sorted l → Sorted m → (∀ x, x ∈ l ↔ x ∈ m) → l = m
  | [], [], _, _, _ => rfl
  | [], b :: m, _, _, h => absurd ((h b).2 (by simp)) (by simp)
  | a :: l, [], _, _, h => absurd ((h a).1 (by simp)) (by simp)
  | a :: l, b :: m, hl, hm, h => by
    have hab : a = b := by
      rcases List.mem_cons.1 ((h a).1 (by simp)) with e | e
      · exact e
      · rcases List.mem_cons.1 ((h b).2 (by simp)) with f | f
        · exact f.symm
        · have h1 := hm.1 a e
          have h2 := hl.1 b f
          have := cmpS_turn a b
          omega
    subst hab
    have not_mem : ∀ {l : List ByteArray}, (∀ b ∈ l, cmpS a b < 0) → a ∉ l := fun hb ha => by have := hb a ha; rw [cmpS_self] at this; omega
    rw [sorted_one l m hl.2 hm.2 fun x => ?_]
    constructor
    · intro hx
      rcases List.mem_cons.1 ((h x).1 (List.mem_cons_of_mem _ hx)) with e | e
      · subst e; exact absurd hx (not_mem hl.1)
      · exact e
    · intro hx
      rcases List.mem_cons.1 ((h x).2 (List.mem_cons_of_mem _ hx)) with e | e
      · subst e; exact absurd hx (not_mem hm.1)
      · exact e
theorem sorted_nodup : ∀ l : List ByteArray, Sorted l → l.Nodup
  | [], _ => List.nodup_nil
  | a :: l, h => List.nodup_cons.2 ⟨fun ha => by have := h.1 a ha; rw [cmpS_self] at this; omega, sorted_nodup l h.2⟩
/-- Names that are all among others are at most as many. -/
theorem nodup_le : ∀ (l m : List ByteArray), l.Nodup → (∀ x ∈ l, x ∈ m) → l.length ≤ m.length
  | [], _, _, _ => by simp
  | a :: l, m, h, hs => by
    obtain ⟨p, q, rfl⟩ := List.append_of_mem (hs a (by simp))
    obtain ⟨h1, h2⟩ := List.nodup_cons.1 h
    have := nodup_le l (p ++ q) h2 fun x hx => by
      have hm := hs x (List.mem_cons_of_mem _ hx)
      rw [List.mem_append, List.mem_cons] at hm
      rw [List.mem_append]
      rcases hm with hm | hm | hm
      · exact .inl hm
      · exact absurd (hm ▸ hx) h1
      · exact .inr hm
    simp only [List.length_cons, List.length_append] at this ⊢
    omega
theorem nodup_map (g : ByteArray → ByteArray) : ∀ (l : List ByteArray), l.Nodup → (∀ x ∈ l, ∀ y ∈ l, g x = g y → x = y) → (l.map g).Nodup
  | [], _, _ => by simp
  | a :: l, h, hg => by
    obtain ⟨h1, h2⟩ := List.nodup_cons.1 h
    rw [List.map_cons, List.nodup_cons]
    refine ⟨fun ha => ?_, nodup_map g l h2 fun x hx y hy => hg x (List.mem_cons_of_mem _ hx) y (List.mem_cons_of_mem _ hy)⟩
    obtain ⟨x, hx, e⟩ := List.mem_map.1 ha
    have := hg x (List.mem_cons_of_mem _ hx) a (by simp) e
    exact h1 (this ▸ hx)
/-- Sorted ones whose names are others' new names, no two the same: as many. -/
theorem sorted_map_length (g : ByteArray → ByteArray) (l m : List ByteArray) (hl : Sorted l) (hm : Sorted m) (hg : ∀ x ∈ l, ∀ y ∈ l, g x = g y → x = y) (h : ∀ x, x ∈ m ↔ ∃ y ∈ l, g y = x) : m.length = l.length := by
  have n1 := nodup_map g l (sorted_nodup l hl) hg
  have h1 := nodup_le m (l.map g) (sorted_nodup m hm) fun x hx => List.mem_map.2 ((h x).1 hx)
  have h2 := nodup_le (l.map g) m n1 fun x hx => (h x).2 (List.mem_map.1 hx)
  rw [List.length_map] at h1 h2
  omega

/-- The names that a condition's fields have. -/
def hasVar (s : ByteArray) : X → Prop
  | .nil => False
  | .mk k _ v _ _ n _ c => (k = 2 ∧ v = s) ∨ ∃ i, i < n ∧ hasVar s (c i)
theorem hasVar_eq (s : ByteArray) (x : X) : hasVar s x ↔ (x.k = 2 ∧ x.s = s) ∨ ∃ i, i < x.n ∧ hasVar s (x.c i) := by
  cases x with
  | nil => simp [hasVar, X.k, X.n]
  | mk => exact Iff.rfl
theorem hasVar_same (s : ByteArray) : ∀ x y : X, ordX x y = 0 → hasVar s x → hasVar s y := by
  refine X.ind fun x ih y h hx => ?_
  · obtain ⟨h1, _, h3, _, h5, h6⟩ := (ordX_zero _ _).1 h
    rw [hasVar_eq] at hx ⊢
    rcases hx with ⟨e1, e2⟩ | ⟨i, hi, hv⟩
    · exact .inl ⟨h1 ▸ e1, h3 ▸ e2⟩
    · exact .inr ⟨i, h5 ▸ hi, ih i hi (y.c i) (h6 i hi) hv⟩
/-- With other names. -/
def renX (g : ByteArray → ByteArray) : X → X
  | .nil => .nil
  | .mk k v s f a n cap c => .mk k v (if k = 2 then g s else s) f a n cap (fun i => renX g (c i))
theorem renX_parts (g : ByteArray → ByteArray) (x : X) : (renX g x).k = x.k ∧ (renX g x).v = x.v ∧ (renX g x).s = (if x.k = 2 then g x.s else x.s) ∧ (renX g x).f = x.f ∧ (renX g x).n = x.n ∧ ∀ i, (renX g x).c i = renX g (x.c i) := by
  cases x with
  | nil => exact ⟨rfl, rfl, rfl, rfl, rfl, fun _ => rfl⟩
  | mk => exact ⟨rfl, rfl, rfl, rfl, rfl, fun _ => rfl⟩
theorem renX_same (g : ByteArray → ByteArray) : ∀ x y : X, ordX x y = 0 → ordX (renX g x) (renX g y) = 0 := by
  refine X.ind fun x ih y h => ?_
  · obtain ⟨h1, h2, h3, h4, h5, h6⟩ := (ordX_zero _ _).1 h
    obtain ⟨a1, a2, a3, a4, a5, a6⟩ := renX_parts g x
    obtain ⟨b1, b2, b3, b4, b5, b6⟩ := renX_parts g y
    rw [ordX_zero, a1, a2, a3, a4, a5, b1, b2, b3, b4, b5, h1, h3]
    refine ⟨rfl, h2, rfl, h4, h5, fun i hi => ?_⟩
    rw [a6, b6]
    exact ih i hi (y.c i) (h6 i hi)
/-- And back: it is the same. -/
theorem renX_back (g h : ByteArray → ByteArray) : ∀ x : X, (∀ s, hasVar s x → h (g s) = s) → ordX x (renX h (renX g x)) = 0 := by
  refine X.ind fun x ih hb => ?_
  obtain ⟨a1, a2, a3, a4, a5, a6⟩ := renX_parts g x
  obtain ⟨b1, b2, b3, b4, b5, b6⟩ := renX_parts h (renX g x)
  rw [ordX_zero, b1, b2, b3, b4, b5, a1, a2, a3, a4, a5]
  refine ⟨rfl, rfl, ?_, rfl, rfl, fun i hi => ?_⟩
  · by_cases hk : x.k = 2
    · rw [if_pos hk, if_pos hk]
      exact (hb x.s ((hasVar_eq _ _).2 (.inl ⟨hk, rfl⟩))).symm
    · rw [if_neg hk, if_neg hk]
  · rw [b6, a6]
    exact ih i hi fun t ht => hb t ((hasVar_eq _ _).2 (.inr ⟨i, hi, ht⟩))
theorem hasVar_ren (g : ByteArray → ByteArray) (t : ByteArray) : ∀ x : X, hasVar t (renX g x) ↔ ∃ s, hasVar s x ∧ g s = t := by
  refine X.ind fun x ih => ?_
  obtain ⟨a1, a2, a3, a4, a5, a6⟩ := renX_parts g x
  rw [hasVar_eq, a1, a3, a5]
  constructor
  · rintro (⟨hk, e⟩ | ⟨i, hi, h⟩)
    · rw [if_pos hk] at e
      exact ⟨x.s, (hasVar_eq _ _).2 (.inl ⟨hk, rfl⟩), e⟩
    · rw [a6] at h
      obtain ⟨r, h1, h2⟩ := (ih i hi).1 h
      exact ⟨r, (hasVar_eq _ _).2 (.inr ⟨i, hi, h1⟩), h2⟩
  · rintro ⟨r, h1, h2⟩
    rcases (hasVar_eq _ _).1 h1 with ⟨hk, e⟩ | ⟨i, hi, h⟩
    · exact .inl ⟨hk, by rw [if_pos hk, e]; exact h2⟩
    · exact .inr ⟨i, hi, by rw [a6]; exact (ih i hi).2 ⟨r, h, h2⟩⟩
theorem size_ren (g : ByteArray → ByteArray) : ∀ x : X, (renX g x).size = x.size := by
  refine X.ind fun x ih => ?_
  obtain ⟨a1, a2, a3, a4, a5, a6⟩ := renX_parts g x
  have : ∀ m, m ≤ x.n → sumN (fun i => ((renX g x).c i).size) m = sumN (fun i => (x.c i).size) m := by
    intro m
    induction m with
    | zero => intro _; rfl
    | succ m ihm => intro hm; simp only [sumN]; rw [ihm (by omega), a6, ih m (by omega)]
  rw [X.size_eq, X.size_eq x, a5, this x.n (Nat.le_refl _)]
/-- The document's Vars: those of the parts, one into the others. -/
def intoAll (l : List ByteArray) : List ByteArray → List ByteArray
  | [] => l
  | s :: m => intoAll (intoL s l) m
theorem mem_intoAll (x : ByteArray) : ∀ m l : List ByteArray, x ∈ intoAll l m ↔ x ∈ l ∨ x ∈ m
  | [], l => by simp [intoAll]
  | s :: m, l => by
    simp only [intoAll, mem_intoAll x m, mem_into, List.mem_cons]
    constructor
    · rintro ((h | h) | h)
      · exact .inr (.inl h)
      · exact .inl h
      · exact .inr (.inr h)
    · rintro (h | h | h)
      · exact .inl (.inr h)
      · exact .inl (.inl h)
      · exact .inr h
theorem sorted_intoAll : ∀ m l : List ByteArray, Sorted l → Sorted (intoAll l m)
  | [], _, h => h
  | s :: m, l, h => sorted_intoAll m _ (sorted_into s l h)
def accN (l : List ByteArray) (f : Nat → List ByteArray) : Nat → List ByteArray
  | 0 => l
  | n + 1 => intoAll (accN l f n) (f n)
def varsX : X → List ByteArray
  | .nil => []
  | .mk k _ s _ _ n _ c => accN (if k = 2 then [s] else []) (fun i => varsX (c i)) n
theorem mem_accN (x : ByteArray) (l : List ByteArray) (f : Nat → List ByteArray) : ∀ n, x ∈ accN l f n ↔ x ∈ l ∨ ∃ i, i < n ∧ x ∈ f i
  | 0 => by simp [accN]
  | n + 1 => by
    simp only [accN, mem_intoAll, mem_accN x l f n]
    constructor
    · rintro ((h | ⟨i, hi, h⟩) | h)
      · exact .inl h
      · exact .inr ⟨i, by omega, h⟩
      · exact .inr ⟨n, by omega, h⟩
    · rintro (h | ⟨i, hi, h⟩)
      · exact .inl (.inl h)
      · by_cases e : i = n
        · exact .inr (e ▸ h)
        · exact .inl (.inr ⟨i, by omega, h⟩)
theorem sorted_accN (l : List ByteArray) (f : Nat → List ByteArray) (h : Sorted l) : ∀ n, Sorted (accN l f n)
  | 0 => h
  | n + 1 => sorted_intoAll _ _ (sorted_accN l f h n)
theorem varsX_eq (x : X) : varsX x = accN (if x.k = 2 then [x.s] else []) (fun i => varsX (x.c i)) x.n := by cases x <;> rfl
theorem sorted_vars (x : X) : Sorted (varsX x) := by
  rw [varsX_eq]
  refine sorted_accN _ _ ?_ _
  split
  · exact ⟨fun b hb => by simp at hb, trivial⟩
  · trivial
theorem mem_vars (t : ByteArray) : ∀ x : X, t ∈ varsX x ↔ hasVar t x := by
  refine X.ind fun x ih => ?_
  rw [varsX_eq, mem_accN, hasVar_eq]
  constructor
  · rintro (h | ⟨i, hi, h⟩)
    · split at h
      · rename_i hk
        simp at h
        exact .inl ⟨hk, h.symm⟩
      · simp at h
    · exact .inr ⟨i, hi, (ih i hi).1 h⟩
  · rintro (⟨hk, e⟩ | ⟨i, hi, h⟩)
    · exact .inl (by rw [if_pos hk]; simp [e])
    · exact .inr ⟨i, hi, (ih i hi).2 h⟩
/-- Sorted names that are just a condition's are what Vars tells. -/
theorem vars_one (l : List ByteArray) (x : X) (h : Sorted l) (hm : ∀ t, t ∈ l ↔ hasVar t x) : l = varsX x :=
  sorted_one l (varsX x) h (sorted_vars x) fun t => (hm t).trans (mem_vars t x).symm
end Go.Proofs.Ytinnhaojmnmliaa
namespace Go.Proofs.Ytinnhaojmnmliaa
open Go.RowKit Go.Maps Go.WideMaps

/-- Strings are the same. -/
theorem same_str (s t : ByteArray) : (s.toList == t.toList) = decide (s = t) := by
  by_cases h : s = t
  · subst h; simp
  · rw [decide_eq_false h, beq_eq_false_iff_ne]
    intro he
    apply h
    rw [ByteArray.toList_eq, ByteArray.toList_eq] at he
    exact ByteArray.ext (Array.ext' he)
theorem str_yes {s t : ByteArray} (h : s = t) : (s.toList == t.toList) = true := by rw [same_str]; exact decide_eq_true h
theorem str_not {s t : ByteArray} (h : ¬ s = t) : (s.toList == t.toList) = false := by rw [same_str]; exact decide_eq_false h
theorem str_law : Keyed Try.prog 9 := string_keyed Try.underlying9
/-- A name as a key. -/
abbrev keyS (s : ByteArray) : Lit := .string s.data.toList
theorem keyS_ne {s t : ByteArray} (h : ¬ s = t) : keyS s ≠ keyS t := by
  intro e
  injection e with e
  exact h (ByteArray.ext (Array.ext' e))
/-- Below, on and on. -/
theorem bd {w w1 : World} (h : Below w.heap.size w w1) (n : Nat) : Below w.heap.size w (w1.drewN n) := h.trans ⟨rfl, rfl, rfl, Nat.le_refl _, fun _ _ => rfl⟩
end Go.Proofs.Ytinnhaojmnmliaa
namespace Go.Proofs.Ytinnhaojmnmliaa
open Go.RowKit

abbrev X.slice (x : X) : Value := .slice x.a x.n x.cap
/-- A condition as a value. -/
abbrev X.val (x : X) : Value := .agg #[.int .i64 x.k, .int .i64 x.v.k, .int .i64 x.v.n, .string x.v.s, .string x.s, .string x.f, .slice x.a x.n x.cap]
/-- The seven cells of a node. -/
def Node (w : World) (b o : Nat) (x : X) : Prop :=
  w.cell? ⟨b, o, none⟩ = some (.int .i64 x.k) ∧ w.cell? ⟨b, o + 1, none⟩ = some (.int .i64 x.v.k) ∧ w.cell? ⟨b, o + 2, none⟩ = some (.int .i64 x.v.n) ∧ w.cell? ⟨b, o + 3, none⟩ = some (.string x.v.s) ∧
    w.cell? ⟨b, o + 4, none⟩ = some (.string x.s) ∧ w.cell? ⟨b, o + 5, none⟩ = some (.string x.f) ∧ w.cell? ⟨b, o + 6, none⟩ = some (.slice x.a x.n x.cap)
/-- All that lies below a condition. -/
def IsX (w : World) : X → Prop
  | .nil => True
  | .mk _ _ _ _ a n cap c => n ≤ cap ∧ cap ≤ 9223372036854775807 ∧ ∀ i, i < n → ∃ b o, a = some ⟨b, o, none⟩ ∧ Node w b (o + i * 7) (c i) ∧ IsX w (c i)
theorem isX_eq (w : World) (x : X) : IsX w x ↔ x.n ≤ x.cap ∧ x.cap ≤ 9223372036854775807 ∧ ∀ i, i < x.n → ∃ b o, x.a = some ⟨b, o, none⟩ ∧ Node w b (o + i * 7) (x.c i) ∧ IsX w (x.c i) := by
  cases x with
  | nil => simp [IsX, X.n, X.cap]
  | mk => rfl
theorem IsX.part {w : World} {x : X} (h : IsX w x) {i : Nat} (hi : i < x.n) : ∃ b o, x.a = some ⟨b, o, none⟩ ∧ Node w b (o + i * 7) (x.c i) ∧ IsX w (x.c i) := ((isX_eq w x).1 h).2.2 i hi
theorem IsX.len {w : World} {x : X} (h : IsX w x) : x.n ≤ 9223372036854775807 := by have := (isX_eq w x).1 h; omega
theorem Node.of {w w' : World} {b o : Nat} {x : X} (h : Node w b o x) (hk : ∀ j, j < 7 → w'.cell? ⟨b, o + j, none⟩ = w.cell? ⟨b, o + j, none⟩) : Node w' b o x :=
  ⟨(hk 0 (by omega)).trans h.1, (hk 1 (by omega)).trans h.2.1, (hk 2 (by omega)).trans h.2.2.1, (hk 3 (by omega)).trans h.2.2.2.1, (hk 4 (by omega)).trans h.2.2.2.2.1, (hk 5 (by omega)).trans h.2.2.2.2.2.1, (hk 6 (by omega)).trans h.2.2.2.2.2.2⟩
theorem Node.lt {w : World} {b o : Nat} {x : X} (h : Node w b o x) : b < w.heap.size := by
  have h0 := h.1
  simp only [World.cell?] at h0
  by_cases hb : b < w.heap.size
  · exact hb
  · rw [Array.getElem?_eq_none (by omega)] at h0
    cases h0
theorem Node.later {w w' : World} {b o : Nat} {x : X} (h : Node w b o x) (hB : Below w.heap.size w w') : Node w' b o x := h.of fun j _ => hB.cell (p := ⟨b, o + j, none⟩) h.lt
theorem IsX.later {w w' : World} (hB : Below w.heap.size w w') : ∀ {x : X}, IsX w x → IsX w' x
  | .nil, _ => trivial
  | .mk _ _ _ _ _ _ _ c, h => by
    obtain ⟨h1, h2, h3⟩ := h
    refine ⟨h1, h2, fun i hi => ?_⟩
    obtain ⟨b, o, e, hn, hx⟩ := h3 i hi
    exact ⟨b, o, e, hn.later hB, IsX.later hB hx⟩
/-- What lies below n₀ alone. -/
def XIn (n₀ : Nat) (w : World) : X → Prop
  | .nil => True
  | .mk _ _ _ _ a n cap c => n ≤ cap ∧ cap ≤ 9223372036854775807 ∧ ∀ i, i < n → ∃ b o, a = some ⟨b, o, none⟩ ∧ b < n₀ ∧ Node w b (o + i * 7) (c i) ∧ XIn n₀ w (c i)
theorem xIn_eq (n₀ : Nat) (w : World) (x : X) : XIn n₀ w x ↔ x.n ≤ x.cap ∧ x.cap ≤ 9223372036854775807 ∧ ∀ i, i < x.n → ∃ b o, x.a = some ⟨b, o, none⟩ ∧ b < n₀ ∧ Node w b (o + i * 7) (x.c i) ∧ XIn n₀ w (x.c i) := by
  cases x with
  | nil => simp [XIn, X.n, X.cap]
  | mk => rfl
theorem IsX.inn {w : World} : ∀ {x : X}, IsX w x → XIn w.heap.size w x
  | .nil, _ => trivial
  | .mk _ _ _ _ _ _ _ c, h => by
    obtain ⟨h1, h2, h3⟩ := h
    refine ⟨h1, h2, fun i hi => ?_⟩
    obtain ⟨b, o, e, hn, hx⟩ := h3 i hi
    exact ⟨b, o, e, hn.lt, hn, hx.inn⟩
theorem XIn.is {n₀ : Nat} {w : World} : ∀ {x : X}, XIn n₀ w x → IsX w x
  | .nil, _ => trivial
  | .mk _ _ _ _ _ _ _ c, h => by
    obtain ⟨h1, h2, h3⟩ := h
    refine ⟨h1, h2, fun i hi => ?_⟩
    obtain ⟨b, o, e, _, hn, hx⟩ := h3 i hi
    exact ⟨b, o, e, hn, hx.is⟩
theorem Node.below {n₀ : Nat} {w w' : World} {b o : Nat} {x : X} (h : Node w b o x) (hB : Below n₀ w w') (hb : b < n₀) : Node w' b o x := h.of fun j _ => hB.cell (p := ⟨b, o + j, none⟩) hb
theorem XIn.below {n₀ : Nat} {w w' : World} (hB : Below n₀ w w') : ∀ {x : X}, XIn n₀ w x → XIn n₀ w' x
  | .nil, _ => trivial
  | .mk _ _ _ _ _ _ _ c, h => by
    obtain ⟨h1, h2, h3⟩ := h
    refine ⟨h1, h2, fun i hi => ?_⟩
    obtain ⟨b, o, e, hb, hn, hx⟩ := h3 i hi
    exact ⟨b, o, e, hb, hn.below hB hb, XIn.below hB hx⟩
theorem XIn.mono {n₀ n₁ : Nat} {w : World} (hn : n₀ ≤ n₁) : ∀ {x : X}, XIn n₀ w x → XIn n₁ w x
  | .nil, _ => trivial
  | .mk _ _ _ _ _ _ _ c, h => by
    obtain ⟨h1, h2, h3⟩ := h
    refine ⟨h1, h2, fun i hi => ?_⟩
    obtain ⟨b, o, e, hb, hn', hx⟩ := h3 i hi
    exact ⟨b, o, e, by omega, hn', XIn.mono hn hx⟩
/-- Texts no longer than texts can be. -/
def XOk : X → Prop
  | .nil => True
  | .mk _ _ s f _ n _ c => s.size ≤ maxLen ∧ f.size ≤ maxLen ∧ ∀ i, i < n → XOk (c i)
theorem xOk_eq (x : X) : XOk x ↔ x.s.size ≤ maxLen ∧ x.f.size ≤ maxLen ∧ ∀ i, i < x.n → XOk (x.c i) := by
  cases x with
  | nil => exact ⟨fun _ => ⟨Nat.zero_le _, Nat.zero_le _, fun i hi => absurd hi (Nat.not_lt_zero _)⟩, fun _ => trivial⟩
  | mk => rfl
end Go.Proofs.Ytinnhaojmnmliaa
namespace Go.Proofs.Ytinnhaojmnmliaa
open Go.RowKit

/-- A pattern: its kind, Var and Type, Lo and Hi; its parts' slice (where it lies, how many, how much room) and the parts. -/
inductive Pt where
  | nil : Pt
  | mk (k : Int) (s t : ByteArray) (lo hi : Int) (a : Option Addr) (n cap : Nat) (c : Nat → Pt) : Pt
def Pt.k : Pt → Int | .nil => 0 | .mk k .. => k
def Pt.s : Pt → ByteArray | .nil => ⟨#[]⟩ | .mk _ s .. => s
def Pt.t : Pt → ByteArray | .nil => ⟨#[]⟩ | .mk _ _ t .. => t
def Pt.lo : Pt → Int | .nil => 0 | .mk _ _ _ lo .. => lo
def Pt.hi : Pt → Int | .nil => 0 | .mk _ _ _ _ hi .. => hi
def Pt.a : Pt → Option Addr | .nil => none | .mk _ _ _ _ _ a .. => a
def Pt.n : Pt → Nat | .nil => 0 | .mk _ _ _ _ _ _ n .. => n
def Pt.cap : Pt → Nat | .nil => 0 | .mk _ _ _ _ _ _ _ cap _ => cap
def Pt.c : Pt → Nat → Pt | .nil => fun _ => .nil | .mk _ _ _ _ _ _ _ _ c => c
theorem Pt.ind {P : Pt → Prop} (h : ∀ x, (∀ i, i < x.n → P (x.c i)) → P x) : ∀ x, P x
  | .nil => h .nil fun _ hi => absurd hi (Nat.not_lt_zero _)
  | .mk k s t lo hi a n cap c => h (.mk k s t lo hi a n cap c) fun i _ => Pt.ind h (c i)
def Pt.size : Pt → Nat
  | .nil => 1
  | .mk _ _ _ _ _ _ n _ c => 1 + sumN (fun i => (c i).size) n
def Pt.deep : Pt → Nat
  | .nil => 1
  | .mk _ _ _ _ _ _ n _ c => maxN (fun i => (c i).deep) n + 1
theorem Pt.size_eq (x : Pt) : x.size = 1 + sumN (fun i => (x.c i).size) x.n := by cases x <;> rfl
theorem Pt.deep_eq (x : Pt) : x.deep = maxN (fun i => (x.c i).deep) x.n + 1 := by cases x <;> rfl
theorem Pt.size_part (x : Pt) (i : Nat) (h : i < x.n) : (x.c i).size < x.size := by
  have := sumN_le (f := fun i => (x.c i).size) h
  rw [x.size_eq]
  omega
theorem Pt.size_pos (x : Pt) : 1 ≤ x.size := by rw [x.size_eq]; omega
theorem sumN_congr {f g : Nat → Nat} : ∀ {n : Nat}, (∀ i, i < n → f i = g i) → sumN f n = sumN g n
  | 0, _ => rfl
  | n + 1, h => by simp only [sumN]; rw [sumN_congr fun i hi => h i (by omega), h n (by omega)]
theorem maxN_congr {f g : Nat → Nat} : ∀ {n : Nat}, (∀ i, i < n → f i = g i) → maxN f n = maxN g n
  | 0, _ => rfl
  | n + 1, h => by simp only [maxN]; rw [maxN_congr fun i hi => h i (by omega), h n (by omega)]
theorem maxN_lt {f : Nat → Nat} {m : Nat} (hm : 0 < m) : ∀ {n : Nat}, (∀ i, i < n → f i < m) → maxN f n < m
  | 0, _ => hm
  | n + 1, h => by
    have h1 := maxN_lt hm (n := n) fun i hi => h i (by omega)
    have h2 := h n (by omega)
    simp only [maxN]
    omega
theorem Pt.deep_part (x : Pt) (i : Nat) (h : i < x.n) : (x.c i).deep < x.deep := by
  have := maxN_le (f := fun i => (x.c i).deep) h
  rw [x.deep_eq]
  omega
theorem Pt.deep_size : ∀ x : Pt, x.deep ≤ x.size := by
  refine Pt.ind fun x ih => ?_
  rw [x.deep_eq]
  have := maxN_lt (f := fun i => (x.c i).deep) (n := x.n) x.size_pos fun i hi => by have := ih i hi; have := x.size_part i hi; show (x.c i).deep < x.size; omega
  omega
/-- Are all of the first so? -/
def allN (f : Nat → Bool) : Nat → Bool
  | 0 => true
  | n + 1 => allN f n && f n
theorem allN_true {f : Nat → Bool} : ∀ {n : Nat}, allN f n = true ↔ ∀ i, i < n → f i = true
  | 0 => by simp [allN]
  | n + 1 => by
    simp only [allN, Bool.and_eq_true, allN_true]
    constructor
    · rintro ⟨h1, h2⟩ i hi
      by_cases e : i = n
      · exact e ▸ h2
      · exact h1 i (by omega)
    · exact fun h => ⟨fun i hi => h i (by omega), h n (by omega)⟩
theorem allN_false {f : Nat → Bool} {n i : Nat} (hi : i < n) (h : f i = false) : allN f n = false := by
  rw [Bool.eq_false_iff]
  intro e
  rw [allN_true.1 e i hi] at h
  cases h
/-- Same's answer. -/
def sameP : Pt → Pt → Bool
  | .nil, y => decide (0 = y.k) && (decide ((⟨#[]⟩ : ByteArray) = y.s) && (decide ((⟨#[]⟩ : ByteArray) = y.t) && (decide (0 = y.lo) && (decide (0 = y.hi) && (decide (0 = y.n) && true)))))
  | .mk k s t lo hi _ n _ c, y => decide (k = y.k) && (decide (s = y.s) && (decide (t = y.t) && (decide (lo = y.lo) && (decide (hi = y.hi) && (decide (n = y.n) && allN (fun i => sameP (c i) (y.c i)) n)))))
theorem sameP_eq (x y : Pt) : sameP x y = (decide (x.k = y.k) && (decide (x.s = y.s) && (decide (x.t = y.t) && (decide (x.lo = y.lo) && (decide (x.hi = y.hi) && (decide (x.n = y.n) && allN (fun i => sameP (x.c i) (y.c i)) x.n)))))) := by
  cases x <;> rfl
/-- They are the same. -/
def Sm (x y : Pt) : Prop := sameP x y = true
theorem sm_iff (x y : Pt) : Sm x y ↔ x.k = y.k ∧ x.s = y.s ∧ x.t = y.t ∧ x.lo = y.lo ∧ x.hi = y.hi ∧ x.n = y.n ∧ ∀ i, i < x.n → Sm (x.c i) (y.c i) := by
  unfold Sm
  rw [sameP_eq]
  simp only [Bool.and_eq_true, decide_eq_true_eq, allN_true]
theorem Sm.refl : ∀ x : Pt, Sm x x := by
  refine Pt.ind fun x ih => ?_
  exact (sm_iff _ _).2 ⟨rfl, rfl, rfl, rfl, rfl, rfl, ih⟩
theorem Sm.symm : ∀ {x y : Pt}, Sm x y → Sm y x := by
  refine @(Pt.ind fun x ih y h => ?_)
  obtain ⟨h1, h2, h3, h4, h5, h6, h7⟩ := (sm_iff _ _).1 h
  exact (sm_iff _ _).2 ⟨h1.symm, h2.symm, h3.symm, h4.symm, h5.symm, h6.symm, fun i hi => ih i (by omega) (h7 i (by omega))⟩
theorem Sm.trans : ∀ {x y z : Pt}, Sm x y → Sm y z → Sm x z := by
  refine @(Pt.ind fun x ih y z h g => ?_)
  obtain ⟨h1, h2, h3, h4, h5, h6, h7⟩ := (sm_iff _ _).1 h
  obtain ⟨g1, g2, g3, g4, g5, g6, g7⟩ := (sm_iff _ _).1 g
  exact (sm_iff _ _).2 ⟨h1.trans g1, h2.trans g2, h3.trans g3, h4.trans g4, h5.trans g5, h6.trans g6, fun i hi => ih i hi (h7 i hi) (g7 i (by omega))⟩
/-- What is the same for the same is told alike. -/
theorem sameP_congr {x x' y y' : Pt} (h : Sm x x') (g : Sm y y') : sameP x y = sameP x' y' := by
  rw [Bool.eq_iff_iff]
  exact ⟨fun e => h.symm.trans (Sm.trans e g), fun e => h.trans (Sm.trans e g.symm)⟩
theorem size_sm : ∀ {x y : Pt}, Sm x y → x.size = y.size := by
  refine @(Pt.ind fun x ih y h => ?_)
  obtain ⟨h1, h2, h3, h4, h5, h6, h7⟩ := (sm_iff _ _).1 h
  rw [x.size_eq, y.size_eq, ← h6, sumN_congr fun i hi => ih i hi (h7 i hi)]
theorem deep_sm : ∀ {x y : Pt}, Sm x y → x.deep = y.deep := by
  refine @(Pt.ind fun x ih y h => ?_)
  obtain ⟨h1, h2, h3, h4, h5, h6, h7⟩ := (sm_iff _ _).1 h
  rw [x.deep_eq, y.deep_eq, ← h6, maxN_congr fun i hi => ih i hi (h7 i hi)]
/-- Has its kind a Var? -/
def nmd (k : Int) : Bool := k == 1 || k == 5 || k == 6
/-- With other names. -/
def renP (g : ByteArray → ByteArray) : Pt → Pt
  | .nil => .nil
  | .mk k s t lo hi a n cap c => .mk k (if nmd k = true then g s else s) t lo hi a n cap (fun i => renP g (c i))
theorem renP_parts (g : ByteArray → ByteArray) (x : Pt) : (renP g x).k = x.k ∧ (renP g x).s = (if nmd x.k = true then g x.s else x.s) ∧ (renP g x).t = x.t ∧ (renP g x).lo = x.lo ∧ (renP g x).hi = x.hi ∧ (renP g x).n = x.n ∧ ∀ i, (renP g x).c i = renP g (x.c i) := by
  cases x with
  | nil => exact ⟨rfl, rfl, rfl, rfl, rfl, rfl, fun _ => rfl⟩
  | mk => exact ⟨rfl, rfl, rfl, rfl, rfl, rfl, fun _ => rfl⟩
theorem renP_slice (g : ByteArray → ByteArray) (x : Pt) : (renP g x).a = x.a ∧ (renP g x).cap = x.cap := by
  cases x with
  | nil => exact ⟨rfl, rfl⟩
  | mk => exact ⟨rfl, rfl⟩
theorem renP_sm (g : ByteArray → ByteArray) : ∀ {x y : Pt}, Sm x y → Sm (renP g x) (renP g y) := by
  refine @(Pt.ind fun x ih y h => ?_)
  obtain ⟨h1, h2, h3, h4, h5, h6, h7⟩ := (sm_iff _ _).1 h
  obtain ⟨a1, a2, a3, a4, a5, a6, a7⟩ := renP_parts g x
  obtain ⟨b1, b2, b3, b4, b5, b6, b7⟩ := renP_parts g y
  rw [sm_iff, a1, a2, a3, a4, a5, a6, b1, b2, b3, b4, b5, b6, h1, h2]
  exact ⟨rfl, rfl, h3, h4, h5, h6, fun i hi => by rw [a7, b7]; exact ih i hi (h7 i hi)⟩
/-- The nodes that have a Var, in the order in which they stand. -/
def usesP : Pt → List Pt
  | .nil => []
  | .mk k s t lo hi a n cap c => (if nmd k = true then [.mk k s t lo hi a n cap c] else []) ++ catN (fun i => usesP (c i)) n
theorem usesP_eq (x : Pt) : usesP x = (if nmd x.k = true then [x] else []) ++ catN (fun i => usesP (x.c i)) x.n := by cases x <;> rfl
/-- All nodes in their order, each with how many lie on the way down to it. -/
def visP (d : Nat) : Pt → List (Nat × Pt)
  | .nil => [(d, .nil)]
  | .mk k s t lo hi a n cap c => (d, .mk k s t lo hi a n cap c) :: catN (fun i => visP (d + 1) (c i)) n
theorem visP_eq (d : Nat) (x : Pt) : visP d x = (d, x) :: catN (fun i => visP (d + 1) (x.c i)) x.n := by cases x <;> rfl
theorem catN_split {α : Type} (f : Nat → List α) : ∀ {n i : Nat}, i < n → ∃ r, catN f n = catN f i ++ (f i ++ r)
  | 0, _, h => by omega
  | n + 1, i, h => by
    by_cases e : i = n
    · subst e; exact ⟨[], by simp [catN]⟩
    · obtain ⟨r, hr⟩ := catN_split f (show i < n by omega)
      exact ⟨r ++ f n, by rw [catN, hr]; simp⟩
theorem catN_congr {α : Type} {f g : Nat → List α} : ∀ {n : Nat}, (∀ i, i < n → f i = g i) → catN f n = catN g n
  | 0, _ => rfl
  | n + 1, h => by rw [catN, catN, catN_congr fun i hi => h i (by omega), h n (by omega)]
theorem catN_map {α β : Type} (g : α → β) (f : Nat → List α) : ∀ n, (catN f n).map g = catN (fun i => (f i).map g) n
  | 0 => rfl
  | n + 1 => by rw [catN, catN, List.map_append, catN_map g f n]
theorem catN_filter {α : Type} (g : α → Bool) (f : Nat → List α) : ∀ n, (catN f n).filter g = catN (fun i => (f i).filter g) n
  | 0 => rfl
  | n + 1 => by rw [catN, catN, List.filter_append, catN_filter g f n]
theorem length_visP : ∀ (x : Pt) (d : Nat), (visP d x).length = x.size := by
  refine Pt.ind fun x ih d => ?_
  have : ∀ m, m ≤ x.n → (catN (fun i => visP (d + 1) (x.c i)) m).length = sumN (fun i => (x.c i).size) m := by
    intro m
    induction m with
    | zero => intro _; rfl
    | succ m ihm => intro hm; simp only [catN, sumN, List.length_append]; rw [ihm (by omega), ih m (by omega)]
  rw [visP_eq, x.size_eq, List.length_cons, this _ (Nat.le_refl _)]
  omega
/-- Of all nodes those that have a Var. -/
theorem uses_visP : ∀ (x : Pt) (d : Nat), ((visP d x).filter fun v => nmd v.2.k).map (·.2) = usesP x := by
  refine Pt.ind fun x ih d => ?_
  have hc : (catN (fun i => ((visP (d + 1) (x.c i)).filter fun v => nmd v.2.k).map (·.2)) x.n) = catN (fun i => usesP (x.c i)) x.n := catN_congr fun i hi => ih i hi (d + 1)
  rw [visP_eq, usesP_eq, List.filter_cons]
  by_cases h : nmd x.k = true
  · rw [if_pos h, if_pos h, List.map_cons, catN_filter, catN_map, hc]
    rfl
  · rw [if_neg h, if_neg h, catN_filter, catN_map, hc]
    rfl
/-- A property of all nodes. -/
theorem visP_all {P : Nat → Pt → Prop} (h : ∀ d x, P d x → ∀ i, i < x.n → P (d + 1) (x.c i)) : ∀ (x : Pt) (d : Nat), P d x → ∀ v ∈ visP d x, P v.1 v.2 := by
  refine Pt.ind fun x ih d hx v hv => ?_
  rw [visP_eq] at hv
  rcases List.mem_cons.1 hv with rfl | hv
  · exact hx
  · obtain ⟨i, hi, hv⟩ := mem_catN.1 hv
    exact ih i hi (d + 1) (h d x hx i hi) v hv
theorem mem_uses {x y : Pt} : y ∈ usesP x ↔ ∃ d, (d, y) ∈ visP 1 x ∧ nmd y.k = true := by
  rw [← uses_visP x 1]
  simp only [List.mem_map, List.mem_filter]
  constructor
  · rintro ⟨⟨d, z⟩, ⟨h1, h2⟩, rfl⟩
    exact ⟨d, h1, h2⟩
  · rintro ⟨d, h1, h2⟩
    exact ⟨(d, y), ⟨h1, h2⟩, rfl⟩
theorem vis_deep : ∀ (x : Pt) (d : Nat), ∀ v ∈ visP d x, v.1 + v.2.deep ≤ d + x.deep ∧ d ≤ v.1 := by
  refine Pt.ind fun x ih d v hv => ?_
  rw [visP_eq] at hv
  rcases List.mem_cons.1 hv with rfl | hv
  · exact ⟨Nat.le_refl _, Nat.le_refl _⟩
  · obtain ⟨i, hi, hv⟩ := mem_catN.1 hv
    have := ih i hi (d + 1) v hv
    have := x.deep_part i hi
    omega
theorem Pt.deep_pos (x : Pt) : 1 ≤ x.deep := by rw [x.deep_eq]; omega
/-- There is a node at the end of the longest way. -/
theorem vis_deepest : ∀ (x : Pt) (d : Nat), ∃ v ∈ visP d x, v.1 + 1 = d + x.deep := by
  refine Pt.ind fun x ih d => ?_
  by_cases h0 : x.n = 0
  · refine ⟨(d, x), by rw [visP_eq]; simp, ?_⟩
    rw [x.deep_eq, h0]
    rfl
  · have key : ∀ m, m ≤ x.n → 0 < m → ∃ i, i < m ∧ (x.c i).deep = maxN (fun i => (x.c i).deep) m := by
      intro m
      induction m with
      | zero => intro _ h; omega
      | succ m ihm =>
        intro hm _
        by_cases e : m = 0
        · subst e; exact ⟨0, by omega, by simp [maxN]⟩
        · obtain ⟨i, hi, q⟩ := ihm (by omega) (by omega)
          simp only [maxN]
          by_cases hle : maxN (fun i => (x.c i).deep) m ≤ (x.c m).deep
          · exact ⟨m, by omega, by omega⟩
          · exact ⟨i, by omega, by omega⟩
    obtain ⟨i, hi, q⟩ := key x.n (Nat.le_refl _) (by omega)
    obtain ⟨v, hv, hd⟩ := ih i hi (d + 1)
    refine ⟨v, by rw [visP_eq]; exact List.mem_cons_of_mem _ (mem_catN.2 ⟨i, hi, hv⟩), ?_⟩
    rw [x.deep_eq, ← q]
    omega
end Go.Proofs.Ytinnhaojmnmliaa
namespace Go.Proofs.Ytinnhaojmnmliaa
open Go.RowKit

abbrev Pt.slice (x : Pt) : Value := .slice x.a x.n x.cap
/-- A pattern as a value. -/
abbrev Pt.val (x : Pt) : Value := .agg #[.int .i64 x.k, .string x.s, .string x.t, .int .i64 x.lo, .int .i64 x.hi, .slice x.a x.n x.cap]
/-- The six cells of a node. -/
def NodeP (w : World) (b o : Nat) (x : Pt) : Prop :=
  w.cell? ⟨b, o, none⟩ = some (.int .i64 x.k) ∧ w.cell? ⟨b, o + 1, none⟩ = some (.string x.s) ∧ w.cell? ⟨b, o + 2, none⟩ = some (.string x.t) ∧ w.cell? ⟨b, o + 3, none⟩ = some (.int .i64 x.lo) ∧
    w.cell? ⟨b, o + 4, none⟩ = some (.int .i64 x.hi) ∧ w.cell? ⟨b, o + 5, none⟩ = some (.slice x.a x.n x.cap)
/-- All that lies below a pattern. -/
def IsP (w : World) : Pt → Prop
  | .nil => True
  | .mk _ _ _ _ _ a n cap c => n ≤ cap ∧ cap ≤ 9223372036854775807 ∧ ∀ i, i < n → ∃ b o, a = some ⟨b, o, none⟩ ∧ NodeP w b (o + i * 6) (c i) ∧ IsP w (c i)
theorem isP_eq (w : World) (x : Pt) : IsP w x ↔ x.n ≤ x.cap ∧ x.cap ≤ 9223372036854775807 ∧ ∀ i, i < x.n → ∃ b o, x.a = some ⟨b, o, none⟩ ∧ NodeP w b (o + i * 6) (x.c i) ∧ IsP w (x.c i) := by
  cases x with
  | nil => simp [IsP, Pt.n, Pt.cap]
  | mk => rfl
theorem IsP.part {w : World} {x : Pt} (h : IsP w x) {i : Nat} (hi : i < x.n) : ∃ b o, x.a = some ⟨b, o, none⟩ ∧ NodeP w b (o + i * 6) (x.c i) ∧ IsP w (x.c i) := ((isP_eq w x).1 h).2.2 i hi
theorem IsP.len {w : World} {x : Pt} (h : IsP w x) : x.n ≤ 9223372036854775807 := by have := (isP_eq w x).1 h; omega
theorem NodeP.of {w w' : World} {b o : Nat} {x : Pt} (h : NodeP w b o x) (hk : ∀ j, j < 6 → w'.cell? ⟨b, o + j, none⟩ = w.cell? ⟨b, o + j, none⟩) : NodeP w' b o x :=
  ⟨(hk 0 (by omega)).trans h.1, (hk 1 (by omega)).trans h.2.1, (hk 2 (by omega)).trans h.2.2.1, (hk 3 (by omega)).trans h.2.2.2.1, (hk 4 (by omega)).trans h.2.2.2.2.1, (hk 5 (by omega)).trans h.2.2.2.2.2⟩
theorem NodeP.lt {w : World} {b o : Nat} {x : Pt} (h : NodeP w b o x) : b < w.heap.size := by
  have h0 := h.1
  simp only [World.cell?] at h0
  by_cases hb : b < w.heap.size
  · exact hb
  · rw [Array.getElem?_eq_none (by omega)] at h0
    cases h0
theorem NodeP.later {w w' : World} {b o : Nat} {x : Pt} (h : NodeP w b o x) (hB : Below w.heap.size w w') : NodeP w' b o x := h.of fun j _ => hB.cell (p := ⟨b, o + j, none⟩) h.lt
theorem IsP.later {w w' : World} (hB : Below w.heap.size w w') : ∀ {x : Pt}, IsP w x → IsP w' x
  | .nil, _ => trivial
  | .mk _ _ _ _ _ _ _ _ c, h => by
    obtain ⟨h1, h2, h3⟩ := h
    refine ⟨h1, h2, fun i hi => ?_⟩
    obtain ⟨b, o, e, hn, hx⟩ := h3 i hi
    exact ⟨b, o, e, hn.later hB, IsP.later hB hx⟩
/-- What lies below n₀ alone. -/
def PIn (n₀ : Nat) (w : World) : Pt → Prop
  | .nil => True
  | .mk _ _ _ _ _ a n cap c => n ≤ cap ∧ cap ≤ 9223372036854775807 ∧ ∀ i, i < n → ∃ b o, a = some ⟨b, o, none⟩ ∧ b < n₀ ∧ NodeP w b (o + i * 6) (c i) ∧ PIn n₀ w (c i)
theorem pIn_eq (n₀ : Nat) (w : World) (x : Pt) : PIn n₀ w x ↔ x.n ≤ x.cap ∧ x.cap ≤ 9223372036854775807 ∧ ∀ i, i < x.n → ∃ b o, x.a = some ⟨b, o, none⟩ ∧ b < n₀ ∧ NodeP w b (o + i * 6) (x.c i) ∧ PIn n₀ w (x.c i) := by
  cases x with
  | nil => simp [PIn, Pt.n, Pt.cap]
  | mk => rfl
theorem IsP.inn {w : World} : ∀ {x : Pt}, IsP w x → PIn w.heap.size w x
  | .nil, _ => trivial
  | .mk _ _ _ _ _ _ _ _ c, h => by
    obtain ⟨h1, h2, h3⟩ := h
    refine ⟨h1, h2, fun i hi => ?_⟩
    obtain ⟨b, o, e, hn, hx⟩ := h3 i hi
    exact ⟨b, o, e, hn.lt, hn, hx.inn⟩
theorem PIn.is {n₀ : Nat} {w : World} : ∀ {x : Pt}, PIn n₀ w x → IsP w x
  | .nil, _ => trivial
  | .mk _ _ _ _ _ _ _ _ c, h => by
    obtain ⟨h1, h2, h3⟩ := h
    refine ⟨h1, h2, fun i hi => ?_⟩
    obtain ⟨b, o, e, _, hn, hx⟩ := h3 i hi
    exact ⟨b, o, e, hn, hx.is⟩
theorem NodeP.below {n₀ : Nat} {w w' : World} {b o : Nat} {x : Pt} (h : NodeP w b o x) (hB : Below n₀ w w') (hb : b < n₀) : NodeP w' b o x := h.of fun j _ => hB.cell (p := ⟨b, o + j, none⟩) hb
theorem PIn.below {n₀ : Nat} {w w' : World} (hB : Below n₀ w w') : ∀ {x : Pt}, PIn n₀ w x → PIn n₀ w' x
  | .nil, _ => trivial
  | .mk _ _ _ _ _ _ _ _ c, h => by
    obtain ⟨h1, h2, h3⟩ := h
    refine ⟨h1, h2, fun i hi => ?_⟩
    obtain ⟨b, o, e, hb, hn, hx⟩ := h3 i hi
    exact ⟨b, o, e, hb, hn.below hB hb, PIn.below hB hx⟩
theorem PIn.mono {n₀ n₁ : Nat} {w : World} (hn : n₀ ≤ n₁) : ∀ {x : Pt}, PIn n₀ w x → PIn n₁ w x
  | .nil, _ => trivial
  | .mk _ _ _ _ _ _ _ _ c, h => by
    obtain ⟨h1, h2, h3⟩ := h
    refine ⟨h1, h2, fun i hi => ?_⟩
    obtain ⟨b, o, e, hb, hn', hx⟩ := h3 i hi
    exact ⟨b, o, e, by omega, hn', PIn.mono hn hx⟩
/-- Texts no longer than texts can be. -/
def POk : Pt → Prop
  | .nil => True
  | .mk _ s t _ _ _ n _ c => s.size ≤ maxLen ∧ t.size ≤ maxLen ∧ ∀ i, i < n → POk (c i)
theorem pOk_eq (x : Pt) : POk x ↔ x.s.size ≤ maxLen ∧ x.t.size ≤ maxLen ∧ ∀ i, i < x.n → POk (x.c i) := by
  cases x with
  | nil => exact ⟨fun _ => ⟨Nat.zero_le _, Nat.zero_le _, fun i hi => absurd hi (Nat.not_lt_zero _)⟩, fun _ => trivial⟩
  | mk => rfl
/-- The six cells of a pattern as one value. -/
abbrev Pt.cells (x : Pt) : Array Value := #[.int .i64 x.k, .string x.s, .string x.t, .int .i64 x.lo, .int .i64 x.hi, .slice x.a x.n x.cap]
theorem nodeP_box {w : World} {B : Nat} {t : TypeId} {x : Pt} (h : w.heap[B]? = some (.cells x.cells t (0, 0))) : NodeP w B 0 x := by
  refine ⟨?_, ?_, ?_, ?_, ?_, ?_⟩ <;> simp [World.cell?, h]
theorem nodeP_new (w : World) (t : TypeId) (x : Pt) : NodeP (w.alloc (.cells x.cells t)) w.heap.size 0 x := nodeP_box (World.alloc_heap_new w _)
theorem NodeP.at0 {w : World} {B : Nat} {x : Pt} (h : NodeP w B 0 x) : w.cell? ⟨B, 0, none⟩ = some (.int .i64 x.k) ∧ w.cell? ⟨B, 1, none⟩ = some (.string x.s) ∧ w.cell? ⟨B, 2, none⟩ = some (.string x.t) ∧ w.cell? ⟨B, 3, none⟩ = some (.int .i64 x.lo) ∧
    w.cell? ⟨B, 4, none⟩ = some (.int .i64 x.hi) ∧ w.cell? ⟨B, 5, none⟩ = some (.slice x.a x.n x.cap) := by
  have := h
  simp only [NodeP, Nat.zero_add] at this
  exact this
/-- The box that holds a pattern stays. -/
theorem nodeP_on {w A W : World} {x : Pt} (hn : NodeP A w.heap.size 0 x) (hB : Below (w.heap.size + 1) A W) : NodeP W w.heap.size 0 x := hn.below hB (by omega)
/-- A pattern in a box of its own. -/
theorem boxP_one (x : Pt) (w : World) : ∃ A, w.alloc (.cells x.cells 24) = A ∧ Below w.heap.size w A ∧ A.heap.size = w.heap.size + 1 ∧ NodeP A w.heap.size 0 x :=
  ⟨_, rfl, (Below.refl _ w).alloc (Nat.le_refl _) _, by simp, nodeP_new w _ x⟩
theorem boxP_two (x y : Pt) (w : World) : ∃ A, (w.alloc (.cells x.cells 24)).alloc (.cells y.cells 24) = A ∧ Below w.heap.size w A ∧ A.heap.size = w.heap.size + 2 ∧ NodeP A w.heap.size 0 x ∧ NodeP A (w.heap.size + 1) 0 y := by
  refine ⟨_, rfl, ((Below.refl _ w).alloc (Nat.le_refl _) _).alloc (by simp) _, by simp, (nodeP_new w _ x).later ((Below.refl _ _).alloc (Nat.le_refl _) _), ?_⟩
  have := nodeP_new (w.alloc (.cells x.cells 24)) 24 y
  rwa [World.size_alloc] at this
theorem lengthP_le_size (v : Pt) : v.n ≤ v.size := by
  have : ∀ m, m ≤ sumN (fun i => (v.c i).size) m := by
    intro m
    induction m with
    | zero => exact Nat.le_refl _
    | succ m ih => have := (v.c m).size_pos; simp only [sumN]; omega
  have := this v.n
  rw [v.size_eq]
  omega
/-- The machine's numbers. -/
def INat (z : Int) : Prop := -9223372036854775808 ≤ z ∧ z < 9223372036854775808
end Go.Proofs.Ytinnhaojmnmliaa
