/-
  Conditions (api.Expr) as trees: how many nodes, how deep, their order; plain facts, of no function.
  Names in order, each once: plain facts, of no function.
  Small facts that many texts share: texts that are the same, names as keys, what stays; of no function.
  Conditions as they lie in memory; of no function.
  Patterns (api.Pat) as trees: how many nodes, how deep, which are the same, with other names; plain facts, of no function.
-/
import Derived.Test.YtinnhaojmnmliaaGreatCValOrderMath
import Derived.Test.YtinnhaojmnmliaaGreatCTxt
import Derived.Maps.OwnSet
import Derived.BigQuiet
namespace Go.Proofs.YtinnhaojmnmliaaGreat
open Go.RowKit

/-- A condition: its kind, value, Var and Field; its parts' slice (where it lies, how many, how much room) and the parts. -/
inductive X where
  | nil : X
  | mk (k : Int) (v : Val) (s f : ByteArray) (a : Option Addr) (n cap : Nat) (c : Nat → X) : X
def X.k : X → Int | .nil => 0 | .mk k .. => k
def X.v : X → Val | .nil => val0 | .mk _ v .. => v
def X.s : X → ByteArray | .nil => ⟨#[]⟩ | .mk _ _ s .. => s
def X.f : X → ByteArray | .nil => ⟨#[]⟩ | .mk _ _ _ f .. => f
def X.a : X → Option Addr | .nil => none | .mk _ _ _ _ a .. => a
def X.n : X → Nat | .nil => 0 | .mk _ _ _ _ _ n .. => n
def X.cap : X → Nat | .nil => 0 | .mk _ _ _ _ _ _ cap _ => cap
def X.c : X → Nat → X | .nil => fun _ => .nil | .mk _ _ _ _ _ _ _ c => c
theorem X.ind {P : X → Prop} (h : ∀ x, (∀ i, i < x.n → P (x.c i)) → P x) : ∀ x, P x
  | .nil => h .nil fun _ hi => absurd hi (Nat.not_lt_zero _)
  | .mk k v s f a n cap c => h (.mk k v s f a n cap c) fun i _ => X.ind h (c i)

/-- The first of the first that is not 0. -/
def lexN (f : Nat → Int) : Nat → Int
  | 0 => 0
  | n + 1 => if lexN f n = 0 then f n else lexN f n
def orI (a b : Int) : Int := if a = 0 then b else a
def X.size : X → Nat
  | .nil => 1
  | .mk _ _ _ _ _ n _ c => 1 + sumN (fun i => (c i).size) n
def X.deep : X → Nat
  | .nil => 1
  | .mk _ _ _ _ _ n _ c => maxN (fun i => (c i).deep) n + 1
theorem X.size_eq (x : X) : x.size = 1 + sumN (fun i => (x.c i).size) x.n := by cases x <;> rfl
theorem X.deep_eq (x : X) : x.deep = maxN (fun i => (x.c i).deep) x.n + 1 := by cases x <;> rfl
theorem X.size_part (x : X) (i : Nat) (h : i < x.n) : (x.c i).size < x.size := by
  have := sumN_le (f := fun i => (x.c i).size) h
  rw [x.size_eq]
  omega
theorem X.size_pos (x : X) : 1 ≤ x.size := by rw [x.size_eq]; omega
def ordV (x y : Val) : Int := ordZ x.k x.n x.s y.k y.n y.s
/-- Order's answer. -/
def ordX : X → X → Int
  | .nil, y => orI (cmpI 0 y.k) (orI (ordV val0 y.v) (orI (cmpS ⟨#[]⟩ y.s) (orI (cmpS ⟨#[]⟩ y.f) (orI (cmpI (0 : Nat) y.n) 0))))
  | .mk k v s f _ n _ c, y => orI (cmpI k y.k) (orI (ordV v y.v) (orI (cmpS s y.s) (orI (cmpS f y.f) (orI (cmpI n y.n) (lexN (fun i => ordX (c i) (y.c i)) n)))))
theorem ordX_eq (x y : X) : ordX x y = orI (cmpI x.k y.k) (orI (ordV x.v y.v) (orI (cmpS x.s y.s) (orI (cmpS x.f y.f) (orI (cmpI x.n y.n) (lexN (fun i => ordX (x.c i) (y.c i)) x.n))))) := by
  cases x <;> rfl
/-- What an order's three answers of three things have to be. -/
def Comp (f g h : Int) : Prop := (f = 0 → g = 0 → h = 0) ∧ (f < 0 → g ≤ 0 → h < 0) ∧ (f ≤ 0 → g < 0 → h < 0)
theorem Comp.or {f g h f' g' h' : Int} (c : Comp f g h) (d : f = 0 → g = 0 → Comp f' g' h') : Comp (orI f f') (orI g g') (orI h h') := by
  obtain ⟨c1, c2, c3⟩ := c
  unfold orI
  by_cases hf : f = 0
  · by_cases hg : g = 0
    · have hh := c1 hf hg
      rw [if_pos hf, if_pos hg, if_pos hh]
      exact d hf hg
    · rw [if_pos hf, if_neg hg]
      refine ⟨fun h1 h2 => absurd h2 hg, fun h1 h2 => ?_, fun h1 h2 => ?_⟩
      · have := c3 (by omega) (by omega); rw [if_neg (by omega)]; exact this
      · have := c3 (by omega) (by omega); rw [if_neg (by omega)]; exact this
  · rw [if_neg hf]
    refine ⟨fun h1 => absurd h1 hf, fun h1 h2 => ?_, fun h1 h2 => ?_⟩
    · have : h < 0 := c2 h1 (by split at h2 <;> omega)
      rw [if_neg (by omega)]; exact this
    · have : h < 0 := c2 (by omega) (by split at h2 <;> omega)
      rw [if_neg (by omega)]; exact this
theorem Comp.lex {f g h : Nat → Int} : ∀ {n : Nat}, (∀ i, i < n → Comp (f i) (g i) (h i)) → Comp (lexN f n) (lexN g n) (lexN h n)
  | 0, _ => ⟨fun _ _ => rfl, fun h => by simp [lexN] at h, fun _ h => by simp [lexN] at h⟩
  | n + 1, c => (Comp.lex fun i hi => c i (by omega)).or fun _ _ => c n (by omega)
theorem cmpI_comp (a b c : Int) : Comp (cmpI a b) (cmpI b c) (cmpI a c) := by
  unfold Comp cmpI
  refine ⟨?_, ?_, ?_⟩ <;> (intro h1 h2; split at h1 <;> split at h2 <;> split <;> (try split at h1) <;> (try split at h2) <;> (try split) <;> omega)
theorem cmpS_zero {s t : ByteArray} (h : cmpS s t = 0) : s = t := by
  rcases cmpS_cases s t with h1 | h1 | h1
  · omega
  · have := h1.2
    rw [ByteArray.toList_eq, ByteArray.toList_eq] at this
    exact ByteArray.ext (Array.ext' this)
  · omega
theorem cmpS_self (s : ByteArray) : cmpS s s = 0 := by
  rcases cmpS_cases s s with h1 | h1 | h1
  · exact absurd rfl h1.2.2
  · exact h1.1
  · exact absurd rfl h1.2.2
theorem cmpS_turn (s t : ByteArray) : cmpS t s = -cmpS s t := by
  rcases cmpS_cases s t with h1 | h1 | h1 <;> rcases cmpS_cases t s with h2 | h2 | h2
  · have := less_trans _ _ _ h1.2.1 h2.2.1; rw [less_irrefl] at this; cases this
  · exact absurd h2.2.symm h1.2.2
  · omega
  · exact absurd h1.2.symm h2.2.2
  · omega
  · exact absurd h1.2.symm h2.2.2
  · omega
  · exact absurd h2.2.symm h1.2.2
  · have := less_trans _ _ _ h1.2.1 h2.2.1; rw [less_irrefl] at this; cases this
theorem cmpS_comp (s t r : ByteArray) : Comp (cmpS s t) (cmpS t r) (cmpS s r) := by
  have key : cmpS s t = -1 → cmpS t r = -1 → cmpS s r = -1 := by
    intro h1 h2
    rcases cmpS_cases s t with a | a | a <;> rcases cmpS_cases t r with b | b | b <;> first | omega | skip
    have := less_trans _ _ _ a.2.1 b.2.1
    rcases cmpS_cases s r with c | c | c
    · exact c.1
    · rw [c.2, less_irrefl] at this; cases this
    · have h3 := less_trans _ _ _ this c.2.1; rw [less_irrefl] at h3; cases h3
  have zl : cmpS s t = 0 → cmpS s r = cmpS t r := fun h => by rw [cmpS_zero h]
  have zr : cmpS t r = 0 → cmpS s r = cmpS s t := fun h => by rw [cmpS_zero h]
  have a := cmpS_cases s t
  have b := cmpS_cases t r
  have a' : cmpS s t = -1 ∨ cmpS s t = 0 ∨ cmpS s t = 1 := by rcases a with h | h | h <;> simp [h.1]
  have b' : cmpS t r = -1 ∨ cmpS t r = 0 ∨ cmpS t r = 1 := by rcases b with h | h | h <;> simp [h.1]
  clear a b
  refine ⟨fun h1 h2 => by rw [zl h1]; exact h2, fun h1 h2 => ?_, fun h1 h2 => ?_⟩
  · by_cases e : cmpS t r = 0
    · rw [zr e]; exact h1
    · have := key (by omega) (by omega); omega
  · by_cases e : cmpS s t = 0
    · rw [zl e]; exact h2
    · have := key (by omega) (by omega); omega
theorem cmpI_turn (a b : Int) : cmpI b a = -cmpI a b := by
  unfold cmpI
  split <;> split <;> (try split) <;> (try split) <;> omega
theorem cmpI_zero {a b : Int} (h : cmpI a b = 0) : a = b := by
  rcases cmpI_cases a b with h1 | h1 | h1 <;> omega
theorem cmpI_self (a : Int) : cmpI a a = 0 := by unfold cmpI; simp
theorem ordV_eq (x y : Val) : ordV x y = orI (cmpI x.k y.k) (orI (cmpI x.n y.n) (cmpS x.s y.s)) := by
  unfold ordV ordZ orI
  by_cases h1 : cmpI x.k y.k = 0
  · by_cases h2 : cmpI x.n y.n = 0
    · simp [h1, h2]
    · simp [h1, h2]
  · simp [h1]
theorem ordV_comp (x y z : Val) : Comp (ordV x y) (ordV y z) (ordV x z) := by
  rw [ordV_eq, ordV_eq, ordV_eq]
  exact (cmpI_comp _ _ _).or fun _ _ => (cmpI_comp _ _ _).or fun _ _ => cmpS_comp _ _ _
theorem orI_turn {a b a' b' : Int} (h1 : a' = -a) (h2 : a = 0 → b' = -b) : orI a' b' = -orI a b := by
  unfold orI
  by_cases h : a = 0
  · rw [if_pos (by omega), if_pos h]; exact h2 h
  · rw [if_neg (by omega), if_neg h]; exact h1
theorem lexN_turn {f g : Nat → Int} : ∀ {n : Nat}, (∀ i, i < n → g i = -f i) → lexN g n = -lexN f n
  | 0, _ => rfl
  | n + 1, h => by
    show orI (lexN g n) (g n) = -orI (lexN f n) (f n)
    exact orI_turn (lexN_turn fun i hi => h i (by omega)) fun _ => h n (by omega)
theorem ordV_turn (x y : Val) : ordV y x = -ordV x y := by
  rw [ordV_eq, ordV_eq]
  exact orI_turn (cmpI_turn _ _) fun _ => orI_turn (cmpI_turn _ _) fun _ => cmpS_turn _ _
/-- Turned about, it is turned about. -/
theorem ordX_turn : ∀ x y : X, ordX y x = -ordX x y := by
  refine X.ind fun x ih y => ?_
  · rw [ordX_eq, ordX_eq x]
    refine orI_turn (cmpI_turn _ _) fun _ => orI_turn (ordV_turn _ _) fun _ => orI_turn (cmpS_turn _ _) fun _ => orI_turn (cmpS_turn _ _) fun _ => orI_turn (cmpI_turn _ _) fun h => ?_
    have hn : y.n = x.n := by have := cmpI_zero h; omega
    rw [hn]
    exact lexN_turn fun i hi => ih i hi (y.c i)
/-- It goes on. -/
theorem ordX_comp : ∀ x y z : X, Comp (ordX x y) (ordX y z) (ordX x z) := by
  refine X.ind fun x ih y z => ?_
  · rw [ordX_eq x y, ordX_eq y z, ordX_eq x z]
    refine (cmpI_comp _ _ _).or fun _ _ => (ordV_comp _ _ _).or fun _ _ => (cmpS_comp _ _ _).or fun _ _ => (cmpS_comp _ _ _).or fun _ _ => (cmpI_comp _ _ _).or fun h _ => ?_
    have hn : y.n = x.n := by have := cmpI_zero h; omega
    rw [hn]
    exact Comp.lex fun i hi => ih i hi (y.c i) (z.c i)
theorem orI_zero {a b : Int} : orI a b = 0 ↔ a = 0 ∧ b = 0 := by
  unfold orI
  by_cases h : a = 0
  · simp [h]
  · simp [h]
theorem lexN_zero {f : Nat → Int} : ∀ {n : Nat}, lexN f n = 0 ↔ ∀ i, i < n → f i = 0
  | 0 => by simp [lexN]
  | n + 1 => by
    show orI (lexN f n) (f n) = 0 ↔ _
    rw [orI_zero, lexN_zero]
    constructor
    · rintro ⟨h1, h2⟩ i hi
      by_cases e : i = n
      · exact e ▸ h2
      · exact h1 i (by omega)
    · exact fun h => ⟨fun i hi => h i (by omega), h n (by omega)⟩
theorem ordV_zero {x y : Val} : ordV x y = 0 ↔ x = y := by
  rw [ordV_eq, orI_zero, orI_zero]
  constructor
  · rintro ⟨h1, h2, h3⟩
    cases x; cases y
    simp only at h1 h2 h3
    rw [cmpI_zero h1, cmpI_zero h2, cmpS_zero h3]
  · rintro rfl
    exact ⟨cmpI_self _, cmpI_self _, cmpS_self _⟩
/-- It is 0 just where all fields are the same. -/
theorem ordX_zero (x y : X) : ordX x y = 0 ↔ x.k = y.k ∧ x.v = y.v ∧ x.s = y.s ∧ x.f = y.f ∧ x.n = y.n ∧ ∀ i, i < x.n → ordX (x.c i) (y.c i) = 0 := by
  rw [ordX_eq, orI_zero, orI_zero, orI_zero, orI_zero, orI_zero, lexN_zero, ordV_zero]
  constructor
  · rintro ⟨h1, h2, h3, h4, h5, h6⟩
    exact ⟨cmpI_zero h1, h2, cmpS_zero h3, cmpS_zero h4, by have := cmpI_zero h5; omega, h6⟩
  · rintro ⟨h1, h2, h3, h4, h5, h6⟩
    rw [h1, h3, h4, h5]
    exact ⟨cmpI_self _, h2, cmpS_self _, cmpS_self _, cmpI_self _, fun i hi => h6 i (by omega)⟩
theorem ordX_self : ∀ x : X, ordX x x = 0 := X.ind fun _ ih => (ordX_zero _ _).2 ⟨rfl, rfl, rfl, rfl, rfl, ih⟩
theorem ordX_trans {x y z : X} (h1 : ordX x y ≤ 0) (h2 : ordX y z ≤ 0) : ordX x z ≤ 0 := by
  obtain ⟨c1, c2, c3⟩ := ordX_comp x y z
  by_cases e1 : ordX x y = 0
  · by_cases e2 : ordX y z = 0
    · have := c1 e1 e2; omega
    · have := c3 h1 (by omega); omega
  · have := c2 (by omega) h2; omega
/-- The same has as many nodes, and is as deep. -/
theorem size_same : ∀ x y : X, ordX x y = 0 → x.size = y.size := by
  refine X.ind fun x ih y h => ?_
  obtain ⟨_, _, _, _, h5, h6⟩ := (ordX_zero _ _).1 h
  have : ∀ m, m ≤ x.n → sumN (fun i => (x.c i).size) m = sumN (fun i => (y.c i).size) m := by
    intro m
    induction m with
    | zero => intro _; rfl
    | succ m ihm =>
      intro hm
      simp only [sumN]
      rw [ihm (by omega), ih m (by omega) (y.c m) (h6 m (by omega))]
  rw [x.size_eq, y.size_eq, ← h5, this x.n (Nat.le_refl _)]
end Go.Proofs.YtinnhaojmnmliaaGreat
namespace Go.Proofs.YtinnhaojmnmliaaGreat
open Go.RowKit

/-- Names by their bytes, each once. -/
def Sorted : List ByteArray → Prop
  | [] => True
  | a :: l => (∀ b ∈ l, cmpS a b < 0) ∧ Sorted l
/-- One into sorted ones, once. -/
def intoL (s : ByteArray) : List ByteArray → List ByteArray
  | [] => [s]
  | a :: l => if cmpS s a < 0 then s :: a :: l else if cmpS s a = 0 then a :: l else a :: intoL s l
theorem mem_into (s x : ByteArray) : ∀ l : List ByteArray, x ∈ intoL s l ↔ x = s ∨ x ∈ l
  | [] => by simp [intoL]
  | a :: l => by
    simp only [intoL]
    split
    · simp
    · split
      · rename_i h
        have := cmpS_zero h
        subst this
        simp
      · simp only [List.mem_cons, mem_into s x l]
        constructor
        · rintro (h | h | h)
          · exact .inr (.inl h)
          · exact .inl h
          · exact .inr (.inr h)
        · rintro (h | h | h)
          · exact .inr (.inl h)
          · exact .inl h
          · exact .inr (.inr h)
theorem less_on {a b c : ByteArray} (h1 : cmpS a b < 0) (h2 : cmpS b c < 0) : cmpS a c < 0 := (cmpS_comp a b c).2.1 h1 (by omega)
theorem sorted_into (s : ByteArray) : ∀ l : List ByteArray, Sorted l → Sorted (intoL s l)
  | [], _ => ⟨fun b hb => by simp at hb, trivial⟩
  | a :: l, h => by
    simp only [intoL]
    split
    · rename_i hs
      refine ⟨fun b hb => ?_, h⟩
      rcases List.mem_cons.1 hb with rfl | hb
      · exact hs
      · exact less_on hs (h.1 b hb)
    · split
      · exact h
      · rename_i h1 h2
        refine ⟨fun b hb => ?_, sorted_into s l h.2⟩
        rcases (mem_into s b l).1 hb with rfl | hb
        · have := cmpS_turn a b; omega
        · exact h.1 b hb
/-- Sorted ones with the same names are the same. -/
theorem sorted_one : ∀ (l m : List ByteArray), Sorted l → Sorted m → (∀ x, x ∈ l ↔ x ∈ m) → l = m
  | [], [], _, _, _ => rfl
  | [], b :: m, _, _, h => absurd ((h b).2 (by simp)) (by simp)
  | a :: l, [], _, _, h => absurd ((h a).1 (by simp)) (by simp)
  | a :: l, b :: m, hl, hm, h => by
    have hab : a = b := by
      rcases List.mem_cons.1 ((h a).1 (by simp)) with e | e
      · exact e
      · rcases List.mem_cons.1 ((h b).2 (by simp)) with f | f
        · exact f.symm
        · have h1 := hm.1 a e
          have h2 := hl.1 b f
          have := cmpS_turn a b
          omega
    subst hab
    have not_mem : ∀ {l : List ByteArray}, (∀ b ∈ l, cmpS a b < 0) → a ∉ l := fun hb ha => by have := hb a ha; rw [cmpS_self] at this; omega
    rw [sorted_one l m hl.2 hm.2 fun x => ?_]
    constructor
    · intro hx
      rcases List.mem_cons.1 ((h x).1 (List.mem_cons_of_mem _ hx)) with e | e
      · subst e; exact absurd hx (not_mem hl.1)
      · exact e
    · intro hx
      rcases List.mem_cons.1 ((h x).2 (List.mem_cons_of_mem _ hx)) with e | e
      · subst e; exact absurd hx (not_mem hm.1)
      · exact e
theorem sorted_nodup : ∀ l : List ByteArray, Sorted l → l.Nodup
  | [], _ => List.nodup_nil
  | a :: l, h => List.nodup_cons.2 ⟨fun ha => by have := h.1 a ha; rw [cmpS_self] at this; omega, sorted_nodup l h.2⟩
/-- Names that are all among others are at most as many. -/
theorem nodup_le : ∀ (l m : List ByteArray), l.Nodup → (∀ x ∈ l, x ∈ m) → l.length ≤ m.length
  | [], _, _, _ => by simp
  | a :: l, m, h, hs => by
    obtain ⟨p, q, rfl⟩ := List.append_of_mem (hs a (by simp))
    obtain ⟨h1, h2⟩ := List.nodup_cons.1 h
    have := nodup_le l (p ++ q) h2 fun x hx => by
      have hm := hs x (List.mem_cons_of_mem _ hx)
      rw [List.mem_append, List.mem_cons] at hm
      rw [List.mem_append]
      rcases hm with hm | hm | hm
      · exact .inl hm
      · exact absurd (hm ▸ hx) h1
      · exact .inr hm
    simp only [List.length_cons, List.length_append] at this ⊢
    omega
theorem nodup_map (g : ByteArray → ByteArray) : ∀ (l : List ByteArray), l.Nodup → (∀ x ∈ l, ∀ y ∈ l, g x = g y → x = y) → (l.map g).Nodup
  | [], _, _ => by simp
  | a :: l, h, hg => by
    obtain ⟨h1, h2⟩ := List.nodup_cons.1 h
    rw [List.map_cons, List.nodup_cons]
    refine ⟨fun ha => ?_, nodup_map g l h2 fun x hx y hy => hg x (List.mem_cons_of_mem _ hx) y (List.mem_cons_of_mem _ hy)⟩
    obtain ⟨x, hx, e⟩ := List.mem_map.1 ha
    have := hg x (List.mem_cons_of_mem _ hx) a (by simp) e
    exact h1 (this ▸ hx)
/-- Sorted ones whose names are others' new names, no two the same: as many. -/
theorem sorted_map_length (g : ByteArray → ByteArray) (l m : List ByteArray) (hl : Sorted l) (hm : Sorted m) (hg : ∀ x ∈ l, ∀ y ∈ l, g x = g y → x = y) (h : ∀ x, x ∈ m ↔ ∃ y ∈ l, g y = x) : m.length = l.length := by
  have n1 := nodup_map g l (sorted_nodup l hl) hg
  have h1 := nodup_le m (l.map g) (sorted_nodup m hm) fun x hx => List.mem_map.2 ((h x).1 hx)
  have h2 := nodup_le (l.map g) m n1 fun x hx => (h x).2 (List.mem_map.1 hx)
  rw [List.length_map] at h1 h2
  omega

/-- The names that a condition's fields have. -/
def hasVar (s : ByteArray) : X → Prop
  | .nil => False
  | .mk k _ v _ _ n _ c => (k = 2 ∧ v = s) ∨ ∃ i, i < n ∧ hasVar s (c i)
theorem hasVar_eq (s : ByteArray) (x : X) : hasVar s x ↔ (x.k = 2 ∧ x.s = s) ∨ ∃ i, i < x.n ∧ hasVar s (x.c i) := by
  cases x with
  | nil => simp [hasVar, X.k, X.n]
  | mk => exact Iff.rfl
theorem hasVar_same (s : ByteArray) : ∀ x y : X, ordX x y = 0 → hasVar s x → hasVar s y := by
  refine X.ind fun x ih y h hx => ?_
  · obtain ⟨h1, _, h3, _, h5, h6⟩ := (ordX_zero _ _).1 h
    rw [hasVar_eq] at hx ⊢
    rcases hx with ⟨e1, e2⟩ | ⟨i, hi, hv⟩
    · exact .inl ⟨h1 ▸ e1, h3 ▸ e2⟩
    · exact .inr ⟨i, h5 ▸ hi, ih i hi (y.c i) (h6 i hi) hv⟩
/-- With other names. -/
def renX (g : ByteArray → ByteArray) : X → X
  | .nil => .nil
  | .mk k v s f a n cap c => .mk k v (if k = 2 then g s else s) f a n cap (fun i => renX g (c i))
theorem renX_parts (g : ByteArray → ByteArray) (x : X) : (renX g x).k = x.k ∧ (renX g x).v = x.v ∧ (renX g x).s = (if x.k = 2 then g x.s else x.s) ∧ (renX g x).f = x.f ∧ (renX g x).n = x.n ∧ ∀ i, (renX g x).c i = renX g (x.c i) := by
  cases x with
  | nil => exact ⟨rfl, rfl, rfl, rfl, rfl, fun _ => rfl⟩
  | mk => exact ⟨rfl, rfl, rfl, rfl, rfl, fun _ => rfl⟩
theorem renX_same (g : ByteArray → ByteArray) : ∀ x y : X, ordX x y = 0 → ordX (renX g x) (renX g y) = 0 := by
  refine X.ind fun x ih y h => ?_
  · obtain ⟨h1, h2, h3, h4, h5, h6⟩ := (ordX_zero _ _).1 h
    obtain ⟨a1, a2, a3, a4, a5, a6⟩ := renX_parts g x
    obtain ⟨b1, b2, b3, b4, b5, b6⟩ := renX_parts g y
    rw [ordX_zero, a1, a2, a3, a4, a5, b1, b2, b3, b4, b5, h1, h3]
    refine ⟨rfl, h2, rfl, h4, h5, fun i hi => ?_⟩
    rw [a6, b6]
    exact ih i hi (y.c i) (h6 i hi)
/-- And back: it is the same. -/
theorem renX_back (g h : ByteArray → ByteArray) : ∀ x : X, (∀ s, hasVar s x → h (g s) = s) → ordX x (renX h (renX g x)) = 0 := by
  refine X.ind fun x ih hb => ?_
  obtain ⟨a1, a2, a3, a4, a5, a6⟩ := renX_parts g x
  obtain ⟨b1, b2, b3, b4, b5, b6⟩ := renX_parts h (renX g x)
  rw [ordX_zero, b1, b2, b3, b4, b5, a1, a2, a3, a4, a5]
  refine ⟨rfl, rfl, ?_, rfl, rfl, fun i hi => ?_⟩
  · by_cases hk : x.k = 2
    · rw [if_pos hk, if_pos hk]
      exact (hb x.s ((hasVar_eq _ _).2 (.inl ⟨hk, rfl⟩))).symm
    · rw [if_neg hk, if_neg hk]
  · rw [b6, a6]
    exact ih i hi fun t ht => hb t ((hasVar_eq _ _).2 (.inr ⟨i, hi, ht⟩))
theorem hasVar_ren (g : ByteArray → ByteArray) (t : ByteArray) : ∀ x : X, hasVar t (renX g x) ↔ ∃ s, hasVar s x ∧ g s = t := by
  refine X.ind fun x ih => ?_
  obtain ⟨a1, a2, a3, a4, a5, a6⟩ := renX_parts g x
  rw [hasVar_eq, a1, a3, a5]
  constructor
  · rintro (⟨hk, e⟩ | ⟨i, hi, h⟩)
    · rw [if_pos hk] at e
      exact ⟨x.s, (hasVar_eq _ _).2 (.inl ⟨hk, rfl⟩), e⟩
    · rw [a6] at h
      obtain ⟨r, h1, h2⟩ := (ih i hi).1 h
      exact ⟨r, (hasVar_eq _ _).2 (.inr ⟨i, hi, h1⟩), h2⟩
  · rintro ⟨r, h1, h2⟩
    rcases (hasVar_eq _ _).1 h1 with ⟨hk, e⟩ | ⟨i, hi, h⟩
    · exact .inl ⟨hk, by rw [if_pos hk, e]; exact h2⟩
    · exact .inr ⟨i, hi, by rw [a6]; exact (ih i hi).2 ⟨r, h, h2⟩⟩
theorem size_ren (g : ByteArray → ByteArray) : ∀ x : X, (renX g x).size = x.size := by
  refine X.ind fun x ih => ?_
  obtain ⟨a1, a2, a3, a4, a5, a6⟩ := renX_parts g x
  have : ∀ m, m ≤ x.n → sumN (fun i => ((renX g x).c i).size) m = sumN (fun i => (x.c i).size) m := by
    intro m
    induction m with
    | zero => intro _; rfl
    | succ m ihm => intro hm; simp only [sumN]; rw [ihm (by omega), a6, ih m (by omega)]
  rw [X.size_eq, X.size_eq x, a5, this x.n (Nat.le_refl _)]
/-- The document's Vars: those of the parts, one into the others. -/
def intoAll (l : List ByteArray) : List ByteArray → List ByteArray
  | [] => l
  | s :: m => intoAll (intoL s l) m
theorem mem_intoAll (x : ByteArray) : ∀ m l : List ByteArray, x ∈ intoAll l m ↔ x ∈ l ∨ x ∈ m
  | [], l => by simp [intoAll]
  | s :: m, l => by
    simp only [intoAll, mem_intoAll x m, mem_into, List.mem_cons]
    constructor
    · rintro ((h | h) | h)
      · exact .inr (.inl h)
      · exact .inl h
      · exact .inr (.inr h)
    · rintro (h | h | h)
      · exact .inl (.inr h)
      · exact .inl (.inl h)
      · exact .inr h
theorem sorted_intoAll : ∀ m l : List ByteArray, Sorted l → Sorted (intoAll l m)
  | [], _, h => h
  | s :: m, l, h => sorted_intoAll m _ (sorted_into s l h)
def accN (l : List ByteArray) (f : Nat → List ByteArray) : Nat → List ByteArray
  | 0 => l
  | n + 1 => intoAll (accN l f n) (f n)
def varsX : X → List ByteArray
  | .nil => []
  | .mk k _ s _ _ n _ c => accN (if k = 2 then [s] else []) (fun i => varsX (c i)) n
theorem mem_accN (x : ByteArray) (l : List ByteArray) (f : Nat → List ByteArray) : ∀ n, x ∈ accN l f n ↔ x ∈ l ∨ ∃ i, i < n ∧ x ∈ f i
  | 0 => by simp [accN]
  | n + 1 => by
    simp only [accN, mem_intoAll, mem_accN x l f n]
    constructor
    · rintro ((h | ⟨i, hi, h⟩) | h)
      · exact .inl h
      · exact .inr ⟨i, by omega, h⟩
      · exact .inr ⟨n, by omega, h⟩
    · rintro (h | ⟨i, hi, h⟩)
      · exact .inl (.inl h)
      · by_cases e : i = n
        · exact .inr (e ▸ h)
        · exact .inl (.inr ⟨i, by omega, h⟩)
theorem sorted_accN (l : List ByteArray) (f : Nat → List ByteArray) (h : Sorted l) : ∀ n, Sorted (accN l f n)
  | 0 => h
  | n + 1 => sorted_intoAll _ _ (sorted_accN l f h n)
theorem varsX_eq (x : X) : varsX x = accN (if x.k = 2 then [x.s] else []) (fun i => varsX (x.c i)) x.n := by cases x <;> rfl
theorem sorted_vars (x : X) : Sorted (varsX x) := by
  rw [varsX_eq]
  refine sorted_accN _ _ ?_ _
  split
  · exact ⟨fun b hb => by simp at hb, trivial⟩
  · trivial
theorem mem_vars (t : ByteArray) : ∀ x : X, t ∈ varsX x ↔ hasVar t x := by
  refine X.ind fun x ih => ?_
  rw [varsX_eq, mem_accN, hasVar_eq]
  constructor
  · rintro (h | ⟨i, hi, h⟩)
    · split at h
      · rename_i hk
        simp at h
        exact .inl ⟨hk, h.symm⟩
      · simp at h
    · exact .inr ⟨i, hi, (ih i hi).1 h⟩
  · rintro (⟨hk, e⟩ | ⟨i, hi, h⟩)
    · exact .inl (by rw [if_pos hk]; simp [e])
    · exact .inr ⟨i, hi, (ih i hi).2 h⟩
/-- Sorted names that are just a condition's are what Vars tells. -/
theorem vars_one (l : List ByteArray) (x : X) (h : Sorted l) (hm : ∀ t, t ∈ l ↔ hasVar t x) : l = varsX x :=
  sorted_one l (varsX x) h (sorted_vars x) fun t => (hm t).trans (mem_vars t x).symm
end Go.Proofs.YtinnhaojmnmliaaGreat
namespace Go.Proofs.YtinnhaojmnmliaaGreat
open Go.RowKit Go.Maps Go.WideMaps

/-- Strings are the same. -/
theorem same_str (s t : ByteArray) : (s.toList == t.toList) = decide (s = t) := by
  by_cases h : s = t
  · subst h; simp
  · rw [decide_eq_false h, beq_eq_false_iff_ne]
    intro he
    apply h
    rw [ByteArray.toList_eq, ByteArray.toList_eq] at he
    exact ByteArray.ext (Array.ext' he)
theorem str_yes {s t : ByteArray} (h : s = t) : (s.toList == t.toList) = true := by rw [same_str]; exact decide_eq_true h
theorem str_not {s t : ByteArray} (h : ¬ s = t) : (s.toList == t.toList) = false := by rw [same_str]; exact decide_eq_false h
theorem str_law : Keyed Tryz.prog 9 := string_keyed Tryz.underlying9
/-- A name as a key. -/
abbrev keyS (s : ByteArray) : Lit := .string s.data.toList
theorem keyS_ne {s t : ByteArray} (h : ¬ s = t) : keyS s ≠ keyS t := by
  intro e
  injection e with e
  exact h (ByteArray.ext (Array.ext' e))
/-- Below, on and on. -/
theorem bd {w w1 : World} (h : Below w.heap.size w w1) (n : Nat) : Below w.heap.size w (w1.drewN n) := h.trans ⟨rfl, rfl, rfl, Nat.le_refl _, fun _ _ => rfl⟩
end Go.Proofs.YtinnhaojmnmliaaGreat
namespace Go.Proofs.YtinnhaojmnmliaaGreat
open Go.RowKit

abbrev X.slice (x : X) : Value := .slice x.a x.n x.cap
/-- A condition as a value. -/
abbrev X.val (x : X) : Value := .agg #[.int .i64 x.k, .int .i64 x.v.k, .int .i64 x.v.n, .string x.v.s, .string x.s, .string x.f, .slice x.a x.n x.cap]
/-- The seven cells of a node. -/
def Node (w : World) (b o : Nat) (x : X) : Prop :=
  w.cell? ⟨b, o, none⟩ = some (.int .i64 x.k) ∧ w.cell? ⟨b, o + 1, none⟩ = some (.int .i64 x.v.k) ∧ w.cell? ⟨b, o + 2, none⟩ = some (.int .i64 x.v.n) ∧ w.cell? ⟨b, o + 3, none⟩ = some (.string x.v.s) ∧
    w.cell? ⟨b, o + 4, none⟩ = some (.string x.s) ∧ w.cell? ⟨b, o + 5, none⟩ = some (.string x.f) ∧ w.cell? ⟨b, o + 6, none⟩ = some (.slice x.a x.n x.cap)
/-- All that lies below a condition. -/
def IsX (w : World) : X → Prop
  | .nil => True
  | .mk _ _ _ _ a n cap c => n ≤ cap ∧ cap ≤ 9223372036854775807 ∧ ∀ i, i < n → ∃ b o, a = some ⟨b, o, none⟩ ∧ Node w b (o + i * 7) (c i) ∧ IsX w (c i)
theorem isX_eq (w : World) (x : X) : IsX w x ↔ x.n ≤ x.cap ∧ x.cap ≤ 9223372036854775807 ∧ ∀ i, i < x.n → ∃ b o, x.a = some ⟨b, o, none⟩ ∧ Node w b (o + i * 7) (x.c i) ∧ IsX w (x.c i) := by
  cases x with
  | nil => simp [IsX, X.n, X.cap]
  | mk => rfl
theorem IsX.part {w : World} {x : X} (h : IsX w x) {i : Nat} (hi : i < x.n) : ∃ b o, x.a = some ⟨b, o, none⟩ ∧ Node w b (o + i * 7) (x.c i) ∧ IsX w (x.c i) := ((isX_eq w x).1 h).2.2 i hi
theorem IsX.len {w : World} {x : X} (h : IsX w x) : x.n ≤ 9223372036854775807 := by have := (isX_eq w x).1 h; omega
theorem Node.of {w w' : World} {b o : Nat} {x : X} (h : Node w b o x) (hk : ∀ j, j < 7 → w'.cell? ⟨b, o + j, none⟩ = w.cell? ⟨b, o + j, none⟩) : Node w' b o x :=
  ⟨(hk 0 (by omega)).trans h.1, (hk 1 (by omega)).trans h.2.1, (hk 2 (by omega)).trans h.2.2.1, (hk 3 (by omega)).trans h.2.2.2.1, (hk 4 (by omega)).trans h.2.2.2.2.1, (hk 5 (by omega)).trans h.2.2.2.2.2.1, (hk 6 (by omega)).trans h.2.2.2.2.2.2⟩
theorem Node.lt {w : World} {b o : Nat} {x : X} (h : Node w b o x) : b < w.heap.size := by
  have h0 := h.1
  simp only [World.cell?] at h0
  by_cases hb : b < w.heap.size
  · exact hb
  · rw [Array.getElem?_eq_none (by omega)] at h0
    cases h0
theorem Node.later {w w' : World} {b o : Nat} {x : X} (h : Node w b o x) (hB : Below w.heap.size w w') : Node w' b o x := h.of fun j _ => hB.cell (p := ⟨b, o + j, none⟩) h.lt
theorem IsX.later {w w' : World} (hB : Below w.heap.size w w') : ∀ {x : X}, IsX w x → IsX w' x
  | .nil, _ => trivial
  | .mk _ _ _ _ _ _ _ c, h => by
    obtain ⟨h1, h2, h3⟩ := h
    refine ⟨h1, h2, fun i hi => ?_⟩
    obtain ⟨b, o, e, hn, hx⟩ := h3 i hi
    exact ⟨b, o, e, hn.later hB, IsX.later hB hx⟩
/-- What lies below n₀ alone. -/
def XIn (n₀ : Nat) (w : World) : X → Prop
  | .nil => True
  | .mk _ _ _ _ a n cap c => n ≤ cap ∧ cap ≤ 9223372036854775807 ∧ ∀ i, i < n → ∃ b o, a = some ⟨b, o, none⟩ ∧ b < n₀ ∧ Node w b (o + i * 7) (c i) ∧ XIn n₀ w (c i)
theorem xIn_eq (n₀ : Nat) (w : World) (x : X) : XIn n₀ w x ↔ x.n ≤ x.cap ∧ x.cap ≤ 9223372036854775807 ∧ ∀ i, i < x.n → ∃ b o, x.a = some ⟨b, o, none⟩ ∧ b < n₀ ∧ Node w b (o + i * 7) (x.c i) ∧ XIn n₀ w (x.c i) := by
  cases x with
  | nil => simp [XIn, X.n, X.cap]
  | mk => rfl
theorem IsX.inn {w : World} : ∀ {x : X}, IsX w x → XIn w.heap.size w x
  | .nil, _ => trivial
  | .mk _ _ _ _ _ _ _ c, h => by
    obtain ⟨h1, h2, h3⟩ := h
    refine ⟨h1, h2, fun i hi => ?_⟩
    obtain ⟨b, o, e, hn, hx⟩ := h3 i hi
    exact ⟨b, o, e, hn.lt, hn, hx.inn⟩
theorem XIn.is {n₀ : Nat} {w : World} : ∀ {x : X}, XIn n₀ w x → IsX w x
  | .nil, _ => trivial
  | .mk _ _ _ _ _ _ _ c, h => by
    obtain ⟨h1, h2, h3⟩ := h
    refine ⟨h1, h2, fun i hi => ?_⟩
    obtain ⟨b, o, e, _, hn, hx⟩ := h3 i hi
    exact ⟨b, o, e, hn, hx.is⟩
theorem Node.below {n₀ : Nat} {w w' : World} {b o : Nat} {x : X} (h : Node w b o x) (hB : Below n₀ w w') (hb : b < n₀) : Node w' b o x := h.of fun j _ => hB.cell (p := ⟨b, o + j, none⟩) hb
theorem XIn.below {n₀ : Nat} {w w' : World} (hB : Below n₀ w w') : ∀ {x : X}, XIn n₀ w x → XIn n₀ w' x
  | .nil, _ => trivial
  | .mk _ _ _ _ _ _ _ c, h => by
    obtain ⟨h1, h2, h3⟩ := h
    refine ⟨h1, h2, fun i hi => ?_⟩
    obtain ⟨b, o, e, hb, hn, hx⟩ := h3 i hi
    exact ⟨b, o, e, hb, hn.below hB hb, XIn.below hB hx⟩
theorem XIn.mono {n₀ n₁ : Nat} {w : World} (hn : n₀ ≤ n₁) : ∀ {x : X}, XIn n₀ w x → XIn n₁ w x
  | .nil, _ => trivial
  | .mk _ _ _ _ _ _ _ c, h => by
    obtain ⟨h1, h2, h3⟩ := h
    refine ⟨h1, h2, fun i hi => ?_⟩
    obtain ⟨b, o, e, hb, hn', hx⟩ := h3 i hi
    exact ⟨b, o, e, by omega, hn', XIn.mono hn hx⟩
/-- Texts no longer than texts can be. -/
def XOk : X → Prop
  | .nil => True
  | .mk _ _ s f _ n _ c => s.size ≤ maxLen ∧ f.size ≤ maxLen ∧ ∀ i, i < n → XOk (c i)
theorem xOk_eq (x : X) : XOk x ↔ x.s.size ≤ maxLen ∧ x.f.size ≤ maxLen ∧ ∀ i, i < x.n → XOk (x.c i) := by
  cases x with
  | nil => exact ⟨fun _ => ⟨Nat.zero_le _, Nat.zero_le _, fun i hi => absurd hi (Nat.not_lt_zero _)⟩, fun _ => trivial⟩
  | mk => rfl
end Go.Proofs.YtinnhaojmnmliaaGreat
namespace Go.Proofs.YtinnhaojmnmliaaGreat
open Go.RowKit

/-- A pattern: its kind, Var and Type, Lo and Hi; its parts' slice (where it lies, how many, how much room) and the parts. -/
inductive Pt where
  | nil : Pt
  | mk (k : Int) (s t : ByteArray) (lo hi : Int) (a : Option Addr) (n cap : Nat) (c : Nat → Pt) : Pt
def Pt.k : Pt → Int | .nil => 0 | .mk k .. => k
def Pt.s : Pt → ByteArray | .nil => ⟨#[]⟩ | .mk _ s .. => s
def Pt.t : Pt → ByteArray | .nil => ⟨#[]⟩ | .mk _ _ t .. => t
def Pt.lo : Pt → Int | .nil => 0 | .mk _ _ _ lo .. => lo
def Pt.hi : Pt → Int | .nil => 0 | .mk _ _ _ _ hi .. => hi
def Pt.a : Pt → Option Addr | .nil => none | .mk _ _ _ _ _ a .. => a
def Pt.n : Pt → Nat | .nil => 0 | .mk _ _ _ _ _ _ n .. => n
def Pt.cap : Pt → Nat | .nil => 0 | .mk _ _ _ _ _ _ _ cap _ => cap
def Pt.c : Pt → Nat → Pt | .nil => fun _ => .nil | .mk _ _ _ _ _ _ _ _ c => c
theorem Pt.ind {P : Pt → Prop} (h : ∀ x, (∀ i, i < x.n → P (x.c i)) → P x) : ∀ x, P x
  | .nil => h .nil fun _ hi => absurd hi (Nat.not_lt_zero _)
  | .mk k s t lo hi a n cap c => h (.mk k s t lo hi a n cap c) fun i _ => Pt.ind h (c i)
def Pt.size : Pt → Nat
  | .nil => 1
  | .mk _ _ _ _ _ _ n _ c => 1 + sumN (fun i => (c i).size) n
def Pt.deep : Pt → Nat
  | .nil => 1
  | .mk _ _ _ _ _ _ n _ c => maxN (fun i => (c i).deep) n + 1
theorem Pt.size_eq (x : Pt) : x.size = 1 + sumN (fun i => (x.c i).size) x.n := by cases x <;> rfl
theorem Pt.deep_eq (x : Pt) : x.deep = maxN (fun i => (x.c i).deep) x.n + 1 := by cases x <;> rfl
theorem Pt.size_part (x : Pt) (i : Nat) (h : i < x.n) : (x.c i).size < x.size := by
  have := sumN_le (f := fun i => (x.c i).size) h
  rw [x.size_eq]
  omega
theorem Pt.size_pos (x : Pt) : 1 ≤ x.size := by rw [x.size_eq]; omega
theorem sumN_congr {f g : Nat → Nat} : ∀ {n : Nat}, (∀ i, i < n → f i = g i) → sumN f n = sumN g n
  | 0, _ => rfl
  | n + 1, h => by simp only [sumN]; rw [sumN_congr fun i hi => h i (by omega), h n (by omega)]
theorem maxN_congr {f g : Nat → Nat} : ∀ {n : Nat}, (∀ i, i < n → f i = g i) → maxN f n = maxN g n
  | 0, _ => rfl
  | n + 1, h => by simp only [maxN]; rw [maxN_congr fun i hi => h i (by omega), h n (by omega)]
theorem maxN_lt {f : Nat → Nat} {m : Nat} (hm : 0 < m) : ∀ {n : Nat}, (∀ i, i < n → f i < m) → maxN f n < m
  | 0, _ => hm
  | n + 1, h => by
    have h1 := maxN_lt hm (n := n) fun i hi => h i (by omega)
    have h2 := h n (by omega)
    simp only [maxN]
    omega
theorem Pt.deep_part (x : Pt) (i : Nat) (h : i < x.n) : (x.c i).deep < x.deep := by
  have := maxN_le (f := fun i => (x.c i).deep) h
  rw [x.deep_eq]
  omega
theorem Pt.deep_size : ∀ x : Pt, x.deep ≤ x.size := by
  refine Pt.ind fun x ih => ?_
  rw [x.deep_eq]
  have := maxN_lt (f := fun i => (x.c i).deep) (n := x.n) x.size_pos fun i hi => by have := ih i hi; have := x.size_part i hi; show (x.c i).deep < x.size; omega
  omega
/-- Are all of the first so? -/
def allN (f : Nat → Bool) : Nat → Bool
  | 0 => true
  | n + 1 => allN f n && f n
theorem allN_true {f : Nat → Bool} : ∀ {n : Nat}, allN f n = true ↔ ∀ i, i < n → f i = true
  | 0 => by simp [allN]
  | n + 1 => by
    simp only [allN, Bool.and_eq_true, allN_true]
    constructor
    · rintro ⟨h1, h2⟩ i hi
      by_cases e : i = n
      · exact e ▸ h2
      · exact h1 i (by omega)
    · exact fun h => ⟨fun i hi => h i (by omega), h n (by omega)⟩
theorem allN_false {f : Nat → Bool} {n i : Nat} (hi : i < n) (h : f i = false) : allN f n = false := by
  rw [Bool.eq_false_iff]
  intro e
  rw [allN_true.1 e i hi] at h
  cases h
/-- Same's answer. -/
def sameP : Pt → Pt → Bool
  | .nil, y => decide (0 = y.k) && (decide ((⟨#[]⟩ : ByteArray) = y.s) && (decide ((⟨#[]⟩ : ByteArray) = y.t) && (decide (0 = y.lo) && (decide (0 = y.hi) && (decide (0 = y.n) && true)))))
  | .mk k s t lo hi _ n _ c, y => decide (k = y.k) && (decide (s = y.s) && (decide (t = y.t) && (decide (lo = y.lo) && (decide (hi = y.hi) && (decide (n = y.n) && allN (fun i => sameP (c i) (y.c i)) n)))))
theorem sameP_eq (x y : Pt) : sameP x y = (decide (x.k = y.k) && (decide (x.s = y.s) && (decide (x.t = y.t) && (decide (x.lo = y.lo) && (decide (x.hi = y.hi) && (decide (x.n = y.n) && allN (fun i => sameP (x.c i) (y.c i)) x.n)))))) := by
  cases x <;> rfl
/-- They are the same. -/
def Sm (x y : Pt) : Prop := sameP x y = true
theorem sm_iff (x y : Pt) : Sm x y ↔ x.k = y.k ∧ x.s = y.s ∧ x.t = y.t ∧ x.lo = y.lo ∧ x.hi = y.hi ∧ x.n = y.n ∧ ∀ i, i < x.n → Sm (x.c i) (y.c i) := by
  unfold Sm
  rw [sameP_eq]
  simp only [Bool.and_eq_true, decide_eq_true_eq, allN_true]
theorem Sm.refl : ∀ x : Pt, Sm x x := by
  refine Pt.ind fun x ih => ?_
  exact (sm_iff _ _).2 ⟨rfl, rfl, rfl, rfl, rfl, rfl, ih⟩
theorem Sm.symm : ∀ {x y : Pt}, Sm x y → Sm y x := by
  refine @(Pt.ind fun x ih y h => ?_)
  obtain ⟨h1, h2, h3, h4, h5, h6, h7⟩ := (sm_iff _ _).1 h
  exact (sm_iff _ _).2 ⟨h1.symm, h2.symm, h3.symm, h4.symm, h5.symm, h6.symm, fun i hi => ih i (by omega) (h7 i (by omega))⟩
theorem Sm.trans : ∀ {x y z : Pt}, Sm x y → Sm y z → Sm x z := by
  refine @(Pt.ind fun x ih y z h g => ?_)
  obtain ⟨h1, h2, h3, h4, h5, h6, h7⟩ := (sm_iff _ _).1 h
  obtain ⟨g1, g2, g3, g4, g5, g6, g7⟩ := (sm_iff _ _).1 g
  exact (sm_iff _ _).2 ⟨h1.trans g1, h2.trans g2, h3.trans g3, h4.trans g4, h5.trans g5, h6.trans g6, fun i hi => ih i hi (h7 i hi) (g7 i (by omega))⟩
/-- What is the same for the same is told alike. -/
theorem sameP_congr {x x' y y' : Pt} (h : Sm x x') (g : Sm y y') : sameP x y = sameP x' y' := by
  rw [Bool.eq_iff_iff]
  exact ⟨fun e => h.symm.trans (Sm.trans e g), fun e => h.trans (Sm.trans e g.symm)⟩
theorem size_sm : ∀ {x y : Pt}, Sm x y → x.size = y.size := by
  refine @(Pt.ind fun x ih y h => ?_)
  obtain ⟨h1, h2, h3, h4, h5, h6, h7⟩ := (sm_iff _ _).1 h
  rw [x.size_eq, y.size_eq, ← h6, sumN_congr fun i hi => ih i hi (h7 i hi)]
theorem deep_sm : ∀ {x y : Pt}, Sm x y → x.deep = y.deep := by
  refine @(Pt.ind fun x ih y h => ?_)
  obtain ⟨h1, h2, h3, h4, h5, h6, h7⟩ := (sm_iff _ _).1 h
  rw [x.deep_eq, y.deep_eq, ← h6, maxN_congr fun i hi => ih i hi (h7 i hi)]
/-- Has its kind a Var? -/
def nmd (k : Int) : Bool := k == 1 || k == 5 || k == 6
/-- With other names. -/
def renP (g : ByteArray → ByteArray) : Pt → Pt
  | .nil => .nil
  | .mk k s t lo hi a n cap c => .mk k (if nmd k = true then g s else s) t lo hi a n cap (fun i => renP g (c i))
theorem renP_parts (g : ByteArray → ByteArray) (x : Pt) : (renP g x).k = x.k ∧ (renP g x).s = (if nmd x.k = true then g x.s else x.s) ∧ (renP g x).t = x.t ∧ (renP g x).lo = x.lo ∧ (renP g x).hi = x.hi ∧ (renP g x).n = x.n ∧ ∀ i, (renP g x).c i = renP g (x.c i) := by
  cases x with
  | nil => exact ⟨rfl, rfl, rfl, rfl, rfl, rfl, fun _ => rfl⟩
  | mk => exact ⟨rfl, rfl, rfl, rfl, rfl, rfl, fun _ => rfl⟩
theorem renP_slice (g : ByteArray → ByteArray) (x : Pt) : (renP g x).a = x.a ∧ (renP g x).cap = x.cap := by
  cases x with
  | nil => exact ⟨rfl, rfl⟩
  | mk => exact ⟨rfl, rfl⟩
theorem renP_sm (g : ByteArray → ByteArray) : ∀ {x y : Pt}, Sm x y → Sm (renP g x) (renP g y) := by
  refine @(Pt.ind fun x ih y h => ?_)
  obtain ⟨h1, h2, h3, h4, h5, h6, h7⟩ := (sm_iff _ _).1 h
  obtain ⟨a1, a2, a3, a4, a5, a6, a7⟩ := renP_parts g x
  obtain ⟨b1, b2, b3, b4, b5, b6, b7⟩ := renP_parts g y
  rw [sm_iff, a1, a2, a3, a4, a5, a6, b1, b2, b3, b4, b5, b6, h1, h2]
  exact ⟨rfl, rfl, h3, h4, h5, h6, fun i hi => by rw [a7, b7]; exact ih i hi (h7 i hi)⟩
/-- The nodes that have a Var, in the order in which they stand. -/
def usesP : Pt → List Pt
  | .nil => []
  | .mk k s t lo hi a n cap c => (if nmd k = true then [.mk k s t lo hi a n cap c] else []) ++ catN (fun i => usesP (c i)) n
theorem usesP_eq (x : Pt) : usesP x = (if nmd x.k = true then [x] else []) ++ catN (fun i => usesP (x.c i)) x.n := by cases x <;> rfl
/-- All nodes in their order, each with how many lie on the way down to it. -/
def visP (d : Nat) : Pt → List (Nat × Pt)
  | .nil => [(d, .nil)]
  | .mk k s t lo hi a n cap c => (d, .mk k s t lo hi a n cap c) :: catN (fun i => visP (d + 1) (c i)) n
theorem visP_eq (d : Nat) (x : Pt) : visP d x = (d, x) :: catN (fun i => visP (d + 1) (x.c i)) x.n := by cases x <;> rfl
theorem catN_split {α : Type} (f : Nat → List α) : ∀ {n i : Nat}, i < n → ∃ r, catN f n = catN f i ++ (f i ++ r)
  | 0, _, h => by omega
  | n + 1, i, h => by
    by_cases e : i = n
    · subst e; exact ⟨[], by simp [catN]⟩
    · obtain ⟨r, hr⟩ := catN_split f (show i < n by omega)
      exact ⟨r ++ f n, by rw [catN, hr]; simp⟩
theorem catN_congr {α : Type} {f g : Nat → List α} : ∀ {n : Nat}, (∀ i, i < n → f i = g i) → catN f n = catN g n
  | 0, _ => rfl
  | n + 1, h => by rw [catN, catN, catN_congr fun i hi => h i (by omega), h n (by omega)]
theorem catN_map {α β : Type} (g : α → β) (f : Nat → List α) : ∀ n, (catN f n).map g = catN (fun i => (f i).map g) n
  | 0 => rfl
  | n + 1 => by rw [catN, catN, List.map_append, catN_map g f n]
theorem catN_filter {α : Type} (g : α → Bool) (f : Nat → List α) : ∀ n, (catN f n).filter g = catN (fun i => (f i).filter g) n
  | 0 => rfl
  | n + 1 => by rw [catN, catN, List.filter_append, catN_filter g f n]
theorem length_visP : ∀ (x : Pt) (d : Nat), (visP d x).length = x.size := by
  refine Pt.ind fun x ih d => ?_
  have : ∀ m, m ≤ x.n → (catN (fun i => visP (d + 1) (x.c i)) m).length = sumN (fun i => (x.c i).size) m := by
    intro m
    induction m with
    | zero => intro _; rfl
    | succ m ihm => intro hm; simp only [catN, sumN, List.length_append]; rw [ihm (by omega), ih m (by omega)]
  rw [visP_eq, x.size_eq, List.length_cons, this _ (Nat.le_refl _)]
  omega
/-- Of all nodes those that have a Var. -/
theorem uses_visP : ∀ (x : Pt) (d : Nat), ((visP d x).filter fun v => nmd v.2.k).map (·.2) = usesP x := by
  refine Pt.ind fun x ih d => ?_
  have hc : (catN (fun i => ((visP (d + 1) (x.c i)).filter fun v => nmd v.2.k).map (·.2)) x.n) = catN (fun i => usesP (x.c i)) x.n := catN_congr fun i hi => ih i hi (d + 1)
  rw [visP_eq, usesP_eq, List.filter_cons]
  by_cases h : nmd x.k = true
  · rw [if_pos h, if_pos h, List.map_cons, catN_filter, catN_map, hc]
    rfl
  · rw [if_neg h, if_neg h, catN_filter, catN_map, hc]
    rfl
/-- A property of all nodes. -/
theorem visP_all {P : Nat → Pt → Prop} (h : ∀ d x, P d x → ∀ i, i < x.n → P (d + 1) (x.c i)) : ∀ (x : Pt) (d : Nat), P d x → ∀ v ∈ visP d x, P v.1 v.2 := by
  refine Pt.ind fun x ih d hx v hv => ?_
  rw [visP_eq] at hv
  rcases List.mem_cons.1 hv with rfl | hv
  · exact hx
  · obtain ⟨i, hi, hv⟩ := mem_catN.1 hv
    exact ih i hi (d + 1) (h d x hx i hi) v hv
theorem mem_uses {x y : Pt} : y ∈ usesP x ↔ ∃ d, (d, y) ∈ visP 1 x ∧ nmd y.k = true := by
  rw [← uses_visP x 1]
  simp only [List.mem_map, List.mem_filter]
  constructor
  · rintro ⟨⟨d, z⟩, ⟨h1, h2⟩, rfl⟩
    exact ⟨d, h1, h2⟩
  · rintro ⟨d, h1, h2⟩
    exact ⟨(d, y), ⟨h1, h2⟩, rfl⟩
theorem vis_deep : ∀ (x : Pt) (d : Nat), ∀ v ∈ visP d x, v.1 + v.2.deep ≤ d + x.deep ∧ d ≤ v.1 := by
  refine Pt.ind fun x ih d v hv => ?_
  rw [visP_eq] at hv
  rcases List.mem_cons.1 hv with rfl | hv
  · exact ⟨Nat.le_refl _, Nat.le_refl _⟩
  · obtain ⟨i, hi, hv⟩ := mem_catN.1 hv
    have := ih i hi (d + 1) v hv
    have := x.deep_part i hi
    omega
theorem Pt.deep_pos (x : Pt) : 1 ≤ x.deep := by rw [x.deep_eq]; omega
/-- There is a node at the end of the longest way. -/
theorem vis_deepest : ∀ (x : Pt) (d : Nat), ∃ v ∈ visP d x, v.1 + 1 = d + x.deep := by
  refine Pt.ind fun x ih d => ?_
  by_cases h0 : x.n = 0
  · refine ⟨(d, x), by rw [visP_eq]; simp, ?_⟩
    rw [x.deep_eq, h0]
    rfl
  · have key : ∀ m, m ≤ x.n → 0 < m → ∃ i, i < m ∧ (x.c i).deep = maxN (fun i => (x.c i).deep) m := by
      intro m
      induction m with
      | zero => intro _ h; omega
      | succ m ihm =>
        intro hm _
        by_cases e : m = 0
        · subst e; exact ⟨0, by omega, by simp [maxN]⟩
        · obtain ⟨i, hi, q⟩ := ihm (by omega) (by omega)
          simp only [maxN]
          by_cases hle : maxN (fun i => (x.c i).deep) m ≤ (x.c m).deep
          · exact ⟨m, by omega, by omega⟩
          · exact ⟨i, by omega, by omega⟩
    obtain ⟨i, hi, q⟩ := key x.n (Nat.le_refl _) (by omega)
    obtain ⟨v, hv, hd⟩ := ih i hi (d + 1)
    refine ⟨v, by rw [visP_eq]; exact List.mem_cons_of_mem _ (mem_catN.2 ⟨i, hi, hv⟩), ?_⟩
    rw [x.deep_eq, ← q]
    omega
end Go.Proofs.YtinnhaojmnmliaaGreat
