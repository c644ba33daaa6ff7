/-
  Which pattern is less, with and without names; plain facts, of no function.
-/
import Derived.Test.YtcdehohmgfocdaaPatMath
import Derived.Test.YtcdehohmgfocdaaOrdSt
namespace Go.Proofs.Ytcdehohmgfocdaa
open Go.RowKit

/-- Two nodes without their Vars and parts, but for how many these are. -/
def alP (x y : Pt) : Int := orI (cmpI x.k y.k) (orI (cmpS x.t y.t) (orI (cmpI x.lo y.lo) (orI (cmpI x.hi y.hi) (cmpI x.n y.n))))
/-- Form's answer. -/
def formP : Pt → Pt → Int
  | .nil, y => orI (alP .nil y) 0
  | .mk k s t lo hi a n cap c, y => orI (alP (.mk k s t lo hi a n cap c) y) (lexN (fun i => formP (c i) (y.c i)) n)
theorem formP_eq (x y : Pt) : formP x y = orI (alP x y) (lexN (fun i => formP (x.c i) (y.c i)) x.n) := by
  cases x with
  | nil => rfl
  | mk => rfl
/-- By the Vars of all nodes. -/
def varP : Pt → Pt → Int
  | .nil, y => orI (cmpS ⟨#[]⟩ y.s) 0
  | .mk _ s _ _ _ _ n _ c, y => orI (cmpS s y.s) (lexN (fun i => varP (c i) (y.c i)) n)
theorem varP_eq (x y : Pt) : varP x y = orI (cmpS x.s y.s) (lexN (fun i => varP (x.c i) (y.c i)) x.n) := by
  cases x with
  | nil => rfl
  | mk => rfl
/-- Whole's answer. -/
def wholeP (x y : Pt) : Int := orI (formP x y) (varP x y)
theorem alP_zero {x y : Pt} : alP x y = 0 ↔ x.k = y.k ∧ x.t = y.t ∧ x.lo = y.lo ∧ x.hi = y.hi ∧ x.n = y.n := by
  unfold alP
  rw [orI_zero, orI_zero, orI_zero, orI_zero]
  constructor
  · rintro ⟨h1, h2, h3, h4, h5⟩
    exact ⟨cmpI_zero h1, cmpS_zero h2, cmpI_zero h3, cmpI_zero h4, by have := cmpI_zero h5; omega⟩
  · rintro ⟨h1, h2, h3, h4, h5⟩
    rw [h1, h2, h3, h4, h5]
    exact ⟨cmpI_self _, cmpS_self _, cmpI_self _, cmpI_self _, cmpI_self _⟩
theorem alP_turn (x y : Pt) : alP y x = -alP x y :=
  orI_turn (cmpI_turn _ _) fun _ => orI_turn (cmpS_turn _ _) fun _ => orI_turn (cmpI_turn _ _) fun _ => orI_turn (cmpI_turn _ _) fun _ => cmpI_turn _ _
theorem alP_comp (x y z : Pt) : Comp (alP x y) (alP y z) (alP x z) :=
  (cmpI_comp _ _ _).or fun _ _ => (cmpS_comp _ _ _).or fun _ _ => (cmpI_comp _ _ _).or fun _ _ => (cmpI_comp _ _ _).or fun _ _ => cmpI_comp _ _ _
theorem formP_zero (x y : Pt) : formP x y = 0 ↔ x.k = y.k ∧ x.t = y.t ∧ x.lo = y.lo ∧ x.hi = y.hi ∧ x.n = y.n ∧ ∀ i, i < x.n → formP (x.c i) (y.c i) = 0 := by
  rw [formP_eq, orI_zero, lexN_zero, alP_zero]
  simp only [and_assoc]
theorem form3 : Ord3 formP := by
  refine ⟨?_, ?_⟩
  · refine Pt.ind fun x ih y => ?_
    rw [formP_eq, formP_eq x]
    refine orI_turn (alP_turn _ _) fun h => ?_
    rw [← (alP_zero.1 h).2.2.2.2]
    exact lexN_turn fun i hi => ih i hi (y.c i)
  · refine Pt.ind fun x ih y z => ?_
    rw [formP_eq x y, formP_eq y z, formP_eq x z]
    refine (alP_comp _ _ _).or fun h _ => ?_
    rw [← (alP_zero.1 h).2.2.2.2]
    exact Comp.lex fun i hi => ih i hi (y.c i) (z.c i)
theorem varP_turn : ∀ x y : Pt, formP x y = 0 → varP y x = -varP x y := by
  refine Pt.ind fun x ih y h => ?_
  obtain ⟨_, _, _, _, h5, h6⟩ := (formP_zero _ _).1 h
  rw [varP_eq, varP_eq x]
  refine orI_turn (cmpS_turn _ _) fun _ => ?_
  rw [← h5]
  exact lexN_turn fun i hi => ih i hi (y.c i) (h6 i hi)
theorem varP_comp : ∀ x y z : Pt, formP x y = 0 → formP y z = 0 → Comp (varP x y) (varP y z) (varP x z) := by
  refine Pt.ind fun x ih y z h g => ?_
  obtain ⟨_, _, _, _, h5, h6⟩ := (formP_zero _ _).1 h
  obtain ⟨_, _, _, _, g5, g6⟩ := (formP_zero _ _).1 g
  rw [varP_eq x y, varP_eq y z, varP_eq x z]
  refine (cmpS_comp _ _ _).or fun _ _ => ?_
  rw [← h5]
  exact Comp.lex fun i hi => ih i hi (y.c i) (z.c i) (h6 i hi) (g6 i (by omega))
theorem whole3 : Ord3 wholeP :=
  ⟨fun x y => orI_turn (form3.turn x y) fun h => varP_turn x y h, fun x y z => (form3.comp x y z).or fun h g => varP_comp x y z h g⟩
theorem whole_sm : ∀ x y : Pt, wholeP x y = 0 ↔ Sm x y := by
  refine Pt.ind fun x ih y => ?_
  unfold wholeP at ih ⊢
  rw [orI_zero, formP_zero, varP_eq, orI_zero, lexN_zero, sm_iff]
  constructor
  · rintro ⟨⟨h1, h2, h3, h4, h5, h6⟩, h7, h8⟩
    exact ⟨h1, cmpS_zero h7, h2, h3, h4, h5, fun i hi => (ih i hi _).1 (orI_zero.2 ⟨h6 i hi, h8 i hi⟩)⟩
  · rintro ⟨h1, h2, h3, h4, h5, h6, h7⟩
    refine ⟨⟨h1, h3, h4, h5, h6, fun i hi => (orI_zero.1 ((ih i hi _).2 (h7 i hi))).1⟩, by rw [h2]; exact cmpS_self _, fun i hi => (orI_zero.1 ((ih i hi _).2 (h7 i hi))).2⟩
theorem form_sm {x y : Pt} (h : Sm x y) : formP x y = 0 := (orI_zero.1 ((whole_sm x y).2 h)).1
/-- One of -1, 0, 1. -/
def Tri (z : Int) : Prop := z = -1 ∨ z = 0 ∨ z = 1
theorem Tri.or {a b : Int} (h : Tri a) (g : Tri b) : Tri (orI a b) := by
  unfold orI
  split
  · exact g
  · exact h
theorem Tri.lex {f : Nat → Int} : ∀ {n : Nat}, (∀ i, i < n → Tri (f i)) → Tri (lexN f n)
  | 0, _ => .inr (.inl rfl)
  | n + 1, h => (Tri.lex fun i hi => h i (by omega)).or (h n (by omega))
theorem tri_cmpI (a b : Int) : Tri (cmpI a b) := by rcases cmpI_cases a b with h | h | h <;> simp [Tri, h.1]
theorem tri_cmpS (a b : ByteArray) : Tri (cmpS a b) := by rcases cmpS_cases a b with h | h | h <;> simp [Tri, h.1]
theorem tri_form : ∀ x y : Pt, Tri (formP x y) := by
  refine Pt.ind fun x ih y => ?_
  rw [formP_eq]
  exact ((tri_cmpI _ _).or ((tri_cmpS _ _).or ((tri_cmpI _ _).or ((tri_cmpI _ _).or (tri_cmpI _ _))))).or (Tri.lex fun i hi => ih i hi _)
theorem tri_var : ∀ x y : Pt, Tri (varP x y) := by
  refine Pt.ind fun x ih y => ?_
  rw [varP_eq]
  exact (tri_cmpS _ _).or (Tri.lex fun i hi => ih i hi _)
theorem tri_whole (x y : Pt) : Tri (wholeP x y) := (tri_form x y).or (tri_var x y)
/-- What has one form is told alike. -/
theorem ord_left {α : Type} {c : α → α → Int} (h : Ord3 c) (ht : ∀ x y, Tri (c x y)) {x x' y : α} (e : c x x' = 0) : c x y = c x' y := by
  have t := h.turn x x'
  have t1 := ht x y
  have t2 := ht x' y
  have a1 : c x y < 0 → c x' y < 0 := fun q => h.lt' (by omega) q
  have a2 : c x' y < 0 → c x y < 0 := fun q => h.lt' (by omega) q
  have a3 : c x y = 0 → c x' y = 0 := fun q => h.eq (by omega) q
  have a4 : c x' y = 0 → c x y = 0 := fun q => h.eq (by omega) q
  unfold Tri at t1 t2
  omega
theorem ord_right {α : Type} {c : α → α → Int} (h : Ord3 c) (ht : ∀ x y, Tri (c x y)) {x y y' : α} (e : c y y' = 0) : c x y = c x y' := by
  have := ord_left h ht (y := x) e
  have t1 := h.turn x y
  have t2 := h.turn x y'
  omega
/-- Form does not hang on names. -/
theorem form_ren (g : ByteArray → ByteArray) : ∀ x : Pt, formP x (renP g x) = 0 := by
  refine Pt.ind fun x ih => ?_
  obtain ⟨a1, a2, a3, a4, a5, a6, a7⟩ := renP_parts g x
  rw [formP_zero, a1, a3, a4, a5, a6]
  exact ⟨rfl, rfl, rfl, rfl, rfl, fun i hi => by rw [a7]; exact ih i hi⟩
theorem ordX3 : Ord3 ordX := ⟨ordX_turn, ordX_comp⟩
/-- The Vars of all nodes. -/
def vrs : Pt → List ByteArray
  | .nil => [⟨#[]⟩]
  | .mk _ s _ _ _ _ n _ c => s :: catN (fun i => vrs (c i)) n
theorem vrs_eq (x : Pt) : vrs x = x.s :: catN (fun i => vrs (x.c i)) x.n := by
  cases x with
  | nil => rfl
  | mk => rfl
theorem vrs_len : ∀ x : Pt, (vrs x).length = x.size := by
  refine Pt.ind fun x ih => ?_
  have : ∀ m, m ≤ x.n → (catN (fun i => vrs (x.c i)) m).length = sumN (fun i => (x.c i).size) m := by
    intro m
    induction m with
    | zero => intro _; rfl
    | succ m ihm => intro hm; simp only [catN, sumN, List.length_append]; rw [ihm (by omega), ih m (by omega)]
  rw [vrs_eq, x.size_eq, List.length_cons, this _ (Nat.le_refl _)]
  omega
/-- The first texts that differ tell. -/
def lexS : List ByteArray → List ByteArray → Int
  | x :: l, y :: m => orI (cmpS x y) (lexS l m)
  | _, _ => 0
theorem lexS_append : ∀ {a a' b b' : List ByteArray}, a.length = a'.length → lexS (a ++ b) (a' ++ b') = orI (lexS a a') (lexS b b')
  | [], [], _, _, _ => by simp [lexS, orI]
  | [], _ :: _, _, _, h => by simp at h
  | _ :: _, [], _, _, h => by simp at h
  | x :: a, y :: a', b, b', h => by
    simp only [List.cons_append, lexS]
    rw [lexS_append (by simpa using h)]
    unfold orI
    by_cases e : cmpS x y = 0
    · simp [e]
    · simp [e]
theorem form_size : ∀ x y : Pt, formP x y = 0 → x.size = y.size := by
  refine Pt.ind fun x ih y h => ?_
  obtain ⟨_, _, _, _, h5, h6⟩ := (formP_zero _ _).1 h
  rw [x.size_eq, y.size_eq, ← h5, sumN_congr fun i hi => ih i hi _ (h6 i hi)]
theorem lexS_vrs : ∀ x y : Pt, formP x y = 0 → lexS (vrs x) (vrs y) = varP x y := by
  refine Pt.ind fun x ih y h => ?_
  obtain ⟨_, _, _, _, h5, h6⟩ := (formP_zero _ _).1 h
  have key : ∀ m, m ≤ x.n → (catN (fun i => vrs (x.c i)) m).length = (catN (fun i => vrs (y.c i)) m).length ∧ lexS (catN (fun i => vrs (x.c i)) m) (catN (fun i => vrs (y.c i)) m) = lexN (fun i => varP (x.c i) (y.c i)) m := by
    intro m
    induction m with
    | zero => intro _; exact ⟨rfl, rfl⟩
    | succ m ihm =>
      intro hm
      obtain ⟨l1, l2⟩ := ihm (by omega)
      have e := h6 m (by omega)
      simp only [catN, List.length_append]
      refine ⟨by rw [l1, vrs_len, vrs_len, form_size _ _ e], ?_⟩
      rw [lexS_append l1, l2, ih m (by omega) _ e]
      rfl
  rw [vrs_eq, vrs_eq, varP_eq, ← h5]
  show orI _ (lexS _ _) = _
  rw [(key x.n (Nat.le_refl _)).2]
/-- By places. -/
theorem lexS_lex : ∀ (l m : List ByteArray), l.length = m.length → lexS l m = lexN (fun i => cmpS (l.getD i ⟨#[]⟩) (m.getD i ⟨#[]⟩)) l.length := by
  have shift : ∀ (f : Nat → Int) (n : Nat), lexN f (n + 1) = orI (f 0) (lexN (fun i => f (i + 1)) n) := by
    intro f n
    induction n with
    | zero => simp [lexN, orI]
    | succ n ih =>
      rw [show lexN f (n + 1 + 1) = orI (lexN f (n + 1)) (f (n + 1)) from rfl, ih, show lexN (fun i => f (i + 1)) (n + 1) = orI (lexN (fun i => f (i + 1)) n) (f (n + 1)) from rfl]
      unfold orI
      by_cases e : f 0 = 0
      · simp [e]
      · simp [e]
  intro l
  induction l with
  | nil => intro m _; cases m <;> rfl
  | cons x l ih =>
    intro m hm
    cases m with
    | nil => simp at hm
    | cons y m =>
      rw [List.length_cons, shift, lexS, ih m (by simpa using hm)]
      simp
end Go.Proofs.Ytcdehohmgfocdaa
