/-
  Conditions (api.Expr) as trees: how many nodes, how deep, their order; plain facts, of no function.
-/
import Derived.Test.YtjclelmbpmlioaaJTxt
namespace Go.Proofs.Ytjclelmbpmlioaa
open Go.RowKit

/-- A condition: its kind, value, Var and Field; its parts' slice (where it lies, how many, how much room) and the parts. -/
inductive X where
  | nil : X
  | mk (k : Int) (v : Val) (s f : ByteArray) (a : Option Addr) (n cap : Nat) (c : Nat → X) : X
def X.k : X → Int | .nil => 0 | .mk k .. => k
def X.v : X → Val | .nil => val0 | .mk _ v .. => v
def X.s : X → ByteArray | .nil => ⟨#[]⟩ | .mk _ _ s .. => s
def X.f : X → ByteArray | .nil => ⟨#[]⟩ | .mk _ _ _ f .. => f
def X.a : X → Option Addr | .nil => none | .mk _ _ _ _ a .. => a
def X.n : X → Nat | .nil => 0 | .mk _ _ _ _ _ n .. => n
def X.cap : X → Nat | .nil => 0 | .mk _ _ _ _ _ _ cap _ => cap
def X.c : X → Nat → X | .nil => fun _ => .nil | .mk _ _ _ _ _ _ _ c => c
theorem X.ind {P : X → Prop} (h : ∀ x, (∀ i, i < x.n → P (x.c i)) → P x) : ∀ x, P x
  | .nil => h .nil fun _ hi => absurd hi (Nat.not_lt_zero _)
  | .mk k v s f a n cap c => h (.mk k v s f a n cap c) fun i _ => X.ind h (c i)

/-- The first of the first that is not 0. -/
def lexN (f : Nat → Int) : Nat → Int
  | 0 => 0
  | n + 1 => if lexN f n = 0 then f n else lexN f n
def orI (a b : Int) : Int := if a = 0 then b else a
def X.size : X → Nat
  | .nil => 1
  | .mk _ _ _ _ _ n _ c => 1 + sumN (fun i => (c i).size) n
theorem X.size_eq (x : X) : x.size = 1 + sumN (fun i => (x.c i).size) x.n := by cases x <;> rfl
theorem X.size_part (x : X) (i : Nat) (h : i < x.n) : (x.c i).size < x.size := by
  have := sumN_le (f := fun i => (x.c i).size) h
  rw [x.size_eq]
  omega
theorem X.size_pos (x : X) : 1 ≤ x.size := by rw [x.size_eq]; omega
def ordV (x y : Val) : Int := ordZ x.k x.n x.s y.k y.n y.s
/-- Order's answer. -/
def ordX : X → X → Int
  | .nil, y => orI (cmpI 0 y.k) (orI (ordV val0 y.v) (orI (cmpS ⟨#[]⟩ y.s) (orI (cmpS ⟨#[]⟩ y.f) (orI (cmpI (0 : Nat) y.n) 0))))
  | .mk k v s f _ n _ c, y => orI (cmpI k y.k) (orI (ordV v y.v) (orI (cmpS s y.s) (orI (cmpS f y.f) (orI (cmpI n y.n) (lexN (fun i => ordX (c i) (y.c i)) n)))))
theorem ordX_eq (x y : X) : ordX x y = orI (cmpI x.k y.k) (orI (ordV x.v y.v) (orI (cmpS x.s y.s) (orI (cmpS x.f y.f) (orI (cmpI x.n y.n) (lexN (fun i => ordX (x.c i) (y.c i)) x.n))))) := by
  cases x <;> rfl
/-- What an order's three answers of three things have to be. -/
def Comp (f g h : Int) : Prop := (f = 0 → g = 0 → h = 0) ∧ (f < 0 → g ≤ 0 → h < 0) ∧ (f ≤ 0 → g < 0 → h < 0)
theorem Comp.or {f g h f' g' h' : Int} (c : Comp f g h) (d : f = 0 → g = 0 → Comp f' g' h') : Comp (orI f f') (orI g g') (orI h h') := by
  obtain ⟨c1, c2, c3⟩ := c
  unfold orI
  by_cases hf : f = 0
  · by_cases hg : g = 0
    · have hh := c1 hf hg
      rw [if_pos hf, if_pos hg, if_pos hh]
      exact d hf hg
    · rw [if_pos hf, if_neg hg]
      refine ⟨fun h1 h2 => absurd h2 hg, fun h1 h2 => ?_, fun h1 h2 => ?_⟩
      · have := c3 (by omega) (by omega); rw [if_neg (by omega)]; exact this
      · have := c3 (by omega) (by omega); rw [if_neg (by omega)]; exact this
  · rw [if_neg hf]
    refine ⟨fun h1 => absurd h1 hf, fun h1 h2 => ?_, fun h1 h2 => ?_⟩
    · have : h < 0 := c2 h1 (by split at h2 <;> omega)
      rw [if_neg (by omega)]; exact this
    · have : h < 0 := c2 (by omega) (by split at h2 <;> omega)
      rw [if_neg (by omega)]; exact this
theorem Comp.lex {f g h : Nat → Int} : ∀ {n : Nat}, (∀ i, i < n → Comp (f i) (g i) (h i)) → Comp (lexN f n) (lexN g n) (lexN h n)
  | 0, _ => ⟨fun _ _ => rfl, fun h => by simp [lexN] at h, fun _ h => by simp [lexN] at h⟩
  | n + 1, c => (Comp.lex fun i hi => c i (by omega)).or fun _ _ => c n (by omega)
theorem cmpI_comp (a b c : Int) : Comp (cmpI a b) (cmpI b c) (cmpI a c) := by
  unfold Comp cmpI
  refine ⟨?_, ?_, ?_⟩ <;> (intro h1 h2; split at h1 <;> split at h2 <;> split <;> (try split at h1) <;> (try split at h2) <;> (try split) <;> omega)
theorem cmpS_zero {s t : ByteArray} (h : cmpS s t = 0) : s = t := by
  rcases cmpS_cases s t with h1 | h1 | h1
  · omega
  · have := h1.2
    rw [ByteArray.toList_eq, ByteArray.toList_eq] at this
    exact ByteArray.ext (Array.ext' this)
  · omega
theorem cmpS_self (s : ByteArray) : cmpS s s = 0 := by
  rcases cmpS_cases s s with h1 | h1 | h1
  · exact absurd rfl h1.2.2
  · exact h1.1
  · exact absurd rfl h1.2.2
theorem cmpS_turn (s t : ByteArray) : cmpS t s = -cmpS s t := by
  rcases cmpS_cases s t with h1 | h1 | h1 <;> rcases cmpS_cases t s with h2 | h2 | h2
  · have := less_trans _ _ _ h1.2.1 h2.2.1; rw [less_irrefl] at this; cases this
  · exact absurd h2.2.symm h1.2.2
  · omega
  · exact absurd h1.2.symm h2.2.2
  · omega
  · exact absurd h1.2.symm h2.2.2
  · omega
  · exact absurd h2.2.symm h1.2.2
  · have := less_trans _ _ _ h1.2.1 h2.2.1; rw [less_irrefl] at this; cases this
theorem cmpS_comp (s t r : ByteArray) : Comp (cmpS s t) (cmpS t r) (cmpS s r) := by
  have key : cmpS s t = -1 → cmpS t r = -1 → cmpS s r = -1 := by
    intro h1 h2
    rcases cmpS_cases s t with a | a | a <;> rcases cmpS_cases t r with b | b | b <;> first | omega | skip
    have := less_trans _ _ _ a.2.1 b.2.1
    rcases cmpS_cases s r with c | c | c
    · exact c.1
    · rw [c.2, less_irrefl] at this; cases this
    · have h3 := less_trans _ _ _ this c.2.1; rw [less_irrefl] at h3; cases h3
  have zl : cmpS s t = 0 → cmpS s r = cmpS t r := fun h => by rw [cmpS_zero h]
  have zr : cmpS t r = 0 → cmpS s r = cmpS s t := fun h => by rw [cmpS_zero h]
  have a := cmpS_cases s t
  have b := cmpS_cases t r
  have a' : cmpS s t = -1 ∨ cmpS s t = 0 ∨ cmpS s t = 1 := by rcases a with h | h | h <;> simp [h.1]
  have b' : cmpS t r = -1 ∨ cmpS t r = 0 ∨ cmpS t r = 1 := by rcases b with h | h | h <;> simp [h.1]
  clear a b
  refine ⟨fun h1 h2 => by rw [zl h1]; exact h2, fun h1 h2 => ?_, fun h1 h2 => ?_⟩
  · by_cases e : cmpS t r = 0
    · rw [zr e]; exact h1
    · have := key (by omega) (by omega); omega
  · by_cases e : cmpS s t = 0
    · rw [zl e]; exact h2
    · have := key (by omega) (by omega); omega
theorem cmpI_turn (a b : Int) : cmpI b a = -cmpI a b := by
  unfold cmpI
  split <;> split <;> (try split) <;> (try split) <;> omega
theorem cmpI_zero {a b : Int} (h : cmpI a b = 0) : a = b := by
  rcases cmpI_cases a b with h1 | h1 | h1 <;> omega
theorem cmpI_self (a : Int) : cmpI a a = 0 := by unfold cmpI; simp
theorem ordV_eq (x y : Val) : ordV x y = orI (cmpI x.k y.k) (orI (cmpI x.n y.n) (cmpS x.s y.s)) := by
  unfold ordV ordZ orI
  by_cases h1 : cmpI x.k y.k = 0
  · by_cases h2 : cmpI x.n y.n = 0
    · simp [h1, h2]
    · simp [h1, h2]
  · simp [h1]
theorem ordV_comp (x y z : Val) : Comp (ordV x y) (ordV y z) (ordV x z) := by
  rw [ordV_eq, ordV_eq, ordV_eq]
  exact (cmpI_comp _ _ _).or fun _ _ => (cmpI_comp _ _ _).or fun _ _ => cmpS_comp _ _ _
theorem orI_turn {a b a' b' : Int} (h1 : a' = -a) (h2 : a = 0 → b' = -b) : orI a' b' = -orI a b := by
  unfold orI
  by_cases h : a = 0
  · rw [if_pos (by omega), if_pos h]; exact h2 h
  · rw [if_neg (by omega), if_neg h]; exact h1
theorem lexN_turn {f g : Nat → Int} : ∀ {n : Nat}, (∀ i, i < n → g i = -f i) → lexN g n = -lexN f n
  | 0, _ => rfl
  | n + 1, h => by
    show orI (lexN g n) (g n) = -orI (lexN f n) (f n)
    exact orI_turn (lexN_turn fun i hi => h i (by omega)) fun _ => h n (by omega)
theorem ordV_turn (x y : Val) : ordV y x = -ordV x y := by
  rw [ordV_eq, ordV_eq]
  exact orI_turn (cmpI_turn _ _) fun _ => orI_turn (cmpI_turn _ _) fun _ => cmpS_turn _ _
/-- Turned about, it is turned about. -/
theorem ordX_turn : ∀ x y : X, ordX y x = -ordX x y := by
  refine X.ind fun x ih y => ?_
  · rw [ordX_eq, ordX_eq x]
    refine orI_turn (cmpI_turn _ _) fun _ => orI_turn (ordV_turn _ _) fun _ => orI_turn (cmpS_turn _ _) fun _ => orI_turn (cmpS_turn _ _) fun _ => orI_turn (cmpI_turn _ _) fun h => ?_
    have hn : y.n = x.n := by have := cmpI_zero h; omega
    rw [hn]
    exact lexN_turn fun i hi => ih i hi (y.c i)
/-- It goes on. -/
theorem ordX_comp : ∀ x y z : X, Comp (ordX x y) (ordX y z) (ordX x z) := by
  refine X.ind fun x ih y z => ?_
  · rw [ordX_eq x y, ordX_eq y z, ordX_eq x z]
    refine (cmpI_comp _ _ _).or fun _ _ => (ordV_comp _ _ _).or fun _ _ => (cmpS_comp _ _ _).or fun _ _ => (cmpS_comp _ _ _).or fun _ _ => (cmpI_comp _ _ _).or fun h _ => ?_
    have hn : y.n = x.n := by have := cmpI_zero h; omega
    rw [hn]
    exact Comp.lex fun i hi => ih i hi (y.c i) (z.c i)
theorem orI_zero {a b : Int} : orI a b = 0 ↔ a = 0 ∧ b = 0 := by
  unfold orI
  by_cases h : a = 0
  · simp [h]
  · simp [h]
theorem lexN_zero {f : Nat → Int} : ∀ {n : Nat}, lexN f n = 0 ↔ ∀ i, i < n → f i = 0
  | 0 => by simp [lexN]
  | n + 1 => by
    show orI (lexN f n) (f n) = 0 ↔ _
    rw [orI_zero, lexN_zero]
    constructor
    · rintro ⟨h1, h2⟩ i hi
      by_cases e : i = n
      · exact e ▸ h2
      · exact h1 i (by omega)
    · exact fun h => ⟨fun i hi => h i (by omega), h n (by omega)⟩
theorem ordV_zero {x y : Val} : ordV x y = 0 ↔ x = y := by
  rw [ordV_eq, orI_zero, orI_zero]
  constructor
  · rintro ⟨h1, h2, h3⟩
    cases x; cases y
    simp only at h1 h2 h3
    rw [cmpI_zero h1, cmpI_zero h2, cmpS_zero h3]
  · rintro rfl
    exact ⟨cmpI_self _, cmpI_self _, cmpS_self _⟩
/-- It is 0 just where all fields are the same. -/
theorem ordX_zero (x y : X) : ordX x y = 0 ↔ x.k = y.k ∧ x.v = y.v ∧ x.s = y.s ∧ x.f = y.f ∧ x.n = y.n ∧ ∀ i, i < x.n → ordX (x.c i) (y.c i) = 0 := by
  rw [ordX_eq, orI_zero, orI_zero, orI_zero, orI_zero, orI_zero, lexN_zero, ordV_zero]
  constructor
  · rintro ⟨h1, h2, h3, h4, h5, h6⟩
    exact ⟨cmpI_zero h1, h2, cmpS_zero h3, cmpS_zero h4, by have := cmpI_zero h5; omega, h6⟩
  · rintro ⟨h1, h2, h3, h4, h5, h6⟩
    rw [h1, h3, h4, h5]
    exact ⟨cmpI_self _, h2, cmpS_self _, cmpS_self _, cmpI_self _, fun i hi => h6 i (by omega)⟩
end Go.Proofs.Ytjclelmbpmlioaa
