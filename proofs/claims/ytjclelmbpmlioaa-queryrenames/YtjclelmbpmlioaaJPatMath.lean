/-
  Patterns (api.Pat) as trees: how many nodes, how deep, which are the same, with other names; plain facts, of no function.
  Patterns as they lie in memory; of no function.
  The closure of expr.nodes that goes down (nodes$1$1), for whatever is done at the nodes.
  expr.nodes: a range over all nodes of a pattern that changes none of them.
  A range over all nodes whose rounds may write: told by relations between worlds.
  slices.Clone of patterns: a row of nodes that a call owns.
  Conditions that lie apart: each row of parts in a block of its own, that may be written; of no function.
-/
import Derived.Test.YtjclelmbpmlioaaJTxt
import Derived.Test.YtjclelmbpmlioaaJNamesMath
import Derived.BigQuiet
import Derived.RangeFuncNested
import Derived.RangeFuncBound
import Derived.RangeFuncCalls
import Derived.RangeFuncLeaves
import Derived.RangeFuncBox
import Derived.Shelf.Abstract
import Derived.Shelf.RegionOpen
import Derived.WalkKit
import Derived.OwnWalkIn
import Derived.TacticsInMore
import Derived.LoopNIn
import Derived.LoopIn
import Derived.Laws.EntriesVeiled
namespace Go.Proofs.Ytjclelmbpmlioaa
open Go.RowKit

/-- A pattern: its kind, Var and Type, Lo and Hi; its parts' slice (where it lies, how many, how much room) and the parts. -/
inductive Pt where
  | nil : Pt
  | mk (k : Int) (s t : ByteArray) (lo hi : Int) (a : Option Addr) (n cap : Nat) (c : Nat → Pt) : Pt
def Pt.k : Pt → Int | .nil => 0 | .mk k .. => k
def Pt.s : Pt → ByteArray | .nil => ⟨#[]⟩ | .mk _ s .. => s
def Pt.t : Pt → ByteArray | .nil => ⟨#[]⟩ | .mk _ _ t .. => t
def Pt.lo : Pt → Int | .nil => 0 | .mk _ _ _ lo .. => lo
def Pt.hi : Pt → Int | .nil => 0 | .mk _ _ _ _ hi .. => hi
def Pt.a : Pt → Option Addr | .nil => none | .mk _ _ _ _ _ a .. => a
def Pt.n : Pt → Nat | .nil => 0 | .mk _ _ _ _ _ _ n .. => n
def Pt.cap : Pt → Nat | .nil => 0 | .mk _ _ _ _ _ _ _ cap _ => cap
def Pt.c : Pt → Nat → Pt | .nil => fun _ => .nil | .mk _ _ _ _ _ _ _ _ c => c
theorem Pt.ind {P : Pt → Prop} (h : ∀ x, (∀ i, i < x.n → P (x.c i)) → P x) : ∀ x, P x
  | .nil => h .nil fun _ hi => absurd hi (Nat.not_lt_zero _)
  | .mk k s t lo hi a n cap c => h (.mk k s t lo hi a n cap c) fun i _ => Pt.ind h (c i)
def Pt.size : Pt → Nat
  | .nil => 1
  | .mk _ _ _ _ _ _ n _ c => 1 + sumN (fun i => (c i).size) n
theorem Pt.size_eq (x : Pt) : x.size = 1 + sumN (fun i => (x.c i).size) x.n := by cases x <;> rfl
theorem Pt.size_part (x : Pt) (i : Nat) (h : i < x.n) : (x.c i).size < x.size := by
  have := sumN_le (f := fun i => (x.c i).size) h
  rw [x.size_eq]
  omega
theorem Pt.size_pos (x : Pt) : 1 ≤ x.size := by rw [x.size_eq]; omega
theorem sumN_congr {f g : Nat → Nat} : ∀ {n : Nat}, (∀ i, i < n → f i = g i) → sumN f n = sumN g n
  | 0, _ => rfl
  | n + 1, h => by simp only [sumN]; rw [sumN_congr fun i hi => h i (by omega), h n (by omega)]
/-- Are all of the first so? -/
def allN (f : Nat → Bool) : Nat → Bool
  | 0 => true
  | n + 1 => allN f n && f n
theorem allN_true {f : Nat → Bool} : ∀ {n : Nat}, allN f n = true ↔ ∀ i, i < n → f i = true
  | 0 => by simp [allN]
  | n + 1 => by
    simp only [allN, Bool.and_eq_true, allN_true]
    constructor
    · rintro ⟨h1, h2⟩ i hi
      by_cases e : i = n
      · exact e ▸ h2
      · exact h1 i (by omega)
    · exact fun h => ⟨fun i hi => h i (by omega), h n (by omega)⟩
/-- Same's answer. -/
def sameP : Pt → Pt → Bool
  | .nil, y => decide (0 = y.k) && (decide ((⟨#[]⟩ : ByteArray) = y.s) && (decide ((⟨#[]⟩ : ByteArray) = y.t) && (decide (0 = y.lo) && (decide (0 = y.hi) && (decide (0 = y.n) && true)))))
  | .mk k s t lo hi _ n _ c, y => decide (k = y.k) && (decide (s = y.s) && (decide (t = y.t) && (decide (lo = y.lo) && (decide (hi = y.hi) && (decide (n = y.n) && allN (fun i => sameP (c i) (y.c i)) n)))))
theorem sameP_eq (x y : Pt) : sameP x y = (decide (x.k = y.k) && (decide (x.s = y.s) && (decide (x.t = y.t) && (decide (x.lo = y.lo) && (decide (x.hi = y.hi) && (decide (x.n = y.n) && allN (fun i => sameP (x.c i) (y.c i)) x.n)))))) := by
  cases x <;> rfl
/-- They are the same. -/
def Sm (x y : Pt) : Prop := sameP x y = true
theorem sm_iff (x y : Pt) : Sm x y ↔ x.k = y.k ∧ x.s = y.s ∧ x.t = y.t ∧ x.lo = y.lo ∧ x.hi = y.hi ∧ x.n = y.n ∧ ∀ i, i < x.n → Sm (x.c i) (y.c i) := by
  unfold Sm
  rw [sameP_eq]
  simp only [Bool.and_eq_true, decide_eq_true_eq, allN_true]
theorem Sm.refl : ∀ x : Pt, Sm x x := by
  refine Pt.ind fun x ih => ?_
  exact (sm_iff _ _).2 ⟨rfl, rfl, rfl, rfl, rfl, rfl, ih⟩
theorem Sm.symm : ∀ {x y : Pt}, Sm x y → Sm y x := by
  refine @(Pt.ind fun x ih y h => ?_)
  obtain ⟨h1, h2, h3, h4, h5, h6, h7⟩ := (sm_iff _ _).1 h
  exact (sm_iff _ _).2 ⟨h1.symm, h2.symm, h3.symm, h4.symm, h5.symm, h6.symm, fun i hi => ih i (by omega) (h7 i (by omega))⟩
theorem Sm.trans : ∀ {x y z : Pt}, Sm x y → Sm y z → Sm x z := by
  refine @(Pt.ind fun x ih y z h g => ?_)
  obtain ⟨h1, h2, h3, h4, h5, h6, h7⟩ := (sm_iff _ _).1 h
  obtain ⟨g1, g2, g3, g4, g5, g6, g7⟩ := (sm_iff _ _).1 g
  exact (sm_iff _ _).2 ⟨h1.trans g1, h2.trans g2, h3.trans g3, h4.trans g4, h5.trans g5, h6.trans g6, fun i hi => ih i hi (h7 i hi) (g7 i (by omega))⟩
/-- Has its kind a Var? -/
def nmd (k : Int) : Bool := k == 1 || k == 5 || k == 6
/-- With other names. -/
def renP (g : ByteArray → ByteArray) : Pt → Pt
  | .nil => .nil
  | .mk k s t lo hi a n cap c => .mk k (if nmd k = true then g s else s) t lo hi a n cap (fun i => renP g (c i))
theorem renP_parts (g : ByteArray → ByteArray) (x : Pt) : (renP g x).k = x.k ∧ (renP g x).s = (if nmd x.k = true then g x.s else x.s) ∧ (renP g x).t = x.t ∧ (renP g x).lo = x.lo ∧ (renP g x).hi = x.hi ∧ (renP g x).n = x.n ∧ ∀ i, (renP g x).c i = renP g (x.c i) := by
  cases x with
  | nil => exact ⟨rfl, rfl, rfl, rfl, rfl, rfl, fun _ => rfl⟩
  | mk => exact ⟨rfl, rfl, rfl, rfl, rfl, rfl, fun _ => rfl⟩
theorem renP_slice (g : ByteArray → ByteArray) (x : Pt) : (renP g x).a = x.a ∧ (renP g x).cap = x.cap := by
  cases x with
  | nil => exact ⟨rfl, rfl⟩
  | mk => exact ⟨rfl, rfl⟩
theorem renP_sm (g : ByteArray → ByteArray) : ∀ {x y : Pt}, Sm x y → Sm (renP g x) (renP g y) := by
  refine @(Pt.ind fun x ih y h => ?_)
  obtain ⟨h1, h2, h3, h4, h5, h6, h7⟩ := (sm_iff _ _).1 h
  obtain ⟨a1, a2, a3, a4, a5, a6, a7⟩ := renP_parts g x
  obtain ⟨b1, b2, b3, b4, b5, b6, b7⟩ := renP_parts g y
  rw [sm_iff, a1, a2, a3, a4, a5, a6, b1, b2, b3, b4, b5, b6, h1, h2]
  exact ⟨rfl, rfl, h3, h4, h5, h6, fun i hi => by rw [a7, b7]; exact ih i hi (h7 i hi)⟩
/-- The nodes that have a Var, in the order in which they stand. -/
def usesP : Pt → List Pt
  | .nil => []
  | .mk k s t lo hi a n cap c => (if nmd k = true then [.mk k s t lo hi a n cap c] else []) ++ catN (fun i => usesP (c i)) n
theorem usesP_eq (x : Pt) : usesP x = (if nmd x.k = true then [x] else []) ++ catN (fun i => usesP (x.c i)) x.n := by cases x <;> rfl
/-- All nodes in their order, each with how many lie on the way down to it. -/
def visP (d : Nat) : Pt → List (Nat × Pt)
  | .nil => [(d, .nil)]
  | .mk k s t lo hi a n cap c => (d, .mk k s t lo hi a n cap c) :: catN (fun i => visP (d + 1) (c i)) n
theorem visP_eq (d : Nat) (x : Pt) : visP d x = (d, x) :: catN (fun i => visP (d + 1) (x.c i)) x.n := by cases x <;> rfl
theorem catN_split {α : Type} (f : Nat → List α) : ∀ {n i : Nat}, i < n → ∃ r, catN f n = catN f i ++ (f i ++ r)
  | 0, _, h => by omega
  | n + 1, i, h => by
    by_cases e : i = n
    · subst e; exact ⟨[], by simp [catN]⟩
    · obtain ⟨r, hr⟩ := catN_split f (show i < n by omega)
      exact ⟨r ++ f n, by rw [catN, hr]; simp⟩
theorem catN_congr {α : Type} {f g : Nat → List α} : ∀ {n : Nat}, (∀ i, i < n → f i = g i) → catN f n = catN g n
  | 0, _ => rfl
  | n + 1, h => by rw [catN, catN, catN_congr fun i hi => h i (by omega), h n (by omega)]
theorem catN_map {α β : Type} (g : α → β) (f : Nat → List α) : ∀ n, (catN f n).map g = catN (fun i => (f i).map g) n
  | 0 => rfl
  | n + 1 => by rw [catN, catN, List.map_append, catN_map g f n]
theorem catN_filter {α : Type} (g : α → Bool) (f : Nat → List α) : ∀ n, (catN f n).filter g = catN (fun i => (f i).filter g) n
  | 0 => rfl
  | n + 1 => by rw [catN, catN, List.filter_append, catN_filter g f n]
/-- Of all nodes those that have a Var. -/
theorem uses_visP : ∀ (x : Pt) (d : Nat), ((visP d x).filter fun v => nmd v.2.k).map (·.2) = usesP x := by
  refine Pt.ind fun x ih d => ?_
  have hc : (catN (fun i => ((visP (d + 1) (x.c i)).filter fun v => nmd v.2.k).map (·.2)) x.n) = catN (fun i => usesP (x.c i)) x.n := catN_congr fun i hi => ih i hi (d + 1)
  rw [visP_eq, usesP_eq, List.filter_cons]
  by_cases h : nmd x.k = true
  · rw [if_pos h, if_pos h, List.map_cons, catN_filter, catN_map, hc]
    rfl
  · rw [if_neg h, if_neg h, catN_filter, catN_map, hc]
    rfl
end Go.Proofs.Ytjclelmbpmlioaa
namespace Go.Proofs.Ytjclelmbpmlioaa
open Go.RowKit

abbrev Pt.slice (x : Pt) : Value := .slice x.a x.n x.cap
/-- A pattern as a value. -/
abbrev Pt.val (x : Pt) : Value := .agg #[.int .i64 x.k, .string x.s, .string x.t, .int .i64 x.lo, .int .i64 x.hi, .slice x.a x.n x.cap]
/-- The six cells of a node. -/
def NodeP (w : World) (b o : Nat) (x : Pt) : Prop :=
  w.cell? ⟨b, o, none⟩ = some (.int .i64 x.k) ∧ w.cell? ⟨b, o + 1, none⟩ = some (.string x.s) ∧ w.cell? ⟨b, o + 2, none⟩ = some (.string x.t) ∧ w.cell? ⟨b, o + 3, none⟩ = some (.int .i64 x.lo) ∧
    w.cell? ⟨b, o + 4, none⟩ = some (.int .i64 x.hi) ∧ w.cell? ⟨b, o + 5, none⟩ = some (.slice x.a x.n x.cap)
/-- All that lies below a pattern. -/
def IsP (w : World) : Pt → Prop
  | .nil => True
  | .mk _ _ _ _ _ a n cap c => n ≤ cap ∧ cap ≤ 9223372036854775807 ∧ ∀ i, i < n → ∃ b o, a = some ⟨b, o, none⟩ ∧ NodeP w b (o + i * 6) (c i) ∧ IsP w (c i)
theorem isP_eq (w : World) (x : Pt) : IsP w x ↔ x.n ≤ x.cap ∧ x.cap ≤ 9223372036854775807 ∧ ∀ i, i < x.n → ∃ b o, x.a = some ⟨b, o, none⟩ ∧ NodeP w b (o + i * 6) (x.c i) ∧ IsP w (x.c i) := by
  cases x with
  | nil => simp [IsP, Pt.n, Pt.cap]
  | mk => rfl
theorem IsP.part {w : World} {x : Pt} (h : IsP w x) {i : Nat} (hi : i < x.n) : ∃ b o, x.a = some ⟨b, o, none⟩ ∧ NodeP w b (o + i * 6) (x.c i) ∧ IsP w (x.c i) := ((isP_eq w x).1 h).2.2 i hi
theorem IsP.len {w : World} {x : Pt} (h : IsP w x) : x.n ≤ 9223372036854775807 := by have := (isP_eq w x).1 h; omega
theorem NodeP.of {w w' : World} {b o : Nat} {x : Pt} (h : NodeP w b o x) (hk : ∀ j, j < 6 → w'.cell? ⟨b, o + j, none⟩ = w.cell? ⟨b, o + j, none⟩) : NodeP w' b o x :=
  ⟨(hk 0 (by omega)).trans h.1, (hk 1 (by omega)).trans h.2.1, (hk 2 (by omega)).trans h.2.2.1, (hk 3 (by omega)).trans h.2.2.2.1, (hk 4 (by omega)).trans h.2.2.2.2.1, (hk 5 (by omega)).trans h.2.2.2.2.2⟩
theorem NodeP.lt {w : World} {b o : Nat} {x : Pt} (h : NodeP w b o x) : b < w.heap.size := by
  have h0 := h.1
  simp only [World.cell?] at h0
  by_cases hb : b < w.heap.size
  · exact hb
  · rw [Array.getElem?_eq_none (by omega)] at h0
    cases h0
theorem NodeP.later {w w' : World} {b o : Nat} {x : Pt} (h : NodeP w b o x) (hB : Below w.heap.size w w') : NodeP w' b o x := h.of fun j _ => hB.cell (p := ⟨b, o + j, none⟩) h.lt
theorem IsP.later {w w' : World} (hB : Below w.heap.size w w') : ∀ {x : Pt}, IsP w x → IsP w' x
  | .nil, _ => trivial
  | .mk _ _ _ _ _ _ _ _ c, h => by
    obtain ⟨h1, h2, h3⟩ := h
    refine ⟨h1, h2, fun i hi => ?_⟩
    obtain ⟨b, o, e, hn, hx⟩ := h3 i hi
    exact ⟨b, o, e, hn.later hB, IsP.later hB hx⟩
/-- What lies below n₀ alone. -/
def PIn (n₀ : Nat) (w : World) : Pt → Prop
  | .nil => True
  | .mk _ _ _ _ _ a n cap c => n ≤ cap ∧ cap ≤ 9223372036854775807 ∧ ∀ i, i < n → ∃ b o, a = some ⟨b, o, none⟩ ∧ b < n₀ ∧ NodeP w b (o + i * 6) (c i) ∧ PIn n₀ w (c i)
theorem pIn_eq (n₀ : Nat) (w : World) (x : Pt) : PIn n₀ w x ↔ x.n ≤ x.cap ∧ x.cap ≤ 9223372036854775807 ∧ ∀ i, i < x.n → ∃ b o, x.a = some ⟨b, o, none⟩ ∧ b < n₀ ∧ NodeP w b (o + i * 6) (x.c i) ∧ PIn n₀ w (x.c i) := by
  cases x with
  | nil => simp [PIn, Pt.n, Pt.cap]
  | mk => rfl
theorem IsP.inn {w : World} : ∀ {x : Pt}, IsP w x → PIn w.heap.size w x
  | .nil, _ => trivial
  | .mk _ _ _ _ _ _ _ _ c, h => by
    obtain ⟨h1, h2, h3⟩ := h
    refine ⟨h1, h2, fun i hi => ?_⟩
    obtain ⟨b, o, e, hn, hx⟩ := h3 i hi
    exact ⟨b, o, e, hn.lt, hn, hx.inn⟩
theorem PIn.is {n₀ : Nat} {w : World} : ∀ {x : Pt}, PIn n₀ w x → IsP w x
  | .nil, _ => trivial
  | .mk _ _ _ _ _ _ _ _ c, h => by
    obtain ⟨h1, h2, h3⟩ := h
    refine ⟨h1, h2, fun i hi => ?_⟩
    obtain ⟨b, o, e, _, hn, hx⟩ := h3 i hi
    exact ⟨b, o, e, hn, hx.is⟩
theorem NodeP.below {n₀ : Nat} {w w' : World} {b o : Nat} {x : Pt} (h : NodeP w b o x) (hB : Below n₀ w w') (hb : b < n₀) : NodeP w' b o x := h.of fun j _ => hB.cell (p := ⟨b, o + j, none⟩) hb
theorem PIn.below {n₀ : Nat} {w w' : World} (hB : Below n₀ w w') : ∀ {x : Pt}, PIn n₀ w x → PIn n₀ w' x
  | .nil, _ => trivial
  | .mk _ _ _ _ _ _ _ _ c, h => by
    obtain ⟨h1, h2, h3⟩ := h
    refine ⟨h1, h2, fun i hi => ?_⟩
    obtain ⟨b, o, e, hb, hn, hx⟩ := h3 i hi
    exact ⟨b, o, e, hb, hn.below hB hb, PIn.below hB hx⟩
theorem PIn.mono {n₀ n₁ : Nat} {w : World} (hn : n₀ ≤ n₁) : ∀ {x : Pt}, PIn n₀ w x → PIn n₁ w x
  | .nil, _ => trivial
  | .mk _ _ _ _ _ _ _ _ c, h => by
    obtain ⟨h1, h2, h3⟩ := h
    refine ⟨h1, h2, fun i hi => ?_⟩
    obtain ⟨b, o, e, hb, hn', hx⟩ := h3 i hi
    exact ⟨b, o, e, by omega, hn', PIn.mono hn hx⟩
/-- Texts no longer than texts can be. -/
def POk : Pt → Prop
  | .nil => True
  | .mk _ s t _ _ _ n _ c => s.size ≤ maxLen ∧ t.size ≤ maxLen ∧ ∀ i, i < n → POk (c i)
theorem pOk_eq (x : Pt) : POk x ↔ x.s.size ≤ maxLen ∧ x.t.size ≤ maxLen ∧ ∀ i, i < x.n → POk (x.c i) := by
  cases x with
  | nil => exact ⟨fun _ => ⟨Nat.zero_le _, Nat.zero_le _, fun i hi => absurd hi (Nat.not_lt_zero _)⟩, fun _ => trivial⟩
  | mk => rfl
/-- The six cells of a pattern as one value. -/
abbrev Pt.cells (x : Pt) : Array Value := #[.int .i64 x.k, .string x.s, .string x.t, .int .i64 x.lo, .int .i64 x.hi, .slice x.a x.n x.cap]
theorem nodeP_box {w : World} {B : Nat} {t : TypeId} {x : Pt} (h : w.heap[B]? = some (.cells x.cells t (0, 0))) : NodeP w B 0 x := by
  refine ⟨?_, ?_, ?_, ?_, ?_, ?_⟩ <;> simp [World.cell?, h]
theorem nodeP_new (w : World) (t : TypeId) (x : Pt) : NodeP (w.alloc (.cells x.cells t)) w.heap.size 0 x := nodeP_box (World.alloc_heap_new w _)
theorem NodeP.at0 {w : World} {B : Nat} {x : Pt} (h : NodeP w B 0 x) : w.cell? ⟨B, 0, none⟩ = some (.int .i64 x.k) ∧ w.cell? ⟨B, 1, none⟩ = some (.string x.s) ∧ w.cell? ⟨B, 2, none⟩ = some (.string x.t) ∧ w.cell? ⟨B, 3, none⟩ = some (.int .i64 x.lo) ∧
    w.cell? ⟨B, 4, none⟩ = some (.int .i64 x.hi) ∧ w.cell? ⟨B, 5, none⟩ = some (.slice x.a x.n x.cap) := by
  have := h
  simp only [NodeP, Nat.zero_add] at this
  exact this
/-- The box that holds a pattern stays. -/
theorem nodeP_on {w A W : World} {x : Pt} (hn : NodeP A w.heap.size 0 x) (hB : Below (w.heap.size + 1) A W) : NodeP W w.heap.size 0 x := hn.below hB (by omega)
/-- A pattern in a box of its own. -/
theorem boxP_one (x : Pt) (w : World) : ∃ A, w.alloc (.cells x.cells 24) = A ∧ Below w.heap.size w A ∧ A.heap.size = w.heap.size + 1 ∧ NodeP A w.heap.size 0 x :=
  ⟨_, rfl, (Below.refl _ w).alloc (Nat.le_refl _) _, by simp, nodeP_new w _ x⟩
theorem boxP_two (x y : Pt) (w : World) : ∃ A, (w.alloc (.cells x.cells 24)).alloc (.cells y.cells 24) = A ∧ Below w.heap.size w A ∧ A.heap.size = w.heap.size + 2 ∧ NodeP A w.heap.size 0 x ∧ NodeP A (w.heap.size + 1) 0 y := by
  refine ⟨_, rfl, ((Below.refl _ w).alloc (Nat.le_refl _) _).alloc (by simp) _, by simp, (nodeP_new w _ x).later ((Below.refl _ _).alloc (Nat.le_refl _) _), ?_⟩
  have := nodeP_new (w.alloc (.cells x.cells 24)) 24 y
  rwa [World.size_alloc] at this
theorem lengthP_le_size (v : Pt) : v.n ≤ v.size := by
  have : ∀ m, m ≤ sumN (fun i => (v.c i).size) m := by
    intro m
    induction m with
    | zero => exact Nat.le_refl _
    | succ m ih => have := (v.c m).size_pos; simp only [sumN]; omega
  have := this v.n
  rw [v.size_eq]
  omega
/-- Rows no longer than memory can hold (80 bytes a node), all the way down. -/
def WdP : Pt → Prop
  | .nil => True
  | .mk _ _ _ _ _ _ n _ c => n ≤ 1759218604390 ∧ ∀ i, i < n → WdP (c i)
theorem wdP_eq (x : Pt) : WdP x ↔ x.n ≤ 1759218604390 ∧ ∀ i, i < x.n → WdP (x.c i) := by
  cases x with
  | nil => exact ⟨fun _ => ⟨Nat.zero_le _, fun i hi => absurd hi (Nat.not_lt_zero _)⟩, fun _ => trivial⟩
  | mk => rfl
theorem wdP_of : ∀ (x : Pt), x.size ≤ 1048576 → WdP x := by
  refine Pt.ind fun x ih h => ?_
  rw [wdP_eq]
  have := lengthP_le_size x
  exact ⟨by omega, fun i hi => ih i hi (by have := x.size_part i hi; omega)⟩
end Go.Proofs.Ytjclelmbpmlioaa
namespace Go.Proofs.Ytjclelmbpmlioaa
open Go.RowKit Go.Shelf
attribute [local go_sem] Oper.semAt_some

/-- The closure that goes down, as a value. -/
abbrev downPV (By Bd : Nat) : Value := .func (.func 45) #[] #[.pointer (some ⟨By, 0, none⟩), .pointer (some ⟨Bd, 0, none⟩)]

set_option maxRecDepth 100000 in
set_option maxHeartbeats 4000000 in
theorem downP_any {ι : Type} (l By Bd : Nat) (kids : ι → Nat) (kid : ι → Nat → ι) (rank : ι → Nat)
    (Pre : ι → Nat → Nat → Int → World → Prop) (Mid : ι → Nat → Nat → Int → World → Option Addr → Nat → Nat → World → Prop) (Post Stop : ι → Nat → Nat → Int → World → World → Prop)
    (hrank : ∀ v i, i < kids v → rank (kid v i) < rank v)
    (hP : ∀ v b o d W, Pre v b o d W → W.cell? ⟨By, 0, none⟩ = some (.func (.yield l) #[] #[]))
    (hY : ∀ v b o d W, Pre v b o d W → YieldAt Fence.wide 0 Try.prog l #[.int .i64 d, .pointer (some ⟨b, o, none⟩)] W fun e W' =>
      (e = .returned (.bool true) ∧ ∃ a cap, Mid v b o d W a cap 0 W') ∨ (e = .returned (.bool false) ∧ Stop v b o d W W'))
    (hL : ∀ v b o d W a cap i Wi, Mid v b o d W a cap i Wi → kids v ≤ 9223372036854775807 ∧ Wi.cell? ⟨b, o + 5, none⟩ = some (.slice a (kids v) cap) ∧ Wi.cell? ⟨Bd, 0, none⟩ = some (downPV By Bd))
    (hC : ∀ v b o d W a cap i Wi, Mid v b o d W a cap i Wi → i < kids v → ∃ b' o', a = some ⟨b', o', none⟩ ∧ Pre (kid v i) b' (o' + i * 6) (IntKind.i64.wrap (d + 1)) Wi.drew ∧
      (∀ W', Post (kid v i) b' (o' + i * 6) (IntKind.i64.wrap (d + 1)) Wi.drew W' → Mid v b o d W a cap (i + 1) W') ∧ (∀ W', Stop (kid v i) b' (o' + i * 6) (IntKind.i64.wrap (d + 1)) Wi.drew W' → Stop v b o d W W'))
    (hE : ∀ v b o d W a cap Wi, Mid v b o d W a cap (kids v) Wi → Post v b o d W Wi) :
    ∀ (r : Nat) (v : ι), rank v < r → ∀ (n b o : Nat) (d : Int) (W : World), Pre v b o d W →
      CallsIn Fence.wide n Try.prog 45 #[.int .i64 d, .pointer (some ⟨b, o, none⟩), .pointer (some ⟨By, 0, none⟩), .pointer (some ⟨Bd, 0, none⟩)] W fun e W' =>
        (e = .returned (.bool true) ∧ Post v b o d W W') ∨ (e = .returned (.bool false) ∧ Stop v b o d W W') := by
  intro r
  induction r with
  | zero => intro v h; omega
  | succ r ih =>
    intro v hv n b o d W hpre
    have hdd : ∀ k : Nat, (Fence.wide.depth.isSome = true → 1 ≤ k) := fun k h => by cases h
    have hby := hP v b o d W hpre
    obtain ⟨fn, tmps, assign, body, hy, hR⟩ := yield_wide (n - 1) (hY v b o d W hpre)
    refine callsIn_of_wp Try.func45 rfl trivial ?_ rfl
    simp only [Try.ntmps45, List.size_toArray, List.length_cons, List.length_nil, Nat.reduceAdd, Nat.reduceSub, Array.replicate_succ, Array.replicate_zero, List.push_toArray, List.append_toArray, List.nil_append, List.cons_append]
    gi_wp2_with (first
      | ((try refine ⟨hdd _, ?_⟩); refine hR.mono ?_; clear hR; rintro e W1 (⟨rfl, a, cap, hm⟩ | ⟨rfl, hs⟩); (try (obtain ⟨hn0, hc6, hcd⟩ := hL v b o d W a cap 0 W1 hm))))
    · obtain ⟨hn1, -⟩ := hL v b o d W a cap 0 W1 hm
      gi_loopw [18] (fun u wr => ∃ i : Nat, i ≤ kids v ∧ u = .int .i64 i ∧ Mid v b o d W a cap i wr) (fun u _ => kids v - (intOf u).toNat)
      case atStart => exact ⟨0, Nat.zero_le _, rfl, hm⟩
      case round =>
        obtain ⟨i, hi, rfl, hmi⟩ := hrel
        obtain ⟨-, hc6i, hcdi⟩ := hL v b o d W a cap i wr hmi
        by_cases hin : i < kids v
        · obtain ⟨b', o', rfl, hp', hpost, hstop⟩ := hC v b o d W a cap i wr hmi hin
          have ihc := (ih (kid v i) (by have := hrank v i hin; omega) (n - 1) b' (o' + i * 6) _ wr.drew hp').mono (R' := fun e W2 => ∃ r, e = .returned (.bool r) ∧ ((r = true ∧ Mid v b o d W (some ⟨b', o', none⟩) cap (i + 1) W2) ∨ (r = false ∧ Stop v b o d W W2)))
            (fun e W2 h => h.elim (fun h => ⟨true, h.1, .inl ⟨rfl, hpost W2 h.2⟩⟩) (fun h => ⟨false, h.1, .inr ⟨rfl, hstop W2 h.2⟩⟩))
          clear ih hpost hstop
          have HQ : Hid (i < kids v) := hin
          gi_wp2
          gi_region_with ((refine ⟨trivial, hdd _, ?_⟩; gi_at_call 45; refine ihc.mono ?_; clear ihc; rintro e W2 ⟨r, rfl, hj⟩))
          all_goals (rcases hj with ⟨rfl, hj⟩ | ⟨rfl, hj⟩)
          all_goals gi_wp2
          all_goals first
            | (go_ret; exact .inr ⟨rfl, hj⟩)
            | exact ⟨⟨i + 1, HQ.out, by simp, hj⟩, by have := HQ.out; simp [intOf]; omega⟩
        · have hin' : i = kids v := by omega
          subst hin'
          gi_wp2
          go_ret
          exact .inl ⟨rfl, hE _ _ _ _ _ _ _ _ hmi⟩
    · gi_wp2
      go_ret
      exact .inr ⟨rfl, hs⟩
end Go.Proofs.Ytjclelmbpmlioaa
namespace Go.Proofs.Ytjclelmbpmlioaa
open Go.RowKit Go.Shelf
attribute [local go_sem] Oper.semAt_some

set_option maxRecDepth 100000 in
set_option maxHeartbeats 1000000 in
theorem nodesP_in (n : Nat) (p : Option Addr) (w : World) :
    CallsIn Fence.wide n Try.prog 27 #[.pointer p] w fun e w' => e = .returned (.func (.func 44) #[] #[.pointer (some ⟨w.heap.size, 0, none⟩)]) ∧ w' = w.alloc (.cells #[.pointer p] 55) := by
  refine callsIn_of_wp Try.func27 rfl trivial ?_ rfl
  simp only [Try.ntmps27, List.size_toArray, List.length_cons, List.length_nil, Nat.reduceAdd, Nat.reduceSub, Array.replicate_succ, Array.replicate_zero, List.push_toArray, List.append_toArray, List.nil_append, List.cons_append]
  gi_wp2
  go_ret
  exact ⟨rfl, rfl⟩

set_option maxRecDepth 100000 in
set_option maxHeartbeats 2000000 in
/-- The function that expr.nodes hands back: it lays yield and the closure in boxes of their own, and goes down. -/
theorem nodesP1_in (n l Bp b o : Nat) (W : World) (R : Ending → World → Prop) (hBp : W.cell? ⟨Bp, 0, none⟩ = some (.pointer (some ⟨b, o, none⟩)))
    (hdown : ∀ W2, Boxed W2 W.heap.size 79 (.func (.yield l) #[] #[]) → Boxed W2 (W.heap.size + 1) 79 (downPV W.heap.size (W.heap.size + 1)) → Below W.heap.size W W2 → W2.heap.size = W.heap.size + 2 →
      CallsIn Fence.wide (n - 1) Try.prog 45 #[.int .i64 1, .pointer (some ⟨b, o, none⟩), .pointer (some ⟨W.heap.size, 0, none⟩), .pointer (some ⟨W.heap.size + 1, 0, none⟩)] W2 fun e W' => ∃ r, e = .returned (.bool r) ∧ R (.returned (.bool r)) W') :
    CallsIn Fence.wide n Try.prog 44 #[.func (.yield l) #[] #[], .pointer (some ⟨Bp, 0, none⟩)] W fun e W' => (∃ v, e = .returned v) ∧ ∃ r, R (.returned (.bool r)) W' := by
  have hdd : ∀ k : Nat, (Fence.wide.depth.isSome = true → 1 ≤ k) := fun k h => by cases h
  have h1 : Boxed (W.alloc (.cells #[.func (.yield l) #[] #[]] 79)) W.heap.size 79 (.func (.yield l) #[] #[]) := Boxed.new _ _ _
  have hlt : Bp < W.heap.size := by
    obtain ⟨ob, ho, -⟩ := cells_of_cell hBp
    exact (Array.getElem?_eq_some_iff.1 ho).1
  obtain ⟨A, hA⟩ : ∃ A, (W.alloc (.cells #[.func (.yield l) #[] #[]] 79)).alloc (.cells #[.nilFunc] 79) = A := ⟨_, rfl⟩
  have b1 : Boxed A W.heap.size 79 (.func (.yield l) #[] #[]) := hA ▸ h1.alloc _
  have b2 : Boxed A (W.heap.size + 1) 79 .nilFunc := by
    have := Boxed.new (W.alloc (.cells #[.func (.yield l) #[] #[]] 79)) 79 .nilFunc
    rw [World.size_alloc, hA] at this
    exact this
  have hB : Below W.heap.size W A := by rw [← hA]; exact ((Below.refl _ W).alloc (Nat.le_refl _) _).alloc (by simp) _
  have hsz : A.heap.size = W.heap.size + 2 := by rw [← hA]; simp
  have c2 := b2.cell
  have f2 := b2.frozen
  have b3 := b2.set (downPV W.heap.size (W.heap.size + 1))
  have b4 := b1.other (show W.heap.size ≠ W.heap.size + 1 by omega) (downPV W.heap.size (W.heap.size + 1))
  have hB3 : Below W.heap.size W (A.setCell ⟨W.heap.size + 1, 0, none⟩ (downPV W.heap.size (W.heap.size + 1))) := hB.setCell (p := ⟨W.heap.size + 1, 0, none⟩) (by simp) _
  have c3 := b3.cell
  have cp := (hB3.cell (p := ⟨Bp, 0, none⟩) hlt).trans hBp
  have hd := hdown _ b4 b3 hB3 (by rw [World.size_setCell]; exact hsz)
  clear hdown
  refine callsIn_of_wp Try.func44 rfl trivial ?_ rfl
  simp only [Try.ntmps44, List.size_toArray, List.length_cons, List.length_nil, Nat.reduceAdd, Nat.reduceSub, Array.replicate_succ, Array.replicate_zero, List.push_toArray, List.append_toArray, List.nil_append, List.cons_append]
  gi_wp2_with (refine ⟨trivial, hdd _, ?_⟩; gi_at_call 45; refine hd.mono ?_; rintro e W3 ⟨r, rfl, hr⟩)
  go_end0
  exact ⟨⟨_, rfl⟩, _, hr⟩
theorem NodeP.kept {T : Nat → Prop} {W W' : World} (h : Kp T W W') {b o : Nat} {x : Pt} (hb : T b) (hn : NodeP W b o x) : NodeP W' b o x :=
  ⟨h.cell (p := ⟨b, o, none⟩) hb hn.1, h.cell (p := ⟨b, o + 1, none⟩) hb hn.2.1, h.cell (p := ⟨b, o + 2, none⟩) hb hn.2.2.1, h.cell (p := ⟨b, o + 3, none⟩) hb hn.2.2.2.1, h.cell (p := ⟨b, o + 4, none⟩) hb hn.2.2.2.2.1, h.cell (p := ⟨b, o + 5, none⟩) hb hn.2.2.2.2.2⟩
theorem NodeP.ag {B : Nat} {W A : World} (h : Ag B W A) {b o : Nat} {x : Pt} (hn : NodeP W b o x) : NodeP A b o x := hn.of fun _ _ => h.cell _
/-- A pattern whose parts lie in such blocks. -/
def PT (T : Nat → Prop) (w : World) : Pt → Prop
  | .nil => True
  | .mk _ _ _ _ _ a n cap c => n ≤ cap ∧ cap ≤ 9223372036854775807 ∧ ∀ i, i < n → ∃ b o, a = some ⟨b, o, none⟩ ∧ T b ∧ NodeP w b (o + i * 6) (c i) ∧ PT T w (c i)
theorem pT_eq (T : Nat → Prop) (w : World) (x : Pt) : PT T w x ↔ x.n ≤ x.cap ∧ x.cap ≤ 9223372036854775807 ∧ ∀ i, i < x.n → ∃ b o, x.a = some ⟨b, o, none⟩ ∧ T b ∧ NodeP w b (o + i * 6) (x.c i) ∧ PT T w (x.c i) := by
  cases x with
  | nil => simp [PT, Pt.n, Pt.cap]
  | mk => rfl
end Go.Proofs.Ytjclelmbpmlioaa
namespace Go.Proofs.Ytjclelmbpmlioaa
open Go.RowKit Go.Shelf
attribute [local go_sem] Oper.semAt_some

theorem nodesP_walk {ι : Type} {n : Nat} {g : Operand} {ps : Array Tmp} {assign body : Code} {Q : Exit → Act → World → Prop} {a : Act} {w : World} (Bp b0 o0 : Nat) (v0 : ι) (kids : ι → Nat) (kid : ι → Nat → ι) (rank : ι → Nat)
    (Pre : ι → Nat → Nat → World → Prop) (Go : ι → Nat → Nat → World → World → Prop) (Mid : ι → Nat → Nat → World → Option Addr → Nat → Nat → World → Prop) (Post : ι → Nat → Nat → World → World → Prop)
    (hg : a.eval g = .func (.func 44) #[] #[.pointer (some ⟨Bp, 0, none⟩)]) (hps : ps.size = 2) (hBp : w.cell? ⟨Bp, 0, none⟩ = some (.pointer (some ⟨b0, o0, none⟩)))
    (hrank : ∀ v i, i < kids v → rank (kid v i) < rank v)
    (hPre : ∀ v b o W A, Ag w.heap.size W A → Pre v b o W → Pre v b o A)
    (hGo : ∀ v b o W A A' W', Ag w.heap.size W A → Ag w.heap.size A' W' → Go v b o A A' → Go v b o W W')
    (hPost : ∀ v b o W W' A, Ag w.heap.size W' A → Post v b o W W' → Post v b o W A)
    (h0 : ∀ W, Below w.heap.size w W → W.heap.size = w.heap.size + 4 → Pre v0 b0 o0 W)
    (a₁ : Int → Nat → Nat → Act)
    (hassign : ∀ (l : Nat) (d : Int) (b o : Nat) (W : World) (K : Act → World → Prop), K (a₁ d b o) W →
      assign.wpIn (Fence.wide.inRound l) (n - 1 - 1) Try.prog (Exit.then K (fun _ _ _ => False)) { tmps := (ps.zip #[.int .i64 d, .pointer (some ⟨b, o, none⟩)]).foldl (fun t (p, v) => t.setIfInBounds p v) a.tmps, defers := [] } W)
    (hbody : ∀ (l : Nat) (d : Int) (b o : Nat) (v : ι) (W : World), Pre v b o W → w.heap.size + 4 ≤ W.heap.size → (∃ u, Boxed W (w.heap.size + 2) 79 u) → (∃ u, Boxed W (w.heap.size + 3) 79 u) →
      body.wpIn (Fence.wide.inRound l) (n - 1 - 1) Try.prog (walkPost w.heap.size (Go v b o W) W) (a₁ d b o) W)
    (hM : ∀ v b o W W', Pre v b o W → Go v b o W W' → ∃ a cap, Mid v b o W a cap 0 W')
    (hL : ∀ v b o W a cap i Wi, Mid v b o W a cap i Wi → kids v ≤ 9223372036854775807 ∧ Wi.cell? ⟨b, o + 5, none⟩ = some (.slice a (kids v) cap))
    (hC : ∀ v b o W a cap i Wi, Mid v b o W a cap i Wi → i < kids v → ∃ b' o', a = some ⟨b', o', none⟩ ∧ Pre (kid v i) b' (o' + i * 6) Wi.drew ∧
      (∀ W', Post (kid v i) b' (o' + i * 6) Wi.drew W' → Mid v b o W a cap (i + 1) W'))
    (hE : ∀ v b o W a cap Wi, Mid v b o W a cap (kids v) Wi → Post v b o W Wi)
    (hdone : ∀ (D : Nat) (W2 W : World), w.heap.size ≤ D → Below w.heap.size w W2 → W2.heap.size = w.heap.size + 4 → Post v0 b0 o0 W2 W → W.heap[D]? = some (.deferred (some [])) → Q .normal { a with defers := { target := .collected D, args := #[] } :: a.defers } W) :
    (Code.rangeFunc g ps assign body).wpIn Fence.wide n Try.prog Q a w := by
  obtain ⟨T, hT⟩ : ∃ T : Nat → Prop, T = fun k => k = w.heap.size + 2 ∨ k = w.heap.size + 3 := ⟨_, rfl⟩
  refine wpIn_range (α := Got ι) hg (enters_of Try.func44 (by kernel_rfl) rfl) (encs := fun v => #[.int .i64 v.d, .pointer (some ⟨v.b, v.o, none⟩)]) (fun _ => hps.symm)
    (fun v W => Pre v.v v.b v.o W ∧ w.heap.size + 4 ≤ W.heap.size ∧ (∃ u, Boxed W (w.heap.size + 2) 79 u) ∧ ∃ u, Boxed W (w.heap.size + 3) 79 u)
    (fun v W W' => Kp T W W' ∧ Go v.v v.b v.o W W' ∧ w.heap.size + 4 ≤ W'.heap.size)
    (fun _ _ _ _ => False) (fun W => ∃ W2, Below w.heap.size w W2 ∧ W2.heap.size = w.heap.size + 4 ∧ Post v0 b0 o0 W2 W) (fun _ _ => False) ?_ ?_ (fun _ _ _ _ _ _ _ _ h => h) ?_ (fun _ _ _ _ h => h) (fun v => a₁ v.d v.b v.o) (fun l v W K hK => hassign l v.d v.b v.o W K hK) ?_ ?_
    (fun D W hD h hK => by obtain ⟨W2, h1, h2, h3⟩ := h; exact hdone D W2 W hD h1 h2 h3 hK) (fun _ _ _ _ h _ => h.elim)
  · rintro v W A hag ⟨h1, h2, ⟨u, h3⟩, u', h4⟩
    exact ⟨hPre _ _ _ _ _ hag h1, by rw [hag.size]; exact h2, ⟨u, hag.boxed h3⟩, u', hag.boxed h4⟩
  · rintro v W A A' W' hag hag' ⟨h1, h2, h3⟩
    exact ⟨Kp.ag hag hag' h1, hGo _ _ _ _ _ _ _ hag hag' h2, by rw [hag'.size]; exact h3⟩
  · rintro W A hag ⟨W2, h1, h2, h3⟩
    exact ⟨W2, h1, h2, hPost _ _ _ _ _ _ hag h3⟩
  · rintro l v W ⟨h1, h2, h3, h4⟩ _
    refine wpIn_mono (hbody l v.d v.b v.o v.v W h1 h2 h3 h4) ?_
    rintro e a3 W3 hp
    cases e with
    | normal => exact ⟨hp.1, by rw [hT]; exact hp.2.1, hp.2.2, Nat.le_trans h2 hp.1.size⟩
    | ret => exact hp.elim
    | exit id => exact hp.elim
    | goto t => exact hp.elim
    | panic ch => exact hp.elim
    | outgrown => exact hp.elim
  · intro l Rec RecX W1 hB1 hs1 hrec1 hrec hrecx hY
    have hlt : Bp < w.heap.size := by
      obtain ⟨ob, ho, -⟩ := cells_of_cell hBp
      exact (Array.getElem?_eq_some_iff.1 ho).1
    refine (nodesP1_in (n - 1) l Bp b0 o0 W1 (fun e W' => e = .returned (.bool true) ∧ (∃ W2, Below w.heap.size w W2 ∧ W2.heap.size = w.heap.size + 4 ∧ Post v0 b0 o0 W2 W') ∧ Rec W') ((hB1.cell (p := ⟨Bp, 0, none⟩) hlt).trans hBp) ?_).mono ?_
    · intro W2 by2 bd2 hB2 hs2
      have hBW : Below w.heap.size w W2 := hB1.trans (hB2.mono (by omega))
      have key := downP_any (ι := ι) l W1.heap.size (W1.heap.size + 1) kids kid rank
        (fun v b o _ W => Pre v b o W ∧ Rec W ∧ Boxed W W1.heap.size 79 (.func (.yield l) #[] #[]) ∧ Boxed W (W1.heap.size + 1) 79 (downPV W1.heap.size (W1.heap.size + 1)) ∧ w.heap.size + 4 ≤ W.heap.size)
        (fun v b o _ W a cap i Wi => Mid v b o W a cap i Wi ∧ Rec Wi ∧ Boxed Wi W1.heap.size 79 (.func (.yield l) #[] #[]) ∧ Boxed Wi (W1.heap.size + 1) 79 (downPV W1.heap.size (W1.heap.size + 1)) ∧ w.heap.size + 4 ≤ Wi.heap.size ∧ Kp T W Wi)
        (fun v b o _ W W' => Post v b o W W' ∧ Rec W' ∧ Kp T W W' ∧ w.heap.size + 4 ≤ W'.heap.size)
        (fun _ _ _ _ _ _ => False)
        hrank (fun v b o d W h => h.2.2.1.cell) ?_ ?_ ?_ ?_ (rank v0 + 1) v0 (by omega) (n - 1 - 1) b0 o0 1 W2 ?_
      · refine key.mono ?_
        rintro e W' (⟨rfl, h1, h2, -⟩ | ⟨rfl, h⟩)
        · exact ⟨true, rfl, rfl, ⟨W2, hBW, by omega, h1⟩, h2⟩
        · exact h.elim
      · rintro v b o d W ⟨h1, h5, h6, h7, h8⟩
        refine YieldAt.mono (hY 0 ⟨d, b, o, v⟩ W ⟨h1, h8, ⟨_, by rw [show w.heap.size + 2 = W1.heap.size by omega]; exact h6⟩, _, by rw [show w.heap.size + 3 = W1.heap.size + 1 by omega]; exact h7⟩ h5) ?_
        rintro e W' (⟨rfl, ⟨k1, k2, k3⟩, k4, -⟩ | ⟨rfl, c, k1, k2⟩)
        · obtain ⟨a', cap', hm⟩ := hM _ _ _ _ _ h1 k2
          exact .inl ⟨rfl, a', cap', hm, k4, k1.boxed (by rw [hT]; exact .inl (by omega)) h6, k1.boxed (by rw [hT]; exact .inr (by omega)) h7, k3, k1⟩
        · exact k1.elim
      · rintro v b o d W a' cap' i Wi ⟨h1, h5, h6, h7, h8, h9⟩
        obtain ⟨q1, q2⟩ := hL _ _ _ _ _ _ _ _ h1
        exact ⟨q1, q2, h7.cell⟩
      · rintro v b o d W a' cap' i Wi ⟨h1, h5, h6, h7, h8, h9⟩ hi
        obtain ⟨b', o', ea, hp, hq⟩ := hC _ _ _ _ _ _ _ _ h1 hi
        refine ⟨b', o', ea, ⟨hp, hrec Wi Wi.drew ⟨Nat.le_refl _, fun _ _ _ h _ => h⟩ h5, h6, h7, h8⟩, ?_, fun W' h => h⟩
        rintro W' ⟨k1, k2, k3, k4⟩
        have kk : Kp T Wi W' := k3
        exact ⟨hq W' k1, k2, kk.boxed (by rw [hT]; exact .inl (by omega)) h6, kk.boxed (by rw [hT]; exact .inr (by omega)) h7, k4, h9.trans kk⟩
      · rintro v b o d W a' cap' Wi ⟨h1, h5, h6, h7, h8, h9⟩
        exact ⟨hE _ _ _ _ _ _ _ h1, h5, h9, h8⟩
      · refine ⟨h0 W2 hBW (by omega), hrec W1 W2 ⟨by omega, fun k o hk ho _ => ?_⟩ hrec1, by2, bd2, by omega⟩
        exact (hB2.block k (Array.getElem?_eq_some_iff.1 ho).1).trans ho
    · rintro e W' ⟨hv, r, -, h1, h2⟩
      exact ⟨hv, .inl ⟨h1, h2⟩⟩
end Go.Proofs.Ytjclelmbpmlioaa
namespace Go.Proofs.Ytjclelmbpmlioaa
open Go.RowKit

/-- The cells of some nodes, one behind the other. -/
def rowP (c : Nat → Pt) : Nat → List Value
  | 0 => []
  | n + 1 => rowP c n ++ (c n).cells.toList
theorem rowP_len (c : Nat → Pt) : ∀ n, (rowP c n).length = n * 6
  | 0 => rfl
  | n + 1 => by rw [rowP, List.length_append, rowP_len c n]; simp; omega
theorem rowP_get (c : Nat → Pt) : ∀ n i j, i < n → j < 6 → (rowP c n)[i * 6 + j]? = (c i).cells[j]?
  | 0, _, _, h, _ => by omega
  | n + 1, i, j, h, hj => by
    rw [rowP]
    by_cases e : i = n
    · subst e
      rw [List.getElem?_append_right (by rw [rowP_len]; omega), rowP_len, show i * 6 + j - i * 6 = j by omega]
      simp
    · rw [List.getElem?_append_left (by rw [rowP_len]; omega)]
      exact rowP_get c n i j (by omega) hj
theorem rowP_one (c : Nat → Pt) : ∀ n, ∀ u ∈ rowP c n, u.oneCell' = true
  | 0, u, h => by simp [rowP] at h
  | n + 1, u, h => by
    rw [rowP, List.mem_append] at h
    rcases h with h | h
    · exact rowP_one c n u h
    · simp at h
      rcases h with rfl | rfl | rfl | rfl | rfl | rfl <;> rfl
theorem rowP_congr {c d : Nat → Pt} : ∀ {n : Nat}, (∀ i, i < n → c i = d i) → rowP c n = rowP d n
  | 0, _ => rfl
  | n + 1, h => by rw [rowP, rowP, rowP_congr fun i hi => h i (by omega), h n (by omega)]
/-- Nodes, one behind the other, as cells. -/
theorem nodesP_cells {w : World} {b o n : Nat} {c : Nat → Pt} (h : ∀ i, i < n → NodeP w b (o + i * 6) (c i)) : ∀ j u, (rowP c n)[j]? = some u → w.cell? ((Addr.mk b o none).add j) = some u := by
  intro j u hu
  have hj : j < n * 6 := by have := (List.getElem?_eq_some_iff.1 hu).1; rwa [rowP_len] at this
  have hi : j / 6 < n := by omega
  have hm : j % 6 < 6 := Nat.mod_lt _ (by omega)
  have he : j / 6 * 6 + j % 6 = j := by omega
  have := rowP_get c n (j / 6) (j % 6) hi hm
  rw [he, hu] at this
  rw [add_none]
  obtain ⟨d0, d1, d2, d3, d4, d5⟩ := h (j / 6) hi
  obtain ⟨m, hm'⟩ : ∃ m, m = j % 6 := ⟨_, rfl⟩
  rw [← hm'] at this hm he
  rw [show o + j = o + j / 6 * 6 + m by omega]
  match m, hm with
  | 0, _ => simp at this; rw [this]; exact d0
  | 1, _ => simp at this; rw [this]; exact d1
  | 2, _ => simp at this; rw [this]; exact d2
  | 3, _ => simp at this; rw [this]; exact d3
  | 4, _ => simp at this; rw [this]; exact d4
  | 5, _ => simp at this; rw [this]; exact d5
/-- A block of cells that may be written. -/
def FreeP (w : World) (b : Nat) : Prop := ∃ cur, w.heap[b]? = some (.cells cur 24 (0, 0))
theorem FreeP.frozen {w : World} {b : Nat} (h : FreeP w b) (o : Nat) : w.frozen? ⟨b, o, none⟩ = false := by
  obtain ⟨cur, h⟩ := h
  simp [World.frozen?, h]
/-- A row that a call owns, node by node. -/
theorem ownP_nodes {w : World} {base n : Nat} {v : Value} {c : Nat → Pt} (h : w.ownsRow base 24 6 v n (rowP c n)) :
    ∃ a cap, v = .slice a n cap ∧ n ≤ cap ∧ cap ≤ maxLen ∧ (0 < n → ∃ g, a = some ⟨g, 0, none⟩ ∧ base ≤ g ∧ g < w.heap.size ∧ FreeP w g ∧ ∀ i, i < n → NodeP w g (i * 6) (c i)) := by
  rcases h.2 with ⟨rfl, rfl⟩ | ⟨g, cap, cur, rfl, hg, hc, hnc, hcm, hs, ht⟩
  · exact ⟨none, 0, rfl, Nat.le_refl _, Nat.zero_le _, fun h => by omega⟩
  · refine ⟨_, cap, rfl, hnc, hcm, fun h0 => ⟨g, rfl, hg, (Array.getElem?_eq_some_iff.1 hc).1, ⟨cur, hc⟩, fun i hi => ?_⟩⟩
    have key : ∀ j, j < 6 → w.cell? ⟨g, i * 6 + j, none⟩ = (c i).cells[j]? := by
      intro j hj
      rw [← rowP_get c n i j hi hj, ← ht, List.getElem?_take_of_lt (by omega)]
      simp only [World.cell?, hc]
      rw [Array.getElem?_toList]
      rfl
    exact ⟨key 0 (by omega), key 1 (by omega), key 2 (by omega), key 3 (by omega), key 4 (by omega), key 5 (by omega)⟩
theorem infoP : (Try.prog.info? 24).map (fun i => (i.zero, i.size, i.bytes)) = some (some (.agg #[.int .i64 0, .string ⟨#[]⟩, .string ⟨#[]⟩, .int .i64 0, .int .i64 0, .slice none 0 0]), 6, 80) := by kernel_rfl
/-- Some nodes more behind a row that the call owns. -/
theorem push_p {w : World} {base n : Nat} {v : Value} {xs : List Value} (h : w.ownsRow base 24 6 v n xs) (hb : base ≤ w.heap.size) (p : Addr) (m k : Nat) (c : Nat → Pt) (hm : ∀ i, i < m → ∃ b o, p = ⟨b, o, none⟩ ∧ NodeP w b (o + i * 6) (c i)) (hn : n + m ≤ 1759218604390) :
    ∃ v' w', (Builtin.append_ #[22, 22] 22 #[v, .slice (some p) m k]).run Try.prog w = .ok v' w' ∧ w'.ownsRow base 24 6 v' (n + m) (xs ++ rowP c m) ∧ w.grownBy w' v.ownBlock := by
  obtain ⟨i0, hi, hz0, hz1, hz2⟩ := info_parts infoP
  obtain ⟨v', w', hrun, hown', hgrow, _⟩ := run_append_own (P := Try.prog) (w := w) base 22 22 24 i0 _ 6 80 Try.underlying22 hi hz0 hz1 hz2 rfl (by decide) v n xs h p m k (rowP c m) (rowP_len c m)
    (fun j u hu => by
      have h0 : 0 < m := by
        have := (List.getElem?_eq_some_iff.1 hu).1
        rw [rowP_len] at this
        omega
      obtain ⟨b, o, rfl, _⟩ := hm 0 h0
      refine nodesP_cells (fun i hi => ?_) j u hu
      obtain ⟨b', o', e, hn'⟩ := hm i hi
      cases e
      exact hn') (rowP_one c m) (by unfold maxLen; omega) (by omega) hb
  exact ⟨v', w', hrun, hown', hgrow⟩
set_option maxRecDepth 100000 in
set_option maxHeartbeats 2000000 in
theorem cloneP_wide (a : Option Addr) (n cap : Nat) (c : Nat → Pt) (w : World) (h : ∀ i, i < n → ∃ b o, a = some ⟨b, o, none⟩ ∧ NodeP w b (o + i * 6) (c i)) (hn : n ≤ 1759218604390) :
    Calls Try.prog 42 #[.slice a n cap] w fun e w' => ∃ v, e = .returned v ∧ w'.ownsRow w.heap.size 24 6 v n (rowP c n) ∧ Below w.heap.size w w' := by
  cases a with
  | none =>
    obtain rfl : n = 0 := by
      by_cases h0 : 0 < n
      · obtain ⟨_, _, e, _⟩ := h 0 h0
        cases e
      · omega
    clear h
    have he : ∀ w : World, (binOp .eql 22 (.slice none 0 cap) (.slice none 0 0)).run Try.prog w = .ok (.bool true) w := fun _ => rfl
    go_enter Try.func42, Try.ntmps42
    go_wp2
    go_ret
    exact ⟨_, rfl, World.ownsRow_nil _ _ _ _, Below.refl _ _⟩
  | some x =>
    have hB0 : Below w.heap.size w (w.alloc (.cells #[] 24)) := (Below.refl _ _).alloc (Nat.le_refl _) _
    have hown0 : (w.alloc (.cells #[] 24)).ownsRow w.heap.size 24 6 (.slice (some ⟨w.heap.size, 0, none⟩) 0 0) 0 [] :=
      ⟨rfl, .inr ⟨w.heap.size, 0, #[], rfl, Nat.le_refl _, alloc_new w _, Nat.le_refl _, Nat.zero_le _, rfl, rfl⟩⟩
    obtain ⟨v1, w1, hrun1, hown1, hg1⟩ := push_p hown0 (by simp) x n cap c (fun i hi => by
      obtain ⟨b', o', e, hn'⟩ := h i hi
      cases e
      exact ⟨b', o', rfl, hn'.later hB0⟩) (by omega)
    simp only [Nat.zero_add, List.nil_append] at hown1
    have hB1 : Below w.heap.size w w1 := hB0.grown hg1 (by simp) (by intro k hk; simp [Value.ownBlock] at hk; omega)
    have HR1 : Hid (_ = _) := hrun1
    clear h hown0 hB0 hg1 hrun1
    have he : ∀ w : World, (binOp .eql 22 (.slice (some x) n cap) (.slice none 0 0)).run Try.prog w = .ok (.bool false) w := fun _ => rfl
    go_enter Try.func42, Try.ntmps42
    go_wp2_with (first | (at_builtin; refine wpList_append_run rfl (.tmp 5) (.tmp 6) 22 rfl _ _ _ rfl rfl HR1.out ?_))
    go_ret
    exact ⟨_, rfl, hown1, hB1⟩
end Go.Proofs.Ytjclelmbpmlioaa
namespace Go.Proofs.Ytjclelmbpmlioaa
open Go.RowKit

/-- The blocks in which a pattern's parts lie. -/
def inP (k : Nat) : Pt → Prop
  | .nil => False
  | .mk _ _ _ _ _ a n _ c => (0 < n ∧ ∃ o, a = some ⟨k, o, none⟩) ∨ ∃ i, i < n ∧ inP k (c i)
theorem inP_eq (k : Nat) (x : Pt) : inP k x ↔ (0 < x.n ∧ ∃ o, x.a = some ⟨k, o, none⟩) ∨ ∃ i, i < x.n ∧ inP k (x.c i) := by
  cases x with
  | nil => simp [inP, Pt.n]
  | mk => rfl
/-- It lies apart. -/
def PA (w : World) : Pt → Prop
  | .nil => True
  | .mk _ _ _ _ _ a n cap c => n ≤ cap ∧ cap ≤ 9223372036854775807 ∧ ∀ i, i < n → ∃ b, a = some ⟨b, 0, none⟩ ∧ FreeP w b ∧ NodeP w b (i * 6) (c i) ∧ PA w (c i) ∧ ¬ inP b (c i) ∧ ∀ j, j < n → j ≠ i → ∀ k, inP k (c i) → ¬ inP k (c j)
theorem pA_eq (w : World) (x : Pt) : PA w x ↔ x.n ≤ x.cap ∧ x.cap ≤ 9223372036854775807 ∧ ∀ i, i < x.n → ∃ b, x.a = some ⟨b, 0, none⟩ ∧ FreeP w b ∧ NodeP w b (i * 6) (x.c i) ∧ PA w (x.c i) ∧ ¬ inP b (x.c i) ∧ ∀ j, j < x.n → j ≠ i → ∀ k, inP k (x.c i) → ¬ inP k (x.c j) := by
  cases x with
  | nil => simp [PA, Pt.n, Pt.cap]
  | mk => rfl
theorem PA.is {w : World} : ∀ {x : Pt}, PA w x → IsP w x := by
  refine @(Pt.ind fun x ih hx => ?_)
  rw [pA_eq] at hx
  rw [isP_eq]
  refine ⟨hx.1, hx.2.1, fun i hi => ?_⟩
  obtain ⟨b, e, _, hn, hc, _⟩ := hx.2.2 i hi
  exact ⟨b, 0, e, by simpa using hn, ih i hi hc⟩
theorem FreeP.kept {T : Nat → Prop} {W W' : World} (h : Kp T W W') {b : Nat} (hb : T b) (hf : FreeP W b) : FreeP W' b := by
  obtain ⟨cur, hc⟩ := hf
  exact ⟨cur, h b _ hb rfl hc⟩
theorem FreeP.lt {w : World} {b : Nat} (h : FreeP w b) : b < w.heap.size := by
  obtain ⟨cur, hc⟩ := h
  exact (Array.getElem?_eq_some_iff.1 hc).1
theorem FreeP.ne {w : World} {b k : Nat} {t : TypeId} {u : Value} (h : FreeP w b) (hb : Boxed w k t u) (ht : t ≠ 24) : b ≠ k := by
  rintro rfl
  obtain ⟨cur, hc⟩ := h
  have hb' : w.heap[b]? = some (.cells #[u] t (0, 0)) := hb
  rw [hc] at hb'
  injection hb' with e
  injection e with _ e2
  exact ht e2.symm
theorem PA.kept {T : Nat → Prop} {W W' : World} (h : Kp T W W') : ∀ {x : Pt}, (∀ k, inP k x → T k) → PA W x → PA W' x := by
  refine @(Pt.ind fun x ih hT hx => ?_)
  rw [pA_eq] at hx ⊢
  refine ⟨hx.1, hx.2.1, fun i hi => ?_⟩
  obtain ⟨b, e, hf, hn, hc, hr⟩ := hx.2.2 i hi
  have hb : T b := hT b ((inP_eq _ _).2 (.inl ⟨by omega, 0, e⟩))
  exact ⟨b, e, hf.kept h hb, hn.kept h hb, ih i hi (fun k hk => hT k ((inP_eq _ _).2 (.inr ⟨i, hi, hk⟩))) hc, hr⟩
theorem inP_lt {w : World} {k : Nat} : ∀ {x : Pt}, PA w x → inP k x → k < w.heap.size := by
  refine @(Pt.ind fun x ih hx hk => ?_)
  rw [pA_eq] at hx
  rcases (inP_eq _ _).1 hk with ⟨h0, o, e⟩ | ⟨i, hi, hk⟩
  · obtain ⟨b, e', hf, _⟩ := hx.2.2 0 h0
    rw [e] at e'
    cases e'
    exact hf.lt
  · obtain ⟨b, e', _, _, hc, _⟩ := hx.2.2 i hi
    exact ih i hi hc hk
theorem PA.later {w w' : World} {x : Pt} (hB : Below w.heap.size w w') (h : PA w x) : PA w' x :=
  h.kept (T := fun k => k < w.heap.size) (Kp.of_below hB fun _ hk => hk) fun _ hk => inP_lt h hk
theorem PA.ag {B : Nat} {W A : World} (h : Ag B W A) {x : Pt} (hx : PA W x) : PA A x := hx.kept (T := fun _ => True) (fun k o _ ho e => (h.cells k o ho).2 e) fun _ _ => trivial
theorem FreeP.ag {B : Nat} {W A : World} (h : Ag B W A) {b : Nat} (hf : FreeP W b) : FreeP A b := by
  obtain ⟨cur, hc⟩ := hf
  exact ⟨cur, (h.cells _ _ rfl).2 hc⟩
theorem FreeP.set {W : World} {k b o : Nat} {v : Value} (hf : FreeP W k) : FreeP (W.setCell ⟨b, o, none⟩ v) k := by
  obtain ⟨cur, hc⟩ := hf
  by_cases e : k = b
  · subst e
    refine ⟨cur.setIfInBounds o v, ?_⟩
    simp only [World.setCell, Array.getElem?_modify, if_pos, hc]
    rfl
  · exact ⟨cur, (Below.heap_setCell W ⟨b, o, none⟩ v k e).trans hc⟩
/-- What stays: all blocks but b and those in S; in b all cells but one; what may be written. -/
structure KbP (b j0 : Nat) (S : Nat → Prop) (W W' : World) : Prop where
  oth : Kp (fun k => k ≠ b ∧ ¬ S k) W W'
  own : ∀ j u, j ≠ j0 → W.cell? ⟨b, j, none⟩ = some u → W'.cell? ⟨b, j, none⟩ = some u
  free : ∀ k, FreeP W k → FreeP W' k
  size : W.heap.size ≤ W'.heap.size
theorem KbP.node {b j0 : Nat} {S : Nat → Prop} {W W' : World} (h : KbP b j0 S W W') {k o : Nat} {x : Pt} (hk : k ≠ b) (hS : ¬ S k) (hn : NodeP W k o x) : NodeP W' k o x := hn.kept h.oth ⟨hk, hS⟩
theorem KbP.near {b j0 : Nat} {S : Nat → Prop} {W W' : World} (h : KbP b j0 S W W') {o : Nat} {x : Pt} (ho : ∀ t, t < 6 → o + t ≠ j0) (hn : NodeP W b o x) : NodeP W' b o x :=
  ⟨h.own _ _ (ho 0 (by omega)) hn.1, h.own _ _ (ho 1 (by omega)) hn.2.1, h.own _ _ (ho 2 (by omega)) hn.2.2.1, h.own _ _ (ho 3 (by omega)) hn.2.2.2.1, h.own _ _ (ho 4 (by omega)) hn.2.2.2.2.1, h.own _ _ (ho 5 (by omega)) hn.2.2.2.2.2⟩
theorem KbP.set (b j0 : Nat) (S : Nat → Prop) (W : World) (v : Value) : KbP b j0 S W (W.setCell ⟨b, j0, none⟩ v) :=
  ⟨fun k _ hk _ e => (Below.heap_setCell W ⟨b, j0, none⟩ v k hk.1).trans e, fun j u hj hc => (World.cell?_setCell_other _ _ _ _ (by intro e; cases e; exact hj rfl)).trans hc, fun _ hf => hf.set, Nat.le_of_eq (World.size_setCell ..).symm⟩
theorem KbP.of_below (b j0 : Nat) (S : Nat → Prop) {W W' : World} (h : Below W.heap.size W W') : KbP b j0 S W W' :=
  ⟨fun k o _ _ e => (h.block k (Array.getElem?_eq_some_iff.1 e).1).trans e,
   fun j u _ hc => by
    obtain ⟨o, ho, _⟩ := cells_of_cell hc
    exact (h.cell (p := ⟨b, j, none⟩) (Array.getElem?_eq_some_iff.1 ho).1).trans hc,
   fun k hf => by
    have hl := hf.lt
    obtain ⟨cur, hc⟩ := hf
    exact ⟨cur, (h.block k hl).trans hc⟩, h.size⟩
theorem KbP.refl (b j0 : Nat) (S : Nat → Prop) (W : World) : KbP b j0 S W W := .of_below b j0 S (Below.refl _ _)
theorem KbP.trans {b j0 : Nat} {S : Nat → Prop} {A B C : World} (h : KbP b j0 S A B) (g : KbP b j0 S B C) : KbP b j0 S A C :=
  ⟨h.oth.trans g.oth, fun j u hj hc => g.own j u hj (h.own j u hj hc), fun k hf => g.free k (h.free k hf), Nat.le_trans h.size g.size⟩
theorem KbP.mono {b j0 : Nat} {S S' : Nat → Prop} {W W' : World} (h : KbP b j0 S W W') (hS : ∀ k, S k → S' k) : KbP b j0 S' W W' := ⟨h.oth.mono fun k hk => ⟨hk.1, fun hs => hk.2 (hS k hs)⟩, h.own, h.free, h.size⟩
theorem KbP.ag {B b j0 : Nat} {S : Nat → Prop} {W A A' W' : World} (h : Ag B W A) (h' : Ag B A' W') (g : KbP b j0 S A A') : KbP b j0 S W W' :=
  ⟨Kp.ag h h' g.oth, fun j u hj hc => (h'.cell _).trans (g.own j u hj ((h.cell _).trans hc)), fun k hf => (g.free k (hf.ag h)).ag h', by rw [h'.size, ← h.size]; exact g.size⟩
/-- What was done to a part in block g is done to the whole, if g is among what may change or was not there. -/
theorem KbP.part {b j0 g j1 : Nat} {S S' : Nat → Prop} {W Wi W' : World} (h : KbP b j0 S W Wi) (f : KbP g j1 S' Wi W') (hg : S g ∨ W.heap.size ≤ g) (hS : ∀ k, S' k → S k ∨ W.heap.size ≤ k) (_ : b < W.heap.size) (hb1 : b ≠ g) (hb2 : ¬ S' b) : KbP b j0 S W W' := by
  refine ⟨fun k o hk ho e => ?_, fun j u hj hc => ?_, fun k hf => f.free k (h.free k hf), Nat.le_trans h.size f.size⟩
  · have hl : k < W.heap.size := (Array.getElem?_eq_some_iff.1 e).1
    refine f.oth k o ⟨?_, ?_⟩ ho (h.oth k o hk ho e)
    · rintro rfl
      rcases hg with hg | hg
      · exact hk.2 hg
      · omega
    · intro hs
      rcases hS k hs with h1 | h1
      · exact hk.2 h1
      · omega
  · exact f.oth.cell (p := ⟨b, j, none⟩) ⟨hb1, hb2⟩ (h.own j u hj hc)
/-- The same node with its parts elsewhere. -/
abbrev Pt.at (v : Pt) (a : Option Addr) (cap : Nat) (c : Nat → Pt) : Pt := .mk v.k v.s v.t v.lo v.hi a v.n cap c
theorem NodeP.at {w : World} {b o : Nat} {v : Pt} {a : Option Addr} {cap : Nat} {c c' : Nat → Pt} (h : NodeP w b o (v.at a cap c)) : NodeP w b o (v.at a cap c') := h
end Go.Proofs.Ytjclelmbpmlioaa
