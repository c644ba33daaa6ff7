/-
  Patterns (api.Pat) as trees: how many nodes, how deep, which are the same, with other names; plain facts, of no function.
  Patterns as they lie in memory; of no function.
  The closure of expr.nodes that goes down (nodes$1$1), for whatever is done at the nodes.
  expr.nodes: a range over all nodes of a pattern that changes none of them.
-/
import Derived.Test.YtfnfegcjgnbgbaaGreatDoorTTrees
import Derived.BigQuiet
import Derived.RangeFuncNested
import Derived.RangeFuncBound
import Derived.RangeFuncCalls
import Derived.RangeFuncLeaves
import Derived.RangeFuncBox
import Derived.Shelf.Abstract
import Derived.Shelf.RegionOpen
import Derived.WalkKit
import Derived.OwnWalkIn
import Derived.TacticsInMore
import Derived.LoopNIn
import Derived.LoopIn
import Derived.Laws.EntriesVeiled
namespace Go.Proofs.YtfnfegcjgnbgbaaGreatDoor
open Go.RowKit

/-- A pattern: its kind, Var and Type, Lo and Hi; its parts' slice (where it lies, how many, how much room) and the parts. -/
inductive Pt where
  | nil : Pt
  | mk (k : Int) (s t : ByteArray) (lo hi : Int) (a : Option Addr) (n cap : Nat) (c : Nat → Pt) : Pt
def Pt.k : Pt → Int | .nil => 0 | .mk k .. => k
def Pt.s : Pt → ByteArray | .nil => ⟨#[]⟩ | .mk _ s .. => s
def Pt.t : Pt → ByteArray | .nil => ⟨#[]⟩ | .mk _ _ t .. => t
def Pt.lo : Pt → Int | .nil => 0 | .mk _ _ _ lo .. => lo
def Pt.hi : Pt → Int | .nil => 0 | .mk _ _ _ _ hi .. => hi
def Pt.a : Pt → Option Addr | .nil => none | .mk _ _ _ _ _ a .. => a
def Pt.n : Pt → Nat | .nil => 0 | .mk _ _ _ _ _ _ n .. => n
def Pt.cap : Pt → Nat | .nil => 0 | .mk _ _ _ _ _ _ _ cap _ => cap
def Pt.c : Pt → Nat → Pt | .nil => fun _ => .nil | .mk _ _ _ _ _ _ _ _ c => c
theorem Pt.ind {P : Pt → Prop} (h : ∀ x, (∀ i, i < x.n → P (x.c i)) → P x) : ∀ x, P x
  | .nil => h .nil fun _ hi => absurd hi (Nat.not_lt_zero _)
  | .mk k s t lo hi a n cap c => h (.mk k s t lo hi a n cap c) fun i _ => Pt.ind h (c i)
def Pt.size : Pt → Nat
  | .nil => 1
  | .mk _ _ _ _ _ _ n _ c => 1 + sumN (fun i => (c i).size) n
def Pt.deep : Pt → Nat
  | .nil => 1
  | .mk _ _ _ _ _ _ n _ c => maxN (fun i => (c i).deep) n + 1
theorem Pt.size_eq (x : Pt) : x.size = 1 + sumN (fun i => (x.c i).size) x.n := by cases x <;> rfl
theorem Pt.deep_eq (x : Pt) : x.deep = maxN (fun i => (x.c i).deep) x.n + 1 := by cases x <;> rfl
theorem Pt.size_part (x : Pt) (i : Nat) (h : i < x.n) : (x.c i).size < x.size := by
  have := sumN_le (f := fun i => (x.c i).size) h
  rw [x.size_eq]
  omega
theorem Pt.size_pos (x : Pt) : 1 ≤ x.size := by rw [x.size_eq]; omega
theorem sumN_congr {f g : Nat → Nat} : ∀ {n : Nat}, (∀ i, i < n → f i = g i) → sumN f n = sumN g n
  | 0, _ => rfl
  | n + 1, h => by simp only [sumN]; rw [sumN_congr fun i hi => h i (by omega), h n (by omega)]
theorem maxN_lt {f : Nat → Nat} {m : Nat} (hm : 0 < m) : ∀ {n : Nat}, (∀ i, i < n → f i < m) → maxN f n < m
  | 0, _ => hm
  | n + 1, h => by
    have h1 := maxN_lt hm (n := n) fun i hi => h i (by omega)
    have h2 := h n (by omega)
    simp only [maxN]
    omega
theorem Pt.deep_part (x : Pt) (i : Nat) (h : i < x.n) : (x.c i).deep < x.deep := by
  have := maxN_le (f := fun i => (x.c i).deep) h
  rw [x.deep_eq]
  omega
theorem Pt.deep_size : ∀ x : Pt, x.deep ≤ x.size := by
  refine Pt.ind fun x ih => ?_
  rw [x.deep_eq]
  have := maxN_lt (f := fun i => (x.c i).deep) (n := x.n) x.size_pos fun i hi => by have := ih i hi; have := x.size_part i hi; show (x.c i).deep < x.size; omega
  omega
/-- Are all of the first so? -/
def allN (f : Nat → Bool) : Nat → Bool
  | 0 => true
  | n + 1 => allN f n && f n
theorem allN_true {f : Nat → Bool} : ∀ {n : Nat}, allN f n = true ↔ ∀ i, i < n → f i = true
  | 0 => by simp [allN]
  | n + 1 => by
    simp only [allN, Bool.and_eq_true, allN_true]
    constructor
    · rintro ⟨h1, h2⟩ i hi
      by_cases e : i = n
      · exact e ▸ h2
      · exact h1 i (by omega)
    · exact fun h => ⟨fun i hi => h i (by omega), h n (by omega)⟩
theorem allN_false {f : Nat → Bool} {n i : Nat} (hi : i < n) (h : f i = false) : allN f n = false := by
  rw [Bool.eq_false_iff]
  intro e
  rw [allN_true.1 e i hi] at h
  cases h
/-- Same's answer. -/
def sameP : Pt → Pt → Bool
  | .nil, y => decide (0 = y.k) && (decide ((⟨#[]⟩ : ByteArray) = y.s) && (decide ((⟨#[]⟩ : ByteArray) = y.t) && (decide (0 = y.lo) && (decide (0 = y.hi) && (decide (0 = y.n) && true)))))
  | .mk k s t lo hi _ n _ c, y => decide (k = y.k) && (decide (s = y.s) && (decide (t = y.t) && (decide (lo = y.lo) && (decide (hi = y.hi) && (decide (n = y.n) && allN (fun i => sameP (c i) (y.c i)) n)))))
theorem sameP_eq (x y : Pt) : sameP x y = (decide (x.k = y.k) && (decide (x.s = y.s) && (decide (x.t = y.t) && (decide (x.lo = y.lo) && (decide (x.hi = y.hi) && (decide (x.n = y.n) && allN (fun i => sameP (x.c i) (y.c i)) x.n)))))) := by
  cases x <;> rfl
/-- They are the same. -/
def Sm (x y : Pt) : Prop := sameP x y = true
theorem sm_iff (x y : Pt) : Sm x y ↔ x.k = y.k ∧ x.s = y.s ∧ x.t = y.t ∧ x.lo = y.lo ∧ x.hi = y.hi ∧ x.n = y.n ∧ ∀ i, i < x.n → Sm (x.c i) (y.c i) := by
  unfold Sm
  rw [sameP_eq]
  simp only [Bool.and_eq_true, decide_eq_true_eq, allN_true]
theorem Sm.refl : ∀ x : Pt, Sm x x := by
  refine Pt.ind fun x ih => ?_
  exact (sm_iff _ _).2 ⟨rfl, rfl, rfl, rfl, rfl, rfl, ih⟩
theorem Sm.symm : ∀ {x y : Pt}, Sm x y → Sm y x := by
  refine @(Pt.ind fun x ih y h => ?_)
  obtain ⟨h1, h2, h3, h4, h5, h6, h7⟩ := (sm_iff _ _).1 h
  exact (sm_iff _ _).2 ⟨h1.symm, h2.symm, h3.symm, h4.symm, h5.symm, h6.symm, fun i hi => ih i (by omega) (h7 i (by omega))⟩
theorem Sm.trans : ∀ {x y z : Pt}, Sm x y → Sm y z → Sm x z := by
  refine @(Pt.ind fun x ih y z h g => ?_)
  obtain ⟨h1, h2, h3, h4, h5, h6, h7⟩ := (sm_iff _ _).1 h
  obtain ⟨g1, g2, g3, g4, g5, g6, g7⟩ := (sm_iff _ _).1 g
  exact (sm_iff _ _).2 ⟨h1.trans g1, h2.trans g2, h3.trans g3, h4.trans g4, h5.trans g5, h6.trans g6, fun i hi => ih i hi (h7 i hi) (g7 i (by omega))⟩
/-- What is the same for the same is told alike. -/
theorem sameP_congr {x x' y y' : Pt} (h : Sm x x') (g : Sm y y') : sameP x y = sameP x' y' := by
  rw [Bool.eq_iff_iff]
  exact ⟨fun e => h.symm.trans (Sm.trans e g), fun e => h.trans (Sm.trans e g.symm)⟩
/-- Has its kind a Var? -/
def nmd (k : Int) : Bool := k == 1 || k == 5 || k == 6
/-- The nodes that have a Var, in the order in which they stand. -/
def usesP : Pt → List Pt
  | .nil => []
  | .mk k s t lo hi a n cap c => (if nmd k = true then [.mk k s t lo hi a n cap c] else []) ++ catN (fun i => usesP (c i)) n
theorem usesP_eq (x : Pt) : usesP x = (if nmd x.k = true then [x] else []) ++ catN (fun i => usesP (x.c i)) x.n := by cases x <;> rfl
/-- All nodes in their order, each with how many lie on the way down to it. -/
def visP (d : Nat) : Pt → List (Nat × Pt)
  | .nil => [(d, .nil)]
  | .mk k s t lo hi a n cap c => (d, .mk k s t lo hi a n cap c) :: catN (fun i => visP (d + 1) (c i)) n
theorem visP_eq (d : Nat) (x : Pt) : visP d x = (d, x) :: catN (fun i => visP (d + 1) (x.c i)) x.n := by cases x <;> rfl
theorem catN_split {α : Type} (f : Nat → List α) : ∀ {n i : Nat}, i < n → ∃ r, catN f n = catN f i ++ (f i ++ r)
  | 0, _, h => by omega
  | n + 1, i, h => by
    by_cases e : i = n
    · subst e; exact ⟨[], by simp [catN]⟩
    · obtain ⟨r, hr⟩ := catN_split f (show i < n by omega)
      exact ⟨r ++ f n, by rw [catN, hr]; simp⟩
theorem catN_congr {α : Type} {f g : Nat → List α} : ∀ {n : Nat}, (∀ i, i < n → f i = g i) → catN f n = catN g n
  | 0, _ => rfl
  | n + 1, h => by rw [catN, catN, catN_congr fun i hi => h i (by omega), h n (by omega)]
theorem catN_map {α β : Type} (g : α → β) (f : Nat → List α) : ∀ n, (catN f n).map g = catN (fun i => (f i).map g) n
  | 0 => rfl
  | n + 1 => by rw [catN, catN, List.map_append, catN_map g f n]
theorem catN_filter {α : Type} (g : α → Bool) (f : Nat → List α) : ∀ n, (catN f n).filter g = catN (fun i => (f i).filter g) n
  | 0 => rfl
  | n + 1 => by rw [catN, catN, List.filter_append, catN_filter g f n]
theorem length_visP : ∀ (x : Pt) (d : Nat), (visP d x).length = x.size := by
  refine Pt.ind fun x ih d => ?_
  have : ∀ m, m ≤ x.n → (catN (fun i => visP (d + 1) (x.c i)) m).length = sumN (fun i => (x.c i).size) m := by
    intro m
    induction m with
    | zero => intro _; rfl
    | succ m ihm => intro hm; simp only [catN, sumN, List.length_append]; rw [ihm (by omega), ih m (by omega)]
  rw [visP_eq, x.size_eq, List.length_cons, this _ (Nat.le_refl _)]
  omega
/-- Of all nodes those that have a Var. -/
theorem uses_visP : ∀ (x : Pt) (d : Nat), ((visP d x).filter fun v => nmd v.2.k).map (·.2) = usesP x := by
  refine Pt.ind fun x ih d => ?_
  have hc : (catN (fun i => ((visP (d + 1) (x.c i)).filter fun v => nmd v.2.k).map (·.2)) x.n) = catN (fun i => usesP (x.c i)) x.n := catN_congr fun i hi => ih i hi (d + 1)
  rw [visP_eq, usesP_eq, List.filter_cons]
  by_cases h : nmd x.k = true
  · rw [if_pos h, if_pos h, List.map_cons, catN_filter, catN_map, hc]
    rfl
  · rw [if_neg h, if_neg h, catN_filter, catN_map, hc]
    rfl
/-- A property of all nodes. -/
theorem visP_all {P : Nat → Pt → Prop} (h : ∀ d x, P d x → ∀ i, i < x.n → P (d + 1) (x.c i)) : ∀ (x : Pt) (d : Nat), P d x → ∀ v ∈ visP d x, P v.1 v.2 := by
  refine Pt.ind fun x ih d hx v hv => ?_
  rw [visP_eq] at hv
  rcases List.mem_cons.1 hv with rfl | hv
  · exact hx
  · obtain ⟨i, hi, hv⟩ := mem_catN.1 hv
    exact ih i hi (d + 1) (h d x hx i hi) v hv
theorem mem_uses {x y : Pt} : y ∈ usesP x ↔ ∃ d, (d, y) ∈ visP 1 x ∧ nmd y.k = true := by
  rw [← uses_visP x 1]
  simp only [List.mem_map, List.mem_filter]
  constructor
  · rintro ⟨⟨d, z⟩, ⟨h1, h2⟩, rfl⟩
    exact ⟨d, h1, h2⟩
  · rintro ⟨d, h1, h2⟩
    exact ⟨(d, y), ⟨h1, h2⟩, rfl⟩
theorem vis_deep : ∀ (x : Pt) (d : Nat), ∀ v ∈ visP d x, v.1 + v.2.deep ≤ d + x.deep ∧ d ≤ v.1 := by
  refine Pt.ind fun x ih d v hv => ?_
  rw [visP_eq] at hv
  rcases List.mem_cons.1 hv with rfl | hv
  · exact ⟨Nat.le_refl _, Nat.le_refl _⟩
  · obtain ⟨i, hi, hv⟩ := mem_catN.1 hv
    have := ih i hi (d + 1) v hv
    have := x.deep_part i hi
    omega
theorem Pt.deep_pos (x : Pt) : 1 ≤ x.deep := by rw [x.deep_eq]; omega
/-- There is a node at the end of the longest way. -/
theorem vis_deepest : ∀ (x : Pt) (d : Nat), ∃ v ∈ visP d x, v.1 + 1 = d + x.deep := by
  refine Pt.ind fun x ih d => ?_
  by_cases h0 : x.n = 0
  · refine ⟨(d, x), by rw [visP_eq]; simp, ?_⟩
    rw [x.deep_eq, h0]
    rfl
  · have key : ∀ m, m ≤ x.n → 0 < m → ∃ i, i < m ∧ (x.c i).deep = maxN (fun i => (x.c i).deep) m := by
      intro m
      induction m with
      | zero => intro _ h; omega
      | succ m ihm =>
        intro hm _
        by_cases e : m = 0
        · subst e; exact ⟨0, by omega, by simp [maxN]⟩
        · obtain ⟨i, hi, q⟩ := ihm (by omega) (by omega)
          simp only [maxN]
          by_cases hle : maxN (fun i => (x.c i).deep) m ≤ (x.c m).deep
          · exact ⟨m, by omega, by omega⟩
          · exact ⟨i, by omega, by omega⟩
    obtain ⟨i, hi, q⟩ := key x.n (Nat.le_refl _) (by omega)
    obtain ⟨v, hv, hd⟩ := ih i hi (d + 1)
    refine ⟨v, by rw [visP_eq]; exact List.mem_cons_of_mem _ (mem_catN.2 ⟨i, hi, hv⟩), ?_⟩
    rw [x.deep_eq, ← q]
    omega
end Go.Proofs.YtfnfegcjgnbgbaaGreatDoor
namespace Go.Proofs.YtfnfegcjgnbgbaaGreatDoor
open Go.RowKit

abbrev Pt.slice (x : Pt) : Value := .slice x.a x.n x.cap
/-- A pattern as a value. -/
abbrev Pt.val (x : Pt) : Value := .agg #[.int .i64 x.k, .string x.s, .string x.t, .int .i64 x.lo, .int .i64 x.hi, .slice x.a x.n x.cap]
/-- The six cells of a node. -/
def NodeP (w : World) (b o : Nat) (x : Pt) : Prop :=
  w.cell? ⟨b, o, none⟩ = some (.int .i64 x.k) ∧ w.cell? ⟨b, o + 1, none⟩ = some (.string x.s) ∧ w.cell? ⟨b, o + 2, none⟩ = some (.string x.t) ∧ w.cell? ⟨b, o + 3, none⟩ = some (.int .i64 x.lo) ∧
    w.cell? ⟨b, o + 4, none⟩ = some (.int .i64 x.hi) ∧ w.cell? ⟨b, o + 5, none⟩ = some (.slice x.a x.n x.cap)
/-- All that lies below a pattern. -/
def IsP (w : World) : Pt → Prop
  | .nil => True
  | .mk _ _ _ _ _ a n cap c => n ≤ cap ∧ cap ≤ 9223372036854775807 ∧ ∀ i, i < n → ∃ b o, a = some ⟨b, o, none⟩ ∧ NodeP w b (o + i * 6) (c i) ∧ IsP w (c i)
theorem isP_eq (w : World) (x : Pt) : IsP w x ↔ x.n ≤ x.cap ∧ x.cap ≤ 9223372036854775807 ∧ ∀ i, i < x.n → ∃ b o, x.a = some ⟨b, o, none⟩ ∧ NodeP w b (o + i * 6) (x.c i) ∧ IsP w (x.c i) := by
  cases x with
  | nil => simp [IsP, Pt.n, Pt.cap]
  | mk => rfl
theorem IsP.part {w : World} {x : Pt} (h : IsP w x) {i : Nat} (hi : i < x.n) : ∃ b o, x.a = some ⟨b, o, none⟩ ∧ NodeP w b (o + i * 6) (x.c i) ∧ IsP w (x.c i) := ((isP_eq w x).1 h).2.2 i hi
theorem IsP.len {w : World} {x : Pt} (h : IsP w x) : x.n ≤ 9223372036854775807 := by have := (isP_eq w x).1 h; omega
theorem NodeP.of {w w' : World} {b o : Nat} {x : Pt} (h : NodeP w b o x) (hk : ∀ j, j < 6 → w'.cell? ⟨b, o + j, none⟩ = w.cell? ⟨b, o + j, none⟩) : NodeP w' b o x :=
  ⟨(hk 0 (by omega)).trans h.1, (hk 1 (by omega)).trans h.2.1, (hk 2 (by omega)).trans h.2.2.1, (hk 3 (by omega)).trans h.2.2.2.1, (hk 4 (by omega)).trans h.2.2.2.2.1, (hk 5 (by omega)).trans h.2.2.2.2.2⟩
theorem NodeP.lt {w : World} {b o : Nat} {x : Pt} (h : NodeP w b o x) : b < w.heap.size := by
  have h0 := h.1
  simp only [World.cell?] at h0
  by_cases hb : b < w.heap.size
  · exact hb
  · rw [Array.getElem?_eq_none (by omega)] at h0
    cases h0
theorem NodeP.later {w w' : World} {b o : Nat} {x : Pt} (h : NodeP w b o x) (hB : Below w.heap.size w w') : NodeP w' b o x := h.of fun j _ => hB.cell (p := ⟨b, o + j, none⟩) h.lt
theorem IsP.later {w w' : World} (hB : Below w.heap.size w w') : ∀ {x : Pt}, IsP w x → IsP w' x
  | .nil, _ => trivial
  | .mk _ _ _ _ _ _ _ _ c, h => by
    obtain ⟨h1, h2, h3⟩ := h
    refine ⟨h1, h2, fun i hi => ?_⟩
    obtain ⟨b, o, e, hn, hx⟩ := h3 i hi
    exact ⟨b, o, e, hn.later hB, IsP.later hB hx⟩
/-- What lies below n₀ alone. -/
def PIn (n₀ : Nat) (w : World) : Pt → Prop
  | .nil => True
  | .mk _ _ _ _ _ a n cap c => n ≤ cap ∧ cap ≤ 9223372036854775807 ∧ ∀ i, i < n → ∃ b o, a = some ⟨b, o, none⟩ ∧ b < n₀ ∧ NodeP w b (o + i * 6) (c i) ∧ PIn n₀ w (c i)
theorem pIn_eq (n₀ : Nat) (w : World) (x : Pt) : PIn n₀ w x ↔ x.n ≤ x.cap ∧ x.cap ≤ 9223372036854775807 ∧ ∀ i, i < x.n → ∃ b o, x.a = some ⟨b, o, none⟩ ∧ b < n₀ ∧ NodeP w b (o + i * 6) (x.c i) ∧ PIn n₀ w (x.c i) := by
  cases x with
  | nil => simp [PIn, Pt.n, Pt.cap]
  | mk => rfl
theorem IsP.inn {w : World} : ∀ {x : Pt}, IsP w x → PIn w.heap.size w x
  | .nil, _ => trivial
  | .mk _ _ _ _ _ _ _ _ c, h => by
    obtain ⟨h1, h2, h3⟩ := h
    refine ⟨h1, h2, fun i hi => ?_⟩
    obtain ⟨b, o, e, hn, hx⟩ := h3 i hi
    exact ⟨b, o, e, hn.lt, hn, hx.inn⟩
theorem PIn.is {n₀ : Nat} {w : World} : ∀ {x : Pt}, PIn n₀ w x → IsP w x
  | .nil, _ => trivial
  | .mk _ _ _ _ _ _ _ _ c, h => by
    obtain ⟨h1, h2, h3⟩ := h
    refine ⟨h1, h2, fun i hi => ?_⟩
    obtain ⟨b, o, e, _, hn, hx⟩ := h3 i hi
    exact ⟨b, o, e, hn, hx.is⟩
theorem NodeP.below {n₀ : Nat} {w w' : World} {b o : Nat} {x : Pt} (h : NodeP w b o x) (hB : Below n₀ w w') (hb : b < n₀) : NodeP w' b o x := h.of fun j _ => hB.cell (p := ⟨b, o + j, none⟩) hb
theorem PIn.below {n₀ : Nat} {w w' : World} (hB : Below n₀ w w') : ∀ {x : Pt}, PIn n₀ w x → PIn n₀ w' x
  | .nil, _ => trivial
  | .mk _ _ _ _ _ _ _ _ c, h => by
    obtain ⟨h1, h2, h3⟩ := h
    refine ⟨h1, h2, fun i hi => ?_⟩
    obtain ⟨b, o, e, hb, hn, hx⟩ := h3 i hi
    exact ⟨b, o, e, hb, hn.below hB hb, PIn.below hB hx⟩
theorem PIn.mono {n₀ n₁ : Nat} {w : World} (hn : n₀ ≤ n₁) : ∀ {x : Pt}, PIn n₀ w x → PIn n₁ w x
  | .nil, _ => trivial
  | .mk _ _ _ _ _ _ _ _ c, h => by
    obtain ⟨h1, h2, h3⟩ := h
    refine ⟨h1, h2, fun i hi => ?_⟩
    obtain ⟨b, o, e, hb, hn', hx⟩ := h3 i hi
    exact ⟨b, o, e, by omega, hn', PIn.mono hn hx⟩
/-- Texts no longer than texts can be. -/
def POk : Pt → Prop
  | .nil => True
  | .mk _ s t _ _ _ n _ c => s.size ≤ maxLen ∧ t.size ≤ maxLen ∧ ∀ i, i < n → POk (c i)
theorem pOk_eq (x : Pt) : POk x ↔ x.s.size ≤ maxLen ∧ x.t.size ≤ maxLen ∧ ∀ i, i < x.n → POk (x.c i) := by
  cases x with
  | nil => exact ⟨fun _ => ⟨Nat.zero_le _, Nat.zero_le _, fun i hi => absurd hi (Nat.not_lt_zero _)⟩, fun _ => trivial⟩
  | mk => rfl
/-- The six cells of a pattern as one value. -/
abbrev Pt.cells (x : Pt) : Array Value := #[.int .i64 x.k, .string x.s, .string x.t, .int .i64 x.lo, .int .i64 x.hi, .slice x.a x.n x.cap]
theorem nodeP_box {w : World} {B : Nat} {t : TypeId} {x : Pt} (h : w.heap[B]? = some (.cells x.cells t (0, 0))) : NodeP w B 0 x := by
  refine ⟨?_, ?_, ?_, ?_, ?_, ?_⟩ <;> simp [World.cell?, h]
theorem nodeP_new (w : World) (t : TypeId) (x : Pt) : NodeP (w.alloc (.cells x.cells t)) w.heap.size 0 x := nodeP_box (World.alloc_heap_new w _)
theorem NodeP.at0 {w : World} {B : Nat} {x : Pt} (h : NodeP w B 0 x) : w.cell? ⟨B, 0, none⟩ = some (.int .i64 x.k) ∧ w.cell? ⟨B, 1, none⟩ = some (.string x.s) ∧ w.cell? ⟨B, 2, none⟩ = some (.string x.t) ∧ w.cell? ⟨B, 3, none⟩ = some (.int .i64 x.lo) ∧
    w.cell? ⟨B, 4, none⟩ = some (.int .i64 x.hi) ∧ w.cell? ⟨B, 5, none⟩ = some (.slice x.a x.n x.cap) := by
  have := h
  simp only [NodeP, Nat.zero_add] at this
  exact this
/-- The box that holds a pattern stays. -/
theorem nodeP_on {w A W : World} {x : Pt} (hn : NodeP A w.heap.size 0 x) (hB : Below (w.heap.size + 1) A W) : NodeP W w.heap.size 0 x := hn.below hB (by omega)
/-- A pattern in a box of its own. -/
theorem boxP_one (x : Pt) (w : World) : ∃ A, w.alloc (.cells x.cells 24) = A ∧ Below w.heap.size w A ∧ A.heap.size = w.heap.size + 1 ∧ NodeP A w.heap.size 0 x :=
  ⟨_, rfl, (Below.refl _ w).alloc (Nat.le_refl _) _, by simp, nodeP_new w _ x⟩
theorem boxP_two (x y : Pt) (w : World) : ∃ A, (w.alloc (.cells x.cells 24)).alloc (.cells y.cells 24) = A ∧ Below w.heap.size w A ∧ A.heap.size = w.heap.size + 2 ∧ NodeP A w.heap.size 0 x ∧ NodeP A (w.heap.size + 1) 0 y := by
  refine ⟨_, rfl, ((Below.refl _ w).alloc (Nat.le_refl _) _).alloc (by simp) _, by simp, (nodeP_new w _ x).later ((Below.refl _ _).alloc (Nat.le_refl _) _), ?_⟩
  have := nodeP_new (w.alloc (.cells x.cells 24)) 24 y
  rwa [World.size_alloc] at this
theorem lengthP_le_size (v : Pt) : v.n ≤ v.size := by
  have : ∀ m, m ≤ sumN (fun i => (v.c i).size) m := by
    intro m
    induction m with
    | zero => exact Nat.le_refl _
    | succ m ih => have := (v.c m).size_pos; simp only [sumN]; omega
  have := this v.n
  rw [v.size_eq]
  omega
/-- Rows no longer than memory can hold (80 bytes a node), all the way down. -/
def WdP : Pt → Prop
  | .nil => True
  | .mk _ _ _ _ _ _ n _ c => n ≤ 1759218604390 ∧ ∀ i, i < n → WdP (c i)
theorem wdP_eq (x : Pt) : WdP x ↔ x.n ≤ 1759218604390 ∧ ∀ i, i < x.n → WdP (x.c i) := by
  cases x with
  | nil => exact ⟨fun _ => ⟨Nat.zero_le _, fun i hi => absurd hi (Nat.not_lt_zero _)⟩, fun _ => trivial⟩
  | mk => rfl
theorem wdP_of : ∀ (x : Pt), x.size ≤ 1048576 → WdP x := by
  refine Pt.ind fun x ih h => ?_
  rw [wdP_eq]
  have := lengthP_le_size x
  exact ⟨by omega, fun i hi => ih i hi (by have := x.size_part i hi; omega)⟩
end Go.Proofs.YtfnfegcjgnbgbaaGreatDoor
namespace Go.Proofs.YtfnfegcjgnbgbaaGreatDoor
open Go.RowKit Go.Shelf
attribute [local go_sem] Oper.semAt_some

/-- The closure that goes down, as a value. -/
abbrev downPV (By Bd : Nat) : Value := .func (.func 78) #[] #[.pointer (some ⟨By, 0, none⟩), .pointer (some ⟨Bd, 0, none⟩)]

set_option maxRecDepth 100000 in
set_option maxHeartbeats 4000000 in
theorem downP_any {ι : Type} (l By Bd : Nat) (kids : ι → Nat) (kid : ι → Nat → ι) (rank : ι → Nat)
    (Pre : ι → Nat → Nat → Int → World → Prop) (Mid : ι → Nat → Nat → Int → World → Option Addr → Nat → Nat → World → Prop) (Post Stop : ι → Nat → Nat → Int → World → World → Prop)
    (hrank : ∀ v i, i < kids v → rank (kid v i) < rank v)
    (hP : ∀ v b o d W, Pre v b o d W → W.cell? ⟨By, 0, none⟩ = some (.func (.yield l) #[] #[]))
    (hY : ∀ v b o d W, Pre v b o d W → YieldAt Fence.wide 0 Tryz.prog l #[.int .i64 d, .pointer (some ⟨b, o, none⟩)] W fun e W' =>
      (e = .returned (.bool true) ∧ ∃ a cap, Mid v b o d W a cap 0 W') ∨ (e = .returned (.bool false) ∧ Stop v b o d W W'))
    (hL : ∀ v b o d W a cap i Wi, Mid v b o d W a cap i Wi → kids v ≤ 9223372036854775807 ∧ Wi.cell? ⟨b, o + 5, none⟩ = some (.slice a (kids v) cap) ∧ Wi.cell? ⟨Bd, 0, none⟩ = some (downPV By Bd))
    (hC : ∀ v b o d W a cap i Wi, Mid v b o d W a cap i Wi → i < kids v → ∃ b' o', a = some ⟨b', o', none⟩ ∧ Pre (kid v i) b' (o' + i * 6) (IntKind.i64.wrap (d + 1)) Wi.drew ∧
      (∀ W', Post (kid v i) b' (o' + i * 6) (IntKind.i64.wrap (d + 1)) Wi.drew W' → Mid v b o d W a cap (i + 1) W') ∧ (∀ W', Stop (kid v i) b' (o' + i * 6) (IntKind.i64.wrap (d + 1)) Wi.drew W' → Stop v b o d W W'))
    (hE : ∀ v b o d W a cap Wi, Mid v b o d W a cap (kids v) Wi → Post v b o d W Wi) :
    ∀ (r : Nat) (v : ι), rank v < r → ∀ (n b o : Nat) (d : Int) (W : World), Pre v b o d W →
      CallsIn Fence.wide n Tryz.prog 78 #[.int .i64 d, .pointer (some ⟨b, o, none⟩), .pointer (some ⟨By, 0, none⟩), .pointer (some ⟨Bd, 0, none⟩)] W fun e W' =>
        (e = .returned (.bool true) ∧ Post v b o d W W') ∨ (e = .returned (.bool false) ∧ Stop v b o d W W') := by
  intro r
  induction r with
  | zero => intro v h; omega
  | succ r ih =>
    intro v hv n b o d W hpre
    have hdd : ∀ k : Nat, (Fence.wide.depth.isSome = true → 1 ≤ k) := fun k h => by cases h
    have hby := hP v b o d W hpre
    obtain ⟨fn, tmps, assign, body, hy, hR⟩ := yield_wide (n - 1) (hY v b o d W hpre)
    refine callsIn_of_wp Tryz.func78 rfl trivial ?_ rfl
    simp only [Tryz.ntmps78, List.size_toArray, List.length_cons, List.length_nil, Nat.reduceAdd, Nat.reduceSub, Array.replicate_succ, Array.replicate_zero, List.push_toArray, List.append_toArray, List.nil_append, List.cons_append]
    gi_wp2_with (first
      | ((try refine ⟨hdd _, ?_⟩); refine hR.mono ?_; clear hR; rintro e W1 (⟨rfl, a, cap, hm⟩ | ⟨rfl, hs⟩); (try (obtain ⟨hn0, hc6, hcd⟩ := hL v b o d W a cap 0 W1 hm))))
    · obtain ⟨hn1, -⟩ := hL v b o d W a cap 0 W1 hm
      gi_loopw [18] (fun u wr => ∃ i : Nat, i ≤ kids v ∧ u = .int .i64 i ∧ Mid v b o d W a cap i wr) (fun u _ => kids v - (intOf u).toNat)
      case atStart => exact ⟨0, Nat.zero_le _, rfl, hm⟩
      case round =>
        obtain ⟨i, hi, rfl, hmi⟩ := hrel
        obtain ⟨-, hc6i, hcdi⟩ := hL v b o d W a cap i wr hmi
        by_cases hin : i < kids v
        · obtain ⟨b', o', rfl, hp', hpost, hstop⟩ := hC v b o d W a cap i wr hmi hin
          have ihc := (ih (kid v i) (by have := hrank v i hin; omega) (n - 1) b' (o' + i * 6) _ wr.drew hp').mono (R' := fun e W2 => ∃ r, e = .returned (.bool r) ∧ ((r = true ∧ Mid v b o d W (some ⟨b', o', none⟩) cap (i + 1) W2) ∨ (r = false ∧ Stop v b o d W W2)))
            (fun e W2 h => h.elim (fun h => ⟨true, h.1, .inl ⟨rfl, hpost W2 h.2⟩⟩) (fun h => ⟨false, h.1, .inr ⟨rfl, hstop W2 h.2⟩⟩))
          clear ih hpost hstop
          have HQ : Hid (i < kids v) := hin
          gi_wp2
          gi_region_with ((refine ⟨trivial, hdd _, ?_⟩; gi_at_call 78; refine ihc.mono ?_; clear ihc; rintro e W2 ⟨r, rfl, hj⟩))
          all_goals (rcases hj with ⟨rfl, hj⟩ | ⟨rfl, hj⟩)
          all_goals gi_wp2
          all_goals first
            | (go_ret; exact .inr ⟨rfl, hj⟩)
            | exact ⟨⟨i + 1, HQ.out, by simp, hj⟩, by have := HQ.out; simp [intOf]; omega⟩
        · have hin' : i = kids v := by omega
          subst hin'
          gi_wp2
          go_ret
          exact .inl ⟨rfl, hE _ _ _ _ _ _ _ _ hmi⟩
    · gi_wp2
      go_ret
      exact .inr ⟨rfl, hs⟩
end Go.Proofs.YtfnfegcjgnbgbaaGreatDoor
namespace Go.Proofs.YtfnfegcjgnbgbaaGreatDoor
open Go.RowKit Go.Shelf
attribute [local go_sem] Oper.semAt_some

set_option maxRecDepth 100000 in
set_option maxHeartbeats 1000000 in
theorem nodesP_in (n : Nat) (p : Option Addr) (w : World) :
    CallsIn Fence.wide n Tryz.prog 52 #[.pointer p] w fun e w' => e = .returned (.func (.func 77) #[] #[.pointer (some ⟨w.heap.size, 0, none⟩)]) ∧ w' = w.alloc (.cells #[.pointer p] 81) := by
  refine callsIn_of_wp Tryz.func52 rfl trivial ?_ rfl
  simp only [Tryz.ntmps52, List.size_toArray, List.length_cons, List.length_nil, Nat.reduceAdd, Nat.reduceSub, Array.replicate_succ, Array.replicate_zero, List.push_toArray, List.append_toArray, List.nil_append, List.cons_append]
  gi_wp2
  go_ret
  exact ⟨rfl, rfl⟩

set_option maxRecDepth 100000 in
set_option maxHeartbeats 2000000 in
/-- The function that expr.nodes hands back: it lays yield and the closure in boxes of their own, and goes down. -/
theorem nodesP1_in (n l Bp b o : Nat) (W : World) (R : Ending → World → Prop) (hBp : W.cell? ⟨Bp, 0, none⟩ = some (.pointer (some ⟨b, o, none⟩)))
    (hdown : ∀ W2, Boxed W2 W.heap.size 110 (.func (.yield l) #[] #[]) → Boxed W2 (W.heap.size + 1) 110 (downPV W.heap.size (W.heap.size + 1)) → Below W.heap.size W W2 → W2.heap.size = W.heap.size + 2 →
      CallsIn Fence.wide (n - 1) Tryz.prog 78 #[.int .i64 1, .pointer (some ⟨b, o, none⟩), .pointer (some ⟨W.heap.size, 0, none⟩), .pointer (some ⟨W.heap.size + 1, 0, none⟩)] W2 fun e W' => ∃ r, e = .returned (.bool r) ∧ R (.returned (.bool r)) W') :
    CallsIn Fence.wide n Tryz.prog 77 #[.func (.yield l) #[] #[], .pointer (some ⟨Bp, 0, none⟩)] W fun e W' => (∃ v, e = .returned v) ∧ ∃ r, R (.returned (.bool r)) W' := by
  have hdd : ∀ k : Nat, (Fence.wide.depth.isSome = true → 1 ≤ k) := fun k h => by cases h
  have h1 : Boxed (W.alloc (.cells #[.func (.yield l) #[] #[]] 110)) W.heap.size 110 (.func (.yield l) #[] #[]) := Boxed.new _ _ _
  have hlt : Bp < W.heap.size := by
    obtain ⟨ob, ho, -⟩ := cells_of_cell hBp
    exact (Array.getElem?_eq_some_iff.1 ho).1
  obtain ⟨A, hA⟩ : ∃ A, (W.alloc (.cells #[.func (.yield l) #[] #[]] 110)).alloc (.cells #[.nilFunc] 110) = A := ⟨_, rfl⟩
  have b1 : Boxed A W.heap.size 110 (.func (.yield l) #[] #[]) := hA ▸ h1.alloc _
  have b2 : Boxed A (W.heap.size + 1) 110 .nilFunc := by
    have := Boxed.new (W.alloc (.cells #[.func (.yield l) #[] #[]] 110)) 110 .nilFunc
    rw [World.size_alloc, hA] at this
    exact this
  have hB : Below W.heap.size W A := by rw [← hA]; exact ((Below.refl _ W).alloc (Nat.le_refl _) _).alloc (by simp) _
  have hsz : A.heap.size = W.heap.size + 2 := by rw [← hA]; simp
  have c2 := b2.cell
  have f2 := b2.frozen
  have b3 := b2.set (downPV W.heap.size (W.heap.size + 1))
  have b4 := b1.other (show W.heap.size ≠ W.heap.size + 1 by omega) (downPV W.heap.size (W.heap.size + 1))
  have hB3 : Below W.heap.size W (A.setCell ⟨W.heap.size + 1, 0, none⟩ (downPV W.heap.size (W.heap.size + 1))) := hB.setCell (p := ⟨W.heap.size + 1, 0, none⟩) (by simp) _
  have c3 := b3.cell
  have cp := (hB3.cell (p := ⟨Bp, 0, none⟩) hlt).trans hBp
  have hd := hdown _ b4 b3 hB3 (by rw [World.size_setCell]; exact hsz)
  clear hdown
  refine callsIn_of_wp Tryz.func77 rfl trivial ?_ rfl
  simp only [Tryz.ntmps77, List.size_toArray, List.length_cons, List.length_nil, Nat.reduceAdd, Nat.reduceSub, Array.replicate_succ, Array.replicate_zero, List.push_toArray, List.append_toArray, List.nil_append, List.cons_append]
  gi_wp2_with (refine ⟨trivial, hdd _, ?_⟩; gi_at_call 78; refine hd.mono ?_; rintro e W3 ⟨r, rfl, hr⟩)
  go_end0
  exact ⟨⟨_, rfl⟩, _, hr⟩
theorem NodeP.kept {T : Nat → Prop} {W W' : World} (h : Kp T W W') {b o : Nat} {x : Pt} (hb : T b) (hn : NodeP W b o x) : NodeP W' b o x :=
  ⟨h.cell (p := ⟨b, o, none⟩) hb hn.1, h.cell (p := ⟨b, o + 1, none⟩) hb hn.2.1, h.cell (p := ⟨b, o + 2, none⟩) hb hn.2.2.1, h.cell (p := ⟨b, o + 3, none⟩) hb hn.2.2.2.1, h.cell (p := ⟨b, o + 4, none⟩) hb hn.2.2.2.2.1, h.cell (p := ⟨b, o + 5, none⟩) hb hn.2.2.2.2.2⟩
theorem NodeP.ag {B : Nat} {W A : World} (h : Ag B W A) {b o : Nat} {x : Pt} (hn : NodeP W b o x) : NodeP A b o x := hn.of fun _ _ => h.cell _
/-- A pattern whose parts lie in such blocks. -/
def PT (T : Nat → Prop) (w : World) : Pt → Prop
  | .nil => True
  | .mk _ _ _ _ _ a n cap c => n ≤ cap ∧ cap ≤ 9223372036854775807 ∧ ∀ i, i < n → ∃ b o, a = some ⟨b, o, none⟩ ∧ T b ∧ NodeP w b (o + i * 6) (c i) ∧ PT T w (c i)
theorem pT_eq (T : Nat → Prop) (w : World) (x : Pt) : PT T w x ↔ x.n ≤ x.cap ∧ x.cap ≤ 9223372036854775807 ∧ ∀ i, i < x.n → ∃ b o, x.a = some ⟨b, o, none⟩ ∧ T b ∧ NodeP w b (o + i * 6) (x.c i) ∧ PT T w (x.c i) := by
  cases x with
  | nil => simp [PT, Pt.n, Pt.cap]
  | mk => rfl
theorem PT.kept {T : Nat → Prop} {W W' : World} (h : Kp T W W') : ∀ {x : Pt}, PT T W x → PT T W' x := by
  refine @(Pt.ind fun x ih hx => ?_)
  rw [pT_eq] at hx ⊢
  refine ⟨hx.1, hx.2.1, fun i hi => ?_⟩
  obtain ⟨b, o, e, hb, hn, hc⟩ := hx.2.2 i hi
  exact ⟨b, o, e, hb, hn.kept h hb, ih i hi hc⟩
theorem PT.of {T : Nat → Prop} {W W' : World} (h : ∀ p v, W.cell? p = some v → W'.cell? p = some v) : ∀ {x : Pt}, PT T W x → PT T W' x := by
  refine @(Pt.ind fun x ih hx => ?_)
  rw [pT_eq] at hx ⊢
  refine ⟨hx.1, hx.2.1, fun i hi => ?_⟩
  obtain ⟨b, o, e, hb, hn, hc⟩ := hx.2.2 i hi
  exact ⟨b, o, e, hb, ⟨h _ _ hn.1, h _ _ hn.2.1, h _ _ hn.2.2.1, h _ _ hn.2.2.2.1, h _ _ hn.2.2.2.2.1, h _ _ hn.2.2.2.2.2⟩, ih i hi hc⟩
theorem IsP.xt {T : Nat → Prop} {w : World} (hT : ∀ k, k < w.heap.size → T k) : ∀ {x : Pt}, IsP w x → PT T w x := by
  refine @(Pt.ind fun x ih hx => ?_)
  rw [isP_eq] at hx
  rw [pT_eq]
  refine ⟨hx.1, hx.2.1, fun i hi => ?_⟩
  obtain ⟨b, o, e, hn, hc⟩ := hx.2.2 i hi
  exact ⟨b, o, e, hT b hn.lt, hn, ih i hi hc⟩

theorem PIn.xt {n : Nat} {T : Nat → Prop} {w : World} (hT : ∀ k, k < n → T k) {x : Pt} (h : PIn n w x) : PT T w x := by
  revert h
  revert x
  refine @(Pt.ind fun x ih hx => ?_)
  rw [pIn_eq] at hx
  rw [pT_eq]
  refine ⟨hx.1, hx.2.1, fun i hi => ?_⟩
  obtain ⟨b, o, e, hb, hn, hc⟩ := hx.2.2 i hi
  exact ⟨b, o, e, hT b hb, hn, ih i hi hc⟩
/-- What a round of the range is handed. -/
structure VisP where
  d : Nat
  b : Nat
  o : Nat
  y : Pt
  pre : List (Nat × Pt)

/-- A range over all nodes, each once, in their order. -/
theorem nodesP_fold {n : Nat} {g : Operand} {ps : Array Tmp} {assign body : Code} {Q : Exit → Act → World → Prop} {a : Act} {w : World} (Bp b0 o0 : Nat) (x : Pt) (T : Nat → Prop) (J : List (Nat × Pt) → World → Prop) (Jx : Code → World → Prop)
    (hg : a.eval g = .func (.func 77) #[] #[.pointer (some ⟨Bp, 0, none⟩)]) (hps : ps.size = 2) (hBp : w.cell? ⟨Bp, 0, none⟩ = some (.pointer (some ⟨b0, o0, none⟩))) (hsm : x.size ≤ 1048576)
    (hT : ∀ k, T k → k < w.heap.size) (hb0 : T b0) (hN : NodeP w b0 o0 x) (hX : PT T w x)
    (hJ : ∀ pre W A, Ag w.heap.size W A → J pre W → J pre A) (hJd : ∀ pre W, J pre W → J pre W.drew) (h0 : ∀ W, Below w.heap.size w W → J [] W) (hJx : ∀ c W A, Ag w.heap.size W A → Jx c W → Jx c A)
    (a₁ : Nat → Nat → Nat → Act)
    (hassign : ∀ (l d b o : Nat) (W : World) (K : Act → World → Prop), K (a₁ d b o) W →
      assign.wpIn (Fence.wide.inRound l) (n - 1 - 1) Tryz.prog (Exit.then K (fun _ _ _ => False)) { tmps := (ps.zip #[.int .i64 d, .pointer (some ⟨b, o, none⟩)]).foldl (fun t (p, v) => t.setIfInBounds p v) a.tmps, defers := [] } W)
    (hbody : ∀ (l d b o : Nat) (y : Pt) (pre : List (Nat × Pt)) (W : World), T b → NodeP W b o y → PT T W y → J pre W → w.heap.size + 4 ≤ W.heap.size → (∃ post, pre ++ (d, y) :: post = visP 1 x) →
      body.wpIn (Fence.wide.inRound l) (n - 1 - 1) Tryz.prog (foldPost w.heap.size (fun k => T k ∨ k = w.heap.size + 2 ∨ k = w.heap.size + 3) (J (pre ++ [(d, y)])) Jx W) (a₁ d b o) W)
    (hdone : ∀ (D : Nat) (W : World), w.heap.size ≤ D → J (visP 1 x) W → W.heap[D]? = some (.deferred (some [])) → Q .normal { a with defers := { target := .collected D, args := #[] } :: a.defers } W)
    (hstop : ∀ (D : Nat) (c : Code) (W : World), w.heap.size ≤ D → Jx c W → W.heap[D]? = some (.deferred (some [])) → c.wpIn Fence.wide n Tryz.prog Q { a with defers := { target := .collected D, args := #[] } :: a.defers } W) :
    (Code.rangeFunc g ps assign body).wpIn Fence.wide n Tryz.prog Q a w := by
  obtain ⟨T', hT'⟩ : ∃ T' : Nat → Prop, T' = fun k => T k ∨ k = w.heap.size + 2 ∨ k = w.heap.size + 3 := ⟨_, rfl⟩
  have tT : ∀ k, T k → T' k := fun k hk => by rw [hT']; exact .inl hk
  refine wpIn_range (α := VisP) hg (enters_of Tryz.func77 (by kernel_rfl) rfl) (encs := fun v => #[.int .i64 v.d, .pointer (some ⟨v.b, v.o, none⟩)]) (fun _ => hps.symm)
    (fun v W => T v.b ∧ NodeP W v.b v.o v.y ∧ PT T W v.y ∧ J v.pre W ∧ w.heap.size + 4 ≤ W.heap.size ∧ ∃ post, v.pre ++ (v.d, v.y) :: post = visP 1 x)
    (fun v W W' => Kp T' W W' ∧ J (v.pre ++ [(v.d, v.y)]) W' ∧ w.heap.size + 4 ≤ W'.heap.size)
    (fun c _ _ W' => Jx c W') (J (visP 1 x)) Jx ?_ ?_ ?_ (fun W A h => hJ _ W A h) hJx (fun v => a₁ v.d v.b v.o) (fun l v W K hK => hassign l v.d v.b v.o W K hK) ?_ ?_ hdone hstop
  · rintro v W A hag ⟨h1, h2, h3, h4, h5, h6⟩
    exact ⟨h1, h2.ag hag, h3.of fun p v h => (hag.cell p).trans h, hJ _ _ _ hag h4, by rw [hag.size]; exact h5, h6⟩
  · rintro v W A A' W' hag hag' ⟨h1, h2, h3⟩
    exact ⟨Kp.ag hag hag' h1, hJ _ _ _ hag' h2, by rw [hag'.size]; exact h3⟩
  · rintro c v W A A' W' hag hag' h
    exact hJx _ _ _ hag' h
  · rintro l v W ⟨h1, h2, h3, h4, h5, h6⟩ _
    refine wpIn_mono (hbody l v.d v.b v.o v.y v.pre W h1 h2 h3 h4 h5 h6) ?_
    rintro e a3 W3 hp
    cases e with
    | normal => exact ⟨hp.1, by rw [hT']; exact hp.2.1, hp.2.2, Nat.le_trans h5 hp.1.size⟩
    | ret => exact hp
    | exit id => exact hp
    | goto t => exact hp
    | panic ch => exact hp.elim
    | outgrown => exact hp.elim
  · intro l Rec RecX W1 hB1 hs1 hrec1 hrec hrecx hY
    have hkT : Kp T w W1 := Kp.of_below hB1 hT
    have hlt : Bp < w.heap.size := by
      obtain ⟨ob, ho, -⟩ := cells_of_cell hBp
      exact (Array.getElem?_eq_some_iff.1 ho).1
    refine (nodesP1_in (n - 1) l Bp b0 o0 W1 (fun e W' => (e = .returned (.bool true) ∧ J (visP 1 x) W' ∧ Rec W') ∨ (e = .returned (.bool false) ∧ ∃ c, Jx c W' ∧ RecX c W')) ((hB1.cell (p := ⟨Bp, 0, none⟩) hlt).trans hBp) ?_).mono ?_
    · intro W2 by2 bd2 hB2 hs2
      have key := downP_any (ι := Nat × Pt × List (Nat × Pt)) l W1.heap.size (W1.heap.size + 1) (fun v => v.2.1.n) (fun v i => (v.1 + 1, v.2.1.c i, v.2.2 ++ (v.1, v.2.1) :: catN (fun i => visP (v.1 + 1) (v.2.1.c i)) i)) (fun v => v.2.1.size)
        (fun v b o d W => ((v.1 : Nat) : Int) = d ∧ T b ∧ NodeP W b o v.2.1 ∧ PT T W v.2.1 ∧ J v.2.2 W ∧ Rec W ∧ Boxed W W1.heap.size 110 (.func (.yield l) #[] #[]) ∧ Boxed W (W1.heap.size + 1) 110 (downPV W1.heap.size (W1.heap.size + 1)) ∧ w.heap.size + 4 ≤ W.heap.size ∧ (∃ post, v.2.2 ++ (visP v.1 v.2.1 ++ post) = visP 1 x) ∧ v.1 + v.2.1.size ≤ 1048577)
        (fun v b o d W a cap i Wi => a = v.2.1.a ∧ cap = v.2.1.cap ∧ ((v.1 : Nat) : Int) = d ∧ T b ∧ NodeP Wi b o v.2.1 ∧ PT T Wi v.2.1 ∧ J (v.2.2 ++ (v.1, v.2.1) :: catN (fun i => visP (v.1 + 1) (v.2.1.c i)) i) Wi ∧ Rec Wi ∧
          Boxed Wi W1.heap.size 110 (.func (.yield l) #[] #[]) ∧ Boxed Wi (W1.heap.size + 1) 110 (downPV W1.heap.size (W1.heap.size + 1)) ∧ w.heap.size + 4 ≤ Wi.heap.size ∧ Kp T' W Wi ∧ (∃ post, v.2.2 ++ (visP v.1 v.2.1 ++ post) = visP 1 x) ∧ v.1 + v.2.1.size ≤ 1048577)
        (fun v b o d W W' => J (v.2.2 ++ visP v.1 v.2.1) W' ∧ Rec W' ∧ Kp T' W W' ∧ w.heap.size + 4 ≤ W'.heap.size)
        (fun v b o d W W' => ∃ c, Jx c W' ∧ RecX c W')
        (fun v i hi => Pt.size_part v.2.1 i hi) (fun v b o d W h => h.2.2.2.2.2.2.1.cell) ?_ ?_ ?_ ?_ (x.size + 1) (1, x, []) (by simp) (n - 1 - 1) b0 o0 1 W2 ?_
      · refine key.mono ?_
        rintro e W' (⟨rfl, h1, h2, -⟩ | ⟨rfl, h⟩)
        · exact ⟨true, rfl, .inl ⟨rfl, by simpa using h1, h2⟩⟩
        · exact ⟨false, rfl, .inr ⟨rfl, h⟩⟩
      · rintro ⟨d', y, pre⟩ b o d W ⟨rfl, h1, h2, h3, h4, h5, h6, h7, h8, hN, hd⟩
        have hN' := hN
        obtain ⟨post, hpo⟩ := hN
        refine YieldAt.mono (hY 0 ⟨d', b, o, y, pre⟩ W ⟨h1, h2, h3, h4, h8, by rw [visP_eq d' y] at hpo; exact ⟨_, by simpa using hpo⟩⟩ h5) ?_
        rintro e W' (⟨rfl, ⟨k1, k2, k3⟩, k4, -⟩ | ⟨rfl, c, k1, k2⟩)
        · have kT : Kp T W W' := k1.mono tT
          exact .inl ⟨rfl, y.a, y.cap, rfl, rfl, rfl, h1, h2.kept kT h1, h3.kept kT, by simpa [catN] using k2, k4, k1.boxed (by rw [hT']; exact .inr (.inl (by omega))) h6, k1.boxed (by rw [hT']; exact .inr (.inr (by omega))) h7, k3, k1, hN', hd⟩
        · exact .inr ⟨rfl, c, k1, k2⟩
      · rintro ⟨d', y, pre⟩ b o d W a cap i Wi ⟨rfl, rfl, rfl, h1, h2, h3, h4, h5, h6, h7, h8, h9, hN⟩
        have := ((pT_eq _ _ _).1 h3)
        simp only at this
        exact ⟨by simp only; omega, h2.2.2.2.2.2, h7.cell⟩
      · rintro ⟨d', y, pre⟩ b o d W a cap i Wi ⟨rfl, rfl, rfl, h1, h2, h3, h4, h5, h6, h7, h8, h9, hN, hd⟩ hi
        obtain ⟨b', o', ea, hb', hn', hx'⟩ := ((pT_eq _ _ _).1 h3).2.2 i hi
        have hsp := y.size_part i hi
        have hw1 : IntKind.i64.wrap ((d' : Int) + 1) = ((d' + 1 : Nat) : Int) := by
          simp only at hd
          simp [IntKind.wrap, IntKind.bits, IntKind.signed]
          omega
        rw [hw1]
        refine ⟨b', o', ea, ⟨rfl, hb', hn', PT.of (W := Wi) (W' := Wi.drew) (fun _ _ h => h) hx', hJd _ _ h4, hrec Wi Wi.drew ⟨Nat.le_refl _, fun _ _ _ h _ => h⟩ h5, h6, h7, h8, ?_, by simp only at hd ⊢; omega⟩, ?_, fun W' h => h⟩
        · obtain ⟨post, hpo⟩ := hN
          obtain ⟨r, hr⟩ := catN_split (fun i => visP (d' + 1) (y.c i)) hi
          refine ⟨r ++ post, ?_⟩
          rw [visP_eq d' y] at hpo
          simp only at hpo ⊢
          rw [← hpo, hr]
          simp
        rintro W' ⟨k1, k2, k3, k4⟩
        have kk : Kp T' Wi W' := k3
        have kT : Kp T Wi W' := kk.mono tT
        exact ⟨rfl, rfl, rfl, h1, h2.kept kT h1, h3.kept kT, by simpa [catN] using k1, k2, kk.boxed (by rw [hT']; exact .inr (.inl (by omega))) h6, kk.boxed (by rw [hT']; exact .inr (.inr (by omega))) h7, k4, h9.trans kk, hN, hd⟩
      · rintro ⟨d', y, pre⟩ b o d W a cap Wi ⟨rfl, rfl, rfl, h1, h2, h3, h4, h5, h6, h7, h8, h9, hN, hd⟩
        exact ⟨by rw [visP_eq]; exact h4, h5, h9, h8⟩
      · have hB : Below w.heap.size w W2 := hB1.trans (hB2.mono (by omega))
        have kT : Kp T w W2 := Kp.of_below hB hT
        refine ⟨rfl, hb0, hN.kept kT hb0, hX.kept kT, h0 W2 hB, hrec W1 W2 ⟨by omega, fun k o hk ho _ => ?_⟩ hrec1, by2, bd2, by omega, ⟨[], by simp⟩, by simp only; omega⟩
        exact (hB2.block k (Array.getElem?_eq_some_iff.1 ho).1).trans ho
    · rintro e W' ⟨hv, r, (⟨-, h1, h2⟩ | ⟨-, h⟩)⟩
      · exact ⟨hv, .inl ⟨h1, h2⟩⟩
      · exact ⟨hv, .inr h⟩
end Go.Proofs.YtfnfegcjgnbgbaaGreatDoor
