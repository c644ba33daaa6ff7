/-
  Patterns as they lie in memory; of no function.
-/
import Derived.Test.YtjclelmbpmlioaaPatMath
import Derived.Test.YtjclelmbpmlioaaHeld
import Derived.Test.YtjclelmbpmlioaaSame
import Derived.BigQuiet
namespace Go.Proofs.Ytjclelmbpmlioaa
open Go.RowKit

abbrev Pt.slice (x : Pt) : Value := .slice x.a x.n x.cap
/-- A pattern as a value. -/
abbrev Pt.val (x : Pt) : Value := .agg #[.int .i64 x.k, .string x.s, .string x.t, .int .i64 x.lo, .int .i64 x.hi, .slice x.a x.n x.cap]
/-- The six cells of a node. -/
def NodeP (w : World) (b o : Nat) (x : Pt) : Prop :=
  w.cell? ⟨b, o, none⟩ = some (.int .i64 x.k) ∧ w.cell? ⟨b, o + 1, none⟩ = some (.string x.s) ∧ w.cell? ⟨b, o + 2, none⟩ = some (.string x.t) ∧ w.cell? ⟨b, o + 3, none⟩ = some (.int .i64 x.lo) ∧
    w.cell? ⟨b, o + 4, none⟩ = some (.int .i64 x.hi) ∧ w.cell? ⟨b, o + 5, none⟩ = some (.slice x.a x.n x.cap)
/-- All that lies below a pattern. -/
def IsP (w : World) : Pt → Prop
  | .nil => True
  | .mk _ _ _ _ _ a n cap c => n ≤ cap ∧ cap ≤ 9223372036854775807 ∧ ∀ i, i < n → ∃ b o, a = some ⟨b, o, none⟩ ∧ NodeP w b (o + i * 6) (c i) ∧ IsP w (c i)
theorem isP_eq (w : World) (x : Pt) : IsP w x ↔ x.n ≤ x.cap ∧ x.cap ≤ 9223372036854775807 ∧ ∀ i, i < x.n → ∃ b o, x.a = some ⟨b, o, none⟩ ∧ NodeP w b (o + i * 6) (x.c i) ∧ IsP w (x.c i) := by
  cases x with
  | nil => simp [IsP, Pt.n, Pt.cap]
  | mk => rfl
theorem IsP.part {w : World} {x : Pt} (h : IsP w x) {i : Nat} (hi : i < x.n) : ∃ b o, x.a = some ⟨b, o, none⟩ ∧ NodeP w b (o + i * 6) (x.c i) ∧ IsP w (x.c i) := ((isP_eq w x).1 h).2.2 i hi
theorem IsP.len {w : World} {x : Pt} (h : IsP w x) : x.n ≤ 9223372036854775807 := by have := (isP_eq w x).1 h; omega
theorem NodeP.of {w w' : World} {b o : Nat} {x : Pt} (h : NodeP w b o x) (hk : ∀ j, j < 6 → w'.cell? ⟨b, o + j, none⟩ = w.cell? ⟨b, o + j, none⟩) : NodeP w' b o x :=
  ⟨(hk 0 (by omega)).trans h.1, (hk 1 (by omega)).trans h.2.1, (hk 2 (by omega)).trans h.2.2.1, (hk 3 (by omega)).trans h.2.2.2.1, (hk 4 (by omega)).trans h.2.2.2.2.1, (hk 5 (by omega)).trans h.2.2.2.2.2⟩
theorem NodeP.lt {w : World} {b o : Nat} {x : Pt} (h : NodeP w b o x) : b < w.heap.size := by
  have h0 := h.1
  simp only [World.cell?] at h0
  by_cases hb : b < w.heap.size
  · exact hb
  · rw [Array.getElem?_eq_none (by omega)] at h0
    cases h0
theorem NodeP.later {w w' : World} {b o : Nat} {x : Pt} (h : NodeP w b o x) (hB : Below w.heap.size w w') : NodeP w' b o x := h.of fun j _ => hB.cell (p := ⟨b, o + j, none⟩) h.lt
theorem IsP.later {w w' : World} (hB : Below w.heap.size w w') : ∀ {x : Pt}, IsP w x → IsP w' x
  | .nil, _ => trivial
  | .mk _ _ _ _ _ _ _ _ c, h => by
    obtain ⟨h1, h2, h3⟩ := h
    refine ⟨h1, h2, fun i hi => ?_⟩
    obtain ⟨b, o, e, hn, hx⟩ := h3 i hi
    exact ⟨b, o, e, hn.later hB, IsP.later hB hx⟩
/-- What lies below n₀ alone. -/
def PIn (n₀ : Nat) (w : World) : Pt → Prop
  | .nil => True
  | .mk _ _ _ _ _ a n cap c => n ≤ cap ∧ cap ≤ 9223372036854775807 ∧ ∀ i, i < n → ∃ b o, a = some ⟨b, o, none⟩ ∧ b < n₀ ∧ NodeP w b (o + i * 6) (c i) ∧ PIn n₀ w (c i)
theorem pIn_eq (n₀ : Nat) (w : World) (x : Pt) : PIn n₀ w x ↔ x.n ≤ x.cap ∧ x.cap ≤ 9223372036854775807 ∧ ∀ i, i < x.n → ∃ b o, x.a = some ⟨b, o, none⟩ ∧ b < n₀ ∧ NodeP w b (o + i * 6) (x.c i) ∧ PIn n₀ w (x.c i) := by
  cases x with
  | nil => simp [PIn, Pt.n, Pt.cap]
  | mk => rfl
theorem IsP.inn {w : World} : ∀ {x : Pt}, IsP w x → PIn w.heap.size w x
  | .nil, _ => trivial
  | .mk _ _ _ _ _ _ _ _ c, h => by
    obtain ⟨h1, h2, h3⟩ := h
    refine ⟨h1, h2, fun i hi => ?_⟩
    obtain ⟨b, o, e, hn, hx⟩ := h3 i hi
    exact ⟨b, o, e, hn.lt, hn, hx.inn⟩
theorem PIn.is {n₀ : Nat} {w : World} : ∀ {x : Pt}, PIn n₀ w x → IsP w x
  | .nil, _ => trivial
  | .mk _ _ _ _ _ _ _ _ c, h => by
    obtain ⟨h1, h2, h3⟩ := h
    refine ⟨h1, h2, fun i hi => ?_⟩
    obtain ⟨b, o, e, _, hn, hx⟩ := h3 i hi
    exact ⟨b, o, e, hn, hx.is⟩
theorem NodeP.below {n₀ : Nat} {w w' : World} {b o : Nat} {x : Pt} (h : NodeP w b o x) (hB : Below n₀ w w') (hb : b < n₀) : NodeP w' b o x := h.of fun j _ => hB.cell (p := ⟨b, o + j, none⟩) hb
theorem PIn.below {n₀ : Nat} {w w' : World} (hB : Below n₀ w w') : ∀ {x : Pt}, PIn n₀ w x → PIn n₀ w' x
  | .nil, _ => trivial
  | .mk _ _ _ _ _ _ _ _ c, h => by
    obtain ⟨h1, h2, h3⟩ := h
    refine ⟨h1, h2, fun i hi => ?_⟩
    obtain ⟨b, o, e, hb, hn, hx⟩ := h3 i hi
    exact ⟨b, o, e, hb, hn.below hB hb, PIn.below hB hx⟩
theorem PIn.mono {n₀ n₁ : Nat} {w : World} (hn : n₀ ≤ n₁) : ∀ {x : Pt}, PIn n₀ w x → PIn n₁ w x
  | .nil, _ => trivial
  | .mk _ _ _ _ _ _ _ _ c, h => by
    obtain ⟨h1, h2, h3⟩ := h
    refine ⟨h1, h2, fun i hi => ?_⟩
    obtain ⟨b, o, e, hb, hn', hx⟩ := h3 i hi
    exact ⟨b, o, e, by omega, hn', PIn.mono hn hx⟩
/-- Texts no longer than texts can be. -/
def POk : Pt → Prop
  | .nil => True
  | .mk _ s t _ _ _ n _ c => s.size ≤ maxLen ∧ t.size ≤ maxLen ∧ ∀ i, i < n → POk (c i)
theorem pOk_eq (x : Pt) : POk x ↔ x.s.size ≤ maxLen ∧ x.t.size ≤ maxLen ∧ ∀ i, i < x.n → POk (x.c i) := by
  cases x with
  | nil => exact ⟨fun _ => ⟨Nat.zero_le _, Nat.zero_le _, fun i hi => absurd hi (Nat.not_lt_zero _)⟩, fun _ => trivial⟩
  | mk => rfl
/-- The six cells of a pattern as one value. -/
abbrev Pt.cells (x : Pt) : Array Value := #[.int .i64 x.k, .string x.s, .string x.t, .int .i64 x.lo, .int .i64 x.hi, .slice x.a x.n x.cap]
theorem nodeP_box {w : World} {B : Nat} {t : TypeId} {x : Pt} (h : w.heap[B]? = some (.cells x.cells t (0, 0))) : NodeP w B 0 x := by
  refine ⟨?_, ?_, ?_, ?_, ?_, ?_⟩ <;> simp [World.cell?, h]
theorem nodeP_new (w : World) (t : TypeId) (x : Pt) : NodeP (w.alloc (.cells x.cells t)) w.heap.size 0 x := nodeP_box (World.alloc_heap_new w _)
theorem NodeP.at0 {w : World} {B : Nat} {x : Pt} (h : NodeP w B 0 x) : w.cell? ⟨B, 0, none⟩ = some (.int .i64 x.k) ∧ w.cell? ⟨B, 1, none⟩ = some (.string x.s) ∧ w.cell? ⟨B, 2, none⟩ = some (.string x.t) ∧ w.cell? ⟨B, 3, none⟩ = some (.int .i64 x.lo) ∧
    w.cell? ⟨B, 4, none⟩ = some (.int .i64 x.hi) ∧ w.cell? ⟨B, 5, none⟩ = some (.slice x.a x.n x.cap) := by
  have := h
  simp only [NodeP, Nat.zero_add] at this
  exact this
/-- The box that holds a pattern stays. -/
theorem nodeP_on {w A W : World} {x : Pt} (hn : NodeP A w.heap.size 0 x) (hB : Below (w.heap.size + 1) A W) : NodeP W w.heap.size 0 x := hn.below hB (by omega)
/-- A pattern in a box of its own. -/
theorem boxP_one (x : Pt) (w : World) : ∃ A, w.alloc (.cells x.cells 24) = A ∧ Below w.heap.size w A ∧ A.heap.size = w.heap.size + 1 ∧ NodeP A w.heap.size 0 x :=
  ⟨_, rfl, (Below.refl _ w).alloc (Nat.le_refl _) _, by simp, nodeP_new w _ x⟩
theorem boxP_two (x y : Pt) (w : World) : ∃ A, (w.alloc (.cells x.cells 24)).alloc (.cells y.cells 24) = A ∧ Below w.heap.size w A ∧ A.heap.size = w.heap.size + 2 ∧ NodeP A w.heap.size 0 x ∧ NodeP A (w.heap.size + 1) 0 y := by
  refine ⟨_, rfl, ((Below.refl _ w).alloc (Nat.le_refl _) _).alloc (by simp) _, by simp, (nodeP_new w _ x).later ((Below.refl _ _).alloc (Nat.le_refl _) _), ?_⟩
  have := nodeP_new (w.alloc (.cells x.cells 24)) 24 y
  rwa [World.size_alloc] at this
theorem lengthP_le_size (v : Pt) : v.n ≤ v.size := by
  have : ∀ m, m ≤ sumN (fun i => (v.c i).size) m := by
    intro m
    induction m with
    | zero => exact Nat.le_refl _
    | succ m ih => have := (v.c m).size_pos; simp only [sumN]; omega
  have := this v.n
  rw [v.size_eq]
  omega
/-- Rows no longer than memory can hold (80 bytes a node), all the way down. -/
def WdP : Pt → Prop
  | .nil => True
  | .mk _ _ _ _ _ _ n _ c => n ≤ 1759218604390 ∧ ∀ i, i < n → WdP (c i)
theorem wdP_eq (x : Pt) : WdP x ↔ x.n ≤ 1759218604390 ∧ ∀ i, i < x.n → WdP (x.c i) := by
  cases x with
  | nil => exact ⟨fun _ => ⟨Nat.zero_le _, fun i hi => absurd hi (Nat.not_lt_zero _)⟩, fun _ => trivial⟩
  | mk => rfl
theorem wd_sm : ∀ {x y : Pt}, Sm x y → WdP y → WdP x := by
  refine @(Pt.ind fun x ih y h hy => ?_)
  obtain ⟨-, -, -, -, -, h6, h7⟩ := (sm_iff _ _).1 h
  rw [wdP_eq] at hy ⊢
  exact ⟨by rw [h6]; exact hy.1, fun i hi => ih i hi (h7 i hi) (hy.2 i (by rw [← h6]; exact hi))⟩
theorem wdP_of : ∀ (x : Pt), x.size ≤ 1048576 → WdP x := by
  refine Pt.ind fun x ih h => ?_
  rw [wdP_eq]
  have := lengthP_le_size x
  exact ⟨by omega, fun i hi => ih i hi (by have := x.size_part i hi; omega)⟩
/-- The machine's numbers. -/
def INat (z : Int) : Prop := -9223372036854775808 ≤ z ∧ z < 9223372036854775808
end Go.Proofs.Ytjclelmbpmlioaa
