/-
  Conditions as they lie in memory; of no function.
-/
import Derived.Test.YtcdehohmgfocdaaNamesMath
import Derived.Test.YtcdehohmgfocdaaHeld
import Derived.Test.YtcdehohmgfocdaaSame
import Derived.BigQuiet
namespace Go.Proofs.Ytcdehohmgfocdaa
open Go.RowKit

abbrev X.slice (x : X) : Value := .slice x.a x.n x.cap
/-- A condition as a value. -/
abbrev X.val (x : X) : Value := .agg #[.int .i64 x.k, .int .i64 x.v.k, .int .i64 x.v.n, .string x.v.s, .string x.s, .string x.f, .slice x.a x.n x.cap]
/-- The seven cells of a node. -/
def Node (w : World) (b o : Nat) (x : X) : Prop :=
  w.cell? ⟨b, o, none⟩ = some (.int .i64 x.k) ∧ w.cell? ⟨b, o + 1, none⟩ = some (.int .i64 x.v.k) ∧ w.cell? ⟨b, o + 2, none⟩ = some (.int .i64 x.v.n) ∧ w.cell? ⟨b, o + 3, none⟩ = some (.string x.v.s) ∧
    w.cell? ⟨b, o + 4, none⟩ = some (.string x.s) ∧ w.cell? ⟨b, o + 5, none⟩ = some (.string x.f) ∧ w.cell? ⟨b, o + 6, none⟩ = some (.slice x.a x.n x.cap)
/-- All that lies below a condition. -/
def IsX (w : World) : X → Prop
  | .nil => True
  | .mk _ _ _ _ a n cap c => n ≤ cap ∧ cap ≤ 9223372036854775807 ∧ ∀ i, i < n → ∃ b o, a = some ⟨b, o, none⟩ ∧ Node w b (o + i * 7) (c i) ∧ IsX w (c i)
theorem isX_eq (w : World) (x : X) : IsX w x ↔ x.n ≤ x.cap ∧ x.cap ≤ 9223372036854775807 ∧ ∀ i, i < x.n → ∃ b o, x.a = some ⟨b, o, none⟩ ∧ Node w b (o + i * 7) (x.c i) ∧ IsX w (x.c i) := by
  cases x with
  | nil => simp [IsX, X.n, X.cap]
  | mk => rfl
theorem IsX.part {w : World} {x : X} (h : IsX w x) {i : Nat} (hi : i < x.n) : ∃ b o, x.a = some ⟨b, o, none⟩ ∧ Node w b (o + i * 7) (x.c i) ∧ IsX w (x.c i) := ((isX_eq w x).1 h).2.2 i hi
theorem IsX.len {w : World} {x : X} (h : IsX w x) : x.n ≤ 9223372036854775807 := by have := (isX_eq w x).1 h; omega
theorem Node.of {w w' : World} {b o : Nat} {x : X} (h : Node w b o x) (hk : ∀ j, j < 7 → w'.cell? ⟨b, o + j, none⟩ = w.cell? ⟨b, o + j, none⟩) : Node w' b o x :=
  ⟨(hk 0 (by omega)).trans h.1, (hk 1 (by omega)).trans h.2.1, (hk 2 (by omega)).trans h.2.2.1, (hk 3 (by omega)).trans h.2.2.2.1, (hk 4 (by omega)).trans h.2.2.2.2.1, (hk 5 (by omega)).trans h.2.2.2.2.2.1, (hk 6 (by omega)).trans h.2.2.2.2.2.2⟩
theorem Node.lt {w : World} {b o : Nat} {x : X} (h : Node w b o x) : b < w.heap.size := by
  have h0 := h.1
  simp only [World.cell?] at h0
  by_cases hb : b < w.heap.size
  · exact hb
  · rw [Array.getElem?_eq_none (by omega)] at h0
    cases h0
theorem Node.later {w w' : World} {b o : Nat} {x : X} (h : Node w b o x) (hB : Below w.heap.size w w') : Node w' b o x := h.of fun j _ => hB.cell (p := ⟨b, o + j, none⟩) h.lt
theorem IsX.later {w w' : World} (hB : Below w.heap.size w w') : ∀ {x : X}, IsX w x → IsX w' x
  | .nil, _ => trivial
  | .mk _ _ _ _ _ _ _ c, h => by
    obtain ⟨h1, h2, h3⟩ := h
    refine ⟨h1, h2, fun i hi => ?_⟩
    obtain ⟨b, o, e, hn, hx⟩ := h3 i hi
    exact ⟨b, o, e, hn.later hB, IsX.later hB hx⟩
/-- What lies below n₀ alone. -/
def XIn (n₀ : Nat) (w : World) : X → Prop
  | .nil => True
  | .mk _ _ _ _ a n cap c => n ≤ cap ∧ cap ≤ 9223372036854775807 ∧ ∀ i, i < n → ∃ b o, a = some ⟨b, o, none⟩ ∧ b < n₀ ∧ Node w b (o + i * 7) (c i) ∧ XIn n₀ w (c i)
theorem xIn_eq (n₀ : Nat) (w : World) (x : X) : XIn n₀ w x ↔ x.n ≤ x.cap ∧ x.cap ≤ 9223372036854775807 ∧ ∀ i, i < x.n → ∃ b o, x.a = some ⟨b, o, none⟩ ∧ b < n₀ ∧ Node w b (o + i * 7) (x.c i) ∧ XIn n₀ w (x.c i) := by
  cases x with
  | nil => simp [XIn, X.n, X.cap]
  | mk => rfl
theorem IsX.inn {w : World} : ∀ {x : X}, IsX w x → XIn w.heap.size w x
  | .nil, _ => trivial
  | .mk _ _ _ _ _ _ _ c, h => by
    obtain ⟨h1, h2, h3⟩ := h
    refine ⟨h1, h2, fun i hi => ?_⟩
    obtain ⟨b, o, e, hn, hx⟩ := h3 i hi
    exact ⟨b, o, e, hn.lt, hn, hx.inn⟩
theorem XIn.is {n₀ : Nat} {w : World} : ∀ {x : X}, XIn n₀ w x → IsX w x
  | .nil, _ => trivial
  | .mk _ _ _ _ _ _ _ c, h => by
    obtain ⟨h1, h2, h3⟩ := h
    refine ⟨h1, h2, fun i hi => ?_⟩
    obtain ⟨b, o, e, _, hn, hx⟩ := h3 i hi
    exact ⟨b, o, e, hn, hx.is⟩
theorem Node.below {n₀ : Nat} {w w' : World} {b o : Nat} {x : X} (h : Node w b o x) (hB : Below n₀ w w') (hb : b < n₀) : Node w' b o x := h.of fun j _ => hB.cell (p := ⟨b, o + j, none⟩) hb
theorem XIn.below {n₀ : Nat} {w w' : World} (hB : Below n₀ w w') : ∀ {x : X}, XIn n₀ w x → XIn n₀ w' x
  | .nil, _ => trivial
  | .mk _ _ _ _ _ _ _ c, h => by
    obtain ⟨h1, h2, h3⟩ := h
    refine ⟨h1, h2, fun i hi => ?_⟩
    obtain ⟨b, o, e, hb, hn, hx⟩ := h3 i hi
    exact ⟨b, o, e, hb, hn.below hB hb, XIn.below hB hx⟩
theorem XIn.mono {n₀ n₁ : Nat} {w : World} (hn : n₀ ≤ n₁) : ∀ {x : X}, XIn n₀ w x → XIn n₁ w x
  | .nil, _ => trivial
  | .mk _ _ _ _ _ _ _ c, h => by
    obtain ⟨h1, h2, h3⟩ := h
    refine ⟨h1, h2, fun i hi => ?_⟩
    obtain ⟨b, o, e, hb, hn', hx⟩ := h3 i hi
    exact ⟨b, o, e, by omega, hn', XIn.mono hn hx⟩
/-- Texts no longer than texts can be. -/
def XOk : X → Prop
  | .nil => True
  | .mk _ _ s f _ n _ c => s.size ≤ maxLen ∧ f.size ≤ maxLen ∧ ∀ i, i < n → XOk (c i)
theorem xOk_eq (x : X) : XOk x ↔ x.s.size ≤ maxLen ∧ x.f.size ≤ maxLen ∧ ∀ i, i < x.n → XOk (x.c i) := by
  cases x with
  | nil => exact ⟨fun _ => ⟨Nat.zero_le _, Nat.zero_le _, fun i hi => absurd hi (Nat.not_lt_zero _)⟩, fun _ => trivial⟩
  | mk => rfl
end Go.Proofs.Ytcdehohmgfocdaa
