/-
  Tokens in their places: of no program.
-/
import Derived.Test.YtdfmehbnhdhbcaaDoorLexMath
namespace Go.Proofs.YtdfmehbnhdhbcaaDoor
open Go.RowKit

/-- Tokens of the bytes B, from place i on: places rise, the bytes there are the token's (but for texts), the last is the end. -/
def Placed (B : List Int) : Nat → List Tk → Prop
  | _, [] => False
  | i, [t] => t.k = 6 ∧ t.s = ⟨#[]⟩ ∧ t.p = B.length ∧ i ≤ t.p
  | i, t :: u :: r => t.k ≠ 6 ∧ i ≤ t.p ∧ t.p < B.length ∧ (t.k ≠ 4 → t.p + t.s.size ≤ B.length ∧ (B.drop t.p).take t.s.size = bytesS t.s) ∧ Placed B (t.p + 1) (u :: r)
theorem placed_ne {B : List Int} {i : Nat} {l : List Tk} (h : Placed B i l) : l ≠ [] := by
  intro e; rw [e] at h; exact h
theorem placed_low {B : List Int} {i j : Nat} {l : List Tk} (h : Placed B i l) (hj : j ≤ i) : Placed B j l := by
  match l, h with
  | [t], h => exact ⟨h.1, h.2.1, h.2.2.1, by have := h.2.2.2; omega⟩
  | t :: u :: r, h => exact ⟨h.1, by have := h.2.1; omega, h.2.2⟩
theorem placed_cons {B : List Int} {i : Nat} {t : Tk} {l : List Tk} (h1 : t.k ≠ 6) (h2 : i ≤ t.p) (h3 : t.p < B.length) (h4 : t.k ≠ 4 → t.p + t.s.size ≤ B.length ∧ (B.drop t.p).take t.s.size = bytesS t.s) (h5 : Placed B (t.p + 1) l) : Placed B i (t :: l) := by
  match l, h5 with
  | u :: r, h5 => exact ⟨h1, h2, h3, h4, h5⟩
theorem tok_placed (B : List Int) (hb : ∀ x ∈ B, 0 ≤ x ∧ x ≤ 255) : ∀ (f i : Nat), B.length - i < f → i ≤ B.length → (tokR f i (B.drop i)).2.2 = 0 → Placed B i (tokR f i (B.drop i)).1
  | 0, _, h, _, _ => by omega
  | f + 1, i, hf, hi, he => by
    by_cases hlt : i < B.length
    · have hd : B.drop i = B[i] :: B.drop (i + 1) := List.drop_eq_getElem_cons hlt
      have hbd : ∀ x ∈ B.drop i, 0 ≤ x ∧ x ≤ 255 := fun x hx => hb x (List.mem_of_mem_drop hx)
      have O := oneR_ok B[i] (B.drop (i + 1)) (by rw [← hd]; exact hbd)
      rw [← hd] at O
      rw [hd, tokR_cons, ← hd] at he ⊢
      have hlen : (B.drop i).length = B.length - i := List.length_drop
      by_cases h0 : (oneR (B.drop i)).2.2.2 = 0
      · rw [if_pos h0] at he ⊢
        have o1 := O.far
        have o2 := O.pos h0
        have o3 := O.kind h0
        have o4 := O.text h0
        have o5 := O.bytes
        generalize oneR (B.drop i) = R at he o1 o2 o3 o4 o5
        obtain ⟨k, S, n, e⟩ := R
        dsimp only at he o1 o2 o3 o4 o5 ⊢
        unfold allR at he ⊢
        have hs := spanN_le blankB ((B.drop i).drop n)
        rw [List.drop_drop, List.length_drop] at hs
        rw [List.drop_drop, List.drop_drop] at he ⊢
        generalize spanN blankB (B.drop (i + n)) = b at he hs ⊢
        have IH := tok_placed B hb f (i + n + b) (by omega) (by omega)
        unfold consT at he ⊢
        by_cases hq : (tokR f (i + n + b) (B.drop (i + n + b))).2.2 = 0
        · rw [if_pos hq]
          refine placed_cons (by dsimp only; omega) (Nat.le_refl _) hlt (fun hk => ?_) (placed_low (IH hq) (by dsimp only; omega))
          obtain ⟨t1, t2⟩ := o4 hk
          have hsz : (strOf S).size = S.length := strOf_size S
          dsimp only
          rw [hsz, bytesS_strOf S o5]
          exact ⟨by omega, t1⟩
        · rw [if_neg hq] at he
          exact absurd he hq
      · rw [if_neg h0] at he
        exact absurd he h0
    · obtain rfl : i = B.length := by omega
      rw [List.drop_length, tokR_nil]
      exact ⟨rfl, rfl, rfl, Nat.le_refl _⟩
/-- What a token tells, by its index. -/
theorem placed_get {B : List Int} : ∀ (l : List Tk) (i : Nat), Placed B i l → ∀ j (h : j < l.length),
    (l[j].k = 6 ↔ j + 1 = l.length) ∧ i ≤ l[j].p ∧ l[j].p ≤ B.length ∧ (l[j].k ≠ 4 → l[j].p + l[j].s.size ≤ B.length ∧ (B.drop l[j].p).take l[j].s.size = bytesS l[j].s) ∧ (j + 1 = l.length → l[j].p = B.length)
  | [], _, h, _, _ => h.elim
  | [t], i, h, j, hj => by
    obtain ⟨h1, h2, h3, h4⟩ := h
    have : j = 0 := by simpa using hj
    subst this
    dsimp only [List.getElem_cons_zero, List.length_cons, List.length_nil]
    refine ⟨⟨fun _ => rfl, fun _ => h1⟩, h4, by omega, fun _ => ?_, fun _ => h3⟩
    rw [h2, h3]
    exact ⟨Nat.le_refl _, by simp [bytesS]⟩
  | t :: u :: r, i, h, j, hj => by
    obtain ⟨h1, h2, h3, h4, h5⟩ := h
    cases j with
    | zero =>
      dsimp only [List.getElem_cons_zero, List.length_cons]
      exact ⟨⟨fun h => absurd h h1, fun h => by omega⟩, h2, by omega, h4, fun h => by omega⟩
    | succ j =>
      have IH := placed_get (u :: r) (t.p + 1) h5 j (by simpa using hj)
      simp only [List.getElem_cons_succ]
      obtain ⟨i1, i2, i3, i4, i5⟩ := IH
      refine ⟨⟨fun h => by have := i1.1 h; simp at this ⊢; omega, fun h => i1.2 (by simp at h ⊢; omega)⟩, by omega, i3, i4, fun h => i5 (by simp at h ⊢; omega)⟩
theorem placed_rise {B : List Int} : ∀ (l : List Tk) (i : Nat), Placed B i l → ∀ j (h : j + 1 < l.length), (l[j]'(by omega)).p < l[j + 1].p
  | [], _, h, _, _ => h.elim
  | [t], _, _, j, hj => by simp at hj
  | t :: u :: r, i, h, j, hj => by
    obtain ⟨h1, h2, h3, h4, h5⟩ := h
    cases j with
    | zero =>
      have := (placed_get (u :: r) (t.p + 1) h5 0 (by simp)).2.1
      simp only [List.getElem_cons_zero, List.getElem_cons_succ] at this ⊢
      omega
    | succ j =>
      have := placed_rise (u :: r) (t.p + 1) h5 j (by simpa using hj)
      simpa using this
theorem all_placed (s : ByteArray) (h : (allZ s).2.2 = 0) : Placed (bytesS s) 0 (allZ s).1 := by
  by_cases hl : 8192 < s.size
  · have e : allZ s = ([], 0, 2) := if_pos hl
    rw [e] at h
    simp at h
  · rw [allZ_small s (by omega)] at h ⊢
    unfold allR at h ⊢
    have hs := spanN_le blankB (bytesS s)
    have hn := bytesS_length s
    rw [Nat.zero_add] at h ⊢
    exact placed_low (tok_placed (bytesS s) (bytesS_bd s) (s.size + 1) _ (by omega) hs h) (Nat.zero_le _)
end Go.Proofs.YtdfmehbnhdhbcaaDoor
