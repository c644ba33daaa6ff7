/-
  The order is an order: plain facts on 'ordZ'.
-/
import Derived.Test.YtcdehohmgfocdaaValOrder
import Derived.Test.YtcdehohmgfocdaaValRight
namespace Go.Proofs.Ytcdehohmgfocdaa
open Go.RowKit

theorem less_irrefl : ∀ l : List UInt8, Op.bytesLess l l = false
  | [] => rfl
  | a :: l => by simp [Op.bytesLess, less_irrefl l, UInt8.lt_irrefl]
theorem less_total : ∀ l m : List UInt8, l ≠ m → Op.bytesLess l m = !Op.bytesLess m l
  | [], [], h => absurd rfl h
  | [], b :: m, _ => by simp [Op.bytesLess]
  | a :: l, [], _ => by simp [Op.bytesLess]
  | a :: l, b :: m, h => by
    simp only [Op.bytesLess]
    by_cases hab : a = b
    · subst hab
      have := less_total l m (fun e => h (by rw [e]))
      simp [UInt8.lt_irrefl, this]
    · have hba : ¬ b = a := fun e => hab e.symm
      have h1 : (a == b) = false := by simpa using hab
      have h2 : (b == a) = false := by simpa using hba
      rw [h1, h2]
      rcases UInt8.lt_or_lt_of_ne hab with h3 | h3
      · simp [h3, UInt8.lt_asymm h3]
      · simp [h3, UInt8.lt_asymm h3]
theorem less_trans : ∀ l m r : List UInt8, Op.bytesLess l m = true → Op.bytesLess m r = true → Op.bytesLess l r = true
  | _, [], _, h, _ => by simp [Op.bytesLess] at h
  | _, _ :: _, [], _, h => by simp [Op.bytesLess] at h
  | [], _ :: _, _ :: _, _, _ => by simp [Op.bytesLess]
  | a :: l, b :: m, c :: r, h1, h2 => by
    simp only [Op.bytesLess, Bool.or_eq_true, decide_eq_true_eq, Bool.and_eq_true, beq_iff_eq] at h1 h2 ⊢
    rcases h1 with h1 | ⟨rfl, h1⟩
    · rcases h2 with h2 | ⟨rfl, h2⟩
      · exact .inl (UInt8.lt_trans h1 h2)
      · exact .inl h1
    · rcases h2 with h2 | ⟨rfl, h2⟩
      · exact .inl h2
      · exact .inr ⟨rfl, less_trans l m r h1 h2⟩

/-- Two texts: what cmpS says of their bytes. -/
theorem cmpS_cases (s t : ByteArray) : (cmpS s t = -1 ∧ Op.bytesLess s.toList t.toList = true ∧ s.toList ≠ t.toList) ∨ (cmpS s t = 0 ∧ s.toList = t.toList) ∨ (cmpS s t = 1 ∧ Op.bytesLess t.toList s.toList = true ∧ s.toList ≠ t.toList) := by
  unfold cmpS
  by_cases h : s.toList = t.toList
  · rw [h]; simp [less_irrefl]
  · have := less_total _ _ h
    cases h1 : Op.bytesLess s.toList t.toList with
    | true => simp [h]
    | false =>
      rw [h1] at this
      have h2 : Op.bytesLess t.toList s.toList = true := by simpa using this
      simp [h, h2]
theorem cmpI_cases (a b : Int) : (cmpI a b = -1 ∧ a < b) ∨ (cmpI a b = 0 ∧ a = b) ∨ (cmpI a b = 1 ∧ b < a) := by
  unfold cmpI
  by_cases h : a < b
  · simp [h]
  · by_cases h' : b < a
    · simp [h, h']
    · exact .inr (.inl ⟨by simp [h, h'], by omega⟩)

variable (k n : Int) (s : ByteArray) (k' n' : Int) (s' : ByteArray) (k2 n2 : Int) (s2 : ByteArray)
/-- What it says of two values. -/
theorem ordZ_cases : (ordZ k n s k' n' s' = -1 ∧ (k < k' ∨ (k = k' ∧ (n < n' ∨ (n = n' ∧ Op.bytesLess s.toList s'.toList = true))))) ∨ (ordZ k n s k' n' s' = 0 ∧ k = k' ∧ n = n' ∧ s.toList = s'.toList) ∨
    (ordZ k n s k' n' s' = 1 ∧ (k' < k ∨ (k' = k ∧ (n' < n ∨ (n' = n ∧ Op.bytesLess s'.toList s.toList = true))))) := by
  unfold ordZ
  rcases cmpI_cases k k' with ⟨e, h⟩ | ⟨e, h⟩ | ⟨e, h⟩
  · simp [e, h]
  · subst h
    rcases cmpI_cases n n' with ⟨f, g⟩ | ⟨f, g⟩ | ⟨f, g⟩
    · simp [e, f, g]
    · subst g
      rcases cmpS_cases s s' with ⟨a, b, _⟩ | ⟨a, b⟩ | ⟨a, b, _⟩
      · simp [e, f, a, b]
      · simp [e, f, a, b]
      · simp [e, f, a, b]
    · simp [e, f, g]
  · simp [e, h]
theorem ordZ_turn : ordZ k' n' s' k n s = -ordZ k n s k' n' s' := by
  have irr := less_irrefl s.toList
  rcases ordZ_cases k n s k' n' s' with ⟨e, h⟩ | ⟨e, h⟩ | ⟨e, h⟩ <;> rcases ordZ_cases k' n' s' k n s with ⟨f, g⟩ | ⟨f, g⟩ | ⟨f, g⟩ <;> rw [e, f] <;> try rfl
  · exfalso
    rcases h with h | ⟨h, h' | ⟨h', h2⟩⟩ <;> rcases g with g | ⟨g, g' | ⟨g', g2⟩⟩ <;> try omega
    have := less_trans _ _ _ h2 g2
    rw [irr] at this
    cases this
  · exfalso
    rcases h with h | ⟨h, h' | ⟨h', h2⟩⟩ <;> obtain ⟨g, g', g2⟩ := g <;> try omega
    rw [g2, irr] at h2; cases h2
  · exfalso
    rcases g with g | ⟨g, g' | ⟨g', g2⟩⟩ <;> obtain ⟨h, h', h2⟩ := h <;> try omega
    rw [h2, less_irrefl] at g2; cases g2
  · exfalso
    rcases g with g | ⟨g, g' | ⟨g', g2⟩⟩ <;> obtain ⟨h, h', h2⟩ := h <;> try omega
    rw [h2, less_irrefl] at g2; cases g2
  · exfalso
    rcases h with h | ⟨h, h' | ⟨h', h2⟩⟩ <;> obtain ⟨g, g', g2⟩ := g <;> try omega
    rw [g2, irr] at h2; cases h2
  · exfalso
    rcases h with h | ⟨h, h' | ⟨h', h2⟩⟩ <;> rcases g with g | ⟨g, g' | ⟨g', g2⟩⟩ <;> try omega
    have := less_trans _ _ _ g2 h2
    rw [irr] at this
    cases this
/-- And it goes on. -/
theorem ordZ_trans (h1 : ordZ k n s k' n' s' ≤ 0) (h2 : ordZ k' n' s' k2 n2 s2 ≤ 0) : ordZ k n s k2 n2 s2 ≤ 0 := by
  have irr := less_irrefl s.toList
  rcases ordZ_cases k n s k2 n2 s2 with ⟨e, h⟩ | ⟨e, h⟩ | ⟨e, h⟩
  · omega
  · omega
  · exfalso
    rcases ordZ_cases k n s k' n' s' with ⟨f, g⟩ | ⟨f, g, g', g2⟩ | ⟨f, g⟩
    · rcases ordZ_cases k' n' s' k2 n2 s2 with ⟨a, b⟩ | ⟨a, b, b', b2⟩ | ⟨a, b⟩
      · rcases h with h | ⟨h, h' | ⟨h', hh⟩⟩ <;> rcases g with g | ⟨g, g' | ⟨g', gg⟩⟩ <;> rcases b with b | ⟨b, b' | ⟨b', bb⟩⟩ <;> try omega
        have := less_trans _ _ _ (less_trans _ _ _ gg bb) hh
        rw [irr] at this
        cases this
      · rw [← b2] at h
        rcases h with h | ⟨h, h' | ⟨h', hh⟩⟩ <;> rcases g with g | ⟨g, g' | ⟨g', gg⟩⟩ <;> try omega
        have := less_trans _ _ _ gg hh
        rw [irr] at this
        cases this
      · omega
    · rcases ordZ_cases k' n' s' k2 n2 s2 with ⟨a, b⟩ | ⟨a, b, b', b2⟩ | ⟨a, b⟩
      · rw [← g2] at b
        rcases h with h | ⟨h, h' | ⟨h', hh⟩⟩ <;> rcases b with b | ⟨b, b' | ⟨b', bb⟩⟩ <;> try omega
        have := less_trans _ _ _ bb hh
        rw [irr] at this
        cases this
      · rw [← b2, ← g2] at h
        rcases h with h | ⟨h, h' | ⟨h', hh⟩⟩ <;> try omega
        rw [irr] at hh
        cases hh
      · omega
    · omega
end Go.Proofs.Ytcdehohmgfocdaa
