/-
  Words of a text: of no program. Spans, signs, the token that bytes begin with, all tokens of a text.
-/
import Derived.Test.YtdfmehbnhdhbcaaDoorQuoteMath
import Derived.Test.YtdfmehbnhdhbcaaDoorWordMath
namespace Go.Proofs.YtdfmehbnhdhbcaaDoor
open Go.RowKit

def blankB (c : Int) : Bool := decide (c = 32 ∨ c = 9 ∨ c = 10)
def namedB (c : Int) : Bool := decide (97 ≤ c ∧ c ≤ 122 ∨ 48 ≤ c ∧ c ≤ 57 ∨ c = 95)
/-- How many bytes there are ahead of the first that is none. -/
def spanN (p : Int → Bool) : List Int → Nat
  | [] => 0
  | c :: r => if p c then spanN p r + 1 else 0
theorem spanN_cons (p : Int → Bool) (c : Int) (r : List Int) : spanN p (c :: r) = if p c then spanN p r + 1 else 0 := rfl
theorem spanN_le (p : Int → Bool) : ∀ l : List Int, spanN p l ≤ l.length
  | [] => Nat.le_refl _
  | c :: r => by
    rw [spanN_cons, List.length_cons]
    have := spanN_le p r
    split <;> omega
theorem spanN_pos {p : Int → Bool} {c : Int} {r : List Int} (h : p c = true) : 1 ≤ spanN p (c :: r) := by
  rw [spanN_cons, if_pos h]; omega
/-- A span, by places. -/
theorem spanN_is (p : Int → Bool) : ∀ (l : List Int) (k : Nat), k ≤ l.length → (∀ j, j < k → p (l[j]?.getD 0) = true) → (k = l.length ∨ p (l[k]?.getD 0) = false) → spanN p l = k
  | [], k, hk, _, _ => by simp at hk; subst hk; rfl
  | c :: r, k, hk, hj, he => by
    rw [spanN_cons]
    cases k with
    | zero =>
      rcases he with he | he
      · simp at he
      · simp at he; simp [he]
    | succ k =>
      have h0 := hj 0 (by omega)
      simp at h0
      rw [if_pos h0, spanN_is p r k (by simpa using hk) (fun j hjk => by have := hj (j + 1) (by omega); simpa using this) (by simpa using he)]
theorem span_str (p : Int → Bool) (s : ByteArray) (k : Nat) (hk : k ≤ s.size) (hj : ∀ j, j < k → p (byteAt s j) = true) (he : k = s.size ∨ p (byteAt s k) = false) : spanN p (bytesS s) = k :=
  spanN_is p (bytesS s) k (by rw [bytesS_length]; exact hk) hj (by rw [bytesS_length]; exact he)
/-- What comes behind that is of another kind changes no span. -/
theorem spanN_stop (p : Int → Bool) (b : Int) (m : List Int) (hb : p b = false) : ∀ l : List Int, spanN p (l ++ b :: m) = spanN p l
  | [] => by show spanN p (b :: m) = 0; rw [spanN_cons, hb]; rfl
  | c :: r => by
    rw [List.cons_append, spanN_cons, spanN_cons, spanN_stop p b m hb r]

/-- The signs, the longer ones ahead. -/
def signsL : List (List Int) := [[60, 61], [62, 61], [60, 62], [45, 62], [40], [41], [44], [46], [43], [45], [42], [47], [37], [61], [60], [62], [33], [124], [123], [125], [91], [93]]
def preB (l g : List Int) : Bool := l.take g.length == g
/-- The sign that bytes begin with; none. -/
def sgnL (l : List Int) : List Int := (signsL.find? (preB l)).getD []
def twoB (a b : Int) : Bool := decide (a = 60 ∧ b = 61 ∨ a = 62 ∧ b = 61 ∨ a = 60 ∧ b = 62 ∨ a = 45 ∧ b = 62)
def singles : List Int := [40, 41, 44, 46, 43, 45, 42, 47, 37, 61, 60, 62, 33, 124, 123, 125, 91, 93]
theorem sgnL_nil : sgnL [] = [] := by decide
theorem pre_one (a c : Int) (r : List Int) : preB (a :: r) [c] = decide (a = c) := by
  unfold preB; rw [Bool.eq_iff_iff]; simp
theorem pre_two_nil (a c d : Int) : preB [a] [c, d] = false := by unfold preB; simp
theorem pre_two (a b c d : Int) (r : List Int) : preB (a :: b :: r) [c, d] = decide (a = c ∧ b = d) := by
  unfold preB; rw [Bool.eq_iff_iff]; simp
theorem find_ones (a : Int) (r : List Int) : ∀ L : List Int, ((L.map fun c => [c]).find? (preB (a :: r))).getD [] = if a ∈ L then [a] else []
  | [] => by simp
  | c :: L => by
    rw [List.map_cons, List.find?_cons, pre_one]
    by_cases h : a = c
    · simp [h]
    · have IH := find_ones a r L
      simp only [h, decide_false, List.mem_cons, false_or]
      exact IH
theorem sgnL_one (a : Int) : sgnL [a] = if a ∈ singles then [a] else [] := by
  unfold sgnL signsL
  simp only [List.find?_cons, pre_two_nil]
  exact find_ones a [] singles
theorem sgnL_two (a b : Int) (r : List Int) : sgnL (a :: b :: r) = if twoB a b then [a, b] else if a ∈ singles then [a] else [] := by
  have F := find_ones a (b :: r) singles
  unfold sgnL signsL
  simp only [List.find?_cons, pre_two]
  unfold twoB
  by_cases h1 : a = 60 ∧ b = 61
  · obtain ⟨rfl, rfl⟩ := h1; simp
  by_cases h2 : a = 62 ∧ b = 61
  · obtain ⟨rfl, rfl⟩ := h2; simp
  by_cases h3 : a = 60 ∧ b = 62
  · obtain ⟨rfl, rfl⟩ := h3; simp
  by_cases h4 : a = 45 ∧ b = 62
  · obtain ⟨rfl, rfl⟩ := h4; simp
  simp only [h1, h2, h3, h4, decide_false, or_self, Bool.false_eq_true, if_false]
  exact F
/-- A sign that stands there is what stands there. -/
theorem sgnL_take (l : List Int) : l.take (sgnL l).length = sgnL l ∧ (sgnL l).length ≤ l.length := by
  match l with
  | [] => rw [sgnL_nil]; simp
  | [a] => rw [sgnL_one]; split <;> simp
  | a :: b :: r =>
    rw [sgnL_two]
    split
    · simp
    · split <;> simp
theorem sgnL_behind (c : Int) (r : List Int) (b : Int) (m : List Int) (hb : blankB b = true) : sgnL (c :: r ++ b :: m) = sgnL (c :: r) := by
  match r with
  | [] =>
    show sgnL (c :: b :: m) = sgnL [c]
    rw [sgnL_one, sgnL_two]
    have : twoB c b = false := by
      unfold blankB at hb; simp only [decide_eq_true_eq] at hb
      unfold twoB; simp only [decide_eq_false_iff_not]; omega
    rw [this]; rfl
  | d :: r =>
    show sgnL (c :: d :: (r ++ b :: m)) = sgnL (c :: d :: r)
    rw [sgnL_two, sgnL_two]

/-- The token that bytes begin with: its kind, its text, how long it is there, the error (then how far the place is). -/
def strR (k : Int) (p : Int → Bool) (m : Nat) (l : List Int) : Int × List Int × Nat × Int := if m < spanN p l then (0, [], 0, 4) else (k, l.take (spanN p l), spanN p l, 0)
def sigR (l : List Int) : Int × List Int × Nat × Int := if sgnL l = [] then (0, [], 0, 4) else (5, sgnL l, (sgnL l).length, 0)
def unqT (l : List Int) : Int × List Int × Nat × Int := (4, (unquoteR l).1, (unquoteR l).2.1, (unquoteR l).2.2)
def mostD (c : Int) : Nat := if c = 48 then 1 else 19
def oneR : List Int → Int × List Int × Nat × Int
  | [] => (0, [], 0, 4)
  | c :: r => if digitB c then strR 3 digitB (mostD c) (c :: r) else if largeB c then strR 1 largeB 32 (c :: r) else if smallB c then strR 2 namedB 32 (c :: r) else if c = 39 then unqT (c :: r) else sigR (c :: r)
theorem oneR_cons (c : Int) (r : List Int) : oneR (c :: r) = if digitB c then strR 3 digitB (mostD c) (c :: r) else if largeB c then strR 1 largeB 32 (c :: r) else if smallB c then strR 2 namedB 32 (c :: r) else if c = 39 then unqT (c :: r) else sigR (c :: r) := rfl

/-- What is known of a token. -/
structure OneOk (l : List Int) (R : Int × List Int × Nat × Int) : Prop where
  err : R.2.2.2 = 0 ∨ R.2.2.2 = 2 ∨ R.2.2.2 = 4
  far : R.2.2.1 ≤ l.length
  bytes : ∀ c ∈ R.2.1, 0 ≤ c ∧ c ≤ 255
  pos : R.2.2.2 = 0 → 1 ≤ R.2.2.1
  kind : R.2.2.2 = 0 → 1 ≤ R.1 ∧ R.1 ≤ 5
  text : R.2.2.2 = 0 → R.1 ≠ 4 → l.take R.2.1.length = R.2.1 ∧ R.2.1.length ≤ l.length
  behind : R.2.2.2 = 0 → ∀ b m, blankB b = true → oneR (l ++ b :: m) = R
theorem strR_ok (k : Int) (p : Int → Bool) (m : Nat) (c : Int) (r : List Int) (hp : p c = true) (hk : 1 ≤ k ∧ k ≤ 5) (hb : ∀ x ∈ c :: r, 0 ≤ x ∧ x ≤ 255) (hpb : ∀ b, blankB b = true → p b = false)
    (ho : ∀ l', oneR (c :: l') = strR k p m (c :: l')) : OneOk (c :: r) (strR k p m (c :: r)) := by
  have hn := spanN_pos (r := r) hp
  have hl := spanN_le p (c :: r)
  by_cases h : m < spanN p (c :: r)
  · have e : strR k p m (c :: r) = (0, [], 0, 4) := if_pos h
    rw [e]
    exact ⟨.inr (.inr rfl), Nat.zero_le _, by simp, by simp, by simp, by simp, by simp⟩
  · have e : strR k p m (c :: r) = (k, (c :: r).take (spanN p (c :: r)), spanN p (c :: r), 0) := if_neg h
    rw [e]
    refine ⟨.inl rfl, hl, fun x hx => hb x (List.mem_of_mem_take hx), fun _ => hn, fun _ => hk, fun _ _ => ?_, fun _ b m' hbb => ?_⟩
    · dsimp only
      rw [List.length_take, Nat.min_eq_left hl]
      exact ⟨rfl, hl⟩
    · rw [List.cons_append, ho, ← List.cons_append]
      unfold strR
      rw [spanN_stop p b m' (hpb b hbb), if_neg h, List.take_append_of_le_length hl]
theorem blank_not (b : Int) (h : blankB b = true) : digitB b = false ∧ largeB b = false ∧ namedB b = false := by
  unfold blankB at h; simp only [decide_eq_true_eq] at h
  unfold digitB largeB namedB
  simp only [decide_eq_false_iff_not]
  omega
theorem oneR_ok (c : Int) (r : List Int) (hb : ∀ x ∈ c :: r, 0 ≤ x ∧ x ≤ 255) : OneOk (c :: r) (oneR (c :: r)) := by
  rw [oneR_cons]
  by_cases h1 : digitB c = true
  · rw [if_pos h1]
    exact strR_ok 3 digitB (mostD c) c r h1 (by omega) hb (fun b h => (blank_not b h).1) fun l' => by rw [oneR_cons, if_pos h1]
  rw [if_neg h1]
  by_cases h2 : largeB c = true
  · rw [if_pos h2]
    exact strR_ok 1 largeB 32 c r h2 (by omega) hb (fun b h => (blank_not b h).2.1) fun l' => by rw [oneR_cons, if_neg h1, if_pos h2]
  rw [if_neg h2]
  by_cases h3 : smallB c = true
  · rw [if_pos h3]
    refine strR_ok 2 namedB 32 c r ?_ (by omega) hb (fun b h => (blank_not b h).2.2) fun l' => by rw [oneR_cons, if_neg h1, if_neg h2, if_pos h3]
    unfold smallB at h3; unfold namedB; simp only [decide_eq_true_eq] at h3 ⊢; exact .inl h3
  rw [if_neg h3]
  by_cases h4 : c = 39
  · rw [if_pos h4]
    obtain ⟨u1, u2, u3⟩ := unquote_one (c :: r) hb
    have hin : ∀ l', oneR (c :: l') = unqT (c :: l') := fun l' => by rw [oneR_cons, if_neg h1, if_neg h2, if_neg h3, if_pos h4]
    unfold unqT at hin ⊢
    by_cases he : (unquoteR (c :: r)).2.2 = 0
    · obtain ⟨m, m1, m2, m3, m4, m5, m6⟩ := u1 he
      refine ⟨u3, by dsimp only; omega, m6, fun _ => by dsimp only; omega, fun _ => by dsimp only; omega, fun _ h => absurd rfl h, fun _ b m' _ => ?_⟩
      rw [List.cons_append, hin, ← List.cons_append]
      have e : c :: r ++ b :: m' = quoteL (unquoteR (c :: r)).1 ++ ((c :: r).drop m ++ b :: m') := by
        rw [← m4, ← List.append_assoc, List.take_append_drop]
      have hq : (quoteL (unquoteR (c :: r)).1).length = (unquoteR (c :: r)).2.1 := by
        rw [← m4, List.length_take]; omega
      rw [e, unquote_back _ _ m6 m5, hq, he]
    · obtain ⟨v1, v2⟩ := u2 he
      refine ⟨u3, v2, ?_, fun h => absurd h he, fun h => absurd h he, fun h => absurd h he, fun h => absurd h he⟩
      dsimp only
      rw [v1]; simp
  rw [if_neg h4]
  have hin : ∀ l', oneR (c :: l') = sigR (c :: l') := fun l' => by rw [oneR_cons, if_neg h1, if_neg h2, if_neg h3, if_neg h4]
  obtain ⟨t1, t2⟩ := sgnL_take (c :: r)
  by_cases hs : sgnL (c :: r) = []
  · have e : sigR (c :: r) = (0, [], 0, 4) := if_pos hs
    rw [e]
    exact ⟨.inr (.inr rfl), Nat.zero_le _, by simp, by simp, by simp, by simp, by simp⟩
  · have e : sigR (c :: r) = (5, sgnL (c :: r), (sgnL (c :: r)).length, 0) := if_neg hs
    rw [e]
    refine ⟨.inl rfl, t2, fun x hx => hb x (List.mem_of_mem_take (t1 ▸ hx)), fun _ => ?_, fun _ => by dsimp only; omega, fun _ _ => ⟨t1, t2⟩, fun _ b m' hbb => ?_⟩
    · exact Nat.one_le_iff_ne_zero.2 fun h => hs (List.eq_nil_of_length_eq_zero h)
    · rw [List.cons_append, hin, ← List.cons_append]
      unfold sigR
      rw [sgnL_behind c r b m' hbb, if_neg hs]

/-- A token: kind, text, place. -/
structure Tk where
  k : Int
  s : ByteArray
  p : Nat
def consT (t : Tk) (R : List Tk × Nat × Int) : List Tk × Nat × Int := if R.2.2 = 0 then (t :: R.1, R.2.1, 0) else ([], R.2.1, R.2.2)
def glueT (acc : List Tk) (R : List Tk × Nat × Int) : List Tk × Nat × Int := if R.2.2 = 0 then (acc ++ R.1, R.2.1, 0) else ([], R.2.1, R.2.2)
/-- All tokens from place i on, no blank ahead. -/
def tokR : Nat → Nat → List Int → List Tk × Nat × Int
  | 0, i, _ => ([], i, 4)
  | _ + 1, i, [] => ([⟨6, ⟨#[]⟩, i⟩], i, 0)
  | f + 1, i, c :: r => if (oneR (c :: r)).2.2.2 = 0 then
      consT ⟨(oneR (c :: r)).1, strOf (oneR (c :: r)).2.1, i⟩ (tokR f (i + (oneR (c :: r)).2.2.1 + spanN blankB ((c :: r).drop (oneR (c :: r)).2.2.1)) (((c :: r).drop (oneR (c :: r)).2.2.1).drop (spanN blankB ((c :: r).drop (oneR (c :: r)).2.2.1))))
    else ([], i + (oneR (c :: r)).2.2.1, (oneR (c :: r)).2.2.2)
def allR (f i : Nat) (l : List Int) : List Tk × Nat × Int := tokR f (i + spanN blankB l) (l.drop (spanN blankB l))
/-- All tokens of a text. -/
def allZ (s : ByteArray) : List Tk × Nat × Int := if 8192 < s.size then ([], 0, 2) else allR (s.size + 1) 0 (bytesS s)

theorem tokR_nil (f i : Nat) : tokR (f + 1) i [] = ([⟨6, ⟨#[]⟩, i⟩], i, 0) := rfl
theorem tokR_cons (f i : Nat) (c : Int) (r : List Int) : tokR (f + 1) i (c :: r) = if (oneR (c :: r)).2.2.2 = 0 then
      consT ⟨(oneR (c :: r)).1, strOf (oneR (c :: r)).2.1, i⟩ (allR f (i + (oneR (c :: r)).2.2.1) ((c :: r).drop (oneR (c :: r)).2.2.1))
    else ([], i + (oneR (c :: r)).2.2.1, (oneR (c :: r)).2.2.2) := rfl
theorem glue_nil (R : List Tk × Nat × Int) (h : R.2.2 ≠ 0 → R.1 = []) : glueT [] R = R := by
  obtain ⟨a, b, c⟩ := R
  unfold glueT
  dsimp only at h ⊢
  split
  · rename_i e; rw [e]; simp
  · rename_i e; rw [h e]
theorem glue_cons (acc : List Tk) (t : Tk) (R : List Tk × Nat × Int) : glueT acc (consT t R) = glueT (acc ++ [t]) R := by
  unfold glueT consT
  by_cases h : R.2.2 = 0
  · simp [h]
  · simp [h]
theorem allR_blank (f i : Nat) (c : Int) (r : List Int) (h : blankB c = true) : allR f i (c :: r) = allR f (i + 1) r := by
  unfold allR
  rw [spanN_cons, if_pos h, List.drop_succ_cons]
  congr 1
  omega
theorem allR_not (f i : Nat) (c : Int) (r : List Int) (h : blankB c = false) : allR f i (c :: r) = tokR f i (c :: r) := by
  unfold allR
  rw [spanN_cons, h]
  rfl
theorem allR_nil (f i : Nat) : allR f i [] = tokR f i [] := rfl
/-- An error has no tokens; its place lies within. -/
theorem tok_err : ∀ (f i : Nat) (l : List Int), l.length < f → (∀ x ∈ l, 0 ≤ x ∧ x ≤ 255) → ((tokR f i l).2.2 ≠ 0 → (tokR f i l).1 = []) ∧ (tokR f i l).2.1 ≤ i + l.length ∧ ((tokR f i l).2.2 = 0 ∨ (tokR f i l).2.2 = 2 ∨ (tokR f i l).2.2 = 4) ∧ ((tokR f i l).2.2 = 0 → (tokR f i l).2.1 = i + l.length) ∧ (tokR f i l).1.length ≤ l.length + 1
  | 0, _, _, h, _ => by omega
  | f + 1, i, [], _, _ => by rw [tokR_nil]; simp
  | f + 1, i, c :: r, hf, hb => by
    have O := oneR_ok c r hb
    rw [tokR_cons]
    by_cases he : (oneR (c :: r)).2.2.2 = 0
    · rw [if_pos he]
      have hp := O.pos he
      have hl := O.far
      generalize oneR (c :: r) = R at O he hp hl
      obtain ⟨k, S, n, e⟩ := R
      dsimp only at he hp hl ⊢
      have hs := spanN_le blankB ((c :: r).drop n)
      rw [List.length_drop] at hs
      have IH := tok_err f (i + n + spanN blankB ((c :: r).drop n)) (((c :: r).drop n).drop (spanN blankB ((c :: r).drop n))) (by rw [List.length_drop, List.length_drop]; simp at hf hl ⊢; omega) (fun x hx => hb x (List.mem_of_mem_drop (List.mem_of_mem_drop hx)))
      rw [List.length_drop, List.length_drop] at IH
      unfold allR
      generalize tokR f (i + n + spanN blankB ((c :: r).drop n)) (((c :: r).drop n).drop (spanN blankB ((c :: r).drop n))) = Q at IH
      obtain ⟨i1, i2, i3, i4, i5⟩ := IH
      unfold consT
      by_cases hq : Q.2.2 = 0
      · rw [if_pos hq]
        have := i4 hq
        dsimp only
        exact ⟨fun h => absurd rfl h, by omega, .inl rfl, fun _ => by omega, by simp at i5 ⊢; omega⟩
      · rw [if_neg hq]
        dsimp only
        exact ⟨fun _ => rfl, by omega, i3, fun h => absurd h hq, by simp⟩
    · rw [if_neg he]
      have hl := O.far
      have h3 := O.err
      generalize oneR (c :: r) = R at he hl h3
      exact ⟨fun _ => rfl, by dsimp only; omega, h3, fun h => absurd h he, by simp⟩
theorem allZ_small (s : ByteArray) (h : s.size ≤ 8192) : allZ s = allR (s.size + 1) 0 (bytesS s) := if_neg (by omega)
theorem allZ_err (s : ByteArray) : ((allZ s).2.2 ≠ 0 → (allZ s).1 = []) ∧ (allZ s).2.1 ≤ s.size ∧ ((allZ s).2.2 = 0 ∨ (allZ s).2.2 = 2 ∨ (allZ s).2.2 = 4) ∧ ((allZ s).2.2 = 0 → (allZ s).2.1 = s.size) ∧ (allZ s).1.length ≤ 8193 := by
  by_cases h : 8192 < s.size
  · have e : allZ s = ([], 0, 2) := if_pos h
    rw [e]
    simp
  · rw [allZ_small s (by omega)]
    unfold allR
    have hs := spanN_le blankB (bytesS s)
    have hl := bytesS_length s
    have T := tok_err (s.size + 1) (0 + spanN blankB (bytesS s)) ((bytesS s).drop (spanN blankB (bytesS s))) (by rw [List.length_drop]; omega) (fun x hx => bytesS_bd s x (List.mem_of_mem_drop hx))
    rw [List.length_drop] at T
    obtain ⟨t1, t2, t3, t4, t5⟩ := T
    exact ⟨t1, by omega, t3, fun h => by have := t4 h; omega, by omega⟩
end Go.Proofs.YtdfmehbnhdhbcaaDoor
