/-
  Quoted texts: of no program. What a byte is written as, what is read at a place, there and back, one way.
-/
import Derived.Test.YtdfmehbnhdhbcaaDoorTxt
namespace Go.Proofs.YtdfmehbnhdhbcaaDoor
open Go.RowKit

def plainB (c : Int) : Bool := decide (32 ≤ c ∧ c ≤ 126)
/-- The digit of a number below 16. -/
def hexD (d : Int) : Int := if d < 10 then 48 + d else 87 + d
/-- What a digit is worth; -1. -/
def dig (c : Int) : Int := if 48 ≤ c ∧ c ≤ 57 then c - 48 else if 97 ≤ c ∧ c ≤ 102 then c - 87 else -1
/-- How many digits come behind what stands behind a \; -1. -/
def escZ (c : Int) : Int := if c = 39 ∨ c = 92 then 0 else if c = 120 then 2 else -1
/-- A byte, within quotes. -/
def signL (c : Int) : List Int := if plainB c then (if c = 39 ∨ c = 92 then [92, c] else [c]) else [92, 120, hexD (c / 16), hexD (c % 16)]
def bodyL (l : List Int) : List Int := l.flatMap signL
def quoteL (l : List Int) : List Int := 39 :: (bodyL l ++ [39])
/-- What is read at place i, behind which r stands: the byte, the place behind it, or the place of what can't be. -/
def hexR (i : Nat) : List Int → Int × Nat × Bool
  | [] => (0, i + 2, false)
  | e :: r => if dig e < 0 then (0, i + 2, false) else match r with
    | [] => (0, i + 3, false)
    | g :: _ => if dig g < 0 then (0, i + 3, false) else if plainB (16 * dig e + dig g) then (0, i, false) else (16 * dig e + dig g, i + 4, true)
def escR (i : Nat) : List Int → Int × Nat × Bool
  | [] => (0, i + 1, false)
  | d :: r => if d = 39 ∨ d = 92 then (d, i + 2, true) else if d = 120 then hexR i r else (0, i + 1, false)
def signR (i : Nat) : List Int → Int × Nat × Bool
  | [] => (0, i, false)
  | c :: r => if plainB c then (if c = 92 then escR i r else (c, i + 1, true)) else (0, i, false)
/-- What is read from place i on, behind the bytes acc: the text, the place, the error. -/
def unqR : Nat → Nat → List Int → List Int → List Int × Nat × Int
  | 0, i, _, _ => ([], i, 4)
  | _ + 1, i, _, [] => ([], i, 4)
  | f + 1, i, acc, c :: r => if c = 39 then (if 256 < acc.length then ([], 0, 2) else (acc, i + 1, 0))
    else if (signR i (c :: r)).2.2 then unqR f (signR i (c :: r)).2.1 (acc ++ [(signR i (c :: r)).1]) ((c :: r).drop ((signR i (c :: r)).2.1 - i)) else ([], (signR i (c :: r)).2.1, 4)
def unquoteR : List Int → List Int × Nat × Int
  | [] => ([], 0, 4)
  | c :: r => if c = 39 then unqR (r.length + 1) 1 [] r else ([], 0, 4)

theorem signR_cons (i : Nat) (c : Int) (r : List Int) : signR i (c :: r) = if plainB c then (if c = 92 then escR i r else (c, i + 1, true)) else (0, i, false) := rfl
theorem escR_cons (i : Nat) (d : Int) (r : List Int) : escR i (d :: r) = if d = 39 ∨ d = 92 then (d, i + 2, true) else if d = 120 then hexR i r else (0, i + 1, false) := rfl
theorem hexR_one (i : Nat) (e : Int) : hexR i [e] = if dig e < 0 then (0, i + 2, false) else (0, i + 3, false) := rfl
theorem hexR_cons (i : Nat) (e g : Int) (r : List Int) : hexR i (e :: g :: r) = if dig e < 0 then (0, i + 2, false) else if dig g < 0 then (0, i + 3, false) else if plainB (16 * dig e + dig g) then (0, i, false) else (16 * dig e + dig g, i + 4, true) := rfl
theorem unqR_nil (f i : Nat) (acc : List Int) : unqR (f + 1) i acc [] = ([], i, 4) := rfl
theorem unqR_cons (f i : Nat) (acc : List Int) (c : Int) (r : List Int) : unqR (f + 1) i acc (c :: r) = if c = 39 then (if 256 < acc.length then ([], 0, 2) else (acc, i + 1, 0))
    else if (signR i (c :: r)).2.2 then unqR f (signR i (c :: r)).2.1 (acc ++ [(signR i (c :: r)).1]) ((c :: r).drop ((signR i (c :: r)).2.1 - i)) else ([], (signR i (c :: r)).2.1, 4) := rfl
theorem unquoteR_cons (c : Int) (r : List Int) : unquoteR (c :: r) = if c = 39 then unqR (r.length + 1) 1 [] r else ([], 0, 4) := rfl

theorem hexD_bd (d : Int) (h0 : 0 ≤ d) (h1 : d < 16) : 48 ≤ hexD d ∧ hexD d ≤ 102 ∧ hexD d ≠ 92 := by
  unfold hexD; split <;> omega
theorem dig_hexD (d : Int) (h0 : 0 ≤ d) (h1 : d < 16) : dig (hexD d) = d := by
  unfold dig hexD; repeat' split
  all_goals omega
theorem hexD_dig (c : Int) (h : 0 ≤ dig c) : hexD (dig c) = c ∧ dig c < 16 := by
  unfold dig at h ⊢; unfold hexD; repeat' split
  all_goals (repeat' split at h)
  all_goals omega
theorem signL_bd (c : Int) (h0 : 0 ≤ c) (h1 : c ≤ 255) : ∀ d ∈ signL c, 32 ≤ d ∧ d ≤ 126 := by
  unfold signL plainB
  have a := hexD_bd (c / 16) (by omega) (by omega)
  have b := hexD_bd (c % 16) (by omega) (by omega)
  simp only [decide_eq_true_eq]
  repeat' split
  · intro d hd; simp at hd; omega
  · intro d hd; simp at hd; omega
  · intro d hd; simp at hd; omega
theorem signL_len (c : Int) : 1 ≤ (signL c).length ∧ (signL c).length ≤ 4 := by
  unfold signL; repeat' split
  all_goals simp
theorem bodyL_cons (c : Int) (l : List Int) : bodyL (c :: l) = signL c ++ bodyL l := by simp [bodyL]
theorem bodyL_snoc (c : Int) (l : List Int) : bodyL (l ++ [c]) = bodyL l ++ signL c := by simp [bodyL]
theorem bodyL_append (l m : List Int) : bodyL (l ++ m) = bodyL l ++ bodyL m := by simp [bodyL]
theorem bodyL_len (l : List Int) : (bodyL l).length ≤ 4 * l.length := by
  induction l with
  | nil => simp [bodyL]
  | cons c l ih => rw [bodyL_cons, List.length_append, List.length_cons]; have := (signL_len c).2; omega
theorem bodyL_bd (l : List Int) (h : ∀ c ∈ l, 0 ≤ c ∧ c ≤ 255) : ∀ d ∈ bodyL l, 32 ≤ d ∧ d ≤ 126 := by
  intro d hd
  obtain ⟨c, hc, hd⟩ := List.mem_flatMap.1 hd
  exact signL_bd c (h c hc).1 (h c hc).2 d hd
theorem quoteL_bd (l : List Int) (h : ∀ c ∈ l, 0 ≤ c ∧ c ≤ 255) : ∀ d ∈ quoteL l, 32 ≤ d ∧ d ≤ 126 := by
  intro d hd
  unfold quoteL at hd
  simp at hd
  rcases hd with rfl | hd | rfl
  · omega
  · exact bodyL_bd l h d hd
  · omega

/-- There: what is written of a byte is read as it. -/
theorem sign_back (i : Nat) (c : Int) (r : List Int) (h0 : 0 ≤ c) (h1 : c ≤ 255) : signR i (signL c ++ r) = (c, i + (signL c).length, true) ∧ ∃ d t, signL c ++ r = d :: t ∧ d ≠ 39 := by
  unfold signL
  by_cases hp : plainB c = true
  · rw [if_pos hp]
    by_cases hq : c = 39 ∨ c = 92
    · rw [if_pos hq]
      refine ⟨?_, 92, _, rfl, by omega⟩
      show signR i (92 :: c :: r) = _
      rw [signR_cons, if_pos (by decide), if_pos rfl, escR_cons, if_pos hq]
      rfl
    · rw [if_neg hq]
      refine ⟨?_, c, _, rfl, by omega⟩
      show signR i (c :: r) = _
      rw [signR_cons, if_pos hp, if_neg (by omega)]
      rfl
  · rw [if_neg hp]
    refine ⟨?_, 92, _, rfl, by omega⟩
    show signR i (92 :: 120 :: hexD (c / 16) :: hexD (c % 16) :: r) = _
    rw [signR_cons, if_pos (by decide), if_pos rfl, escR_cons, if_neg (by omega), if_pos rfl, hexR_cons]
    have e : 16 * (c / 16) + c % 16 = c := by omega
    simp only [dig_hexD (c / 16) (by omega) (by omega), dig_hexD (c % 16) (by omega) (by omega), e]
    rw [if_neg (by omega), if_neg (by omega), if_neg hp]
    rfl
theorem unq_back : ∀ (l : List Int) (f i : Nat) (acc r : List Int), (∀ c ∈ l, 0 ≤ c ∧ c ≤ 255) → l.length < f → acc.length + l.length ≤ 256 → unqR f i acc (bodyL l ++ 39 :: r) = (acc ++ l, i + (bodyL l).length + 1, 0)
  | [], f + 1, i, acc, r, _, _, hl => by
    show unqR (f + 1) i acc (39 :: r) = _
    rw [unqR_cons, if_pos rfl, if_neg (by simp at hl; omega)]
    simp [bodyL]
  | c :: l, f + 1, i, acc, r, hb, hf, hl => by
    have hc := hb c (by simp)
    rw [bodyL_cons, List.append_assoc]
    obtain ⟨hs, d, t, ht, hd⟩ := sign_back i c (bodyL l ++ 39 :: r) hc.1 hc.2
    rw [ht] at hs ⊢
    rw [unqR_cons, if_neg hd, hs]
    simp only [if_true]
    have e : (d :: t).drop (i + (signL c).length - i) = bodyL l ++ 39 :: r := by
      rw [← ht, Nat.add_sub_cancel_left, List.drop_left]
    rw [e, unq_back l f _ _ r (fun x hx => hb x (by simp [hx])) (by simp at hf; omega) (by simp at hl ⊢; omega)]
    simp
    omega
  | l, 0, _, _, _, _, hf, _ => by omega
theorem unquote_back (l r : List Int) (hb : ∀ c ∈ l, 0 ≤ c ∧ c ≤ 255) (hl : l.length ≤ 256) : unquoteR (quoteL l ++ r) = (l, (quoteL l).length, 0) := by
  have e : quoteL l ++ r = 39 :: (bodyL l ++ 39 :: r) := by simp [quoteL]
  have hlen : l.length ≤ (bodyL l).length := by
    clear e hl
    induction l with
    | nil => simp
    | cons c l ih => rw [bodyL_cons, List.length_append, List.length_cons]; have := (signL_len c).1; have := ih (fun x hx => hb x (by simp [hx])); omega
  rw [e]
  rw [unquoteR_cons, if_pos rfl, unq_back l _ 1 [] r hb (by simp; omega) (by simpa using hl)]
  simp [quoteL]
  omega

/-- Back: what is read as a byte is just what is written of it. -/
theorem sign_one (i : Nat) (c : Int) (r : List Int) (h39 : c ≠ 39) (h : (signR i (c :: r)).2.2 = true) (hb : ∀ x ∈ c :: r, 0 ≤ x ∧ x ≤ 255) :
    ∃ m, (signR i (c :: r)).2.1 = i + m ∧ m ≤ (c :: r).length ∧ 1 ≤ m ∧ (c :: r).take m = signL (signR i (c :: r)).1 ∧ 0 ≤ (signR i (c :: r)).1 ∧ (signR i (c :: r)).1 ≤ 255 := by
  have hc := hb c (by simp)
  rw [signR_cons] at h ⊢
  by_cases hp : plainB c = true
  · rw [if_pos hp] at h ⊢
    by_cases h92 : c = 92
    · rw [if_pos h92] at h ⊢
      subst h92
      match r, h, hb with
      | [], h, _ => simp [escR] at h
      | d :: r, h, hb =>
        have hd := hb d (by simp)
        rw [escR_cons] at h ⊢
        by_cases hq : d = 39 ∨ d = 92
        · rw [if_pos hq] at h ⊢
          have hpd : plainB d = true := by unfold plainB; simp only [decide_eq_true_eq]; omega
          exact ⟨2, rfl, by simp, by omega, by simp [signL, hpd, hq], by simpa using hd⟩
        · rw [if_neg hq] at h ⊢
          by_cases hx : d = 120
          · rw [if_pos hx] at h ⊢
            subst hx
            match r, h with
            | [], h => simp [hexR] at h
            | [e], h =>
              rw [hexR_one] at h
              split at h
              · simp at h
              · simp at h
            | e :: g :: r, h =>
              rw [hexR_cons] at h ⊢
              by_cases h1 : dig e < 0
              · rw [if_pos h1] at h; simp at h
              · rw [if_neg h1] at h ⊢
                by_cases h2 : dig g < 0
                · rw [if_pos h2] at h; simp at h
                · rw [if_neg h2] at h ⊢
                  by_cases h3 : plainB (16 * dig e + dig g) = true
                  · rw [if_pos h3] at h; simp at h
                  · rw [if_neg h3]
                    have a := hexD_dig e (by omega)
                    have b := hexD_dig g (by omega)
                    refine ⟨4, rfl, by simp, by omega, ?_, by dsimp only; omega, by dsimp only; omega⟩
                    dsimp only
                    unfold signL
                    rw [if_neg h3, show (16 * dig e + dig g) / 16 = dig e by omega, show (16 * dig e + dig g) % 16 = dig g by omega, a.1, b.1]
                    simp
          · rw [if_neg hx] at h; simp at h
    · rw [if_neg h92] at h ⊢
      refine ⟨1, rfl, by simp, by omega, ?_, by simpa using hc⟩
      have : ¬ (c = 39 ∨ c = 92) := by omega
      simp [signL, hp, this]
  · rw [if_neg hp] at h; simp at h
/-- The place of what can't be lies within, too. -/
theorem sign_place (i : Nat) (l : List Int) : i ≤ (signR i l).2.1 ∧ (signR i l).2.1 ≤ i + l.length := by
  match l with
  | [] => simp [signR]
  | c :: r =>
    rw [signR_cons]
    split
    · split
      · match r with
        | [] => simp [escR]
        | d :: r =>
          rw [escR_cons]
          split
          · simp
          · split
            · match r with
              | [] => simp [hexR]
              | [e] => rw [hexR_one]; split <;> simp
              | e :: g :: r => rw [hexR_cons]; repeat' split
                               all_goals simp
            · simp
      · simp
    · simp
theorem unq_one : ∀ (f i : Nat) (acc l : List Int), l.length < f → (∀ c ∈ l, 0 ≤ c ∧ c ≤ 255) → (∀ c ∈ acc, 0 ≤ c ∧ c ≤ 255) →
    ((unqR f i acc l).2.2 = 0 → ∃ (r : List Int) (m : Nat), (unqR f i acc l).1 = acc ++ r ∧ (unqR f i acc l).2.1 = i + m ∧ m ≤ l.length ∧ l.take m = bodyL r ++ [39] ∧ (acc ++ r).length ≤ 256 ∧ ∀ c ∈ acc ++ r, 0 ≤ c ∧ c ≤ 255) ∧
    ((unqR f i acc l).2.2 ≠ 0 → (unqR f i acc l).1 = [] ∧ (unqR f i acc l).2.1 ≤ i + l.length) ∧ ((unqR f i acc l).2.2 = 0 ∨ (unqR f i acc l).2.2 = 2 ∨ (unqR f i acc l).2.2 = 4)
  | 0, _, _, _, h, _, _ => by omega
  | f + 1, i, acc, [], _, _, _ => by rw [unqR_nil]; simp
  | f + 1, i, acc, c :: r, hf, hb, ha => by
    rw [unqR_cons]
    by_cases h39 : c = 39
    · rw [if_pos h39]
      by_cases hl : 256 < acc.length
      · rw [if_pos hl]; simp
      · rw [if_neg hl]
        refine ⟨fun _ => ⟨[], 1, by simp, rfl, by simp, by simp [bodyL, h39], by simp; omega, by simpa using ha⟩, by simp, by simp⟩
    · rw [if_neg h39]
      by_cases hs : (signR i (c :: r)).2.2 = true
      · rw [if_pos hs]
        obtain ⟨m, hm, hml, hm1, ht, h0, h1⟩ := sign_one i c r h39 hs hb
        rw [hm, Nat.add_sub_cancel_left]
        have hdl : ((c :: r).drop m).length = (c :: r).length - m := List.length_drop
        have IH := unq_one f (i + m) (acc ++ [(signR i (c :: r)).1]) ((c :: r).drop m) (by rw [hdl]; omega) (fun x hx => hb x (List.mem_of_mem_drop hx)) (by
          intro x hx
          simp at hx
          rcases hx with hx | rfl
          · exact ha x hx
          · exact ⟨h0, h1⟩)
        obtain ⟨I1, I2, I3⟩ := IH
        refine ⟨fun he => ?_, fun he => ?_, I3⟩
        · obtain ⟨q, k, e1, e2, e3, e4, e5, e6⟩ := I1 he
          clear I1 I2 I3
          refine ⟨(signR i (c :: r)).1 :: q, m + k, by rw [e1]; simp, by rw [e2]; omega, by rw [hdl] at e3; omega, ?_, by simpa using e5, by simpa using e6⟩
          rw [List.take_add, ht, e4, bodyL_cons]; simp
        · have := I2 he
          clear I1 I2 I3
          rw [hdl] at this
          exact ⟨this.1, by omega⟩
      · rw [if_neg hs]
        have := sign_place i (c :: r)
        simp
        simpa using this.2
/-- What is unquoted is quoted so again; else the place lies within. -/
theorem unquote_one (l : List Int) (hb : ∀ c ∈ l, 0 ≤ c ∧ c ≤ 255) :
    ((unquoteR l).2.2 = 0 → ∃ m : Nat, (unquoteR l).2.1 = m ∧ 2 ≤ m ∧ m ≤ l.length ∧ l.take m = quoteL (unquoteR l).1 ∧ (unquoteR l).1.length ≤ 256 ∧ ∀ c ∈ (unquoteR l).1, 0 ≤ c ∧ c ≤ 255) ∧
    ((unquoteR l).2.2 ≠ 0 → (unquoteR l).1 = [] ∧ (unquoteR l).2.1 ≤ l.length) ∧ ((unquoteR l).2.2 = 0 ∨ (unquoteR l).2.2 = 2 ∨ (unquoteR l).2.2 = 4) := by
  match l, hb with
  | [], _ => simp [unquoteR]
  | c :: r, hb =>
    rw [unquoteR_cons]
    by_cases h39 : c = 39
    · rw [if_pos h39]
      obtain ⟨u1, u2, u3⟩ := unq_one (r.length + 1) 1 [] r (by omega) (fun x hx => hb x (by simp [hx])) (by simp)
      refine ⟨fun he => ?_, fun he => ?_, u3⟩
      · obtain ⟨q, k, e1, e2, e3, e4, e5, e6⟩ := u1 he
        simp only [List.nil_append] at e1 e5 e6
        have hk : 1 ≤ k := by
          cases k with
          | zero => simp at e4
          | succ k => omega
        refine ⟨k + 1, by omega, by omega, by simp; omega, ?_, by rw [e1]; exact e5, by rw [e1]; exact e6⟩
        rw [List.take_succ_cons, e4, e1, h39]; rfl
      · have := u2 he
        exact ⟨this.1, by simp; omega⟩
    · rw [if_neg h39]; simp
end Go.Proofs.YtdfmehbnhdhbcaaDoor
