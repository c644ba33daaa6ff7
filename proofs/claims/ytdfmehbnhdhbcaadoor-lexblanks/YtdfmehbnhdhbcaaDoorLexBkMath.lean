/-
  Blanks between tokens: of no program. Tokens without their places; texts behind each other.
-/
import Derived.Test.YtdfmehbnhdhbcaaDoorLexMath
namespace Go.Proofs.YtdfmehbnhdhbcaaDoor
open Go.RowKit

def skipB (l : List Int) : List Int := l.drop (spanN blankB l)
/-- The tokens of bytes that begin with no blank, without places; none: they can't be. -/
def kR : Nat → List Int → Option (List (Int × ByteArray))
  | 0, _ => none
  | _ + 1, [] => some []
  | f + 1, c :: r => if (oneR (c :: r)).2.2.2 = 0 then (kR f (skipB ((c :: r).drop (oneR (c :: r)).2.2.1))).map (((oneR (c :: r)).1, strOf (oneR (c :: r)).2.1) :: ·) else none
/-- The tokens of bytes. -/
def LexIs (l : List Int) (ts : List (Int × ByteArray)) : Prop := ∃ f, kR f (skipB l) = some ts
theorem kR_nil (f : Nat) : kR (f + 1) [] = some [] := rfl
theorem kR_cons (f : Nat) (c : Int) (r : List Int) : kR (f + 1) (c :: r) = if (oneR (c :: r)).2.2.2 = 0 then (kR f (skipB ((c :: r).drop (oneR (c :: r)).2.2.1))).map (((oneR (c :: r)).1, strOf (oneR (c :: r)).2.1) :: ·) else none := rfl
theorem skip_blank {c : Int} (r : List Int) (h : blankB c = true) : skipB (c :: r) = skipB r := by
  unfold skipB
  rw [spanN_cons, if_pos h, List.drop_succ_cons]
theorem skip_not {c : Int} (r : List Int) (h : blankB c = false) : skipB (c :: r) = c :: r := by
  unfold skipB
  rw [spanN_cons, h]
  rfl
theorem skip_nil : skipB [] = [] := rfl
theorem skip_mem {l : List Int} {x : Int} (h : x ∈ skipB l) : x ∈ l := List.mem_of_mem_drop h
theorem skip_len (l : List Int) : (skipB l).length ≤ l.length := by unfold skipB; rw [List.length_drop]; omega
theorem skip_append (m : List Int) : ∀ l : List Int, (skipB l = [] → skipB (l ++ m) = skipB m) ∧ (skipB l ≠ [] → skipB (l ++ m) = skipB l ++ m)
  | [] => ⟨fun _ => rfl, fun h => absurd rfl h⟩
  | c :: r => by
    cases h : blankB c with
    | true => rw [List.cons_append, skip_blank r h, skip_blank (r ++ m) h]; exact skip_append m r
    | false => rw [List.cons_append, skip_not r h, skip_not (r ++ m) h]; exact ⟨fun e => by simp at e, fun _ => rfl⟩
theorem kR_one {f : Nat} {c : Int} {r : List Int} {ts : List (Int × ByteArray)} (h : kR (f + 1) (c :: r) = some ts) :
    (oneR (c :: r)).2.2.2 = 0 ∧ ∃ us, kR f (skipB ((c :: r).drop (oneR (c :: r)).2.2.1)) = some us ∧ ts = ((oneR (c :: r)).1, strOf (oneR (c :: r)).2.1) :: us := by
  rw [kR_cons] at h
  split at h
  · rename_i he
    obtain ⟨us, h1, h2⟩ := Option.map_eq_some_iff.1 h
    exact ⟨he, us, h1, h2.symm⟩
  · cases h
/-- Enough is enough. -/
theorem kR_fuel : ∀ (f : Nat) (l : List Int) (ts : List (Int × ByteArray)), (∀ x ∈ l, 0 ≤ x ∧ x ≤ 255) → kR f l = some ts → ∀ g, l.length < g → kR g l = some ts
  | 0, _, _, _, h, _, _ => by cases h
  | f + 1, [], ts, _, h, g + 1, _ => by rw [kR_nil] at h ⊢; exact h
  | f + 1, c :: r, ts, hb, h, g + 1, hg => by
    obtain ⟨he, us, h1, h2⟩ := kR_one h
    have O := oneR_ok c r hb
    have hp := O.pos he
    have hl := skip_len ((c :: r).drop (oneR (c :: r)).2.2.1)
    rw [List.length_drop] at hl
    have IH := kR_fuel f _ us (fun x hx => hb x (List.mem_of_mem_drop (skip_mem hx))) h1 g (by simp at hl hg ⊢; omega)
    rw [kR_cons, if_pos he, IH, h2]
    rfl
  | _ + 1, _, _, _, _, 0, hg => by omega
theorem kR_more {f g : Nat} {l : List Int} {ts : List (Int × ByteArray)} (hb : ∀ x ∈ l, 0 ≤ x ∧ x ≤ 255) (h : kR f l = some ts) : kR (g + l.length + 1) l = some ts :=
  kR_fuel f l ts hb h _ (by omega)
/-- Behind each other. -/
theorem kR_join (m : List Int) (us : List (Int × ByteArray)) (hm : ∀ x ∈ m, 0 ≤ x ∧ x ≤ 255) (hmb : m = [] ∨ ∃ b r, m = b :: r ∧ blankB b = true) (hus : ∃ g, kR g (skipB m) = some us) :
    ∀ (f : Nat) (l : List Int) (ts : List (Int × ByteArray)), (∀ x ∈ l, 0 ≤ x ∧ x ≤ 255) → kR f l = some ts → l ≠ [] → ∃ g, kR g (l ++ m) = some (ts ++ us)
  | 0, _, _, _, h, _ => by cases h
  | f + 1, [], _, _, _, hne => absurd rfl hne
  | f + 1, c :: r, ts, hb, h, _ => by
    obtain ⟨he, vs, h1, h2⟩ := kR_one h
    have O := oneR_ok c r hb
    have hf := O.far
    have hone : oneR (c :: r ++ m) = oneR (c :: r) := by
      rcases hmb with rfl | ⟨b, q, rfl, hbb⟩
      · rw [List.append_nil]
      · exact O.behind he b q hbb
    have hdrop : (c :: r ++ m).drop (oneR (c :: r)).2.2.1 = (c :: r).drop (oneR (c :: r)).2.2.1 ++ m := List.drop_append_of_le_length hf
    have key : ∃ g, kR g (skipB ((c :: r).drop (oneR (c :: r)).2.2.1 ++ m)) = some (vs ++ us) := by
      by_cases hs : skipB ((c :: r).drop (oneR (c :: r)).2.2.1) = []
      · rw [(skip_append m _).1 hs]
        rw [hs] at h1
        have : vs = [] := by
          cases f with
          | zero => cases h1
          | succ f => rw [kR_nil] at h1; exact (Option.some.inj h1).symm
        rw [this]
        exact hus
      · rw [(skip_append m _).2 hs]
        exact kR_join m us hm hmb hus f _ vs (fun x hx => hb x (List.mem_of_mem_drop (skip_mem hx))) h1 hs
    obtain ⟨g, hg⟩ := key
    refine ⟨g + 1, ?_⟩
    rw [List.cons_append, kR_cons, ← List.cons_append, hone, if_pos he, hdrop, hg, h2]
    rfl
theorem LexIs.join {l m : List Int} {ts us : List (Int × ByteArray)} (hl : ∀ x ∈ l, 0 ≤ x ∧ x ≤ 255) (hm : ∀ x ∈ m, 0 ≤ x ∧ x ≤ 255) (h : LexIs l ts) (k : LexIs m us) (hmb : m = [] ∨ ∃ b r, m = b :: r ∧ blankB b = true) : LexIs (l ++ m) (ts ++ us) := by
  obtain ⟨f, h⟩ := h
  by_cases hs : skipB l = []
  · unfold LexIs
    rw [(skip_append m l).1 hs]
    rw [hs] at h
    have : ts = [] := by
      cases f with
      | zero => cases h
      | succ f => rw [kR_nil] at h; exact (Option.some.inj h).symm
    rw [this]
    exact k
  · unfold LexIs
    rw [(skip_append m l).2 hs]
    exact kR_join m us hm hmb k f _ ts (fun x hx => hl x (skip_mem hx)) h hs
theorem LexIs.nil : LexIs [] [] := ⟨1, rfl⟩
theorem LexIs.blank {b : Int} {m : List Int} {us : List (Int × ByteArray)} (h : LexIs m us) (hb : blankB b = true) : LexIs (b :: m) us := by
  unfold LexIs
  rw [skip_blank m hb]
  exact h
/-- One blank more at the end. -/
theorem LexIs.snoc {l : List Int} {ts : List (Int × ByteArray)} (hl : ∀ x ∈ l, 0 ≤ x ∧ x ≤ 255) (h : LexIs l ts) (b : Int) (hb : blankB b = true) (hbd : 0 ≤ b ∧ b ≤ 255) : LexIs (l ++ [b]) ts := by
  have := h.join hl (m := [b]) (by simpa using hbd) (LexIs.nil.blank hb) (.inr ⟨b, [], rfl, hb⟩)
  simpa using this
/-- A blank and tokens more. -/
theorem LexIs.more {l m : List Int} {ts us : List (Int × ByteArray)} (hl : ∀ x ∈ l, 0 ≤ x ∧ x ≤ 255) (hm : ∀ x ∈ m, 0 ≤ x ∧ x ≤ 255) (h : LexIs l ts) (k : LexIs m us) : LexIs (l ++ [32] ++ m) (ts ++ us) := by
  have := h.join hl (m := 32 :: m) (fun x hx => by
    rcases List.mem_cons.1 hx with rfl | hx
    · omega
    · exact hm x hx) (k.blank (by decide)) (.inr ⟨32, m, rfl, by decide⟩)
  rw [List.append_assoc]
  exact this

def ksT (t : Tk) : Int × ByteArray := (t.k, t.s)
theorem tok_kin : ∀ (f i : Nat) (l : List Int), (kR f l = none → (tokR f i l).2.2 ≠ 0) ∧ ∀ ts, kR f l = some ts → (tokR f i l).2.2 = 0 ∧ (tokR f i l).1.map ksT = ts ++ [(6, ⟨#[]⟩)]
  | 0, i, l => ⟨fun _ => by show (4 : Int) ≠ 0; decide, fun ts h => by cases h⟩
  | f + 1, i, [] => by
    rw [kR_nil, tokR_nil]
    exact ⟨fun h => (by cases h), fun ts h => (by cases h; exact ⟨rfl, rfl⟩)⟩
  | f + 1, i, c :: r => by
    rw [kR_cons, tokR_cons]
    by_cases he : (oneR (c :: r)).2.2.2 = 0
    · rw [if_pos he, if_pos he]
      unfold allR
      obtain ⟨I1, I2⟩ := tok_kin f (i + (oneR (c :: r)).2.2.1 + spanN blankB ((c :: r).drop (oneR (c :: r)).2.2.1)) (skipB ((c :: r).drop (oneR (c :: r)).2.2.1))
      unfold skipB at I1 I2 ⊢
      generalize tokR f (i + (oneR (c :: r)).2.2.1 + spanN blankB ((c :: r).drop (oneR (c :: r)).2.2.1)) (((c :: r).drop (oneR (c :: r)).2.2.1).drop (spanN blankB ((c :: r).drop (oneR (c :: r)).2.2.1))) = Q at I1 I2
      generalize kR f (((c :: r).drop (oneR (c :: r)).2.2.1).drop (spanN blankB ((c :: r).drop (oneR (c :: r)).2.2.1))) = M at I1 I2
      cases M with
      | none =>
        have := I1 rfl
        refine ⟨fun _ => ?_, fun ts h => by cases h⟩
        unfold consT
        rw [if_neg this]
        exact this
      | some vs =>
        obtain ⟨q1, q2⟩ := I2 vs rfl
        refine ⟨fun h => (by cases h), fun ts h => ?_⟩
        cases h
        unfold consT
        rw [if_pos q1]
        refine ⟨rfl, ?_⟩
        rw [List.map_cons, q2]
        rfl
    · rw [if_neg he, if_neg he]
      exact ⟨fun _ => he, fun ts h => by cases h⟩
/-- What All tells, and the tokens without places. -/
theorem lexIs_of_all (s : ByteArray) (h : (allZ s).2.2 = 0) : ∃ ts, LexIs (bytesS s) ts := by
  by_cases hl : 8192 < s.size
  · have e : allZ s = ([], 0, 2) := if_pos hl
    rw [e] at h
    simp at h
  · rw [allZ_small s (by omega)] at h
    unfold allR at h
    obtain ⟨I1, _⟩ := tok_kin (s.size + 1) (0 + spanN blankB (bytesS s)) (skipB (bytesS s))
    cases hk : kR (s.size + 1) (skipB (bytesS s)) with
    | none => exact absurd h (I1 hk)
    | some ts => exact ⟨ts, _, hk⟩
theorem all_of_lexIs (s : ByteArray) (ts : List (Int × ByteArray)) (hl : s.size ≤ 8192) (h : LexIs (bytesS s) ts) : (allZ s).2.2 = 0 ∧ (allZ s).1.map ksT = ts ++ [(6, ⟨#[]⟩)] := by
  obtain ⟨f, hf⟩ := h
  have hn := skip_len (bytesS s)
  rw [bytesS_length] at hn
  have := kR_fuel f _ ts (fun x hx => bytesS_bd s x (skip_mem hx)) hf (s.size + 1) (by omega)
  rw [allZ_small s hl]
  unfold allR
  exact (tok_kin (s.size + 1) (0 + spanN blankB (bytesS s)) (skipB (bytesS s))).2 ts this
end Go.Proofs.YtdfmehbnhdhbcaaDoor
