/-
  What conditions are: kinds, as functions of the tree; plain facts, of no function.
  A row of ints that a call owns, and one more behind it.
-/
import Derived.Test.YtahlmlbfgijcpaaGreatDoorCExprKinds
import Derived.Test.YtahlmlbfgijcpaaGreatDoorCSchBook
import Derived.Maps.AppendAt
namespace Go.Proofs.YtahlmlbfgijcpaaGreatDoor
open Go.RowKit

/-- Are the first numbers all this one? -/
def allB (K : Nat → Int) (k : Int) : Nat → Bool
  | 0 => true
  | n + 1 => allB K k n && decide (K n = k)
theorem allB_yes {K : Nat → Int} {k : Int} : ∀ {n : Nat}, (∀ j, j < n → K j = k) → allB K k n = true
  | 0, _ => rfl
  | n + 1, h => by
    have h1 := allB_yes (K := K) (k := k) (n := n) fun j hj => h j (by omega)
    simp [allB, h1, h n (by omega)]
theorem allB_no {K : Nat → Int} {k : Int} {i : Nat} (hi : ¬ K i = k) : ∀ {n : Nat}, i < n → allB K k n = false
  | 0, h => by omega
  | n + 1, h => by
    by_cases e : i = n
    · subst e; simp [allB, hi]
    · simp [allB, allB_no hi (show i < n by omega)]
theorem allB_or (K : Nat → Int) (k : Int) : ∀ n, (∀ j, j < n → K j = k) ∨ ∃ i, i < n ∧ ¬ K i = k ∧ ∀ j, j < i → K j = k
  | 0 => .inl fun j hj => by omega
  | n + 1 => by
    rcases allB_or K k n with h | ⟨i, h1, h2, h3⟩
    · by_cases e : K n = k
      · refine .inl fun j hj => ?_
        by_cases ej : j = n
        · exact ej ▸ e
        · exact h j (by omega)
      · exact .inr ⟨n, by omega, e, h⟩
    · exact .inr ⟨i, by omega, h2, h3⟩
/-- May parts of these kinds be below a condition of this kind? -/
def fineK (k : Int) (n : Nat) (K : Nat → Int) : Bool :=
  if 3 ≤ k ∧ k ≤ 8 then allB K 2 n
  else if 9 ≤ k ∧ k ≤ 10 then decide (K 0 = K 1) || (decide (K 0 = 0) || decide (K 1 = 0))
  else if 11 ≤ k ∧ k ≤ 14 then allB K 2 n || allB K 3 n
  else allB K 1 n
def outK (k : Int) : Int := if 3 ≤ k ∧ k ≤ 8 then 2 else 1
/-- A condition's kind, and its error: its parts first, in order, then itself. -/
def kindE (L : ByteArray → ByteArray → Option Int) : X → Int × Int
  | .nil => (0, 0)
  | .mk k v s f _ n _ c =>
    if lexN (fun i => (kindE L (c i)).2) n = 0 then
      (if k = 1 then (v.k, 0) else if k = 2 then (match L s f with | some q => (q, 0) | none => (0, 6)) else if fineK k n (fun i => (kindE L (c i)).1) = true then (outK k, 0) else (0, 5))
    else (0, lexN (fun i => (kindE L (c i)).2) n)
theorem kindE_const {L : ByteArray → ByteArray → Option Int} {x : X} (h : x.k = 1) (hn : x.n = 0) : kindE L x = (x.v.k, 0) := by
  cases x with
  | nil => simp [X.k] at h
  | mk k v s f a n cap c =>
    simp only [X.k, X.n, X.v] at h hn ⊢
    simp [kindE, hn, lexN, h]
theorem kindE_field {L : ByteArray → ByteArray → Option Int} {x : X} (h : x.k = 2) (hn : x.n = 0) : kindE L x = (match L x.s x.f with | some q => (q, 0) | none => (0, 6)) := by
  cases x with
  | nil => simp [X.k] at h
  | mk k v s f a n cap c =>
    simp only [X.k, X.n, X.s, X.f] at h hn ⊢
    simp [kindE, hn, lexN, h]
/-- The first error of the parts. -/
abbrev errsX (L : ByteArray → ByteArray → Option Int) (x : X) (n : Nat) : Int := lexN (fun i => (kindE L (x.c i)).2) n
theorem kindE_parts {L : ByteArray → ByteArray → Option Int} {x : X} (h : 3 ≤ x.k) (he : errsX L x x.n = 0) : kindE L x = if fineK x.k x.n (fun i => (kindE L (x.c i)).1) = true then (outK x.k, 0) else (0, 5) := by
  cases x with
  | nil => simp [X.k] at h
  | mk k v s f a n cap c =>
    simp only [errsX, X.k, X.n, X.c] at h he ⊢
    simp only [kindE]
    rw [if_pos he, if_neg (by omega), if_neg (by omega)]
    rfl
theorem kindE_err {L : ByteArray → ByteArray → Option Int} {x : X} (h : 3 ≤ x.k) (he : ¬ errsX L x x.n = 0) : kindE L x = (0, errsX L x x.n) := by
  cases x with
  | nil => simp [X.k] at h
  | mk k v s f a n cap c =>
    simp only [errsX, X.k, X.n, X.c] at h he ⊢
    simp only [kindE]
    rw [if_neg he]
/-- The first part that has one, or none has. -/
theorem errs_or (E : Nat → Int) : ∀ n, (lexN E n = 0 ∧ ∀ j, j < n → E j = 0) ∨ ∃ i, i < n ∧ ¬ E i = 0 ∧ lexN E n = E i ∧ ∀ j, j < i → E j = 0
  | 0 => .inl ⟨rfl, fun j hj => by omega⟩
  | n + 1 => by
    rcases errs_or E n with ⟨h1, h2⟩ | ⟨i, h1, h2, h3, h4⟩
    · by_cases e : E n = 0
      · refine .inl ⟨by simp [lexN, h1, e], fun j hj => ?_⟩
        by_cases ej : j = n
        · exact ej ▸ e
        · exact h2 j (by omega)
      · exact .inr ⟨n, by omega, e, by simp [lexN, h1], h2⟩
    · refine .inr ⟨i, by omega, h2, ?_, h4⟩
      simp only [lexN]
      rw [h3, if_neg h2]
/-- Integers in a row. -/
def IsI (w : World) (a : Option Addr) (n : Nat) (K : Nat → Int) : Prop := 0 < n → ∃ b o, a = some ⟨b, o, none⟩ ∧ ∀ j, j < n → w.cell? ⟨b, o + j, none⟩ = some (.int .i64 (K j))
theorem IsI.later {w w' : World} {a : Option Addr} {n : Nat} {K : Nat → Int} (h : IsI w a n K) (hB : Below w.heap.size w w') : IsI w' a n K := fun h0 => by
  obtain ⟨b, o, e, hc⟩ := h h0
  exact ⟨b, o, e, fun j hj => cell_later (hc j hj) hB⟩
/-- Where a Var's field is found: the Var's first place, the schema of its type, the field in it. -/
def lookN (nv : Nat) (V T : Nat → ByteArray) (ns : Nat) (Q : Nat → Sch) (v f : ByteArray) : Option Int :=
  match idx V v nv with
  | none => none
  | some i => match idx (fun j => (Q j).nm) (T i) ns with
    | none => none
    | some j => match idx (Q j).fn f (Q j).l with
      | none => none
      | some k => some ((Q j).fk k)
/-- The first type that has no schema. -/
def lackB (T : Nat → ByteArray) (ns : Nat) (Q : Nat → Sch) : Nat → Bool
  | 0 => false
  | n + 1 => lackB T ns Q n || (idx (fun j => (Q j).nm) (T n) ns).isNone
/-- New's answer. -/
def newZ (nv : Nat) (nt : Nat) (T : Nat → ByteArray) (ns : Nat) (Q : Nat → Sch) : Int :=
  if bookZ ns Q = 0 ∧ nv = nt then (if lackB T ns Q nt = true then 6 else 0) else 1
theorem lackB_no {T : Nat → ByteArray} {ns : Nat} {Q : Nat → Sch} : ∀ {n : Nat}, lackB T ns Q n = false → ∀ j, j < n → ∃ i, idx (fun j => (Q j).nm) (T j) ns = some i
  | 0, _, j, hj => by omega
  | n + 1, h, j, hj => by
    simp only [lackB, Bool.or_eq_false_iff] at h
    by_cases e : j = n
    · subst e
      cases h2 : idx (fun j => (Q j).nm) (T j) ns with
      | none => simp [h2] at h
      | some i => exact ⟨i, rfl⟩
    · exact lackB_no h.1 j (by omega)
theorem lackB_at {T : Nat → ByteArray} {ns : Nat} {Q : Nat → Sch} {j : Nat} (hj : idx (fun j => (Q j).nm) (T j) ns = none) : ∀ {n : Nat}, j < n → lackB T ns Q n = true
  | 0, h => by omega
  | n + 1, h => by
    simp only [lackB]
    by_cases e : j = n
    · subst e; simp [hj]
    · simp [lackB_at hj (show j < n by omega)]
end Go.Proofs.YtahlmlbfgijcpaaGreatDoor
namespace Go.Proofs.YtahlmlbfgijcpaaGreatDoor
open Go.RowKit

def rowI (K : Nat → Int) : Nat → List Value
  | 0 => []
  | n + 1 => rowI K n ++ [.int .i64 (K n)]
theorem rowI_len (K : Nat → Int) : ∀ n, (rowI K n).length = n
  | 0 => rfl
  | n + 1 => by simp [rowI, rowI_len K n]
theorem rowI_get (K : Nat → Int) : ∀ n i, i < n → (rowI K n)[i]? = some (.int .i64 (K i))
  | 0, _, h => by omega
  | n + 1, i, h => by
    rw [rowI]
    by_cases e : i = n
    · subst e
      rw [List.getElem?_append_right (by rw [rowI_len]; omega), rowI_len]
      simp
    · rw [List.getElem?_append_left (by rw [rowI_len]; omega)]
      exact rowI_get K n i (by omega)
theorem infoInt : (Tryz.prog.info? 3).map (fun i => (i.zero, i.size, i.bytes)) = some (some (.int .i64 0), 1, 8) := by kernel_rfl
theorem push_int {w : World} {base n : Nat} {v : Value} {xs : List Value} (h : w.ownsRow base 3 1 v n xs) (hb : base ≤ w.heap.size) (hn : n ≤ 2097152) (k : Int) :
    ∃ v' w', (Builtin.append_ #[85, 85] 85 #[v, .slice (some ⟨w.heap.size, 0, none⟩) 1 1]).run Tryz.prog (w.alloc (.cells #[.int .i64 k] 3)) = .ok v' w' ∧ w'.ownsRow base 3 1 v' (n + 1) (xs ++ [.int .i64 k]) ∧ Below base w w' := by
  obtain ⟨i0, hi, hz0, hz1, hz2⟩ := info_parts infoInt
  obtain ⟨v', w', hrun, hown', hgrow, _⟩ := run_append_own (P := Tryz.prog) (w := w.alloc (.cells #[.int .i64 k] 3)) base 85 85 3 i0 (.int .i64 0) 1 8 Tryz.underlying85 hi hz0 hz1 hz2 rfl (by decide) v _ _ (h.alloc _) ⟨w.heap.size, 0, none⟩ 1 1 [.int .i64 k] rfl
    (cell_one_new w (.int .i64 k) 3) (by simp [Value.oneCell']) (by unfold maxLen; omega) (by omega) (by simp; omega)
  exact ⟨v', w', hrun, hown', ((Below.refl base w).alloc hb _).grown hgrow (by simp; omega) fun k e => (h.lt k e).1⟩
theorem own_isI {w : World} {base n : Nat} {v : Value} {K : Nat → Int} (h : w.ownsRow base 3 1 v n (rowI K n)) : ∃ a cap, v = .slice a n cap ∧ IsI w a n K ∧ n ≤ cap := by
  rcases h.2 with ⟨rfl, rfl⟩ | ⟨g, cap, cur, rfl, hg, hc, hnc, hcm, hs, ht⟩
  · exact ⟨none, 0, rfl, fun h => by omega, Nat.le_refl _⟩
  · refine ⟨_, cap, rfl, fun _ => ⟨g, 0, rfl, fun j hj => ?_⟩, hnc⟩
    rw [← rowI_get K n j hj, ← ht, List.getElem?_take_of_lt (by omega)]
    simp only [World.cell?, hc, Nat.zero_add]
    rw [Array.getElem?_toList]
    rfl
theorem own_still {w w' : World} {B e size n : Nat} {v : Value} {xs : List Value} (h : w.ownsRow B e size v n xs) (hb : Below w.heap.size w w') : w'.ownsRow B e size v n xs :=
  h.kept (row := none) ⟨hb.os, hb.tape, hb.output, hb.size, fun k hk _ => hb.block k hk⟩ (Classical.em _)
end Go.Proofs.YtahlmlbfgijcpaaGreatDoor
