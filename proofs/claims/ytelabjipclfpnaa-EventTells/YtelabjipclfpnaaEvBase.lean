/-
  Events, their values, what an event has to be; of the document's words and of memory alone.
-/
import Derived.Test.YtelabjipclfpnaaSchBook
import Derived.Test.YtelabjipclfpnaaValFits
namespace Go.Proofs.Ytelabjipclfpnaa
open Go.RowKit

/-- A value. -/
structure Val where
  k : Int
  n : Int
  s : ByteArray
abbrev Val.v (x : Val) : Value := valV x.k x.n x.s
def val0 : Val := ⟨0, 0, ⟨#[]⟩⟩
/-- A slice of values. -/
def Vals (w : World) (a : Option Addr) (len : Nat) (V : Nat → Val) : Prop :=
  0 < len → ∃ b off, a = some ⟨b, off, none⟩ ∧ ∀ j, j < len → w.cell? ⟨b, off + j * 3, none⟩ = some (.int .i64 (V j).k) ∧ w.cell? ⟨b, off + j * 3 + 1, none⟩ = some (.int .i64 (V j).n) ∧ w.cell? ⟨b, off + j * 3 + 2, none⟩ = some (.string (V j).s)
theorem Vals.later {w w' : World} {a : Option Addr} {n : Nat} {V : Nat → Val} (h : Vals w a n V) (hB : Below w.heap.size w w') : Vals w' a n V := by
  intro h0
  obtain ⟨b, off, e, hc⟩ := h h0
  exact ⟨b, off, e, fun j hj => ⟨cell_later (hc j hj).1 hB, cell_later (hc j hj).2.1 hB, cell_later (hc j hj).2.2 hB⟩⟩
/-- An event, as it lies in memory: its type, its time, its values' slice, the values. -/
structure Evt where
  ty : ByteArray
  t : Int
  a : Option Addr
  l : Nat
  c : Nat
  vs : Nat → Val
abbrev Evt.v (x : Evt) : Value := .slice x.a x.l x.c
abbrev evtV (s : ByteArray) (t : Int) (v : Value) : Value := .agg #[.string s, .int .i64 t, v]
abbrev evtO (s : ByteArray) (t : Int) (v : Value) : Obj := .cells #[.string s, .int .i64 t, v] 26
def IsEvt (w : World) (x : Evt) : Prop := Vals w x.a x.l x.vs ∧ x.l ≤ 9223372036854775807
theorem IsEvt.later {w w' : World} {x : Evt} (h : IsEvt w x) (hB : Below w.heap.size w w') : IsEvt w' x := ⟨h.1.later hB, h.2⟩
/-- A slice of events. -/
def Evts (w : World) (a : Option Addr) (n : Nat) (E : Nat → Evt) : Prop :=
  (0 < n → ∃ b off, a = some ⟨b, off, none⟩ ∧ ∀ j, j < n → w.cell? ⟨b, off + j * 3, none⟩ = some (.string (E j).ty) ∧ w.cell? ⟨b, off + j * 3 + 1, none⟩ = some (.int .i64 (E j).t) ∧ w.cell? ⟨b, off + j * 3 + 2, none⟩ = some (E j).v) ∧ ∀ j, j < n → IsEvt w (E j)
theorem Evts.later {w w' : World} {a : Option Addr} {n : Nat} {E : Nat → Evt} (h : Evts w a n E) (hB : Below w.heap.size w w') : Evts w' a n E := by
  refine ⟨fun h0 => ?_, fun j hj => (h.2 j hj).later hB⟩
  obtain ⟨b, off, e, hc⟩ := h.1 h0
  exact ⟨b, off, e, fun j hj => ⟨cell_later (hc j hj).1 hB, cell_later (hc j hj).2.1 hB, cell_later (hc j hj).2.2 hB⟩⟩
theorem Evts.part {w : World} {a : Option Addr} {n k : Nat} {E : Nat → Evt} (h : Evts w a n E) (hk : k ≤ n) : Evts w a k E := by
  refine ⟨fun h0 => ?_, fun j hj => h.2 j (by omega)⟩
  obtain ⟨b, off, e, hc⟩ := h.1 (by omega)
  exact ⟨b, off, e, fun j hj => hc j (by omega)⟩

/-- The place of the first of some names that is this one. -/
def idx (Nm : Nat → ByteArray) (s : ByteArray) : Nat → Option Nat
  | 0 => none
  | n + 1 => match idx Nm s n with
    | some i => some i
    | none => if Nm n = s then some n else none
theorem idx_some (Nm : Nat → ByteArray) (s : ByteArray) : ∀ (n i : Nat), idx Nm s n = some i → i < n ∧ Nm i = s ∧ ∀ j, j < i → ¬ Nm j = s
  | 0, i, h => by simp [idx] at h
  | n + 1, i, h => by
    simp only [idx] at h
    split at h
    · rename_i j hj
      cases h
      have := idx_some Nm s n i hj
      exact ⟨by omega, this.2⟩
    · rename_i hj
      split at h
      · rename_i e
        cases h
        refine ⟨by omega, e, ?_⟩
        intro j hj' he
        have hnone : ∀ m, idx Nm s m = none → ∀ j, j < m → ¬ Nm j = s := by
          intro m
          induction m with
          | zero => intro _ j hj; omega
          | succ m ih =>
            intro hm j hj
            simp only [idx] at hm
            split at hm
            · cases hm
            · rename_i hi
              split at hm
              · cases hm
              · rename_i e2
                by_cases ej : j = m
                · exact ej ▸ e2
                · exact ih hi j (by omega)
        exact hnone n hj j hj' he
      · cases h
theorem idx_none (Nm : Nat → ByteArray) (s : ByteArray) : ∀ (n : Nat), idx Nm s n = none → ∀ j, j < n → ¬ Nm j = s
  | 0, _, j, hj => by omega
  | n + 1, h, j, hj => by
    simp only [idx] at h
    split at h
    · cases h
    · rename_i hi
      split at h
      · cases h
      · rename_i e2
        by_cases ej : j = n
        · exact ej ▸ e2
        · exact idx_none Nm s n hi j (by omega)
theorem idx_at (Nm : Nat → ByteArray) (s : ByteArray) (n i : Nat) (hi : i < n) (he : Nm i = s) (hl : ∀ j, j < i → ¬ Nm j = s) : idx Nm s n = some i := by
  cases e : idx Nm s n with
  | none => exact absurd he (idx_none Nm s n e i hi)
  | some k =>
    obtain ⟨_, h2, h3⟩ := idx_some Nm s n k e
    rcases Nat.lt_trichotomy k i with h | h | h
    · exact absurd h2 (hl k h)
    · rw [h]
    · exact absurd he (h3 i h)
/-- The schema of a name. -/
def schOf (n : Nat) (Q : Nat → Sch) (s : ByteArray) : Option Sch := (idx (fun j => (Q j).nm) s n).map Q
/-- The place of a field of the schema of a name. -/
def plc (n : Nat) (Q : Nat → Sch) (s f : ByteArray) : Option Nat := (schOf n Q s).bind fun x => idx x.fn f x.l
/-- Get's answer. -/
def getE (n : Nat) (Q : Nat → Sch) (e : Evt) (f : ByteArray) : Option Val := (plc n Q e.ty f).bind fun k => if k < e.l then some (e.vs k) else none
/-- Do the first values fit the kinds? -/
def fitTo (V : Nat → Val) (K : Nat → Int) : Nat → Bool
  | 0 => true
  | k + 1 => fitTo V K k && fitsV (V k).k (V k).n (V k).s (K k)
theorem fitTo_at (V : Nat → Val) (K : Nat → Int) : ∀ n, fitTo V K n = true → ∀ j, j < n → fitsV (V j).k (V j).n (V j).s (K j) = true
  | 0, _, j, h => by omega
  | n + 1, h, j, hj => by
    simp only [fitTo, Bool.and_eq_true] at h
    by_cases e : j = n
    · exact e ▸ h.2
    · exact fitTo_at V K n h.1 j (by omega)
theorem fitTo_not (V : Nat → Val) (K : Nat → Int) (n j : Nat) (hj : j < n) (h : fitsV (V j).k (V j).n (V j).s (K j) = false) : fitTo V K n = false := by
  cases e : fitTo V K n with
  | false => rfl
  | true => have := fitTo_at V K n e j hj; rw [h] at this; cases this
/-- Check's answer, once it is known what Book says and which schema it is. -/
def chkE (z : Int) (o : Option Sch) (e : Evt) : Int :=
  if z = 0 then (match o with
    | none => 6
    | some x => if e.t < 0 then 1 else if e.l = x.l then (if fitTo e.vs x.fk x.l = true then 0 else 5) else 4)
  else 1
def evZ (n : Nat) (Q : Nat → Sch) (e : Evt) : Int := chkE (bookZ n Q) (schOf n Q e.ty) e
/-- What is wrong with the event at a place. -/
def badAt (n : Nat) (Q : Nat → Sch) (E : Nat → Evt) (i : Nat) : Int :=
  if evZ n Q (E i) = 0 then (if 0 < i ∧ (E i).t < (E (i - 1)).t then 11 else 0) else evZ n Q (E i)
theorem bad_or (B : Nat → Int) : ∀ n, (∃ i, i < n ∧ ¬ B i = 0 ∧ ∀ j, j < i → B j = 0) ∨ ∀ j, j < n → B j = 0
  | 0 => .inr fun j hj => by omega
  | n + 1 => by
    rcases bad_or B n with ⟨i, h1, h2⟩ | h
    · exact .inl ⟨i, by omega, h2⟩
    · by_cases e : B n = 0
      · exact .inr fun j hj => if hn : j = n then hn ▸ e else h j (by omega)
      · exact .inl ⟨n, by omega, e, h⟩
/-- Are two values the same? -/
def eqV (x y : Val) : Bool := decide (x.k = y.k) && (decide (x.n = y.n) && decide (x.s = y.s))
theorem eqV_self (x : Val) : eqV x x = true := by simp [eqV]
/-- Are the first values the same? -/
def eqVs (V U : Nat → Val) : Nat → Bool
  | 0 => true
  | k + 1 => eqVs V U k && eqV (V k) (U k)
theorem eqVs_not (V U : Nat → Val) : ∀ (n j : Nat), j < n → eqV (V j) (U j) = false → eqVs V U n = false
  | 0, j, h, _ => by omega
  | n + 1, j, hj, h => by
    simp only [eqVs]
    by_cases e : j = n
    · subst e; rw [h, Bool.and_false]
    · rw [eqVs_not V U n j (by omega) h, Bool.false_and]
theorem eqVs_self (V : Nat → Val) : ∀ n, eqVs V V n = true
  | 0 => rfl
  | n + 1 => by simp only [eqVs]; rw [eqVs_self V n, eqV_self]; rfl
/-- Same's answer. -/
def sameE (x y : Evt) : Bool := decide (x.ty = y.ty) && (decide (x.t = y.t) && (decide (x.l = y.l) && eqVs x.vs y.vs x.l))
theorem sameE_self (x : Evt) : sameE x x = true := by simp [sameE, eqVs_self]
end Go.Proofs.Ytelabjipclfpnaa
