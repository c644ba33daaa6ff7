/-
  The order is an order: plain facts on 'ordZ'.
  Values as they lie in memory, one by itself and in a row; the first place of a name; of no function.
  A range over a function whose rounds are told by what they do to the world: the element that a round is handed may be known by the world in which it is handed. Of no function.
  Trees and what stays of memory: small facts that conditions and patterns share; of no function.
-/
import Derived.Test.YtinnhaojmnmliaaGreatCTxt
import Derived.Test.YtinnhaojmnmliaaGreatRows
import Derived.RangeFuncNested
import Derived.RangeFuncBound
import Derived.RangeFuncCalls
import Derived.RangeFuncLeaves
import Derived.RangeFuncBox
import Derived.Shelf.Abstract
import Derived.Shelf.RegionOpen
import Derived.WalkKit
import Derived.OwnWalkIn
import Derived.TacticsInMore
import Derived.LoopNIn
import Derived.LoopIn
namespace Go.Proofs.YtinnhaojmnmliaaGreat
open Go.RowKit

theorem less_irrefl : ∀ l : List UInt8, Op.bytesLess l l = false
  | [] => rfl
  | a :: l => by simp [Op.bytesLess, less_irrefl l, UInt8.lt_irrefl]
theorem less_total : ∀ l m : List UInt8, l ≠ m → Op.bytesLess l m = !Op.bytesLess m l
  | [], [], h => absurd rfl h
  | [], b :: m, _ => by simp [Op.bytesLess]
  | a :: l, [], _ => by simp [Op.bytesLess]
  | a :: l, b :: m, h => by
    simp only [Op.bytesLess]
    by_cases hab : a = b
    · subst hab
      have := less_total l m (fun e => h (by rw [e]))
      simp [UInt8.lt_irrefl, this]
    · have hba : ¬ b = a := fun e => hab e.symm
      have h1 : (a == b) = false := by simpa using hab
      have h2 : (b == a) = false := by simpa using hba
      rw [h1, h2]
      rcases UInt8.lt_or_lt_of_ne hab with h3 | h3
      · simp [h3, UInt8.lt_asymm h3]
      · simp [h3, UInt8.lt_asymm h3]
theorem less_trans : ∀ l m r : List UInt8, Op.bytesLess l m = true → Op.bytesLess m r = true → Op.bytesLess l r = true
  | _, [], _, h, _ => by simp [Op.bytesLess] at h
  | _, _ :: _, [], _, h => by simp [Op.bytesLess] at h
  | [], _ :: _, _ :: _, _, _ => by simp [Op.bytesLess]
  | a :: l, b :: m, c :: r, h1, h2 => by
    simp only [Op.bytesLess, Bool.or_eq_true, decide_eq_true_eq, Bool.and_eq_true, beq_iff_eq] at h1 h2 ⊢
    rcases h1 with h1 | ⟨rfl, h1⟩
    · rcases h2 with h2 | ⟨rfl, h2⟩
      · exact .inl (UInt8.lt_trans h1 h2)
      · exact .inl h1
    · rcases h2 with h2 | ⟨rfl, h2⟩
      · exact .inl h2
      · exact .inr ⟨rfl, less_trans l m r h1 h2⟩

/-- Two texts: what cmpS says of their bytes. -/
theorem cmpS_cases (s t : ByteArray) : (cmpS s t = -1 ∧ Op.bytesLess s.toList t.toList = true ∧ s.toList ≠ t.toList) ∨ (cmpS s t = 0 ∧ s.toList = t.toList) ∨ (cmpS s t = 1 ∧ Op.bytesLess t.toList s.toList = true ∧ s.toList ≠ t.toList) := by
  unfold cmpS
  by_cases h : s.toList = t.toList
  · rw [h]; simp [less_irrefl]
  · have := less_total _ _ h
    cases h1 : Op.bytesLess s.toList t.toList with
    | true => simp [h]
    | false =>
      rw [h1] at this
      have h2 : Op.bytesLess t.toList s.toList = true := by simpa using this
      simp [h, h2]
theorem cmpI_cases (a b : Int) : (cmpI a b = -1 ∧ a < b) ∨ (cmpI a b = 0 ∧ a = b) ∨ (cmpI a b = 1 ∧ b < a) := by
  unfold cmpI
  by_cases h : a < b
  · simp [h]
  · by_cases h' : b < a
    · simp [h, h']
    · exact .inr (.inl ⟨by simp [h, h'], by omega⟩)

variable (k n : Int) (s : ByteArray) (k' n' : Int) (s' : ByteArray) (k2 n2 : Int) (s2 : ByteArray)
/-- What it says of two values. -/
theorem ordZ_cases : (ordZ k n s k' n' s' = -1 ∧ (k < k' ∨ (k = k' ∧ (n < n' ∨ (n = n' ∧ Op.bytesLess s.toList s'.toList = true))))) ∨ (ordZ k n s k' n' s' = 0 ∧ k = k' ∧ n = n' ∧ s.toList = s'.toList) ∨
    (ordZ k n s k' n' s' = 1 ∧ (k' < k ∨ (k' = k ∧ (n' < n ∨ (n' = n ∧ Op.bytesLess s'.toList s.toList = true))))) := by
  unfold ordZ
  rcases cmpI_cases k k' with ⟨e, h⟩ | ⟨e, h⟩ | ⟨e, h⟩
  · simp [e, h]
  · subst h
    rcases cmpI_cases n n' with ⟨f, g⟩ | ⟨f, g⟩ | ⟨f, g⟩
    · simp [e, f, g]
    · subst g
      rcases cmpS_cases s s' with ⟨a, b, _⟩ | ⟨a, b⟩ | ⟨a, b, _⟩
      · simp [e, f, a, b]
      · simp [e, f, a, b]
      · simp [e, f, a, b]
    · simp [e, f, g]
  · simp [e, h]
theorem ordZ_turn : ordZ k' n' s' k n s = -ordZ k n s k' n' s' := by
  have irr := less_irrefl s.toList
  rcases ordZ_cases k n s k' n' s' with ⟨e, h⟩ | ⟨e, h⟩ | ⟨e, h⟩ <;> rcases ordZ_cases k' n' s' k n s with ⟨f, g⟩ | ⟨f, g⟩ | ⟨f, g⟩ <;> rw [e, f] <;> try rfl
  · exfalso
    rcases h with h | ⟨h, h' | ⟨h', h2⟩⟩ <;> rcases g with g | ⟨g, g' | ⟨g', g2⟩⟩ <;> try omega
    have := less_trans _ _ _ h2 g2
    rw [irr] at this
    cases this
  · exfalso
    rcases h with h | ⟨h, h' | ⟨h', h2⟩⟩ <;> obtain ⟨g, g', g2⟩ := g <;> try omega
    rw [g2, irr] at h2; cases h2
  · exfalso
    rcases g with g | ⟨g, g' | ⟨g', g2⟩⟩ <;> obtain ⟨h, h', h2⟩ := h <;> try omega
    rw [h2, less_irrefl] at g2; cases g2
  · exfalso
    rcases g with g | ⟨g, g' | ⟨g', g2⟩⟩ <;> obtain ⟨h, h', h2⟩ := h <;> try omega
    rw [h2, less_irrefl] at g2; cases g2
  · exfalso
    rcases h with h | ⟨h, h' | ⟨h', h2⟩⟩ <;> obtain ⟨g, g', g2⟩ := g <;> try omega
    rw [g2, irr] at h2; cases h2
  · exfalso
    rcases h with h | ⟨h, h' | ⟨h', h2⟩⟩ <;> rcases g with g | ⟨g, g' | ⟨g', g2⟩⟩ <;> try omega
    have := less_trans _ _ _ g2 h2
    rw [irr] at this
    cases this
/-- And it goes on. -/
theorem ordZ_trans (h1 : ordZ k n s k' n' s' ≤ 0) (h2 : ordZ k' n' s' k2 n2 s2 ≤ 0) : ordZ k n s k2 n2 s2 ≤ 0 := by
  have irr := less_irrefl s.toList
  rcases ordZ_cases k n s k2 n2 s2 with ⟨e, h⟩ | ⟨e, h⟩ | ⟨e, h⟩
  · omega
  · omega
  · exfalso
    rcases ordZ_cases k n s k' n' s' with ⟨f, g⟩ | ⟨f, g, g', g2⟩ | ⟨f, g⟩
    · rcases ordZ_cases k' n' s' k2 n2 s2 with ⟨a, b⟩ | ⟨a, b, b', b2⟩ | ⟨a, b⟩
      · rcases h with h | ⟨h, h' | ⟨h', hh⟩⟩ <;> rcases g with g | ⟨g, g' | ⟨g', gg⟩⟩ <;> rcases b with b | ⟨b, b' | ⟨b', bb⟩⟩ <;> try omega
        have := less_trans _ _ _ (less_trans _ _ _ gg bb) hh
        rw [irr] at this
        cases this
      · rw [← b2] at h
        rcases h with h | ⟨h, h' | ⟨h', hh⟩⟩ <;> rcases g with g | ⟨g, g' | ⟨g', gg⟩⟩ <;> try omega
        have := less_trans _ _ _ gg hh
        rw [irr] at this
        cases this
      · omega
    · rcases ordZ_cases k' n' s' k2 n2 s2 with ⟨a, b⟩ | ⟨a, b, b', b2⟩ | ⟨a, b⟩
      · rw [← g2] at b
        rcases h with h | ⟨h, h' | ⟨h', hh⟩⟩ <;> rcases b with b | ⟨b, b' | ⟨b', bb⟩⟩ <;> try omega
        have := less_trans _ _ _ bb hh
        rw [irr] at this
        cases this
      · rw [← b2, ← g2] at h
        rcases h with h | ⟨h, h' | ⟨h', hh⟩⟩ <;> try omega
        rw [irr] at hh
        cases hh
      · omega
    · omega
end Go.Proofs.YtinnhaojmnmliaaGreat
namespace Go.Proofs.YtinnhaojmnmliaaGreat
open Go.RowKit

/-- A value. -/
structure Val where
  k : Int
  n : Int
  s : ByteArray
abbrev Val.v (x : Val) : Value := valV x.k x.n x.s
def val0 : Val := ⟨0, 0, ⟨#[]⟩⟩
/-- A slice of values. -/
def Vals (w : World) (a : Option Addr) (len : Nat) (V : Nat → Val) : Prop :=
  0 < len → ∃ b off, a = some ⟨b, off, none⟩ ∧ ∀ j, j < len → w.cell? ⟨b, off + j * 3, none⟩ = some (.int .i64 (V j).k) ∧ w.cell? ⟨b, off + j * 3 + 1, none⟩ = some (.int .i64 (V j).n) ∧ w.cell? ⟨b, off + j * 3 + 2, none⟩ = some (.string (V j).s)
theorem Vals.later {w w' : World} {a : Option Addr} {n : Nat} {V : Nat → Val} (h : Vals w a n V) (hB : Below w.heap.size w w') : Vals w' a n V := by
  intro h0
  obtain ⟨b, off, e, hc⟩ := h h0
  exact ⟨b, off, e, fun j hj => ⟨cell_later (hc j hj).1 hB, cell_later (hc j hj).2.1 hB, cell_later (hc j hj).2.2 hB⟩⟩
/-- The place of the first of some names that is this one. -/
def idx (Nm : Nat → ByteArray) (s : ByteArray) : Nat → Option Nat
  | 0 => none
  | n + 1 => match idx Nm s n with
    | some i => some i
    | none => if Nm n = s then some n else none
theorem idx_some (Nm : Nat → ByteArray) (s : ByteArray) : ∀ (n i : Nat), idx Nm s n = some i → i < n ∧ Nm i = s ∧ ∀ j, j < i → ¬ Nm j = s
  | 0, i, h => by simp [idx] at h
  | n + 1, i, h => by
    simp only [idx] at h
    split at h
    · rename_i j hj
      cases h
      have := idx_some Nm s n i hj
      exact ⟨by omega, this.2⟩
    · rename_i hj
      split at h
      · rename_i e
        cases h
        refine ⟨by omega, e, ?_⟩
        intro j hj' he
        have hnone : ∀ m, idx Nm s m = none → ∀ j, j < m → ¬ Nm j = s := by
          intro m
          induction m with
          | zero => intro _ j hj; omega
          | succ m ih =>
            intro hm j hj
            simp only [idx] at hm
            split at hm
            · cases hm
            · rename_i hi
              split at hm
              · cases hm
              · rename_i e2
                by_cases ej : j = m
                · exact ej ▸ e2
                · exact ih hi j (by omega)
        exact hnone n hj j hj' he
      · cases h
theorem idx_none (Nm : Nat → ByteArray) (s : ByteArray) : ∀ (n : Nat), idx Nm s n = none → ∀ j, j < n → ¬ Nm j = s
  | 0, _, j, hj => by omega
  | n + 1, h, j, hj => by
    simp only [idx] at h
    split at h
    · cases h
    · rename_i hi
      split at h
      · cases h
      · rename_i e2
        by_cases ej : j = n
        · exact ej ▸ e2
        · exact idx_none Nm s n hi j (by omega)
theorem idx_at (Nm : Nat → ByteArray) (s : ByteArray) (n i : Nat) (hi : i < n) (he : Nm i = s) (hl : ∀ j, j < i → ¬ Nm j = s) : idx Nm s n = some i := by
  cases e : idx Nm s n with
  | none => exact absurd he (idx_none Nm s n e i hi)
  | some k =>
    obtain ⟨_, h2, h3⟩ := idx_some Nm s n k e
    rcases Nat.lt_trichotomy k i with h | h | h
    · exact absurd h2 (hl k h)
    · rw [h]
    · exact absurd he (h3 i h)
/-- Are two values the same? -/
def eqV (x y : Val) : Bool := decide (x.k = y.k) && (decide (x.n = y.n) && decide (x.s = y.s))
theorem eqV_self (x : Val) : eqV x x = true := by simp [eqV]
/-- Are the first values the same? -/
def eqVs (V U : Nat → Val) : Nat → Bool
  | 0 => true
  | k + 1 => eqVs V U k && eqV (V k) (U k)
theorem eqVs_not (V U : Nat → Val) : ∀ (n j : Nat), j < n → eqV (V j) (U j) = false → eqVs V U n = false
  | 0, j, h, _ => by omega
  | n + 1, j, hj, h => by
    simp only [eqVs]
    by_cases e : j = n
    · subst e; rw [h, Bool.and_false]
    · rw [eqVs_not V U n j (by omega) h, Bool.false_and]
theorem eqVs_self (V : Nat → Val) : ∀ n, eqVs V V n = true
  | 0 => rfl
  | n + 1 => by simp only [eqVs]; rw [eqVs_self V n, eqV_self]; rfl
end Go.Proofs.YtinnhaojmnmliaaGreat
namespace Go.Proofs.YtinnhaojmnmliaaGreat
open Go.RowKit

/-- The same cells; below B the same blocks. -/
structure Ag (B : Nat) (W A : World) : Prop where
  os : A.os = W.os
  tape : A.tape = W.tape
  output : A.output = W.output
  size : A.heap.size = W.heap.size
  low : ∀ k, k < B → A.heap[k]? = W.heap[k]?
  cells : ∀ (k : Nat) (o : Obj), o.isCells = true → (A.heap[k]? = some o ↔ W.heap[k]? = some o)
theorem Ag.refl (B : Nat) (W : World) : Ag B W W := ⟨rfl, rfl, rfl, rfl, fun _ _ => rfl, fun _ _ _ => Iff.rfl⟩
theorem Ag.symm {B : Nat} {W A : World} (h : Ag B W A) : Ag B A W := ⟨h.os.symm, h.tape.symm, h.output.symm, h.size.symm, fun k hk => (h.low k hk).symm, fun k o ho => (h.cells k o ho).symm⟩
theorem Ag.trans {B : Nat} {W A C : World} (h : Ag B W A) (g : Ag B A C) : Ag B W C :=
  ⟨g.os.trans h.os, g.tape.trans h.tape, g.output.trans h.output, g.size.trans h.size, fun k hk => (g.low k hk).trans (h.low k hk), fun k o ho => (g.cells k o ho).trans (h.cells k o ho)⟩
theorem Ag.putObj {B l : Nat} {W : World} {o o' : Obj} (hl : B ≤ l) (h : W.heap[l]? = some o) (ho : o.isCells = false) (ho' : o'.isCells = false) : Ag B W (W.putObj l o') := by
  have hlt : l < W.heap.size := (Array.getElem?_eq_some_iff.1 h).1
  refine ⟨rfl, rfl, rfl, World.putObj_size, fun k hk => World.putObj_heap_other (by omega), fun k q hq => ?_⟩
  by_cases e : k = l
  · subst e
    rw [World.putObj_heap_same hlt, h]
    constructor <;> (intro e; cases e)
    · rw [ho'] at hq; cases hq
    · rw [ho] at hq; cases hq
  · rw [World.putObj_heap_other e]
theorem Ag.cell_some {B : Nat} {W A : World} (h : Ag B W A) {p : Addr} {v : Value} (hc : W.cell? p = some v) : A.cell? p = some v := by
  obtain ⟨o, ho, hi⟩ := cells_of_cell hc
  rw [World.cell?_of_block (w := W) (w' := A) (((h.cells _ _ hi).2 ho).trans ho.symm)]
  exact hc
theorem Ag.cell {B : Nat} {W A : World} (h : Ag B W A) (p : Addr) : A.cell? p = W.cell? p :=
  Option.ext fun _ => ⟨h.symm.cell_some, h.cell_some⟩
theorem Ag.frozen {B : Nat} {W A : World} (h : Ag B W A) {p : Addr} {v : Value} (hc : W.cell? p = some v) : A.frozen? p = W.frozen? p := by
  obtain ⟨o, ho, hi⟩ := cells_of_cell hc
  exact World.frozen?_of_block (w := W) (w' := A) (((h.cells _ _ hi).2 ho).trans ho.symm)
theorem Ag.boxed {B : Nat} {W A : World} (h : Ag B W A) {b : Nat} {t : TypeId} {v : Value} (hb : Boxed W b t v) : Boxed A b t v := (h.cells _ _ rfl).2 hb
theorem Ag.below {B n : Nat} {W A V : World} (h : Ag B W A) (hn : n ≤ B) (hb : Below n V W) : Below n V A :=
  ⟨h.os.trans hb.os, h.tape.trans hb.tape, h.output.trans hb.output, by rw [h.size]; exact hb.size, fun k hk => (h.low k (by omega)).trans (hb.block k hk)⟩
theorem Ag.below_from {B n : Nat} {W A V : World} (h : Ag B W A) (hn : n ≤ B) (hb : Below n A V) : Below n W V :=
  ⟨hb.os.trans h.os, hb.tape.trans h.tape, hb.output.trans h.output, by rw [← h.size]; exact hb.size, fun k hk => (hb.block k hk).trans (h.low k (by omega))⟩

/-- How a round's body may be left. -/
def backPost {α : Type} (B : Nat) (Go : α → World → World → Prop) (Out : Code → α → World → World → Prop) (x : α) (W : World) : Exit → Act → World → Prop
  | .normal, _, W' => KeepsFrom B W W' ∧ Go x W W'
  | .ret, _, W' => KeepsFrom B W W' ∧ Out .ret x W W'
  | .exit id, _, W' => KeepsFrom B W W' ∧ Out (.exit id) x W W'
  | .goto t, _, W' => KeepsFrom B W W' ∧ Out (.goto t) x W W'
  | .panic _, _, _ => False
  | .outgrown, _, _ => False

/-- What is no cell and lies between stays. -/
def KeepsTo (B B' : Nat) (W W' : World) : Prop := ∀ (k : Nat) (o : Obj), B ≤ k → k < B' → W.heap[k]? = some o → o.isCells = false → W'.heap[k]? = some o
theorem KeepsTo.of {B B' : Nat} {W W' : World} (h : KeepsFrom B W W') : KeepsTo B B' W W' := fun k o h1 _ h3 h4 => h.same k o h1 h3 h4
theorem KeepsTo.of_below {B B' n : Nat} {W W' : World} (h : Below n W W') (hn : B' ≤ n) : KeepsTo B B' W W' := fun k _ _ h2 h3 _ => (h.block k (by omega)).trans h3
theorem KeepsTo.of_ag {B B' n : Nat} {W W' : World} (h : Ag n W W') (hn : B' ≤ n) : KeepsTo B B' W W' := fun k _ _ h2 h3 _ => (h.low k (by omega)).trans h3
theorem KeepsTo.trans {B B' : Nat} {A C D : World} (h : KeepsTo B B' A C) (g : KeepsTo B B' C D) : KeepsTo B B' A D := fun k o h1 h2 h3 h4 => g k o h1 h2 (h k o h1 h2 h3 h4) h4
theorem wpIn_rangeK {α : Type} {n : Nat} {P : Program} {g : Operand} {ps : Array Tmp} {assign body : Code} {Q : Exit → Act → World → Prop} {a : Act} {w : World}
    {gf : Nat} {lb : Array Value} (hg : a.eval g = .func (.func gf) #[] lb) (eg : ∀ args w, (callFunc gf args).run P w = .ok (.enter gf args) w)
    {encs : α → Array Value} (hps : ∀ x, (encs x).size = ps.size)
    (Pre : α → World → Prop) (Go : α → World → World → Prop) (Out : Code → α → World → World → Prop) (Fin : World → Prop) (Left : Code → World → Prop)
    (hPre : ∀ x W A, Ag w.heap.size W A → Pre x W → Pre x A)
    (hGo : ∀ x W A A' W', Ag w.heap.size W A → Ag w.heap.size A' W' → Go x A A' → Go x W W')
    (hOut : ∀ c x W A A' W', Ag w.heap.size W A → Ag w.heap.size A' W' → Out c x A A' → Out c x W W')
    (hFin : ∀ W A, Ag w.heap.size W A → Fin W → Fin A) (hLeft : ∀ c W A, Ag w.heap.size W A → Left c W → Left c A)
    (a₁ : α → Act)
    (hassign : ∀ (l : Nat) (x : α) (W : World) (K : Act → World → Prop), K (a₁ x) W →
      assign.wpIn (Fence.wide.inRound l) (n - 1 - 1) P (Exit.then K (fun _ _ _ => False)) { tmps := (ps.zip (encs x)).foldl (fun t (p, v) => t.setIfInBounds p v) a.tmps, defers := [] } W)
    (hbody : ∀ (l : Nat) (x : α) (W : World), Pre x W → w.heap.size + 2 ≤ W.heap.size → body.wpIn (Fence.wide.inRound l) (n - 1 - 1) P (backPost w.heap.size Go Out x W) (a₁ x) W)
    (hseq : ∀ (l : Nat) (Rec : World → Prop) (RecX : Code → World → Prop) (W1 : World), Below w.heap.size w W1 → W1.heap.size = w.heap.size + 2 → Rec W1 →
      (∀ W W', KeepsTo w.heap.size (w.heap.size + 2) W W' → Rec W → Rec W') → (∀ c W W', KeepsTo w.heap.size (w.heap.size + 2) W W' → RecX c W → RecX c W') →
      (∀ (m : Nat) (x : α) (W : World), Pre x W → Rec W → YieldAt Fence.wide m P l (encs x) W fun e W' => (e = .returned (.bool true) ∧ Go x W W' ∧ Rec W' ∧ KeepsFrom w.heap.size W W') ∨ (e = .returned (.bool false) ∧ ∃ c, Out c x W W' ∧ RecX c W' ∧ KeepsFrom (w.heap.size + 2) W W')) →
      CallsIn Fence.wide (n - 1) P gf (#[.func (.yield l) #[] #[]] ++ lb) W1 fun e W' => (∃ v, e = .returned v) ∧ ((Fin W' ∧ Rec W') ∨ ∃ c, Left c W' ∧ RecX c W'))
    (hdone : ∀ (D : Nat) (W : World), w.heap.size ≤ D → Fin W → W.heap[D]? = some (.deferred (some [])) → Q .normal { a with defers := { target := .collected D, args := #[] } :: a.defers } W)
    (hstop : ∀ (D : Nat) (c : Code) (W : World), w.heap.size ≤ D → Left c W → W.heap[D]? = some (.deferred (some [])) → c.wpIn Fence.wide n P Q { a with defers := { target := .collected D, args := #[] } :: a.defers } W) :
    (Code.rangeFunc g ps assign body).wpIn Fence.wide n P Q a w := by
  refine wpIn_rangeFunc fun fn hfn => ?_
  obtain ⟨rec, hrec⟩ : ∃ rec : LoopState → Option Code → Loop, rec = fun st pe => { state := st, pending := pe, fn, tmps := a.tmps, params := ps, assign, body, defers := w.heap.size } := ⟨_, rfl⟩
  obtain ⟨W1, hW1⟩ : ∃ W1, (w.alloc (.deferred (some []))).alloc (.loop (rec .ready none)) = W1 := ⟨_, rfl⟩
  have hL1 : W1.heap[w.heap.size + 1]? = some (.loop (rec .ready none)) := by
    rw [← hW1]; have := World.alloc_heap_new (w.alloc (.deferred (some []))) (.loop (rec .ready none)); rwa [World.size_alloc] at this
  have hK1 : W1.heap[w.heap.size]? = some (.deferred (some [])) := by
    rw [← hW1]; exact (Below.heap_alloc _ _ _ (by simp)).trans (World.alloc_heap_new w _)
  have hb1 : Below w.heap.size w W1 := by
    rw [← hW1]; exact ((Below.refl _ w).alloc (Nat.le_refl _) _).alloc (by simp) _
  have hs1 : W1.heap.size = w.heap.size + 2 := by rw [← hW1]; simp
  refine ⟨w.heap.size + 1, [{ target := .collected w.heap.size, args := #[] }], W1, { target := .fn (.func gf) lb, args := #[.func (.yield (w.heap.size + 1)) #[] #[]] }, W1, gf,
    #[.func (.yield (w.heap.size + 1)) #[] #[]] ++ lb, W1, ?_, ?_, ?_, ?_, (fun h => (by cases h)), ?_⟩
  · rw [← hW1, hrec]; exact run_enterLoop_outer _ _ _ _ _
  · simp only [resolve, hg]
    simp [go_sem]
  · intro f' _; trivial
  · simp [invoke, go_sem, eg]
  · refine (hseq (w.heap.size + 1) (fun W => W.heap[w.heap.size + 1]? = some (.loop (rec .ready none)) ∧ W.heap[w.heap.size]? = some (.deferred (some [])))
      (fun c W => W.heap[w.heap.size + 1]? = some (.loop (rec .done (some c))) ∧ W.heap[w.heap.size]? = some (.deferred (some []))) W1 hb1 hs1 ⟨hL1, hK1⟩
      (fun W W' hk h => ⟨hk _ _ (by omega) (by omega) h.1 rfl, hk _ _ (Nat.le_refl _) (by omega) h.2 rfl⟩) (fun c W W' hk h => ⟨hk _ _ (by omega) (by omega) h.1 rfl, hk _ _ (Nat.le_refl _) (by omega) h.2 rfl⟩) ?_).mono ?_
    · rintro m x W hp ⟨hl, hd⟩
      have hlt : w.heap.size + 1 < W.heap.size := (Array.getElem?_eq_some_iff.1 hl).1
      have hy := run_yield (P := P) (args := encs x) hl (by rw [hrec]; exact hps x)
      rw [hrec] at hy
      refine ⟨fn, _, assign, body, hy, ⟨hfn, fun c cs _ => (roundIn_of_wpIn (n := n - 1 - 1) hfn (hassign _ x W _ ?_)).2 c cs (fun d h => by cases h)⟩⟩
      clear hy
      refine ⟨_, run_beginRound hl (by rw [hrec]), ?_⟩
      obtain ⟨A, hA⟩ : ∃ A, W.putObj (w.heap.size + 1) (.loop { rec .ready none with state := .busy }) = A := ⟨_, rfl⟩
      have hl2 : A.heap[w.heap.size + 1]? = some (.loop { rec .ready none with state := .busy }) := by rw [← hA]; exact World.putObj_heap_same hlt
      have hd2 : A.heap[w.heap.size]? = some (.deferred (some [])) := by rw [← hA]; exact (World.putObj_heap_other (by omega)).trans hd
      have hag : Ag w.heap.size W A := by rw [← hA]; exact Ag.putObj (by omega) hl rfl rfl
      have hsz : A.heap.size = W.heap.size := hag.size
      have hsame : ∀ k, k ≠ w.heap.size + 1 → A.heap[k]? = W.heap[k]? := fun k hk => by rw [← hA]; exact World.putObj_heap_other hk
      rw [hA]
      refine wpIn_mono (hbody _ x A (hPre x W A hag hp) (by omega)) ?_
      have fin : ∀ (jump : Option Code) (W3 : World), KeepsFrom w.heap.size A W3 → ∃ W4, (Instr.endRound (w.heap.size + 1) jump).run P W3 = .ok (.bool jump.isNone) W4 ∧ Ag w.heap.size W3 W4 ∧
          W4.heap[w.heap.size + 1]? = some (.loop (rec (if jump.isNone then .ready else .done) jump)) ∧ W4.heap[w.heap.size]? = some (.deferred (some [])) ∧ (∀ k, k ≠ w.heap.size + 1 → W4.heap[k]? = W3.heap[k]?) := fun jump W3 hk3 => by
        have hl3 := hk3.same _ _ (by omega) hl2 rfl
        have := run_endRound (P := P) jump hl3
        refine ⟨_, this, Ag.putObj (by omega) hl3 rfl rfl, ?_, (World.putObj_heap_other (by omega)).trans (hk3.same _ _ (Nat.le_refl _) hd2 rfl), fun k hk => World.putObj_heap_other hk⟩
        rw [World.putObj_heap_same (Array.getElem?_eq_some_iff.1 hl3).1, hrec]
      have keep : ∀ W4 W3, KeepsFrom w.heap.size A W3 → Ag w.heap.size W3 W4 → (∀ k, k ≠ w.heap.size + 1 → W4.heap[k]? = W3.heap[k]?) → KeepsFrom (w.heap.size + 2) W W4 := fun W4 W3 hk3 hag4 hs4 =>
        ⟨by rw [hag4.size, ← hsz]; exact hk3.size, fun k o hk ho hc => by rw [hs4 k (by omega)]; exact hk3.same k o (by omega) ((hsame k (by omega)).trans ho) hc⟩
      rintro e a3 W3 hp3
      cases e with
      | normal =>
        obtain ⟨hk3, hg3⟩ := hp3
        obtain ⟨W4, hr, hag4, hl4, hd4, hs4⟩ := fin none W3 hk3
        refine ⟨_, _, hr, .inl ⟨rfl, hGo x W A W3 W4 hag hag4 hg3, ⟨hl4, hd4⟩, ?_, fun k o hk ho hc => ?_⟩⟩
        · rw [hag4.size, ← hsz]; exact hk3.size
        · by_cases e : k = w.heap.size + 1
          · subst e
            rw [hl] at ho
            cases ho
            exact hl4
          · rw [hs4 k e]
            exact hk3.same k o hk ((hsame k e).trans ho) hc
      | ret =>
        obtain ⟨hk3, hg3⟩ := hp3
        obtain ⟨W4, hr, hag4, hl4, hd4, hs4⟩ := fin (some .ret) W3 hk3
        exact ⟨_, _, hr, .inr ⟨rfl, .ret, hOut _ x W A W3 W4 hag hag4 hg3, ⟨hl4, hd4⟩, keep W4 W3 hk3 hag4 hs4⟩⟩
      | exit id =>
        obtain ⟨hk3, hg3⟩ := hp3
        obtain ⟨W4, hr, hag4, hl4, hd4, hs4⟩ := fin (some (.exit id)) W3 hk3
        exact ⟨_, _, hr, .inr ⟨rfl, .exit id, hOut _ x W A W3 W4 hag hag4 hg3, ⟨hl4, hd4⟩, keep W4 W3 hk3 hag4 hs4⟩⟩
      | goto t =>
        obtain ⟨hk3, hg3⟩ := hp3
        obtain ⟨W4, hr, hag4, hl4, hd4, hs4⟩ := fin (some (.goto t)) W3 hk3
        exact ⟨_, _, hr, .inr ⟨rfl, .goto t, hOut _ x W A W3 W4 hag hag4 hg3, ⟨hl4, hd4⟩, keep W4 W3 hk3 hag4 hs4⟩⟩
      | panic ch => exact hp3.elim
      | outgrown => exact hp3.elim
    · rintro e W2 ⟨⟨v, rfl⟩, (⟨hf, hl, hd⟩ | ⟨c, hf, hl, hd⟩)⟩
      · have := run_endLoop (P := P) hl (by rw [hrec]; simp)
        exact ⟨none, _, by rw [this, hrec], hdone _ _ (Nat.le_refl _) (hFin _ _ (Ag.putObj (by omega) hl rfl rfl) hf) ((World.putObj_heap_other (by omega)).trans hd)⟩
      · have := run_endLoop (P := P) hl (by rw [hrec]; simp)
        exact ⟨some c, _, by rw [this, hrec], hstop _ c _ (Nat.le_refl _) (hLeft c _ _ (Ag.putObj (by omega) hl rfl rfl) hf) ((World.putObj_heap_other (by omega)).trans hd)⟩
theorem wpIn_range {α : Type} {n : Nat} {P : Program} {g : Operand} {ps : Array Tmp} {assign body : Code} {Q : Exit → Act → World → Prop} {a : Act} {w : World}
    {gf : Nat} {lb : Array Value} (hg : a.eval g = .func (.func gf) #[] lb) (eg : ∀ args w, (callFunc gf args).run P w = .ok (.enter gf args) w)
    {encs : α → Array Value} (hps : ∀ x, (encs x).size = ps.size)
    (Pre : α → World → Prop) (Go : α → World → World → Prop) (Out : Code → α → World → World → Prop) (Fin : World → Prop) (Left : Code → World → Prop)
    (hPre : ∀ x W A, Ag w.heap.size W A → Pre x W → Pre x A)
    (hGo : ∀ x W A A' W', Ag w.heap.size W A → Ag w.heap.size A' W' → Go x A A' → Go x W W')
    (hOut : ∀ c x W A A' W', Ag w.heap.size W A → Ag w.heap.size A' W' → Out c x A A' → Out c x W W')
    (hFin : ∀ W A, Ag w.heap.size W A → Fin W → Fin A) (hLeft : ∀ c W A, Ag w.heap.size W A → Left c W → Left c A)
    (a₁ : α → Act)
    (hassign : ∀ (l : Nat) (x : α) (W : World) (K : Act → World → Prop), K (a₁ x) W →
      assign.wpIn (Fence.wide.inRound l) (n - 1 - 1) P (Exit.then K (fun _ _ _ => False)) { tmps := (ps.zip (encs x)).foldl (fun t (p, v) => t.setIfInBounds p v) a.tmps, defers := [] } W)
    (hbody : ∀ (l : Nat) (x : α) (W : World), Pre x W → w.heap.size + 2 ≤ W.heap.size → body.wpIn (Fence.wide.inRound l) (n - 1 - 1) P (backPost w.heap.size Go Out x W) (a₁ x) W)
    (hseq : ∀ (l : Nat) (Rec : World → Prop) (RecX : Code → World → Prop) (W1 : World), Below w.heap.size w W1 → W1.heap.size = w.heap.size + 2 → Rec W1 →
      (∀ W W', KeepsFrom w.heap.size W W' → Rec W → Rec W') → (∀ c W W', KeepsFrom w.heap.size W W' → RecX c W → RecX c W') →
      (∀ (m : Nat) (x : α) (W : World), Pre x W → Rec W → YieldAt Fence.wide m P l (encs x) W fun e W' => (e = .returned (.bool true) ∧ Go x W W' ∧ Rec W' ∧ KeepsFrom w.heap.size W W') ∨ (e = .returned (.bool false) ∧ ∃ c, Out c x W W' ∧ RecX c W')) →
      CallsIn Fence.wide (n - 1) P gf (#[.func (.yield l) #[] #[]] ++ lb) W1 fun e W' => (∃ v, e = .returned v) ∧ ((Fin W' ∧ Rec W') ∨ ∃ c, Left c W' ∧ RecX c W'))
    (hdone : ∀ (D : Nat) (W : World), w.heap.size ≤ D → Fin W → W.heap[D]? = some (.deferred (some [])) → Q .normal { a with defers := { target := .collected D, args := #[] } :: a.defers } W)
    (hstop : ∀ (D : Nat) (c : Code) (W : World), w.heap.size ≤ D → Left c W → W.heap[D]? = some (.deferred (some [])) → c.wpIn Fence.wide n P Q { a with defers := { target := .collected D, args := #[] } :: a.defers } W) :
    (Code.rangeFunc g ps assign body).wpIn Fence.wide n P Q a w :=
  wpIn_rangeK hg eg hps Pre Go Out Fin Left hPre hGo hOut hFin hLeft a₁ hassign hbody (fun l Rec RecX W1 h1 h2 h3 h4 h5 h6 => hseq l Rec RecX W1 h1 h2 h3 (fun W W' hk => h4 W W' (.of hk)) (fun c W W' hk => h5 c W W' (.of hk)) (fun m x W hp hr => YieldAt.mono (h6 m x W hp hr) (fun _ _ h => h.imp (fun q => q) (fun ⟨h1, c, h2, h3, _⟩ => ⟨h1, c, h2, h3⟩)))) hdone hstop
end Go.Proofs.YtinnhaojmnmliaaGreat
namespace Go.Proofs.YtinnhaojmnmliaaGreat
open Go.RowKit Go.Shelf

theorem alloc_old {w : World} {o : Obj} {r : Nat} (h : r < w.heap.size) : (w.alloc o).heap[r]? = w.heap[r]? := Below.heap_alloc w o r h
theorem alloc_new (w : World) (o : Obj) : (w.alloc o).heap[w.heap.size]? = some o := World.alloc_heap_new w o
theorem alloc2_new (w : World) (A B : Obj) : ((w.alloc A).alloc B).heap[w.heap.size + 1]? = some B := by
  have h := World.alloc_heap_new (w.alloc A) B
  rwa [World.size_alloc] at h
/-- The sum of the first. -/
def sumN (f : Nat → Nat) : Nat → Nat
  | 0 => 0
  | n + 1 => sumN f n + f n
/-- The greatest of the first. -/
def maxN (f : Nat → Nat) : Nat → Nat
  | 0 => 0
  | n + 1 => max (maxN f n) (f n)
theorem sumN_le {f : Nat → Nat} : ∀ {n i : Nat}, i < n → f i ≤ sumN f n
  | 0, _, h => by omega
  | n + 1, i, h => by
    simp only [sumN]
    by_cases e : i = n
    · subst e; omega
    · have := sumN_le (f := f) (show i < n by omega); omega
theorem round_wide {m m' : Nat} {P : Program} {l : Nat} {f : FuncId} {tmps : Array Value} {assign body : Code} {w : World} {R : Ending → World → Prop}
    (h : RoundIn Fence.wide m P l f tmps assign body w R) : RoundIn Fence.wide m' P l f tmps assign body w R := ⟨h.1, fun c cs _ => h.2 c cs (fun d h => by cases h)⟩
theorem yield_wide {m : Nat} (m' : Nat) {P : Program} {l : Nat} {args : Array Value} {W : World} {R : Ending → World → Prop} (h : YieldAt Fence.wide m P l args W R) : YieldAt Fence.wide m' P l args W R := by
  obtain ⟨fn, tmps, assign, body, hy, hR⟩ := h
  exact ⟨fn, tmps, assign, body, hy, round_wide hR⟩

/-- The first of some lists, one behind the other. -/
def catN {α : Type} (f : Nat → List α) : Nat → List α
  | 0 => []
  | n + 1 => catN f n ++ f n
theorem catN_len {α : Type} (f : Nat → List α) : ∀ {n i : Nat}, i < n → (catN f i).length + (f i).length ≤ (catN f n).length
  | 0, _, h => by omega
  | n + 1, i, h => by
    simp only [catN, List.length_append]
    by_cases e : i = n
    · subst e; omega
    · have := catN_len f (show i < n by omega); omega
theorem mem_catN {α : Type} {f : Nat → List α} {y : α} : ∀ {n : Nat}, y ∈ catN f n ↔ ∃ i, i < n ∧ y ∈ f i
  | 0 => by simp [catN]
  | n + 1 => by
    rw [catN, List.mem_append, mem_catN]
    constructor
    · rintro (⟨i, hi, h⟩ | h)
      · exact ⟨i, by omega, h⟩
      · exact ⟨n, by omega, h⟩
    · rintro ⟨i, hi, h⟩
      by_cases e : i = n
      · exact .inr (e ▸ h)
      · exact .inl ⟨i, by omega, h⟩
/-- Blocks of cells that stay as they are. -/
def Kp (T : Nat → Prop) (W W' : World) : Prop := ∀ (k : Nat) (o : Obj), T k → o.isCells = true → W.heap[k]? = some o → W'.heap[k]? = some o
theorem Kp.refl (T : Nat → Prop) (W : World) : Kp T W W := fun _ _ _ _ h => h
theorem Kp.trans {T : Nat → Prop} {A B C : World} (h : Kp T A B) (g : Kp T B C) : Kp T A C := fun k o hk ho e => g k o hk ho (h k o hk ho e)
theorem Kp.cell {T : Nat → Prop} {W W' : World} (h : Kp T W W') {p : Addr} {v : Value} (hp : T p.block) (hc : W.cell? p = some v) : W'.cell? p = some v := by
  obtain ⟨o, ho, hi⟩ := cells_of_cell hc
  rw [World.cell?_of_block (w := W) (w' := W') ((h _ _ hp hi ho).trans ho.symm)]
  exact hc
theorem Kp.ag {B : Nat} {T : Nat → Prop} {W A A' W' : World} (h : Ag B W A) (h' : Ag B A' W') (g : Kp T A A') : Kp T W W' := fun k o hk ho e => (h'.cells k o ho).2 (g k o hk ho ((h.cells k o ho).2 e))
theorem Kp.mono {T T' : Nat → Prop} {W W' : World} (h : Kp T W W') (hT : ∀ k, T' k → T k) : Kp T' W W' := fun k o hk => h k o (hT k hk)
theorem Kp.of_below {n : Nat} {T : Nat → Prop} {W W' : World} (h : Below n W W') (hT : ∀ k, T k → k < n) : Kp T W W' := fun k _ hk _ e => (h.block k (hT k hk)).trans e
theorem Kp.boxed {T : Nat → Prop} {W W' : World} (h : Kp T W W') {b : Nat} {t : TypeId} {v : Value} (hp : T b) (hb : Boxed W b t v) : Boxed W' b t v := h b _ hp rfl hb
theorem Boxed.kept_of {W W' : World} {n B : Nat} {t : TypeId} {v : Value} (h : Boxed W B t v) (hB : Below n W W') (hn : B < n) : Boxed W' B t v := (hB.block B hn).trans h
theorem Kp.set {T : Nat → Prop} {W : World} {b o : Nat} (v : Value) (h : ¬ T b) : Kp T W (W.setCell ⟨b, o, none⟩ v) := fun k _ hk _ e => (Below.heap_setCell W ⟨b, o, none⟩ v k (fun he => h (by have he' : k = b := he; rw [← he']; exact hk))).trans e
/-- One more, as the machine counts. -/
def cnt : Nat → Int
  | 0 => 0
  | n + 1 => wrap64 (cnt n + 1)

/-- The document's Size, as the machine counts. -/
def accZ (f : Nat → Int) : Nat → Int
  | 0 => 1
  | n + 1 => wrap64 (accZ f n + f n)
theorem heap_set {W : World} {b o : Nat} {v : Value} {c : Array Value} {t : TypeId} (h : W.heap[b]? = some (.cells c t (0, 0))) : (W.setCell ⟨b, o, none⟩ v).heap[b]? = some (.cells (c.setIfInBounds o v) t (0, 0)) := by
  simp only [World.setCell, Array.getElem?_modify, if_pos, h]
  rfl
theorem maxN_le {f : Nat → Nat} : ∀ {n i : Nat}, i < n → f i ≤ maxN f n
  | 0, _, h => by omega
  | n + 1, i, h => by
    simp only [maxN]
    by_cases e : i = n
    · subst e; omega
    · have := maxN_le (f := f) (show i < n by omega); omega
theorem own_laterS {w w' : World} {B e size n : Nat} {v : Value} {xs : List Value} (h : w.ownsRow B e size v n xs) (hb : Below w.heap.size w w') : w'.ownsRow B e size v n xs :=
  h.kept (row := none) ⟨hb.os, hb.tape, hb.output, hb.size, fun k hk _ => hb.block k hk⟩ (Classical.em _)
/-- How a body that changes no node may be left. -/
def foldPost (B : Nat) (T : Nat → Prop) (J : World → Prop) (Jx : Code → World → Prop) (W : World) : Exit → Act → World → Prop
  | .normal, _, W' => KeepsFrom B W W' ∧ Kp T W W' ∧ J W'
  | .ret, _, W' => KeepsFrom B W W' ∧ Jx .ret W'
  | .exit id, _, W' => KeepsFrom B W W' ∧ Jx (.exit id) W'
  | .goto t, _, W' => KeepsFrom B W W' ∧ Jx (.goto t) W'
  | .panic _, _, _ => False
  | .outgrown, _, _ => False
/-- How a body that does what it does to a node may be left. -/
def walkPost (B : Nat) (G : World → Prop) (W : World) : Exit → Act → World → Prop
  | .normal, _, W' => KeepsFrom B W W' ∧ Kp (fun k => k = B + 2 ∨ k = B + 3) W W' ∧ G W'
  | _, _, _ => False
/-- What a round is handed. -/
structure Got (ι : Type) where
  d : Int
  b : Nat
  o : Nat
  v : ι

theorem sumN_part {f : Nat → Nat} : ∀ {n i : Nat}, i < n → sumN f i + f i ≤ sumN f n
  | 0, _, h => by omega
  | n + 1, i, h => by
    simp only [sumN]
    by_cases e : i = n
    · subst e; omega
    · have := sumN_part (f := f) (show i < n by omega); omega
theorem wpOp_append_at {P : Program} {w w' : World} {o : Oper} {a : Act} {K : Act → World → Prop} {Q : Exit → Act → World → Prop} (s x : Operand) (t : TypeId)
    (hop : o.op = Op.call { callee := Callee.builtin Builtin.append, args := #[s, x], argTypes := #[t, t] }) (v y v' : Value) (hs : a.eval s = v) (hx : a.eval x = y)
    (hrun : (Builtin.append_ #[t, t] o.type #[v, y]).run P w = .ok v' w') (hK : K (a.put o.dst v') w') : Oper.wp P o a w K Q := by
  unfold Oper.wp
  simp [execOp, hop, resolve, invoke, builtin, hs, hx, hrun, Result.andThen]
  exact hK
end Go.Proofs.YtinnhaojmnmliaaGreat
