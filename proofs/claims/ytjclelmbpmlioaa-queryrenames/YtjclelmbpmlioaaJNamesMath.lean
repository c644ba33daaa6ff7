/-
  Names in order, each once: plain facts, of no function.
  Small facts that many texts share: texts that are the same, names as keys, what stays; of no function.
  A slice of texts, by index.
  Of what came in: how much it is, cells of small types; of no function.
  A map of names' first places; a name's new name; what is older and stays; of no function.
  The document's Name of conditions: a name's new name.
  Of what came in: cells of small types, and values.
  Texts and lists of texts that came in.
-/
import Derived.Test.YtjclelmbpmlioaaJBrief
import Derived.Test.YtjclelmbpmlioaaJExprMath
import Derived.Test.YtjclelmbpmlioaaJTxt
import Derived.Maps.OwnSet
import Derived.Deep.Strs
import Derived.Maps.OwnIn
import Derived.Maps.Views
import Derived.Deep.DeepCutAuto
namespace Go.Proofs.Ytjclelmbpmlioaa
open Go.RowKit

/-- The names that a condition's fields have. -/
def hasVar (s : ByteArray) : X → Prop
  | .nil => False
  | .mk k _ v _ _ n _ c => (k = 2 ∧ v = s) ∨ ∃ i, i < n ∧ hasVar s (c i)
/-- With other names. -/
def renX (g : ByteArray → ByteArray) : X → X
  | .nil => .nil
  | .mk k v s f a n cap c => .mk k v (if k = 2 then g s else s) f a n cap (fun i => renX g (c i))
theorem renX_parts (g : ByteArray → ByteArray) (x : X) : (renX g x).k = x.k ∧ (renX g x).v = x.v ∧ (renX g x).s = (if x.k = 2 then g x.s else x.s) ∧ (renX g x).f = x.f ∧ (renX g x).n = x.n ∧ ∀ i, (renX g x).c i = renX g (x.c i) := by
  cases x with
  | nil => exact ⟨rfl, rfl, rfl, rfl, rfl, fun _ => rfl⟩
  | mk => exact ⟨rfl, rfl, rfl, rfl, rfl, fun _ => rfl⟩
theorem renX_same (g : ByteArray → ByteArray) : ∀ x y : X, ordX x y = 0 → ordX (renX g x) (renX g y) = 0 := by
  refine X.ind fun x ih y h => ?_
  · obtain ⟨h1, h2, h3, h4, h5, h6⟩ := (ordX_zero _ _).1 h
    obtain ⟨a1, a2, a3, a4, a5, a6⟩ := renX_parts g x
    obtain ⟨b1, b2, b3, b4, b5, b6⟩ := renX_parts g y
    rw [ordX_zero, a1, a2, a3, a4, a5, b1, b2, b3, b4, b5, h1, h3]
    refine ⟨rfl, h2, rfl, h4, h5, fun i hi => ?_⟩
    rw [a6, b6]
    exact ih i hi (y.c i) (h6 i hi)
end Go.Proofs.Ytjclelmbpmlioaa
namespace Go.Proofs.Ytjclelmbpmlioaa
open Go.RowKit Go.Maps Go.WideMaps

/-- Strings are the same. -/
theorem same_str (s t : ByteArray) : (s.toList == t.toList) = decide (s = t) := by
  by_cases h : s = t
  · subst h; simp
  · rw [decide_eq_false h, beq_eq_false_iff_ne]
    intro he
    apply h
    rw [ByteArray.toList_eq, ByteArray.toList_eq] at he
    exact ByteArray.ext (Array.ext' he)
theorem str_yes {s t : ByteArray} (h : s = t) : (s.toList == t.toList) = true := by rw [same_str]; exact decide_eq_true h
theorem str_not {s t : ByteArray} (h : ¬ s = t) : (s.toList == t.toList) = false := by rw [same_str]; exact decide_eq_false h
theorem str_law : Keyed Try.prog 9 := string_keyed Try.underlying9
/-- A name as a key. -/
abbrev keyS (s : ByteArray) : Lit := .string s.data.toList
theorem keyS_ne {s t : ByteArray} (h : ¬ s = t) : keyS s ≠ keyS t := by
  intro e
  injection e with e
  exact h (ByteArray.ext (Array.ext' e))
/-- Below, on and on. -/
theorem bd {w w1 : World} (h : Below w.heap.size w w1) (n : Nat) : Below w.heap.size w (w1.drewN n) := h.trans ⟨rfl, rfl, rfl, Nat.le_refl _, fun _ _ => rfl⟩
end Go.Proofs.Ytjclelmbpmlioaa
namespace Go.Proofs.Ytjclelmbpmlioaa
open Go.RowKit

/-- A slice of texts, by index. -/
def Txs (w : World) (a : Option Addr) (n : Nat) (S : Nat → ByteArray) : Prop := 0 < n → ∃ b o, a = some ⟨b, o, none⟩ ∧ ∀ j, j < n → w.cell? ⟨b, o + j, none⟩ = some (.string (S j))
theorem Txs.later {w w' : World} {a : Option Addr} {n : Nat} {S : Nat → ByteArray} (h : Txs w a n S) (hB : Below w.heap.size w w') : Txs w' a n S := fun h0 => by
  obtain ⟨b, o, e, hc⟩ := h h0
  exact ⟨b, o, e, fun j hj => cell_later (hc j hj) hB⟩
theorem Txs.lt {W : World} {a : Option Addr} {n : Nat} {S : Nat → ByteArray} (hx : Txs W a n S) (h0 : 0 < n) {b o : Nat} (e : a = some ⟨b, o, none⟩) : b < W.heap.size := by
  obtain ⟨b', o', e', hc⟩ := hx h0
  rw [e] at e'
  cases e'
  exact World.block_lt_of_cell? W _ (hc 0 h0)
end Go.Proofs.Ytjclelmbpmlioaa
namespace Go.Proofs.Ytjclelmbpmlioaa
open Go.RowKit Go.ChangeShapes Go.WideShapes

section
variable {H : Type}
theorem cells_i : Try.prog.cellsOf 3 = 1 := by kernel_rfl
theorem cells_s : Try.prog.cellsOf 9 = 1 := by kernel_rfl
theorem bulk_app (l r : List (DataW H)) : Rows.uptoBulkAll (l ++ r) = Rows.uptoBulkAll l + Rows.uptoBulkAll r := by
  induction l with
  | nil => simp [Rows.uptoBulkAll]
  | cons x l ih => simp only [List.cons_append, Rows.uptoBulkAll, ih]; omega
theorem bulk_range (D : Nat → DataW H) : ∀ n, Rows.uptoBulkAll ((List.range n).map D) = sumN (fun i => Rows.uptoBulk (D i)) n
  | 0 => rfl
  | n + 1 => by
    rw [List.range_succ, List.map_append, bulk_app, bulk_range D n]
    simp [sumN, Rows.uptoBulkAll]
theorem add_none (b o j : Nat) : (Addr.mk b o none).add j = ⟨b, o + j, none⟩ := by
  unfold Addr.add
  split
  · simp
  · rfl
end
end Go.Proofs.Ytjclelmbpmlioaa
namespace Go.Proofs.Ytjclelmbpmlioaa
open Go.RowKit Go.Shelf Go.Maps Go.WideMaps

abbrev zeroI : DataW Unit := .lit (.int .i64 0)
/-- What the map tells of the names from the i-th on: each one's first place. -/
structure Firsts (S : Nat → ByteArray) (n i : Nat) (D : DataW Unit) : Prop where
  hit : ∀ j, i ≤ j → j < n → (∀ j', i ≤ j' → j' < j → S j' ≠ S j) → Maps.has D (keyS (S j)) = true ∧ D.atKey (keyS (S j)) zeroI = .lit (.int .i64 j)
  miss : ∀ s, (∀ j, i ≤ j → j < n → S j ≠ s) → Maps.has D (keyS s) = false
theorem firsts_none (S : Nat → ByteArray) (n : Nat) : Firsts S n n (.map []) := ⟨fun j h1 h2 => by omega, fun _ _ => rfl⟩
theorem Firsts.more {S : Nat → ByteArray} {n i : Nat} {D : DataW Unit} (h : Firsts S n (i + 1) D) (hm : IsMap D) (hi : i < n) : Firsts S n i (D.put (keyS (S i)) (.lit (.int .i64 i))) := by
  refine ⟨fun j h1 h2 h3 => ?_, fun s hs => ?_⟩
  · by_cases e : j = i
    · subst e
      exact ⟨has_put_same hm (by simp [WideAt.IsKeyLit]) _, atKey_put_same hm (by simp [WideAt.IsKeyLit]) _ _⟩
    · have hne : S i ≠ S j := h3 i (Nat.le_refl _) (by omega)
      obtain ⟨q1, q2⟩ := h.hit j (by omega) h2 fun j' h4 h5 => h3 j' (by omega) h5
      rw [has_put_other (keyS_ne fun q => hne q.symm), atKey_put_other (keyS_ne fun q => hne q.symm)]
      exact ⟨q1, q2⟩
  · have hne : S i ≠ s := hs i (Nat.le_refl _) hi
    rw [has_put_other (keyS_ne fun q => hne q.symm)]
    exact h.miss s fun j h1 h2 => hs j (by omega) h2
theorem ownsMap_ag {B : Nat} {W A : World} (h : Ag B W A) {b n : Nat} {D : DataW Unit} (hb : b < B) (ho : W.ownsMap Try.prog 9 (plainElem (H := Unit) Try.prog 3) b n D) : A.ownsMap Try.prog 9 (plainElem (H := Unit) Try.prog 3) b n D := by
  obtain ⟨es, clock, h1, h2⟩ := ho
  exact ⟨es, clock, (h.low b hb).trans h1, h2⟩
theorem ownsMap_below {B : Nat} {W A : World} (h : Below B W A) {b n : Nat} {D : DataW Unit} (hb : b < B) (ho : W.ownsMap Try.prog 9 (plainElem (H := Unit) Try.prog 3) b n D) : A.ownsMap Try.prog 9 (plainElem (H := Unit) Try.prog 3) b n D := by
  obtain ⟨es, clock, h1, h2⟩ := ho
  exact ⟨es, clock, (h.block b hb).trans h1, h2⟩
/-- The first place of a name. -/
def fstS (S : Nat → ByteArray) (s : ByteArray) : Nat → Option Nat
  | 0 => none
  | n + 1 => match fstS S s n with
    | some j => some j
    | none => if S n = s then some n else none
theorem fstS_some {S : Nat → ByteArray} {s : ByteArray} : ∀ {n j : Nat}, fstS S s n = some j → j < n ∧ S j = s ∧ ∀ j', j' < j → S j' ≠ s
  | 0, _, h => by simp [fstS] at h
  | n + 1, j, h => by
    have none_of : ∀ {n}, fstS S s n = none → ∀ j', j' < n → S j' ≠ s := by
      intro n
      induction n with
      | zero => intro _ j' hj; omega
      | succ n ih =>
        intro h j' hj
        simp only [fstS] at h
        cases e : fstS S s n with
        | some q => rw [e] at h; cases h
        | none =>
          rw [e] at h
          simp only at h
          by_cases hs : S n = s
          · rw [if_pos hs] at h; cases h
          · by_cases ej : j' = n
            · subst ej; exact hs
            · exact ih e j' (by omega)
    simp only [fstS] at h
    cases e : fstS S s n with
    | some q =>
      rw [e] at h
      simp only at h
      cases h
      obtain ⟨h1, h2, h3⟩ := fstS_some e
      exact ⟨by omega, h2, h3⟩
    | none =>
      rw [e] at h
      simp only at h
      by_cases hs : S n = s
      · rw [if_pos hs] at h
        cases h
        exact ⟨by omega, hs, none_of e⟩
      · rw [if_neg hs] at h; cases h
theorem fstS_none {S : Nat → ByteArray} {s : ByteArray} : ∀ {n : Nat}, fstS S s n = none → ∀ j', j' < n → S j' ≠ s
  | 0, _, j', hj => by omega
  | n + 1, h, j', hj => by
    simp only [fstS] at h
    cases e : fstS S s n with
    | some q => rw [e] at h; cases h
    | none =>
      rw [e] at h
      simp only at h
      by_cases hs : S n = s
      · rw [if_pos hs] at h; cases h
      · by_cases ej : j' = n
        · subst ej; exact hs
        · exact fstS_none e j' (by omega)
/-- A name's new name. -/
def nameX (S T : Nat → ByteArray) (n : Nat) (s : ByteArray) : ByteArray := match fstS S s n with
  | some j => T j
  | none => s
/-- What is older than N1 stays, but for one block. -/
structure Lb (N1 B0 : Nat) (W W' : World) : Prop where
  os : W'.os = W.os
  tape : W'.tape = W.tape
  output : W'.output = W.output
  size : W.heap.size ≤ W'.heap.size
  block : ∀ k, k < N1 → k ≠ B0 → W'.heap[k]? = W.heap[k]?
theorem Lb.refl (N1 B0 : Nat) (W : World) : Lb N1 B0 W W := ⟨rfl, rfl, rfl, Nat.le_refl _, fun _ _ _ => rfl⟩
theorem Lb.trans {N1 B0 : Nat} {A B C : World} (h : Lb N1 B0 A B) (g : Lb N1 B0 B C) : Lb N1 B0 A C :=
  ⟨g.os.trans h.os, g.tape.trans h.tape, g.output.trans h.output, Nat.le_trans h.size g.size, fun k h1 h2 => (g.block k h1 h2).trans (h.block k h1 h2)⟩
theorem Lb.ag {N1 B0 B : Nat} {W A A' W' : World} (h : Ag B W A) (h' : Ag B A' W') (hN : N1 ≤ B) (g : Lb N1 B0 A A') : Lb N1 B0 W W' :=
  ⟨h'.os.trans (g.os.trans h.os), h'.tape.trans (g.tape.trans h.tape), h'.output.trans (g.output.trans h.output), by rw [h'.size, ← h.size]; exact g.size, fun k h1 h2 => (h'.low k (by omega)).trans ((g.block k h1 h2).trans (h.low k (by omega)))⟩
theorem Lb.set {N1 B0 b o : Nat} {W : World} {v : Value} (hb : b = B0 ∨ N1 ≤ b) : Lb N1 B0 W (W.setCell ⟨b, o, none⟩ v) :=
  ⟨rfl, rfl, rfl, Nat.le_of_eq (World.size_setCell ..).symm, fun k h1 h2 => Below.heap_setCell W ⟨b, o, none⟩ v k (fun e => by have e' : k = b := e; omega)⟩
theorem Lb.below {N1 B0 n : Nat} {W W' : World} (h : Lb N1 B0 W W') (hn : n ≤ N1) (hB : n ≤ B0) : Below n W W' := ⟨h.os, h.tape, h.output, h.size, fun k hk => h.block k (by omega) (by omega)⟩
theorem Lb.of_below {N1 B0 : Nat} {W W' : World} (h : Below N1 W W') : Lb N1 B0 W W' := ⟨h.os, h.tape, h.output, h.size, fun k hk _ => h.block k hk⟩

set_option maxRecDepth 100000 in
/-- What the map tells of a name. -/
theorem look_at {W : World} {M q : Nat} {D : DataW Unit} {S : Nat → ByteArray} {s : ByteArray} (ho : W.ownsMap Try.prog 9 (plainElem (H := Unit) Try.prog 3) M q D) (hF : Firsts S q 0 D) (hs : s.size ≤ maxLen) :
    ∃ c : Int, (Instr.lookup 47 (.map (some M)) (.string s) true).run Try.prog W = .ok (.tuple #[.int .i64 c, .bool (fstS S s q).isSome]) W ∧ ∀ j, fstS S s q = some j → c = j := by
  have hkey : keyOf Try.prog 9 (.string s) = some (keyS s) := keyOf_string_mk Try.underlying9 hs
  obtain ⟨v, ps, hrun, hv⟩ := ho.look_ok str_law Try.underlying47 (z := .int .i64 0) rfl (plainElem_int Try.underlying3 (WalkArith.wf_i64 (by omega))) hkey
  obtain ⟨c, rfl, hc, hwc⟩ := plainElem_int_inv Try.underlying3 hv
  have hc' : D.atKey (keyS s) zeroI = .lit (.int .i64 c) := congrArg Prod.fst hc
  refine ⟨c, ?_, fun j hj => ?_⟩
  · rw [hrun]
    cases e : fstS S s q with
    | none => rw [hF.miss s fun j _ hj => fstS_none e j hj]; rfl
    | some j =>
      obtain ⟨h1, h2, h3⟩ := fstS_some e
      have := (hF.hit j (Nat.zero_le _) h1 fun j' _ hj' => by rw [h2]; exact h3 j' hj').1
      rw [h2] at this
      rw [this]
      rfl
  · obtain ⟨h1, h2, h3⟩ := fstS_some hj
    have := (hF.hit j (Nat.zero_le _) h1 fun j' _ hj' => by rw [h2]; exact h3 j' hj').2
    rw [h2, hc'] at this
    injection this with e
    injection e with _ e
theorem Lb.boxed {N1 B0 : Nat} {W W' : World} (h : Lb N1 B0 W W') {b : Nat} {t : TypeId} {v : Value} (hb : Boxed W b t v) (h1 : b < N1) (h2 : b ≠ B0) : Boxed W' b t v := (h.block b h1 h2).trans hb
theorem Lb.map {N1 B0 : Nat} {W W' : World} (h : Lb N1 B0 W W') {b n : Nat} {D : DataW Unit} (h1 : b < N1) (h2 : b ≠ B0) (ho : W.ownsMap Try.prog 9 (plainElem (H := Unit) Try.prog 3) b n D) : W'.ownsMap Try.prog 9 (plainElem (H := Unit) Try.prog 3) b n D := by
  obtain ⟨es, clock, q1, q2⟩ := ho
  exact ⟨es, clock, (h.block b h1 h2).trans q1, q2⟩
end Go.Proofs.Ytjclelmbpmlioaa
namespace Go.Proofs.Ytjclelmbpmlioaa
open Go.RowKit

theorem bytes_eq {a b : ByteArray} (h : a.toList = b.toList) : a = b := by
  rw [ByteArray.toList_eq, ByteArray.toList_eq] at h
  exact ByteArray.ext (Array.ext' h)
theorem fstS_of {S : Nat → ByteArray} {s : ByteArray} {n j : Nat} (h1 : j < n) (h2 : S j = s) (h3 : ∀ j', j' < j → S j' ≠ s) : fstS S s n = some j := by
  cases e : fstS S s n with
  | none => exact absurd h2 (fstS_none e j h1)
  | some q =>
    obtain ⟨q1, q2, q3⟩ := fstS_some e
    by_cases h : q < j
    · exact absurd q2 (h3 q h)
    · by_cases h' : j < q
      · exact absurd h2 (q3 j h')
      · rw [show q = j by omega]
theorem fstS_nil {S : Nat → ByteArray} {s : ByteArray} {n : Nat} (h : ∀ j, j < n → S j ≠ s) : fstS S s n = none := by
  cases e : fstS S s n with
  | none => rfl
  | some q =>
    obtain ⟨q1, q2, _⟩ := fstS_some e
    exact absurd q2 (h q q1)
theorem name_none {S T : Nat → ByteArray} {s : ByteArray} {m m' : Nat} (h : ∀ j, j < m → S j ≠ s) : nameX S T (min m m') s = s := by
  unfold nameX
  rw [fstS_nil fun j hj => h j (by omega)]
theorem name_hit {S T : Nat → ByteArray} {s : ByteArray} {m m' p : Nat} (h1 : p < m) (h2 : S p = s) (h3 : ∀ j, j < p → S j ≠ s) (h4 : p < m') : nameX S T (min m m') s = T p := by
  unfold nameX
  rw [fstS_of (by omega) h2 h3]
theorem name_past {S T : Nat → ByteArray} {s : ByteArray} {m m' p : Nat} (h3 : ∀ j, j < p → S j ≠ s) (h4 : ¬ p < m') : nameX S T (min m m') s = s := by
  unfold nameX
  rw [fstS_nil fun j hj => h3 j (by omega)]
set_option maxRecDepth 100000 in
set_option maxHeartbeats 4000000 in
theorem refVar_wide (s : ByteArray) (a a' : Option Addr) (m m' cap cap' : Nat) (S T : Nat → ByteArray) (w : World) (hS : Txs w a m S) (hT : Txs w a' m' T) (hm : m ≤ 9223372036854775807) (hm' : m' ≤ 9223372036854775807) :
    Calls Try.prog 26 #[.string s, .slice a m cap, .slice a' m' cap'] w fun e w' => e = .returned (.string (nameX S T (min m m') s)) ∧ w' = w := by
  have HS : Hid (Txs w a m S) := hS
  have HT : Hid (Txs w a' m' T) := hT
  obtain ⟨r, hr⟩ : ∃ r, r = nameX S T (min m m') s := ⟨_, rfl⟩
  rw [← hr]
  clear hS hT
  cases hf : fstS S s m with
  | none =>
    have hno := fstS_none hf
    have HN : Hid (∀ j, j < m → S j ≠ s) := hno
    have HR : Hid (r = s) := hr.trans (name_none hno)
    clear hf hr hno
    go_enter Try.func26, Try.ntmps26
    go_wp2
    go_loopw [7] (fun i wr => ∃ k : Nat, k ≤ m ∧ i = .int .i64 k ∧ wr = w) (fun i _ => m - (intOf i).toNat)
    case atStart => exact ⟨0, Nat.zero_le _, rfl, rfl⟩
    case round =>
      obtain ⟨k, hk, rfl, hwr⟩ := hrel
      subst hwr
      by_cases hlt : k < m
      · have HLT : Hid (k < m) := hlt
        obtain ⟨b, o, rfl, hc⟩ := HS.out (by omega)
        have ck := hc k hlt
        have hne : ((S k).toList == s.toList) = false := by
          rw [beq_eq_false_iff_ne]
          exact fun q => HN.out k hlt (bytes_eq q)
        clear hc hlt
        go_wp2
        go_roundw
        case rel => exact ⟨k + 1, HLT.out, by go_num, by first | trivial | rfl⟩
        case measure => have := HLT.out; simp [intOf]; omega
      · obtain rfl : k = m := by omega
        go_wp2
        go_ret
        exact ⟨by rw [HR.out]; rfl, rfl⟩
  | some p =>
    obtain ⟨h1, h2, h3⟩ := fstS_some hf
    have HN : Hid (∀ j, j < p → S j ≠ s) := h3
    have HP : Hid (p < m) := h1
    have HE : Hid (S p = s) := h2
    have HR1 : Hid (p < m' → r = T p) := fun h => hr.trans (name_hit h1 h2 h3 h)
    have HR2 : Hid (¬ p < m' → r = s) := fun h => hr.trans (name_past h3 h)
    clear hf hr h1 h2 h3
    go_enter Try.func26, Try.ntmps26
    go_wp2
    go_loopw [7] (fun i wr => ∃ k : Nat, k ≤ p ∧ i = .int .i64 k ∧ wr = w) (fun i _ => p - (intOf i).toNat)
    case atStart => exact ⟨0, Nat.zero_le _, rfl, rfl⟩
    case round =>
      obtain ⟨k, hk, rfl, hwr⟩ := hrel
      subst hwr
      have hlt : k < m := by have := HP.out; omega
      obtain ⟨b, o, rfl, hc⟩ := HS.out (by omega)
      have ck := hc k hlt
      clear hc
      by_cases hkp : k = p
      · have HKP : Hid (k = p) := hkp
        have hne : ((S k).toList == s.toList) = true := by rw [hkp, HE.out]; simp
        by_cases hpm : k < m'
        · obtain ⟨b', o', rfl, hc'⟩ := HT.out (by omega)
          have ck' := hc' k hpm
          have HR : Hid (r = T k) := by show r = T k; rw [hkp] at hpm ⊢; exact HR1.out hpm
          clear hc' hkp
          go_wp2
          go_ret
          exact ⟨by rw [HR.out]; rfl, rfl⟩
        · have HR : Hid (r = s) := HR2.out (by rw [← hkp]; exact hpm)
          clear hkp
          go_wp2
          go_ret
          exact ⟨by rw [HR.out]; rfl, rfl⟩
      · have HKP : Hid (¬ k = p) := hkp
        have hne : ((S k).toList == s.toList) = false := by
          rw [beq_eq_false_iff_ne]
          exact fun q => HN.out k (by omega) (bytes_eq q)
        clear hkp
        go_wp2
        go_roundw
        case rel => exact ⟨k + 1, by have := HKP.out; omega, by go_num, by first | trivial | rfl⟩
        case measure => have := HKP.out; simp [intOf]; omega
end Go.Proofs.Ytjclelmbpmlioaa
namespace Go.Proofs.Ytjclelmbpmlioaa
open Go.RowKit Go.ChangeShapes Go.WideShapes

section
variable {H : Type} {enc : TypeId × Value → H} {w : World} {base : Nat} {spare : Nat → Bool} {held : Bool}
theorem val_under : ∃ f0 f1 f2 : Field, Try.prog.underlying 66 = some (.struct #[f0, f1, f2]) ∧ f0.offset = 0 ∧ f1.offset = 1 ∧ f2.offset = 2 ∧ f0.type = 3 ∧ f1.type = 2 ∧ f2.type = 9 := ⟨_, _, _, Try.underlying66, rfl, rfl, rfl, rfl, rfl, rfl⟩
theorem cells_v : Try.prog.cellsOf 66 = 3 := by kernel_rfl
theorem cells_n : Try.prog.cellsOf 2 = 1 := by kernel_rfl
/-- The cells of a value, read. -/
theorem trod_val {fuel : Nat} {cs : List Value} {x : DataW H × List MemPlace} (h : DataW.trod enc Try.prog w base spare held fuel 66 cs = some x) :
    ∃ q : Val, cs = [.int .i64 q.k, .int .i64 q.n, .string q.s] := by
  obtain ⟨f0, f1, f2, hu, o0, o1, o2, t0, t1, t2⟩ := val_under
  obtain ⟨y0, y1, y2, m, rfl, hl, g0, g1, g2⟩ := Deep.trod_struct3 hu h
  rw [cells_v] at hl
  rw [o0, t0, cells_i] at g0
  rw [o1, t1, cells_n] at g1
  rw [o2, t2, cells_s] at g2
  match cs, hl with
  | [c0, c1, c2], _ =>
    obtain ⟨k, e0, rfl, w0⟩ := DataW.trod_int Try.underlying3 g0
    obtain ⟨n, e1, rfl, w1⟩ := DataW.trod_int Try.underlying2 g1
    obtain ⟨s, e2, rfl, w2⟩ := DataW.trod_string Try.underlying9 g2
    simp at e0 e1 e2
    subst e0 e1 e2
    exact ⟨⟨k, n, s⟩, rfl⟩
end
end Go.Proofs.Ytjclelmbpmlioaa
namespace Go.Proofs.Ytjclelmbpmlioaa
open Go.RowKit Go.ChangeShapes Go.WideShapes

section
variable {H : Type} {enc : TypeId × Value → H} {w : World} {base : Nat} {spare : Nat → Bool} {held : Bool}
set_option maxRecDepth 100000 in
/-- Texts that came in. -/
theorem open_strs {a : Option Addr} {len cap : Nat} {d : DataW H} {p : List MemPlace} (h : DataW.Trod enc Try.prog w base spare held 25 (.slice a len cap) d p) :
    ∃ S : Nat → ByteArray, Txs w a len S ∧ len ≤ cap ∧ cap ≤ 9223372036854775807 ∧ (∀ j, j < len → (S j).size ≤ maxLen) ∧ len ≤ Rows.uptoBulk d := by
  obtain ⟨fuel, hf⟩ := h
  rcases Deep.open_slice Try.underlying25 hf with ⟨e4, _⟩ | ⟨a', len', cap', mm, nn, D, Pl, e4, _, hl4, hcm, hmm, hdp, hx⟩
  · have e' : [Value.slice a len cap] = [.slice none 0 0] := e4
    injection e' with e' _
    injection e' with e1 e2 e3
    subst e1 e2 e3
    exact ⟨fun _ => ⟨#[]⟩, fun h => by omega, by omega, by omega, fun j hj => by omega, Nat.zero_le _⟩
  · cases hdp
    have e' : [Value.slice a len cap] = [.slice (some a') len' cap'] := e4
    injection e' with e' _
    injection e' with e1 e2 e3
    subst e1 e2 e3
    have hlm : len ≤ mm := by rw [hmm]; split <;> omega
    have each : ∀ i, i < len → ∃ s : ByteArray, w.cell? (a'.add i) = some (.string s) ∧ s.size ≤ maxLen := by
      intro i hi
      obtain ⟨cs', h1, h2⟩ := hx i (by omega)
      rw [cells_s] at h1
      obtain ⟨_, hlen, hcell⟩ := World.cells?_some h1
      obtain ⟨s, e, _, hw⟩ := DataW.trod_string Try.underlying9 h2
      subst e
      have d0 := hcell 0 (by omega)
      rw [Deep.add_add] at d0
      exact ⟨s, by simpa using d0, hw⟩
    have : Inhabited ByteArray := ⟨⟨#[]⟩⟩
    obtain ⟨S, hS⟩ := Deep.choose_lt each
    refine ⟨S, fun h0 => ?_, hl4, by unfold maxLen at hcm; omega, fun j hj => (hS j hj).2, ?_⟩
    · obtain ⟨b, off, spot⟩ := a'
      have hspot : spot = none := by simpa [Addr.add] using World.cell?_spot (hS 0 h0).1
      subst hspot
      exact ⟨b, off, rfl, fun j hj => by have := (hS j hj).1; rw [add_none] at this; exact this⟩
    · have hone : ∀ x : DataW H, 1 ≤ Rows.uptoBulk x := fun x => by rw [Rows.uptoBulk.eq_def]; split <;> omega
      have hsum : ∀ m, m ≤ sumN (fun i => Rows.uptoBulk (D i)) m := by
        intro m
        induction m with
        | zero => exact Nat.le_refl _
        | succ m ih => have := hone (D m); simp only [sumN]; omega
      have := hsum len
      simp only [Rows.uptoBulk, bulk_range]
      omega
end
end Go.Proofs.Ytjclelmbpmlioaa
