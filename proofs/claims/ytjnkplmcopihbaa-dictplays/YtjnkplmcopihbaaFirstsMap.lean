/-
  A map of names' first places; a name's new name; what is older and stays; of no function.
-/
import Derived.Test.YtjnkplmcopihbaaTrees
import Derived.Test.YtjnkplmcopihbaaSame
import Derived.Maps.OwnSet
import Derived.Maps.OwnIn
import Derived.Maps.Views
namespace Go.Proofs.Ytjnkplmcopihbaa
open Go.RowKit Go.Shelf Go.Maps Go.WideMaps

abbrev zeroI : DataW Unit := .lit (.int .i64 0)
/-- What the map tells of the names from the i-th on: each one's first place. -/
structure Firsts (S : Nat → ByteArray) (n i : Nat) (D : DataW Unit) : Prop where
  hit : ∀ j, i ≤ j → j < n → (∀ j', i ≤ j' → j' < j → S j' ≠ S j) → Maps.has D (keyS (S j)) = true ∧ D.atKey (keyS (S j)) zeroI = .lit (.int .i64 j)
  miss : ∀ s, (∀ j, i ≤ j → j < n → S j ≠ s) → Maps.has D (keyS s) = false
theorem firsts_none (S : Nat → ByteArray) (n : Nat) : Firsts S n n (.map []) := ⟨fun j h1 h2 => by omega, fun _ _ => rfl⟩
theorem Firsts.more {S : Nat → ByteArray} {n i : Nat} {D : DataW Unit} (h : Firsts S n (i + 1) D) (hm : IsMap D) (hi : i < n) : Firsts S n i (D.put (keyS (S i)) (.lit (.int .i64 i))) := by
  refine ⟨fun j h1 h2 h3 => ?_, fun s hs => ?_⟩
  · by_cases e : j = i
    · subst e
      exact ⟨has_put_same hm (by simp [WideAt.IsKeyLit]) _, atKey_put_same hm (by simp [WideAt.IsKeyLit]) _ _⟩
    · have hne : S i ≠ S j := h3 i (Nat.le_refl _) (by omega)
      obtain ⟨q1, q2⟩ := h.hit j (by omega) h2 fun j' h4 h5 => h3 j' (by omega) h5
      rw [has_put_other (keyS_ne fun q => hne q.symm), atKey_put_other (keyS_ne fun q => hne q.symm)]
      exact ⟨q1, q2⟩
  · have hne : S i ≠ s := hs i (Nat.le_refl _) hi
    rw [has_put_other (keyS_ne fun q => hne q.symm)]
    exact h.miss s fun j h1 h2 => hs j (by omega) h2
theorem ownsMap_ag {B : Nat} {W A : World} (h : Ag B W A) {b n : Nat} {D : DataW Unit} (hb : b < B) (ho : W.ownsMap Try.prog 9 (plainElem (H := Unit) Try.prog 3) b n D) : A.ownsMap Try.prog 9 (plainElem (H := Unit) Try.prog 3) b n D := by
  obtain ⟨es, clock, h1, h2⟩ := ho
  exact ⟨es, clock, (h.low b hb).trans h1, h2⟩
theorem ownsMap_below {B : Nat} {W A : World} (h : Below B W A) {b n : Nat} {D : DataW Unit} (hb : b < B) (ho : W.ownsMap Try.prog 9 (plainElem (H := Unit) Try.prog 3) b n D) : A.ownsMap Try.prog 9 (plainElem (H := Unit) Try.prog 3) b n D := by
  obtain ⟨es, clock, h1, h2⟩ := ho
  exact ⟨es, clock, (h.block b hb).trans h1, h2⟩
/-- The first place of a name. -/
def fstS (S : Nat → ByteArray) (s : ByteArray) : Nat → Option Nat
  | 0 => none
  | n + 1 => match fstS S s n with
    | some j => some j
    | none => if S n = s then some n else none
theorem fstS_some {S : Nat → ByteArray} {s : ByteArray} : ∀ {n j : Nat}, fstS S s n = some j → j < n ∧ S j = s ∧ ∀ j', j' < j → S j' ≠ s
  | 0, _, h => by simp [fstS] at h
  | n + 1, j, h => by
    have none_of : ∀ {n}, fstS S s n = none → ∀ j', j' < n → S j' ≠ s := by
      intro n
      induction n with
      | zero => intro _ j' hj; omega
      | succ n ih =>
        intro h j' hj
        simp only [fstS] at h
        cases e : fstS S s n with
        | some q => rw [e] at h; cases h
        | none =>
          rw [e] at h
          simp only at h
          by_cases hs : S n = s
          · rw [if_pos hs] at h; cases h
          · by_cases ej : j' = n
            · subst ej; exact hs
            · exact ih e j' (by omega)
    simp only [fstS] at h
    cases e : fstS S s n with
    | some q =>
      rw [e] at h
      simp only at h
      cases h
      obtain ⟨h1, h2, h3⟩ := fstS_some e
      exact ⟨by omega, h2, h3⟩
    | none =>
      rw [e] at h
      simp only at h
      by_cases hs : S n = s
      · rw [if_pos hs] at h
        cases h
        exact ⟨by omega, hs, none_of e⟩
      · rw [if_neg hs] at h; cases h
theorem fstS_none {S : Nat → ByteArray} {s : ByteArray} : ∀ {n : Nat}, fstS S s n = none → ∀ j', j' < n → S j' ≠ s
  | 0, _, j', hj => by omega
  | n + 1, h, j', hj => by
    simp only [fstS] at h
    cases e : fstS S s n with
    | some q => rw [e] at h; cases h
    | none =>
      rw [e] at h
      simp only at h
      by_cases hs : S n = s
      · rw [if_pos hs] at h; cases h
      · by_cases ej : j' = n
        · subst ej; exact hs
        · exact fstS_none e j' (by omega)
/-- A name's new name. -/
def nameX (S T : Nat → ByteArray) (n : Nat) (s : ByteArray) : ByteArray := match fstS S s n with
  | some j => T j
  | none => s
/-- What is older than N1 stays, but for one block. -/
structure Lb (N1 B0 : Nat) (W W' : World) : Prop where
  os : W'.os = W.os
  tape : W'.tape = W.tape
  output : W'.output = W.output
  size : W.heap.size ≤ W'.heap.size
  block : ∀ k, k < N1 → k ≠ B0 → W'.heap[k]? = W.heap[k]?
theorem Lb.refl (N1 B0 : Nat) (W : World) : Lb N1 B0 W W := ⟨rfl, rfl, rfl, Nat.le_refl _, fun _ _ _ => rfl⟩
theorem Lb.trans {N1 B0 : Nat} {A B C : World} (h : Lb N1 B0 A B) (g : Lb N1 B0 B C) : Lb N1 B0 A C :=
  ⟨g.os.trans h.os, g.tape.trans h.tape, g.output.trans h.output, Nat.le_trans h.size g.size, fun k h1 h2 => (g.block k h1 h2).trans (h.block k h1 h2)⟩
theorem Lb.ag {N1 B0 B : Nat} {W A A' W' : World} (h : Ag B W A) (h' : Ag B A' W') (hN : N1 ≤ B) (g : Lb N1 B0 A A') : Lb N1 B0 W W' :=
  ⟨h'.os.trans (g.os.trans h.os), h'.tape.trans (g.tape.trans h.tape), h'.output.trans (g.output.trans h.output), by rw [h'.size, ← h.size]; exact g.size, fun k h1 h2 => (h'.low k (by omega)).trans ((g.block k h1 h2).trans (h.low k (by omega)))⟩
theorem Lb.set {N1 B0 b o : Nat} {W : World} {v : Value} (hb : b = B0 ∨ N1 ≤ b) : Lb N1 B0 W (W.setCell ⟨b, o, none⟩ v) :=
  ⟨rfl, rfl, rfl, Nat.le_of_eq (World.size_setCell ..).symm, fun k h1 h2 => Below.heap_setCell W ⟨b, o, none⟩ v k (fun e => by have e' : k = b := e; omega)⟩
theorem Lb.below {N1 B0 n : Nat} {W W' : World} (h : Lb N1 B0 W W') (hn : n ≤ N1) (hB : n ≤ B0) : Below n W W' := ⟨h.os, h.tape, h.output, h.size, fun k hk => h.block k (by omega) (by omega)⟩
theorem Lb.of_below {N1 B0 : Nat} {W W' : World} (h : Below N1 W W') : Lb N1 B0 W W' := ⟨h.os, h.tape, h.output, h.size, fun k hk _ => h.block k hk⟩

set_option maxRecDepth 100000 in
/-- What the map tells of a name. -/
theorem look_at {W : World} {M q : Nat} {D : DataW Unit} {S : Nat → ByteArray} {s : ByteArray} (ho : W.ownsMap Try.prog 9 (plainElem (H := Unit) Try.prog 3) M q D) (hF : Firsts S q 0 D) (hs : s.size ≤ maxLen) :
    ∃ c : Int, (Instr.lookup 63 (.map (some M)) (.string s) true).run Try.prog W = .ok (.tuple #[.int .i64 c, .bool (fstS S s q).isSome]) W ∧ ∀ j, fstS S s q = some j → c = j := by
  have hkey : keyOf Try.prog 9 (.string s) = some (keyS s) := keyOf_string_mk Try.underlying9 hs
  obtain ⟨v, ps, hrun, hv⟩ := ho.look_ok str_law Try.underlying63 (z := .int .i64 0) rfl (plainElem_int Try.underlying3 (WalkArith.wf_i64 (by omega))) hkey
  obtain ⟨c, rfl, hc, hwc⟩ := plainElem_int_inv Try.underlying3 hv
  have hc' : D.atKey (keyS s) zeroI = .lit (.int .i64 c) := congrArg Prod.fst hc
  refine ⟨c, ?_, fun j hj => ?_⟩
  · rw [hrun]
    cases e : fstS S s q with
    | none => rw [hF.miss s fun j _ hj => fstS_none e j hj]; rfl
    | some j =>
      obtain ⟨h1, h2, h3⟩ := fstS_some e
      have := (hF.hit j (Nat.zero_le _) h1 fun j' _ hj' => by rw [h2]; exact h3 j' hj').1
      rw [h2] at this
      rw [this]
      rfl
  · obtain ⟨h1, h2, h3⟩ := fstS_some hj
    have := (hF.hit j (Nat.zero_le _) h1 fun j' _ hj' => by rw [h2]; exact h3 j' hj').2
    rw [h2, hc'] at this
    injection this with e
    injection e with _ e
theorem Lb.boxed {N1 B0 : Nat} {W W' : World} (h : Lb N1 B0 W W') {b : Nat} {t : TypeId} {v : Value} (hb : Boxed W b t v) (h1 : b < N1) (h2 : b ≠ B0) : Boxed W' b t v := (h.block b h1 h2).trans hb
theorem Lb.map {N1 B0 : Nat} {W W' : World} (h : Lb N1 B0 W W') {b n : Nat} {D : DataW Unit} (h1 : b < N1) (h2 : b ≠ B0) (ho : W.ownsMap Try.prog 9 (plainElem (H := Unit) Try.prog 3) b n D) : W'.ownsMap Try.prog 9 (plainElem (H := Unit) Try.prog 3) b n D := by
  obtain ⟨es, clock, q1, q2⟩ := ho
  exact ⟨es, clock, (h.block b h1 h2).trans q1, q2⟩
end Go.Proofs.Ytjnkplmcopihbaa
