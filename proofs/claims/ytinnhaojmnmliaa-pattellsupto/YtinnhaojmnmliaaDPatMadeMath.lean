/-
  When a pattern is well made: plain facts, of no function.
  A map of names' first places; a name's new name; what is older and stays; of no function.
  A map from names to numbers, by what it tells; marks of loops that are done; of no function.
  A region that draws its order and only reads, inside a round: one walk of the lexical order serves every order there, too. Of no function.
  A region that draws its order, inside a round: reads in any order, and one write behind them all. Told by the temporaries as they stand behind all reads. Of no function.
  Of what came in: how much it is, cells of small types; of no function.
-/
import Derived.Test.YtinnhaojmnmliaaDPatNamed
import Derived.Test.YtinnhaojmnmliaaDExprRange
import Derived.Test.YtinnhaojmnmliaaDTxt
import Derived.Maps.OwnSet
import Derived.Maps.OwnIn
import Derived.Maps.Views
import Derived.Test.YtinnhaojmnmliaaRows
import Derived.WalkKit
import Derived.Sort.QuietIn
import Derived.OrdersIn
import Derived.TacticsIn
import Derived.Deep.Strs
namespace Go.Proofs.Ytinnhaojmnmliaa
open Go.RowKit

/-- May a PNot stand at place i among the parts? -/
def notB (x : Pt) (whole : Bool) (i : Nat) : Bool := !((x.c i).k == 6) || (x.k == 2 && (!(i == 0) && (!((x.c (i - 1)).k == 6) && (!(i + 1 == x.n) || whole))))
def betweenB (x : Pt) (whole : Bool) : Bool := allN (notB x whole) x.n
/-- No Var stands in two parts. -/
def Apart (x : Pt) : Prop := ∀ i j, i < j → j < x.n → ∀ a ∈ usesP (x.c i), ∀ b ∈ usesP (x.c j), a.s ≠ b.s
/-- Two nodes with one Var that may stand in parts of a POr. -/
def Agree (a b : Pt) : Prop := a.t = b.t ∧ (a.k = 6 ↔ b.k = 6)
def AlikeP (x : Pt) : Prop := ∀ a ∈ usesP x, ∀ b ∈ usesP x, a.s = b.s → Agree a b
/-- Well made, as pat.Made asks. -/
def MadeP (x : Pt) : Prop := x.k ≠ 6 ∧ AlikeP x ∧ ∀ v ∈ visP 1 x, betweenB v.2 (v.1 == 1) = true ∧ (v.2.k = 4 ∨ Apart v.2)
/-- One more name, if it is new. -/
def addU (l : List Pt) (y : Pt) : List Pt := if l.any (fun z => decide (z.s = y.s)) = true then l else l ++ [y]
/-- The nodes where names stand first. -/
def firstL (l : List Pt) : List Pt := l.foldl addU []
theorem firstL_snoc (l : List Pt) (y : Pt) : firstL (l ++ [y]) = addU (firstL l) y := by simp [firstL]
/-- A name's place among them. -/
def idxF (l : List Pt) (s : ByteArray) : Option Nat := l.findIdx? (fun y => decide (y.s = s))
theorem idxF_nil (s : ByteArray) : idxF [] s = none := rfl
theorem idxF_some {l : List Pt} {s : ByteArray} {i : Nat} (h : idxF l s = some i) : ∃ y, l[i]? = some y ∧ y.s = s := by
  unfold idxF at h
  obtain ⟨hl, h1, _⟩ := List.findIdx?_eq_some_iff_getElem.1 h
  exact ⟨l[i], List.getElem?_eq_getElem hl, by simpa using h1⟩
theorem idxF_none {l : List Pt} {s : ByteArray} : idxF l s = none ↔ ∀ y ∈ l, y.s ≠ s := by
  unfold idxF
  rw [List.findIdx?_eq_none_iff]
  constructor
  · intro h y hy e; have := h y hy; simp [e] at this
  · intro h y hy; simpa using h y hy
theorem addU_some {l : List Pt} {y : Pt} {i : Nat} (h : idxF l y.s = some i) : addU l y = l := by
  obtain ⟨z, hz, e⟩ := idxF_some h
  unfold addU
  rw [if_pos (List.any_eq_true.2 ⟨z, List.mem_of_getElem? hz, by simp [e]⟩)]
theorem addU_none {l : List Pt} {y : Pt} (h : idxF l y.s = none) : addU l y = l ++ [y] := by
  unfold addU
  rw [if_neg]
  intro e
  obtain ⟨z, hz, q⟩ := List.any_eq_true.1 e
  exact (idxF_none.1 h) z hz (by simpa using q)
theorem idxF_snoc {l : List Pt} {y : Pt} (h : idxF l y.s = none) (s : ByteArray) : idxF (l ++ [y]) s = if s = y.s then some l.length else idxF l s := by
  by_cases e : s = y.s
  · rw [if_pos e, e]
    unfold idxF at h ⊢
    rw [List.findIdx?_append, h]
    simp [List.findIdx?_cons]
  · rw [if_neg e]
    unfold idxF
    rw [List.findIdx?_append]
    have : ([y] : List Pt).findIdx? (fun z => decide (z.s = s)) = none := by
      simp [List.findIdx?_cons, show ¬ y.s = s from fun q => e q.symm]
    rw [this]
    simp
theorem mem_firstL : ∀ {l : List Pt} {y : Pt}, y ∈ firstL l → y ∈ l := by
  have key : ∀ (l acc : List Pt) (y : Pt), y ∈ l.foldl addU acc → y ∈ acc ∨ y ∈ l := by
    intro l
    induction l with
    | nil => intro acc y h; exact .inl h
    | cons z l ih =>
      intro acc y h
      rcases ih (addU acc z) y h with h | h
      · unfold addU at h
        split at h
        · exact .inl h
        · rcases List.mem_append.1 h with h | h
          · exact .inl h
          · rw [List.mem_singleton] at h; exact .inr (by rw [h]; simp)
      · exact .inr (List.mem_cons_of_mem _ h)
  intro l y h
  rcases key l [] y h with h | h
  · simp at h
  · exact h
theorem firstL_has : ∀ {l : List Pt} {y : Pt}, y ∈ l → ∃ z ∈ firstL l, z.s = y.s := by
  have mono : ∀ (l acc : List Pt) (z : Pt), z ∈ acc → z ∈ l.foldl addU acc := by
    intro l
    induction l with
    | nil => intro acc z h; exact h
    | cons u l ih =>
      intro acc z h
      refine ih _ z ?_
      unfold addU
      split
      · exact h
      · exact List.mem_append_left _ h
  have key : ∀ (l acc : List Pt) (y : Pt), y ∈ l → ∃ z ∈ l.foldl addU acc, z.s = y.s := by
    intro l
    induction l with
    | nil => intro acc y h; simp at h
    | cons u l ih =>
      intro acc y h
      rcases List.mem_cons.1 h with rfl | h
      · by_cases e : acc.any (fun z => decide (z.s = y.s)) = true
        · obtain ⟨z, hz, q⟩ := List.any_eq_true.1 e
          refine ⟨z, mono l _ z ?_, by simpa using q⟩
          unfold addU
          rw [if_pos e]
          exact hz
        · refine ⟨y, mono l _ y ?_, rfl⟩
          unfold addU
          rw [if_neg e]
          simp
      · exact ih _ y h
  intro l y h
  exact key l [] y h
theorem length_firstL : ∀ l : List Pt, (firstL l).length ≤ l.length := by
  have key : ∀ (l acc : List Pt), (l.foldl addU acc).length ≤ acc.length + l.length := by
    intro l
    induction l with
    | nil => intro acc; simp
    | cons u l ih =>
      intro acc
      have := ih (addU acc u)
      have h2 : (addU acc u).length ≤ acc.length + 1 := by unfold addU; split <;> simp
      simp only [List.foldl_cons, List.length_cons]
      omega
  intro l
  simpa [firstL] using key l []
theorem length_uses (x : Pt) : (usesP x).length ≤ x.size := by
  rw [← uses_visP x 1, List.length_map, ← length_visP x 1]
  exact List.length_filter_le _ _
/-- All uses agree just where each agrees with the first of its name. -/
theorem alike_first {x : Pt} : AlikeP x ↔ ∀ a ∈ usesP x, ∀ f ∈ firstL (usesP x), f.s = a.s → Agree a f := by
  constructor
  · intro h a ha f hf e
    exact h a ha f (mem_firstL hf) e.symm
  · intro h a ha b hb e
    obtain ⟨f, hf, q⟩ := firstL_has ha
    have h1 := h a ha f hf q
    have h2 := h b hb f hf (q.trans e)
    exact ⟨h1.1.trans h2.1.symm, h1.2.trans h2.2.symm⟩
theorem vis_uses {x y : Pt} {d : Nat} (h : (d, y) ∈ visP 1 x) : ∀ a ∈ usesP y, a ∈ usesP x := by
  have key : ∀ (x : Pt) (d : Nat), ∀ v ∈ visP d x, ∀ a ∈ usesP v.2, a ∈ usesP x := by
    refine Pt.ind fun x ih d v hv a ha => ?_
    rw [visP_eq] at hv
    rcases List.mem_cons.1 hv with rfl | hv
    · exact ha
    · obtain ⟨i, hi, hv⟩ := mem_catN.1 hv
      rw [usesP_eq]
      exact List.mem_append_right _ (mem_catN.2 ⟨i, hi, ih i hi (d + 1) v hv a ha⟩)
  exact key x 1 (d, y) h
end Go.Proofs.Ytinnhaojmnmliaa
namespace Go.Proofs.Ytinnhaojmnmliaa
open Go.RowKit Go.Shelf Go.Maps Go.WideMaps

abbrev zeroI : DataW Unit := .lit (.int .i64 0)
/-- What the map tells of the names from the i-th on: each one's first place. -/
structure Firsts (S : Nat → ByteArray) (n i : Nat) (D : DataW Unit) : Prop where
  hit : ∀ j, i ≤ j → j < n → (∀ j', i ≤ j' → j' < j → S j' ≠ S j) → Maps.has D (keyS (S j)) = true ∧ D.atKey (keyS (S j)) zeroI = .lit (.int .i64 j)
  miss : ∀ s, (∀ j, i ≤ j → j < n → S j ≠ s) → Maps.has D (keyS s) = false
theorem firsts_none (S : Nat → ByteArray) (n : Nat) : Firsts S n n (.map []) := ⟨fun j h1 h2 => by omega, fun _ _ => rfl⟩
theorem Firsts.more {S : Nat → ByteArray} {n i : Nat} {D : DataW Unit} (h : Firsts S n (i + 1) D) (hm : IsMap D) (hi : i < n) : Firsts S n i (D.put (keyS (S i)) (.lit (.int .i64 i))) := by
  refine ⟨fun j h1 h2 h3 => ?_, fun s hs => ?_⟩
  · by_cases e : j = i
    · subst e
      exact ⟨has_put_same hm (by simp [WideAt.IsKeyLit]) _, atKey_put_same hm (by simp [WideAt.IsKeyLit]) _ _⟩
    · have hne : S i ≠ S j := h3 i (Nat.le_refl _) (by omega)
      obtain ⟨q1, q2⟩ := h.hit j (by omega) h2 fun j' h4 h5 => h3 j' (by omega) h5
      rw [has_put_other (keyS_ne fun q => hne q.symm), atKey_put_other (keyS_ne fun q => hne q.symm)]
      exact ⟨q1, q2⟩
  · have hne : S i ≠ s := hs i (Nat.le_refl _) hi
    rw [has_put_other (keyS_ne fun q => hne q.symm)]
    exact h.miss s fun j h1 h2 => hs j (by omega) h2
theorem ownsMap_ag {B : Nat} {W A : World} (h : Ag B W A) {b n : Nat} {D : DataW Unit} (hb : b < B) (ho : W.ownsMap Try.prog 9 (plainElem (H := Unit) Try.prog 3) b n D) : A.ownsMap Try.prog 9 (plainElem (H := Unit) Try.prog 3) b n D := by
  obtain ⟨es, clock, h1, h2⟩ := ho
  exact ⟨es, clock, (h.low b hb).trans h1, h2⟩
theorem ownsMap_below {B : Nat} {W A : World} (h : Below B W A) {b n : Nat} {D : DataW Unit} (hb : b < B) (ho : W.ownsMap Try.prog 9 (plainElem (H := Unit) Try.prog 3) b n D) : A.ownsMap Try.prog 9 (plainElem (H := Unit) Try.prog 3) b n D := by
  obtain ⟨es, clock, h1, h2⟩ := ho
  exact ⟨es, clock, (h.block b hb).trans h1, h2⟩
/-- The first place of a name. -/
def fstS (S : Nat → ByteArray) (s : ByteArray) : Nat → Option Nat
  | 0 => none
  | n + 1 => match fstS S s n with
    | some j => some j
    | none => if S n = s then some n else none
theorem fstS_some {S : Nat → ByteArray} {s : ByteArray} : ∀ {n j : Nat}, fstS S s n = some j → j < n ∧ S j = s ∧ ∀ j', j' < j → S j' ≠ s
  | 0, _, h => by simp [fstS] at h
  | n + 1, j, h => by
    have none_of : ∀ {n}, fstS S s n = none → ∀ j', j' < n → S j' ≠ s := by
      intro n
      induction n with
      | zero => intro _ j' hj; omega
      | succ n ih =>
        intro h j' hj
        simp only [fstS] at h
        cases e : fstS S s n with
        | some q => rw [e] at h; cases h
        | none =>
          rw [e] at h
          simp only at h
          by_cases hs : S n = s
          · rw [if_pos hs] at h; cases h
          · by_cases ej : j' = n
            · subst ej; exact hs
            · exact ih e j' (by omega)
    simp only [fstS] at h
    cases e : fstS S s n with
    | some q =>
      rw [e] at h
      simp only at h
      cases h
      obtain ⟨h1, h2, h3⟩ := fstS_some e
      exact ⟨by omega, h2, h3⟩
    | none =>
      rw [e] at h
      simp only at h
      by_cases hs : S n = s
      · rw [if_pos hs] at h
        cases h
        exact ⟨by omega, hs, none_of e⟩
      · rw [if_neg hs] at h; cases h
theorem fstS_none {S : Nat → ByteArray} {s : ByteArray} : ∀ {n : Nat}, fstS S s n = none → ∀ j', j' < n → S j' ≠ s
  | 0, _, j', hj => by omega
  | n + 1, h, j', hj => by
    simp only [fstS] at h
    cases e : fstS S s n with
    | some q => rw [e] at h; cases h
    | none =>
      rw [e] at h
      simp only at h
      by_cases hs : S n = s
      · rw [if_pos hs] at h; cases h
      · by_cases ej : j' = n
        · subst ej; exact hs
        · exact fstS_none e j' (by omega)
/-- A name's new name. -/
def nameX (S T : Nat → ByteArray) (n : Nat) (s : ByteArray) : ByteArray := match fstS S s n with
  | some j => T j
  | none => s
/-- What is older than N1 stays, but for one block. -/
structure Lb (N1 B0 : Nat) (W W' : World) : Prop where
  os : W'.os = W.os
  tape : W'.tape = W.tape
  output : W'.output = W.output
  size : W.heap.size ≤ W'.heap.size
  block : ∀ k, k < N1 → k ≠ B0 → W'.heap[k]? = W.heap[k]?
theorem Lb.refl (N1 B0 : Nat) (W : World) : Lb N1 B0 W W := ⟨rfl, rfl, rfl, Nat.le_refl _, fun _ _ _ => rfl⟩
theorem Lb.trans {N1 B0 : Nat} {A B C : World} (h : Lb N1 B0 A B) (g : Lb N1 B0 B C) : Lb N1 B0 A C :=
  ⟨g.os.trans h.os, g.tape.trans h.tape, g.output.trans h.output, Nat.le_trans h.size g.size, fun k h1 h2 => (g.block k h1 h2).trans (h.block k h1 h2)⟩
theorem Lb.ag {N1 B0 B : Nat} {W A A' W' : World} (h : Ag B W A) (h' : Ag B A' W') (hN : N1 ≤ B) (g : Lb N1 B0 A A') : Lb N1 B0 W W' :=
  ⟨h'.os.trans (g.os.trans h.os), h'.tape.trans (g.tape.trans h.tape), h'.output.trans (g.output.trans h.output), by rw [h'.size, ← h.size]; exact g.size, fun k h1 h2 => (h'.low k (by omega)).trans ((g.block k h1 h2).trans (h.low k (by omega)))⟩
theorem Lb.set {N1 B0 b o : Nat} {W : World} {v : Value} (hb : b = B0 ∨ N1 ≤ b) : Lb N1 B0 W (W.setCell ⟨b, o, none⟩ v) :=
  ⟨rfl, rfl, rfl, Nat.le_of_eq (World.size_setCell ..).symm, fun k h1 h2 => Below.heap_setCell W ⟨b, o, none⟩ v k (fun e => by have e' : k = b := e; omega)⟩
theorem Lb.below {N1 B0 n : Nat} {W W' : World} (h : Lb N1 B0 W W') (hn : n ≤ N1) (hB : n ≤ B0) : Below n W W' := ⟨h.os, h.tape, h.output, h.size, fun k hk => h.block k (by omega) (by omega)⟩
theorem Lb.of_below {N1 B0 : Nat} {W W' : World} (h : Below N1 W W') : Lb N1 B0 W W' := ⟨h.os, h.tape, h.output, h.size, fun k hk _ => h.block k hk⟩

set_option maxRecDepth 100000 in
/-- What the map tells of a name. -/
theorem look_at {W : World} {M q : Nat} {D : DataW Unit} {S : Nat → ByteArray} {s : ByteArray} (ho : W.ownsMap Try.prog 9 (plainElem (H := Unit) Try.prog 3) M q D) (hF : Firsts S q 0 D) (hs : s.size ≤ maxLen) :
    ∃ c : Int, (Instr.lookup 49 (.map (some M)) (.string s) true).run Try.prog W = .ok (.tuple #[.int .i64 c, .bool (fstS S s q).isSome]) W ∧ ∀ j, fstS S s q = some j → c = j := by
  have hkey : keyOf Try.prog 9 (.string s) = some (keyS s) := keyOf_string_mk Try.underlying9 hs
  obtain ⟨v, ps, hrun, hv⟩ := ho.look_ok str_law Try.underlying49 (z := .int .i64 0) rfl (plainElem_int Try.underlying3 (WalkArith.wf_i64 (by omega))) hkey
  obtain ⟨c, rfl, hc, hwc⟩ := plainElem_int_inv Try.underlying3 hv
  have hc' : D.atKey (keyS s) zeroI = .lit (.int .i64 c) := congrArg Prod.fst hc
  refine ⟨c, ?_, fun j hj => ?_⟩
  · rw [hrun]
    cases e : fstS S s q with
    | none => rw [hF.miss s fun j _ hj => fstS_none e j hj]; rfl
    | some j =>
      obtain ⟨h1, h2, h3⟩ := fstS_some e
      have := (hF.hit j (Nat.zero_le _) h1 fun j' _ hj' => by rw [h2]; exact h3 j' hj').1
      rw [h2] at this
      rw [this]
      rfl
  · obtain ⟨h1, h2, h3⟩ := fstS_some hj
    have := (hF.hit j (Nat.zero_le _) h1 fun j' _ hj' => by rw [h2]; exact h3 j' hj').2
    rw [h2, hc'] at this
    injection this with e
    injection e with _ e
theorem Lb.boxed {N1 B0 : Nat} {W W' : World} (h : Lb N1 B0 W W') {b : Nat} {t : TypeId} {v : Value} (hb : Boxed W b t v) (h1 : b < N1) (h2 : b ≠ B0) : Boxed W' b t v := (h.block b h1 h2).trans hb
theorem Lb.map {N1 B0 : Nat} {W W' : World} (h : Lb N1 B0 W W') {b n : Nat} {D : DataW Unit} (h1 : b < N1) (h2 : b ≠ B0) (ho : W.ownsMap Try.prog 9 (plainElem (H := Unit) Try.prog 3) b n D) : W'.ownsMap Try.prog 9 (plainElem (H := Unit) Try.prog 3) b n D := by
  obtain ⟨es, clock, q1, q2⟩ := ho
  exact ⟨es, clock, (h.block b h1 h2).trans q1, q2⟩
end Go.Proofs.Ytinnhaojmnmliaa
namespace Go.Proofs.Ytinnhaojmnmliaa
open Go.RowKit Go.Shelf Go.Maps Go.WideMaps

/-- What the map tells of each name. -/
def MapsTo (P : ByteArray → Option Nat) (D : DataW Unit) : Prop :=
  (∀ s, P s = none → Maps.has D (keyS s) = false) ∧ ∀ s j, P s = some j → Maps.has D (keyS s) = true ∧ D.atKey (keyS s) zeroI = .lit (.int .i64 j)
theorem mapsTo_none : MapsTo (fun _ => none) (.map []) := ⟨fun _ _ => rfl, fun _ _ h => by cases h⟩
theorem MapsTo.put {P : ByteArray → Option Nat} {D : DataW Unit} (h : MapsTo P D) (hm : IsMap D) (s : ByteArray) (k : Nat) : MapsTo (fun t => if t = s then some k else P t) (D.put (keyS s) (.lit (.int .i64 k))) := by
  refine ⟨fun t ht => ?_, fun t j ht => ?_⟩
  · by_cases e : t = s
    · simp only [if_pos e] at ht; cases ht
    · simp only [if_neg e] at ht
      rw [has_put_other (keyS_ne e)]
      exact h.1 t ht
  · by_cases e : t = s
    · simp only [if_pos e] at ht
      cases ht
      subst e
      exact ⟨has_put_same hm (by simp [WideAt.IsKeyLit]) _, atKey_put_same hm (by simp [WideAt.IsKeyLit]) _ _⟩
    · simp only [if_neg e] at ht
      rw [has_put_other (keyS_ne e), atKey_put_other (keyS_ne e)]
      exact h.2 t j ht
theorem MapsTo.congr {P Q : ByteArray → Option Nat} {D : DataW Unit} (h : MapsTo P D) (e : ∀ s, Q s = P s) : MapsTo Q D := ⟨fun s hs => h.1 s ((e s).symm.trans hs), fun s j hs => h.2 s j ((e s).symm.trans hs)⟩
set_option maxRecDepth 100000 in
/-- A look-up with both answers. -/
theorem look_to {W : World} {M q : Nat} {D : DataW Unit} {P : ByteArray → Option Nat} {s : ByteArray} (ho : W.ownsMap Try.prog 9 (plainElem (H := Unit) Try.prog 3) M q D) (hF : MapsTo P D) (hs : s.size ≤ maxLen) :
    ∃ c : Int, (Instr.lookup 49 (.map (some M)) (.string s) true).run Try.prog W = .ok (.tuple #[.int .i64 c, .bool (P s).isSome]) W ∧ ∀ j : Nat, P s = some j → c = j := by
  have hkey : keyOf Try.prog 9 (.string s) = some (keyS s) := keyOf_string_mk Try.underlying9 hs
  obtain ⟨v, ps, hrun, hv⟩ := ho.look_ok str_law Try.underlying49 (z := .int .i64 0) rfl (plainElem_int Try.underlying3 (WalkArith.wf_i64 (by omega))) hkey
  obtain ⟨c, rfl, hc, hwc⟩ := plainElem_int_inv Try.underlying3 hv
  have hc' : D.atKey (keyS s) zeroI = .lit (.int .i64 c) := congrArg Prod.fst hc
  refine ⟨c, ?_, fun j hj => ?_⟩
  · rw [hrun]
    cases e : P s with
    | none => rw [hF.1 s e]; rfl
    | some j => rw [(hF.2 s j e).1]; rfl
  · have := (hF.2 s j hj).2
    rw [hc'] at this
    injection this with e
    injection e with _ e
set_option maxRecDepth 100000 in
/-- A look-up with one. -/
theorem look1_to {W : World} {M q : Nat} {D : DataW Unit} {P : ByteArray → Option Nat} {s : ByteArray} {j : Nat} (ho : W.ownsMap Try.prog 9 (plainElem (H := Unit) Try.prog 3) M q D) (hF : MapsTo P D) (hs : s.size ≤ maxLen) (hj : P s = some j) :
    (Instr.lookup 49 (.map (some M)) (.string s) false).run Try.prog W = .ok (.int .i64 j) W := by
  have hkey : keyOf Try.prog 9 (.string s) = some (keyS s) := keyOf_string_mk Try.underlying9 hs
  obtain ⟨c, hrun, hc, hwc⟩ := ho.lookup_int (q := .i64) str_law Try.underlying49 Try.underlying3 rfl hkey
  have h1 := (hF.2 s j hj).2
  have h2 : D.atKey (keyS s) zeroI = .lit (.int .i64 c) := hc
  rw [h2] at h1
  injection h1 with e
  injection e with _ e
  rw [hrun, e]
/-- An append at a step of a region that draws its order, inside a fence, by its run. -/
theorem wpOpIn_append_run {F : Fence} {n : Nat} {P : Program} {w w' : World} {o : Oper} {a : Act} {K : Act → World → Prop} {Q : Exit → Act → World → Prop} (s x : Operand) (t : TypeId)
    (hop : o.op = Op.call { callee := Callee.builtin Builtin.append, args := #[s, x], argTypes := #[t, t] }) (v y v' : Value) (hs : a.eval s = v) (hx : a.eval x = y)
    (hrun : (Builtin.append_ #[t, t] o.type #[v, y]).run P w = .ok v' w') (hK : K (a.put o.dst v') w') : Oper.wpIn F n P o a w K Q := by
  unfold Oper.wpIn
  refine ⟨?_, ?_⟩
  · simp [Oper.about, hop, resolve, Target.leads, Sem.run_pure]
  · rw [Oper.semAt_plain F _ _ (by rw [hop]; intro c hc'; cases hc')]
    simp [execOp, hop, resolve, invoke, builtin, hs, hx, hrun, Result.andThen]
    exact hK
theorem wpListIn_append_run {F : Fence} {n : Nat} {P : Program} {w w' : World} {ops : Array Oper} {rest : List Oper} {o : Oper} {a : Act} {Q : Exit → Act → World → Prop} (hg : o.guard = none) (s x : Operand) (t : TypeId)
    (hop : o.op = Op.call { callee := Callee.builtin Builtin.append, args := #[s, x], argTypes := #[t, t] }) (v y v' : Value) (hs : a.eval s = v) (hx : a.eval x = y)
    (hrun : (Builtin.append_ #[t, t] o.type #[v, y]).run P w = .ok v' w') (hK : wpListIn F n P ops Q rest (a.put o.dst v') w') : wpListIn F n P ops Q (o :: rest) a w :=
  wpListIn_plain hg fun _ hK' => wpOpIn_append_run s x t hop v y v' hs hx hrun (hK' _ _ hK)
set_option maxRecDepth 100000 in
/-- A look-up with both answers, in whatever world holds the map. -/
theorem look_all {W : World} {M q : Nat} {D : DataW Unit} {P : ByteArray → Option Nat} {s : ByteArray} (ho : W.ownsMap Try.prog 9 (plainElem (H := Unit) Try.prog 3) M q D) (hF : MapsTo P D) (hs : s.size ≤ maxLen) :
    ∃ c : Int, (∀ V : World, V.ownsMap Try.prog 9 (plainElem (H := Unit) Try.prog 3) M q D → (Instr.lookup 49 (.map (some M)) (.string s) true).run Try.prog V = .ok (.tuple #[.int .i64 c, .bool (P s).isSome]) V) ∧ ∀ j : Nat, P s = some j → c = j := by
  have hkey : keyOf Try.prog 9 (.string s) = some (keyS s) := keyOf_string_mk Try.underlying9 hs
  have one : ∀ V : World, V.ownsMap Try.prog 9 (plainElem (H := Unit) Try.prog 3) M q D → ∃ c : Int, (Instr.lookup 49 (.map (some M)) (.string s) true).run Try.prog V = .ok (.tuple #[.int .i64 c, .bool (P s).isSome]) V ∧ D.atKey (keyS s) zeroI = .lit (.int .i64 c) := fun V hV => by
    obtain ⟨v, ps, hrun, hv⟩ := hV.look_ok str_law Try.underlying49 (z := .int .i64 0) rfl (plainElem_int Try.underlying3 (WalkArith.wf_i64 (by omega))) hkey
    obtain ⟨c, rfl, hc, hwc⟩ := plainElem_int_inv Try.underlying3 hv
    refine ⟨c, ?_, congrArg Prod.fst hc⟩
    rw [hrun]
    cases e : P s with
    | none => rw [hF.1 s e]; rfl
    | some j => rw [(hF.2 s j e).1]; rfl
  obtain ⟨c, _, hc⟩ := one W ho
  refine ⟨c, fun V hV => ?_, fun j hj => ?_⟩
  · obtain ⟨c', h1, h2⟩ := one V hV
    rw [hc] at h2
    injection h2 with e
    injection e with _ e
    rw [e]; exact h1
  · have := (hF.2 s j hj).2
    rw [hc] at this
    injection this with e
    injection e with _ e
end Go.Proofs.Ytinnhaojmnmliaa
namespace Go.Proofs.Ytinnhaojmnmliaa
open Go.RowKit

/-- Nothing is deferred in it. -/
def calmB (l : List Oper) : Bool := l.all fun o => match o.op with | .defer _ => false | _ => true
theorem calm_at {l : List Oper} (h : calmB l = true) {i : Nat} {o : Oper} (ho : l.toArray[i]? = some o) (c : Call) : o.op ≠ .defer c := fun e => by
  have hm : o ∈ l := by
    have : l[i]? = some o := by simpa using ho
    exact List.mem_of_getElem? this
  have := List.all_eq_true.1 h o hm
  rw [e] at this
  cases this
theorem wpAnyIn_round {n : Nat} {P : Program} {md : Region.Mode} {l : List Oper} {Q : Exit → Act → World → Prop} (r : Nat) (hc : calmB l = true) : ∀ (fuel : Nat) (listed : Array Bool) (a : Act) (w : World),
    wpAnyIn Fence.wide n P md l.toArray Q fuel listed a w → wpAnyIn (Fence.wide.inRound r) n P md l.toArray Q fuel listed a w
  | 0, _, _, _, h => h
  | fuel + 1, listed, a, w, h => by
    refine ⟨h.1, fun i hi => ?_⟩
    have h2 := h.2 i hi
    unfold wpOpIn at h2 ⊢
    cases ho : l.toArray[i]? with
    | none =>
      rw [ho] at h2
      exact wpAnyIn_round r hc fuel _ a w h2
    | some o =>
      rw [ho] at h2
      simp only at h2 ⊢
      split
      · rename_i hw
        rw [if_pos hw] at h2
        have h3 := Oper.wpIn_mono (fun a' w' => wpAnyIn_round r hc fuel _ a' w') h2
        unfold Oper.wpIn at h3 ⊢
        rw [Oper.semAt_eq _ _ _ (calm_at hc ho)] at h3 ⊢
        exact h3
      · rename_i hw
        rw [if_neg hw] at h2
        exact ⟨h2.1, wpAnyIn_round r hc fuel _ _ w h2.2⟩
/-- A region of reads inside a round. -/
theorem wpIn_region_round {n id r : Nat} {P : Program} {Q : Exit → Act → World → Prop} {a : Act} {w : World} {l : List Oper} (hm : P.follows .mixedOrders = true) (hB : Region.lexB .any l.toArray = true) (hc : calmB l = true)
    (h : wpQuietIn Fence.wide n P l.toArray (fun w' => ∃ n, w' = w.drewN n) (fun a' => ∀ w', (∃ n, w' = w.drewN n) → Q .normal a' w') l a) : (Code.region id l.toArray true).wpIn (Fence.wide.inRound r) n P Q a w := by
  simp only [Region.lexB, Bool.and_eq_true] at hB
  refine wpIn_region_any hm (wpAnyIn_round r hc _ _ _ _ (wpAnyIn_of_quiet (C := fun w' => ∃ n, w' = w.drewN n) (Q := fun a' => ∀ w', (∃ n, w' = w.drewN n) → Q .normal a' w') rfl (fun _ w' hw' h => h w' hw') _ _ _ _ ⟨1, rfl⟩ ?_))
  have := wpAnyQIn_lex (F := Fence.wide) (n := n) (C := fun w' => ∃ n, w' = w.drewN n) (md := .any) hB.1 l 0 (Array.replicate l.toArray.size false) a (by simp) (by simpa using hB.2) h
  simpa using this
end Go.Proofs.Ytinnhaojmnmliaa
namespace Go.Proofs.Ytinnhaojmnmliaa
open Go.RowKit

/-- No call but of len, no defer, no select, and no guard. -/
def plainB (o : Oper) : Bool := o.guard.isNone && (match o.op with | .call c => (match c.callee with | .builtin .len => true | _ => false) | .defer _ => false | .select _ _ => false | _ => true)
/-- Each reads what another writes behind it alone. -/
def seesB (ops : List Oper) (o : Oper) : Bool :=
  o.op.operands.toList.all fun x => match x with
    | .tmp t => (List.range ops.length).all fun k => match ops[k]? with
      | some o' => !decide (o'.dst = some t) || o.after.toList.any fun e => Region.binds .any e && decide (e.on = k)
      | none => true
    | _ => true
/-- What is asked of such a region: plain operations, edges that lead back, the last one behind all. -/
def readsB (ops : List Oper) (last : Nat) : Bool :=
  (List.range ops.length).all fun j => match ops[j]? with
    | none => true
    | some o => plainB o && seesB ops o && (o.after.toList.all fun e => decide (e.on < j)) &&
        (if j = last then o.dst.isNone && (List.range ops.length).all fun k => decide (k = last) || o.after.toList.any fun e => Region.binds .any e && decide (e.on = k) else o.dst.isSome)
/-- Each read's value is what stands at its temporary. -/
def Reads (P : Program) (full : Array Value) (w : World) : List Oper → Prop
  | [] => True
  | o :: l => (∃ d v, o.dst = some d ∧ full[d]? = some v ∧ (execOp (Act.mk full []).eval o).run P w = .ok (.value v) w) ∧ Reads P full w l
theorem reads_at {P : Program} {full : Array Value} {w : World} : ∀ {l : List Oper} {j : Nat} {o : Oper}, Reads P full w l → l[j]? = some o → ∃ d v, o.dst = some d ∧ full[d]? = some v ∧ (execOp (Act.mk full []).eval o).run P w = .ok (.value v) w
  | [], j, o, _, h => by simp at h
  | x :: l, 0, o, hr, h => by cases h; exact hr.1
  | x :: l, j + 1, o, hr, h => reads_at hr.2 (by simpa using h)
theorem plain_about {o : Oper} (h : plainB o = true) (P : Program) (w : World) (ρ : Operand → Value) : o.about P w ρ = none := by
  unfold plainB at h
  unfold Oper.about
  cases ho : o.op with
  | call c =>
    simp only [ho, Bool.and_eq_true] at h
    obtain ⟨_, h⟩ := h
    cases hc : c.callee with
    | builtin b => simp [resolve, hc, Target.leads]
    | _ => rw [hc] at h; cases h
  | _ => rfl
theorem plain_defer {o : Oper} (h : plainB o = true) (c : Call) : o.op ≠ .defer c := fun e => by simp [plainB, e] at h
theorem plain_select {o : Oper} (h : plainB o = true) (cs : Array SelectCase) (b : Bool) : o.op ≠ .select cs b := fun e => by simp [plainB, e] at h
theorem plain_guard {o : Oper} (h : plainB o = true) : o.guard = none := by
  simp only [plainB, Bool.and_eq_true, Option.isNone_iff_eq_none] at h
  exact h.1

section
variable {F : Fence} {n : Nat} {P : Program} {l : List Oper} {Q : Exit → Act → World → Prop} {w w1 : World} {full : Array Value} {ds : List Deferred} {last : Nat} {ol : Oper}
theorem readsB_at (h : readsB l last = true) {j : Nat} {o : Oper} (ho : l[j]? = some o) : plainB o = true ∧ seesB l o = true ∧ (∀ e ∈ o.after, e.on < j) ∧
    (j = last → o.dst = none ∧ ∀ k, k < l.length → k ≠ last → ∃ e ∈ o.after, Region.binds .any e = true ∧ e.on = k) := by
  have hj : j < l.length := (List.getElem?_eq_some_iff.1 ho).1
  have := List.all_eq_true.1 h j (List.mem_range.2 hj)
  simp only [ho, Bool.and_eq_true] at this
  obtain ⟨⟨⟨h1, h2⟩, h3⟩, h4⟩ := this
  refine ⟨h1, h2, fun e he => by simpa using List.all_eq_true.1 h3 e (by simpa using he), fun e => ?_⟩
  rw [if_pos e] at h4
  simp only [Bool.and_eq_true, Option.isNone_iff_eq_none] at h4
  refine ⟨h4.1, fun k hk hne => ?_⟩
  have h5 := List.all_eq_true.1 h4.2 k (List.mem_range.2 hk)
  simp only [Bool.or_eq_true, decide_eq_true_eq, hne, false_or, List.any_eq_true, Bool.and_eq_true] at h5
  obtain ⟨e, he, h6, h7⟩ := h5
  exact ⟨e, by simpa using he, h6, h7⟩
/-- How far the reads have come. -/
def Come (l : List Oper) (full : Array Value) (ds : List Deferred) (last : Nat) (listed : Array Bool) (a : Act) : Prop :=
  listed.size = l.length ∧ listed.getD last true = false ∧ (a.tmps.size = full.size ∧ a.defers = ds) ∧ ∀ t, (∀ k o, l[k]? = some o → o.dst = some t → listed.getD k false = true) → a.tmps.getD t undef = full.getD t undef
theorem come_eval {listed : Array Bool} {a : Act} (hc : Come l full ds last listed a) {o : Oper} (hp : plainB o = true) (hs : seesB l o = true) (hd : ∀ e ∈ o.after, Region.binds .any e = true → listed.getD e.on false = true) : execOp a.eval o = execOp (Act.mk full []).eval o := by
  refine execOp_congr o (plain_select hp) fun x hx => ?_
  cases x with
  | tmp t =>
    show a.tmps.getD t undef = full.getD t undef
    refine hc.2.2.2 t fun k o' hk ht => ?_
    have h1 := List.all_eq_true.1 hs (.tmp t) (by simpa using hx)
    have h2 := List.all_eq_true.1 h1 k (List.mem_range.2 (List.getElem?_eq_some_iff.1 hk).1)
    simp only [hk, ht, decide_true, Bool.not_true, Bool.false_or, List.any_eq_true, Bool.and_eq_true, decide_eq_true_eq] at h2
    obtain ⟨e, he, h3, rfl⟩ := h2
    exact hd e (by simpa using he) h3
  | const v => rfl
  | global g => rfl
  | func f => rfl
theorem some_ready (hB : readsB l last = true) {listed : Array Bool} (hs : listed.size = l.length) : ∀ j, j < l.length → listed.getD j true = false → ∃ i, i ∈ Region.ready .any l.toArray listed := by
  intro j
  induction j using Nat.strongRecOn with
  | ind j ih =>
    intro hj hun
    obtain ⟨o, ho⟩ : ∃ o, l[j]? = some o := ⟨_, List.getElem?_eq_getElem hj⟩
    obtain ⟨_, _, hback, _⟩ := readsB_at hB ho
    by_cases hall : ∀ e ∈ o.after, Region.binds .any e = true → listed.getD e.on false = true
    · exact ⟨j, mem_ready.2 ⟨hun, o, by simpa using ho, hall⟩⟩
    · simp only [Classical.not_forall] at hall
      obtain ⟨e, he, hb, hne⟩ := hall
      refine ih e.on (hback e he) (by have := hback e he; omega) ?_
      have hlt : e.on < listed.size := by have := hback e he; omega
      simp only [Array.getD_eq_getD_getElem?, Array.getElem?_eq_getElem hlt, Option.getD_some] at hne ⊢
      simpa using hne
theorem wpAnyIn_reads (hB : readsB l last = true) (hl : l[last]? = some ol) (hR : Reads P full w (l.take last)) (hlen : l.length = last + 1) (hw : (execOp (Act.mk full []).eval ol).run P w = .ok .skip w1) (hQ : Q .normal (Act.mk full ds) w1) :
    ∀ (fuel : Nat) (listed : Array Bool) (a : Act), listed.toList.count false ≤ fuel → Come l full ds last listed a → wpAnyIn F n P .any l.toArray Q fuel listed a w := by
  have hlast : last < l.length := (List.getElem?_eq_some_iff.1 hl).1
  intro fuel
  induction fuel with
  | zero =>
    intro listed a hf hc
    have hlt : last < listed.size := by rw [hc.1]; exact hlast
    have h1 := hc.2.1
    simp only [Array.getD_eq_getD_getElem?, Array.getElem?_eq_getElem hlt, Option.getD_some] at h1
    have : 0 < listed.toList.count false := List.count_pos_iff.2 (by rw [← h1]; simp)
    omega
  | succ fuel ih =>
    intro listed a hf hc
    refine ⟨fun h => ?_, fun i hi => ?_⟩
    · obtain ⟨i, hi⟩ := some_ready hB hc.1 last hlast hc.2.1
      rw [h] at hi
      cases hi
    · obtain ⟨hun, o, ho, hd⟩ := mem_ready.1 hi
      have ho' : l[i]? = some o := by simpa using ho
      have hil : i < l.length := (List.getElem?_eq_some_iff.1 ho').1
      have hilt : i < listed.size := by rw [hc.1]; exact hil
      obtain ⟨hp, hs, hback, hend⟩ := readsB_at hB ho'
      have he := come_eval hc hp hs hd
      have hcnt : (listed.setIfInBounds i true).toList.count false ≤ fuel := by
        have h1 := hun
        simp only [Array.getD_eq_getD_getElem?, Array.getElem?_eq_getElem hilt, Option.getD_some] at h1
        have h2 : listed.toList[i]'(by simpa using hilt) = false := by simpa using h1
        have h3 : (listed.setIfInBounds i true).toList.count false = listed.toList.count false - 1 := by
          rw [Array.toList_setIfInBounds, List.count_set (by simpa using hilt), h2]
          rfl
        omega
      unfold wpOpIn
      rw [ho]
      simp only [Region.wanted, plain_guard hp, if_true]
      unfold Oper.wpIn
      refine ⟨fun f hf => (by rw [plain_about hp] at hf; cases hf), ?_⟩
      rw [Oper.semAt_eq _ _ _ (plain_defer hp), he]
      by_cases hil' : i = last
      · subst hil'
        obtain rfl : o = ol := Option.some.inj (ho'.symm.trans hl)
        obtain ⟨hdst, hal⟩ := hend rfl
        rw [hw]
        show wpAnyIn F n P .any l.toArray Q fuel (listed.setIfInBounds i true) (a.put o.dst undef) w1
        have hfull : a.put o.dst undef = Act.mk full ds := by
          rw [hdst]
          have e1 : a.tmps = full := by
            refine Array.ext hc.2.2.1.1 fun t h1 h2 => ?_
            have h3 := hc.2.2.2 t fun k o' hk hkt => by
              by_cases hki : k = i
              · subst hki
                rw [ho'] at hk
                cases hk
                rw [hdst] at hkt
                cases hkt
              · obtain ⟨e, he1, he2, rfl⟩ := hal k (List.getElem?_eq_some_iff.1 hk).1 hki
                exact hd e he1 he2
            rw [Array.getD_eq_getD_getElem?, Array.getD_eq_getD_getElem?, Array.getElem?_eq_getElem h1, Array.getElem?_eq_getElem h2] at h3
            exact h3
          show a = _
          cases a
          simp only at e1
          have e2 := hc.2.2.1.2
          simp only at e2
          rw [e1, e2]
        rw [hfull]
        refine wpAnyIn_done ?_ hQ fuel
        refine List.eq_nil_iff_forall_not_mem.2 fun j hj => ?_
        obtain ⟨hjun, oj, hoj, _⟩ := mem_ready.1 hj
        have hjl : j < l.length := by have : l[j]? = some oj := by simpa using hoj
                                      exact (List.getElem?_eq_some_iff.1 this).1
        by_cases hji : j = i
        · subst hji
          simp [Array.getD_eq_getD_getElem?, hilt] at hjun
        · obtain ⟨e, he1, he2, rfl⟩ := hal j hjl hji
          have h1 := hd e he1 he2
          have hjlt : e.on < listed.size := by rw [hc.1]; exact hjl
          rw [Array.getD_eq_getD_getElem?, Array.getElem?_setIfInBounds_ne (fun q => hji q.symm), Array.getElem?_eq_getElem hjlt] at hjun
          rw [Array.getD_eq_getD_getElem?, Array.getElem?_eq_getElem hjlt] at h1
          simp at h1 hjun
          rw [h1] at hjun
          cases hjun
      · obtain ⟨d, v, hdst, hfd, hrun⟩ := reads_at hR (j := i) (o := o) (by rw [List.getElem?_take_of_lt (by omega)]; exact ho')
        rw [hrun]
        show wpAnyIn F n P .any l.toArray Q fuel (listed.setIfInBounds i true) (a.put o.dst v) w
        refine ih _ _ hcnt ⟨by simp [hc.1], ?_, ?_, fun t ht => ?_⟩
        · have := hc.2.1
          rw [Array.getD_eq_getD_getElem?] at this ⊢
          rw [Array.getElem?_setIfInBounds_ne hil']
          exact this
        · rw [hdst]
          exact ⟨by simp [Act.put, hc.2.2.1.1], hc.2.2.1.2⟩
        · rw [hdst]
          simp only [Act.put]
          have hdl : d < full.size := (Array.getElem?_eq_some_iff.1 hfd).1
          by_cases htd : t = d
          · subst htd
            rw [Array.getD_eq_getD_getElem?, Array.getD_eq_getD_getElem?, hfd, Array.getElem?_setIfInBounds_self_of_lt (by rw [hc.2.2.1.1]; exact hdl)]
          · rw [Array.getD_eq_getD_getElem?, Array.getElem?_setIfInBounds_ne (fun q => htd q.symm), ← Array.getD_eq_getD_getElem?]
            refine hc.2.2.2 t fun k o' hk hkt => ?_
            have h1 := ht k o' hk hkt
            have hki : k ≠ i := fun q => by
              subst q
              rw [ho'] at hk
              cases hk
              rw [hdst] at hkt
              cases hkt
              exact htd rfl
            rw [Array.getD_eq_getD_getElem?, Array.getElem?_setIfInBounds_ne (fun q => hki q.symm), ← Array.getD_eq_getD_getElem?] at h1
            exact h1
/-- Some temporaries written. -/
def puts (ts : Array Value) : List (Tmp × Value) → Array Value
  | [] => ts
  | p :: r => puts (ts.setIfInBounds p.1 p.2) r
theorem puts_size : ∀ (r : List (Tmp × Value)) (ts : Array Value), (puts ts r).size = ts.size
  | [], _ => rfl
  | p :: r, ts => by rw [puts, puts_size r]; simp
theorem puts_other (t : Tmp) : ∀ (r : List (Tmp × Value)) (ts : Array Value), (∀ p ∈ r, p.1 ≠ t) → (puts ts r).getD t undef = ts.getD t undef
  | [], _, _ => rfl
  | p :: r, ts, h => by
    rw [puts, puts_other t r _ fun q hq => h q (List.mem_cons_of_mem _ hq)]
    rw [Array.getD_eq_getD_getElem?, Array.getElem?_setIfInBounds_ne (h p List.mem_cons_self), ← Array.getD_eq_getD_getElem?]
/-- A region of reads, in any order, and one write behind them. vals: what each read puts where. -/
theorem wpIn_region_reads {id : Nat} {a : Act} (last : Nat) (vals : List (Tmp × Value)) (full : Array Value) {ol : Oper} (hm : P.follows .mixedOrders = true) (hB : readsB l last = true) (hl : l[last]? = some ol) (hlen : l.length = last + 1)
    (hd : (vals.all fun p => l.any fun o => decide (o.dst = some p.1)) = true) (hf : puts a.tmps vals = full) (hR : Reads P full w.drew (l.take last)) (hw : (execOp (Act.mk full []).eval ol).run P w.drew = .ok .skip w1) (hQ : Q .normal (Act.mk full a.defers) w1) :
    (Code.region id l.toArray true).wpIn F n P Q a w := by
  subst hf
  refine wpIn_region_any hm ?_
  refine wpAnyIn_reads (w := w.drew) hB hl hR hlen hw hQ _ _ a ?_ ⟨by simp, by simp [Array.getD_eq_getD_getElem?, hlen], ⟨(puts_size _ _).symm, rfl⟩, fun t ht => (puts_other t vals a.tmps fun p hp e => ?_).symm⟩
  · simp
  · have h1 := List.all_eq_true.1 hd p hp
    obtain ⟨o, ho, h2⟩ := List.any_eq_true.1 h1
    obtain ⟨k, hk, rfl⟩ := List.mem_iff_getElem.1 ho
    have := ht k _ (List.getElem?_eq_getElem hk) (by rw [← e]; simpa using h2)
    simp [Array.getD_eq_getD_getElem?, Array.getElem?_replicate] at this
    split at this <;> cases this
end
end Go.Proofs.Ytinnhaojmnmliaa
namespace Go.Proofs.Ytinnhaojmnmliaa
open Go.RowKit Go.ChangeShapes Go.WideShapes

section
variable {H : Type}
theorem cells_i : Try.prog.cellsOf 3 = 1 := by kernel_rfl
theorem cells_s : Try.prog.cellsOf 9 = 1 := by kernel_rfl
theorem bulk_app (l r : List (DataW H)) : Rows.uptoBulkAll (l ++ r) = Rows.uptoBulkAll l + Rows.uptoBulkAll r := by
  induction l with
  | nil => simp [Rows.uptoBulkAll]
  | cons x l ih => simp only [List.cons_append, Rows.uptoBulkAll, ih]; omega
theorem bulk_range (D : Nat → DataW H) : ∀ n, Rows.uptoBulkAll ((List.range n).map D) = sumN (fun i => Rows.uptoBulk (D i)) n
  | 0 => rfl
  | n + 1 => by
    rw [List.range_succ, List.map_append, bulk_app, bulk_range D n]
    simp [sumN, Rows.uptoBulkAll]
theorem sumN_mono {f g : Nat → Nat} : ∀ {n : Nat}, (∀ i, i < n → f i ≤ g i) → sumN f n ≤ sumN g n
  | 0, _ => Nat.le_refl _
  | n + 1, h => by
    have h1 := sumN_mono (n := n) fun i hi => h i (by omega)
    have h2 := h n (by omega)
    simp only [sumN]
    omega
theorem add_none (b o j : Nat) : (Addr.mk b o none).add j = ⟨b, o + j, none⟩ := by
  unfold Addr.add
  split
  · simp
  · rfl
end
end Go.Proofs.Ytinnhaojmnmliaa
