/-
  Names sorted and each once: slices.Sort and slices.Compact of texts; plain facts.
  A map of names' first places; a name's new name; what is older and stays; of no function.
  A map from names to numbers, by what it tells; marks of loops that are done; of no function.
  Rows of texts as lists; of no function.
-/
import Derived.Test.YtinnhaojmnmliaaGreatCExprMath
import Derived.Test.YtinnhaojmnmliaaGreatCShelf
import Derived.Test.YtinnhaojmnmliaaGreatCValOrderMath
import Derived.Test.YtinnhaojmnmliaaGreatCPatBase
import Derived.Lib.OwnBridge
import Derived.Sort.OwnSorted
import Derived.Sort.Walk0
import Derived.Maps.OwnSet
import Derived.Maps.OwnIn
import Derived.Maps.Views
namespace Go.Proofs.YtinnhaojmnmliaaGreat
open Go.RowKit Go.Shelf Go.Sort

/-- A text's bytes. -/
def bs (s : ByteArray) : List UInt8 := s.data.toList
theorem bs_mk (s : ByteArray) : (⟨(bs s).toArray⟩ : ByteArray) = s := by simp [bs]
theorem mk_bs (l : List UInt8) : bs ⟨l.toArray⟩ = l := by simp [bs]
theorem bs_list (s : ByteArray) : s.toList = bs s := by rw [ByteArray.toList_eq]; rfl
theorem lt_bytes (x y : List UInt8) : decide (x < y) = Op.bytesLess x y := (bytesLess_eq x y).symm
theorem le_bytes (x y : List UInt8) : decide (x ≤ y) = !Op.bytesLess y x := by
  rw [← lt_bytes]
  by_cases h : y < x
  · have : ¬ x ≤ y := fun e => e h
    simp [h, this]
  · have : x ≤ y := h
    simp [h, this]
theorem less_le {l m r : List UInt8} (h1 : Op.bytesLess m l = false) (h2 : Op.bytesLess r m = false) : Op.bytesLess r l = false := by
  cases h : Op.bytesLess r l with
  | false => rfl
  | true =>
    by_cases e : l = m
    · rw [← e, h] at h2; cases h2
    · have h3 := less_total l m e
      rw [h1] at h3
      have h4 := less_trans _ _ _ h h3
      rw [h4] at h2; cases h2
theorem cmp_bytes (a b : ByteArray) : cmpS a b < 0 ↔ Op.bytesLess (bs a) (bs b) = true := by
  rcases cmpS_cases a b with ⟨h, h1, _⟩ | ⟨h, h1⟩ | ⟨h, h1, _⟩
  · rw [h, ← bs_list, ← bs_list]; simp [h1]
  · rw [bs_list, bs_list] at h1
    rw [h, h1, less_irrefl]; simp
  · rw [bs_list, bs_list] at h1
    rw [h]
    constructor
    · intro h; omega
    · intro h2
      have := less_trans _ _ _ h1 h2
      rw [less_irrefl] at this
      cases this
/-- The texts sorted, then each once. -/
def sortB (l : List (List UInt8)) : List (List UInt8) := l.mergeSort fun x y => decide (x ≤ y)
theorem sortB_le (l : List (List UInt8)) : (sortB l).Pairwise fun x y => Op.bytesLess y x = false := by
  have h := List.pairwise_mergeSort (le := fun (x y : List UInt8) => decide (x ≤ y)) (fun a b c h1 h2 => by
    rw [le_bytes] at h1 h2 ⊢
    simp at h1 h2 ⊢
    exact less_le h1 h2) (fun a b => by
    rw [le_bytes, le_bytes]
    by_cases e : a = b
    · subst e; simp [less_irrefl]
    · have := less_total a b e
      cases h : Op.bytesLess b a <;> simp_all) l
  exact h.imp fun h => by rw [le_bytes] at h; simpa using h
theorem sortB_mem (l : List (List UInt8)) (x : List UInt8) : x ∈ sortB l ↔ x ∈ l := List.mem_mergeSort
theorem sortB_len (l : List (List UInt8)) : (sortB l).length = l.length := List.length_mergeSort l
theorem compact_mem (d : Array (List UInt8)) (x : List UInt8) : ∀ m, x ∈ Lib.compactUpTo d m ↔ ∃ j, j < m ∧ d[j]! = x
  | 0 => by simp [Lib.compactUpTo]
  | m + 1 => by
    rw [Lib.compactUpTo_succ, List.mem_append, compact_mem d x m]
    constructor
    · rintro (⟨j, hj, e⟩ | h)
      · exact ⟨j, by omega, e⟩
      · split at h
        · simp at h; exact ⟨m, by omega, h.symm⟩
        · simp at h
    · rintro ⟨j, hj, e⟩
      by_cases hjm : j < m
      · exact .inl ⟨j, hjm, e⟩
      · obtain rfl : j = m := by omega
        by_cases hk : Lib.keeps d j = true
        · exact .inr (by rw [if_pos hk]; simp [e])
        · simp [Lib.keeps] at hk
          exact .inl ⟨j - 1, by omega, by rw [← hk.2]; exact e⟩
theorem compact_less (d : Array (List UInt8)) (n : Nat) (hs : ∀ i j, i < j → j < n → Op.bytesLess d[j]! d[i]! = false) : ∀ m, m ≤ n → (Lib.compactUpTo d m).Pairwise fun x y => Op.bytesLess x y = true
  | 0, _ => by simp [Lib.compactUpTo]
  | m + 1, hm => by
    rw [Lib.compactUpTo_succ]
    by_cases hk : Lib.keeps d m = true
    · rw [if_pos hk, List.pairwise_append]
      refine ⟨compact_less d n hs m (by omega), by simp, fun x hx y hy => ?_⟩
      simp at hy
      subst hy
      obtain ⟨j, hj, rfl⟩ := (compact_mem d x m).1 hx
      simp [Lib.keeps] at hk
      have h1 := hs (m - 1) m (by omega) (by omega)
      have h2 : Op.bytesLess d[m - 1]! d[m]! = true := by
        have := less_total d[m - 1]! d[m]! (fun e => (hk.resolve_left (by omega)) e.symm)
        rw [h1] at this
        exact this
      by_cases e : j = m - 1
      · rw [e]; exact h2
      · have h3 := hs j (m - 1) (by omega) (by omega)
        by_cases e2 : d[j]! = d[m - 1]!
        · rw [e2]; exact h2
        · have h4 := less_total d[j]! d[m - 1]! e2
          rw [h3] at h4
          exact less_trans _ _ _ h4 h2
    · rw [if_neg hk, List.append_nil]
      exact compact_less d n hs m (by omega)
/-- What Vars hands back, of the names that it has met. -/
def onceB (l : List (List UInt8)) : List (List UInt8) := Lib.compact (sortB l)
theorem onceB_mem (l : List (List UInt8)) (x : List UInt8) : x ∈ onceB l ↔ x ∈ l := by
  unfold onceB Lib.compact
  rw [compact_mem, ← sortB_mem l]
  constructor
  · rintro ⟨j, hj, rfl⟩
    simp [hj]
  · intro h
    obtain ⟨j, hj, e⟩ := List.getElem_of_mem h
    exact ⟨j, hj, by simp [hj, e]⟩
theorem onceB_less (l : List (List UInt8)) : (onceB l).Pairwise fun x y => Op.bytesLess x y = true := by
  unfold onceB Lib.compact
  refine compact_less _ _ (fun i j hij hj => ?_) _ (Nat.le_refl _)
  have h := List.pairwise_iff_getElem.1 (sortB_le l) i j (by omega) hj hij
  simpa [show i < (sortB l).length by omega, hj] using h
theorem onceB_len (l : List (List UInt8)) : (onceB l).length ≤ l.length := by
  unfold onceB Lib.compact
  rw [← sortB_len l]
  unfold Lib.compactUpTo
  rw [List.length_map]
  exact Nat.le_trans (List.length_filter_le _ _) (by simp)
theorem sorted_of : ∀ l : List (List UInt8), (l.Pairwise fun x y => Op.bytesLess x y = true) → Sorted (l.map fun x => (⟨x.toArray⟩ : ByteArray))
  | [], _ => trivial
  | a :: l, h => by
    rw [List.pairwise_cons] at h
    refine ⟨fun b hb => ?_, sorted_of l h.2⟩
    obtain ⟨y, hy, rfl⟩ := List.mem_map.1 hb
    rw [cmp_bytes, mk_bs, mk_bs]
    exact h.1 y hy
/-- Sorted, each once: just the document's. -/
theorem once_vars (x : X) (l : List ByteArray) (h : ∀ t, t ∈ l ↔ hasVar t x) : (onceB (l.map bs)).map (fun x => (⟨x.toArray⟩ : ByteArray)) = varsX x := by
  refine vars_one _ x (sorted_of _ (onceB_less _)) fun t => ?_
  rw [← h t, List.mem_map]
  constructor
  · rintro ⟨y, hy, rfl⟩
    rw [onceB_mem, List.mem_map] at hy
    obtain ⟨s, hs, rfl⟩ := hy
    rw [bs_mk]
    exact hs
  · intro ht
    exact ⟨bs t, by rw [onceB_mem]; exact List.mem_map_of_mem ht, bs_mk t⟩
end Go.Proofs.YtinnhaojmnmliaaGreat
namespace Go.Proofs.YtinnhaojmnmliaaGreat
open Go.RowKit Go.Shelf Go.Maps Go.WideMaps

abbrev zeroI : DataW Unit := .lit (.int .i64 0)
/-- What the map tells of the names from the i-th on: each one's first place. -/
structure Firsts (S : Nat → ByteArray) (n i : Nat) (D : DataW Unit) : Prop where
  hit : ∀ j, i ≤ j → j < n → (∀ j', i ≤ j' → j' < j → S j' ≠ S j) → Maps.has D (keyS (S j)) = true ∧ D.atKey (keyS (S j)) zeroI = .lit (.int .i64 j)
  miss : ∀ s, (∀ j, i ≤ j → j < n → S j ≠ s) → Maps.has D (keyS s) = false
theorem firsts_none (S : Nat → ByteArray) (n : Nat) : Firsts S n n (.map []) := ⟨fun j h1 h2 => by omega, fun _ _ => rfl⟩
theorem Firsts.more {S : Nat → ByteArray} {n i : Nat} {D : DataW Unit} (h : Firsts S n (i + 1) D) (hm : IsMap D) (hi : i < n) : Firsts S n i (D.put (keyS (S i)) (.lit (.int .i64 i))) := by
  refine ⟨fun j h1 h2 h3 => ?_, fun s hs => ?_⟩
  · by_cases e : j = i
    · subst e
      exact ⟨has_put_same hm (by simp [WideAt.IsKeyLit]) _, atKey_put_same hm (by simp [WideAt.IsKeyLit]) _ _⟩
    · have hne : S i ≠ S j := h3 i (Nat.le_refl _) (by omega)
      obtain ⟨q1, q2⟩ := h.hit j (by omega) h2 fun j' h4 h5 => h3 j' (by omega) h5
      rw [has_put_other (keyS_ne fun q => hne q.symm), atKey_put_other (keyS_ne fun q => hne q.symm)]
      exact ⟨q1, q2⟩
  · have hne : S i ≠ s := hs i (Nat.le_refl _) hi
    rw [has_put_other (keyS_ne fun q => hne q.symm)]
    exact h.miss s fun j h1 h2 => hs j (by omega) h2
theorem ownsMap_ag {B : Nat} {W A : World} (h : Ag B W A) {b n : Nat} {D : DataW Unit} (hb : b < B) (ho : W.ownsMap Tryz.prog 9 (plainElem (H := Unit) Tryz.prog 3) b n D) : A.ownsMap Tryz.prog 9 (plainElem (H := Unit) Tryz.prog 3) b n D := by
  obtain ⟨es, clock, h1, h2⟩ := ho
  exact ⟨es, clock, (h.low b hb).trans h1, h2⟩
theorem ownsMap_below {B : Nat} {W A : World} (h : Below B W A) {b n : Nat} {D : DataW Unit} (hb : b < B) (ho : W.ownsMap Tryz.prog 9 (plainElem (H := Unit) Tryz.prog 3) b n D) : A.ownsMap Tryz.prog 9 (plainElem (H := Unit) Tryz.prog 3) b n D := by
  obtain ⟨es, clock, h1, h2⟩ := ho
  exact ⟨es, clock, (h.block b hb).trans h1, h2⟩
/-- The first place of a name. -/
def fstS (S : Nat → ByteArray) (s : ByteArray) : Nat → Option Nat
  | 0 => none
  | n + 1 => match fstS S s n with
    | some j => some j
    | none => if S n = s then some n else none
theorem fstS_some {S : Nat → ByteArray} {s : ByteArray} : ∀ {n j : Nat}, fstS S s n = some j → j < n ∧ S j = s ∧ ∀ j', j' < j → S j' ≠ s
  | 0, _, h => by simp [fstS] at h
  | n + 1, j, h => by
    have none_of : ∀ {n}, fstS S s n = none → ∀ j', j' < n → S j' ≠ s := by
      intro n
      induction n with
      | zero => intro _ j' hj; omega
      | succ n ih =>
        intro h j' hj
        simp only [fstS] at h
        cases e : fstS S s n with
        | some q => rw [e] at h; cases h
        | none =>
          rw [e] at h
          simp only at h
          by_cases hs : S n = s
          · rw [if_pos hs] at h; cases h
          · by_cases ej : j' = n
            · subst ej; exact hs
            · exact ih e j' (by omega)
    simp only [fstS] at h
    cases e : fstS S s n with
    | some q =>
      rw [e] at h
      simp only at h
      cases h
      obtain ⟨h1, h2, h3⟩ := fstS_some e
      exact ⟨by omega, h2, h3⟩
    | none =>
      rw [e] at h
      simp only at h
      by_cases hs : S n = s
      · rw [if_pos hs] at h
        cases h
        exact ⟨by omega, hs, none_of e⟩
      · rw [if_neg hs] at h; cases h
theorem fstS_none {S : Nat → ByteArray} {s : ByteArray} : ∀ {n : Nat}, fstS S s n = none → ∀ j', j' < n → S j' ≠ s
  | 0, _, j', hj => by omega
  | n + 1, h, j', hj => by
    simp only [fstS] at h
    cases e : fstS S s n with
    | some q => rw [e] at h; cases h
    | none =>
      rw [e] at h
      simp only at h
      by_cases hs : S n = s
      · rw [if_pos hs] at h; cases h
      · by_cases ej : j' = n
        · subst ej; exact hs
        · exact fstS_none e j' (by omega)
/-- A name's new name. -/
def nameX (S T : Nat → ByteArray) (n : Nat) (s : ByteArray) : ByteArray := match fstS S s n with
  | some j => T j
  | none => s
/-- What is older than N1 stays, but for one block. -/
structure Lb (N1 B0 : Nat) (W W' : World) : Prop where
  os : W'.os = W.os
  tape : W'.tape = W.tape
  output : W'.output = W.output
  size : W.heap.size ≤ W'.heap.size
  block : ∀ k, k < N1 → k ≠ B0 → W'.heap[k]? = W.heap[k]?
theorem Lb.refl (N1 B0 : Nat) (W : World) : Lb N1 B0 W W := ⟨rfl, rfl, rfl, Nat.le_refl _, fun _ _ _ => rfl⟩
theorem Lb.trans {N1 B0 : Nat} {A B C : World} (h : Lb N1 B0 A B) (g : Lb N1 B0 B C) : Lb N1 B0 A C :=
  ⟨g.os.trans h.os, g.tape.trans h.tape, g.output.trans h.output, Nat.le_trans h.size g.size, fun k h1 h2 => (g.block k h1 h2).trans (h.block k h1 h2)⟩
theorem Lb.ag {N1 B0 B : Nat} {W A A' W' : World} (h : Ag B W A) (h' : Ag B A' W') (hN : N1 ≤ B) (g : Lb N1 B0 A A') : Lb N1 B0 W W' :=
  ⟨h'.os.trans (g.os.trans h.os), h'.tape.trans (g.tape.trans h.tape), h'.output.trans (g.output.trans h.output), by rw [h'.size, ← h.size]; exact g.size, fun k h1 h2 => (h'.low k (by omega)).trans ((g.block k h1 h2).trans (h.low k (by omega)))⟩
theorem Lb.set {N1 B0 b o : Nat} {W : World} {v : Value} (hb : b = B0 ∨ N1 ≤ b) : Lb N1 B0 W (W.setCell ⟨b, o, none⟩ v) :=
  ⟨rfl, rfl, rfl, Nat.le_of_eq (World.size_setCell ..).symm, fun k h1 h2 => Below.heap_setCell W ⟨b, o, none⟩ v k (fun e => by have e' : k = b := e; omega)⟩
theorem Lb.below {N1 B0 n : Nat} {W W' : World} (h : Lb N1 B0 W W') (hn : n ≤ N1) (hB : n ≤ B0) : Below n W W' := ⟨h.os, h.tape, h.output, h.size, fun k hk => h.block k (by omega) (by omega)⟩
theorem Lb.of_below {N1 B0 : Nat} {W W' : World} (h : Below N1 W W') : Lb N1 B0 W W' := ⟨h.os, h.tape, h.output, h.size, fun k hk _ => h.block k hk⟩

set_option maxRecDepth 100000 in
/-- What the map tells of a name. -/
theorem look_at {W : World} {M q : Nat} {D : DataW Unit} {S : Nat → ByteArray} {s : ByteArray} (ho : W.ownsMap Tryz.prog 9 (plainElem (H := Unit) Tryz.prog 3) M q D) (hF : Firsts S q 0 D) (hs : s.size ≤ maxLen) :
    ∃ c : Int, (Instr.lookup 74 (.map (some M)) (.string s) true).run Tryz.prog W = .ok (.tuple #[.int .i64 c, .bool (fstS S s q).isSome]) W ∧ ∀ j, fstS S s q = some j → c = j := by
  have hkey : keyOf Tryz.prog 9 (.string s) = some (keyS s) := keyOf_string_mk Tryz.underlying9 hs
  obtain ⟨v, ps, hrun, hv⟩ := ho.look_ok str_law Tryz.underlying74 (z := .int .i64 0) rfl (plainElem_int Tryz.underlying3 (WalkArith.wf_i64 (by omega))) hkey
  obtain ⟨c, rfl, hc, hwc⟩ := plainElem_int_inv Tryz.underlying3 hv
  have hc' : D.atKey (keyS s) zeroI = .lit (.int .i64 c) := congrArg Prod.fst hc
  refine ⟨c, ?_, fun j hj => ?_⟩
  · rw [hrun]
    cases e : fstS S s q with
    | none => rw [hF.miss s fun j _ hj => fstS_none e j hj]; rfl
    | some j =>
      obtain ⟨h1, h2, h3⟩ := fstS_some e
      have := (hF.hit j (Nat.zero_le _) h1 fun j' _ hj' => by rw [h2]; exact h3 j' hj').1
      rw [h2] at this
      rw [this]
      rfl
  · obtain ⟨h1, h2, h3⟩ := fstS_some hj
    have := (hF.hit j (Nat.zero_le _) h1 fun j' _ hj' => by rw [h2]; exact h3 j' hj').2
    rw [h2, hc'] at this
    injection this with e
    injection e with _ e
theorem Lb.boxed {N1 B0 : Nat} {W W' : World} (h : Lb N1 B0 W W') {b : Nat} {t : TypeId} {v : Value} (hb : Boxed W b t v) (h1 : b < N1) (h2 : b ≠ B0) : Boxed W' b t v := (h.block b h1 h2).trans hb
theorem Lb.map {N1 B0 : Nat} {W W' : World} (h : Lb N1 B0 W W') {b n : Nat} {D : DataW Unit} (h1 : b < N1) (h2 : b ≠ B0) (ho : W.ownsMap Tryz.prog 9 (plainElem (H := Unit) Tryz.prog 3) b n D) : W'.ownsMap Tryz.prog 9 (plainElem (H := Unit) Tryz.prog 3) b n D := by
  obtain ⟨es, clock, q1, q2⟩ := ho
  exact ⟨es, clock, (h.block b h1 h2).trans q1, q2⟩
end Go.Proofs.YtinnhaojmnmliaaGreat
namespace Go.Proofs.YtinnhaojmnmliaaGreat
open Go.RowKit Go.Shelf Go.Maps Go.WideMaps

/-- What the map tells of each name. -/
def MapsTo (P : ByteArray → Option Nat) (D : DataW Unit) : Prop :=
  (∀ s, P s = none → Maps.has D (keyS s) = false) ∧ ∀ s j, P s = some j → Maps.has D (keyS s) = true ∧ D.atKey (keyS s) zeroI = .lit (.int .i64 j)
theorem mapsTo_none : MapsTo (fun _ => none) (.map []) := ⟨fun _ _ => rfl, fun _ _ h => by cases h⟩
theorem MapsTo.put {P : ByteArray → Option Nat} {D : DataW Unit} (h : MapsTo P D) (hm : IsMap D) (s : ByteArray) (k : Nat) : MapsTo (fun t => if t = s then some k else P t) (D.put (keyS s) (.lit (.int .i64 k))) := by
  refine ⟨fun t ht => ?_, fun t j ht => ?_⟩
  · by_cases e : t = s
    · simp only [if_pos e] at ht; cases ht
    · simp only [if_neg e] at ht
      rw [has_put_other (keyS_ne e)]
      exact h.1 t ht
  · by_cases e : t = s
    · simp only [if_pos e] at ht
      cases ht
      subst e
      exact ⟨has_put_same hm (by simp [WideAt.IsKeyLit]) _, atKey_put_same hm (by simp [WideAt.IsKeyLit]) _ _⟩
    · simp only [if_neg e] at ht
      rw [has_put_other (keyS_ne e), atKey_put_other (keyS_ne e)]
      exact h.2 t j ht
theorem MapsTo.congr {P Q : ByteArray → Option Nat} {D : DataW Unit} (h : MapsTo P D) (e : ∀ s, Q s = P s) : MapsTo Q D := ⟨fun s hs => h.1 s ((e s).symm.trans hs), fun s j hs => h.2 s j ((e s).symm.trans hs)⟩
set_option maxRecDepth 100000 in
/-- A look-up with both answers. -/
theorem look_to {W : World} {M q : Nat} {D : DataW Unit} {P : ByteArray → Option Nat} {s : ByteArray} (ho : W.ownsMap Tryz.prog 9 (plainElem (H := Unit) Tryz.prog 3) M q D) (hF : MapsTo P D) (hs : s.size ≤ maxLen) :
    ∃ c : Int, (Instr.lookup 74 (.map (some M)) (.string s) true).run Tryz.prog W = .ok (.tuple #[.int .i64 c, .bool (P s).isSome]) W ∧ ∀ j : Nat, P s = some j → c = j := by
  have hkey : keyOf Tryz.prog 9 (.string s) = some (keyS s) := keyOf_string_mk Tryz.underlying9 hs
  obtain ⟨v, ps, hrun, hv⟩ := ho.look_ok str_law Tryz.underlying74 (z := .int .i64 0) rfl (plainElem_int Tryz.underlying3 (WalkArith.wf_i64 (by omega))) hkey
  obtain ⟨c, rfl, hc, hwc⟩ := plainElem_int_inv Tryz.underlying3 hv
  have hc' : D.atKey (keyS s) zeroI = .lit (.int .i64 c) := congrArg Prod.fst hc
  refine ⟨c, ?_, fun j hj => ?_⟩
  · rw [hrun]
    cases e : P s with
    | none => rw [hF.1 s e]; rfl
    | some j => rw [(hF.2 s j e).1]; rfl
  · have := (hF.2 s j hj).2
    rw [hc'] at this
    injection this with e
    injection e with _ e
set_option maxRecDepth 100000 in
/-- A look-up with one. -/
theorem look1_to {W : World} {M q : Nat} {D : DataW Unit} {P : ByteArray → Option Nat} {s : ByteArray} {j : Nat} (ho : W.ownsMap Tryz.prog 9 (plainElem (H := Unit) Tryz.prog 3) M q D) (hF : MapsTo P D) (hs : s.size ≤ maxLen) (hj : P s = some j) :
    (Instr.lookup 74 (.map (some M)) (.string s) false).run Tryz.prog W = .ok (.int .i64 j) W := by
  have hkey : keyOf Tryz.prog 9 (.string s) = some (keyS s) := keyOf_string_mk Tryz.underlying9 hs
  obtain ⟨c, hrun, hc, hwc⟩ := ho.lookup_int (q := .i64) str_law Tryz.underlying74 Tryz.underlying3 rfl hkey
  have h1 := (hF.2 s j hj).2
  have h2 : D.atKey (keyS s) zeroI = .lit (.int .i64 c) := hc
  rw [h2] at h1
  injection h1 with e
  injection e with _ e
  rw [hrun, e]
/-- An append at a step of a region that draws its order, inside a fence, by its run. -/
theorem wpOpIn_append_run {F : Fence} {n : Nat} {P : Program} {w w' : World} {o : Oper} {a : Act} {K : Act → World → Prop} {Q : Exit → Act → World → Prop} (s x : Operand) (t : TypeId)
    (hop : o.op = Op.call { callee := Callee.builtin Builtin.append, args := #[s, x], argTypes := #[t, t] }) (v y v' : Value) (hs : a.eval s = v) (hx : a.eval x = y)
    (hrun : (Builtin.append_ #[t, t] o.type #[v, y]).run P w = .ok v' w') (hK : K (a.put o.dst v') w') : Oper.wpIn F n P o a w K Q := by
  unfold Oper.wpIn
  refine ⟨?_, ?_⟩
  · simp [Oper.about, hop, resolve, Target.leads, Sem.run_pure]
  · rw [Oper.semAt_plain F _ _ (by rw [hop]; intro c hc'; cases hc')]
    simp [execOp, hop, resolve, invoke, builtin, hs, hx, hrun, Result.andThen]
    exact hK
theorem wpListIn_append_run {F : Fence} {n : Nat} {P : Program} {w w' : World} {ops : Array Oper} {rest : List Oper} {o : Oper} {a : Act} {Q : Exit → Act → World → Prop} (hg : o.guard = none) (s x : Operand) (t : TypeId)
    (hop : o.op = Op.call { callee := Callee.builtin Builtin.append, args := #[s, x], argTypes := #[t, t] }) (v y v' : Value) (hs : a.eval s = v) (hx : a.eval x = y)
    (hrun : (Builtin.append_ #[t, t] o.type #[v, y]).run P w = .ok v' w') (hK : wpListIn F n P ops Q rest (a.put o.dst v') w') : wpListIn F n P ops Q (o :: rest) a w :=
  wpListIn_plain hg fun _ hK' => wpOpIn_append_run s x t hop v y v' hs hx hrun (hK' _ _ hK)
set_option maxRecDepth 100000 in
/-- A look-up with both answers, in whatever world holds the map. -/
theorem look_all {W : World} {M q : Nat} {D : DataW Unit} {P : ByteArray → Option Nat} {s : ByteArray} (ho : W.ownsMap Tryz.prog 9 (plainElem (H := Unit) Tryz.prog 3) M q D) (hF : MapsTo P D) (hs : s.size ≤ maxLen) :
    ∃ c : Int, (∀ V : World, V.ownsMap Tryz.prog 9 (plainElem (H := Unit) Tryz.prog 3) M q D → (Instr.lookup 74 (.map (some M)) (.string s) true).run Tryz.prog V = .ok (.tuple #[.int .i64 c, .bool (P s).isSome]) V) ∧ ∀ j : Nat, P s = some j → c = j := by
  have hkey : keyOf Tryz.prog 9 (.string s) = some (keyS s) := keyOf_string_mk Tryz.underlying9 hs
  have one : ∀ V : World, V.ownsMap Tryz.prog 9 (plainElem (H := Unit) Tryz.prog 3) M q D → ∃ c : Int, (Instr.lookup 74 (.map (some M)) (.string s) true).run Tryz.prog V = .ok (.tuple #[.int .i64 c, .bool (P s).isSome]) V ∧ D.atKey (keyS s) zeroI = .lit (.int .i64 c) := fun V hV => by
    obtain ⟨v, ps, hrun, hv⟩ := hV.look_ok str_law Tryz.underlying74 (z := .int .i64 0) rfl (plainElem_int Tryz.underlying3 (WalkArith.wf_i64 (by omega))) hkey
    obtain ⟨c, rfl, hc, hwc⟩ := plainElem_int_inv Tryz.underlying3 hv
    refine ⟨c, ?_, congrArg Prod.fst hc⟩
    rw [hrun]
    cases e : P s with
    | none => rw [hF.1 s e]; rfl
    | some j => rw [(hF.2 s j e).1]; rfl
  obtain ⟨c, _, hc⟩ := one W ho
  refine ⟨c, fun V hV => ?_, fun j hj => ?_⟩
  · obtain ⟨c', h1, h2⟩ := one V hV
    rw [hc] at h2
    injection h2 with e
    injection e with _ e
    rw [e]; exact h1
  · have := (hF.2 s j hj).2
    rw [hc] at this
    injection this with e
    injection e with _ e
end Go.Proofs.YtinnhaojmnmliaaGreat
namespace Go.Proofs.YtinnhaojmnmliaaGreat
open Go.RowKit

theorem infoS : (Tryz.prog.info? 9).map (fun i => (i.zero, i.size, i.bytes)) = some (some (.string ⟨#[]⟩), 1, 16) := by kernel_rfl
/-- Texts as cells. -/
def cellsS (l : List ByteArray) : List Value := l.map Value.string
def lstS (S : Nat → ByteArray) : Nat → List ByteArray
  | 0 => []
  | n + 1 => lstS S n ++ [S n]
theorem lstS_len (S : Nat → ByteArray) : ∀ n, (lstS S n).length = n
  | 0 => rfl
  | n + 1 => by simp [lstS, lstS_len S n]
theorem lstS_mem (S : Nat → ByteArray) (t : ByteArray) : ∀ n, t ∈ lstS S n ↔ ∃ j, j < n ∧ S j = t
  | 0 => by simp [lstS]
  | n + 1 => by
    simp only [lstS, List.mem_append, lstS_mem S t n, List.mem_singleton]
    constructor
    · rintro (⟨j, hj, e⟩ | e)
      · exact ⟨j, by omega, e⟩
      · exact ⟨n, by omega, e.symm⟩
    · rintro ⟨j, hj, e⟩
      by_cases h : j < n
      · exact .inl ⟨j, h, e⟩
      · obtain rfl : j = n := by omega
        exact .inr e.symm
/-- The texts of a list by index. -/
def atS (l : List ByteArray) (j : Nat) : ByteArray := l.getD j ⟨#[]⟩
theorem lstS_take (l : List ByteArray) : ∀ n, n ≤ l.length → lstS (atS l) n = l.take n
  | 0, _ => by simp [lstS]
  | n + 1, h => by
    have hn : n < l.length := by omega
    rw [lstS, lstS_take l n (by omega), List.take_add_one]
    simp [atS, hn]
theorem lstS_all (l : List ByteArray) : lstS (atS l) l.length = l := by rw [lstS_take l _ (Nat.le_refl _), List.take_length]
theorem own_txs {w : World} {base n : Nat} {v : Value} {l : List ByteArray} (h : w.ownsRow base 9 1 v n (cellsS l)) : ∃ a cap, v = .slice a n cap ∧ Txs w a n (atS l) ∧ l.length = n ∧ n ≤ cap := by
  obtain ⟨h1, h2⟩ := h
  have hl : l.length = n := by simpa [cellsS] using h1
  rcases h2 with ⟨rfl, rfl⟩ | ⟨g, cap, cur, rfl, _, hg, hle, hm, hsz, ht⟩
  · exact ⟨none, 0, rfl, fun h => by omega, hl, Nat.le_refl _⟩
  · refine ⟨some ⟨g, 0, none⟩, cap, rfl, fun _ => ⟨g, 0, rfl, fun j hj => ?_⟩, hl, hle⟩
    have hj1 : j < l.length := by omega
    have hj2 : cur.toList[j]? = some (.string l[j]) := by
      have : (cur.toList.take (n * 1))[j]? = some (.string l[j]) := by rw [ht]; simp [cellsS, hj1]
      rw [List.getElem?_take] at this
      split at this
      · exact this
      · cases this
    simp at hj2
    simp [World.cell?, hg, hj2, hj1, atS]
/-- One text more behind a row that the call owns. -/
theorem push_str {w : World} {base n : Nat} {v : Value} {l : List ByteArray} (h : w.ownsRow base 9 1 v n (cellsS l)) (hb : base ≤ w.heap.size) (hn : n ≤ 2097152) (s : ByteArray) :
    ∃ v' w', (Builtin.append_ #[42, 42] 42 #[v, .slice (some ⟨w.heap.size, 0, none⟩) 1 1]).run Tryz.prog (w.alloc (.cells #[.string s] 9)) = .ok v' w' ∧ w'.ownsRow base 9 1 v' (n + 1) (cellsS (l ++ [s])) ∧ Below base w w' := by
  obtain ⟨i0, hi, hz0, hz1, hz2⟩ := info_parts infoS
  obtain ⟨v', w', hrun, hown', hgrow, _⟩ := run_append_own (P := Tryz.prog) (w := w.alloc (.cells #[.string s] 9)) base 42 42 9 i0 (.string ⟨#[]⟩) 1 16 Tryz.underlying42 hi hz0 hz1 hz2 rfl (by decide) v _ _ (h.alloc _) ⟨w.heap.size, 0, none⟩ 1 1 [.string s] rfl
    (cell_one_new w (.string s) 9) (by simp [Value.oneCell']) (by unfold maxLen; omega) (by omega) (by simp; omega)
  refine ⟨v', w', hrun, ?_, ((Below.refl base w).alloc hb _).grown hgrow (by simp; omega) fun k e => (h.lt k e).1⟩
  have e : cellsS (l ++ [s]) = cellsS l ++ [.string s] := by simp [cellsS]
  rw [e]
  exact hown'
end Go.Proofs.YtinnhaojmnmliaaGreat
