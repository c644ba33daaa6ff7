/-
  Names sorted and each once: slices.Sort and slices.Compact of texts; plain facts.
  A map of names' first places; a name's new name; what is older and stays; of no function.
  A map from names to numbers, by what it tells; marks of loops that are done; of no function.
  Rows of texts as lists; of no function.
  expr.Vars.
  The keys of a map, sorted (slices.Sorted of maps.Keys), as a call owns them.
  A range over all nodes whose rounds may write: told by relations between worlds.
-/
import Derived.Test.YtkfpgkohkhhlhaaGreatDoorRBrief
import Derived.Test.YtkfpgkohkhhlhaaGreatDoorRValOrder
import Derived.Test.YtkfpgkohkhhlhaaGreatDoorRShelf
import Derived.Test.YtkfpgkohkhhlhaaGreatDoorRWlAs
import Derived.Test.YtkfpgkohkhhlhaaGreatDoorRPatBase
import Derived.Test.YtkfpgkohkhhlhaaGreatDoorRExprRightPartsD
import Derived.Test.YtkfpgkohkhhlhaaGreatDoorRIterLays
import Derived.Test.YtkfpgkohkhhlhaaGreatDoorRPatRightC
import Derived.Lib.OwnBridge
import Derived.Sort.OwnSorted
import Derived.Sort.Walk0
import Derived.Maps.OwnSet
import Derived.Maps.OwnIn
import Derived.Maps.Views
import Derived.Maps.AppendAt
namespace Go.Proofs.YtkfpgkohkhhlhaaGreatDoor
open Go.RowKit Go.Shelf Go.Sort

/-- A text's bytes. -/
def bs (s : ByteArray) : List UInt8 := s.data.toList
theorem bs_mk (s : ByteArray) : (⟨(bs s).toArray⟩ : ByteArray) = s := by simp [bs]
theorem mk_bs (l : List UInt8) : bs ⟨l.toArray⟩ = l := by simp [bs]
theorem bs_list (s : ByteArray) : s.toList = bs s := by rw [ByteArray.toList_eq]; rfl
theorem lt_bytes (x y : List UInt8) : decide (x < y) = Op.bytesLess x y := (bytesLess_eq x y).symm
theorem le_bytes (x y : List UInt8) : decide (x ≤ y) = !Op.bytesLess y x := by
  rw [← lt_bytes]
  by_cases h : y < x
  · have : ¬ x ≤ y := fun e => e h
    simp [h, this]
  · have : x ≤ y := h
    simp [h, this]
theorem less_le {l m r : List UInt8} (h1 : Op.bytesLess m l = false) (h2 : Op.bytesLess r m = false) : Op.bytesLess r l = false := by
  cases h : Op.bytesLess r l with
  | false => rfl
  | true =>
    by_cases e : l = m
    · rw [← e, h] at h2; cases h2
    · have h3 := less_total l m e
      rw [h1] at h3
      have h4 := less_trans _ _ _ h h3
      rw [h4] at h2; cases h2
theorem cmp_bytes (a b : ByteArray) : cmpS a b < 0 ↔ Op.bytesLess (bs a) (bs b) = true := by
  rcases cmpS_cases a b with ⟨h, h1, _⟩ | ⟨h, h1⟩ | ⟨h, h1, _⟩
  · rw [h, ← bs_list, ← bs_list]; simp [h1]
  · rw [bs_list, bs_list] at h1
    rw [h, h1, less_irrefl]; simp
  · rw [bs_list, bs_list] at h1
    rw [h]
    constructor
    · intro h; omega
    · intro h2
      have := less_trans _ _ _ h1 h2
      rw [less_irrefl] at this
      cases this
/-- The texts sorted, then each once. -/
def sortB (l : List (List UInt8)) : List (List UInt8) := l.mergeSort fun x y => decide (x ≤ y)
theorem sortB_le (l : List (List UInt8)) : (sortB l).Pairwise fun x y => Op.bytesLess y x = false := by
  have h := List.pairwise_mergeSort (le := fun (x y : List UInt8) => decide (x ≤ y)) (fun a b c h1 h2 => by
    rw [le_bytes] at h1 h2 ⊢
    simp at h1 h2 ⊢
    exact less_le h1 h2) (fun a b => by
    rw [le_bytes, le_bytes]
    by_cases e : a = b
    · subst e; simp [less_irrefl]
    · have := less_total a b e
      cases h : Op.bytesLess b a <;> simp_all) l
  exact h.imp fun h => by rw [le_bytes] at h; simpa using h
theorem sortB_mem (l : List (List UInt8)) (x : List UInt8) : x ∈ sortB l ↔ x ∈ l := List.mem_mergeSort
theorem sortB_len (l : List (List UInt8)) : (sortB l).length = l.length := List.length_mergeSort l
theorem compact_mem (d : Array (List UInt8)) (x : List UInt8) : ∀ m, x ∈ Lib.compactUpTo d m ↔ ∃ j, j < m ∧ d[j]! = x
  | 0 => by simp [Lib.compactUpTo]
  | m + 1 => by
    rw [Lib.compactUpTo_succ, List.mem_append, compact_mem d x m]
    constructor
    · rintro (⟨j, hj, e⟩ | h)
      · exact ⟨j, by omega, e⟩
      · split at h
        · simp at h; exact ⟨m, by omega, h.symm⟩
        · simp at h
    · rintro ⟨j, hj, e⟩
      by_cases hjm : j < m
      · exact .inl ⟨j, hjm, e⟩
      · obtain rfl : j = m := by omega
        by_cases hk : Lib.keeps d j = true
        · exact .inr (by rw [if_pos hk]; simp [e])
        · simp [Lib.keeps] at hk
          exact .inl ⟨j - 1, by omega, by rw [← hk.2]; exact e⟩
theorem compact_less (d : Array (List UInt8)) (n : Nat) (hs : ∀ i j, i < j → j < n → Op.bytesLess d[j]! d[i]! = false) : ∀ m, m ≤ n → (Lib.compactUpTo d m).Pairwise fun x y => Op.bytesLess x y = true
  | 0, _ => by simp [Lib.compactUpTo]
  | m + 1, hm => by
    rw [Lib.compactUpTo_succ]
    by_cases hk : Lib.keeps d m = true
    · rw [if_pos hk, List.pairwise_append]
      refine ⟨compact_less d n hs m (by omega), by simp, fun x hx y hy => ?_⟩
      simp at hy
      subst hy
      obtain ⟨j, hj, rfl⟩ := (compact_mem d x m).1 hx
      simp [Lib.keeps] at hk
      have h1 := hs (m - 1) m (by omega) (by omega)
      have h2 : Op.bytesLess d[m - 1]! d[m]! = true := by
        have := less_total d[m - 1]! d[m]! (fun e => (hk.resolve_left (by omega)) e.symm)
        rw [h1] at this
        exact this
      by_cases e : j = m - 1
      · rw [e]; exact h2
      · have h3 := hs j (m - 1) (by omega) (by omega)
        by_cases e2 : d[j]! = d[m - 1]!
        · rw [e2]; exact h2
        · have h4 := less_total d[j]! d[m - 1]! e2
          rw [h3] at h4
          exact less_trans _ _ _ h4 h2
    · rw [if_neg hk, List.append_nil]
      exact compact_less d n hs m (by omega)
/-- What Vars hands back, of the names that it has met. -/
def onceB (l : List (List UInt8)) : List (List UInt8) := Lib.compact (sortB l)
theorem onceB_mem (l : List (List UInt8)) (x : List UInt8) : x ∈ onceB l ↔ x ∈ l := by
  unfold onceB Lib.compact
  rw [compact_mem, ← sortB_mem l]
  constructor
  · rintro ⟨j, hj, rfl⟩
    simp [hj]
  · intro h
    obtain ⟨j, hj, e⟩ := List.getElem_of_mem h
    exact ⟨j, hj, by simp [hj, e]⟩
theorem onceB_less (l : List (List UInt8)) : (onceB l).Pairwise fun x y => Op.bytesLess x y = true := by
  unfold onceB Lib.compact
  refine compact_less _ _ (fun i j hij hj => ?_) _ (Nat.le_refl _)
  have h := List.pairwise_iff_getElem.1 (sortB_le l) i j (by omega) hj hij
  simpa [show i < (sortB l).length by omega, hj] using h
theorem onceB_len (l : List (List UInt8)) : (onceB l).length ≤ l.length := by
  unfold onceB Lib.compact
  rw [← sortB_len l]
  unfold Lib.compactUpTo
  rw [List.length_map]
  exact Nat.le_trans (List.length_filter_le _ _) (by simp)
theorem sorted_of : ∀ l : List (List UInt8), (l.Pairwise fun x y => Op.bytesLess x y = true) → Sorted (l.map fun x => (⟨x.toArray⟩ : ByteArray))
  | [], _ => trivial
  | a :: l, h => by
    rw [List.pairwise_cons] at h
    refine ⟨fun b hb => ?_, sorted_of l h.2⟩
    obtain ⟨y, hy, rfl⟩ := List.mem_map.1 hb
    rw [cmp_bytes, mk_bs, mk_bs]
    exact h.1 y hy
/-- Sorted, each once: just the document's. -/
theorem once_vars (x : X) (l : List ByteArray) (h : ∀ t, t ∈ l ↔ hasVar t x) : (onceB (l.map bs)).map (fun x => (⟨x.toArray⟩ : ByteArray)) = varsX x := by
  refine vars_one _ x (sorted_of _ (onceB_less _)) fun t => ?_
  rw [← h t, List.mem_map]
  constructor
  · rintro ⟨y, hy, rfl⟩
    rw [onceB_mem, List.mem_map] at hy
    obtain ⟨s, hs, rfl⟩ := hy
    rw [bs_mk]
    exact hs
  · intro ht
    exact ⟨bs t, by rw [onceB_mem]; exact List.mem_map_of_mem ht, bs_mk t⟩
end Go.Proofs.YtkfpgkohkhhlhaaGreatDoor
namespace Go.Proofs.YtkfpgkohkhhlhaaGreatDoor
open Go.RowKit Go.Shelf Go.Maps Go.WideMaps

abbrev zeroI : DataW Unit := .lit (.int .i64 0)
theorem ownsMap_ag {B : Nat} {W A : World} (h : Ag B W A) {b n : Nat} {D : DataW Unit} (hb : b < B) (ho : W.ownsMap Tryz.prog 9 (plainElem (H := Unit) Tryz.prog 3) b n D) : A.ownsMap Tryz.prog 9 (plainElem (H := Unit) Tryz.prog 3) b n D := by
  obtain ⟨es, clock, h1, h2⟩ := ho
  exact ⟨es, clock, (h.low b hb).trans h1, h2⟩
theorem ownsMap_below {B : Nat} {W A : World} (h : Below B W A) {b n : Nat} {D : DataW Unit} (hb : b < B) (ho : W.ownsMap Tryz.prog 9 (plainElem (H := Unit) Tryz.prog 3) b n D) : A.ownsMap Tryz.prog 9 (plainElem (H := Unit) Tryz.prog 3) b n D := by
  obtain ⟨es, clock, h1, h2⟩ := ho
  exact ⟨es, clock, (h.block b hb).trans h1, h2⟩
/-- What is older than N1 stays, but for one block. -/
structure Lb (N1 B0 : Nat) (W W' : World) : Prop where
  os : W'.os = W.os
  tape : W'.tape = W.tape
  output : W'.output = W.output
  size : W.heap.size ≤ W'.heap.size
  block : ∀ k, k < N1 → k ≠ B0 → W'.heap[k]? = W.heap[k]?
theorem Lb.refl (N1 B0 : Nat) (W : World) : Lb N1 B0 W W := ⟨rfl, rfl, rfl, Nat.le_refl _, fun _ _ _ => rfl⟩
theorem Lb.trans {N1 B0 : Nat} {A B C : World} (h : Lb N1 B0 A B) (g : Lb N1 B0 B C) : Lb N1 B0 A C :=
  ⟨g.os.trans h.os, g.tape.trans h.tape, g.output.trans h.output, Nat.le_trans h.size g.size, fun k h1 h2 => (g.block k h1 h2).trans (h.block k h1 h2)⟩
theorem Lb.ag {N1 B0 B : Nat} {W A A' W' : World} (h : Ag B W A) (h' : Ag B A' W') (hN : N1 ≤ B) (g : Lb N1 B0 A A') : Lb N1 B0 W W' :=
  ⟨h'.os.trans (g.os.trans h.os), h'.tape.trans (g.tape.trans h.tape), h'.output.trans (g.output.trans h.output), by rw [h'.size, ← h.size]; exact g.size, fun k h1 h2 => (h'.low k (by omega)).trans ((g.block k h1 h2).trans (h.low k (by omega)))⟩
theorem Lb.set {N1 B0 b o : Nat} {W : World} {v : Value} (hb : b = B0 ∨ N1 ≤ b) : Lb N1 B0 W (W.setCell ⟨b, o, none⟩ v) :=
  ⟨rfl, rfl, rfl, Nat.le_of_eq (World.size_setCell ..).symm, fun k h1 h2 => Below.heap_setCell W ⟨b, o, none⟩ v k (fun e => by have e' : k = b := e; omega)⟩
theorem Lb.below {N1 B0 n : Nat} {W W' : World} (h : Lb N1 B0 W W') (hn : n ≤ N1) (hB : n ≤ B0) : Below n W W' := ⟨h.os, h.tape, h.output, h.size, fun k hk => h.block k (by omega) (by omega)⟩
theorem Lb.of_below {N1 B0 : Nat} {W W' : World} (h : Below N1 W W') : Lb N1 B0 W W' := ⟨h.os, h.tape, h.output, h.size, fun k hk _ => h.block k hk⟩

theorem Lb.boxed {N1 B0 : Nat} {W W' : World} (h : Lb N1 B0 W W') {b : Nat} {t : TypeId} {v : Value} (hb : Boxed W b t v) (h1 : b < N1) (h2 : b ≠ B0) : Boxed W' b t v := (h.block b h1 h2).trans hb
theorem Lb.map {N1 B0 : Nat} {W W' : World} (h : Lb N1 B0 W W') {b n : Nat} {D : DataW Unit} (h1 : b < N1) (h2 : b ≠ B0) (ho : W.ownsMap Tryz.prog 9 (plainElem (H := Unit) Tryz.prog 3) b n D) : W'.ownsMap Tryz.prog 9 (plainElem (H := Unit) Tryz.prog 3) b n D := by
  obtain ⟨es, clock, q1, q2⟩ := ho
  exact ⟨es, clock, (h.block b h1 h2).trans q1, q2⟩
end Go.Proofs.YtkfpgkohkhhlhaaGreatDoor
namespace Go.Proofs.YtkfpgkohkhhlhaaGreatDoor
open Go.RowKit Go.Shelf Go.Maps Go.WideMaps

/-- What the map tells of each name. -/
def MapsTo (P : ByteArray → Option Nat) (D : DataW Unit) : Prop :=
  (∀ s, P s = none → Maps.has D (keyS s) = false) ∧ ∀ s j, P s = some j → Maps.has D (keyS s) = true ∧ D.atKey (keyS s) zeroI = .lit (.int .i64 j)
theorem mapsTo_none : MapsTo (fun _ => none) (.map []) := ⟨fun _ _ => rfl, fun _ _ h => by cases h⟩
theorem MapsTo.put {P : ByteArray → Option Nat} {D : DataW Unit} (h : MapsTo P D) (hm : IsMap D) (s : ByteArray) (k : Nat) : MapsTo (fun t => if t = s then some k else P t) (D.put (keyS s) (.lit (.int .i64 k))) := by
  refine ⟨fun t ht => ?_, fun t j ht => ?_⟩
  · by_cases e : t = s
    · simp only [if_pos e] at ht; cases ht
    · simp only [if_neg e] at ht
      rw [has_put_other (keyS_ne e)]
      exact h.1 t ht
  · by_cases e : t = s
    · simp only [if_pos e] at ht
      cases ht
      subst e
      exact ⟨has_put_same hm (by simp [WideAt.IsKeyLit]) _, atKey_put_same hm (by simp [WideAt.IsKeyLit]) _ _⟩
    · simp only [if_neg e] at ht
      rw [has_put_other (keyS_ne e), atKey_put_other (keyS_ne e)]
      exact h.2 t j ht
theorem MapsTo.congr {P Q : ByteArray → Option Nat} {D : DataW Unit} (h : MapsTo P D) (e : ∀ s, Q s = P s) : MapsTo Q D := ⟨fun s hs => h.1 s ((e s).symm.trans hs), fun s j hs => h.2 s j ((e s).symm.trans hs)⟩
set_option maxRecDepth 100000 in
/-- A look-up with both answers. -/
theorem look_to {W : World} {M q : Nat} {D : DataW Unit} {P : ByteArray → Option Nat} {s : ByteArray} (ho : W.ownsMap Tryz.prog 9 (plainElem (H := Unit) Tryz.prog 3) M q D) (hF : MapsTo P D) (hs : s.size ≤ maxLen) :
    ∃ c : Int, (Instr.lookup 80 (.map (some M)) (.string s) true).run Tryz.prog W = .ok (.tuple #[.int .i64 c, .bool (P s).isSome]) W ∧ ∀ j : Nat, P s = some j → c = j := by
  have hkey : keyOf Tryz.prog 9 (.string s) = some (keyS s) := keyOf_string_mk Tryz.underlying9 hs
  obtain ⟨v, ps, hrun, hv⟩ := ho.look_ok str_law Tryz.underlying80 (z := .int .i64 0) rfl (plainElem_int Tryz.underlying3 (WalkArith.wf_i64 (by omega))) hkey
  obtain ⟨c, rfl, hc, hwc⟩ := plainElem_int_inv Tryz.underlying3 hv
  have hc' : D.atKey (keyS s) zeroI = .lit (.int .i64 c) := congrArg Prod.fst hc
  refine ⟨c, ?_, fun j hj => ?_⟩
  · rw [hrun]
    cases e : P s with
    | none => rw [hF.1 s e]; rfl
    | some j => rw [(hF.2 s j e).1]; rfl
  · have := (hF.2 s j hj).2
    rw [hc'] at this
    injection this with e
    injection e with _ e
set_option maxRecDepth 100000 in
/-- A look-up with one. -/
theorem look1_to {W : World} {M q : Nat} {D : DataW Unit} {P : ByteArray → Option Nat} {s : ByteArray} {j : Nat} (ho : W.ownsMap Tryz.prog 9 (plainElem (H := Unit) Tryz.prog 3) M q D) (hF : MapsTo P D) (hs : s.size ≤ maxLen) (hj : P s = some j) :
    (Instr.lookup 80 (.map (some M)) (.string s) false).run Tryz.prog W = .ok (.int .i64 j) W := by
  have hkey : keyOf Tryz.prog 9 (.string s) = some (keyS s) := keyOf_string_mk Tryz.underlying9 hs
  obtain ⟨c, hrun, hc, hwc⟩ := ho.lookup_int (q := .i64) str_law Tryz.underlying80 Tryz.underlying3 rfl hkey
  have h1 := (hF.2 s j hj).2
  have h2 : D.atKey (keyS s) zeroI = .lit (.int .i64 c) := hc
  rw [h2] at h1
  injection h1 with e
  injection e with _ e
  rw [hrun, e]
/-- An append at a step of a region that draws its order, inside a fence, by its run. -/
theorem wpOpIn_append_run {F : Fence} {n : Nat} {P : Program} {w w' : World} {o : Oper} {a : Act} {K : Act → World → Prop} {Q : Exit → Act → World → Prop} (s x : Operand) (t : TypeId)
    (hop : o.op = Op.call { callee := Callee.builtin Builtin.append, args := #[s, x], argTypes := #[t, t] }) (v y v' : Value) (hs : a.eval s = v) (hx : a.eval x = y)
    (hrun : (Builtin.append_ #[t, t] o.type #[v, y]).run P w = .ok v' w') (hK : K (a.put o.dst v') w') : Oper.wpIn F n P o a w K Q := by
  unfold Oper.wpIn
  refine ⟨?_, ?_⟩
  · simp [Oper.about, hop, resolve, Target.leads, Sem.run_pure]
  · rw [Oper.semAt_plain F _ _ (by rw [hop]; intro c hc'; cases hc')]
    simp [execOp, hop, resolve, invoke, builtin, hs, hx, hrun, Result.andThen]
    exact hK
theorem wpListIn_append_run {F : Fence} {n : Nat} {P : Program} {w w' : World} {ops : Array Oper} {rest : List Oper} {o : Oper} {a : Act} {Q : Exit → Act → World → Prop} (hg : o.guard = none) (s x : Operand) (t : TypeId)
    (hop : o.op = Op.call { callee := Callee.builtin Builtin.append, args := #[s, x], argTypes := #[t, t] }) (v y v' : Value) (hs : a.eval s = v) (hx : a.eval x = y)
    (hrun : (Builtin.append_ #[t, t] o.type #[v, y]).run P w = .ok v' w') (hK : wpListIn F n P ops Q rest (a.put o.dst v') w') : wpListIn F n P ops Q (o :: rest) a w :=
  wpListIn_plain hg fun _ hK' => wpOpIn_append_run s x t hop v y v' hs hx hrun (hK' _ _ hK)
set_option maxRecDepth 100000 in
/-- A look-up with both answers, in whatever world holds the map. -/
theorem look_all {W : World} {M q : Nat} {D : DataW Unit} {P : ByteArray → Option Nat} {s : ByteArray} (ho : W.ownsMap Tryz.prog 9 (plainElem (H := Unit) Tryz.prog 3) M q D) (hF : MapsTo P D) (hs : s.size ≤ maxLen) :
    ∃ c : Int, (∀ V : World, V.ownsMap Tryz.prog 9 (plainElem (H := Unit) Tryz.prog 3) M q D → (Instr.lookup 80 (.map (some M)) (.string s) true).run Tryz.prog V = .ok (.tuple #[.int .i64 c, .bool (P s).isSome]) V) ∧ ∀ j : Nat, P s = some j → c = j := by
  have hkey : keyOf Tryz.prog 9 (.string s) = some (keyS s) := keyOf_string_mk Tryz.underlying9 hs
  have one : ∀ V : World, V.ownsMap Tryz.prog 9 (plainElem (H := Unit) Tryz.prog 3) M q D → ∃ c : Int, (Instr.lookup 80 (.map (some M)) (.string s) true).run Tryz.prog V = .ok (.tuple #[.int .i64 c, .bool (P s).isSome]) V ∧ D.atKey (keyS s) zeroI = .lit (.int .i64 c) := fun V hV => by
    obtain ⟨v, ps, hrun, hv⟩ := hV.look_ok str_law Tryz.underlying80 (z := .int .i64 0) rfl (plainElem_int Tryz.underlying3 (WalkArith.wf_i64 (by omega))) hkey
    obtain ⟨c, rfl, hc, hwc⟩ := plainElem_int_inv Tryz.underlying3 hv
    refine ⟨c, ?_, congrArg Prod.fst hc⟩
    rw [hrun]
    cases e : P s with
    | none => rw [hF.1 s e]; rfl
    | some j => rw [(hF.2 s j e).1]; rfl
  obtain ⟨c, _, hc⟩ := one W ho
  refine ⟨c, fun V hV => ?_, fun j hj => ?_⟩
  · obtain ⟨c', h1, h2⟩ := one V hV
    rw [hc] at h2
    injection h2 with e
    injection e with _ e
    rw [e]; exact h1
  · have := (hF.2 s j hj).2
    rw [hc] at this
    injection this with e
    injection e with _ e
end Go.Proofs.YtkfpgkohkhhlhaaGreatDoor
namespace Go.Proofs.YtkfpgkohkhhlhaaGreatDoor
open Go.RowKit

theorem infoS : (Tryz.prog.info? 9).map (fun i => (i.zero, i.size, i.bytes)) = some (some (.string ⟨#[]⟩), 1, 16) := by kernel_rfl
/-- Texts as cells. -/
def cellsS (l : List ByteArray) : List Value := l.map Value.string
def lstS (S : Nat → ByteArray) : Nat → List ByteArray
  | 0 => []
  | n + 1 => lstS S n ++ [S n]
theorem lstS_len (S : Nat → ByteArray) : ∀ n, (lstS S n).length = n
  | 0 => rfl
  | n + 1 => by simp [lstS, lstS_len S n]
theorem lstS_mem (S : Nat → ByteArray) (t : ByteArray) : ∀ n, t ∈ lstS S n ↔ ∃ j, j < n ∧ S j = t
  | 0 => by simp [lstS]
  | n + 1 => by
    simp only [lstS, List.mem_append, lstS_mem S t n, List.mem_singleton]
    constructor
    · rintro (⟨j, hj, e⟩ | e)
      · exact ⟨j, by omega, e⟩
      · exact ⟨n, by omega, e.symm⟩
    · rintro ⟨j, hj, e⟩
      by_cases h : j < n
      · exact .inl ⟨j, h, e⟩
      · obtain rfl : j = n := by omega
        exact .inr e.symm
/-- The texts of a list by index. -/
def atS (l : List ByteArray) (j : Nat) : ByteArray := l.getD j ⟨#[]⟩
theorem lstS_take (l : List ByteArray) : ∀ n, n ≤ l.length → lstS (atS l) n = l.take n
  | 0, _ => by simp [lstS]
  | n + 1, h => by
    have hn : n < l.length := by omega
    rw [lstS, lstS_take l n (by omega), List.take_add_one]
    simp [atS, hn]
theorem lstS_all (l : List ByteArray) : lstS (atS l) l.length = l := by rw [lstS_take l _ (Nat.le_refl _), List.take_length]
theorem own_txs {w : World} {base n : Nat} {v : Value} {l : List ByteArray} (h : w.ownsRow base 9 1 v n (cellsS l)) : ∃ a cap, v = .slice a n cap ∧ Txs w a n (atS l) ∧ l.length = n ∧ n ≤ cap := by
  obtain ⟨h1, h2⟩ := h
  have hl : l.length = n := by simpa [cellsS] using h1
  rcases h2 with ⟨rfl, rfl⟩ | ⟨g, cap, cur, rfl, _, hg, hle, hm, hsz, ht⟩
  · exact ⟨none, 0, rfl, fun h => by omega, hl, Nat.le_refl _⟩
  · refine ⟨some ⟨g, 0, none⟩, cap, rfl, fun _ => ⟨g, 0, rfl, fun j hj => ?_⟩, hl, hle⟩
    have hj1 : j < l.length := by omega
    have hj2 : cur.toList[j]? = some (.string l[j]) := by
      have : (cur.toList.take (n * 1))[j]? = some (.string l[j]) := by rw [ht]; simp [cellsS, hj1]
      rw [List.getElem?_take] at this
      split at this
      · exact this
      · cases this
    simp at hj2
    simp [World.cell?, hg, hj2, hj1, atS]
end Go.Proofs.YtkfpgkohkhhlhaaGreatDoor
namespace Go.Proofs.YtkfpgkohkhhlhaaGreatDoor
open Go.RowKit Go.Shelf Go.Sort
attribute [local go_sem] Oper.semAt_some

/-- The names of the fields among some nodes. -/
def nmL (l : List (Int × X)) : List ByteArray := (l.filter fun v => decide (v.2.k = 2)).map fun v => v.2.s
theorem nmL_hit (l : List (Int × X)) (d : Int) (y : X) (h : y.k = 2) : nmL (l ++ [(d, y)]) = nmL l ++ [y.s] := by simp [nmL, h]
theorem nmL_miss (l : List (Int × X)) (d : Int) (y : X) (h : ¬ y.k = 2) : nmL (l ++ [(d, y)]) = nmL l := by simp [nmL, h]
theorem nmL_len (l : List (Int × X)) : (nmL l).length ≤ l.length := by
  unfold nmL
  rw [List.length_map]
  exact List.length_filter_le _ _
theorem mem_cat {α : Type} (f : Nat → List α) (v : α) : ∀ n, v ∈ catN f n ↔ ∃ i, i < n ∧ v ∈ f i
  | 0 => by simp [catN]
  | n + 1 => by
    simp only [catN, List.mem_append, mem_cat f v n]
    constructor
    · rintro (⟨i, hi, h⟩ | h)
      · exact ⟨i, by omega, h⟩
      · exact ⟨n, by omega, h⟩
    · rintro ⟨i, hi, h⟩
      by_cases e : i = n
      · exact .inr (e ▸ h)
      · exact .inl ⟨i, by omega, h⟩
theorem mem_nm (t : ByteArray) (l : List (Int × X)) : t ∈ nmL l ↔ ∃ v, v ∈ l ∧ v.2.k = 2 ∧ v.2.s = t := by
  simp only [nmL, List.mem_map, List.mem_filter, decide_eq_true_eq]
  constructor
  · rintro ⟨v, ⟨h1, h2⟩, h3⟩
    exact ⟨v, h1, h2, h3⟩
  · rintro ⟨v, h1, h2, h3⟩
    exact ⟨v, ⟨h1, h2⟩, h3⟩
theorem mem_vis (t : ByteArray) : ∀ (x : X) (d : Int), t ∈ nmL (visX d x) ↔ hasVar t x := by
  refine X.ind fun x ih d => ?_
  rw [mem_nm, hasVar_eq, visX_eq]
  constructor
  · rintro ⟨v, hv, h1, h2⟩
    rcases List.mem_cons.1 hv with rfl | hv
    · exact .inl ⟨h1, h2⟩
    · obtain ⟨i, hi, h⟩ := (mem_cat _ _ _).1 hv
      exact .inr ⟨i, hi, (ih i hi _).1 ((mem_nm _ _).2 ⟨v, h, h1, h2⟩)⟩
  · rintro (⟨h1, h2⟩ | ⟨i, hi, h⟩)
    · exact ⟨(d, x), List.mem_cons_self, h1, h2⟩
    · obtain ⟨v, h0, h1, h2⟩ := (mem_nm _ _).1 ((ih i hi (IntKind.i64.wrap (d + 1))).2 h)
      exact ⟨v, List.mem_cons_of_mem _ ((mem_cat _ _ _).2 ⟨i, hi, h0⟩), h1, h2⟩
theorem Ag.owns {B : Nat} {W A : World} (h : Ag B W A) {b e k m : Nat} {v : Value} {xs : List Value} (ho : W.ownsRow b e k v m xs) : A.ownsRow b e k v m xs := by
  refine ⟨ho.1, ?_⟩
  rcases ho.2 with h2 | ⟨g, cap, cur, e1, hg, h3, h4⟩
  · exact .inl h2
  · exact .inr ⟨g, cap, cur, e1, hg, (h.cells _ _ rfl).2 h3, h4⟩
theorem own_low {w : World} {B B' e k n : Nat} {v : Value} {xs : List Value} (h : w.ownsRow B e k v n xs) (hB : B' ≤ B) : w.ownsRow B' e k v n xs := by
  refine ⟨h.1, ?_⟩
  rcases h.2 with h2 | ⟨g, cap, cur, e1, hg, h3⟩
  · exact .inl h2
  · exact .inr ⟨g, cap, cur, e1, Nat.le_trans hB hg, h3⟩
/-- slices.Compact of sorted names. -/
theorem compact_once {W2 : World} {base g n cap : Nat} {x : X} {zs : List (List UInt8)} (ho : W2.ownsRow base 9 1 (.slice (some ⟨g, 0, none⟩) n cap) n ((sortB zs).map encStr)) (hone : (onceB zs).map (fun x => (⟨x.toArray⟩ : ByteArray)) = varsX x) (hl : (sortB zs).length = n) (hnc : n ≤ cap) (hcm : n ≤ 9223372036854775807) :
    Calls Tryz.prog 97 #[.slice (some ⟨g, 0, none⟩) n cap] W2 fun e w' => e = .returned (.slice (some ⟨g, 0, none⟩) (varsX x).length cap) ∧ w'.ownsRow base 9 1 (.slice (some ⟨g, 0, none⟩) (varsX x).length cap) (varsX x).length (cellsS (varsX x)) ∧ W2.grownBy w' (some g) := by
  obtain ⟨g2, cap2, e, hb, hgl, _, _, _, hH⟩ := Lib.holds_of_ownsRow (enc := encStr) (zs := sortB zs) ho (by simp)
  injection e with e1 _ e3
  injection e1 with e1
  injection e1 with e1
  subst e1 e3
  have h := Any.slices_Compact_string Tryz.lays194 g 0 cap (sortB zs) W2 hH (by omega) (by omega)
  rw [hl] at h
  have hvl : (varsX x).length = (onceB zs).length := by rw [← hone, List.length_map]
  have hcl : (onceB zs).length ≤ n := by have := onceB_len zs; rw [sortB_len] at hl; omega
  refine h.mono ?_
  rintro e w' ⟨rfl, q, rfl⟩
  refine ⟨by rw [hvl]; rfl, ?_, ?_⟩
  · have := Lib.ownsRow_putRow (q := q) (k := (onceB zs).length) (ys := onceB zs ++ List.replicate (n - (onceB zs).length) []) ho (by simp; omega) hcl
    rw [List.take_left] at this
    rw [hvl, show cellsS (varsX x) = (onceB zs).map encStr by rw [← hone, cellsS, List.map_map]; rfl]
    exact this
  · have := grownBy_sorted (w := W2) (g := g) (n := q) (os := #[]) (onceB zs ++ List.replicate (n - (onceB zs).length) []).toArray
    rw [grow_empty] at this
    exact this
set_option maxRecDepth 100000 in
set_option maxHeartbeats 4000000 in
theorem vars_in (n : Nat) (x : X) (w : World) (hX : IsX w x) (hsm : x.size ≤ 1048576) :
    CallsIn Fence.wide n Tryz.prog 43 #[x.val] w fun e w' => ∃ v, e = .returned v ∧ w'.ownsRow w.heap.size 9 1 v (varsX x).length (cellsS (varsX x)) ∧ Below w.heap.size w w' := by
  have hdd : ∀ k : Nat, (Fence.wide.depth.isSome = true → 1 ≤ k) := fun k h => by cases h
  obtain ⟨i0, hi, hz0, hz1, hz2⟩ := info_parts infoS
  refine callsIn_of_wp_marks Tryz.func43 rfl trivial ?_ rfl
  simp only [Tryz.ntmps43, List.size_toArray, List.length_cons, List.length_nil, Nat.reduceAdd, Nat.reduceSub, Array.replicate_succ, Array.replicate_zero, List.push_toArray, List.append_toArray, List.nil_append, List.cons_append]
  gi_wp2_with (refine ⟨trivial, hdd _, ?_⟩; gi_at_call 96; refine (nodes_in _ _ _).mono ?_; rintro e w' ⟨rfl, rfl⟩)
  obtain ⟨A, hA⟩ : ∃ A, (((w.alloc (.cells x.cells 54)).alloc (.cells #[.slice none 0 0] 37)).alloc (.cells #[.pointer (some ⟨w.heap.size, 0, none⟩)] 157)) = A := ⟨_, rfl⟩
  have hsz : A.heap.size = w.heap.size + 3 := by rw [← hA]; simp
  have hB : Below w.heap.size w A := by rw [← hA]; exact (((Below.refl _ w).alloc (Nat.le_refl _) _).alloc (by simp) _).alloc (by simp; omega) _
  have hnode : Node A w.heap.size 0 x := by
    rw [← hA]
    exact ((node_new w 54 x).later ((Below.refl _ _).alloc (Nat.le_refl _) _)).later ((Below.refl _ _).alloc (Nat.le_refl _) _)
  have hbn : Boxed A (w.heap.size + 1) 37 (.slice none 0 0) := by
    have := (Boxed.new (w.alloc (.cells x.cells 54)) 37 (.slice none 0 0)).alloc (.cells #[.pointer (some ⟨w.heap.size, 0, none⟩)] 157)
    rw [World.size_alloc, hA] at this
    exact this
  have hbp : Boxed A (w.heap.size + 1 + 1) 157 (.pointer (some ⟨w.heap.size, 0, none⟩)) := by
    have := Boxed.new ((w.alloc (.cells x.cells 54)).alloc (.cells #[.slice none 0 0] 37)) 157 (.pointer (some ⟨w.heap.size, 0, none⟩))
    rw [World.size_alloc, World.size_alloc, hA] at this
    exact this
  rw [hA]
  refine nodes_fold (w.heap.size + 1 + 1) w.heap.size 0 x (fun k => k < w.heap.size + 1)
    (fun pre W => (∃ v, Boxed W (w.heap.size + 1) 37 v ∧ W.ownsRow (w.heap.size + 7) 9 1 v (nmL pre).length (cellsS (nmL pre))) ∧ Below w.heap.size w W) (fun _ _ => False)
    rfl rfl hbp.cell (fun k hk => by omega) (by omega) hnode (XIn.xt (n := w.heap.size) (fun k hk => by omega) (hX.inn.below hB)) ?_ ?_ ?_ ?_
    (fun d b o => { tmps := #[x.val, .pointer (some ⟨w.heap.size, 0, none⟩), .slice none 0 0, .pointer (some ⟨w.heap.size + 1, 0, none⟩), undef, .pointer (some ⟨b, o, none⟩), .func (.func 136) #[] #[.pointer (some ⟨w.heap.size + 1 + 1, 0, none⟩)], .int .i64 d, .pointer (some ⟨b, o, none⟩), undef, undef, undef, undef, undef, undef, undef, undef, undef, undef, undef, undef, undef, undef, undef, undef], defers := [] }) ?_ ?_ ?_ ?_
  · rintro pre W B hag ⟨⟨v, h1, h2⟩, h3⟩
    exact ⟨⟨v, hag.boxed h1, hag.owns h2⟩, hag.below (by omega) h3⟩
  · exact fun pre W h => ⟨h.1, h.2.drew⟩
  · exact fun W h => ⟨⟨_, Boxed.kept_of hbn h (by omega), World.ownsRow_nil _ _ _ _⟩, hB.trans (h.mono (by omega))⟩
  · exact fun _ _ _ _ h => h
  · intro l d b o W K hK
    gi_wp2
    first | exact hK | simpa using hK
  · rintro l d b o y pre W hb hn hx ⟨⟨v, h1, h2⟩, h3⟩ hs hlt
    have c1 := h1.cell
    have f1 := h1.frozen
    obtain ⟨d0, d1, d2, d3, d4, d5, d6⟩ := hn
    have hpl := nmL_len pre
    rw [length_vis] at hlt
    by_cases hk : y.k = 2
    · have hk' : (y.k == 2) = true := by simpa using hk
      have hW2 : W.heap.size ≤ (W.alloc (.cells #[.string y.s] 9)).drew.heap.size := by show W.heap.size ≤ (W.alloc _).heap.size; simp
      have hr0 : (W.alloc (.cells #[.string y.s] 9)).drew.ownsRow (w.heap.size + 7) 9 1 v (nmL pre).length (cellsS (nmL pre)) := (h2.alloc _).drew
      obtain ⟨v', w1, hrun, hown', hgrow, hnil', hblk⟩ := run_append_own_at (P := Tryz.prog) (w := (W.alloc (.cells #[.string y.s] 9)).drew) (w.heap.size + 7) 37 37 9 i0 (.string ⟨#[]⟩) 1 16 Tryz.underlying37 hi hz0 hz1 hz2 rfl (by decide) v _ _ hr0 ⟨W.heap.size, 0, none⟩ 1 1 [.string y.s] rfl
        (cell_one_new W (.string y.s) 9) (by simp [Value.oneCell']) (by unfold maxLen; omega) (by omega) (by omega)
      obtain ⟨g', cap', rfl⟩ := ownsRow_succ hown'
      have hg' : (W.alloc (.cells #[.string y.s] 9)).grownBy w1 v.ownBlock := ⟨hgrow.os, hgrow.tape, hgrow.output, hgrow.size, hgrow.block⟩
      have hv1 : Boxed w1 (w.heap.size + 1) 37 v := (h1.alloc _).kept hg' (h1.not_row (by decide) h2)
      have c1' := (h1.alloc (.cells #[.string y.s] 9)).cell
      have c2 := hv1.cell
      have f2 := hv1.frozen
      have fin : KeepsFrom A.heap.size W (w1.setCell ⟨w.heap.size + 1, 0, none⟩ (.slice (some ⟨g', 0, none⟩) ((nmL pre).length + 1) cap')) ∧ Kp (fun k => k < w.heap.size + 1 ∨ k = A.heap.size + 2 ∨ k = A.heap.size + 3) W (w1.setCell ⟨w.heap.size + 1, 0, none⟩ (.slice (some ⟨g', 0, none⟩) ((nmL pre).length + 1) cap')) ∧
          ((∃ v, Boxed (w1.setCell ⟨w.heap.size + 1, 0, none⟩ (.slice (some ⟨g', 0, none⟩) ((nmL pre).length + 1) cap')) (w.heap.size + 1) 37 v ∧ (w1.setCell ⟨w.heap.size + 1, 0, none⟩ (.slice (some ⟨g', 0, none⟩) ((nmL pre).length + 1) cap')).ownsRow (w.heap.size + 7) 9 1 v (nmL (pre ++ [(d, y)])).length (cellsS (nmL (pre ++ [(d, y)])))) ∧
            Below w.heap.size w (w1.setCell ⟨w.heap.size + 1, 0, none⟩ (.slice (some ⟨g', 0, none⟩) ((nmL pre).length + 1) cap'))) := by
        refine ⟨(((KeepsOthers.alloc W _).trans (KeepsOthers.of_grownBy hg' fun j o ej hj => ?_)).trans (KeepsOthers.setCell _ _ _)).from _, ?_, ⟨_, hv1.set _, ?_⟩, ?_⟩
        · rcases (h2.alloc _).2 with ⟨rfl, _⟩ | ⟨g, cap, cur, rfl, _, hgb, _⟩
          · simp [Value.ownBlock] at ej
          · obtain rfl : g = j := by simpa [Value.ownBlock] using ej
            rw [hgb] at hj; cases hj; rfl
        · intro k o hk _ e
          have hkl : k < w.heap.size + 7 ∧ k ≠ w.heap.size + 1 := by omega
          refine (Below.heap_setCell w1 ⟨w.heap.size + 1, 0, none⟩ _ k hkl.2).trans ((hg'.block k ?_ (row_ne_low h2 hkl.1)).trans ((Below.heap_alloc W _ k (Array.getElem?_eq_some_iff.1 e).1).trans e))
          have := (Array.getElem?_eq_some_iff.1 e).1
          simp
          omega
        · rw [nmL_hit _ _ _ hk, List.length_append, cellsS, List.map_append]
          exact hown'.kept (grownBy_setCell' w1 (w.heap.size + 1) _) (.inr (hv1.not_row (by decide) hown').symm)
        · refine ((h3.alloc h3.size _).grown hg' (by have := h3.size; simp; omega) fun j ej => ?_).setCell (p := ⟨w.heap.size + 1, 0, none⟩) (by simp) _
          have := (h2.lt j ej).1
          omega
      gi_wp2
      refine wpIn_region_any (by kernel_rfl) ?_
      try (change wpAnyIn _ _ _ _ _ _ _ _ _ (World.drew _))
      refine wpAnyIn_ready (rs := [0, 1]) (by kernel_rfl) (by simp) ?_
      refine AllReadyIn.cons rfl (fun K hK => ?_) ?_
      · go_simp
        refine hK _ _ ?_
        clear hK K
        refine wpAnyIn_ready (rs := [1]) (by kernel_rfl) (by simp) ?_
        refine AllReadyIn.cons rfl (fun K hK => ?_) AllReadyIn.nil
        go_simp
        refine hK _ _ ?_
        clear hK K
        refine wpAnyIn_ready (rs := [2]) (by kernel_rfl) (by simp) ?_
        refine AllReadyIn.cons rfl (fun K hK => ?_) AllReadyIn.nil
        go_simp
        refine hK _ _ ?_
        clear hK K
        refine wpAnyIn_ready (rs := [3]) (by kernel_rfl) (by simp) ?_
        refine AllReadyIn.cons rfl (fun K hK => ?_) AllReadyIn.nil
        go_simp
        refine hK _ _ ?_
        clear hK K
        refine wpAnyIn_ready (rs := [4]) (by kernel_rfl) (by simp) ?_
        refine AllReadyIn.cons rfl (fun K hK => ?_) AllReadyIn.nil
        go_simp
        refine hK _ _ ?_
        clear hK K
        refine wpAnyIn_ready (rs := [5]) (by kernel_rfl) (by simp) ?_
        refine AllReadyIn.cons rfl (fun K hK => ?_) AllReadyIn.nil
        go_simp
        refine hK _ _ ?_
        clear hK K
        refine wpAnyIn_ready (rs := [6]) (by kernel_rfl) (by simp) ?_
        refine AllReadyIn.cons rfl (fun K hK => ?_) AllReadyIn.nil
        rw [if_pos (by rfl)]
        refine wpOpIn_append_run (.tmp 14) (.tmp 19) 37 rfl _ _ _ rfl rfl hrun ?_
        refine hK _ _ ?_
        clear hK K
        refine wpAnyIn_ready (rs := [7]) (by kernel_rfl) (by simp) ?_
        refine AllReadyIn.cons rfl (fun K hK => ?_) AllReadyIn.nil
        go_simp
        refine hK _ _ ?_
        clear hK K
        refine wpAnyIn_done (by kernel_rfl) ?_ _
        exact fin
      refine AllReadyIn.cons rfl (fun K hK => ?_) AllReadyIn.nil
      go_simp
      refine hK _ _ ?_
      clear hK K
      refine wpAnyIn_ready (rs := [0, 2]) (by kernel_rfl) (by simp) ?_
      refine AllReadyIn.cons rfl (fun K hK => ?_) ?_
      · go_simp
        refine hK _ _ ?_
        clear hK K
        refine wpAnyIn_ready (rs := [2]) (by kernel_rfl) (by simp) ?_
        refine AllReadyIn.cons rfl (fun K hK => ?_) AllReadyIn.nil
        go_simp
        refine hK _ _ ?_
        clear hK K
        refine wpAnyIn_ready (rs := [3]) (by kernel_rfl) (by simp) ?_
        refine AllReadyIn.cons rfl (fun K hK => ?_) AllReadyIn.nil
        go_simp
        refine hK _ _ ?_
        clear hK K
        refine wpAnyIn_ready (rs := [4]) (by kernel_rfl) (by simp) ?_
        refine AllReadyIn.cons rfl (fun K hK => ?_) AllReadyIn.nil
        go_simp
        refine hK _ _ ?_
        clear hK K
        refine wpAnyIn_ready (rs := [5]) (by kernel_rfl) (by simp) ?_
        refine AllReadyIn.cons rfl (fun K hK => ?_) AllReadyIn.nil
        go_simp
        refine hK _ _ ?_
        clear hK K
        refine wpAnyIn_ready (rs := [6]) (by kernel_rfl) (by simp) ?_
        refine AllReadyIn.cons rfl (fun K hK => ?_) AllReadyIn.nil
        rw [if_pos (by rfl)]
        refine wpOpIn_append_run (.tmp 14) (.tmp 19) 37 rfl _ _ _ rfl rfl hrun ?_
        refine hK _ _ ?_
        clear hK K
        refine wpAnyIn_ready (rs := [7]) (by kernel_rfl) (by simp) ?_
        refine AllReadyIn.cons rfl (fun K hK => ?_) AllReadyIn.nil
        go_simp
        refine hK _ _ ?_
        clear hK K
        refine wpAnyIn_done (by kernel_rfl) ?_ _
        exact fin
      refine AllReadyIn.cons rfl (fun K hK => ?_) AllReadyIn.nil
      go_simp
      refine hK _ _ ?_
      clear hK K
      refine wpAnyIn_ready (rs := [0, 3]) (by kernel_rfl) (by simp) ?_
      refine AllReadyIn.cons rfl (fun K hK => ?_) ?_
      · go_simp
        refine hK _ _ ?_
        clear hK K
        refine wpAnyIn_ready (rs := [3]) (by kernel_rfl) (by simp) ?_
        refine AllReadyIn.cons rfl (fun K hK => ?_) AllReadyIn.nil
        go_simp
        refine hK _ _ ?_
        clear hK K
        refine wpAnyIn_ready (rs := [4]) (by kernel_rfl) (by simp) ?_
        refine AllReadyIn.cons rfl (fun K hK => ?_) AllReadyIn.nil
        go_simp
        refine hK _ _ ?_
        clear hK K
        refine wpAnyIn_ready (rs := [5]) (by kernel_rfl) (by simp) ?_
        refine AllReadyIn.cons rfl (fun K hK => ?_) AllReadyIn.nil
        go_simp
        refine hK _ _ ?_
        clear hK K
        refine wpAnyIn_ready (rs := [6]) (by kernel_rfl) (by simp) ?_
        refine AllReadyIn.cons rfl (fun K hK => ?_) AllReadyIn.nil
        rw [if_pos (by rfl)]
        refine wpOpIn_append_run (.tmp 14) (.tmp 19) 37 rfl _ _ _ rfl rfl hrun ?_
        refine hK _ _ ?_
        clear hK K
        refine wpAnyIn_ready (rs := [7]) (by kernel_rfl) (by simp) ?_
        refine AllReadyIn.cons rfl (fun K hK => ?_) AllReadyIn.nil
        go_simp
        refine hK _ _ ?_
        clear hK K
        refine wpAnyIn_done (by kernel_rfl) ?_ _
        exact fin
      refine AllReadyIn.cons rfl (fun K hK => ?_) AllReadyIn.nil
      go_simp
      refine hK _ _ ?_
      clear hK K
      refine wpAnyIn_ready (rs := [0, 4]) (by kernel_rfl) (by simp) ?_
      refine AllReadyIn.cons rfl (fun K hK => ?_) ?_
      · go_simp
        refine hK _ _ ?_
        clear hK K
        refine wpAnyIn_ready (rs := [4]) (by kernel_rfl) (by simp) ?_
        refine AllReadyIn.cons rfl (fun K hK => ?_) AllReadyIn.nil
        go_simp
        refine hK _ _ ?_
        clear hK K
        refine wpAnyIn_ready (rs := [5]) (by kernel_rfl) (by simp) ?_
        refine AllReadyIn.cons rfl (fun K hK => ?_) AllReadyIn.nil
        go_simp
        refine hK _ _ ?_
        clear hK K
        refine wpAnyIn_ready (rs := [6]) (by kernel_rfl) (by simp) ?_
        refine AllReadyIn.cons rfl (fun K hK => ?_) AllReadyIn.nil
        rw [if_pos (by rfl)]
        refine wpOpIn_append_run (.tmp 14) (.tmp 19) 37 rfl _ _ _ rfl rfl hrun ?_
        refine hK _ _ ?_
        clear hK K
        refine wpAnyIn_ready (rs := [7]) (by kernel_rfl) (by simp) ?_
        refine AllReadyIn.cons rfl (fun K hK => ?_) AllReadyIn.nil
        go_simp
        refine hK _ _ ?_
        clear hK K
        refine wpAnyIn_done (by kernel_rfl) ?_ _
        exact fin
      refine AllReadyIn.cons rfl (fun K hK => ?_) AllReadyIn.nil
      go_simp
      refine hK _ _ ?_
      clear hK K
      refine wpAnyIn_ready (rs := [0, 5]) (by kernel_rfl) (by simp) ?_
      refine AllReadyIn.cons rfl (fun K hK => ?_) ?_
      · go_simp
        refine hK _ _ ?_
        clear hK K
        refine wpAnyIn_ready (rs := [5]) (by kernel_rfl) (by simp) ?_
        refine AllReadyIn.cons rfl (fun K hK => ?_) AllReadyIn.nil
        go_simp
        refine hK _ _ ?_
        clear hK K
        refine wpAnyIn_ready (rs := [6]) (by kernel_rfl) (by simp) ?_
        refine AllReadyIn.cons rfl (fun K hK => ?_) AllReadyIn.nil
        rw [if_pos (by rfl)]
        refine wpOpIn_append_run (.tmp 14) (.tmp 19) 37 rfl _ _ _ rfl rfl hrun ?_
        refine hK _ _ ?_
        clear hK K
        refine wpAnyIn_ready (rs := [7]) (by kernel_rfl) (by simp) ?_
        refine AllReadyIn.cons rfl (fun K hK => ?_) AllReadyIn.nil
        go_simp
        refine hK _ _ ?_
        clear hK K
        refine wpAnyIn_done (by kernel_rfl) ?_ _
        exact fin
      refine AllReadyIn.cons rfl (fun K hK => ?_) AllReadyIn.nil
      go_simp
      refine hK _ _ ?_
      clear hK K
      refine wpAnyIn_ready (rs := [0]) (by kernel_rfl) (by simp) ?_
      refine AllReadyIn.cons rfl (fun K hK => ?_) AllReadyIn.nil
      go_simp
      refine hK _ _ ?_
      clear hK K
      refine wpAnyIn_ready (rs := [6]) (by kernel_rfl) (by simp) ?_
      refine AllReadyIn.cons rfl (fun K hK => ?_) AllReadyIn.nil
      rw [if_pos (by rfl)]
      refine wpOpIn_append_run (.tmp 14) (.tmp 19) 37 rfl _ _ _ rfl rfl hrun ?_
      refine hK _ _ ?_
      clear hK K
      refine wpAnyIn_ready (rs := [7]) (by kernel_rfl) (by simp) ?_
      refine AllReadyIn.cons rfl (fun K hK => ?_) AllReadyIn.nil
      go_simp
      refine hK _ _ ?_
      clear hK K
      refine wpAnyIn_done (by kernel_rfl) ?_ _
      exact fin
    · have hk' : (y.k == 2) = false := by simpa using hk
      gi_wp2
      exact ⟨KeepsFrom.refl _ _, Kp.refl _ _, ⟨v, h1, by rw [nmL_miss _ _ _ hk]; exact h2⟩, h3⟩
  · rintro D W hD ⟨⟨v, h1, h2⟩, h3⟩ hK
    have hone := once_vars x (nmL (visX 1 x)) fun t => mem_vis t x 1
    have hlen : (nmL (visX 1 x)).length ≤ 1048576 := by have := nmL_len (visX 1 x); rw [length_vis] at this; omega
    obtain ⟨L, hL⟩ : ∃ L, L = nmL (visX 1 x) := ⟨_, rfl⟩
    rw [← hL] at h2 hone hlen
    clear hL
    have c1 := h1.cell
    by_cases hv : v = .slice none 0 0
    · subst hv
      have hl0 : L = [] := by
        rcases h2.2 with ⟨_, e⟩ | ⟨g, cap, cur, e, _⟩
        · exact List.eq_nil_of_length_eq_zero e
        · cases e
      subst hl0
      have hone' : varsX x = [] := by
        rw [← hone, List.eq_nil_of_length_eq_zero (Nat.le_zero.1 (onceB_len (List.map bs [])))]
        rfl
      have s1 : Calls Tryz.prog 92 #[.slice none 0 0] W fun e w' => e = .returned (.tuple #[]) ∧ w' = W := Any.slices_Sort_string_none Tryz.lays190 none 0 W
      have s2 : Calls Tryz.prog 97 #[.slice none 0 0] W fun e w' => e = .returned (.slice none 0 0) ∧ w' = W := Any.slices_Compact_string_empty Tryz.lays194 none 0 W
      gi_wp2_with (first
        | (refine ⟨trivial, hdd _, ?_⟩; gi_at_call 92; refine (callsIn_wide.2 s1).mono ?_; rintro e w2 ⟨rfl, hw2⟩; replace hw2 := hw2.symm; subst hw2)
        | (refine ⟨trivial, hdd _, ?_⟩; gi_at_call 97; refine (callsIn_wide.2 s2).mono ?_; rintro e w2 ⟨rfl, hw2⟩; replace hw2 := hw2.symm; subst hw2))
      refine ⟨by simp, .inl ⟨_, _, rfl, run_takeDeferred hK, ?_⟩⟩
      exact ⟨_, results_tmp rfl _ _ _, _, rfl, by rw [hone']; exact World.ownsRow_nil _ _ _ _, h3.trans (belowK_b (w := w) (Nat.le_refl _) W D _ _ (by omega) hK rfl rfl)⟩
    · have hm : (L.map bs).map encStr = cellsS L := by rw [cellsS, ← Lib.map_encStr]; rfl
      have h2' : W.ownsRow (w.heap.size + 7) 9 1 v L.length ((L.map bs).map encStr) := by rw [hm]; exact h2
      obtain ⟨g, cap, rfl, hg, hgl, hnc, hcm, hzl, hH⟩ := Lib.holds_of_ownsRow h2' hv
      have hcur : ∃ cur, W.heap[g]? = some (.cells cur 9 (0, 0)) ∧ cur.size = cap * 1 := by
        rcases h2.2 with ⟨e, _⟩ | ⟨g2, c2, cur, e, _, hc, _, _, hs, _⟩
        · cases e
        · injection e with e1 _ e3
          injection e1 with e1
          injection e1 with e1
          subst e1 e3
          exact ⟨cur, hc, hs⟩
      obtain ⟨cur, hc, hcs⟩ := hcur
      have s1 : Calls Tryz.prog 92 #[.slice (some ⟨g, 0, none⟩) L.length cap] W fun e w' => e = .returned (.tuple #[]) ∧ ∃ n os, w' = grow (putRow encStr (Sort.ahead W n) g 0 (sortB (L.map bs)).toArray) os := by
        have := Any.slices_Sort_string Tryz.lays190 g 0 cap (L.map bs) W hH hgl (by simp; omega)
        rw [List.length_map] at this
        exact this
      have hsl : (sortB (L.map bs)).length = L.length := by rw [sortB_len, List.length_map]
      have key : ∀ n os, ∃ W2, W2 = grow (putRow encStr (Sort.ahead W n) g 0 (sortB (L.map bs)).toArray) os ∧ W.grownBy W2 (some g) ∧ W2.ownsRow (w.heap.size + 7) 9 1 (.slice (some ⟨g, 0, none⟩) L.length cap) L.length ((sortB (L.map bs)).map encStr) := by
        intro n os
        refine ⟨_, rfl, grownBy_sorted _, ?_⟩
        have := ownsRow_sorted (w := W) (n := n) (os := os) (e := 9) (ss := L.map bs) (ts := sortB (L.map bs)) (by rw [sortB_len]) hg hc (by rw [List.length_map]; omega) hcm hcs
        rw [List.length_map] at this
        exact this
      gi_wp2_with (first
        | (refine ⟨trivial, hdd _, ?_⟩; gi_at_call 92; refine (callsIn_wide.2 s1).mono ?_; rintro e w2 ⟨rfl, nn, os, hw2⟩; obtain ⟨W2, hW2, hg2, ho2⟩ := key nn os; rw [← hW2] at hw2; replace hw2 := hw2.symm; subst hw2; clear hW2 key s1; have b2 := h1.kept hg2 (fun e => by injection e with e; omega); have c2 := b2.cell)
        | (refine ⟨trivial, hdd _, ?_⟩; gi_at_call 97; refine (callsIn_wide.2 (compact_once ho2 hone hsl hnc (by unfold maxLen at hcm; omega))).mono ?_; rintro e w3 ⟨rfl, ho3, hg3⟩))
      have hKg : ∀ {V V' : World}, V.heap[D]? = some (.deferred (some [])) → V.grownBy V' (some g) → (∃ cur, V.heap[g]? = some (.cells cur 9 (0, 0))) → V'.heap[D]? = some (.deferred (some [])) := fun {V V'} q1 q2 q3 => by
        refine (q2.block D (Array.getElem?_eq_some_iff.1 q1).1 fun e => ?_).trans q1
        injection e with e
        rw [e] at q1
        obtain ⟨cur, q3⟩ := q3
        rw [q3] at q1
        cases q1
      have hcell : ∀ {V : World} {m k : Nat} {zs : List Value}, V.ownsRow (w.heap.size + 7) 9 1 (.slice (some ⟨g, 0, none⟩) m k) m zs → ∃ cur, V.heap[g]? = some (.cells cur 9 (0, 0)) := fun {V m k zs} h => by
        rcases h.2 with ⟨e, _⟩ | ⟨g2, c2, cur, e, _, hc, _⟩
        · cases e
        · injection e with e1
          injection e1 with e1
          injection e1 with e1
          subst e1
          exact ⟨cur, hc⟩
      have hK2 := hKg hK hg2 ⟨cur, hc⟩
      have hK3 := hKg hK2 hg3 (hcell ho2)
      refine ⟨by simp, .inl ⟨_, _, rfl, run_takeDeferred hK3, ?_⟩⟩
      have hB2 := h3.grown hg2 h3.size (fun k e => by injection e with e; omega)
      have hB3 := hB2.grown hg3 hB2.size (fun k e => by injection e with e; omega)
      refine ⟨_, results_tmp rfl _ _ _, _, rfl, own_low (ownsRow_putObj ho3 _ hK3 rfl) (by omega), hB3.trans (belowK_b (w := w) (Nat.le_refl _) w3 D _ _ (by omega) hK3 rfl rfl)⟩
  · exact fun _ _ _ _ h _ => h.elim
theorem vars_any (x : X) (w : World) (hX : IsX w x) (hsm : x.size ≤ 1048576) : Calls Tryz.prog 43 #[x.val] w fun e w' => ∃ v, e = .returned v ∧ w'.ownsRow w.heap.size 9 1 v (varsX x).length (cellsS (varsX x)) ∧ Below w.heap.size w w' :=
  (callsIn_wide (n := 3)).1 (vars_in 3 x w hX hsm)
end Go.Proofs.YtkfpgkohkhhlhaaGreatDoor
namespace Go.Proofs.YtkfpgkohkhhlhaaGreatDoor
open Go.RowKit Go.Maps Go.Sort Go.Shelf

theorem sorts_wide (m : Nat) : AnyZ.SortsIn Tryz.prog Tryz.sorted38_ren Fence.wide m :=
  ⟨fun blk off cap ss W hH hblk hsz => callsIn_wide.2 (AnyM.slices_Sort_string Tryz.sort92 blk off cap ss W hH hblk hsz),
   fun p cap W => callsIn_wide.2 (AnyM.slices_Sort_string_none Tryz.sort92 p cap W)⟩
theorem keysM_any (mb : Option Nat) (W : World) : Calls Tryz.prog 61 #[.map mb] W fun e w' => e = .returned (.func (.func 109) #[] #[.pointer (some ⟨W.heap.size, 0, none⟩)]) ∧ w' = W.alloc (.cells #[.map mb] 106) :=
  (callsIn_wide (n := 5)).1 (AnyZ.keys_in Tryz.keys61 Fence.wide 5 trivial rfl mb W)
set_option maxHeartbeats 1000000 in
theorem sortedM_any {H : Type} (b nn : Nat) (D0 : DataW H) (R : Value → Option (DataW H × List MemPlace)) (w : World) (hown : w.ownsMap Tryz.prog 9 R b nn D0) (hmax : Maps.size D0 ≤ maxLen) (hbytes : Maps.size D0 * 16 ≤ 140737488355328) :
    Calls Tryz.prog 38 #[.func (.func 109) #[] #[.pointer (some ⟨w.heap.size, 0, none⟩)]] (w.alloc (.cells #[.map (some b)] 106)) fun e w' => ∃ (v : Value) (ss : List (List UInt8)), e = .returned v ∧ ss.Perm (strKeys D0) ∧
      w'.ownsRow (w.alloc (.cells #[.map (some b)] 106)).heap.size 9 1 v ss.length ((sortB ss).map encStr) ∧ Below (w.alloc (.cells #[.map (some b)] 106)).heap.size (w.alloc (.cells #[.map (some b)] 106)) w' := by
  have hbl := hown.lt
  have hseq : SeqGives Fence.wide 2 Tryz.prog 109 #[.pointer (some ⟨w.heap.size, 0, none⟩)] encStr (fun ss => ss.Perm (strKeys D0)) (Maps.size D0) (w.alloc (.cells #[.map (some b)] 106)) :=
    AnyZ.keys_gives (ρ := Tryz.keys61_ren) { Tryz.keys61 with } Fence.wide _ trivial rfl (by omega) w.heap.size b nn D0 _ (by simp) (by simp) (by
      obtain ⟨es, clock, hb, Ft, hs, hD⟩ := hown
      exact ⟨es, clock, (Below.heap_alloc _ _ b hbl).trans hb, Ft, hs, hD⟩)
  refine ((callsIn_wide (n := 5)).1 (AnyZ.sorted_in Tryz.sorted38 Fence.wide 5 trivial trivial trivial trivial rfl (by omega) (sorts_wide _) (enters_of Tryz.func92 (by kernel_rfl) rfl) 109 #[.pointer (some ⟨w.heap.size, 0, none⟩)] trivial (enters_of Tryz.func109 (by kernel_rfl) rfl) _ _ hmax hbytes _ hseq)).mono ?_
  rintro e w' ⟨v, ss, rfl, h1, h2, _, h3⟩
  exact ⟨v, ss, rfl, h1, h2, h3⟩
/-- Names that are the keys of a map, in their order. -/
theorem sorted_keys {w : World} {b n : Nat} {R : Value → Option (DataW Unit × List MemPlace)} {D : DataW Unit} (hown : w.ownsMap Tryz.prog 9 R b n D) {L : List ByteArray} (hL : Sorted L) (hm : ∀ s, s ∈ L ↔ Maps.has D (keyS s) = true) {ss : List (List UInt8)} (hp : ss.Perm (strKeys D)) :
    (sortB ss).map encStr = cellsS L ∧ ss.length = L.length := by
  have hnd := sorted_nodup L hL
  have hbs : ∀ x : List UInt8, x ∈ L.map bs ↔ (⟨x.toArray⟩ : ByteArray) ∈ L := fun x => by
    rw [List.mem_map]
    constructor
    · rintro ⟨s, hs, rfl⟩
      rw [bs_mk]; exact hs
    · intro h
      exact ⟨_, h, mk_bs x⟩
  have hc : Collected D (fun _ => false) (L.map bs) := by
    refine ⟨?_, fun x => ?_⟩
    · refine List.pairwise_map.2 (List.Pairwise.imp (fun {a c} h e => h ?_) hnd)
      rw [← bs_mk a, ← bs_mk c, e]
    · rw [hbs, hm]
      simp
  have hp2 : ss.Perm (L.map bs) := hp.trans (hc.perm hown str_law Tryz.underlying9 (fun _ => rfl)).symm
  refine ⟨?_, by rw [hp2.length_eq, List.length_map]⟩
  have e1 : sortB ss = sortB (L.map bs) := mergeSort_of_perm hp2
  have h1 := sortB_le (L.map bs)
  have h2 : (sortB (L.map bs)).Nodup := (List.mergeSort_perm (L.map bs) _).nodup_iff.2 hc.1
  have h3 : (sortB (L.map bs)).Pairwise fun x y => Op.bytesLess x y = true := by
    refine List.Pairwise.imp (fun {x y} h => ?_) (List.pairwise_and_iff.2 ⟨h1, h2⟩)
    obtain ⟨g1, g2⟩ := h
    have hx : x = (⟨x.toArray⟩ : ByteArray).toList := by rw [bs_list, mk_bs]
    have hy : y = (⟨y.toArray⟩ : ByteArray).toList := by rw [bs_list, mk_bs]
    rcases cmpS_cases ⟨x.toArray⟩ ⟨y.toArray⟩ with ⟨_, q, _⟩ | ⟨_, q⟩ | ⟨_, q, _⟩
    · rw [← hx, ← hy] at q; exact q
    · rw [← hx, ← hy] at q; exact absurd q g2
    · rw [← hx, ← hy] at q; rw [q] at g1; cases g1
  have h4 := sorted_of _ h3
  have h5 : (sortB (L.map bs)).map (fun x => (⟨x.toArray⟩ : ByteArray)) = L := by
    refine sorted_one _ _ h4 hL fun s => ?_
    rw [List.mem_map]
    constructor
    · rintro ⟨x, hx, rfl⟩
      exact (hbs x).1 ((sortB_mem _ x).1 hx)
    · intro h
      exact ⟨bs s, (sortB_mem _ _).2 (List.mem_map.2 ⟨s, h, rfl⟩), bs_mk s⟩
  rw [e1, cellsS]
  conv => rhs; rw [← h5]
  rw [List.map_map]
  rfl
end Go.Proofs.YtkfpgkohkhhlhaaGreatDoor
namespace Go.Proofs.YtkfpgkohkhhlhaaGreatDoor
open Go.RowKit Go.Shelf
attribute [local go_sem] Oper.semAt_some

theorem nodesP_walk {ι : Type} {n : Nat} {g : Operand} {ps : Array Tmp} {assign body : Code} {Q : Exit → Act → World → Prop} {a : Act} {w : World} (Bp b0 o0 : Nat) (v0 : ι) (kids : ι → Nat) (kid : ι → Nat → ι) (rank : ι → Nat)
    (Pre : ι → Nat → Nat → World → Prop) (Go : ι → Nat → Nat → World → World → Prop) (Mid : ι → Nat → Nat → World → Option Addr → Nat → Nat → World → Prop) (Post : ι → Nat → Nat → World → World → Prop)
    (hg : a.eval g = .func (.func 107) #[] #[.pointer (some ⟨Bp, 0, none⟩)]) (hps : ps.size = 2) (hBp : w.cell? ⟨Bp, 0, none⟩ = some (.pointer (some ⟨b0, o0, none⟩)))
    (hrank : ∀ v i, i < kids v → rank (kid v i) < rank v)
    (hPre : ∀ v b o W A, Ag w.heap.size W A → Pre v b o W → Pre v b o A)
    (hGo : ∀ v b o W A A' W', Ag w.heap.size W A → Ag w.heap.size A' W' → Go v b o A A' → Go v b o W W')
    (hPost : ∀ v b o W W' A, Ag w.heap.size W' A → Post v b o W W' → Post v b o W A)
    (h0 : ∀ W, Below w.heap.size w W → W.heap.size = w.heap.size + 4 → Pre v0 b0 o0 W)
    (a₁ : Int → Nat → Nat → Act)
    (hassign : ∀ (l : Nat) (d : Int) (b o : Nat) (W : World) (K : Act → World → Prop), K (a₁ d b o) W →
      assign.wpIn (Fence.wide.inRound l) (n - 1 - 1) Tryz.prog (Exit.then K (fun _ _ _ => False)) { tmps := (ps.zip #[.int .i64 d, .pointer (some ⟨b, o, none⟩)]).foldl (fun t (p, v) => t.setIfInBounds p v) a.tmps, defers := [] } W)
    (hbody : ∀ (l : Nat) (d : Int) (b o : Nat) (v : ι) (W : World), Pre v b o W → w.heap.size + 4 ≤ W.heap.size → (∃ u, Boxed W (w.heap.size + 2) 165 u) → (∃ u, Boxed W (w.heap.size + 3) 165 u) →
      body.wpIn (Fence.wide.inRound l) (n - 1 - 1) Tryz.prog (walkPost w.heap.size (Go v b o W) W) (a₁ d b o) W)
    (hM : ∀ v b o W W', Pre v b o W → Go v b o W W' → ∃ a cap, Mid v b o W a cap 0 W')
    (hL : ∀ v b o W a cap i Wi, Mid v b o W a cap i Wi → kids v ≤ 9223372036854775807 ∧ Wi.cell? ⟨b, o + 5, none⟩ = some (.slice a (kids v) cap))
    (hC : ∀ v b o W a cap i Wi, Mid v b o W a cap i Wi → i < kids v → ∃ b' o', a = some ⟨b', o', none⟩ ∧ Pre (kid v i) b' (o' + i * 6) Wi.drew ∧
      (∀ W', Post (kid v i) b' (o' + i * 6) Wi.drew W' → Mid v b o W a cap (i + 1) W'))
    (hE : ∀ v b o W a cap Wi, Mid v b o W a cap (kids v) Wi → Post v b o W Wi)
    (hdone : ∀ (D : Nat) (W2 W : World), w.heap.size ≤ D → Below w.heap.size w W2 → W2.heap.size = w.heap.size + 4 → Post v0 b0 o0 W2 W → W.heap[D]? = some (.deferred (some [])) → Q .normal { a with defers := { target := .collected D, args := #[] } :: a.defers } W) :
    (Code.rangeFunc g ps assign body).wpIn Fence.wide n Tryz.prog Q a w := by
  obtain ⟨T, hT⟩ : ∃ T : Nat → Prop, T = fun k => k = w.heap.size + 2 ∨ k = w.heap.size + 3 := ⟨_, rfl⟩
  refine wpIn_range (α := Got ι) hg (enters_of Tryz.func107 (by kernel_rfl) rfl) (encs := fun v => #[.int .i64 v.d, .pointer (some ⟨v.b, v.o, none⟩)]) (fun _ => hps.symm)
    (fun v W => Pre v.v v.b v.o W ∧ w.heap.size + 4 ≤ W.heap.size ∧ (∃ u, Boxed W (w.heap.size + 2) 165 u) ∧ ∃ u, Boxed W (w.heap.size + 3) 165 u)
    (fun v W W' => Kp T W W' ∧ Go v.v v.b v.o W W' ∧ w.heap.size + 4 ≤ W'.heap.size)
    (fun _ _ _ _ => False) (fun W => ∃ W2, Below w.heap.size w W2 ∧ W2.heap.size = w.heap.size + 4 ∧ Post v0 b0 o0 W2 W) (fun _ _ => False) ?_ ?_ (fun _ _ _ _ _ _ _ _ h => h) ?_ (fun _ _ _ _ h => h) (fun v => a₁ v.d v.b v.o) (fun l v W K hK => hassign l v.d v.b v.o W K hK) ?_ ?_
    (fun D W hD h hK => by obtain ⟨W2, h1, h2, h3⟩ := h; exact hdone D W2 W hD h1 h2 h3 hK) (fun _ _ _ _ h _ => h.elim)
  · rintro v W A hag ⟨h1, h2, ⟨u, h3⟩, u', h4⟩
    exact ⟨hPre _ _ _ _ _ hag h1, by rw [hag.size]; exact h2, ⟨u, hag.boxed h3⟩, u', hag.boxed h4⟩
  · rintro v W A A' W' hag hag' ⟨h1, h2, h3⟩
    exact ⟨Kp.ag hag hag' h1, hGo _ _ _ _ _ _ _ hag hag' h2, by rw [hag'.size]; exact h3⟩
  · rintro W A hag ⟨W2, h1, h2, h3⟩
    exact ⟨W2, h1, h2, hPost _ _ _ _ _ _ hag h3⟩
  · rintro l v W ⟨h1, h2, h3, h4⟩ _
    refine wpIn_mono (hbody l v.d v.b v.o v.v W h1 h2 h3 h4) ?_
    rintro e a3 W3 hp
    cases e with
    | normal => exact ⟨hp.1, by rw [hT]; exact hp.2.1, hp.2.2, Nat.le_trans h2 hp.1.size⟩
    | ret => exact hp.elim
    | exit id => exact hp.elim
    | goto t => exact hp.elim
    | panic ch => exact hp.elim
    | outgrown => exact hp.elim
  · intro l Rec RecX W1 hB1 hs1 hrec1 hrec hrecx hY
    have hlt : Bp < w.heap.size := by
      obtain ⟨ob, ho, -⟩ := cells_of_cell hBp
      exact (Array.getElem?_eq_some_iff.1 ho).1
    refine (nodesP1_in (n - 1) l Bp b0 o0 W1 (fun e W' => e = .returned (.bool true) ∧ (∃ W2, Below w.heap.size w W2 ∧ W2.heap.size = w.heap.size + 4 ∧ Post v0 b0 o0 W2 W') ∧ Rec W') ((hB1.cell (p := ⟨Bp, 0, none⟩) hlt).trans hBp) ?_).mono ?_
    · intro W2 by2 bd2 hB2 hs2
      have hBW : Below w.heap.size w W2 := hB1.trans (hB2.mono (by omega))
      have key := downP_any (ι := ι) l W1.heap.size (W1.heap.size + 1) kids kid rank
        (fun v b o _ W => Pre v b o W ∧ Rec W ∧ Boxed W W1.heap.size 165 (.func (.yield l) #[] #[]) ∧ Boxed W (W1.heap.size + 1) 165 (downPV W1.heap.size (W1.heap.size + 1)) ∧ w.heap.size + 4 ≤ W.heap.size)
        (fun v b o _ W a cap i Wi => Mid v b o W a cap i Wi ∧ Rec Wi ∧ Boxed Wi W1.heap.size 165 (.func (.yield l) #[] #[]) ∧ Boxed Wi (W1.heap.size + 1) 165 (downPV W1.heap.size (W1.heap.size + 1)) ∧ w.heap.size + 4 ≤ Wi.heap.size ∧ Kp T W Wi)
        (fun v b o _ W W' => Post v b o W W' ∧ Rec W' ∧ Kp T W W' ∧ w.heap.size + 4 ≤ W'.heap.size)
        (fun _ _ _ _ _ _ => False)
        hrank (fun v b o d W h => h.2.2.1.cell) ?_ ?_ ?_ ?_ (rank v0 + 1) v0 (by omega) (n - 1 - 1) b0 o0 1 W2 ?_
      · refine key.mono ?_
        rintro e W' (⟨rfl, h1, h2, -⟩ | ⟨rfl, h⟩)
        · exact ⟨true, rfl, rfl, ⟨W2, hBW, by omega, h1⟩, h2⟩
        · exact h.elim
      · rintro v b o d W ⟨h1, h5, h6, h7, h8⟩
        refine YieldAt.mono (hY 0 ⟨d, b, o, v⟩ W ⟨h1, h8, ⟨_, by rw [show w.heap.size + 2 = W1.heap.size by omega]; exact h6⟩, _, by rw [show w.heap.size + 3 = W1.heap.size + 1 by omega]; exact h7⟩ h5) ?_
        rintro e W' (⟨rfl, ⟨k1, k2, k3⟩, k4, -⟩ | ⟨rfl, c, k1, k2⟩)
        · obtain ⟨a', cap', hm⟩ := hM _ _ _ _ _ h1 k2
          exact .inl ⟨rfl, a', cap', hm, k4, k1.boxed (by rw [hT]; exact .inl (by omega)) h6, k1.boxed (by rw [hT]; exact .inr (by omega)) h7, k3, k1⟩
        · exact k1.elim
      · rintro v b o d W a' cap' i Wi ⟨h1, h5, h6, h7, h8, h9⟩
        obtain ⟨q1, q2⟩ := hL _ _ _ _ _ _ _ _ h1
        exact ⟨q1, q2, h7.cell⟩
      · rintro v b o d W a' cap' i Wi ⟨h1, h5, h6, h7, h8, h9⟩ hi
        obtain ⟨b', o', ea, hp, hq⟩ := hC _ _ _ _ _ _ _ _ h1 hi
        refine ⟨b', o', ea, ⟨hp, hrec Wi Wi.drew ⟨Nat.le_refl _, fun _ _ _ h _ => h⟩ h5, h6, h7, h8⟩, ?_, fun W' h => h⟩
        rintro W' ⟨k1, k2, k3, k4⟩
        have kk : Kp T Wi W' := k3
        exact ⟨hq W' k1, k2, kk.boxed (by rw [hT]; exact .inl (by omega)) h6, kk.boxed (by rw [hT]; exact .inr (by omega)) h7, k4, h9.trans kk⟩
      · rintro v b o d W a' cap' Wi ⟨h1, h5, h6, h7, h8, h9⟩
        exact ⟨hE _ _ _ _ _ _ _ h1, h5, h9, h8⟩
      · refine ⟨h0 W2 hBW (by omega), hrec W1 W2 ⟨by omega, fun k o hk ho _ => ?_⟩ hrec1, by2, bd2, by omega⟩
        exact (hB2.block k (Array.getElem?_eq_some_iff.1 ho).1).trans ho
    · rintro e W' ⟨hv, r, -, h1, h2⟩
      exact ⟨hv, .inl ⟨h1, h2⟩⟩
end Go.Proofs.YtkfpgkohkhhlhaaGreatDoor
