/-
  A map of names' first places; a name's new name; what is older and stays; of no function.
  A map from names to numbers, by what it tells; marks of loops that are done; of no function.
  Rows of texts as lists; of no function.
  A region that draws its order and only reads, inside a round: one walk of the lexical order serves every order there, too. Of no function.
  A region that draws its order, inside a round: reads in any order, and one write behind them all. Told by the temporaries as they stand behind all reads. Of no function.
  How many names there are; of no function.
  A row of whole numbers that grows by one at its end, in its own room or in a new block; what it held of it before stays. Of no function.
  able's three tables as they lie in memory; able.dialect, able.thing, able.Lacks, able.Word.
  All nodes of a pattern in their order, each with its way and the kind of what it is a part of; plain facts, of no function.
-/
import Derived.Test.YtfnfegcjgnbgbaaGreatDoorSBrief
import Derived.Test.YtfnfegcjgnbgbaaGreatDoorSTxt
import Derived.Test.YtfnfegcjgnbgbaaGreatDoorSExprMath
import Derived.Test.YtfnfegcjgnbgbaaGreatDoorSPatKinds
import Derived.Test.YtfnfegcjgnbgbaaGreatDoorSPatMath
import Derived.Maps.OwnSet
import Derived.Maps.OwnIn
import Derived.Maps.Views
import Derived.Test.YtfnfegcjgnbgbaaGreatDoorRows
import Derived.WalkKit
import Derived.Sort.QuietIn
import Derived.OrdersIn
import Derived.TacticsIn
import Derived.Maps.AppendAt
import Derived.OwnWalk
import Derived.Laws.Rows
import Derived.LoopN
namespace Go.Proofs.YtfnfegcjgnbgbaaGreatDoor
open Go.RowKit Go.Shelf Go.Maps Go.WideMaps

abbrev zeroI : DataW Unit := .lit (.int .i64 0)
theorem ownsMap_ag {B : Nat} {W A : World} (h : Ag B W A) {b n : Nat} {D : DataW Unit} (hb : b < B) (ho : W.ownsMap Tryz.prog 9 (plainElem (H := Unit) Tryz.prog 3) b n D) : A.ownsMap Tryz.prog 9 (plainElem (H := Unit) Tryz.prog 3) b n D := by
  obtain ⟨es, clock, h1, h2⟩ := ho
  exact ⟨es, clock, (h.low b hb).trans h1, h2⟩
theorem ownsMap_below {B : Nat} {W A : World} (h : Below B W A) {b n : Nat} {D : DataW Unit} (hb : b < B) (ho : W.ownsMap Tryz.prog 9 (plainElem (H := Unit) Tryz.prog 3) b n D) : A.ownsMap Tryz.prog 9 (plainElem (H := Unit) Tryz.prog 3) b n D := by
  obtain ⟨es, clock, h1, h2⟩ := ho
  exact ⟨es, clock, (h.block b hb).trans h1, h2⟩
/-- What is older than N1 stays, but for one block. -/
structure Lb (N1 B0 : Nat) (W W' : World) : Prop where
  os : W'.os = W.os
  tape : W'.tape = W.tape
  output : W'.output = W.output
  size : W.heap.size ≤ W'.heap.size
  block : ∀ k, k < N1 → k ≠ B0 → W'.heap[k]? = W.heap[k]?
theorem Lb.refl (N1 B0 : Nat) (W : World) : Lb N1 B0 W W := ⟨rfl, rfl, rfl, Nat.le_refl _, fun _ _ _ => rfl⟩
theorem Lb.trans {N1 B0 : Nat} {A B C : World} (h : Lb N1 B0 A B) (g : Lb N1 B0 B C) : Lb N1 B0 A C :=
  ⟨g.os.trans h.os, g.tape.trans h.tape, g.output.trans h.output, Nat.le_trans h.size g.size, fun k h1 h2 => (g.block k h1 h2).trans (h.block k h1 h2)⟩
theorem Lb.ag {N1 B0 B : Nat} {W A A' W' : World} (h : Ag B W A) (h' : Ag B A' W') (hN : N1 ≤ B) (g : Lb N1 B0 A A') : Lb N1 B0 W W' :=
  ⟨h'.os.trans (g.os.trans h.os), h'.tape.trans (g.tape.trans h.tape), h'.output.trans (g.output.trans h.output), by rw [h'.size, ← h.size]; exact g.size, fun k h1 h2 => (h'.low k (by omega)).trans ((g.block k h1 h2).trans (h.low k (by omega)))⟩
theorem Lb.set {N1 B0 b o : Nat} {W : World} {v : Value} (hb : b = B0 ∨ N1 ≤ b) : Lb N1 B0 W (W.setCell ⟨b, o, none⟩ v) :=
  ⟨rfl, rfl, rfl, Nat.le_of_eq (World.size_setCell ..).symm, fun k h1 h2 => Below.heap_setCell W ⟨b, o, none⟩ v k (fun e => by have e' : k = b := e; omega)⟩
theorem Lb.below {N1 B0 n : Nat} {W W' : World} (h : Lb N1 B0 W W') (hn : n ≤ N1) (hB : n ≤ B0) : Below n W W' := ⟨h.os, h.tape, h.output, h.size, fun k hk => h.block k (by omega) (by omega)⟩
theorem Lb.of_below {N1 B0 : Nat} {W W' : World} (h : Below N1 W W') : Lb N1 B0 W W' := ⟨h.os, h.tape, h.output, h.size, fun k hk _ => h.block k hk⟩

theorem Lb.boxed {N1 B0 : Nat} {W W' : World} (h : Lb N1 B0 W W') {b : Nat} {t : TypeId} {v : Value} (hb : Boxed W b t v) (h1 : b < N1) (h2 : b ≠ B0) : Boxed W' b t v := (h.block b h1 h2).trans hb
theorem Lb.map {N1 B0 : Nat} {W W' : World} (h : Lb N1 B0 W W') {b n : Nat} {D : DataW Unit} (h1 : b < N1) (h2 : b ≠ B0) (ho : W.ownsMap Tryz.prog 9 (plainElem (H := Unit) Tryz.prog 3) b n D) : W'.ownsMap Tryz.prog 9 (plainElem (H := Unit) Tryz.prog 3) b n D := by
  obtain ⟨es, clock, q1, q2⟩ := ho
  exact ⟨es, clock, (h.block b h1 h2).trans q1, q2⟩
end Go.Proofs.YtfnfegcjgnbgbaaGreatDoor
namespace Go.Proofs.YtfnfegcjgnbgbaaGreatDoor
open Go.RowKit Go.Shelf Go.Maps Go.WideMaps

/-- What the map tells of each name. -/
def MapsTo (P : ByteArray → Option Nat) (D : DataW Unit) : Prop :=
  (∀ s, P s = none → Maps.has D (keyS s) = false) ∧ ∀ s j, P s = some j → Maps.has D (keyS s) = true ∧ D.atKey (keyS s) zeroI = .lit (.int .i64 j)
theorem mapsTo_none : MapsTo (fun _ => none) (.map []) := ⟨fun _ _ => rfl, fun _ _ h => by cases h⟩
theorem MapsTo.put {P : ByteArray → Option Nat} {D : DataW Unit} (h : MapsTo P D) (hm : IsMap D) (s : ByteArray) (k : Nat) : MapsTo (fun t => if t = s then some k else P t) (D.put (keyS s) (.lit (.int .i64 k))) := by
  refine ⟨fun t ht => ?_, fun t j ht => ?_⟩
  · by_cases e : t = s
    · simp only [if_pos e] at ht; cases ht
    · simp only [if_neg e] at ht
      rw [has_put_other (keyS_ne e)]
      exact h.1 t ht
  · by_cases e : t = s
    · simp only [if_pos e] at ht
      cases ht
      subst e
      exact ⟨has_put_same hm (by simp [WideAt.IsKeyLit]) _, atKey_put_same hm (by simp [WideAt.IsKeyLit]) _ _⟩
    · simp only [if_neg e] at ht
      rw [has_put_other (keyS_ne e), atKey_put_other (keyS_ne e)]
      exact h.2 t j ht
theorem MapsTo.congr {P Q : ByteArray → Option Nat} {D : DataW Unit} (h : MapsTo P D) (e : ∀ s, Q s = P s) : MapsTo Q D := ⟨fun s hs => h.1 s ((e s).symm.trans hs), fun s j hs => h.2 s j ((e s).symm.trans hs)⟩
set_option maxRecDepth 100000 in
/-- A look-up with both answers. -/
theorem look_to {W : World} {M q : Nat} {D : DataW Unit} {P : ByteArray → Option Nat} {s : ByteArray} (ho : W.ownsMap Tryz.prog 9 (plainElem (H := Unit) Tryz.prog 3) M q D) (hF : MapsTo P D) (hs : s.size ≤ maxLen) :
    ∃ c : Int, (Instr.lookup 104 (.map (some M)) (.string s) true).run Tryz.prog W = .ok (.tuple #[.int .i64 c, .bool (P s).isSome]) W ∧ ∀ j : Nat, P s = some j → c = j := by
  have hkey : keyOf Tryz.prog 9 (.string s) = some (keyS s) := keyOf_string_mk Tryz.underlying9 hs
  obtain ⟨v, ps, hrun, hv⟩ := ho.look_ok str_law Tryz.underlying104 (z := .int .i64 0) rfl (plainElem_int Tryz.underlying3 (WalkArith.wf_i64 (by omega))) hkey
  obtain ⟨c, rfl, hc, hwc⟩ := plainElem_int_inv Tryz.underlying3 hv
  have hc' : D.atKey (keyS s) zeroI = .lit (.int .i64 c) := congrArg Prod.fst hc
  refine ⟨c, ?_, fun j hj => ?_⟩
  · rw [hrun]
    cases e : P s with
    | none => rw [hF.1 s e]; rfl
    | some j => rw [(hF.2 s j e).1]; rfl
  · have := (hF.2 s j hj).2
    rw [hc'] at this
    injection this with e
    injection e with _ e
set_option maxRecDepth 100000 in
/-- A look-up with one. -/
theorem look1_to {W : World} {M q : Nat} {D : DataW Unit} {P : ByteArray → Option Nat} {s : ByteArray} {j : Nat} (ho : W.ownsMap Tryz.prog 9 (plainElem (H := Unit) Tryz.prog 3) M q D) (hF : MapsTo P D) (hs : s.size ≤ maxLen) (hj : P s = some j) :
    (Instr.lookup 104 (.map (some M)) (.string s) false).run Tryz.prog W = .ok (.int .i64 j) W := by
  have hkey : keyOf Tryz.prog 9 (.string s) = some (keyS s) := keyOf_string_mk Tryz.underlying9 hs
  obtain ⟨c, hrun, hc, hwc⟩ := ho.lookup_int (q := .i64) str_law Tryz.underlying104 Tryz.underlying3 rfl hkey
  have h1 := (hF.2 s j hj).2
  have h2 : D.atKey (keyS s) zeroI = .lit (.int .i64 c) := hc
  rw [h2] at h1
  injection h1 with e
  injection e with _ e
  rw [hrun, e]
/-- An append at a step of a region that draws its order, inside a fence, by its run. -/
theorem wpOpIn_append_run {F : Fence} {n : Nat} {P : Program} {w w' : World} {o : Oper} {a : Act} {K : Act → World → Prop} {Q : Exit → Act → World → Prop} (s x : Operand) (t : TypeId)
    (hop : o.op = Op.call { callee := Callee.builtin Builtin.append, args := #[s, x], argTypes := #[t, t] }) (v y v' : Value) (hs : a.eval s = v) (hx : a.eval x = y)
    (hrun : (Builtin.append_ #[t, t] o.type #[v, y]).run P w = .ok v' w') (hK : K (a.put o.dst v') w') : Oper.wpIn F n P o a w K Q := by
  unfold Oper.wpIn
  refine ⟨?_, ?_⟩
  · simp [Oper.about, hop, resolve, Target.leads, Sem.run_pure]
  · rw [Oper.semAt_plain F _ _ (by rw [hop]; intro c hc'; cases hc')]
    simp [execOp, hop, resolve, invoke, builtin, hs, hx, hrun, Result.andThen]
    exact hK
theorem wpListIn_append_run {F : Fence} {n : Nat} {P : Program} {w w' : World} {ops : Array Oper} {rest : List Oper} {o : Oper} {a : Act} {Q : Exit → Act → World → Prop} (hg : o.guard = none) (s x : Operand) (t : TypeId)
    (hop : o.op = Op.call { callee := Callee.builtin Builtin.append, args := #[s, x], argTypes := #[t, t] }) (v y v' : Value) (hs : a.eval s = v) (hx : a.eval x = y)
    (hrun : (Builtin.append_ #[t, t] o.type #[v, y]).run P w = .ok v' w') (hK : wpListIn F n P ops Q rest (a.put o.dst v') w') : wpListIn F n P ops Q (o :: rest) a w :=
  wpListIn_plain hg fun _ hK' => wpOpIn_append_run s x t hop v y v' hs hx hrun (hK' _ _ hK)
set_option maxRecDepth 100000 in
/-- A look-up with both answers, in whatever world holds the map. -/
theorem look_all {W : World} {M q : Nat} {D : DataW Unit} {P : ByteArray → Option Nat} {s : ByteArray} (ho : W.ownsMap Tryz.prog 9 (plainElem (H := Unit) Tryz.prog 3) M q D) (hF : MapsTo P D) (hs : s.size ≤ maxLen) :
    ∃ c : Int, (∀ V : World, V.ownsMap Tryz.prog 9 (plainElem (H := Unit) Tryz.prog 3) M q D → (Instr.lookup 104 (.map (some M)) (.string s) true).run Tryz.prog V = .ok (.tuple #[.int .i64 c, .bool (P s).isSome]) V) ∧ ∀ j : Nat, P s = some j → c = j := by
  have hkey : keyOf Tryz.prog 9 (.string s) = some (keyS s) := keyOf_string_mk Tryz.underlying9 hs
  have one : ∀ V : World, V.ownsMap Tryz.prog 9 (plainElem (H := Unit) Tryz.prog 3) M q D → ∃ c : Int, (Instr.lookup 104 (.map (some M)) (.string s) true).run Tryz.prog V = .ok (.tuple #[.int .i64 c, .bool (P s).isSome]) V ∧ D.atKey (keyS s) zeroI = .lit (.int .i64 c) := fun V hV => by
    obtain ⟨v, ps, hrun, hv⟩ := hV.look_ok str_law Tryz.underlying104 (z := .int .i64 0) rfl (plainElem_int Tryz.underlying3 (WalkArith.wf_i64 (by omega))) hkey
    obtain ⟨c, rfl, hc, hwc⟩ := plainElem_int_inv Tryz.underlying3 hv
    refine ⟨c, ?_, congrArg Prod.fst hc⟩
    rw [hrun]
    cases e : P s with
    | none => rw [hF.1 s e]; rfl
    | some j => rw [(hF.2 s j e).1]; rfl
  obtain ⟨c, _, hc⟩ := one W ho
  refine ⟨c, fun V hV => ?_, fun j hj => ?_⟩
  · obtain ⟨c', h1, h2⟩ := one V hV
    rw [hc] at h2
    injection h2 with e
    injection e with _ e
    rw [e]; exact h1
  · have := (hF.2 s j hj).2
    rw [hc] at this
    injection this with e
    injection e with _ e
end Go.Proofs.YtfnfegcjgnbgbaaGreatDoor
namespace Go.Proofs.YtfnfegcjgnbgbaaGreatDoor
open Go.RowKit

def lstS (S : Nat → ByteArray) : Nat → List ByteArray
  | 0 => []
  | n + 1 => lstS S n ++ [S n]
theorem lstS_len (S : Nat → ByteArray) : ∀ n, (lstS S n).length = n
  | 0 => rfl
  | n + 1 => by simp [lstS, lstS_len S n]
theorem lstS_mem (S : Nat → ByteArray) (t : ByteArray) : ∀ n, t ∈ lstS S n ↔ ∃ j, j < n ∧ S j = t
  | 0 => by simp [lstS]
  | n + 1 => by
    simp only [lstS, List.mem_append, lstS_mem S t n, List.mem_singleton]
    constructor
    · rintro (⟨j, hj, e⟩ | e)
      · exact ⟨j, by omega, e⟩
      · exact ⟨n, by omega, e.symm⟩
    · rintro ⟨j, hj, e⟩
      by_cases h : j < n
      · exact .inl ⟨j, h, e⟩
      · obtain rfl : j = n := by omega
        exact .inr e.symm
end Go.Proofs.YtfnfegcjgnbgbaaGreatDoor
namespace Go.Proofs.YtfnfegcjgnbgbaaGreatDoor
open Go.RowKit

/-- Nothing is deferred in it. -/
def calmB (l : List Oper) : Bool := l.all fun o => match o.op with | .defer _ => false | _ => true
theorem calm_at {l : List Oper} (h : calmB l = true) {i : Nat} {o : Oper} (ho : l.toArray[i]? = some o) (c : Call) : o.op ≠ .defer c := fun e => by
  have hm : o ∈ l := by
    have : l[i]? = some o := by simpa using ho
    exact List.mem_of_getElem? this
  have := List.all_eq_true.1 h o hm
  rw [e] at this
  cases this
theorem wpAnyIn_round {n : Nat} {P : Program} {md : Region.Mode} {l : List Oper} {Q : Exit → Act → World → Prop} (r : Nat) (hc : calmB l = true) : ∀ (fuel : Nat) (listed : Array Bool) (a : Act) (w : World),
    wpAnyIn Fence.wide n P md l.toArray Q fuel listed a w → wpAnyIn (Fence.wide.inRound r) n P md l.toArray Q fuel listed a w
  | 0, _, _, _, h => h
  | fuel + 1, listed, a, w, h => by
    refine ⟨h.1, fun i hi => ?_⟩
    have h2 := h.2 i hi
    unfold wpOpIn at h2 ⊢
    cases ho : l.toArray[i]? with
    | none =>
      rw [ho] at h2
      exact wpAnyIn_round r hc fuel _ a w h2
    | some o =>
      rw [ho] at h2
      simp only at h2 ⊢
      split
      · rename_i hw
        rw [if_pos hw] at h2
        have h3 := Oper.wpIn_mono (fun a' w' => wpAnyIn_round r hc fuel _ a' w') h2
        unfold Oper.wpIn at h3 ⊢
        rw [Oper.semAt_eq _ _ _ (calm_at hc ho)] at h3 ⊢
        exact h3
      · rename_i hw
        rw [if_neg hw] at h2
        exact ⟨h2.1, wpAnyIn_round r hc fuel _ _ w h2.2⟩
/-- A region of reads inside a round. -/
theorem wpIn_region_round {n id r : Nat} {P : Program} {Q : Exit → Act → World → Prop} {a : Act} {w : World} {l : List Oper} (hm : P.follows .mixedOrders = true) (hB : Region.lexB .any l.toArray = true) (hc : calmB l = true)
    (h : wpQuietIn Fence.wide n P l.toArray (fun w' => ∃ n, w' = w.drewN n) (fun a' => ∀ w', (∃ n, w' = w.drewN n) → Q .normal a' w') l a) : (Code.region id l.toArray true).wpIn (Fence.wide.inRound r) n P Q a w := by
  simp only [Region.lexB, Bool.and_eq_true] at hB
  refine wpIn_region_any hm (wpAnyIn_round r hc _ _ _ _ (wpAnyIn_of_quiet (C := fun w' => ∃ n, w' = w.drewN n) (Q := fun a' => ∀ w', (∃ n, w' = w.drewN n) → Q .normal a' w') rfl (fun _ w' hw' h => h w' hw') _ _ _ _ ⟨1, rfl⟩ ?_))
  have := wpAnyQIn_lex (F := Fence.wide) (n := n) (C := fun w' => ∃ n, w' = w.drewN n) (md := .any) hB.1 l 0 (Array.replicate l.toArray.size false) a (by simp) (by simpa using hB.2) h
  simpa using this
end Go.Proofs.YtfnfegcjgnbgbaaGreatDoor
namespace Go.Proofs.YtfnfegcjgnbgbaaGreatDoor
open Go.RowKit

/-- No call but of len, no defer, no select, and no guard. -/
def plainB (o : Oper) : Bool := o.guard.isNone && (match o.op with | .call c => (match c.callee with | .builtin .len => true | _ => false) | .defer _ => false | .select _ _ => false | _ => true)
/-- Each reads what another writes behind it alone. -/
def seesB (ops : List Oper) (o : Oper) : Bool :=
  o.op.operands.toList.all fun x => match x with
    | .tmp t => (List.range ops.length).all fun k => match ops[k]? with
      | some o' => !decide (o'.dst = some t) || o.after.toList.any fun e => Region.binds .any e && decide (e.on = k)
      | none => true
    | _ => true
/-- What is asked of such a region: plain operations, edges that lead back, the last one behind all. -/
def readsB (ops : List Oper) (last : Nat) : Bool :=
  (List.range ops.length).all fun j => match ops[j]? with
    | none => true
    | some o => plainB o && seesB ops o && (o.after.toList.all fun e => decide (e.on < j)) &&
        (if j = last then o.dst.isNone && (List.range ops.length).all fun k => decide (k = last) || o.after.toList.any fun e => Region.binds .any e && decide (e.on = k) else o.dst.isSome)
/-- Each read's value is what stands at its temporary. -/
def Reads (P : Program) (full : Array Value) (w : World) : List Oper → Prop
  | [] => True
  | o :: l => (∃ d v, o.dst = some d ∧ full[d]? = some v ∧ (execOp (Act.mk full []).eval o).run P w = .ok (.value v) w) ∧ Reads P full w l
theorem reads_at {P : Program} {full : Array Value} {w : World} : ∀ {l : List Oper} {j : Nat} {o : Oper}, Reads P full w l → l[j]? = some o → ∃ d v, o.dst = some d ∧ full[d]? = some v ∧ (execOp (Act.mk full []).eval o).run P w = .ok (.value v) w
  | [], j, o, _, h => by simp at h
  | x :: l, 0, o, hr, h => by cases h; exact hr.1
  | x :: l, j + 1, o, hr, h => reads_at hr.2 (by simpa using h)
theorem plain_about {o : Oper} (h : plainB o = true) (P : Program) (w : World) (ρ : Operand → Value) : o.about P w ρ = none := by
  unfold plainB at h
  unfold Oper.about
  cases ho : o.op with
  | call c =>
    simp only [ho, Bool.and_eq_true] at h
    obtain ⟨_, h⟩ := h
    cases hc : c.callee with
    | builtin b => simp [resolve, hc, Target.leads]
    | _ => rw [hc] at h; cases h
  | _ => rfl
theorem plain_defer {o : Oper} (h : plainB o = true) (c : Call) : o.op ≠ .defer c := fun e => by simp [plainB, e] at h
theorem plain_select {o : Oper} (h : plainB o = true) (cs : Array SelectCase) (b : Bool) : o.op ≠ .select cs b := fun e => by simp [plainB, e] at h
theorem plain_guard {o : Oper} (h : plainB o = true) : o.guard = none := by
  simp only [plainB, Bool.and_eq_true, Option.isNone_iff_eq_none] at h
  exact h.1

section
variable {F : Fence} {n : Nat} {P : Program} {l : List Oper} {Q : Exit → Act → World → Prop} {w w1 : World} {full : Array Value} {ds : List Deferred} {last : Nat} {ol : Oper}
theorem readsB_at (h : readsB l last = true) {j : Nat} {o : Oper} (ho : l[j]? = some o) : plainB o = true ∧ seesB l o = true ∧ (∀ e ∈ o.after, e.on < j) ∧
    (j = last → o.dst = none ∧ ∀ k, k < l.length → k ≠ last → ∃ e ∈ o.after, Region.binds .any e = true ∧ e.on = k) := by
  have hj : j < l.length := (List.getElem?_eq_some_iff.1 ho).1
  have := List.all_eq_true.1 h j (List.mem_range.2 hj)
  simp only [ho, Bool.and_eq_true] at this
  obtain ⟨⟨⟨h1, h2⟩, h3⟩, h4⟩ := this
  refine ⟨h1, h2, fun e he => by simpa using List.all_eq_true.1 h3 e (by simpa using he), fun e => ?_⟩
  rw [if_pos e] at h4
  simp only [Bool.and_eq_true, Option.isNone_iff_eq_none] at h4
  refine ⟨h4.1, fun k hk hne => ?_⟩
  have h5 := List.all_eq_true.1 h4.2 k (List.mem_range.2 hk)
  simp only [Bool.or_eq_true, decide_eq_true_eq, hne, false_or, List.any_eq_true, Bool.and_eq_true] at h5
  obtain ⟨e, he, h6, h7⟩ := h5
  exact ⟨e, by simpa using he, h6, h7⟩
/-- How far the reads have come. -/
def Come (l : List Oper) (full : Array Value) (ds : List Deferred) (last : Nat) (listed : Array Bool) (a : Act) : Prop :=
  listed.size = l.length ∧ listed.getD last true = false ∧ (a.tmps.size = full.size ∧ a.defers = ds) ∧ ∀ t, (∀ k o, l[k]? = some o → o.dst = some t → listed.getD k false = true) → a.tmps.getD t undef = full.getD t undef
theorem come_eval {listed : Array Bool} {a : Act} (hc : Come l full ds last listed a) {o : Oper} (hp : plainB o = true) (hs : seesB l o = true) (hd : ∀ e ∈ o.after, Region.binds .any e = true → listed.getD e.on false = true) : execOp a.eval o = execOp (Act.mk full []).eval o := by
  refine execOp_congr o (plain_select hp) fun x hx => ?_
  cases x with
  | tmp t =>
    show a.tmps.getD t undef = full.getD t undef
    refine hc.2.2.2 t fun k o' hk ht => ?_
    have h1 := List.all_eq_true.1 hs (.tmp t) (by simpa using hx)
    have h2 := List.all_eq_true.1 h1 k (List.mem_range.2 (List.getElem?_eq_some_iff.1 hk).1)
    simp only [hk, ht, decide_true, Bool.not_true, Bool.false_or, List.any_eq_true, Bool.and_eq_true, decide_eq_true_eq] at h2
    obtain ⟨e, he, h3, rfl⟩ := h2
    exact hd e (by simpa using he) h3
  | const v => rfl
  | global g => rfl
  | func f => rfl
theorem some_ready (hB : readsB l last = true) {listed : Array Bool} (hs : listed.size = l.length) : ∀ j, j < l.length → listed.getD j true = false → ∃ i, i ∈ Region.ready .any l.toArray listed := by
  intro j
  induction j using Nat.strongRecOn with
  | ind j ih =>
    intro hj hun
    obtain ⟨o, ho⟩ : ∃ o, l[j]? = some o := ⟨_, List.getElem?_eq_getElem hj⟩
    obtain ⟨_, _, hback, _⟩ := readsB_at hB ho
    by_cases hall : ∀ e ∈ o.after, Region.binds .any e = true → listed.getD e.on false = true
    · exact ⟨j, mem_ready.2 ⟨hun, o, by simpa using ho, hall⟩⟩
    · simp only [Classical.not_forall] at hall
      obtain ⟨e, he, hb, hne⟩ := hall
      refine ih e.on (hback e he) (by have := hback e he; omega) ?_
      have hlt : e.on < listed.size := by have := hback e he; omega
      simp only [Array.getD_eq_getD_getElem?, Array.getElem?_eq_getElem hlt, Option.getD_some] at hne ⊢
      simpa using hne
theorem wpAnyIn_reads (hB : readsB l last = true) (hl : l[last]? = some ol) (hR : Reads P full w (l.take last)) (hlen : l.length = last + 1) (hw : (execOp (Act.mk full []).eval ol).run P w = .ok .skip w1) (hQ : Q .normal (Act.mk full ds) w1) :
    ∀ (fuel : Nat) (listed : Array Bool) (a : Act), listed.toList.count false ≤ fuel → Come l full ds last listed a → wpAnyIn F n P .any l.toArray Q fuel listed a w := by
  have hlast : last < l.length := (List.getElem?_eq_some_iff.1 hl).1
  intro fuel
  induction fuel with
  | zero =>
    intro listed a hf hc
    have hlt : last < listed.size := by rw [hc.1]; exact hlast
    have h1 := hc.2.1
    simp only [Array.getD_eq_getD_getElem?, Array.getElem?_eq_getElem hlt, Option.getD_some] at h1
    have : 0 < listed.toList.count false := List.count_pos_iff.2 (by rw [← h1]; simp)
    omega
  | succ fuel ih =>
    intro listed a hf hc
    refine ⟨fun h => ?_, fun i hi => ?_⟩
    · obtain ⟨i, hi⟩ := some_ready hB hc.1 last hlast hc.2.1
      rw [h] at hi
      cases hi
    · obtain ⟨hun, o, ho, hd⟩ := mem_ready.1 hi
      have ho' : l[i]? = some o := by simpa using ho
      have hil : i < l.length := (List.getElem?_eq_some_iff.1 ho').1
      have hilt : i < listed.size := by rw [hc.1]; exact hil
      obtain ⟨hp, hs, hback, hend⟩ := readsB_at hB ho'
      have he := come_eval hc hp hs hd
      have hcnt : (listed.setIfInBounds i true).toList.count false ≤ fuel := by
        have h1 := hun
        simp only [Array.getD_eq_getD_getElem?, Array.getElem?_eq_getElem hilt, Option.getD_some] at h1
        have h2 : listed.toList[i]'(by simpa using hilt) = false := by simpa using h1
        have h3 : (listed.setIfInBounds i true).toList.count false = listed.toList.count false - 1 := by
          rw [Array.toList_setIfInBounds, List.count_set (by simpa using hilt), h2]
          rfl
        omega
      unfold wpOpIn
      rw [ho]
      simp only [Region.wanted, plain_guard hp, if_true]
      unfold Oper.wpIn
      refine ⟨fun f hf => (by rw [plain_about hp] at hf; cases hf), ?_⟩
      rw [Oper.semAt_eq _ _ _ (plain_defer hp), he]
      by_cases hil' : i = last
      · subst hil'
        obtain rfl : o = ol := Option.some.inj (ho'.symm.trans hl)
        obtain ⟨hdst, hal⟩ := hend rfl
        rw [hw]
        show wpAnyIn F n P .any l.toArray Q fuel (listed.setIfInBounds i true) (a.put o.dst undef) w1
        have hfull : a.put o.dst undef = Act.mk full ds := by
          rw [hdst]
          have e1 : a.tmps = full := by
            refine Array.ext hc.2.2.1.1 fun t h1 h2 => ?_
            have h3 := hc.2.2.2 t fun k o' hk hkt => by
              by_cases hki : k = i
              · subst hki
                rw [ho'] at hk
                cases hk
                rw [hdst] at hkt
                cases hkt
              · obtain ⟨e, he1, he2, rfl⟩ := hal k (List.getElem?_eq_some_iff.1 hk).1 hki
                exact hd e he1 he2
            rw [Array.getD_eq_getD_getElem?, Array.getD_eq_getD_getElem?, Array.getElem?_eq_getElem h1, Array.getElem?_eq_getElem h2] at h3
            exact h3
          show a = _
          cases a
          simp only at e1
          have e2 := hc.2.2.1.2
          simp only at e2
          rw [e1, e2]
        rw [hfull]
        refine wpAnyIn_done ?_ hQ fuel
        refine List.eq_nil_iff_forall_not_mem.2 fun j hj => ?_
        obtain ⟨hjun, oj, hoj, _⟩ := mem_ready.1 hj
        have hjl : j < l.length := by have : l[j]? = some oj := by simpa using hoj
                                      exact (List.getElem?_eq_some_iff.1 this).1
        by_cases hji : j = i
        · subst hji
          simp [Array.getD_eq_getD_getElem?, hilt] at hjun
        · obtain ⟨e, he1, he2, rfl⟩ := hal j hjl hji
          have h1 := hd e he1 he2
          have hjlt : e.on < listed.size := by rw [hc.1]; exact hjl
          rw [Array.getD_eq_getD_getElem?, Array.getElem?_setIfInBounds_ne (fun q => hji q.symm), Array.getElem?_eq_getElem hjlt] at hjun
          rw [Array.getD_eq_getD_getElem?, Array.getElem?_eq_getElem hjlt] at h1
          simp at h1 hjun
          rw [h1] at hjun
          cases hjun
      · obtain ⟨d, v, hdst, hfd, hrun⟩ := reads_at hR (j := i) (o := o) (by rw [List.getElem?_take_of_lt (by omega)]; exact ho')
        rw [hrun]
        show wpAnyIn F n P .any l.toArray Q fuel (listed.setIfInBounds i true) (a.put o.dst v) w
        refine ih _ _ hcnt ⟨by simp [hc.1], ?_, ?_, fun t ht => ?_⟩
        · have := hc.2.1
          rw [Array.getD_eq_getD_getElem?] at this ⊢
          rw [Array.getElem?_setIfInBounds_ne hil']
          exact this
        · rw [hdst]
          exact ⟨by simp [Act.put, hc.2.2.1.1], hc.2.2.1.2⟩
        · rw [hdst]
          simp only [Act.put]
          have hdl : d < full.size := (Array.getElem?_eq_some_iff.1 hfd).1
          by_cases htd : t = d
          · subst htd
            rw [Array.getD_eq_getD_getElem?, Array.getD_eq_getD_getElem?, hfd, Array.getElem?_setIfInBounds_self_of_lt (by rw [hc.2.2.1.1]; exact hdl)]
          · rw [Array.getD_eq_getD_getElem?, Array.getElem?_setIfInBounds_ne (fun q => htd q.symm), ← Array.getD_eq_getD_getElem?]
            refine hc.2.2.2 t fun k o' hk hkt => ?_
            have h1 := ht k o' hk hkt
            have hki : k ≠ i := fun q => by
              subst q
              rw [ho'] at hk
              cases hk
              rw [hdst] at hkt
              cases hkt
              exact htd rfl
            rw [Array.getD_eq_getD_getElem?, Array.getElem?_setIfInBounds_ne (fun q => hki q.symm), ← Array.getD_eq_getD_getElem?] at h1
            exact h1
/-- Some temporaries written. -/
def puts (ts : Array Value) : List (Tmp × Value) → Array Value
  | [] => ts
  | p :: r => puts (ts.setIfInBounds p.1 p.2) r
theorem puts_size : ∀ (r : List (Tmp × Value)) (ts : Array Value), (puts ts r).size = ts.size
  | [], _ => rfl
  | p :: r, ts => by rw [puts, puts_size r]; simp
theorem puts_other (t : Tmp) : ∀ (r : List (Tmp × Value)) (ts : Array Value), (∀ p ∈ r, p.1 ≠ t) → (puts ts r).getD t undef = ts.getD t undef
  | [], _, _ => rfl
  | p :: r, ts, h => by
    rw [puts, puts_other t r _ fun q hq => h q (List.mem_cons_of_mem _ hq)]
    rw [Array.getD_eq_getD_getElem?, Array.getElem?_setIfInBounds_ne (h p List.mem_cons_self), ← Array.getD_eq_getD_getElem?]
/-- A region of reads, in any order, and one write behind them. vals: what each read puts where. -/
theorem wpIn_region_reads {id : Nat} {a : Act} (last : Nat) (vals : List (Tmp × Value)) (full : Array Value) {ol : Oper} (hm : P.follows .mixedOrders = true) (hB : readsB l last = true) (hl : l[last]? = some ol) (hlen : l.length = last + 1)
    (hd : (vals.all fun p => l.any fun o => decide (o.dst = some p.1)) = true) (hf : puts a.tmps vals = full) (hR : Reads P full w.drew (l.take last)) (hw : (execOp (Act.mk full []).eval ol).run P w.drew = .ok .skip w1) (hQ : Q .normal (Act.mk full a.defers) w1) :
    (Code.region id l.toArray true).wpIn F n P Q a w := by
  subst hf
  refine wpIn_region_any hm ?_
  refine wpAnyIn_reads (w := w.drew) hB hl hR hlen hw hQ _ _ a ?_ ⟨by simp, by simp [Array.getD_eq_getD_getElem?, hlen], ⟨(puts_size _ _).symm, rfl⟩, fun t ht => (puts_other t vals a.tmps fun p hp e => ?_).symm⟩
  · simp
  · have h1 := List.all_eq_true.1 hd p hp
    obtain ⟨o, ho, h2⟩ := List.any_eq_true.1 h1
    obtain ⟨k, hk, rfl⟩ := List.mem_iff_getElem.1 ho
    have := ht k _ (List.getElem?_eq_getElem hk) (by rw [← e]; simpa using h2)
    simp [Array.getD_eq_getD_getElem?, Array.getElem?_replicate] at this
    split at this <;> cases this
end
end Go.Proofs.YtfnfegcjgnbgbaaGreatDoor
namespace Go.Proofs.YtfnfegcjgnbgbaaGreatDoor
open Go.RowKit

theorem cnt_small : ∀ n : Nat, n ≤ 1048576 → cnt n = n
  | 0, _ => rfl
  | n + 1, h => by
    simp only [cnt]
    rw [cnt_small n (by omega), wrap64]
    omega
end Go.Proofs.YtfnfegcjgnbgbaaGreatDoor
namespace Go.Proofs.YtfnfegcjgnbgbaaGreatDoor
open Go.RowKit Go.Shelf

theorem infoW : (Tryz.prog.info? 3).map (fun i => (i.zero, i.size, i.bytes)) = some (some (.int .i64 0), 1, 8) := by kernel_rfl
/-- Whole numbers as cells. -/
def waysI (l : List Int) : List Value := l.map fun i => Value.int .i64 i
theorem waysI_snoc (l : List Int) (i : Int) : waysI (l ++ [i]) = waysI l ++ [.int .i64 i] := by simp [waysI]
/-- A row of whole numbers. -/
abbrev Wy (W : World) (base : Nat) (v : Value) (l : List Int) : Prop := W.ownsRow base 3 1 v l.length (waysI l)
theorem Wy.shape {W : World} {base : Nat} {v : Value} {l : List Int} (h : Wy W base v l) : ∃ a cap, v = .slice a l.length cap ∧ (∀ b, v.ownBlock = some b → a = some ⟨b, 0, none⟩) ∧ l.length ≤ cap ∧ cap ≤ maxLen := by
  rcases h.2 with ⟨rfl, e⟩ | ⟨g, cap, cur, rfl, h1, h2, h3, h4, h5, h6⟩
  · exact ⟨none, 0, by rw [e], fun b hb => (by cases hb), by omega, by decide⟩
  · exact ⟨_, cap, rfl, fun b hb => (by cases hb; rfl), h3, h4⟩
theorem Wy.drew {W : World} {base : Nat} {v : Value} {l : List Int} (h : Wy W base v l) : Wy W.drew base v l := h
/-- A block of whole numbers. -/
def IntB (W : World) (k : Nat) : Prop := ∃ cur, W.heap[k]? = some (.cells cur 3 (0, 0))
theorem Wy.intB {W : World} {base : Nat} {v : Value} {l : List Int} (h : Wy W base v l) {k : Nat} (hk : v.ownBlock = some k) : IntB W k := by
  rcases h.2 with ⟨rfl, e⟩ | ⟨g, cap, cur, rfl, h1, h2, h3, h4, h5, h6⟩
  · cases hk
  · cases hk; exact ⟨cur, h2⟩
/-- One number more: where it may lie, and what is kept. -/
structure Step (base : Nat) (W W' : World) (v v' : Value) (l : List Int) (i : Int) : Prop where
  own : Wy W' base v' (l ++ [i])
  old : Wy W' base v l
  grown : W.grownBy W' v.ownBlock
  was : Wy W base v l
  at' : (∃ g cap, v = .slice (some ⟨g, 0, none⟩) l.length cap ∧ v' = .slice (some ⟨g, 0, none⟩) (l.length + 1) cap) ∨ v'.ownBlock = some W.heap.size
theorem way_append {W : World} {base : Nat} {v : Value} {l : List Int} (h : Wy W base v l) (hb : base ≤ W.heap.size) (hn : l.length ≤ 1048576) {g : Nat} {i : Int} {t : TypeId} (hg : Boxed W g t (.int .i64 i)) :
    ∃ v' W', (Builtin.append_ #[39, 39] 39 #[v, .slice (some ⟨g, 0, none⟩) 1 1]).run Tryz.prog W = .ok v' W' ∧ Step base W W' v v' l i := by
  obtain ⟨i0, hi, hz0, hz1, hz2⟩ := info_parts infoW
  have hcell : ∀ (j : Nat) (y : Value), [Value.int .i64 i][j]? = some y → W.cell? ((⟨g, 0, none⟩ : Addr).add j) = some y := fun j y hy => by
    match j, hy with
    | 0, hy =>
      simp at hy
      subst hy
      exact hg.cell
  obtain ⟨v', W', hrun, hown', hgrow, -, hblk⟩ := run_append_own_at (P := Tryz.prog) (w := W) base 39 39 3 i0 (.int .i64 0) 1 8 Tryz.underlying39 hi hz0 hz1 hz2 rfl (by decide) v _ _ h ⟨g, 0, none⟩ 1 1 [.int .i64 i] rfl
    hcell (by simp [Value.oneCell']) (by unfold maxLen; omega) (by omega) hb
  refine ⟨v', W', hrun, ⟨by simpa [Wy, waysI_snoc] using hown', ?_, hgrow, h, ?_⟩⟩
  · rcases h.2 with ⟨rfl, e⟩ | ⟨b, cap, cur, rfl, h1, h2, h3, h4, h5, h6⟩
    · refine ⟨by simp [waysI], .inl ⟨rfl, e⟩⟩
    · by_cases hroom : l.length + 1 ≤ cap
      · have hr := run_append_room (P := Tryz.prog) W 39 39 3 i0 Tryz.underlying39 hi b l.length cap cur h2 ⟨g, 0, none⟩ 1 1 [.int .i64 i] (by rw [hz1]; rfl) hcell (by simp [Value.oneCell']) hroom (by rw [hz1]; simp; omega)
        rw [hrun] at hr
        injection hr with e1 e2
        subst e1 e2
        refine ⟨by simp [waysI], .inr ⟨b, cap, _, rfl, h1, setRow_heap W b cur _ 3 _ h2, h3, h4, ?_, ?_⟩⟩
        · simp only [hz1, List.size_toArray, List.length_append, List.length_take, List.length_drop, Array.length_toList, List.length_cons, List.length_nil]
          omega
        · rw [hz1]
          simp only [List.append_assoc]
          rw [List.take_append_of_le_length (by simp; omega), List.take_take, Nat.min_self]
          exact h6
      · rcases hblk with e | e
        · exfalso
          rcases hown'.2 with ⟨rfl, e0⟩ | ⟨g', cap', cur', rfl, -, q2, q3, -, q5, -⟩
          · simp [Value.ownBlock] at e
          · have hr := run_append_grow (P := Tryz.prog) W 39 39 3 i0 (.int .i64 0) Tryz.underlying39 hi hz0 ⟨b, 0, none⟩ l.length cap (waysI l) (by rw [hz1]; simp [waysI]) (h.cells (g := b) rfl) ⟨g, 0, none⟩ 1 1 [.int .i64 i] (by rw [hz1]; rfl) hcell (by omega) (by omega) (growslice_fits (by omega) (by rw [hz2]; omega))
            rw [hrun] at hr
            injection hr with e1 e2
            simp only [Value.ownBlock] at e
            injection e with e
            injection e1 with e1
            injection e1 with e1
            injection e1 with e1
            have := (Array.getElem?_eq_some_iff.1 h2).1
            omega
        · have hlt := (Array.getElem?_eq_some_iff.1 h2).1
          have hr := run_append_grow (P := Tryz.prog) W 39 39 3 i0 (.int .i64 0) Tryz.underlying39 hi hz0 ⟨b, 0, none⟩ l.length cap (waysI l) (by rw [hz1]; simp [waysI]) (h.cells (g := b) rfl) ⟨g, 0, none⟩ 1 1 [.int .i64 i] (by rw [hz1]; rfl) hcell (by omega) (by omega) (growslice_fits (by omega) (by rw [hz2]; omega))
          rw [hrun] at hr
          injection hr with e1 e2
          subst e2
          exact (show Wy W.drew base _ l from ⟨by simp [waysI], .inr ⟨b, cap, cur, rfl, h1, h2, h3, h4, h5, h6⟩⟩).alloc _
  · rcases hblk with e | e
    · rcases h.2 with ⟨rfl, e0⟩ | ⟨b, cap, cur, rfl, h1, h2, h3, h4, h5, h6⟩
      · exfalso
        rcases hown'.2 with ⟨rfl, e0⟩ | ⟨g', cap', cur', rfl, -, q2, q3, -, q5, -⟩
        · omega
        · simp [Value.ownBlock] at e
      · by_cases hroom : l.length + 1 ≤ cap
        · have hr := run_append_room (P := Tryz.prog) W 39 39 3 i0 Tryz.underlying39 hi b l.length cap cur h2 ⟨g, 0, none⟩ 1 1 [.int .i64 i] (by rw [hz1]; rfl) hcell (by simp [Value.oneCell']) hroom (by rw [hz1]; simp; omega)
          rw [hrun] at hr
          injection hr with e1 e2
          exact .inl ⟨b, cap, rfl, e1⟩
        · have hr := run_append_grow (P := Tryz.prog) W 39 39 3 i0 (.int .i64 0) Tryz.underlying39 hi hz0 ⟨b, 0, none⟩ l.length cap (waysI l) (by rw [hz1]; simp [waysI]) (h.cells (g := b) rfl) ⟨g, 0, none⟩ 1 1 [.int .i64 i] (by rw [hz1]; rfl) hcell (by omega) (by omega) (growslice_fits (by omega) (by rw [hz2]; omega))
          rw [hrun] at hr
          injection hr with e1 e2
          exact .inr (by rw [e1]; rfl)
    · exact .inr e
theorem Wy.prefix {W : World} {base g cap : Nat} {l : List Int} {i : Int} (h : Wy W base (.slice (some ⟨g, 0, none⟩) (l.length + 1) cap) (l ++ [i])) (hc : l.length ≤ cap) : Wy W base (.slice (some ⟨g, 0, none⟩) l.length cap) l := by
  rcases h.2 with ⟨e, -⟩ | ⟨g', cap', cur, e, h1, h2, h3, h4, h5, h6⟩
  · cases e
  · injection e with e1 e2 e3
    injection e1 with e1
    injection e1 with e1
    subst e1 e3
    refine ⟨by simp [waysI], .inr ⟨g, cap, cur, rfl, h1, h2, hc, h4, h5, ?_⟩⟩
    have := congrArg (List.take (l.length * 1)) h6
    rw [List.take_take, waysI_snoc, List.take_append_of_le_length (by simp [waysI])] at this
    rw [show min (l.length * 1) ((l ++ [i]).length * 1) = l.length * 1 by simp] at this
    rw [this, List.take_of_length_le (by simp [waysI])]
theorem Wy.same {W W' : World} {base : Nat} {v : Value} {l : List Int} (h : Wy W base v l) (hb : ∀ k c, v.ownBlock = some k → W.heap[k]? = some (.cells c 3 (0, 0)) → W'.heap[k]? = some (.cells c 3 (0, 0))) : Wy W' base v l := by
  refine ⟨h.1, ?_⟩
  rcases h.2 with h2 | ⟨g, cap, cur, rfl, h1, h2, h3⟩
  · exact .inl h2
  · exact .inr ⟨g, cap, cur, rfl, h1, hb g cur rfl h2, h3⟩
/-- Is it no type of what the notes lie in? -/
abbrev NoNote (t : TypeId) : Prop := t ≠ 56 ∧ t ≠ 31
/-- Blocks that hold neither notes nor lists of notes, and those of T, stay. -/
structure Ks (T : Nat → Prop) (W W' : World) : Prop where
  size : W.heap.size ≤ W'.heap.size
  block : ∀ (k : Nat) (c : Array Value) (t : TypeId) (f : Nat × Nat), (T k ∨ NoNote t) → W.heap[k]? = some (.cells c t f) → W'.heap[k]? = some (.cells c t f)
/-- The same, but for one row: what it held stays in it. -/
structure Kw (T : Nat → Prop) (base : Nat) (v : Value) (l : List Int) (W W' : World) : Prop where
  own : Wy W' base v l
  size : W.heap.size ≤ W'.heap.size
  block : ∀ (k : Nat) (c : Array Value) (t : TypeId) (f : Nat × Nat), v.ownBlock ≠ some k → (T k ∨ NoNote t) → W.heap[k]? = some (.cells c t f) → W'.heap[k]? = some (.cells c t f)
theorem heap_lt {W : World} {k : Nat} {o : Obj} (h : W.heap[k]? = some o) : k < W.heap.size := (Array.getElem?_eq_some_iff.1 h).1
theorem noNote_int : NoNote 3 := by decide
theorem Ks.kw {T : Nat → Prop} {base : Nat} {v : Value} {l : List Int} {W W' : World} (h : Ks T W W') (hv : Wy W base v l) : Kw T base v l W W' :=
  ⟨hv.same fun k c _ hc => h.block k c _ _ (.inr noNote_int) hc, h.size, fun k c t f _ ht hc => h.block k c t f ht hc⟩
theorem Kw.grown {T : Nat → Prop} {base : Nat} {v : Value} {l : List Int} {W W' : World} (hv : Wy W base v l) (h : W.grownBy W' none) : Kw T base v l W W' :=
  ⟨hv.same fun k c _ hc => (h.block k (heap_lt hc) (by simp)).trans hc, h.size, fun k c t f _ _ hc => (h.block k (heap_lt hc) (by simp)).trans hc⟩
theorem Kw.trans {T : Nat → Prop} {base : Nat} {v : Value} {l : List Int} {A B C : World} (h : Kw T base v l A B) (g : Kw T base v l B C) : Kw T base v l A C :=
  ⟨g.own, Nat.le_trans h.size g.size, fun k c t f hk ht hc => g.block k c t f hk ht (h.block k c t f hk ht hc)⟩
theorem Kw.child {T : Nat → Prop} {base : Nat} {v v' : Value} {l : List Int} {i : Int} {A B C : World} (hs : Step base A B v v' l i) (h : Kw T base v' (l ++ [i]) B C) (hcap : ∀ a n cap, v = .slice a n cap → n ≤ cap) : Kw T base v l A C := by
  refine ⟨?_, Nat.le_trans hs.grown.size h.size, fun k c t f hk ht hc => h.block k c t f ?_ ht ((hs.grown.block k (heap_lt hc) (fun e => hk e.symm)).trans hc)⟩
  · rcases hs.at' with ⟨g, cap, rfl, rfl⟩ | e
    · exact h.own.prefix (hcap _ _ _ rfl)
    · refine hs.old.same fun k c hk hc => h.block k c _ _ ?_ (.inr noNote_int) hc
      intro q
      rw [e] at q
      injection q with q
      have := (hs.was.lt k hk).2
      omega
  · intro q
    rcases hs.at' with ⟨g, cap, rfl, rfl⟩ | e
    · exact hk q
    · rw [e] at q
      injection q with q
      have := heap_lt hc
      omega
theorem Kw.other {T : Nat → Prop} {base : Nat} {v : Value} {l : List Int} {W W' : World} (h : Kw T base v l W W') (hv : Wy W base v l) {k : Nat} {c : Array Value} {t : TypeId} {f : Nat × Nat} (hc : W.heap[k]? = some (.cells c t f)) (ht : NoNote t) (hi : t ≠ 3) : W'.heap[k]? = some (.cells c t f) := by
  refine h.block k c t f (fun e => ?_) (.inr ht) hc
  obtain ⟨cur, hcur⟩ := hv.intB e
  rw [hc] at hcur
  injection hcur with hcur
  injection hcur with _ q
  exact hi q
end Go.Proofs.YtfnfegcjgnbgbaaGreatDoor
namespace Go.Proofs.YtfnfegcjgnbgbaaGreatDoor
open Go.RowKit

/-- Does a dialect lack it? -/
def lacksB (d z : Int) : Bool := (d == 1 && z == 2) || (d == 2 && (z == 4 || z == 8 || z == 10 || z == 11 || z == 13)) || (d == 3 && (z == 6 || z == 7 || z == 9 || z == 14))
def thingB (z : Int) : Bool := decide (1 ≤ z) && decide (z ≤ 14)
def dialB (z : Int) : Bool := decide (1 ≤ z) && decide (z ≤ 3)
def wordD : List (List UInt8) := [[], [115, 101, 113], [97, 110, 100], [111, 114], [109, 97, 110, 121], [101, 120, 97, 99, 116], [110, 111, 116], [116, 97, 105, 108], [107, 101, 121], [97, 110, 121], [110, 101, 97, 114], [115, 116, 114, 105, 99, 116], [119, 105, 116, 104, 105, 110], [105, 116, 101, 109, 115], [100, 101, 101, 112]]
def wordS (k : Nat) : ByteArray := ⟨(wordD[k]?.getD []).toArray⟩
def wordC : Array Value := #[.string ⟨#[]⟩, .string ⟨#[115, 101, 113]⟩, .string ⟨#[97, 110, 100]⟩, .string ⟨#[111, 114]⟩, .string ⟨#[109, 97, 110, 121]⟩, .string ⟨#[101, 120, 97, 99, 116]⟩, .string ⟨#[110, 111, 116]⟩, .string ⟨#[116, 97, 105, 108]⟩, .string ⟨#[107, 101, 121]⟩, .string ⟨#[97, 110, 121]⟩, .string ⟨#[110, 101, 97, 114]⟩, .string ⟨#[115, 116, 114, 105, 99, 116]⟩, .string ⟨#[119, 105, 116, 104, 105, 110]⟩, .string ⟨#[105, 116, 101, 109, 115]⟩, .string ⟨#[100, 101, 101, 112]⟩]
def lackL : List Value := (List.range 60).map fun j => Value.bool (lacksB ((j / 15 : Nat) : Int) ((j % 15 : Nat) : Int))
def modeC : Array Value := #[.int .i64 9, .int .i64 10, .int .i64 11]
/-- The tables lie where the program's text lays them. -/
structure AbT (w : World) : Prop where
  modes : ∃ t f, w.heap[0]? = some (.cells modeC t f)
  lacked : ∃ t f, w.heap[1]? = some (.cells lackL.toArray t f)
  words : ∃ t f, w.heap[2]? = some (.cells wordC t f)
theorem AbT.later {w w' : World} (h : AbT w) (hb : Below w.heap.size w w') : AbT w' := by
  obtain ⟨⟨t1, f1, h1⟩, ⟨t2, f2, h2⟩, ⟨t3, f3, h3⟩⟩ := h
  exact ⟨⟨t1, f1, (hb.block _ (heap_lt h1)).trans h1⟩, ⟨t2, f2, (hb.block _ (heap_lt h2)).trans h2⟩, ⟨t3, f3, (hb.block _ (heap_lt h3)).trans h3⟩⟩
theorem cell_heap {w : World} {g k : Nat} {c : Array Value} {t : TypeId} {f : Nat × Nat} (h : w.heap[g]? = some (.cells c t f)) : w.cell? ⟨g, k, none⟩ = c[k]? := by simp [World.cell?, h]
theorem cell_lack {w : World} (h : AbT w) (d k : Nat) (hd : d ≤ 3) (hk : k < 15) : w.cell? ⟨1, d * 15 + k, none⟩ = some (.bool (lacksB d k)) := by
  obtain ⟨t, f, hh⟩ := h.lacked
  rw [cell_heap hh]
  have hj : d * 15 + k < 60 := by omega
  have e1 : (d * 15 + k) / 15 = d := by omega
  have e2 : (d * 15 + k) % 15 = k := by omega
  simp only [lackL, List.getElem?_toArray, List.getElem?_map, List.getElem?_range hj, Option.map_some, e1, e2]
theorem cell_mode {w : World} (h : AbT w) (k : Nat) (hk : k < 3) : w.cell? ⟨0, k, none⟩ = some (.int .i64 ((k : Int) + 9)) := by
  obtain ⟨t, f, hh⟩ := h.modes
  rw [cell_heap hh]
  match k, hk with
  | 0, _ => rfl | 1, _ => rfl | 2, _ => rfl
  | k + 3, h => exact absurd h (by omega)
theorem cell_word {w : World} (h : AbT w) (k : Nat) (hk : k < 15) : w.cell? ⟨2, k, none⟩ = some (.string (wordS k)) := by
  obtain ⟨t, f, hh⟩ := h.words
  rw [cell_heap hh]
  match k, hk with
  | 0, _ => rfl | 1, _ => rfl | 2, _ => rfl | 3, _ => rfl | 4, _ => rfl | 5, _ => rfl | 6, _ => rfl | 7, _ => rfl | 8, _ => rfl | 9, _ => rfl | 10, _ => rfl | 11, _ => rfl | 12, _ => rfl | 13, _ => rfl | 14, _ => rfl
  | k + 15, h => exact absurd h (by omega)

set_option maxHeartbeats 400000 in
theorem thing_any (z : Int) (w : World) : Calls Tryz.prog 31 #[.int .i64 z] w fun e w' => e = .returned (.bool (thingB z)) ∧ w' = w := by
  go_enter Tryz.func31, Tryz.ntmps31
  go_wp2
  all_goals go_ret
  all_goals refine ⟨ret_bool ?_, rfl⟩
  all_goals (unfold thingB; rw [Bool.eq_iff_iff]; simp <;> omega)
set_option maxHeartbeats 400000 in
theorem dialect_any (z : Int) (w : World) : Calls Tryz.prog 33 #[.int .i64 z] w fun e w' => e = .returned (.bool (dialB z)) ∧ w' = w := by
  go_enter Tryz.func33, Tryz.ntmps33
  go_wp2
  all_goals go_ret
  all_goals refine ⟨ret_bool ?_, rfl⟩
  all_goals (unfold dialB; rw [Bool.eq_iff_iff]; simp <;> omega)
theorem lacks_no {d z : Int} (h : ¬ (dialB d = true ∧ thingB z = true)) : lacksB d z = false := by
  rw [Bool.eq_false_iff]
  intro e
  simp only [lacksB, Bool.or_eq_true, Bool.and_eq_true, beq_iff_eq] at e
  refine h ⟨?_, ?_⟩ <;> simp only [dialB, thingB, Bool.and_eq_true, decide_eq_true_eq] <;> omega
set_option maxHeartbeats 1000000 in
theorem lacks_any (d z : Int) (w : World) (hT : AbT w) : Calls Tryz.prog 14 #[.int .i64 d, .int .i64 z] w fun e w' => e = .returned (.bool (lacksB d z)) ∧ w' = w := by
  have h1 := dialect_any d w
  have h2 := thing_any z w
  cases hd : dialB d with
  | false =>
    rw [hd] at h1
    rw [lacks_no (by rw [hd]; simp)]
    clear h2 hd
    go_enter Tryz.func14, Tryz.ntmps14
    go_wp2_with (go_at_call 33; refine h1.mono ?_; clear h1; rintro e w1 ⟨rfl, rfl⟩)
    go_ret
    exact ⟨rfl, rfl⟩
  | true =>
    cases hz : thingB z with
    | false =>
      rw [hd] at h1
      rw [hz] at h2
      rw [lacks_no (by rw [hz]; simp)]
      clear hd hz
      go_enter Tryz.func14, Tryz.ntmps14
      go_wp2_with (first
        | (go_at_call 33; refine h1.mono ?_; clear h1; rintro e w1 ⟨rfl, rfl⟩)
        | (go_at_call 31; refine h2.mono ?_; clear h2; rintro e w1 ⟨rfl, rfl⟩))
      go_ret
      exact ⟨rfl, rfl⟩
    | true =>
      rw [hd] at h1
      rw [hz] at h2
      simp only [dialB, thingB, Bool.and_eq_true, decide_eq_true_eq] at hd hz
      obtain ⟨p, rfl⟩ := Int.eq_ofNat_of_zero_le (show 0 ≤ d by omega)
      obtain ⟨q, rfl⟩ := Int.eq_ofNat_of_zero_le (show 0 ≤ z by omega)
      have hp : p < 4 := by omega
      have hq : q < 15 := by omega
      have hc := cell_lack hT p q (by omega) hq
      obtain ⟨r, hr⟩ : ∃ r, lacksB p q = r := ⟨_, rfl⟩
      rw [hr] at hc ⊢
      clear hd hz hT hr
      go_enter Tryz.func14, Tryz.ntmps14
      go_wp2_with (first
        | (go_at_call 33; refine h1.mono ?_; clear h1; rintro e w1 ⟨rfl, rfl⟩)
        | (go_at_call 31; refine h2.mono ?_; clear h2; rintro e w1 ⟨rfl, rfl⟩))
      go_ret
      exact ⟨rfl, rfl⟩
/-- What a thing is called. -/
def wordZ (z : Int) : ByteArray := if thingB z = true then wordS z.toNat else ⟨#[]⟩
set_option maxHeartbeats 1000000 in
theorem word_any (z : Int) (w : World) (hT : AbT w) : Calls Tryz.prog 16 #[.int .i64 z] w fun e w' => e = .returned (.string (wordZ z)) ∧ w' = w := by
  have h2 := thing_any z w
  unfold wordZ
  cases hz : thingB z with
  | false =>
    rw [hz] at h2
    rw [if_neg (by simp)]
    clear hz
    go_enter Tryz.func16, Tryz.ntmps16
    go_wp2_with (go_at_call 31; refine h2.mono ?_; clear h2; rintro e w1 ⟨rfl, rfl⟩)
    go_ret
    exact ⟨rfl, rfl⟩
  | true =>
    rw [hz] at h2
    rw [if_pos rfl]
    simp only [thingB, Bool.and_eq_true, decide_eq_true_eq] at hz
    obtain ⟨q, rfl⟩ := Int.eq_ofNat_of_zero_le (show 0 ≤ z by omega)
    have hq : q < 15 := by omega
    have hc := cell_word hT q hq
    rw [show ((q : Int)).toNat = q from rfl]
    clear hz hT
    go_enter Tryz.func16, Tryz.ntmps16
    go_wp2_with (go_at_call 31; refine h2.mono ?_; clear h2; rintro e w1 ⟨rfl, rfl⟩)
    go_ret
    exact ⟨rfl, rfl⟩
set_option maxHeartbeats 1000000 in
theorem awake22_any (w : World) (hT : AbT w) : Calls Tryz.prog 6 #[] w fun e w' => e = .returned (.bool true) ∧ w' = w := by
  have hc := word_any 2 w hT
  rw [show wordZ 2 = ⟨#[97, 110, 100]⟩ from rfl] at hc
  go_enter Tryz.func6, Tryz.ntmps6
  go_wp2_with (go_at_call 16; refine hc.mono ?_; clear hc; rintro e w2 ⟨rfl, rfl⟩)
  go_ret
  exact ⟨rfl, rfl⟩
end Go.Proofs.YtfnfegcjgnbgbaaGreatDoor
namespace Go.Proofs.YtfnfegcjgnbgbaaGreatDoor
open Go.RowKit

/-- A node's way, the kind of what it is a part of, and the node. -/
abbrev VN := List Int × Int × Pt
def visW (way : List Int) (ink : Int) : Pt → List VN
  | .nil => [(way, ink, .nil)]
  | .mk k s t lo hi a n cap c => (way, ink, .mk k s t lo hi a n cap c) :: catN (fun i => visW (way ++ [(i : Int)]) k (c i)) n
theorem visW_eq (way : List Int) (ink : Int) (x : Pt) : visW way ink x = (way, ink, x) :: catN (fun i => visW (way ++ [(i : Int)]) x.k (x.c i)) x.n := by cases x <;> rfl
theorem length_visW : ∀ (x : Pt) (way : List Int) (ink : Int), (visW way ink x).length = x.size := by
  refine Pt.ind fun x ih way ink => ?_
  have : ∀ m, m ≤ x.n → (catN (fun i => visW (way ++ [(i : Int)]) x.k (x.c i)) m).length = sumN (fun i => (x.c i).size) m := by
    intro m
    induction m with
    | zero => intro _; rfl
    | succ m ihm => intro hm; simp only [catN, sumN, List.length_append]; rw [ihm (by omega), ih m (by omega)]
  rw [visW_eq, x.size_eq, List.length_cons, this _ (Nat.le_refl _)]
  omega
end Go.Proofs.YtfnfegcjgnbgbaaGreatDoor
