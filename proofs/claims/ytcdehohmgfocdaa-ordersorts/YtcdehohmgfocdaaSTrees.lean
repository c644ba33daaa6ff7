/-
  Trees and what stays of memory: small facts that conditions and patterns share; of no function.
  A law on regions that draw their order, of no program: behind an operation the condition that the region is held under may be made stricter.
  Bytes and texts, for a seat without vint: slices of bytes as lists, what the call owns, append, a slice of bytes as a string and back; a string's bytes. (The like of GetAny, Put, Conv, App and Bytes, less what is vint's.)
  Small facts that many texts share: texts that are the same, names as keys, what stays; of no function.
  Of what came in: how much it is, cells of small types; of no function.
  Package value's small calls: Null, Bool, Int, Text.
  Slices that came in, by index: of integers, of strings.
  value.Order answers by K, then by N, then by S's bytes (P6.1).
  The order is an order: plain facts on 'ordZ'.
  Values as they lie in memory, one by itself and in a row; the first place of a name; of no function.
-/
import Derived.Test.YtcdehohmgfocdaaSBrief
import Derived.Test.YtcdehohmgfocdaaSExprRange
import Derived.Shelf.Abstract
import Derived.Shelf.RegionOpen
import Derived.WalkKit
import Derived.OwnWalkIn
import Derived.TacticsInMore
import Derived.LoopNIn
import Derived.LoopIn
import Derived.Deep.RegionHeld3
import Derived.Test.YtcdehohmgfocdaaRows
import Derived.WalkLawsBesides
import Derived.WalkSpells
import Derived.OpenShut
import Derived.Deep.LoopGhost
import Derived.Outline
import Derived.Laws.CopyOwn
import Derived.Laws.AppendOwn
import Derived.Laws.BytesString
import Derived.Laws.IdiomStrings
import Derived.Laws.RangeAny
import Derived.OwnWalk
import Derived.Lib.AppendStr
import Derived.Maps.OwnSet
import Derived.Deep.Strs
import Derived.Deep.RegionWith
import Derived.Below
import Derived.SizedLaws
import Derived.LoopN
namespace Go.Proofs.Ytcdehohmgfocdaa
open Go.RowKit Go.Shelf

theorem alloc_old {w : World} {o : Obj} {r : Nat} (h : r < w.heap.size) : (w.alloc o).heap[r]? = w.heap[r]? := Below.heap_alloc w o r h
theorem alloc_new (w : World) (o : Obj) : (w.alloc o).heap[w.heap.size]? = some o := World.alloc_heap_new w o
theorem alloc2_new (w : World) (A B : Obj) : ((w.alloc A).alloc B).heap[w.heap.size + 1]? = some B := by
  have h := World.alloc_heap_new (w.alloc A) B
  rwa [World.size_alloc] at h
/-- The sum of the first. -/
def sumN (f : Nat → Nat) : Nat → Nat
  | 0 => 0
  | n + 1 => sumN f n + f n
theorem sumN_le {f : Nat → Nat} : ∀ {n i : Nat}, i < n → f i ≤ sumN f n
  | 0, _, h => by omega
  | n + 1, i, h => by
    simp only [sumN]
    by_cases e : i = n
    · subst e; omega
    · have := sumN_le (f := f) (show i < n by omega); omega
theorem round_wide {m m' : Nat} {P : Program} {l : Nat} {f : FuncId} {tmps : Array Value} {assign body : Code} {w : World} {R : Ending → World → Prop}
    (h : RoundIn Fence.wide m P l f tmps assign body w R) : RoundIn Fence.wide m' P l f tmps assign body w R := ⟨h.1, fun c cs _ => h.2 c cs (fun d h => by cases h)⟩
theorem yield_wide {m : Nat} (m' : Nat) {P : Program} {l : Nat} {args : Array Value} {W : World} {R : Ending → World → Prop} (h : YieldAt Fence.wide m P l args W R) : YieldAt Fence.wide m' P l args W R := by
  obtain ⟨fn, tmps, assign, body, hy, hR⟩ := h
  exact ⟨fn, tmps, assign, body, hy, round_wide hR⟩

/-- The first of some lists, one behind the other. -/
def catN {α : Type} (f : Nat → List α) : Nat → List α
  | 0 => []
  | n + 1 => catN f n ++ f n
/-- Blocks of cells that stay as they are. -/
def Kp (T : Nat → Prop) (W W' : World) : Prop := ∀ (k : Nat) (o : Obj), T k → o.isCells = true → W.heap[k]? = some o → W'.heap[k]? = some o
theorem Kp.refl (T : Nat → Prop) (W : World) : Kp T W W := fun _ _ _ _ h => h
theorem Kp.trans {T : Nat → Prop} {A B C : World} (h : Kp T A B) (g : Kp T B C) : Kp T A C := fun k o hk ho e => g k o hk ho (h k o hk ho e)
theorem Kp.cell {T : Nat → Prop} {W W' : World} (h : Kp T W W') {p : Addr} {v : Value} (hp : T p.block) (hc : W.cell? p = some v) : W'.cell? p = some v := by
  obtain ⟨o, ho, hi⟩ := cells_of_cell hc
  rw [World.cell?_of_block (w := W) (w' := W') ((h _ _ hp hi ho).trans ho.symm)]
  exact hc
theorem Kp.ag {B : Nat} {T : Nat → Prop} {W A A' W' : World} (h : Ag B W A) (h' : Ag B A' W') (g : Kp T A A') : Kp T W W' := fun k o hk ho e => (h'.cells k o ho).2 (g k o hk ho ((h.cells k o ho).2 e))
theorem Kp.mono {T T' : Nat → Prop} {W W' : World} (h : Kp T W W') (hT : ∀ k, T' k → T k) : Kp T' W W' := fun k o hk => h k o (hT k hk)
theorem Kp.of_below {n : Nat} {T : Nat → Prop} {W W' : World} (h : Below n W W') (hT : ∀ k, T k → k < n) : Kp T W W' := fun k _ hk _ e => (h.block k (hT k hk)).trans e
theorem Kp.boxed {T : Nat → Prop} {W W' : World} (h : Kp T W W') {b : Nat} {t : TypeId} {v : Value} (hp : T b) (hb : Boxed W b t v) : Boxed W' b t v := h b _ hp rfl hb
theorem Boxed.kept_of {W W' : World} {n B : Nat} {t : TypeId} {v : Value} (h : Boxed W B t v) (hB : Below n W W') (hn : B < n) : Boxed W' B t v := (hB.block B hn).trans h
theorem Kp.set {T : Nat → Prop} {W : World} {b o : Nat} (v : Value) (h : ¬ T b) : Kp T W (W.setCell ⟨b, o, none⟩ v) := fun k _ hk _ e => (Below.heap_setCell W ⟨b, o, none⟩ v k (fun he => h (by have he' : k = b := he; rw [← he']; exact hk))).trans e
/-- The document's Size, as the machine counts. -/
def accZ (f : Nat → Int) : Nat → Int
  | 0 => 1
  | n + 1 => wrap64 (accZ f n + f n)
theorem heap_set {W : World} {b o : Nat} {v : Value} {c : Array Value} {t : TypeId} (h : W.heap[b]? = some (.cells c t (0, 0))) : (W.setCell ⟨b, o, none⟩ v).heap[b]? = some (.cells (c.setIfInBounds o v) t (0, 0)) := by
  simp only [World.setCell, Array.getElem?_modify, if_pos, h]
  rfl
theorem own_laterS {w w' : World} {B e size n : Nat} {v : Value} {xs : List Value} (h : w.ownsRow B e size v n xs) (hb : Below w.heap.size w w') : w'.ownsRow B e size v n xs :=
  h.kept (row := none) ⟨hb.os, hb.tape, hb.output, hb.size, fun k hk _ => hb.block k hk⟩ (Classical.em _)
/-- How a body that does what it does to a node may be left. -/
def walkPost (B : Nat) (G : World → Prop) (W : World) : Exit → Act → World → Prop
  | .normal, _, W' => KeepsFrom B W W' ∧ Kp (fun k => k = B + 2 ∨ k = B + 3) W W' ∧ G W'
  | _, _, _ => False
/-- What a round is handed. -/
structure Got (ι : Type) where
  d : Int
  b : Nat
  o : Nat
  v : ι

theorem sumN_part {f : Nat → Nat} : ∀ {n i : Nat}, i < n → sumN f i + f i ≤ sumN f n
  | 0, _, h => by omega
  | n + 1, i, h => by
    simp only [sumN]
    by_cases e : i = n
    · subst e; omega
    · have := sumN_part (f := f) (show i < n by omega); omega
end Go.Proofs.Ytcdehohmgfocdaa
namespace Go.Proofs.Ytcdehohmgfocdaa
open Go

theorem held_up {P : Program} {md : Region.Mode} {ops : Array Oper} {Q : Exit → Act → World → Prop} {S S' : World → Prop} (h : ∀ w, S' w → S w) :
    ∀ (fuel : Nat) (listed : Array Bool) (a : Act) (w : World), wpAnyH P md ops Q S' fuel listed a w → wpAnyH P md ops Q S fuel listed a w
  | 0, _, _, _, k => k
  | fuel + 1, _, _, _, k => ⟨k.1, fun i hi => wpOp_mono (fun a' w' k' => ⟨h w' k'.1, held_up h fuel _ a' w' k'.2⟩) (k.2 i hi)⟩
end Go.Proofs.Ytcdehohmgfocdaa
namespace Go.Proofs.Ytcdehohmgfocdaa
open Go.RowKit

theorem ret_int {k : IntKind} {a b : Int} (h : a = b) : Ending.returned (.int k a) = .returned (.int k b) := by rw [h]
theorem ret_bool {a b : Bool} (h : a = b) : Ending.returned (.bool a) = .returned (.bool b) := by rw [h]
def intOf : Value → Int | .int _ q => q | _ => 0
/-- An append in a walk, by its run. -/
theorem wpList_append_run {P : Program} {w w' : World} {ops : Array Oper} {rest : List Oper} {o : Oper} {a : Act} {Q : Exit → Act → World → Prop} (hg : o.guard = none) (s x : Operand) (t : TypeId)
    (hop : o.op = Op.call { callee := Callee.builtin Builtin.append, args := #[s, x], argTypes := #[t, t] }) (v y v' : Value) (hs : a.eval s = v) (hx : a.eval x = y)
    (hrun : (Builtin.append_ #[t, t] o.type #[v, y]).run P w = .ok v' w') (hK : wpList P ops Q rest (a.put o.dst v') w') : wpList P ops Q (o :: rest) a w := by
  refine wpList_plain hg fun K hK' => ?_
  unfold Oper.wp
  simp [execOp, hop, resolve, invoke, builtin, hs, hx, hrun, Result.andThen]
  exact hK' _ _ hK
end Go.Proofs.Ytcdehohmgfocdaa
namespace Go.Proofs.Ytcdehohmgfocdaa
open Go.RowKit Go.Maps Go.WideMaps

/-- Strings are the same. -/
theorem same_str (s t : ByteArray) : (s.toList == t.toList) = decide (s = t) := by
  by_cases h : s = t
  · subst h; simp
  · rw [decide_eq_false h, beq_eq_false_iff_ne]
    intro he
    apply h
    rw [ByteArray.toList_eq, ByteArray.toList_eq] at he
    exact ByteArray.ext (Array.ext' he)
theorem str_yes {s t : ByteArray} (h : s = t) : (s.toList == t.toList) = true := by rw [same_str]; exact decide_eq_true h
theorem str_not {s t : ByteArray} (h : ¬ s = t) : (s.toList == t.toList) = false := by rw [same_str]; exact decide_eq_false h
theorem str_law : Keyed Try.prog 9 := string_keyed Try.underlying9
/-- A name as a key. -/
abbrev keyS (s : ByteArray) : Lit := .string s.data.toList
theorem keyS_ne {s t : ByteArray} (h : ¬ s = t) : keyS s ≠ keyS t := by
  intro e
  injection e with e
  exact h (ByteArray.ext (Array.ext' e))
end Go.Proofs.Ytcdehohmgfocdaa
namespace Go.Proofs.Ytcdehohmgfocdaa
open Go.RowKit Go.ChangeShapes Go.WideShapes

section
variable {H : Type}
theorem cells_i : Try.prog.cellsOf 3 = 1 := by kernel_rfl
theorem cells_s : Try.prog.cellsOf 9 = 1 := by kernel_rfl
theorem bulk_app (l r : List (DataW H)) : Rows.uptoBulkAll (l ++ r) = Rows.uptoBulkAll l + Rows.uptoBulkAll r := by
  induction l with
  | nil => simp [Rows.uptoBulkAll]
  | cons x l ih => simp only [List.cons_append, Rows.uptoBulkAll, ih]; omega
theorem bulk_range (D : Nat → DataW H) : ∀ n, Rows.uptoBulkAll ((List.range n).map D) = sumN (fun i => Rows.uptoBulk (D i)) n
  | 0 => rfl
  | n + 1 => by
    rw [List.range_succ, List.map_append, bulk_app, bulk_range D n]
    simp [sumN, Rows.uptoBulkAll]
theorem add_none (b o j : Nat) : (Addr.mk b o none).add j = ⟨b, o + j, none⟩ := by
  unfold Addr.add
  split
  · simp
  · rfl
end
end Go.Proofs.Ytcdehohmgfocdaa
namespace Go.Proofs.Ytcdehohmgfocdaa
open Go.RowKit

/-- A value of the program, as the model has it; and as it lies in a block of its own. -/
abbrev valV (k n : Int) (s : ByteArray) : Value := .agg #[.int .i64 k, .int .i64 n, .string s]
abbrev valO (k n : Int) (s : ByteArray) : Obj := .cells #[.int .i64 k, .int .i64 n, .string s] 37

end Go.Proofs.Ytcdehohmgfocdaa
namespace Go.Proofs.Ytcdehohmgfocdaa
open Go.RowKit

/-- A slice of integers that came in, by index. -/
def Ints (k : IntKind) (w : World) (a : Option Addr) (len : Nat) (z : Nat → Int) : Prop :=
  0 < len → ∃ b off, a = some ⟨b, off, none⟩ ∧ ∀ j, j < len → w.cell? ⟨b, off + j, none⟩ = some (.int k (z j)) ∧ (Lit.int k (z j)).wf = true
/-- A cell that came in, in a later world. -/
theorem cell_later {w w' : World} {p : Addr} {v : Value} (h : w.cell? p = some v) (b : Below w.heap.size w w') : w'.cell? p = some v := by
  rw [b.cell (World.block_lt_of_cell? w _ h), h]
theorem mem_weightsAll {H : Type} {P : Program} {e : TypeId} {d : DataW H} {n : Nat} : ∀ {l : List (DataW H)}, d ∈ l → n ∈ d.weights P e → n ∈ DataW.weightsAll P e l
  | [], h, _ => by cases h
  | x :: l, h, hn => by
    simp only [DataW.weightsAll, List.mem_append]
    rcases List.mem_cons.1 h with rfl | h
    · exact .inl hn
    · exact .inr (mem_weightsAll h hn)
end Go.Proofs.Ytcdehohmgfocdaa
namespace Go.Proofs.Ytcdehohmgfocdaa
open Go.RowKit

/-- Two numbers, two texts: -1, 0 or 1. -/
def cmpI (a b : Int) : Int := if a < b then -1 else if b < a then 1 else 0
def cmpS (s t : ByteArray) : Int := if Op.bytesLess s.toList t.toList then -1 else if s.toList == t.toList then 0 else 1
/-- The order. -/
def ordZ (k n : Int) (s : ByteArray) (k' n' : Int) (s' : ByteArray) : Int :=
  if cmpI k k' ≠ 0 then cmpI k k' else if cmpI n n' ≠ 0 then cmpI n n' else cmpS s s'

set_option maxHeartbeats 400000 in
theorem nanInt (a : Int) (w : World) : Calls Try.prog 88 #[.int .i64 a] w fun e w' => e = .returned (.bool false) ∧ w' = w := by
  go_enter Try.func88, Try.ntmps88
  go_wp2
  go_ret
  exact ⟨rfl, rfl⟩
set_option maxHeartbeats 400000 in
theorem nanInt64 (a : Int) (w : World) : Calls Try.prog 100 #[.int .i64 a] w fun e w' => e = .returned (.bool false) ∧ w' = w := by
  go_enter Try.func100, Try.ntmps100
  go_wp2
  go_ret
  exact ⟨rfl, rfl⟩
set_option maxHeartbeats 400000 in
theorem nanStr (a : ByteArray) (w : World) : Calls Try.prog 87 #[.string a] w fun e w' => e = .returned (.bool false) ∧ w' = w := by
  go_enter Try.func87, Try.ntmps87
  go_wp2
  go_ret
  exact ⟨rfl, rfl⟩
set_option maxHeartbeats 1000000 in
theorem cmpInt_any (a b : Int) (w : World) : Calls Try.prog 68 #[.int .i64 a, .int .i64 b] w fun e w' => e = .returned (.int .i64 (cmpI a b)) ∧ w' = w := by
  unfold cmpI
  by_cases h : a < b
  · rw [if_pos h]
    go_enter Try.func68, Try.ntmps68
    go_wp2_with (go_at_call 88; refine (nanInt _ _).mono ?_; rintro e w1 ⟨rfl, hw1⟩; replace hw1 := hw1.symm; subst hw1)
    go_ret
    exact ⟨rfl, rfl⟩
  · rw [if_neg h]
    by_cases h' : b < a
    · rw [if_pos h']
      go_enter Try.func68, Try.ntmps68
      go_wp2_with (go_at_call 88; refine (nanInt _ _).mono ?_; rintro e w1 ⟨rfl, hw1⟩; replace hw1 := hw1.symm; subst hw1)
      go_ret
      exact ⟨rfl, rfl⟩
    · rw [if_neg h']
      go_enter Try.func68, Try.ntmps68
      go_wp2_with (go_at_call 88; refine (nanInt _ _).mono ?_; rintro e w1 ⟨rfl, hw1⟩; replace hw1 := hw1.symm; subst hw1)
      go_ret
      exact ⟨rfl, rfl⟩
set_option maxHeartbeats 1000000 in
theorem cmpInt64_any (a b : Int) (w : World) : Calls Try.prog 95 #[.int .i64 a, .int .i64 b] w fun e w' => e = .returned (.int .i64 (cmpI a b)) ∧ w' = w := by
  unfold cmpI
  by_cases h : a < b
  · rw [if_pos h]
    go_enter Try.func95, Try.ntmps95
    go_wp2_with (go_at_call 100; refine (nanInt64 _ _).mono ?_; rintro e w1 ⟨rfl, hw1⟩; replace hw1 := hw1.symm; subst hw1)
    go_ret
    exact ⟨rfl, rfl⟩
  · rw [if_neg h]
    by_cases h' : b < a
    · rw [if_pos h']
      go_enter Try.func95, Try.ntmps95
      go_wp2_with (go_at_call 100; refine (nanInt64 _ _).mono ?_; rintro e w1 ⟨rfl, hw1⟩; replace hw1 := hw1.symm; subst hw1)
      go_ret
      exact ⟨rfl, rfl⟩
    · rw [if_neg h']
      go_enter Try.func95, Try.ntmps95
      go_wp2_with (go_at_call 100; refine (nanInt64 _ _).mono ?_; rintro e w1 ⟨rfl, hw1⟩; replace hw1 := hw1.symm; subst hw1)
      go_ret
      exact ⟨rfl, rfl⟩
set_option maxHeartbeats 1000000 in
theorem cmpStr_any (a b : ByteArray) (w : World) : Calls Try.prog 66 #[.string a, .string b] w fun e w' => e = .returned (.int .i64 (cmpS a b)) ∧ w' = w := by
  unfold cmpS
  cases h : Op.bytesLess a.toList b.toList with
  | true =>
    rw [if_pos rfl]
    go_enter Try.func66, Try.ntmps66
    go_wp2_with (go_at_call 87; refine (nanStr _ _).mono ?_; rintro e w1 ⟨rfl, hw1⟩; replace hw1 := hw1.symm; subst hw1)
    go_ret
    exact ⟨rfl, rfl⟩
  | false =>
    rw [if_neg (by simp)]
    cases h' : a.toList == b.toList with
    | true =>
      rw [if_pos rfl]
      go_enter Try.func66, Try.ntmps66
      go_wp2_with (go_at_call 87; refine (nanStr _ _).mono ?_; rintro e w1 ⟨rfl, hw1⟩; replace hw1 := hw1.symm; subst hw1)
      go_ret
      exact ⟨rfl, rfl⟩
    | false =>
      rw [if_neg (by simp)]
      go_enter Try.func66, Try.ntmps66
      go_wp2_with (go_at_call 87; refine (nanStr _ _).mono ?_; rintro e w1 ⟨rfl, hw1⟩; replace hw1 := hw1.symm; subst hw1)
      go_ret
      exact ⟨rfl, rfl⟩
set_option maxHeartbeats 1000000 in
/-- cmp.Or of three numbers: the first that is not 0. -/
theorem or_three (b : Nat) (x y z : Int) (w : World) (c0 : w.cell? ⟨b, 0, none⟩ = some (.int .i64 x)) (c1 : w.cell? ⟨b, 1, none⟩ = some (.int .i64 y)) (c2 : w.cell? ⟨b, 2, none⟩ = some (.int .i64 z)) :
    Calls Try.prog 67 #[.slice (some ⟨b, 0, none⟩) 3 3] w fun e w' => e = .returned (.int .i64 (if x ≠ 0 then x else if y ≠ 0 then y else z)) ∧ w' = w := by
  by_cases hx : x = 0
  · subst hx
    by_cases hy : y = 0
    · subst hy
      by_cases hz : z = 0
      · subst hz
        simp only [ne_eq, not_true_eq_false, if_false]
        go_enter Try.func67, Try.ntmps67
        go_wp2
        refine wp_loop_rounds 4 ?_
        rw [rounds_succ]; go_wp2
        rw [rounds_succ]; go_wp2
        rw [rounds_succ]; go_wp2
        rw [rounds_succ]; go_wp2
        go_ret
        exact ⟨rfl, rfl⟩
      · have hz' : (z == 0) = false := by simpa using hz
        simp only [ne_eq, not_true_eq_false, if_false]
        go_enter Try.func67, Try.ntmps67
        go_wp2
        refine wp_loop_rounds 3 ?_
        rw [rounds_succ]; go_wp2
        rw [rounds_succ]; go_wp2
        rw [rounds_succ]; go_wp2
        go_ret
        exact ⟨rfl, rfl⟩
    · have hy' : (y == 0) = false := by simpa using hy
      simp only [ne_eq, not_true_eq_false, if_false, hy, not_false_eq_true, if_true]
      go_enter Try.func67, Try.ntmps67
      go_wp2
      refine wp_loop_rounds 2 ?_
      rw [rounds_succ]; go_wp2
      rw [rounds_succ]; go_wp2
      go_ret
      exact ⟨rfl, rfl⟩
  · have hx' : (x == 0) = false := by simpa using hx
    simp only [ne_eq, hx, not_false_eq_true, if_true]
    go_enter Try.func67, Try.ntmps67
    go_wp2
    refine wp_loop_rounds 1 ?_
    rw [rounds_succ]; go_wp2
    go_ret
    exact ⟨rfl, rfl⟩
set_option maxRecDepth 100000 in
set_option maxHeartbeats 4000000 in
theorem order_any (k n : Int) (s : ByteArray) (k' n' : Int) (s' : ByteArray) (w : World) :
    Calls Try.prog 83 #[valV k n s, valV k' n' s'] w fun e w' => e = .returned (.int .i64 (ordZ k n s k' n' s')) ∧ Below w.heap.size w w' := by
  go_enter Try.func83, Try.ntmps83
  go_wp2_with fail
  have hW0 : Below w.heap.size w ((w.alloc (valO k n s)).alloc (valO k' n' s')) := ((Below.refl _ w).alloc (Nat.le_refl _) _).alloc (by simp) _
  have HC : Hid ((((w.alloc (valO k n s)).alloc (valO k' n' s')).cell? ⟨w.heap.size, 0, none⟩ = some (.int .i64 k)) ∧ (((w.alloc (valO k n s)).alloc (valO k' n' s')).cell? ⟨w.heap.size, 1, none⟩ = some (.int .i64 n)) ∧ (((w.alloc (valO k n s)).alloc (valO k' n' s')).cell? ⟨w.heap.size, 2, none⟩ = some (.string s)) ∧
      (((w.alloc (valO k n s)).alloc (valO k' n' s')).cell? ⟨w.heap.size + 1, 0, none⟩ = some (.int .i64 k')) ∧ (((w.alloc (valO k n s)).alloc (valO k' n' s')).cell? ⟨w.heap.size + 1, 1, none⟩ = some (.int .i64 n')) ∧ (((w.alloc (valO k n s)).alloc (valO k' n' s')).cell? ⟨w.heap.size + 1, 2, none⟩ = some (.string s'))) := by
    refine ⟨?_, ?_, ?_, ?_, ?_, ?_⟩ <;> simp
  generalize (w.alloc (valO k n s)).alloc (valO k' n' s') = W at hW0 HC ⊢
  refine wp_region_noPanic ?_
  refine wp_region_held_drew (S := fun w' => Below W.heap.size W w') (by kernel_rfl) ((Below.refl _ _).drew) (fun hHeld => ?_)
  have hT : Below W.heap.size W W.drew := hHeld
  obtain ⟨d, hd⟩ : ∃ d, d = W.drew := ⟨_, rfl⟩
  rw [← hd] at hHeld hT ⊢
  clear hd
  refine wpAnyH_take (i := 0) (oi := ⟨some 5, .fieldAddr 37 (.tmp 2) 0, 0, _, _, _⟩) (v := ?v0) rfl (by kernel_rfl) (by kernel_rfl) (by kernel_rfl) (fun _ _ _ h => h) (Or.inl ⟨by rfl, ?hy0⟩) hHeld ?rest0
  case hy0 => intro w9 hSw; go_simp; (try with_reducible rfl)
  try simp only [Act.put, s_put, s_0, s_1]
  refine wpAnyH_take (i := 1) (oi := ⟨some 6, .load 3 (.tmp 5), 3, _, _, _⟩) (v := ?v1) rfl (by kernel_rfl) (by kernel_rfl) (by kernel_rfl) (fun _ _ _ h => h) (Or.inl ⟨by rfl, ?hy1⟩) hHeld ?rest1
  case hy1 => intro w9 hSw; have cc := cell_later HC.out.1 hSw; go_simp; (try with_reducible rfl)
  try simp only [Act.put, s_put, s_0, s_1]
  refine wpAnyH_take (i := 2) (oi := ⟨some 7, .fieldAddr 37 (.tmp 3) 0, 0, _, _, _⟩) (v := ?v2) rfl (by kernel_rfl) (by kernel_rfl) (by kernel_rfl) (fun _ _ _ h => h) (Or.inl ⟨by rfl, ?hy2⟩) hHeld ?rest2
  case hy2 => intro w9 hSw; go_simp; (try with_reducible rfl)
  try simp only [Act.put, s_put, s_0, s_1]
  refine wpAnyH_take (i := 3) (oi := ⟨some 8, .load 3 (.tmp 7), 3, _, _, _⟩) (v := ?v3) rfl (by kernel_rfl) (by kernel_rfl) (by kernel_rfl) (fun _ _ _ h => h) (Or.inl ⟨by rfl, ?hy3⟩) hHeld ?rest3
  case hy3 => intro w9 hSw; have cc := cell_later HC.out.2.2.2.1 hSw; go_simp; (try with_reducible rfl)
  try simp only [Act.put, s_put, s_0, s_1]
  refine wpAnyH_take (i := 5) (oi := ⟨some 10, .fieldAddr 37 (.tmp 2) 1, 0, _, _, _⟩) (v := ?v5) rfl (by kernel_rfl) (by kernel_rfl) (by kernel_rfl) (fun _ _ _ h => h) (Or.inl ⟨by rfl, ?hy5⟩) hHeld ?rest5
  case hy5 => intro w9 hSw; go_simp; (try with_reducible rfl)
  try simp only [Act.put, s_put, s_0, s_1]
  refine wpAnyH_take (i := 6) (oi := ⟨some 11, .load 2 (.tmp 10), 2, _, _, _⟩) (v := ?v6) rfl (by kernel_rfl) (by kernel_rfl) (by kernel_rfl) (fun _ _ _ h => h) (Or.inl ⟨by rfl, ?hy6⟩) hHeld ?rest6
  case hy6 => intro w9 hSw; have cc := cell_later HC.out.2.1 hSw; go_simp; (try with_reducible rfl)
  try simp only [Act.put, s_put, s_0, s_1]
  refine wpAnyH_take (i := 7) (oi := ⟨some 12, .fieldAddr 37 (.tmp 3) 1, 0, _, _, _⟩) (v := ?v7) rfl (by kernel_rfl) (by kernel_rfl) (by kernel_rfl) (fun _ _ _ h => h) (Or.inl ⟨by rfl, ?hy7⟩) hHeld ?rest7
  case hy7 => intro w9 hSw; go_simp; (try with_reducible rfl)
  try simp only [Act.put, s_put, s_0, s_1]
  refine wpAnyH_take (i := 8) (oi := ⟨some 13, .load 2 (.tmp 12), 2, _, _, _⟩) (v := ?v8) rfl (by kernel_rfl) (by kernel_rfl) (by kernel_rfl) (fun _ _ _ h => h) (Or.inl ⟨by rfl, ?hy8⟩) hHeld ?rest8
  case hy8 => intro w9 hSw; have cc := cell_later HC.out.2.2.2.2.1 hSw; go_simp; (try with_reducible rfl)
  try simp only [Act.put, s_put, s_0, s_1]
  refine wpAnyH_take (i := 10) (oi := ⟨some 15, .fieldAddr 37 (.tmp 2) 2, 0, _, _, _⟩) (v := ?v10) rfl (by kernel_rfl) (by kernel_rfl) (by kernel_rfl) (fun _ _ _ h => h) (Or.inl ⟨by rfl, ?hy10⟩) hHeld ?rest10
  case hy10 => intro w9 hSw; go_simp; (try with_reducible rfl)
  try simp only [Act.put, s_put, s_0, s_1]
  refine wpAnyH_take (i := 11) (oi := ⟨some 16, .load 9 (.tmp 15), 9, _, _, _⟩) (v := ?v11) rfl (by kernel_rfl) (by kernel_rfl) (by kernel_rfl) (fun _ _ _ h => h) (Or.inl ⟨by rfl, ?hy11⟩) hHeld ?rest11
  case hy11 => intro w9 hSw; have cc := cell_later HC.out.2.2.1 hSw; go_simp; (try with_reducible rfl)
  try simp only [Act.put, s_put, s_0, s_1]
  refine wpAnyH_take (i := 12) (oi := ⟨some 17, .fieldAddr 37 (.tmp 3) 2, 0, _, _, _⟩) (v := ?v12) rfl (by kernel_rfl) (by kernel_rfl) (by kernel_rfl) (fun _ _ _ h => h) (Or.inl ⟨by rfl, ?hy12⟩) hHeld ?rest12
  case hy12 => intro w9 hSw; go_simp; (try with_reducible rfl)
  try simp only [Act.put, s_put, s_0, s_1]
  refine wpAnyH_take (i := 13) (oi := ⟨some 18, .load 9 (.tmp 17), 9, _, _, _⟩) (v := ?v13) rfl (by kernel_rfl) (by kernel_rfl) (by kernel_rfl) (fun _ _ _ h => h) (Or.inl ⟨by rfl, ?hy13⟩) hHeld ?rest13
  case hy13 => intro w9 hSw; have cc := cell_later HC.out.2.2.2.2.2 hSw; go_simp; (try with_reducible rfl)
  try simp only [Act.put, s_put, s_0, s_1]
  refine wpAnyH_ready (rs := [4]) (by kernel_rfl) (by simp) ?_
  refine AllReadyH.cons (o := ⟨some 9, .call { callee := .value (.func 68), args := #[.tmp 6, .tmp 8], argTypes := #[3, 3] }, 3, _, _, _⟩) rfl (fun K hK => ?_) AllReadyH.nil
  go_simp
  refine (cmpInt_any _ _ _).mono ?_
  rintro e x4 ⟨rfl, hx4⟩
  replace hx4 := hx4.symm
  subst hx4
  go_wp2_with fail
  refine hK.out _ _ hHeld (fun _ => ?_)
  clear hK K
  try simp only [Act.put, s_put, s_0, s_1]
  refine wpAnyH_ready (rs := [9]) (by kernel_rfl) (by simp) ?_
  refine AllReadyH.cons (o := ⟨some 14, .call { callee := .value (.func 95), args := #[.tmp 11, .tmp 13], argTypes := #[2, 2] }, 3, _, _, _⟩) rfl (fun K hK => ?_) AllReadyH.nil
  go_simp
  refine (cmpInt64_any _ _ _).mono ?_
  rintro e x9 ⟨rfl, hx9⟩
  replace hx9 := hx9.symm
  subst hx9
  go_wp2_with fail
  refine hK.out _ _ hHeld (fun _ => ?_)
  clear hK K
  try simp only [Act.put, s_put, s_0, s_1]
  refine wpAnyH_ready (rs := [14]) (by kernel_rfl) (by simp) ?_
  refine AllReadyH.cons (o := ⟨some 19, .call { callee := .value (.func 66), args := #[.tmp 16, .tmp 18], argTypes := #[9, 9] }, 3, _, _, _⟩) rfl (fun K hK => ?_) AllReadyH.nil
  go_simp
  refine (cmpStr_any _ _ _).mono ?_
  rintro e x14 ⟨rfl, hx14⟩
  replace hx14 := hx14.symm
  subst hx14
  go_wp2_with fail
  refine hK.out _ _ hHeld (fun _ => ?_)
  clear hK K
  try simp only [Act.put, s_put, s_0, s_1]
  refine wpAnyH_ready (rs := [15]) (by kernel_rfl) (by simp) ?_
  refine AllReadyH.cons (o := ⟨some 20, .buildSlice 50 3 #[(0, .tmp 9), (1, .tmp 14), (2, .tmp 19)], 50, _, _, _⟩) rfl (fun K hK => ?_) AllReadyH.nil
  go_simp
  have hT15 := hHeld.alloc hHeld.size (.cells #[.int .i64 (cmpI k k'), .int .i64 (cmpI n n'), .int .i64 (cmpS s s')] 3)
  refine hK.out _ _ hT15 (fun _ => ?_)
  clear hK K hHeld hT
  have hHeld := hT15
  clear hT15
  have C16 : Calls Try.prog 67 #[.slice (some ⟨d.heap.size, 0, none⟩) 3 3] (d.alloc (.cells #[.int .i64 (cmpI k k'), .int .i64 (cmpI n n'), .int .i64 (cmpS s s')] 3)) fun e w' => e = .returned (.int .i64 (ordZ k n s k' n' s')) ∧ w' = (d.alloc (.cells #[.int .i64 (cmpI k k'), .int .i64 (cmpI n n'), .int .i64 (cmpS s s')] 3)) := or_three d.heap.size (cmpI k k') (cmpI n n') (cmpS s s') _ (by simp) (by simp) (by simp)
  generalize d.alloc (.cells #[.int .i64 (cmpI k k'), .int .i64 (cmpI n n'), .int .i64 (cmpS s s')] 3) = D at hHeld C16 ⊢
  refine wpAnyH_ready (rs := [16]) (by kernel_rfl) (by simp) ?_
  refine AllReadyH.cons (o := ⟨some 21, .call { callee := .value (.func 67), args := #[.tmp 20], argTypes := #[50] }, 3, _, _, _⟩) rfl (fun K hK => ?_) AllReadyH.nil
  go_simp
  refine (C16).mono ?_
  rintro e x16 ⟨rfl, hx16⟩
  replace hx16 := hx16.symm
  subst hx16
  go_wp2_with fail
  refine hK.out _ _ hHeld (fun _ => ?_)
  clear hK K
  try simp only [Act.put, s_put, s_0, s_1]
  refine wpAnyH_take (i := 17) (oi := ⟨some 4, .assign (.tmp 21), 3, _, _, _⟩) (v := ?v17) rfl (by kernel_rfl) (by kernel_rfl) (by kernel_rfl) (fun _ _ _ h => h) (Or.inl ⟨by rfl, ?hy17⟩) hHeld ?rest17
  case hy17 => intro w9 hSw; go_simp; (try with_reducible rfl)
  try simp only [Act.put, s_put, s_0, s_1]
  refine wpAnyH_done (by kernel_rfl) ?_ _
  refine NoPanic.normal ?_
  go_wp2
  go_ret
  exact ⟨rfl, hW0.trans (hHeld.mono hW0.size)⟩
end Go.Proofs.Ytcdehohmgfocdaa
namespace Go.Proofs.Ytcdehohmgfocdaa
open Go.RowKit

theorem less_irrefl : ∀ l : List UInt8, Op.bytesLess l l = false
  | [] => rfl
  | a :: l => by simp [Op.bytesLess, less_irrefl l, UInt8.lt_irrefl]
theorem less_total : ∀ l m : List UInt8, l ≠ m → Op.bytesLess l m = !Op.bytesLess m l
  | [], [], h => absurd rfl h
  | [], b :: m, _ => by simp [Op.bytesLess]
  | a :: l, [], _ => by simp [Op.bytesLess]
  | a :: l, b :: m, h => by
    simp only [Op.bytesLess]
    by_cases hab : a = b
    · subst hab
      have := less_total l m (fun e => h (by rw [e]))
      simp [UInt8.lt_irrefl, this]
    · have hba : ¬ b = a := fun e => hab e.symm
      have h1 : (a == b) = false := by simpa using hab
      have h2 : (b == a) = false := by simpa using hba
      rw [h1, h2]
      rcases UInt8.lt_or_lt_of_ne hab with h3 | h3
      · simp [h3, UInt8.lt_asymm h3]
      · simp [h3, UInt8.lt_asymm h3]
theorem less_trans : ∀ l m r : List UInt8, Op.bytesLess l m = true → Op.bytesLess m r = true → Op.bytesLess l r = true
  | _, [], _, h, _ => by simp [Op.bytesLess] at h
  | _, _ :: _, [], _, h => by simp [Op.bytesLess] at h
  | [], _ :: _, _ :: _, _, _ => by simp [Op.bytesLess]
  | a :: l, b :: m, c :: r, h1, h2 => by
    simp only [Op.bytesLess, Bool.or_eq_true, decide_eq_true_eq, Bool.and_eq_true, beq_iff_eq] at h1 h2 ⊢
    rcases h1 with h1 | ⟨rfl, h1⟩
    · rcases h2 with h2 | ⟨rfl, h2⟩
      · exact .inl (UInt8.lt_trans h1 h2)
      · exact .inl h1
    · rcases h2 with h2 | ⟨rfl, h2⟩
      · exact .inl h2
      · exact .inr ⟨rfl, less_trans l m r h1 h2⟩

/-- Two texts: what cmpS says of their bytes. -/
theorem cmpS_cases (s t : ByteArray) : (cmpS s t = -1 ∧ Op.bytesLess s.toList t.toList = true ∧ s.toList ≠ t.toList) ∨ (cmpS s t = 0 ∧ s.toList = t.toList) ∨ (cmpS s t = 1 ∧ Op.bytesLess t.toList s.toList = true ∧ s.toList ≠ t.toList) := by
  unfold cmpS
  by_cases h : s.toList = t.toList
  · rw [h]; simp [less_irrefl]
  · have := less_total _ _ h
    cases h1 : Op.bytesLess s.toList t.toList with
    | true => simp [h]
    | false =>
      rw [h1] at this
      have h2 : Op.bytesLess t.toList s.toList = true := by simpa using this
      simp [h, h2]
theorem cmpI_cases (a b : Int) : (cmpI a b = -1 ∧ a < b) ∨ (cmpI a b = 0 ∧ a = b) ∨ (cmpI a b = 1 ∧ b < a) := by
  unfold cmpI
  by_cases h : a < b
  · simp [h]
  · by_cases h' : b < a
    · simp [h, h']
    · exact .inr (.inl ⟨by simp [h, h'], by omega⟩)

variable (k n : Int) (s : ByteArray) (k' n' : Int) (s' : ByteArray) (k2 n2 : Int) (s2 : ByteArray)
end Go.Proofs.Ytcdehohmgfocdaa
namespace Go.Proofs.Ytcdehohmgfocdaa
open Go.RowKit

/-- A value. -/
structure Val where
  k : Int
  n : Int
  s : ByteArray
abbrev Val.v (x : Val) : Value := valV x.k x.n x.s
def val0 : Val := ⟨0, 0, ⟨#[]⟩⟩
end Go.Proofs.Ytcdehohmgfocdaa
