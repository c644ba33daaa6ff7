/-
  errors.As upon the errors that well makes: a refusal, or one that is wrapped once for each row on the way.
  A range over a function whose rounds are told by what they do to the world: the element that a round is handed may be known by the world in which it is handed. Of no function.
  Trees and what stays of memory: small facts that conditions and patterns share; of no function.
  Slices that came in, by index: of integers, of strings.
  Bytes and texts, for a seat without vint: slices of bytes as lists, what the call owns, append, a slice of bytes as a string and back; a string's bytes. (The like of GetAny, Put, Conv, App and Bytes, less what is vint's.)
  well's refusals: made, wrapped, and found by errors.As.
  Package value's small calls: Null, Bool, Int, Text.
  A law on regions that draw their order, of no program: behind an operation the condition that the region is held under may be made stricter.
-/
import Derived.Test.YtkfpgkohkhhlhaaGreatDoorRows
import Derived.WalkKit
import Derived.LaidEql
import Derived.Stop.Asserts
import Derived.RowKitTokens
import Derived.Below
import Derived.RangeFuncNested
import Derived.RangeFuncBound
import Derived.RangeFuncCalls
import Derived.RangeFuncLeaves
import Derived.RangeFuncBox
import Derived.Shelf.Abstract
import Derived.Shelf.RegionOpen
import Derived.OwnWalkIn
import Derived.TacticsInMore
import Derived.LoopNIn
import Derived.LoopIn
import Derived.SizedLaws
import Derived.WalkLawsBesides
import Derived.WalkSpells
import Derived.OpenShut
import Derived.Deep.LoopGhost
import Derived.Outline
import Derived.Laws.CopyOwn
import Derived.Laws.AppendOwn
import Derived.Laws.BytesString
import Derived.Laws.IdiomStrings
import Derived.Laws.RangeAny
import Derived.OwnWalk
import Derived.Lib.AppendStr
import Derived.Laws.Rows
import Derived.Deep.RegionWith
import Derived.Deep.RegionHeld3
namespace Go.Proofs.YtkfpgkohkhhlhaaGreatDoor
open Go.RowKit Go.Extern.Stop Go.Stop Go.Extern

/-- Why a query is refused: its number, or that of one of a row. -/
inductive Rfs where
  | base (e : Int) : Rfs
  | row (i : Int) (y : Rfs) : Rfs
abbrev rfsV (e : Int) : Value := .iface 63 (.int .i64 e)
def Rfs.val : Rfs → Value
  | .base e => rfsV e
  | .row i y => .iface 217 (.agg #[.int .i64 i, y.val])
def Rfs.root : Rfs → Int
  | .base e => e
  | .row _ y => y.root
abbrev hdl (t : Nat) : Value := .pointer (some ⟨3, t, none⟩)
abbrev rty (t : Nat) : Value := .iface 182 (.agg #[hdl t])
abbrev asV (b : Nat) : Value := .agg #[hdl 67, .pointer (some ⟨b, 0, none⟩), .int .u64 150]
theorem Tryz.asValueOf (a : Addr) (w : World) : (callFunc 71 #[.iface 67 (.pointer (some a))]).run Tryz.prog w = .ok (.value (asV w.heap.size)) (w.alloc (.cells #[.pointer (some a)] 67)) := by
  rw [@run_callFunc_extern Tryz.prog 71 _ (fun args => Extern.ReflectliteValue.unpack (args.getD 0 (.tuple #[]))) Tryz.func71 (by kernel_rfl) (by kernel_rfl) (by kernel_rfl) (by kernel_rfl)]
  kernel_rfl
theorem Tryz.asValueOfR (e : Int) (w : World) : (callFunc 71 #[rfsV e]).run Tryz.prog w = .ok (.value (.agg #[hdl 63, .pointer (some ⟨w.heap.size, 0, none⟩), .int .u64 130])) (w.alloc (.cells #[.int .i64 e] 63)) := by
  rw [@run_callFunc_extern Tryz.prog 71 _ (fun args => Extern.ReflectliteValue.unpack (args.getD 0 (.tuple #[]))) Tryz.func71 (by kernel_rfl) (by kernel_rfl) (by kernel_rfl) (by kernel_rfl)]
  kernel_rfl
theorem Tryz.asType (b : Nat) (w : World) : (callFunc 72 #[asV b]).run Tryz.prog w = .ok (.value (rty 67)) w := by
  rw [@run_callFunc_extern Tryz.prog 72 _ (Extern.ReflectliteValue.methodAny (Extern.ReflectliteValue.valueError "reflectlite.Value.Type" 0) fun t _ _ _ => Extern.ReflectliteType.toType t) Tryz.func72 (by kernel_rfl) (by kernel_rfl) (by kernel_rfl) (by kernel_rfl)]
  kernel_rfl
theorem Tryz.asKindP (w : World) : (callFunc 240 #[hdl 67]).run Tryz.prog w = .ok (.value (.int .u8 22)) w := by
  rw [@run_callFunc_extern Tryz.prog 240 _ (Extern.ReflectliteType.abiMethod fun t => do pure (.int .u8 (← Extern.Rtype.kind t))) Tryz.func240 (by kernel_rfl) (by kernel_rfl) (by kernel_rfl) (by kernel_rfl)]
  kernel_rfl
theorem Tryz.asKindR (w : World) : (callFunc 240 #[hdl 63]).run Tryz.prog w = .ok (.value (.int .u8 2)) w := by
  rw [@run_callFunc_extern Tryz.prog 240 _ (Extern.ReflectliteType.abiMethod fun t => do pure (.int .u8 (← Extern.Rtype.kind t))) Tryz.func240 (by kernel_rfl) (by kernel_rfl) (by kernel_rfl) (by kernel_rfl)]
  kernel_rfl
theorem Tryz.asElemT (w : World) : (callFunc 250 #[.agg #[hdl 67]]).run Tryz.prog w = .ok (.value (rty 63)) w := by
  rw [@run_callFunc_extern Tryz.prog 250 _ (Extern.ReflectliteType.method Extern.ReflectliteType.elem) Tryz.func250 (by kernel_rfl) (by kernel_rfl) (by kernel_rfl) (by kernel_rfl)]
  kernel_rfl
theorem Tryz.asImpl (w : World) : (callFunc 251 #[.agg #[hdl 63], rty 66]).run Tryz.prog w = .ok (.value (.bool true)) w := by
  rw [@run_callFunc_extern Tryz.prog 251 _ (Extern.ReflectliteType.relation "Implements" Extern.ReflectliteType.implements_) Tryz.func251 (by kernel_rfl) (by kernel_rfl) (by kernel_rfl) (by kernel_rfl)]
  kernel_rfl
theorem Tryz.asAssI (w : World) : (callFunc 248 #[.agg #[hdl 217], rty 63]).run Tryz.prog w = .ok (.value (.bool false)) w := by
  rw [@run_callFunc_extern Tryz.prog 248 _ (Extern.ReflectliteType.relation "AssignableTo" Extern.ReflectliteType.assignableTo) Tryz.func248 (by kernel_rfl) (by kernel_rfl) (by kernel_rfl) (by kernel_rfl)]
  kernel_rfl
theorem Tryz.asAssR (w : World) : (callFunc 248 #[.agg #[hdl 63], rty 63]).run Tryz.prog w = .ok (.value (.bool true)) w := by
  rw [@run_callFunc_extern Tryz.prog 248 _ (Extern.ReflectliteType.relation "AssignableTo" Extern.ReflectliteType.assignableTo) Tryz.func248 (by kernel_rfl) (by kernel_rfl) (by kernel_rfl) (by kernel_rfl)]
  kernel_rfl
theorem Tryz.asTypeOfI (v : Value) (w : World) : (callFunc 123 #[.iface 217 v]).run Tryz.prog w = .ok (.value (rty 217)) w := by
  rw [@run_callFunc_extern Tryz.prog 123 _ Extern.ReflectliteType.typeOf Tryz.func123 (by kernel_rfl) (by kernel_rfl) (by kernel_rfl) (by kernel_rfl)]
  kernel_rfl
theorem Tryz.asTypeOfR (v : Value) (w : World) : (callFunc 123 #[.iface 63 v]).run Tryz.prog w = .ok (.value (rty 63)) w := by
  rw [@run_callFunc_extern Tryz.prog 123 _ Extern.ReflectliteType.typeOf Tryz.func123 (by kernel_rfl) (by kernel_rfl) (by kernel_rfl) (by kernel_rfl)]
  kernel_rfl
theorem Tryz.asMKind (v : Value) (w : World) : (Go.method 419 182 (.agg #[v]) "Kind").run Tryz.prog w = .ok (240, v) w := by kernel_rfl
theorem Tryz.asMElem (v : Value) (w : World) : (Go.method 419 182 v "Elem").run Tryz.prog w = .ok (250, v) w := by kernel_rfl
theorem Tryz.asMImpl (v : Value) (w : World) : (Go.method 419 182 v "Implements").run Tryz.prog w = .ok (251, v) w := by kernel_rfl
theorem Tryz.asMAss (v : Value) (w : World) : (Go.method 419 182 v "AssignableTo").run Tryz.prog w = .ok (248, v) w := by kernel_rfl
theorem Tryz.asMUnwrap (v : Value) (w : World) : (Go.method 419 217 v "Unwrap").run Tryz.prog w = .ok (259, v) w := by kernel_rfl
theorem Tryz.asNoAs (v : Value) (xT : TypeId) (w : World) : (Instr.typeAssert (.iface 217 v) xT 187 true).run Tryz.prog w = .ok (.tuple #[.nilIface, .bool false]) w := run_typeAssert_lacksB Tryz.underlying187 (by kernel_rfl) (by kernel_rfl) v xT w
theorem Tryz.asHasU (v : Value) (xT : TypeId) (w : World) : (Instr.typeAssert (.iface 217 v) xT 190 true).run Tryz.prog w = .ok (.tuple #[.iface 217 v, .bool true]) w := run_typeAssert_hasB Tryz.underlying190 (by kernel_rfl) v xT w
end Go.Proofs.YtkfpgkohkhhlhaaGreatDoor
namespace Go.Proofs.YtkfpgkohkhhlhaaGreatDoor
open Go.RowKit

/-- The same cells; below B the same blocks. -/
structure Ag (B : Nat) (W A : World) : Prop where
  os : A.os = W.os
  tape : A.tape = W.tape
  output : A.output = W.output
  size : A.heap.size = W.heap.size
  low : ∀ k, k < B → A.heap[k]? = W.heap[k]?
  cells : ∀ (k : Nat) (o : Obj), o.isCells = true → (A.heap[k]? = some o ↔ W.heap[k]? = some o)
theorem Ag.refl (B : Nat) (W : World) : Ag B W W := ⟨rfl, rfl, rfl, rfl, fun _ _ => rfl, fun _ _ _ => Iff.rfl⟩
theorem Ag.symm {B : Nat} {W A : World} (h : Ag B W A) : Ag B A W := ⟨h.os.symm, h.tape.symm, h.output.symm, h.size.symm, fun k hk => (h.low k hk).symm, fun k o ho => (h.cells k o ho).symm⟩
theorem Ag.trans {B : Nat} {W A C : World} (h : Ag B W A) (g : Ag B A C) : Ag B W C :=
  ⟨g.os.trans h.os, g.tape.trans h.tape, g.output.trans h.output, g.size.trans h.size, fun k hk => (g.low k hk).trans (h.low k hk), fun k o ho => (g.cells k o ho).trans (h.cells k o ho)⟩
theorem Ag.putObj {B l : Nat} {W : World} {o o' : Obj} (hl : B ≤ l) (h : W.heap[l]? = some o) (ho : o.isCells = false) (ho' : o'.isCells = false) : Ag B W (W.putObj l o') := by
  have hlt : l < W.heap.size := (Array.getElem?_eq_some_iff.1 h).1
  refine ⟨rfl, rfl, rfl, World.putObj_size, fun k hk => World.putObj_heap_other (by omega), fun k q hq => ?_⟩
  by_cases e : k = l
  · subst e
    rw [World.putObj_heap_same hlt, h]
    constructor <;> (intro e; cases e)
    · rw [ho'] at hq; cases hq
    · rw [ho] at hq; cases hq
  · rw [World.putObj_heap_other e]
theorem Ag.cell_some {B : Nat} {W A : World} (h : Ag B W A) {p : Addr} {v : Value} (hc : W.cell? p = some v) : A.cell? p = some v := by
  obtain ⟨o, ho, hi⟩ := cells_of_cell hc
  rw [World.cell?_of_block (w := W) (w' := A) (((h.cells _ _ hi).2 ho).trans ho.symm)]
  exact hc
theorem Ag.cell {B : Nat} {W A : World} (h : Ag B W A) (p : Addr) : A.cell? p = W.cell? p :=
  Option.ext fun _ => ⟨h.symm.cell_some, h.cell_some⟩
theorem Ag.frozen {B : Nat} {W A : World} (h : Ag B W A) {p : Addr} {v : Value} (hc : W.cell? p = some v) : A.frozen? p = W.frozen? p := by
  obtain ⟨o, ho, hi⟩ := cells_of_cell hc
  exact World.frozen?_of_block (w := W) (w' := A) (((h.cells _ _ hi).2 ho).trans ho.symm)
theorem Ag.boxed {B : Nat} {W A : World} (h : Ag B W A) {b : Nat} {t : TypeId} {v : Value} (hb : Boxed W b t v) : Boxed A b t v := (h.cells _ _ rfl).2 hb
theorem Ag.below {B n : Nat} {W A V : World} (h : Ag B W A) (hn : n ≤ B) (hb : Below n V W) : Below n V A :=
  ⟨h.os.trans hb.os, h.tape.trans hb.tape, h.output.trans hb.output, by rw [h.size]; exact hb.size, fun k hk => (h.low k (by omega)).trans (hb.block k hk)⟩
theorem Ag.below_from {B n : Nat} {W A V : World} (h : Ag B W A) (hn : n ≤ B) (hb : Below n A V) : Below n W V :=
  ⟨hb.os.trans h.os, hb.tape.trans h.tape, hb.output.trans h.output, by rw [← h.size]; exact hb.size, fun k hk => (hb.block k hk).trans (h.low k (by omega))⟩

/-- How a round's body may be left. -/
def backPost {α : Type} (B : Nat) (Go : α → World → World → Prop) (Out : Code → α → World → World → Prop) (x : α) (W : World) : Exit → Act → World → Prop
  | .normal, _, W' => KeepsFrom B W W' ∧ Go x W W'
  | .ret, _, W' => KeepsFrom B W W' ∧ Out .ret x W W'
  | .exit id, _, W' => KeepsFrom B W W' ∧ Out (.exit id) x W W'
  | .goto t, _, W' => KeepsFrom B W W' ∧ Out (.goto t) x W W'
  | .panic _, _, _ => False
  | .outgrown, _, _ => False

/-- What is no cell and lies between stays. -/
def KeepsTo (B B' : Nat) (W W' : World) : Prop := ∀ (k : Nat) (o : Obj), B ≤ k → k < B' → W.heap[k]? = some o → o.isCells = false → W'.heap[k]? = some o
theorem KeepsTo.of {B B' : Nat} {W W' : World} (h : KeepsFrom B W W') : KeepsTo B B' W W' := fun k o h1 _ h3 h4 => h.same k o h1 h3 h4
theorem KeepsTo.of_below {B B' n : Nat} {W W' : World} (h : Below n W W') (hn : B' ≤ n) : KeepsTo B B' W W' := fun k _ _ h2 h3 _ => (h.block k (by omega)).trans h3
theorem KeepsTo.of_ag {B B' n : Nat} {W W' : World} (h : Ag n W W') (hn : B' ≤ n) : KeepsTo B B' W W' := fun k _ _ h2 h3 _ => (h.low k (by omega)).trans h3
theorem KeepsTo.trans {B B' : Nat} {A C D : World} (h : KeepsTo B B' A C) (g : KeepsTo B B' C D) : KeepsTo B B' A D := fun k o h1 h2 h3 h4 => g k o h1 h2 (h k o h1 h2 h3 h4) h4
theorem wpIn_rangeK {α : Type} {n : Nat} {P : Program} {g : Operand} {ps : Array Tmp} {assign body : Code} {Q : Exit → Act → World → Prop} {a : Act} {w : World}
    {gf : Nat} {lb : Array Value} (hg : a.eval g = .func (.func gf) #[] lb) (eg : ∀ args w, (callFunc gf args).run P w = .ok (.enter gf args) w)
    {encs : α → Array Value} (hps : ∀ x, (encs x).size = ps.size)
    (Pre : α → World → Prop) (Go : α → World → World → Prop) (Out : Code → α → World → World → Prop) (Fin : World → Prop) (Left : Code → World → Prop)
    (hPre : ∀ x W A, Ag w.heap.size W A → Pre x W → Pre x A)
    (hGo : ∀ x W A A' W', Ag w.heap.size W A → Ag w.heap.size A' W' → Go x A A' → Go x W W')
    (hOut : ∀ c x W A A' W', Ag w.heap.size W A → Ag w.heap.size A' W' → Out c x A A' → Out c x W W')
    (hFin : ∀ W A, Ag w.heap.size W A → Fin W → Fin A) (hLeft : ∀ c W A, Ag w.heap.size W A → Left c W → Left c A)
    (a₁ : α → Act)
    (hassign : ∀ (l : Nat) (x : α) (W : World) (K : Act → World → Prop), K (a₁ x) W →
      assign.wpIn (Fence.wide.inRound l) (n - 1 - 1) P (Exit.then K (fun _ _ _ => False)) { tmps := (ps.zip (encs x)).foldl (fun t (p, v) => t.setIfInBounds p v) a.tmps, defers := [] } W)
    (hbody : ∀ (l : Nat) (x : α) (W : World), Pre x W → w.heap.size + 2 ≤ W.heap.size → body.wpIn (Fence.wide.inRound l) (n - 1 - 1) P (backPost w.heap.size Go Out x W) (a₁ x) W)
    (hseq : ∀ (l : Nat) (Rec : World → Prop) (RecX : Code → World → Prop) (W1 : World), Below w.heap.size w W1 → W1.heap.size = w.heap.size + 2 → Rec W1 →
      (∀ W W', KeepsTo w.heap.size (w.heap.size + 2) W W' → Rec W → Rec W') → (∀ c W W', KeepsTo w.heap.size (w.heap.size + 2) W W' → RecX c W → RecX c W') →
      (∀ (m : Nat) (x : α) (W : World), Pre x W → Rec W → YieldAt Fence.wide m P l (encs x) W fun e W' => (e = .returned (.bool true) ∧ Go x W W' ∧ Rec W' ∧ KeepsFrom w.heap.size W W') ∨ (e = .returned (.bool false) ∧ ∃ c, Out c x W W' ∧ RecX c W' ∧ KeepsFrom (w.heap.size + 2) W W')) →
      CallsIn Fence.wide (n - 1) P gf (#[.func (.yield l) #[] #[]] ++ lb) W1 fun e W' => (∃ v, e = .returned v) ∧ ((Fin W' ∧ Rec W') ∨ ∃ c, Left c W' ∧ RecX c W'))
    (hdone : ∀ (D : Nat) (W : World), w.heap.size ≤ D → Fin W → W.heap[D]? = some (.deferred (some [])) → Q .normal { a with defers := { target := .collected D, args := #[] } :: a.defers } W)
    (hstop : ∀ (D : Nat) (c : Code) (W : World), w.heap.size ≤ D → Left c W → W.heap[D]? = some (.deferred (some [])) → c.wpIn Fence.wide n P Q { a with defers := { target := .collected D, args := #[] } :: a.defers } W) :
    (Code.rangeFunc g ps assign body).wpIn Fence.wide n P Q a w := by
  refine wpIn_rangeFunc fun fn hfn => ?_
  obtain ⟨rec, hrec⟩ : ∃ rec : LoopState → Option Code → Loop, rec = fun st pe => { state := st, pending := pe, fn, tmps := a.tmps, params := ps, assign, body, defers := w.heap.size } := ⟨_, rfl⟩
  obtain ⟨W1, hW1⟩ : ∃ W1, (w.alloc (.deferred (some []))).alloc (.loop (rec .ready none)) = W1 := ⟨_, rfl⟩
  have hL1 : W1.heap[w.heap.size + 1]? = some (.loop (rec .ready none)) := by
    rw [← hW1]; have := World.alloc_heap_new (w.alloc (.deferred (some []))) (.loop (rec .ready none)); rwa [World.size_alloc] at this
  have hK1 : W1.heap[w.heap.size]? = some (.deferred (some [])) := by
    rw [← hW1]; exact (Below.heap_alloc _ _ _ (by simp)).trans (World.alloc_heap_new w _)
  have hb1 : Below w.heap.size w W1 := by
    rw [← hW1]; exact ((Below.refl _ w).alloc (Nat.le_refl _) _).alloc (by simp) _
  have hs1 : W1.heap.size = w.heap.size + 2 := by rw [← hW1]; simp
  refine ⟨w.heap.size + 1, [{ target := .collected w.heap.size, args := #[] }], W1, { target := .fn (.func gf) lb, args := #[.func (.yield (w.heap.size + 1)) #[] #[]] }, W1, gf,
    #[.func (.yield (w.heap.size + 1)) #[] #[]] ++ lb, W1, ?_, ?_, ?_, ?_, (fun h => (by cases h)), ?_⟩
  · rw [← hW1, hrec]; exact run_enterLoop_outer _ _ _ _ _
  · simp only [resolve, hg]
    simp [go_sem]
  · intro f' _; trivial
  · simp [invoke, go_sem, eg]
  · refine (hseq (w.heap.size + 1) (fun W => W.heap[w.heap.size + 1]? = some (.loop (rec .ready none)) ∧ W.heap[w.heap.size]? = some (.deferred (some [])))
      (fun c W => W.heap[w.heap.size + 1]? = some (.loop (rec .done (some c))) ∧ W.heap[w.heap.size]? = some (.deferred (some []))) W1 hb1 hs1 ⟨hL1, hK1⟩
      (fun W W' hk h => ⟨hk _ _ (by omega) (by omega) h.1 rfl, hk _ _ (Nat.le_refl _) (by omega) h.2 rfl⟩) (fun c W W' hk h => ⟨hk _ _ (by omega) (by omega) h.1 rfl, hk _ _ (Nat.le_refl _) (by omega) h.2 rfl⟩) ?_).mono ?_
    · rintro m x W hp ⟨hl, hd⟩
      have hlt : w.heap.size + 1 < W.heap.size := (Array.getElem?_eq_some_iff.1 hl).1
      have hy := run_yield (P := P) (args := encs x) hl (by rw [hrec]; exact hps x)
      rw [hrec] at hy
      refine ⟨fn, _, assign, body, hy, ⟨hfn, fun c cs _ => (roundIn_of_wpIn (n := n - 1 - 1) hfn (hassign _ x W _ ?_)).2 c cs (fun d h => by cases h)⟩⟩
      clear hy
      refine ⟨_, run_beginRound hl (by rw [hrec]), ?_⟩
      obtain ⟨A, hA⟩ : ∃ A, W.putObj (w.heap.size + 1) (.loop { rec .ready none with state := .busy }) = A := ⟨_, rfl⟩
      have hl2 : A.heap[w.heap.size + 1]? = some (.loop { rec .ready none with state := .busy }) := by rw [← hA]; exact World.putObj_heap_same hlt
      have hd2 : A.heap[w.heap.size]? = some (.deferred (some [])) := by rw [← hA]; exact (World.putObj_heap_other (by omega)).trans hd
      have hag : Ag w.heap.size W A := by rw [← hA]; exact Ag.putObj (by omega) hl rfl rfl
      have hsz : A.heap.size = W.heap.size := hag.size
      have hsame : ∀ k, k ≠ w.heap.size + 1 → A.heap[k]? = W.heap[k]? := fun k hk => by rw [← hA]; exact World.putObj_heap_other hk
      rw [hA]
      refine wpIn_mono (hbody _ x A (hPre x W A hag hp) (by omega)) ?_
      have fin : ∀ (jump : Option Code) (W3 : World), KeepsFrom w.heap.size A W3 → ∃ W4, (Instr.endRound (w.heap.size + 1) jump).run P W3 = .ok (.bool jump.isNone) W4 ∧ Ag w.heap.size W3 W4 ∧
          W4.heap[w.heap.size + 1]? = some (.loop (rec (if jump.isNone then .ready else .done) jump)) ∧ W4.heap[w.heap.size]? = some (.deferred (some [])) ∧ (∀ k, k ≠ w.heap.size + 1 → W4.heap[k]? = W3.heap[k]?) := fun jump W3 hk3 => by
        have hl3 := hk3.same _ _ (by omega) hl2 rfl
        have := run_endRound (P := P) jump hl3
        refine ⟨_, this, Ag.putObj (by omega) hl3 rfl rfl, ?_, (World.putObj_heap_other (by omega)).trans (hk3.same _ _ (Nat.le_refl _) hd2 rfl), fun k hk => World.putObj_heap_other hk⟩
        rw [World.putObj_heap_same (Array.getElem?_eq_some_iff.1 hl3).1, hrec]
      have keep : ∀ W4 W3, KeepsFrom w.heap.size A W3 → Ag w.heap.size W3 W4 → (∀ k, k ≠ w.heap.size + 1 → W4.heap[k]? = W3.heap[k]?) → KeepsFrom (w.heap.size + 2) W W4 := fun W4 W3 hk3 hag4 hs4 =>
        ⟨by rw [hag4.size, ← hsz]; exact hk3.size, fun k o hk ho hc => by rw [hs4 k (by omega)]; exact hk3.same k o (by omega) ((hsame k (by omega)).trans ho) hc⟩
      rintro e a3 W3 hp3
      cases e with
      | normal =>
        obtain ⟨hk3, hg3⟩ := hp3
        obtain ⟨W4, hr, hag4, hl4, hd4, hs4⟩ := fin none W3 hk3
        refine ⟨_, _, hr, .inl ⟨rfl, hGo x W A W3 W4 hag hag4 hg3, ⟨hl4, hd4⟩, ?_, fun k o hk ho hc => ?_⟩⟩
        · rw [hag4.size, ← hsz]; exact hk3.size
        · by_cases e : k = w.heap.size + 1
          · subst e
            rw [hl] at ho
            cases ho
            exact hl4
          · rw [hs4 k e]
            exact hk3.same k o hk ((hsame k e).trans ho) hc
      | ret =>
        obtain ⟨hk3, hg3⟩ := hp3
        obtain ⟨W4, hr, hag4, hl4, hd4, hs4⟩ := fin (some .ret) W3 hk3
        exact ⟨_, _, hr, .inr ⟨rfl, .ret, hOut _ x W A W3 W4 hag hag4 hg3, ⟨hl4, hd4⟩, keep W4 W3 hk3 hag4 hs4⟩⟩
      | exit id =>
        obtain ⟨hk3, hg3⟩ := hp3
        obtain ⟨W4, hr, hag4, hl4, hd4, hs4⟩ := fin (some (.exit id)) W3 hk3
        exact ⟨_, _, hr, .inr ⟨rfl, .exit id, hOut _ x W A W3 W4 hag hag4 hg3, ⟨hl4, hd4⟩, keep W4 W3 hk3 hag4 hs4⟩⟩
      | goto t =>
        obtain ⟨hk3, hg3⟩ := hp3
        obtain ⟨W4, hr, hag4, hl4, hd4, hs4⟩ := fin (some (.goto t)) W3 hk3
        exact ⟨_, _, hr, .inr ⟨rfl, .goto t, hOut _ x W A W3 W4 hag hag4 hg3, ⟨hl4, hd4⟩, keep W4 W3 hk3 hag4 hs4⟩⟩
      | panic ch => exact hp3.elim
      | outgrown => exact hp3.elim
    · rintro e W2 ⟨⟨v, rfl⟩, (⟨hf, hl, hd⟩ | ⟨c, hf, hl, hd⟩)⟩
      · have := run_endLoop (P := P) hl (by rw [hrec]; simp)
        exact ⟨none, _, by rw [this, hrec], hdone _ _ (Nat.le_refl _) (hFin _ _ (Ag.putObj (by omega) hl rfl rfl) hf) ((World.putObj_heap_other (by omega)).trans hd)⟩
      · have := run_endLoop (P := P) hl (by rw [hrec]; simp)
        exact ⟨some c, _, by rw [this, hrec], hstop _ c _ (Nat.le_refl _) (hLeft c _ _ (Ag.putObj (by omega) hl rfl rfl) hf) ((World.putObj_heap_other (by omega)).trans hd)⟩
theorem wpIn_range {α : Type} {n : Nat} {P : Program} {g : Operand} {ps : Array Tmp} {assign body : Code} {Q : Exit → Act → World → Prop} {a : Act} {w : World}
    {gf : Nat} {lb : Array Value} (hg : a.eval g = .func (.func gf) #[] lb) (eg : ∀ args w, (callFunc gf args).run P w = .ok (.enter gf args) w)
    {encs : α → Array Value} (hps : ∀ x, (encs x).size = ps.size)
    (Pre : α → World → Prop) (Go : α → World → World → Prop) (Out : Code → α → World → World → Prop) (Fin : World → Prop) (Left : Code → World → Prop)
    (hPre : ∀ x W A, Ag w.heap.size W A → Pre x W → Pre x A)
    (hGo : ∀ x W A A' W', Ag w.heap.size W A → Ag w.heap.size A' W' → Go x A A' → Go x W W')
    (hOut : ∀ c x W A A' W', Ag w.heap.size W A → Ag w.heap.size A' W' → Out c x A A' → Out c x W W')
    (hFin : ∀ W A, Ag w.heap.size W A → Fin W → Fin A) (hLeft : ∀ c W A, Ag w.heap.size W A → Left c W → Left c A)
    (a₁ : α → Act)
    (hassign : ∀ (l : Nat) (x : α) (W : World) (K : Act → World → Prop), K (a₁ x) W →
      assign.wpIn (Fence.wide.inRound l) (n - 1 - 1) P (Exit.then K (fun _ _ _ => False)) { tmps := (ps.zip (encs x)).foldl (fun t (p, v) => t.setIfInBounds p v) a.tmps, defers := [] } W)
    (hbody : ∀ (l : Nat) (x : α) (W : World), Pre x W → w.heap.size + 2 ≤ W.heap.size → body.wpIn (Fence.wide.inRound l) (n - 1 - 1) P (backPost w.heap.size Go Out x W) (a₁ x) W)
    (hseq : ∀ (l : Nat) (Rec : World → Prop) (RecX : Code → World → Prop) (W1 : World), Below w.heap.size w W1 → W1.heap.size = w.heap.size + 2 → Rec W1 →
      (∀ W W', KeepsFrom w.heap.size W W' → Rec W → Rec W') → (∀ c W W', KeepsFrom w.heap.size W W' → RecX c W → RecX c W') →
      (∀ (m : Nat) (x : α) (W : World), Pre x W → Rec W → YieldAt Fence.wide m P l (encs x) W fun e W' => (e = .returned (.bool true) ∧ Go x W W' ∧ Rec W' ∧ KeepsFrom w.heap.size W W') ∨ (e = .returned (.bool false) ∧ ∃ c, Out c x W W' ∧ RecX c W')) →
      CallsIn Fence.wide (n - 1) P gf (#[.func (.yield l) #[] #[]] ++ lb) W1 fun e W' => (∃ v, e = .returned v) ∧ ((Fin W' ∧ Rec W') ∨ ∃ c, Left c W' ∧ RecX c W'))
    (hdone : ∀ (D : Nat) (W : World), w.heap.size ≤ D → Fin W → W.heap[D]? = some (.deferred (some [])) → Q .normal { a with defers := { target := .collected D, args := #[] } :: a.defers } W)
    (hstop : ∀ (D : Nat) (c : Code) (W : World), w.heap.size ≤ D → Left c W → W.heap[D]? = some (.deferred (some [])) → c.wpIn Fence.wide n P Q { a with defers := { target := .collected D, args := #[] } :: a.defers } W) :
    (Code.rangeFunc g ps assign body).wpIn Fence.wide n P Q a w :=
  wpIn_rangeK hg eg hps Pre Go Out Fin Left hPre hGo hOut hFin hLeft a₁ hassign hbody (fun l Rec RecX W1 h1 h2 h3 h4 h5 h6 => hseq l Rec RecX W1 h1 h2 h3 (fun W W' hk => h4 W W' (.of hk)) (fun c W W' hk => h5 c W W' (.of hk)) (fun m x W hp hr => YieldAt.mono (h6 m x W hp hr) (fun _ _ h => h.imp (fun q => q) (fun ⟨h1, c, h2, h3, _⟩ => ⟨h1, c, h2, h3⟩)))) hdone hstop
end Go.Proofs.YtkfpgkohkhhlhaaGreatDoor
namespace Go.Proofs.YtkfpgkohkhhlhaaGreatDoor
open Go.RowKit Go.Shelf

theorem alloc_old {w : World} {o : Obj} {r : Nat} (h : r < w.heap.size) : (w.alloc o).heap[r]? = w.heap[r]? := Below.heap_alloc w o r h
theorem alloc_new (w : World) (o : Obj) : (w.alloc o).heap[w.heap.size]? = some o := World.alloc_heap_new w o
theorem alloc2_new (w : World) (A B : Obj) : ((w.alloc A).alloc B).heap[w.heap.size + 1]? = some B := by
  have h := World.alloc_heap_new (w.alloc A) B
  rwa [World.size_alloc] at h
/-- The sum of the first. -/
def sumN (f : Nat → Nat) : Nat → Nat
  | 0 => 0
  | n + 1 => sumN f n + f n
/-- The greatest of the first. -/
def maxN (f : Nat → Nat) : Nat → Nat
  | 0 => 0
  | n + 1 => max (maxN f n) (f n)
theorem sumN_le {f : Nat → Nat} : ∀ {n i : Nat}, i < n → f i ≤ sumN f n
  | 0, _, h => by omega
  | n + 1, i, h => by
    simp only [sumN]
    by_cases e : i = n
    · subst e; omega
    · have := sumN_le (f := f) (show i < n by omega); omega
theorem round_wide {m m' : Nat} {P : Program} {l : Nat} {f : FuncId} {tmps : Array Value} {assign body : Code} {w : World} {R : Ending → World → Prop}
    (h : RoundIn Fence.wide m P l f tmps assign body w R) : RoundIn Fence.wide m' P l f tmps assign body w R := ⟨h.1, fun c cs _ => h.2 c cs (fun d h => by cases h)⟩
theorem yield_wide {m : Nat} (m' : Nat) {P : Program} {l : Nat} {args : Array Value} {W : World} {R : Ending → World → Prop} (h : YieldAt Fence.wide m P l args W R) : YieldAt Fence.wide m' P l args W R := by
  obtain ⟨fn, tmps, assign, body, hy, hR⟩ := h
  exact ⟨fn, tmps, assign, body, hy, round_wide hR⟩

/-- The first of some lists, one behind the other. -/
def catN {α : Type} (f : Nat → List α) : Nat → List α
  | 0 => []
  | n + 1 => catN f n ++ f n
theorem catN_len {α : Type} (f : Nat → List α) : ∀ {n i : Nat}, i < n → (catN f i).length + (f i).length ≤ (catN f n).length
  | 0, _, h => by omega
  | n + 1, i, h => by
    simp only [catN, List.length_append]
    by_cases e : i = n
    · subst e; omega
    · have := catN_len f (show i < n by omega); omega
theorem mem_catN {α : Type} {f : Nat → List α} {y : α} : ∀ {n : Nat}, y ∈ catN f n ↔ ∃ i, i < n ∧ y ∈ f i
  | 0 => by simp [catN]
  | n + 1 => by
    rw [catN, List.mem_append, mem_catN]
    constructor
    · rintro (⟨i, hi, h⟩ | h)
      · exact ⟨i, by omega, h⟩
      · exact ⟨n, by omega, h⟩
    · rintro ⟨i, hi, h⟩
      by_cases e : i = n
      · exact .inr (e ▸ h)
      · exact .inl ⟨i, by omega, h⟩
/-- Blocks of cells that stay as they are. -/
def Kp (T : Nat → Prop) (W W' : World) : Prop := ∀ (k : Nat) (o : Obj), T k → o.isCells = true → W.heap[k]? = some o → W'.heap[k]? = some o
theorem Kp.refl (T : Nat → Prop) (W : World) : Kp T W W := fun _ _ _ _ h => h
theorem Kp.trans {T : Nat → Prop} {A B C : World} (h : Kp T A B) (g : Kp T B C) : Kp T A C := fun k o hk ho e => g k o hk ho (h k o hk ho e)
theorem Kp.cell {T : Nat → Prop} {W W' : World} (h : Kp T W W') {p : Addr} {v : Value} (hp : T p.block) (hc : W.cell? p = some v) : W'.cell? p = some v := by
  obtain ⟨o, ho, hi⟩ := cells_of_cell hc
  rw [World.cell?_of_block (w := W) (w' := W') ((h _ _ hp hi ho).trans ho.symm)]
  exact hc
theorem Kp.ag {B : Nat} {T : Nat → Prop} {W A A' W' : World} (h : Ag B W A) (h' : Ag B A' W') (g : Kp T A A') : Kp T W W' := fun k o hk ho e => (h'.cells k o ho).2 (g k o hk ho ((h.cells k o ho).2 e))
theorem Kp.mono {T T' : Nat → Prop} {W W' : World} (h : Kp T W W') (hT : ∀ k, T' k → T k) : Kp T' W W' := fun k o hk => h k o (hT k hk)
theorem Kp.of_below {n : Nat} {T : Nat → Prop} {W W' : World} (h : Below n W W') (hT : ∀ k, T k → k < n) : Kp T W W' := fun k _ hk _ e => (h.block k (hT k hk)).trans e
theorem Kp.boxed {T : Nat → Prop} {W W' : World} (h : Kp T W W') {b : Nat} {t : TypeId} {v : Value} (hp : T b) (hb : Boxed W b t v) : Boxed W' b t v := h b _ hp rfl hb
theorem Boxed.kept_of {W W' : World} {n B : Nat} {t : TypeId} {v : Value} (h : Boxed W B t v) (hB : Below n W W') (hn : B < n) : Boxed W' B t v := (hB.block B hn).trans h
theorem Kp.set {T : Nat → Prop} {W : World} {b o : Nat} (v : Value) (h : ¬ T b) : Kp T W (W.setCell ⟨b, o, none⟩ v) := fun k _ hk _ e => (Below.heap_setCell W ⟨b, o, none⟩ v k (fun he => h (by have he' : k = b := he; rw [← he']; exact hk))).trans e
/-- One more, as the machine counts. -/
def cnt : Nat → Int
  | 0 => 0
  | n + 1 => wrap64 (cnt n + 1)

theorem heap_set {W : World} {b o : Nat} {v : Value} {c : Array Value} {t : TypeId} (h : W.heap[b]? = some (.cells c t (0, 0))) : (W.setCell ⟨b, o, none⟩ v).heap[b]? = some (.cells (c.setIfInBounds o v) t (0, 0)) := by
  simp only [World.setCell, Array.getElem?_modify, if_pos, h]
  rfl
theorem maxN_le {f : Nat → Nat} : ∀ {n i : Nat}, i < n → f i ≤ maxN f n
  | 0, _, h => by omega
  | n + 1, i, h => by
    simp only [maxN]
    by_cases e : i = n
    · subst e; omega
    · have := maxN_le (f := f) (show i < n by omega); omega
theorem own_laterS {w w' : World} {B e size n : Nat} {v : Value} {xs : List Value} (h : w.ownsRow B e size v n xs) (hb : Below w.heap.size w w') : w'.ownsRow B e size v n xs :=
  h.kept (row := none) ⟨hb.os, hb.tape, hb.output, hb.size, fun k hk _ => hb.block k hk⟩ (Classical.em _)
/-- How a body that changes no node may be left. -/
def foldPost (B : Nat) (T : Nat → Prop) (J : World → Prop) (Jx : Code → World → Prop) (W : World) : Exit → Act → World → Prop
  | .normal, _, W' => KeepsFrom B W W' ∧ Kp T W W' ∧ J W'
  | .ret, _, W' => KeepsFrom B W W' ∧ Jx .ret W'
  | .exit id, _, W' => KeepsFrom B W W' ∧ Jx (.exit id) W'
  | .goto t, _, W' => KeepsFrom B W W' ∧ Jx (.goto t) W'
  | .panic _, _, _ => False
  | .outgrown, _, _ => False
/-- How a body that does what it does to a node may be left. -/
def walkPost (B : Nat) (G : World → Prop) (W : World) : Exit → Act → World → Prop
  | .normal, _, W' => KeepsFrom B W W' ∧ Kp (fun k => k = B + 2 ∨ k = B + 3) W W' ∧ G W'
  | _, _, _ => False
/-- What a round is handed. -/
structure Got (ι : Type) where
  d : Int
  b : Nat
  o : Nat
  v : ι

theorem sumN_part {f : Nat → Nat} : ∀ {n i : Nat}, i < n → sumN f i + f i ≤ sumN f n
  | 0, _, h => by omega
  | n + 1, i, h => by
    simp only [sumN]
    by_cases e : i = n
    · subst e; omega
    · have := sumN_part (f := f) (show i < n by omega); omega
theorem wpOp_append_at {P : Program} {w w' : World} {o : Oper} {a : Act} {K : Act → World → Prop} {Q : Exit → Act → World → Prop} (s x : Operand) (t : TypeId)
    (hop : o.op = Op.call { callee := Callee.builtin Builtin.append, args := #[s, x], argTypes := #[t, t] }) (v y v' : Value) (hs : a.eval s = v) (hx : a.eval x = y)
    (hrun : (Builtin.append_ #[t, t] o.type #[v, y]).run P w = .ok v' w') (hK : K (a.put o.dst v') w') : Oper.wp P o a w K Q := by
  unfold Oper.wp
  simp [execOp, hop, resolve, invoke, builtin, hs, hx, hrun, Result.andThen]
  exact hK
end Go.Proofs.YtkfpgkohkhhlhaaGreatDoor
namespace Go.Proofs.YtkfpgkohkhhlhaaGreatDoor
open Go.RowKit

theorem wf_u8 {n : Int} (h : (Lit.int .u8 n).wf = true) : 0 ≤ n ∧ n ≤ 255 := by
  simp [Lit.wf, IntKind.min, IntKind.max, IntKind.bits, IntKind.signed] at h
  omega
/-- A cell that came in, in a later world. -/
theorem cell_later {w w' : World} {p : Addr} {v : Value} (h : w.cell? p = some v) (b : Below w.heap.size w w') : w'.cell? p = some v := by
  rw [b.cell (World.block_lt_of_cell? w _ h), h]
end Go.Proofs.YtkfpgkohkhhlhaaGreatDoor
namespace Go.Proofs.YtkfpgkohkhhlhaaGreatDoor
open Go.RowKit

theorem ret_int {k : IntKind} {a b : Int} (h : a = b) : Ending.returned (.int k a) = .returned (.int k b) := by rw [h]
theorem ret_bool {a b : Bool} (h : a = b) : Ending.returned (.bool a) = .returned (.bool b) := by rw [h]
def intOf : Value → Int | .int _ q => q | _ => 0
/-- An append in a walk, by its run. -/
theorem wpList_append_run {P : Program} {w w' : World} {ops : Array Oper} {rest : List Oper} {o : Oper} {a : Act} {Q : Exit → Act → World → Prop} (hg : o.guard = none) (s x : Operand) (t : TypeId)
    (hop : o.op = Op.call { callee := Callee.builtin Builtin.append, args := #[s, x], argTypes := #[t, t] }) (v y v' : Value) (hs : a.eval s = v) (hx : a.eval x = y)
    (hrun : (Builtin.append_ #[t, t] o.type #[v, y]).run P w = .ok v' w') (hK : wpList P ops Q rest (a.put o.dst v') w') : wpList P ops Q (o :: rest) a w := by
  refine wpList_plain hg fun K hK' => ?_
  unfold Oper.wp
  simp [execOp, hop, resolve, invoke, builtin, hs, hx, hrun, Result.andThen]
  exact hK' _ _ hK
/-- The bytes of a string. -/
def bytesS (s : ByteArray) : List Int := s.data.toList.map fun b => (b.toNat : Int)
theorem bytesS_bd (s : ByteArray) : ∀ c ∈ bytesS s, 0 ≤ c ∧ c ≤ 255 := by
  intro c hc
  obtain ⟨b, _, rfl⟩ := List.mem_map.1 hc
  have := b.toNat_lt
  omega

/-- The byte at a place. -/
def byteAt (s : ByteArray) (k : Nat) : Int := (bytesS s)[k]?.getD 0
theorem byteAt_get (s : ByteArray) (k : Nat) (h : k < s.size) : ((s[k]'h).toNat : Int) = byteAt s k := by
  have h' : k < s.data.size := h
  have e : s.data[k]? = some (s.data[k]'h') := Array.getElem?_eq_getElem h'
  simp only [byteAt, bytesS, List.getElem?_map, Array.getElem?_toList, e, Option.map_some, Option.getD_some]
  rfl
theorem byteAt_bd (s : ByteArray) (k : Nat) : 0 ≤ byteAt s k ∧ byteAt s k ≤ 255 := by
  unfold byteAt
  by_cases hk : k < (bytesS s).length
  · simpa [hk] using bytesS_bd s _ (List.getElem_mem hk)
  · simp [Nat.not_lt.1 hk]
end Go.Proofs.YtkfpgkohkhhlhaaGreatDoor
namespace Go.Proofs.YtkfpgkohkhhlhaaGreatDoor
open Go.RowKit Go.Extern.Stop Go.Stop Go.Extern

/-- No error, or one of this number. -/
def errV (e : Int) : Value := if e = 0 then .nilIface else rfsV e
/-- An error and its number. -/
def ErrW (z : Int) (v : Value) : Prop := (z = 0 ∧ v = .nilIface) ∨ (z ≠ 0 ∧ ∃ y : Rfs, y.root = z ∧ v = y.val)
theorem errW_of (z : Int) : ErrW z (errV z) := by
  unfold errV
  split
  · exact .inl ⟨by assumption, rfl⟩
  · exact .inr ⟨by assumption, .base z, rfl, rfl⟩
set_option maxHeartbeats 1000000 in
theorem refused_any (e : Int) (w : World) : Calls Tryz.prog 113 #[.int .i64 e] w fun r w' => r = .returned (errV e) ∧ w' = w := by
  unfold errV
  by_cases h : e = 0
  · subst h
    go_enter Tryz.func113, Tryz.ntmps113
    go_wp2
    go_ret
    exact ⟨rfl, rfl⟩
  · have t : (e == 0) = false := by simpa using h
    rw [if_neg h]
    clear h
    go_enter Tryz.func113, Tryz.ntmps113
    go_wp2
    go_ret
    exact ⟨rfl, rfl⟩
set_option maxHeartbeats 1000000 in
theorem refusedIf_any (b : Bool) (e : Int) (w : World) : Calls Tryz.prog 111 #[.bool b, .int .i64 e] w fun r w' => r = .returned (if b then rfsV e else .nilIface) ∧ w' = w := by
  cases b
  all_goals go_enter Tryz.func111, Tryz.ntmps111
  all_goals go_wp2
  all_goals go_ret
  all_goals exact ⟨rfl, rfl⟩
theorem method_run {P : Program} {z : Sem Value} {f : TypeId → Addr → Nat → Nat → Sem Value} {v : Value} {t : TypeId} {a : Addr} {fl : Nat} {w : World} (h : (Extern.ReflectliteValue.parts v).run P w = .ok (some (t, a, fl)) w) :
    (Extern.ReflectliteValue.method z f #[v]).run P w = (f t a fl (fl % 32)).run P w := by
  show (Bind.bind (Extern.ReflectliteValue.parts v) _).run P w = _
  rw [Sem.run_bind, h]
  rfl
theorem set_run {P : Program} {v x : Value} {t t' : TypeId} {a a' : Addr} {fl fl' : Nat} {w w' : World} {u : Value} (h : (Extern.ReflectliteValue.parts v).run P w = .ok (some (t, a, fl)) w) (h' : (Extern.ReflectliteValue.parts x).run P w = .ok (some (t', a', fl')) w)
    (hfl : fl / Extern.ReflectliteValue.flagAddr % 2 = 1) (hl : (loadVar t' a').run P w = .ok u w) (hd : (Extern.Rtype.directlyAssignable t t').run P w = .ok true w) (hs : (storeVar t a u).run P w = .ok () w') :
    (Extern.ReflectliteValue.set #[v, x]).run P w = .ok (.tuple #[]) w' := by
  show (Bind.bind (Extern.ReflectliteValue.parts v) _).run P w = _
  rw [Sem.run_bind, h]
  show (Bind.bind (Extern.ReflectliteValue.parts x) _).run P w = _
  rw [Sem.run_bind, h']
  simp [hfl, hl, hd, hs]
theorem Tryz.asIsNil (b : Nat) (a : Addr) (w : World) (hc : w.cell? ⟨b, 0, none⟩ = some (.pointer (some a))) : (callFunc 73 #[asV b]).run Tryz.prog w = .ok (.value (.bool false)) w := by
  rw [@run_callFunc_extern Tryz.prog 73 _ (Extern.ReflectliteValue.method (Extern.ReflectliteValue.valueError "reflectlite.Value.IsNil" 0) Extern.ReflectliteValue.isNil) Tryz.func73 (by kernel_rfl) (by kernel_rfl) (by kernel_rfl) (by kernel_rfl)]
  have h1 : (Extern.ReflectliteValue.parts (asV b)).run Tryz.prog w = .ok (some (67, ⟨b, 0, none⟩, 150)) w := by kernel_rfl
  have h2 : (loadVar 67 ⟨b, 0, none⟩).run Tryz.prog w = .ok (.pointer (some a)) w := by
    have : (isAgg 67).run Tryz.prog w = .ok false w := by kernel_rfl
    simp [loadVar, this, hc]
  rw [method_run h1]
  simp [Extern.ReflectliteValue.isNil, h2]
theorem Tryz.asElemV (b : Nat) (a : Addr) (w : World) (hc : w.cell? ⟨b, 0, none⟩ = some (.pointer (some a))) : (callFunc 124 #[asV b]).run Tryz.prog w = .ok (.value (.agg #[hdl 63, .pointer (some a), .int .u64 386])) w := by
  rw [@run_callFunc_extern Tryz.prog 124 _ (Extern.ReflectliteValue.method (Extern.ReflectliteValue.valueError "reflectlite.Value.Elem" 0) Extern.ReflectliteValue.elem) Tryz.func124 (by kernel_rfl) (by kernel_rfl) (by kernel_rfl) (by kernel_rfl)]
  have h1 : (Extern.ReflectliteValue.parts (asV b)).run Tryz.prog w = .ok (some (67, ⟨b, 0, none⟩, 150)) w := by kernel_rfl
  have h2 : (loadVar 67 ⟨b, 0, none⟩).run Tryz.prog w = .ok (.pointer (some a)) w := by
    have : (isAgg 67).run Tryz.prog w = .ok false w := by kernel_rfl
    simp [loadVar, this, hc]
  have h3 : (Extern.Rtype.elem? 67).run Tryz.prog w = .ok (some 63) w := by kernel_rfl
  have h4 : (Extern.ReflectliteValue.mk 63 a Extern.ReflectliteValue.flagAddr).run Tryz.prog w = .ok (.agg #[hdl 63, .pointer (some a), .int .u64 386]) w := by kernel_rfl
  rw [method_run h1]
  simp [Extern.ReflectliteValue.elem, h2, h3, h4]
theorem Tryz.asSet (a b : Nat) (e z : Int) (w : World) (hb : w.cell? ⟨b, 0, none⟩ = some (.int .i64 e)) (ha : w.cell? ⟨a, 0, none⟩ = some (.int .i64 z)) (hf : w.frozen? ⟨a, 0, none⟩ = false) :
    (callFunc 125 #[.agg #[hdl 63, .pointer (some ⟨a, 0, none⟩), .int .u64 386], .agg #[hdl 63, .pointer (some ⟨b, 0, none⟩), .int .u64 130]]).run Tryz.prog w = .ok (.value (.tuple #[])) (w.setCell ⟨a, 0, none⟩ (.int .i64 e)) := by
  rw [@run_callFunc_extern Tryz.prog 125 _ Extern.ReflectliteValue.set Tryz.func125 (by kernel_rfl) (by kernel_rfl) (by kernel_rfl) (by kernel_rfl)]
  have h1 : (Extern.ReflectliteValue.parts (.agg #[hdl 63, .pointer (some ⟨a, 0, none⟩), .int .u64 386])).run Tryz.prog w = .ok (some (63, ⟨a, 0, none⟩, 386)) w := by kernel_rfl
  have h2 : (Extern.ReflectliteValue.parts (.agg #[hdl 63, .pointer (some ⟨b, 0, none⟩), .int .u64 130])).run Tryz.prog w = .ok (some (63, ⟨b, 0, none⟩, 130)) w := by kernel_rfl
  have h3 : (loadVar 63 ⟨b, 0, none⟩).run Tryz.prog w = .ok (.int .i64 e) w := by
    have : (isAgg 63).run Tryz.prog w = .ok false w := by kernel_rfl
    simp [loadVar, this, hb]
  have h4 : (Extern.Rtype.directlyAssignable 63 63).run Tryz.prog w = .ok true w := by kernel_rfl
  have h5 : (storeVar 63 ⟨a, 0, none⟩ (.int .i64 e)).run Tryz.prog w = .ok () (w.setCell ⟨a, 0, none⟩ (.int .i64 e)) := by
    have : (sizeOf 63).run Tryz.prog w = .ok 1 w := by kernel_rfl
    simp [storeVar, this, Value.cells, storeCells, go_sem, ha, hf]
  rw [set_run h1 h2 (by decide) h3 h4 h5]
  rfl
theorem Rfs.iface (y : Rfs) : ∃ t u, y.val = .iface t u := by cases y <;> exact ⟨_, _, rfl⟩
set_option maxHeartbeats 1000000 in
theorem unwrapW_any (i : Int) (v : Value) (w : World) : Calls Tryz.prog 259 #[.agg #[.int .i64 i, v]] w fun e w' => e = .returned v ∧ Below w.heap.size w w' := by
  go_enter Tryz.func259, Tryz.ntmps259
  go_wp2
  exact bodyPost_ret (v := v) (by simp [results, Tryz.results259, go_sem]) rfl ⟨rfl, (Below.refl _ _).alloc (Nat.le_refl _) _⟩
set_option maxRecDepth 100000 in
set_option maxHeartbeats 2000000 in
/-- The loop of errors.As: the refusal is put into the target's cell. -/
theorem as_loop (y : Rfs) (b vb : Nat) (z : Int) (w : World) (tg : Value) (hb : Boxed w b 63 (.int .i64 z)) (hv : w.cell? ⟨vb, 0, none⟩ = some (.pointer (some ⟨b, 0, none⟩))) :
    Calls Tryz.prog 74 #[y.val, tg, asV vb, rty 63] w fun e w' => e = .returned (.bool true) ∧ Boxed w' b 63 (.int .i64 y.root) ∧ Below b w w' := by
  have tI := Tryz.asTypeOfI
  have tR := Tryz.asTypeOfR
  have aI := Tryz.asAssI
  have aR := Tryz.asAssR
  have mA := Tryz.asMAss
  have mU := Tryz.asMUnwrap
  have nA := Tryz.asNoAs
  have hU := Tryz.asHasU
  have vR := Tryz.asValueOfR
  obtain ⟨A, hA⟩ : ∃ A, w.alloc (.cells #[hdl 67, .pointer (some ⟨vb, 0, none⟩), .int .u64 150] 120) = A := ⟨_, rfl⟩
  have hBA : Below w.heap.size w A := by rw [← hA]; exact (Below.refl _ w).alloc (Nat.le_refl _) _
  have HQ : Hid (A.heap[w.heap.size]? = some (.cells #[hdl 67, .pointer (some ⟨vb, 0, none⟩), .int .u64 150] 120 (0, 0))) := by rw [← hA]; exact alloc_new w _
  have hsA : A.heap.size = w.heap.size + 1 := by rw [← hA]; simp
  have hblt := hb.lt
  have HB : Hid (Boxed A b 63 (.int .i64 z)) := Boxed.kept_of hb hBA hblt
  have HV : Hid (A.cell? ⟨vb, 0, none⟩ = _) := cell_later hv hBA
  clear hb hv
  go_enter Tryz.func74, Tryz.ntmps74
  go_wp2
  go_loopw [0] (fun u wr => ∃ x : Rfs, u = x.val ∧ x.root = y.root ∧ Below A.heap.size A wr) (fun u _ => SizeOf.sizeOf u)
  case atStart => exact ⟨y, rfl, rfl, Below.refl _ _⟩
  case round =>
    obtain ⟨x, rfl, hr, hB⟩ := hrel
    have HR : Hid (x.root = y.root) := hr
    clear hr
    cases x with
    | base e =>
      have hbw : Boxed wr b 63 (.int .i64 z) := Boxed.kept_of HB.out hB (by omega)
      have hvw := cell_later HV.out hB
      have hq : wr.heap[w.heap.size]? = some (.cells #[hdl 67, .pointer (some ⟨vb, 0, none⟩), .int .u64 150] 120 (0, 0)) := (hB.block _ (by omega)).trans HQ.out
      have q0 : wr.cell? ⟨w.heap.size, 0, none⟩ = some (hdl 67) := by simp [World.cell?, hq]
      have q1 : wr.cell? ⟨w.heap.size, 1, none⟩ = some (.pointer (some ⟨vb, 0, none⟩)) := by simp [World.cell?, hq]
      have q2 : wr.cell? ⟨w.heap.size, 2, none⟩ = some (.int .u64 150) := by simp [World.cell?, hq]
      have hEl := Tryz.asElemV vb ⟨b, 0, none⟩ wr hvw
      have hb2 := hbw.alloc (.cells #[.int .i64 e] 63)
      have hSet := Tryz.asSet b wr.heap.size e z (wr.alloc (.cells #[.int .i64 e] 63)) (Boxed.new wr 63 (.int .i64 e)).cell hb2.cell hb2.frozen
      have HS : Hid (Boxed ((wr.alloc (.cells #[.int .i64 e] 63)).setCell ⟨b, 0, none⟩ (.int .i64 e)) b 63 (.int .i64 e)) := hb2.set _
      have HW : Hid (Below b w ((wr.alloc (.cells #[.int .i64 e] 63)).setCell ⟨b, 0, none⟩ (.int .i64 e))) := ((hBA.mono (Nat.le_of_lt hblt)).trans (hB.mono (by omega))).alloc (by have := hB.size; omega) _ |>.setCell (p := ⟨b, 0, none⟩) (Nat.le_refl _) _
      clear hbw hvw hb2 hq
      simp only [Rfs.val]
      go_wp2
      go_ret
      exact ⟨rfl, by rw [← HR.out]; exact HS.out, HW.out⟩
    | row i1 x =>
      cases x with
      | base a1 =>
        simp only [Rfs.val]
        go_wp2_with (first | (go_at_call 259; refine (unwrapW_any i1 (rfsV a1) _).mono ?_; rintro e w2 ⟨rfl, hB2⟩))
        go_roundw
        case rel => exact ⟨.base a1, rfl, HR.out, hB.trans (hB2.mono hB.size)⟩
        case measure => simp; omega
      | row i2 x =>
        simp only [Rfs.val]
        go_wp2_with (first | (go_at_call 259; refine (unwrapW_any i1 (.iface 217 (.agg #[.int .i64 i2, x.val])) _).mono ?_; rintro e w2 ⟨rfl, hB2⟩))
        go_roundw
        case rel => exact ⟨.row i2 x, rfl, HR.out, hB.trans (hB2.mono hB.size)⟩
        case measure => simp; omega
end Go.Proofs.YtkfpgkohkhhlhaaGreatDoor
namespace Go.Proofs.YtkfpgkohkhhlhaaGreatDoor
open Go.RowKit

/-- A value of the program, as the model has it; and as it lies in a block of its own. -/
abbrev valV (k n : Int) (s : ByteArray) : Value := .agg #[.int .i64 k, .int .i64 n, .string s]
abbrev valO (k n : Int) (s : ByteArray) : Obj := .cells #[.int .i64 k, .int .i64 n, .string s] 52

set_option maxHeartbeats 400000 in
theorem null_any (w : World) : Calls Tryz.prog 192 #[] w fun e w' => e = .returned (valV 0 0 ⟨#[]⟩) ∧ w' = w.alloc (valO 0 0 ⟨#[]⟩) := by
  go_enter Tryz.func192, Tryz.ntmps192
  go_wp2
  exact bodyPost_ret (v := valV 0 0 ⟨#[]⟩) (by simp [results, Tryz.results192, go_sem]) rfl ⟨rfl, rfl⟩
set_option maxHeartbeats 400000 in
theorem int_any (n : Int) (w : World) : Calls Tryz.prog 194 #[.int .i64 n] w fun e w' => e = .returned (valV 2 n ⟨#[]⟩) ∧ w' = w.alloc (valO 2 n ⟨#[]⟩) := by
  go_enter Tryz.func194, Tryz.ntmps194
  go_wp2
  exact bodyPost_ret (v := valV 2 n ⟨#[]⟩) (by simp [results, Tryz.results194, go_sem]) rfl ⟨rfl, rfl⟩
set_option maxHeartbeats 400000 in
theorem bool_any (b : Bool) (w : World) : Calls Tryz.prog 193 #[.bool b] w fun e w' => e = .returned (valV 1 (if b then 1 else 0) ⟨#[]⟩) ∧ w' = w.alloc (valO 1 (if b then 1 else 0) ⟨#[]⟩) := by
  cases b
  · go_enter Tryz.func193, Tryz.ntmps193
    go_wp2
    exact bodyPost_ret (v := valV 1 0 ⟨#[]⟩) (by simp [results, Tryz.results193, go_sem]) rfl ⟨rfl, rfl⟩
  · go_enter Tryz.func193, Tryz.ntmps193
    go_wp2
    exact bodyPost_ret (v := valV 1 1 ⟨#[]⟩) (by simp [results, Tryz.results193, go_sem]) rfl ⟨rfl, rfl⟩
set_option maxHeartbeats 400000 in
theorem text_short (s : ByteArray) (w : World) (h : ¬ 256 < (s.size : Int)) : Calls Tryz.prog 195 #[.string s] w fun e w' => e = .returned (valV 3 0 s) ∧ w' = w.alloc (valO 3 0 s) := by
  go_enter Tryz.func195, Tryz.ntmps195
  go_wp2
  exact bodyPost_ret (v := valV 3 0 s) (by simp [results, Tryz.results195, go_sem]) rfl ⟨rfl, rfl⟩
set_option maxHeartbeats 400000 in
theorem text_long (s : ByteArray) (w : World) (h : 256 < (s.size : Int)) : Calls Tryz.prog 195 #[.string s] w fun e w' => e = .returned (valV 0 0 ⟨#[]⟩) ∧ w' = (w.alloc (valO 0 0 ⟨#[]⟩)).alloc (valO 0 0 ⟨#[]⟩) := by
  go_enter Tryz.func195, Tryz.ntmps195
  go_wp2_with (go_at_call 192; refine (null_any _).mono ?_; rintro e w1 ⟨rfl, rfl⟩)
  exact bodyPost_ret (v := valV 0 0 ⟨#[]⟩) (by simp [results, Tryz.results195, go_sem]) rfl ⟨rfl, rfl⟩

set_option maxHeartbeats 400000 in
theorem right_none (k n : Int) (s : ByteArray) (w : World) (h0 : (k == 0) = false) (h1 : (k == 1) = false) (h2 : (k == 2) = false) (h3 : (k == 3) = false) : Calls Tryz.prog 171 #[valV k n s] w fun e w' => e = .returned (.bool false) ∧ Below w.heap.size w w' := by
  go_enter Tryz.func171, Tryz.ntmps171
  go_wp2
  go_ret
  exact ⟨rfl, (Below.refl _ w).alloc (Nat.le_refl _) _⟩
theorem below_two (w : World) (o p : Obj) : Below w.heap.size w ((w.alloc o).alloc p).drew :=
  (((Below.refl _ w).alloc (Nat.le_refl _) _).alloc (by simp) _).drew
theorem below_three (w : World) (o p q : Obj) : Below w.heap.size w (((w.alloc o).alloc p).alloc q).drew :=
  ((((Below.refl _ w).alloc (Nat.le_refl _) _).alloc (by simp) _).alloc (by simp; omega) _).drew

set_option maxHeartbeats 400000 in
theorem right_null0 (w : World) : Calls Tryz.prog 171 #[valV 0 0 ⟨#[]⟩] w fun e w' => e = .returned (.bool true) ∧ Below w.heap.size w w' := by
  go_enter Tryz.func171, Tryz.ntmps171
  go_wp2_with fail
  go_region_with (first | (go_at_call 192; refine (null_any _).mono ?_; rintro e w1 ⟨rfl, rfl⟩))
  all_goals go_wp2
  all_goals go_ret
  all_goals exact ⟨rfl, below_two _ _ _⟩
set_option maxHeartbeats 400000 in
theorem right_null1 (n : Int) (s : ByteArray) (w : World) (hn : (n == 0) = false) : Calls Tryz.prog 171 #[valV 0 n s] w fun e w' => e = .returned (.bool false) ∧ Below w.heap.size w w' := by
  go_enter Tryz.func171, Tryz.ntmps171
  go_wp2_with fail
  go_region_with (first | (go_at_call 192; refine (null_any _).mono ?_; rintro e w1 ⟨rfl, rfl⟩))
  all_goals go_wp2
  all_goals go_ret
  all_goals exact ⟨rfl, below_two _ _ _⟩
set_option maxHeartbeats 400000 in
theorem right_null2 (s : ByteArray) (w : World) (hs : (s.toList == []) = false) : Calls Tryz.prog 171 #[valV 0 0 s] w fun e w' => e = .returned (.bool false) ∧ Below w.heap.size w w' := by
  go_enter Tryz.func171, Tryz.ntmps171
  go_wp2_with fail
  go_region_with (first | (go_at_call 192; refine (null_any _).mono ?_; rintro e w1 ⟨rfl, rfl⟩))
  all_goals go_wp2
  all_goals go_ret
  all_goals exact ⟨rfl, below_two _ _ _⟩
set_option maxHeartbeats 400000 in
theorem right_bool0 (w : World) : Calls Tryz.prog 171 #[valV 1 0 ⟨#[]⟩] w fun e w' => e = .returned (.bool true) ∧ Below w.heap.size w w' := by
  go_enter Tryz.func171, Tryz.ntmps171
  go_wp2_with fail
  go_region_with (first | (go_at_call 193; refine (bool_any _ _).mono ?_; rintro e w1 ⟨rfl, rfl⟩))
  all_goals go_wp2
  all_goals go_ret
  all_goals exact ⟨rfl, below_two _ _ _⟩
set_option maxHeartbeats 400000 in
theorem right_bool1 (w : World) : Calls Tryz.prog 171 #[valV 1 1 ⟨#[]⟩] w fun e w' => e = .returned (.bool true) ∧ Below w.heap.size w w' := by
  go_enter Tryz.func171, Tryz.ntmps171
  go_wp2_with fail
  go_region_with (first | (go_at_call 193; refine (bool_any _ _).mono ?_; rintro e w1 ⟨rfl, rfl⟩))
  all_goals go_wp2
  all_goals go_ret
  all_goals exact ⟨rfl, below_two _ _ _⟩
set_option maxHeartbeats 400000 in
theorem right_bool2 (s : ByteArray) (w : World) (hs : (s.toList == []) = false) : Calls Tryz.prog 171 #[valV 1 0 s] w fun e w' => e = .returned (.bool false) ∧ Below w.heap.size w w' := by
  go_enter Tryz.func171, Tryz.ntmps171
  go_wp2_with fail
  go_region_with (first | (go_at_call 193; refine (bool_any _ _).mono ?_; rintro e w1 ⟨rfl, rfl⟩))
  all_goals go_wp2
  all_goals go_ret
  all_goals exact ⟨rfl, below_two _ _ _⟩
set_option maxHeartbeats 400000 in
theorem right_bool3 (s : ByteArray) (w : World) (hs : (s.toList == []) = false) : Calls Tryz.prog 171 #[valV 1 1 s] w fun e w' => e = .returned (.bool false) ∧ Below w.heap.size w w' := by
  go_enter Tryz.func171, Tryz.ntmps171
  go_wp2_with fail
  go_region_with (first | (go_at_call 193; refine (bool_any _ _).mono ?_; rintro e w1 ⟨rfl, rfl⟩))
  all_goals go_wp2
  all_goals go_ret
  all_goals exact ⟨rfl, below_two _ _ _⟩
set_option maxHeartbeats 400000 in
theorem right_bool4 (n : Int) (s : ByteArray) (w : World) (hn : (n == 0) = false) (h1 : (n == 1) = false) : Calls Tryz.prog 171 #[valV 1 n s] w fun e w' => e = .returned (.bool false) ∧ Below w.heap.size w w' := by
  go_enter Tryz.func171, Tryz.ntmps171
  go_wp2_with fail
  go_region_with (first | (go_at_call 193; refine (bool_any _ _).mono ?_; rintro e w1 ⟨rfl, rfl⟩))
  all_goals go_wp2
  all_goals go_ret
  all_goals exact ⟨rfl, below_two _ _ _⟩
set_option maxHeartbeats 400000 in
theorem right_int0 (n : Int) (w : World) : Calls Tryz.prog 171 #[valV 2 n ⟨#[]⟩] w fun e w' => e = .returned (.bool true) ∧ Below w.heap.size w w' := by
  go_enter Tryz.func171, Tryz.ntmps171
  go_wp2_with fail
  go_region_with (first | (go_at_call 194; refine (int_any _ _).mono ?_; rintro e w1 ⟨rfl, rfl⟩))
  all_goals go_wp2
  all_goals go_ret
  all_goals exact ⟨rfl, below_two _ _ _⟩
set_option maxHeartbeats 400000 in
theorem right_int1 (n : Int) (s : ByteArray) (w : World) (hs : (s.toList == []) = false) : Calls Tryz.prog 171 #[valV 2 n s] w fun e w' => e = .returned (.bool false) ∧ Below w.heap.size w w' := by
  go_enter Tryz.func171, Tryz.ntmps171
  go_wp2_with fail
  go_region_with (first | (go_at_call 194; refine (int_any _ _).mono ?_; rintro e w1 ⟨rfl, rfl⟩))
  all_goals go_wp2
  all_goals go_ret
  all_goals exact ⟨rfl, below_two _ _ _⟩
end Go.Proofs.YtkfpgkohkhhlhaaGreatDoor
namespace Go.Proofs.YtkfpgkohkhhlhaaGreatDoor
open Go

theorem held_up {P : Program} {md : Region.Mode} {ops : Array Oper} {Q : Exit → Act → World → Prop} {S S' : World → Prop} (h : ∀ w, S' w → S w) :
    ∀ (fuel : Nat) (listed : Array Bool) (a : Act) (w : World), wpAnyH P md ops Q S' fuel listed a w → wpAnyH P md ops Q S fuel listed a w
  | 0, _, _, _, k => k
  | fuel + 1, _, _, _, k => ⟨k.1, fun i hi => wpOp_mono (fun a' w' k' => ⟨h w' k'.1, held_up h fuel _ a' w' k'.2⟩) (k.2 i hi)⟩
end Go.Proofs.YtkfpgkohkhhlhaaGreatDoor
