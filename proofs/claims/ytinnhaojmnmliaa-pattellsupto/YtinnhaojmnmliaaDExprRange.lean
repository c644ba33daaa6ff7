/-
  A range over a function whose rounds are told by what they do to the world: the element that a round is handed may be known by the world in which it is handed. Of no function.
  Trees and what stays of memory: small facts that conditions and patterns share; of no function.
  Patterns (api.Pat) as trees: how many nodes, how deep, which are the same, with other names; plain facts, of no function.
  A law on regions that draw their order, of no program: behind an operation the condition that the region is held under may be made stricter.
-/
import Derived.Test.YtinnhaojmnmliaaRows
import Derived.RangeFuncNested
import Derived.RangeFuncBound
import Derived.RangeFuncCalls
import Derived.RangeFuncLeaves
import Derived.RangeFuncBox
import Derived.Shelf.Abstract
import Derived.Shelf.RegionOpen
import Derived.WalkKit
import Derived.OwnWalkIn
import Derived.TacticsInMore
import Derived.LoopNIn
import Derived.LoopIn
import Derived.Deep.RegionHeld3
namespace Go.Proofs.Ytinnhaojmnmliaa
open Go.RowKit

/-- The same cells; below B the same blocks. -/
structure Ag (B : Nat) (W A : World) : Prop where
  os : A.os = W.os
  tape : A.tape = W.tape
  output : A.output = W.output
  size : A.heap.size = W.heap.size
  low : ∀ k, k < B → A.heap[k]? = W.heap[k]?
  cells : ∀ (k : Nat) (o : Obj), o.isCells = true → (A.heap[k]? = some o ↔ W.heap[k]? = some o)
theorem Ag.refl (B : Nat) (W : World) : Ag B W W := ⟨rfl, rfl, rfl, rfl, fun _ _ => rfl, fun _ _ _ => Iff.rfl⟩
theorem Ag.symm {B : Nat} {W A : World} (h : Ag B W A) : Ag B A W := ⟨h.os.symm, h.tape.symm, h.output.symm, h.size.symm, fun k hk => (h.low k hk).symm, fun k o ho => (h.cells k o ho).symm⟩
theorem Ag.trans {B : Nat} {W A C : World} (h : Ag B W A) (g : Ag B A C) : Ag B W C :=
  ⟨g.os.trans h.os, g.tape.trans h.tape, g.output.trans h.output, g.size.trans h.size, fun k hk => (g.low k hk).trans (h.low k hk), fun k o ho => (g.cells k o ho).trans (h.cells k o ho)⟩
theorem Ag.putObj {B l : Nat} {W : World} {o o' : Obj} (hl : B ≤ l) (h : W.heap[l]? = some o) (ho : o.isCells = false) (ho' : o'.isCells = false) : Ag B W (W.putObj l o') := by
  have hlt : l < W.heap.size := (Array.getElem?_eq_some_iff.1 h).1
  refine ⟨rfl, rfl, rfl, World.putObj_size, fun k hk => World.putObj_heap_other (by omega), fun k q hq => ?_⟩
  by_cases e : k = l
  · subst e
    rw [World.putObj_heap_same hlt, h]
    constructor <;> (intro e; cases e)
    · rw [ho'] at hq; cases hq
    · rw [ho] at hq; cases hq
  · rw [World.putObj_heap_other e]
theorem Ag.cell_some {B : Nat} {W A : World} (h : Ag B W A) {p : Addr} {v : Value} (hc : W.cell? p = some v) : A.cell? p = some v := by
  obtain ⟨o, ho, hi⟩ := cells_of_cell hc
  rw [World.cell?_of_block (w := W) (w' := A) (((h.cells _ _ hi).2 ho).trans ho.symm)]
  exact hc
theorem Ag.cell {B : Nat} {W A : World} (h : Ag B W A) (p : Addr) : A.cell? p = W.cell? p :=
  Option.ext fun _ => ⟨h.symm.cell_some, h.cell_some⟩
theorem Ag.frozen {B : Nat} {W A : World} (h : Ag B W A) {p : Addr} {v : Value} (hc : W.cell? p = some v) : A.frozen? p = W.frozen? p := by
  obtain ⟨o, ho, hi⟩ := cells_of_cell hc
  exact World.frozen?_of_block (w := W) (w' := A) (((h.cells _ _ hi).2 ho).trans ho.symm)
theorem Ag.boxed {B : Nat} {W A : World} (h : Ag B W A) {b : Nat} {t : TypeId} {v : Value} (hb : Boxed W b t v) : Boxed A b t v := (h.cells _ _ rfl).2 hb
theorem Ag.below {B n : Nat} {W A V : World} (h : Ag B W A) (hn : n ≤ B) (hb : Below n V W) : Below n V A :=
  ⟨h.os.trans hb.os, h.tape.trans hb.tape, h.output.trans hb.output, by rw [h.size]; exact hb.size, fun k hk => (h.low k (by omega)).trans (hb.block k hk)⟩
theorem Ag.below_from {B n : Nat} {W A V : World} (h : Ag B W A) (hn : n ≤ B) (hb : Below n A V) : Below n W V :=
  ⟨hb.os.trans h.os, hb.tape.trans h.tape, hb.output.trans h.output, by rw [← h.size]; exact hb.size, fun k hk => (hb.block k hk).trans (h.low k (by omega))⟩

/-- How a round's body may be left. -/
def backPost {α : Type} (B : Nat) (Go : α → World → World → Prop) (Out : Code → α → World → World → Prop) (x : α) (W : World) : Exit → Act → World → Prop
  | .normal, _, W' => KeepsFrom B W W' ∧ Go x W W'
  | .ret, _, W' => KeepsFrom B W W' ∧ Out .ret x W W'
  | .exit id, _, W' => KeepsFrom B W W' ∧ Out (.exit id) x W W'
  | .goto t, _, W' => KeepsFrom B W W' ∧ Out (.goto t) x W W'
  | .panic _, _, _ => False
  | .outgrown, _, _ => False

/-- What is no cell and lies between stays. -/
def KeepsTo (B B' : Nat) (W W' : World) : Prop := ∀ (k : Nat) (o : Obj), B ≤ k → k < B' → W.heap[k]? = some o → o.isCells = false → W'.heap[k]? = some o
theorem KeepsTo.of {B B' : Nat} {W W' : World} (h : KeepsFrom B W W') : KeepsTo B B' W W' := fun k o h1 _ h3 h4 => h.same k o h1 h3 h4
theorem KeepsTo.of_below {B B' n : Nat} {W W' : World} (h : Below n W W') (hn : B' ≤ n) : KeepsTo B B' W W' := fun k _ _ h2 h3 _ => (h.block k (by omega)).trans h3
theorem KeepsTo.of_ag {B B' n : Nat} {W W' : World} (h : Ag n W W') (hn : B' ≤ n) : KeepsTo B B' W W' := fun k _ _ h2 h3 _ => (h.low k (by omega)).trans h3
theorem KeepsTo.trans {B B' : Nat} {A C D : World} (h : KeepsTo B B' A C) (g : KeepsTo B B' C D) : KeepsTo B B' A D := fun k o h1 h2 h3 h4 => g k o h1 h2 (h k o h1 h2 h3 h4) h4
theorem wpIn_rangeK {α : Type} {n : Nat} {P : Program} {g : Operand} {ps : Array Tmp} {assign body : Code} {Q : Exit → Act → World → Prop} {a : Act} {w : World}
    {gf : Nat} {lb : Array Value} (hg : a.eval g = .func (.func gf) #[] lb) (eg : ∀ args w, (callFunc gf args).run P w = .ok (.enter gf args) w)
    {encs : α → Array Value} (hps : ∀ x, (encs x).size = ps.size)
    (Pre : α → World → Prop) (Go : α → World → World → Prop) (Out : Code → α → World → World → Prop) (Fin : World → Prop) (Left : Code → World → Prop)
    (hPre : ∀ x W A, Ag w.heap.size W A → Pre x W → Pre x A)
    (hGo : ∀ x W A A' W', Ag w.heap.size W A → Ag w.heap.size A' W' → Go x A A' → Go x W W')
    (hOut : ∀ c x W A A' W', Ag w.heap.size W A → Ag w.heap.size A' W' → Out c x A A' → Out c x W W')
    (hFin : ∀ W A, Ag w.heap.size W A → Fin W → Fin A) (hLeft : ∀ c W A, Ag w.heap.size W A → Left c W → Left c A)
    (a₁ : α → Act)
    (hassign : ∀ (l : Nat) (x : α) (W : World) (K : Act → World → Prop), K (a₁ x) W →
      assign.wpIn (Fence.wide.inRound l) (n - 1 - 1) P (Exit.then K (fun _ _ _ => False)) { tmps := (ps.zip (encs x)).foldl (fun t (p, v) => t.setIfInBounds p v) a.tmps, defers := [] } W)
    (hbody : ∀ (l : Nat) (x : α) (W : World), Pre x W → w.heap.size + 2 ≤ W.heap.size → body.wpIn (Fence.wide.inRound l) (n - 1 - 1) P (backPost w.heap.size Go Out x W) (a₁ x) W)
    (hseq : ∀ (l : Nat) (Rec : World → Prop) (RecX : Code → World → Prop) (W1 : World), Below w.heap.size w W1 → W1.heap.size = w.heap.size + 2 → Rec W1 →
      (∀ W W', KeepsTo w.heap.size (w.heap.size + 2) W W' → Rec W → Rec W') → (∀ c W W', KeepsTo w.heap.size (w.heap.size + 2) W W' → RecX c W → RecX c W') →
      (∀ (m : Nat) (x : α) (W : World), Pre x W → Rec W → YieldAt Fence.wide m P l (encs x) W fun e W' => (e = .returned (.bool true) ∧ Go x W W' ∧ Rec W' ∧ KeepsFrom w.heap.size W W') ∨ (e = .returned (.bool false) ∧ ∃ c, Out c x W W' ∧ RecX c W' ∧ KeepsFrom (w.heap.size + 2) W W')) →
      CallsIn Fence.wide (n - 1) P gf (#[.func (.yield l) #[] #[]] ++ lb) W1 fun e W' => (∃ v, e = .returned v) ∧ ((Fin W' ∧ Rec W') ∨ ∃ c, Left c W' ∧ RecX c W'))
    (hdone : ∀ (D : Nat) (W : World), w.heap.size ≤ D → Fin W → W.heap[D]? = some (.deferred (some [])) → Q .normal { a with defers := { target := .collected D, args := #[] } :: a.defers } W)
    (hstop : ∀ (D : Nat) (c : Code) (W : World), w.heap.size ≤ D → Left c W → W.heap[D]? = some (.deferred (some [])) → c.wpIn Fence.wide n P Q { a with defers := { target := .collected D, args := #[] } :: a.defers } W) :
    (Code.rangeFunc g ps assign body).wpIn Fence.wide n P Q a w := by
  refine wpIn_rangeFunc fun fn hfn => ?_
  obtain ⟨rec, hrec⟩ : ∃ rec : LoopState → Option Code → Loop, rec = fun st pe => { state := st, pending := pe, fn, tmps := a.tmps, params := ps, assign, body, defers := w.heap.size } := ⟨_, rfl⟩
  obtain ⟨W1, hW1⟩ : ∃ W1, (w.alloc (.deferred (some []))).alloc (.loop (rec .ready none)) = W1 := ⟨_, rfl⟩
  have hL1 : W1.heap[w.heap.size + 1]? = some (.loop (rec .ready none)) := by
    rw [← hW1]; have := World.alloc_heap_new (w.alloc (.deferred (some []))) (.loop (rec .ready none)); rwa [World.size_alloc] at this
  have hK1 : W1.heap[w.heap.size]? = some (.deferred (some [])) := by
    rw [← hW1]; exact (Below.heap_alloc _ _ _ (by simp)).trans (World.alloc_heap_new w _)
  have hb1 : Below w.heap.size w W1 := by
    rw [← hW1]; exact ((Below.refl _ w).alloc (Nat.le_refl _) _).alloc (by simp) _
  have hs1 : W1.heap.size = w.heap.size + 2 := by rw [← hW1]; simp
  refine ⟨w.heap.size + 1, [{ target := .collected w.heap.size, args := #[] }], W1, { target := .fn (.func gf) lb, args := #[.func (.yield (w.heap.size + 1)) #[] #[]] }, W1, gf,
    #[.func (.yield (w.heap.size + 1)) #[] #[]] ++ lb, W1, ?_, ?_, ?_, ?_, (fun h => (by cases h)), ?_⟩
  · rw [← hW1, hrec]; exact run_enterLoop_outer _ _ _ _ _
  · simp only [resolve, hg]
    simp [go_sem]
  · intro f' _; trivial
  · simp [invoke, go_sem, eg]
  · refine (hseq (w.heap.size + 1) (fun W => W.heap[w.heap.size + 1]? = some (.loop (rec .ready none)) ∧ W.heap[w.heap.size]? = some (.deferred (some [])))
      (fun c W => W.heap[w.heap.size + 1]? = some (.loop (rec .done (some c))) ∧ W.heap[w.heap.size]? = some (.deferred (some []))) W1 hb1 hs1 ⟨hL1, hK1⟩
      (fun W W' hk h => ⟨hk _ _ (by omega) (by omega) h.1 rfl, hk _ _ (Nat.le_refl _) (by omega) h.2 rfl⟩) (fun c W W' hk h => ⟨hk _ _ (by omega) (by omega) h.1 rfl, hk _ _ (Nat.le_refl _) (by omega) h.2 rfl⟩) ?_).mono ?_
    · rintro m x W hp ⟨hl, hd⟩
      have hlt : w.heap.size + 1 < W.heap.size := (Array.getElem?_eq_some_iff.1 hl).1
      have hy := run_yield (P := P) (args := encs x) hl (by rw [hrec]; exact hps x)
      rw [hrec] at hy
      refine ⟨fn, _, assign, body, hy, ⟨hfn, fun c cs _ => (roundIn_of_wpIn (n := n - 1 - 1) hfn (hassign _ x W _ ?_)).2 c cs (fun d h => by cases h)⟩⟩
      clear hy
      refine ⟨_, run_beginRound hl (by rw [hrec]), ?_⟩
      obtain ⟨A, hA⟩ : ∃ A, W.putObj (w.heap.size + 1) (.loop { rec .ready none with state := .busy }) = A := ⟨_, rfl⟩
      have hl2 : A.heap[w.heap.size + 1]? = some (.loop { rec .ready none with state := .busy }) := by rw [← hA]; exact World.putObj_heap_same hlt
      have hd2 : A.heap[w.heap.size]? = some (.deferred (some [])) := by rw [← hA]; exact (World.putObj_heap_other (by omega)).trans hd
      have hag : Ag w.heap.size W A := by rw [← hA]; exact Ag.putObj (by omega) hl rfl rfl
      have hsz : A.heap.size = W.heap.size := hag.size
      have hsame : ∀ k, k ≠ w.heap.size + 1 → A.heap[k]? = W.heap[k]? := fun k hk => by rw [← hA]; exact World.putObj_heap_other hk
      rw [hA]
      refine wpIn_mono (hbody _ x A (hPre x W A hag hp) (by omega)) ?_
      have fin : ∀ (jump : Option Code) (W3 : World), KeepsFrom w.heap.size A W3 → ∃ W4, (Instr.endRound (w.heap.size + 1) jump).run P W3 = .ok (.bool jump.isNone) W4 ∧ Ag w.heap.size W3 W4 ∧
          W4.heap[w.heap.size + 1]? = some (.loop (rec (if jump.isNone then .ready else .done) jump)) ∧ W4.heap[w.heap.size]? = some (.deferred (some [])) ∧ (∀ k, k ≠ w.heap.size + 1 → W4.heap[k]? = W3.heap[k]?) := fun jump W3 hk3 => by
        have hl3 := hk3.same _ _ (by omega) hl2 rfl
        have := run_endRound (P := P) jump hl3
        refine ⟨_, this, Ag.putObj (by omega) hl3 rfl rfl, ?_, (World.putObj_heap_other (by omega)).trans (hk3.same _ _ (Nat.le_refl _) hd2 rfl), fun k hk => World.putObj_heap_other hk⟩
        rw [World.putObj_heap_same (Array.getElem?_eq_some_iff.1 hl3).1, hrec]
      have keep : ∀ W4 W3, KeepsFrom w.heap.size A W3 → Ag w.heap.size W3 W4 → (∀ k, k ≠ w.heap.size + 1 → W4.heap[k]? = W3.heap[k]?) → KeepsFrom (w.heap.size + 2) W W4 := fun W4 W3 hk3 hag4 hs4 =>
        ⟨by rw [hag4.size, ← hsz]; exact hk3.size, fun k o hk ho hc => by rw [hs4 k (by omega)]; exact hk3.same k o (by omega) ((hsame k (by omega)).trans ho) hc⟩
      rintro e a3 W3 hp3
      cases e with
      | normal =>
        obtain ⟨hk3, hg3⟩ := hp3
        obtain ⟨W4, hr, hag4, hl4, hd4, hs4⟩ := fin none W3 hk3
        refine ⟨_, _, hr, .inl ⟨rfl, hGo x W A W3 W4 hag hag4 hg3, ⟨hl4, hd4⟩, ?_, fun k o hk ho hc => ?_⟩⟩
        · rw [hag4.size, ← hsz]; exact hk3.size
        · by_cases e : k = w.heap.size + 1
          · subst e
            rw [hl] at ho
            cases ho
            exact hl4
          · rw [hs4 k e]
            exact hk3.same k o hk ((hsame k e).trans ho) hc
      | ret =>
        obtain ⟨hk3, hg3⟩ := hp3
        obtain ⟨W4, hr, hag4, hl4, hd4, hs4⟩ := fin (some .ret) W3 hk3
        exact ⟨_, _, hr, .inr ⟨rfl, .ret, hOut _ x W A W3 W4 hag hag4 hg3, ⟨hl4, hd4⟩, keep W4 W3 hk3 hag4 hs4⟩⟩
      | exit id =>
        obtain ⟨hk3, hg3⟩ := hp3
        obtain ⟨W4, hr, hag4, hl4, hd4, hs4⟩ := fin (some (.exit id)) W3 hk3
        exact ⟨_, _, hr, .inr ⟨rfl, .exit id, hOut _ x W A W3 W4 hag hag4 hg3, ⟨hl4, hd4⟩, keep W4 W3 hk3 hag4 hs4⟩⟩
      | goto t =>
        obtain ⟨hk3, hg3⟩ := hp3
        obtain ⟨W4, hr, hag4, hl4, hd4, hs4⟩ := fin (some (.goto t)) W3 hk3
        exact ⟨_, _, hr, .inr ⟨rfl, .goto t, hOut _ x W A W3 W4 hag hag4 hg3, ⟨hl4, hd4⟩, keep W4 W3 hk3 hag4 hs4⟩⟩
      | panic ch => exact hp3.elim
      | outgrown => exact hp3.elim
    · rintro e W2 ⟨⟨v, rfl⟩, (⟨hf, hl, hd⟩ | ⟨c, hf, hl, hd⟩)⟩
      · have := run_endLoop (P := P) hl (by rw [hrec]; simp)
        exact ⟨none, _, by rw [this, hrec], hdone _ _ (Nat.le_refl _) (hFin _ _ (Ag.putObj (by omega) hl rfl rfl) hf) ((World.putObj_heap_other (by omega)).trans hd)⟩
      · have := run_endLoop (P := P) hl (by rw [hrec]; simp)
        exact ⟨some c, _, by rw [this, hrec], hstop _ c _ (Nat.le_refl _) (hLeft c _ _ (Ag.putObj (by omega) hl rfl rfl) hf) ((World.putObj_heap_other (by omega)).trans hd)⟩
theorem wpIn_range {α : Type} {n : Nat} {P : Program} {g : Operand} {ps : Array Tmp} {assign body : Code} {Q : Exit → Act → World → Prop} {a : Act} {w : World}
    {gf : Nat} {lb : Array Value} (hg : a.eval g = .func (.func gf) #[] lb) (eg : ∀ args w, (callFunc gf args).run P w = .ok (.enter gf args) w)
    {encs : α → Array Value} (hps : ∀ x, (encs x).size = ps.size)
    (Pre : α → World → Prop) (Go : α → World → World → Prop) (Out : Code → α → World → World → Prop) (Fin : World → Prop) (Left : Code → World → Prop)
    (hPre : ∀ x W A, Ag w.heap.size W A → Pre x W → Pre x A)
    (hGo : ∀ x W A A' W', Ag w.heap.size W A → Ag w.heap.size A' W' → Go x A A' → Go x W W')
    (hOut : ∀ c x W A A' W', Ag w.heap.size W A → Ag w.heap.size A' W' → Out c x A A' → Out c x W W')
    (hFin : ∀ W A, Ag w.heap.size W A → Fin W → Fin A) (hLeft : ∀ c W A, Ag w.heap.size W A → Left c W → Left c A)
    (a₁ : α → Act)
    (hassign : ∀ (l : Nat) (x : α) (W : World) (K : Act → World → Prop), K (a₁ x) W →
      assign.wpIn (Fence.wide.inRound l) (n - 1 - 1) P (Exit.then K (fun _ _ _ => False)) { tmps := (ps.zip (encs x)).foldl (fun t (p, v) => t.setIfInBounds p v) a.tmps, defers := [] } W)
    (hbody : ∀ (l : Nat) (x : α) (W : World), Pre x W → w.heap.size + 2 ≤ W.heap.size → body.wpIn (Fence.wide.inRound l) (n - 1 - 1) P (backPost w.heap.size Go Out x W) (a₁ x) W)
    (hseq : ∀ (l : Nat) (Rec : World → Prop) (RecX : Code → World → Prop) (W1 : World), Below w.heap.size w W1 → W1.heap.size = w.heap.size + 2 → Rec W1 →
      (∀ W W', KeepsFrom w.heap.size W W' → Rec W → Rec W') → (∀ c W W', KeepsFrom w.heap.size W W' → RecX c W → RecX c W') →
      (∀ (m : Nat) (x : α) (W : World), Pre x W → Rec W → YieldAt Fence.wide m P l (encs x) W fun e W' => (e = .returned (.bool true) ∧ Go x W W' ∧ Rec W' ∧ KeepsFrom w.heap.size W W') ∨ (e = .returned (.bool false) ∧ ∃ c, Out c x W W' ∧ RecX c W')) →
      CallsIn Fence.wide (n - 1) P gf (#[.func (.yield l) #[] #[]] ++ lb) W1 fun e W' => (∃ v, e = .returned v) ∧ ((Fin W' ∧ Rec W') ∨ ∃ c, Left c W' ∧ RecX c W'))
    (hdone : ∀ (D : Nat) (W : World), w.heap.size ≤ D → Fin W → W.heap[D]? = some (.deferred (some [])) → Q .normal { a with defers := { target := .collected D, args := #[] } :: a.defers } W)
    (hstop : ∀ (D : Nat) (c : Code) (W : World), w.heap.size ≤ D → Left c W → W.heap[D]? = some (.deferred (some [])) → c.wpIn Fence.wide n P Q { a with defers := { target := .collected D, args := #[] } :: a.defers } W) :
    (Code.rangeFunc g ps assign body).wpIn Fence.wide n P Q a w :=
  wpIn_rangeK hg eg hps Pre Go Out Fin Left hPre hGo hOut hFin hLeft a₁ hassign hbody (fun l Rec RecX W1 h1 h2 h3 h4 h5 h6 => hseq l Rec RecX W1 h1 h2 h3 (fun W W' hk => h4 W W' (.of hk)) (fun c W W' hk => h5 c W W' (.of hk)) (fun m x W hp hr => YieldAt.mono (h6 m x W hp hr) (fun _ _ h => h.imp (fun q => q) (fun ⟨h1, c, h2, h3, _⟩ => ⟨h1, c, h2, h3⟩)))) hdone hstop
end Go.Proofs.Ytinnhaojmnmliaa
namespace Go.Proofs.Ytinnhaojmnmliaa
open Go.RowKit Go.Shelf

theorem alloc_old {w : World} {o : Obj} {r : Nat} (h : r < w.heap.size) : (w.alloc o).heap[r]? = w.heap[r]? := Below.heap_alloc w o r h
theorem alloc_new (w : World) (o : Obj) : (w.alloc o).heap[w.heap.size]? = some o := World.alloc_heap_new w o
theorem alloc2_new (w : World) (A B : Obj) : ((w.alloc A).alloc B).heap[w.heap.size + 1]? = some B := by
  have h := World.alloc_heap_new (w.alloc A) B
  rwa [World.size_alloc] at h
/-- The sum of the first. -/
def sumN (f : Nat → Nat) : Nat → Nat
  | 0 => 0
  | n + 1 => sumN f n + f n
/-- The greatest of the first. -/
def maxN (f : Nat → Nat) : Nat → Nat
  | 0 => 0
  | n + 1 => max (maxN f n) (f n)
theorem sumN_le {f : Nat → Nat} : ∀ {n i : Nat}, i < n → f i ≤ sumN f n
  | 0, _, h => by omega
  | n + 1, i, h => by
    simp only [sumN]
    by_cases e : i = n
    · subst e; omega
    · have := sumN_le (f := f) (show i < n by omega); omega
theorem round_wide {m m' : Nat} {P : Program} {l : Nat} {f : FuncId} {tmps : Array Value} {assign body : Code} {w : World} {R : Ending → World → Prop}
    (h : RoundIn Fence.wide m P l f tmps assign body w R) : RoundIn Fence.wide m' P l f tmps assign body w R := ⟨h.1, fun c cs _ => h.2 c cs (fun d h => by cases h)⟩
theorem yield_wide {m : Nat} (m' : Nat) {P : Program} {l : Nat} {args : Array Value} {W : World} {R : Ending → World → Prop} (h : YieldAt Fence.wide m P l args W R) : YieldAt Fence.wide m' P l args W R := by
  obtain ⟨fn, tmps, assign, body, hy, hR⟩ := h
  exact ⟨fn, tmps, assign, body, hy, round_wide hR⟩

/-- The first of some lists, one behind the other. -/
def catN {α : Type} (f : Nat → List α) : Nat → List α
  | 0 => []
  | n + 1 => catN f n ++ f n
theorem catN_len {α : Type} (f : Nat → List α) : ∀ {n i : Nat}, i < n → (catN f i).length + (f i).length ≤ (catN f n).length
  | 0, _, h => by omega
  | n + 1, i, h => by
    simp only [catN, List.length_append]
    by_cases e : i = n
    · subst e; omega
    · have := catN_len f (show i < n by omega); omega
theorem mem_catN {α : Type} {f : Nat → List α} {y : α} : ∀ {n : Nat}, y ∈ catN f n ↔ ∃ i, i < n ∧ y ∈ f i
  | 0 => by simp [catN]
  | n + 1 => by
    rw [catN, List.mem_append, mem_catN]
    constructor
    · rintro (⟨i, hi, h⟩ | h)
      · exact ⟨i, by omega, h⟩
      · exact ⟨n, by omega, h⟩
    · rintro ⟨i, hi, h⟩
      by_cases e : i = n
      · exact .inr (e ▸ h)
      · exact .inl ⟨i, by omega, h⟩
/-- Blocks of cells that stay as they are. -/
def Kp (T : Nat → Prop) (W W' : World) : Prop := ∀ (k : Nat) (o : Obj), T k → o.isCells = true → W.heap[k]? = some o → W'.heap[k]? = some o
theorem Kp.refl (T : Nat → Prop) (W : World) : Kp T W W := fun _ _ _ _ h => h
theorem Kp.trans {T : Nat → Prop} {A B C : World} (h : Kp T A B) (g : Kp T B C) : Kp T A C := fun k o hk ho e => g k o hk ho (h k o hk ho e)
theorem Kp.cell {T : Nat → Prop} {W W' : World} (h : Kp T W W') {p : Addr} {v : Value} (hp : T p.block) (hc : W.cell? p = some v) : W'.cell? p = some v := by
  obtain ⟨o, ho, hi⟩ := cells_of_cell hc
  rw [World.cell?_of_block (w := W) (w' := W') ((h _ _ hp hi ho).trans ho.symm)]
  exact hc
theorem Kp.ag {B : Nat} {T : Nat → Prop} {W A A' W' : World} (h : Ag B W A) (h' : Ag B A' W') (g : Kp T A A') : Kp T W W' := fun k o hk ho e => (h'.cells k o ho).2 (g k o hk ho ((h.cells k o ho).2 e))
theorem Kp.mono {T T' : Nat → Prop} {W W' : World} (h : Kp T W W') (hT : ∀ k, T' k → T k) : Kp T' W W' := fun k o hk => h k o (hT k hk)
theorem Kp.of_below {n : Nat} {T : Nat → Prop} {W W' : World} (h : Below n W W') (hT : ∀ k, T k → k < n) : Kp T W W' := fun k _ hk _ e => (h.block k (hT k hk)).trans e
theorem Kp.boxed {T : Nat → Prop} {W W' : World} (h : Kp T W W') {b : Nat} {t : TypeId} {v : Value} (hp : T b) (hb : Boxed W b t v) : Boxed W' b t v := h b _ hp rfl hb
theorem Boxed.kept_of {W W' : World} {n B : Nat} {t : TypeId} {v : Value} (h : Boxed W B t v) (hB : Below n W W') (hn : B < n) : Boxed W' B t v := (hB.block B hn).trans h
theorem Kp.set {T : Nat → Prop} {W : World} {b o : Nat} (v : Value) (h : ¬ T b) : Kp T W (W.setCell ⟨b, o, none⟩ v) := fun k _ hk _ e => (Below.heap_setCell W ⟨b, o, none⟩ v k (fun he => h (by have he' : k = b := he; rw [← he']; exact hk))).trans e
/-- One more, as the machine counts. -/
def cnt : Nat → Int
  | 0 => 0
  | n + 1 => wrap64 (cnt n + 1)

/-- The document's Size, as the machine counts. -/
def accZ (f : Nat → Int) : Nat → Int
  | 0 => 1
  | n + 1 => wrap64 (accZ f n + f n)
theorem heap_set {W : World} {b o : Nat} {v : Value} {c : Array Value} {t : TypeId} (h : W.heap[b]? = some (.cells c t (0, 0))) : (W.setCell ⟨b, o, none⟩ v).heap[b]? = some (.cells (c.setIfInBounds o v) t (0, 0)) := by
  simp only [World.setCell, Array.getElem?_modify, if_pos, h]
  rfl
theorem maxN_le {f : Nat → Nat} : ∀ {n i : Nat}, i < n → f i ≤ maxN f n
  | 0, _, h => by omega
  | n + 1, i, h => by
    simp only [maxN]
    by_cases e : i = n
    · subst e; omega
    · have := maxN_le (f := f) (show i < n by omega); omega
theorem own_laterS {w w' : World} {B e size n : Nat} {v : Value} {xs : List Value} (h : w.ownsRow B e size v n xs) (hb : Below w.heap.size w w') : w'.ownsRow B e size v n xs :=
  h.kept (row := none) ⟨hb.os, hb.tape, hb.output, hb.size, fun k hk _ => hb.block k hk⟩ (Classical.em _)
/-- How a body that changes no node may be left. -/
def foldPost (B : Nat) (T : Nat → Prop) (J : World → Prop) (Jx : Code → World → Prop) (W : World) : Exit → Act → World → Prop
  | .normal, _, W' => KeepsFrom B W W' ∧ Kp T W W' ∧ J W'
  | .ret, _, W' => KeepsFrom B W W' ∧ Jx .ret W'
  | .exit id, _, W' => KeepsFrom B W W' ∧ Jx (.exit id) W'
  | .goto t, _, W' => KeepsFrom B W W' ∧ Jx (.goto t) W'
  | .panic _, _, _ => False
  | .outgrown, _, _ => False
/-- How a body that does what it does to a node may be left. -/
def walkPost (B : Nat) (G : World → Prop) (W : World) : Exit → Act → World → Prop
  | .normal, _, W' => KeepsFrom B W W' ∧ Kp (fun k => k = B + 2 ∨ k = B + 3) W W' ∧ G W'
  | _, _, _ => False
/-- What a round is handed. -/
structure Got (ι : Type) where
  d : Int
  b : Nat
  o : Nat
  v : ι

theorem sumN_part {f : Nat → Nat} : ∀ {n i : Nat}, i < n → sumN f i + f i ≤ sumN f n
  | 0, _, h => by omega
  | n + 1, i, h => by
    simp only [sumN]
    by_cases e : i = n
    · subst e; omega
    · have := sumN_part (f := f) (show i < n by omega); omega
theorem wpOp_append_at {P : Program} {w w' : World} {o : Oper} {a : Act} {K : Act → World → Prop} {Q : Exit → Act → World → Prop} (s x : Operand) (t : TypeId)
    (hop : o.op = Op.call { callee := Callee.builtin Builtin.append, args := #[s, x], argTypes := #[t, t] }) (v y v' : Value) (hs : a.eval s = v) (hx : a.eval x = y)
    (hrun : (Builtin.append_ #[t, t] o.type #[v, y]).run P w = .ok v' w') (hK : K (a.put o.dst v') w') : Oper.wp P o a w K Q := by
  unfold Oper.wp
  simp [execOp, hop, resolve, invoke, builtin, hs, hx, hrun, Result.andThen]
  exact hK
end Go.Proofs.Ytinnhaojmnmliaa
namespace Go.Proofs.Ytinnhaojmnmliaa
open Go.RowKit

/-- A pattern: its kind, Var and Type, Lo and Hi; its parts' slice (where it lies, how many, how much room) and the parts. -/
inductive Pt where
  | nil : Pt
  | mk (k : Int) (s t : ByteArray) (lo hi : Int) (a : Option Addr) (n cap : Nat) (c : Nat → Pt) : Pt
def Pt.k : Pt → Int | .nil => 0 | .mk k .. => k
def Pt.s : Pt → ByteArray | .nil => ⟨#[]⟩ | .mk _ s .. => s
def Pt.t : Pt → ByteArray | .nil => ⟨#[]⟩ | .mk _ _ t .. => t
def Pt.lo : Pt → Int | .nil => 0 | .mk _ _ _ lo .. => lo
def Pt.hi : Pt → Int | .nil => 0 | .mk _ _ _ _ hi .. => hi
def Pt.a : Pt → Option Addr | .nil => none | .mk _ _ _ _ _ a .. => a
def Pt.n : Pt → Nat | .nil => 0 | .mk _ _ _ _ _ _ n .. => n
def Pt.cap : Pt → Nat | .nil => 0 | .mk _ _ _ _ _ _ _ cap _ => cap
def Pt.c : Pt → Nat → Pt | .nil => fun _ => .nil | .mk _ _ _ _ _ _ _ _ c => c
theorem Pt.ind {P : Pt → Prop} (h : ∀ x, (∀ i, i < x.n → P (x.c i)) → P x) : ∀ x, P x
  | .nil => h .nil fun _ hi => absurd hi (Nat.not_lt_zero _)
  | .mk k s t lo hi a n cap c => h (.mk k s t lo hi a n cap c) fun i _ => Pt.ind h (c i)
def Pt.size : Pt → Nat
  | .nil => 1
  | .mk _ _ _ _ _ _ n _ c => 1 + sumN (fun i => (c i).size) n
def Pt.deep : Pt → Nat
  | .nil => 1
  | .mk _ _ _ _ _ _ n _ c => maxN (fun i => (c i).deep) n + 1
theorem Pt.size_eq (x : Pt) : x.size = 1 + sumN (fun i => (x.c i).size) x.n := by cases x <;> rfl
theorem Pt.deep_eq (x : Pt) : x.deep = maxN (fun i => (x.c i).deep) x.n + 1 := by cases x <;> rfl
theorem Pt.size_part (x : Pt) (i : Nat) (h : i < x.n) : (x.c i).size < x.size := by
  have := sumN_le (f := fun i => (x.c i).size) h
  rw [x.size_eq]
  omega
theorem Pt.size_pos (x : Pt) : 1 ≤ x.size := by rw [x.size_eq]; omega
theorem sumN_congr {f g : Nat → Nat} : ∀ {n : Nat}, (∀ i, i < n → f i = g i) → sumN f n = sumN g n
  | 0, _ => rfl
  | n + 1, h => by simp only [sumN]; rw [sumN_congr fun i hi => h i (by omega), h n (by omega)]
theorem maxN_congr {f g : Nat → Nat} : ∀ {n : Nat}, (∀ i, i < n → f i = g i) → maxN f n = maxN g n
  | 0, _ => rfl
  | n + 1, h => by simp only [maxN]; rw [maxN_congr fun i hi => h i (by omega), h n (by omega)]
theorem maxN_lt {f : Nat → Nat} {m : Nat} (hm : 0 < m) : ∀ {n : Nat}, (∀ i, i < n → f i < m) → maxN f n < m
  | 0, _ => hm
  | n + 1, h => by
    have h1 := maxN_lt hm (n := n) fun i hi => h i (by omega)
    have h2 := h n (by omega)
    simp only [maxN]
    omega
theorem Pt.deep_part (x : Pt) (i : Nat) (h : i < x.n) : (x.c i).deep < x.deep := by
  have := maxN_le (f := fun i => (x.c i).deep) h
  rw [x.deep_eq]
  omega
theorem Pt.deep_size : ∀ x : Pt, x.deep ≤ x.size := by
  refine Pt.ind fun x ih => ?_
  rw [x.deep_eq]
  have := maxN_lt (f := fun i => (x.c i).deep) (n := x.n) x.size_pos fun i hi => by have := ih i hi; have := x.size_part i hi; show (x.c i).deep < x.size; omega
  omega
/-- Are all of the first so? -/
def allN (f : Nat → Bool) : Nat → Bool
  | 0 => true
  | n + 1 => allN f n && f n
theorem allN_true {f : Nat → Bool} : ∀ {n : Nat}, allN f n = true ↔ ∀ i, i < n → f i = true
  | 0 => by simp [allN]
  | n + 1 => by
    simp only [allN, Bool.and_eq_true, allN_true]
    constructor
    · rintro ⟨h1, h2⟩ i hi
      by_cases e : i = n
      · exact e ▸ h2
      · exact h1 i (by omega)
    · exact fun h => ⟨fun i hi => h i (by omega), h n (by omega)⟩
theorem allN_false {f : Nat → Bool} {n i : Nat} (hi : i < n) (h : f i = false) : allN f n = false := by
  rw [Bool.eq_false_iff]
  intro e
  rw [allN_true.1 e i hi] at h
  cases h
/-- Same's answer. -/
def sameP : Pt → Pt → Bool
  | .nil, y => decide (0 = y.k) && (decide ((⟨#[]⟩ : ByteArray) = y.s) && (decide ((⟨#[]⟩ : ByteArray) = y.t) && (decide (0 = y.lo) && (decide (0 = y.hi) && (decide (0 = y.n) && true)))))
  | .mk k s t lo hi _ n _ c, y => decide (k = y.k) && (decide (s = y.s) && (decide (t = y.t) && (decide (lo = y.lo) && (decide (hi = y.hi) && (decide (n = y.n) && allN (fun i => sameP (c i) (y.c i)) n)))))
theorem sameP_eq (x y : Pt) : sameP x y = (decide (x.k = y.k) && (decide (x.s = y.s) && (decide (x.t = y.t) && (decide (x.lo = y.lo) && (decide (x.hi = y.hi) && (decide (x.n = y.n) && allN (fun i => sameP (x.c i) (y.c i)) x.n)))))) := by
  cases x <;> rfl
/-- They are the same. -/
def Sm (x y : Pt) : Prop := sameP x y = true
theorem sm_iff (x y : Pt) : Sm x y ↔ x.k = y.k ∧ x.s = y.s ∧ x.t = y.t ∧ x.lo = y.lo ∧ x.hi = y.hi ∧ x.n = y.n ∧ ∀ i, i < x.n → Sm (x.c i) (y.c i) := by
  unfold Sm
  rw [sameP_eq]
  simp only [Bool.and_eq_true, decide_eq_true_eq, allN_true]
theorem Sm.refl : ∀ x : Pt, Sm x x := by
  refine Pt.ind fun x ih => ?_
  exact (sm_iff _ _).2 ⟨rfl, rfl, rfl, rfl, rfl, rfl, ih⟩
theorem Sm.symm : ∀ {x y : Pt}, Sm x y → Sm y x := by
  refine @(Pt.ind fun x ih y h => ?_)
  obtain ⟨h1, h2, h3, h4, h5, h6, h7⟩ := (sm_iff _ _).1 h
  exact (sm_iff _ _).2 ⟨h1.symm, h2.symm, h3.symm, h4.symm, h5.symm, h6.symm, fun i hi => ih i (by omega) (h7 i (by omega))⟩
theorem Sm.trans : ∀ {x y z : Pt}, Sm x y → Sm y z → Sm x z := by
  refine @(Pt.ind fun x ih y z h g => ?_)
  obtain ⟨h1, h2, h3, h4, h5, h6, h7⟩ := (sm_iff _ _).1 h
  obtain ⟨g1, g2, g3, g4, g5, g6, g7⟩ := (sm_iff _ _).1 g
  exact (sm_iff _ _).2 ⟨h1.trans g1, h2.trans g2, h3.trans g3, h4.trans g4, h5.trans g5, h6.trans g6, fun i hi => ih i hi (h7 i hi) (g7 i (by omega))⟩
/-- What is the same for the same is told alike. -/
theorem sameP_congr {x x' y y' : Pt} (h : Sm x x') (g : Sm y y') : sameP x y = sameP x' y' := by
  rw [Bool.eq_iff_iff]
  exact ⟨fun e => h.symm.trans (Sm.trans e g), fun e => h.trans (Sm.trans e g.symm)⟩
theorem size_sm : ∀ {x y : Pt}, Sm x y → x.size = y.size := by
  refine @(Pt.ind fun x ih y h => ?_)
  obtain ⟨h1, h2, h3, h4, h5, h6, h7⟩ := (sm_iff _ _).1 h
  rw [x.size_eq, y.size_eq, ← h6, sumN_congr fun i hi => ih i hi (h7 i hi)]
theorem deep_sm : ∀ {x y : Pt}, Sm x y → x.deep = y.deep := by
  refine @(Pt.ind fun x ih y h => ?_)
  obtain ⟨h1, h2, h3, h4, h5, h6, h7⟩ := (sm_iff _ _).1 h
  rw [x.deep_eq, y.deep_eq, ← h6, maxN_congr fun i hi => ih i hi (h7 i hi)]
/-- Has its kind a Var? -/
def nmd (k : Int) : Bool := k == 1 || k == 5 || k == 6
/-- With other names. -/
def renP (g : ByteArray → ByteArray) : Pt → Pt
  | .nil => .nil
  | .mk k s t lo hi a n cap c => .mk k (if nmd k = true then g s else s) t lo hi a n cap (fun i => renP g (c i))
theorem renP_parts (g : ByteArray → ByteArray) (x : Pt) : (renP g x).k = x.k ∧ (renP g x).s = (if nmd x.k = true then g x.s else x.s) ∧ (renP g x).t = x.t ∧ (renP g x).lo = x.lo ∧ (renP g x).hi = x.hi ∧ (renP g x).n = x.n ∧ ∀ i, (renP g x).c i = renP g (x.c i) := by
  cases x with
  | nil => exact ⟨rfl, rfl, rfl, rfl, rfl, rfl, fun _ => rfl⟩
  | mk => exact ⟨rfl, rfl, rfl, rfl, rfl, rfl, fun _ => rfl⟩
theorem renP_slice (g : ByteArray → ByteArray) (x : Pt) : (renP g x).a = x.a ∧ (renP g x).cap = x.cap := by
  cases x with
  | nil => exact ⟨rfl, rfl⟩
  | mk => exact ⟨rfl, rfl⟩
theorem renP_sm (g : ByteArray → ByteArray) : ∀ {x y : Pt}, Sm x y → Sm (renP g x) (renP g y) := by
  refine @(Pt.ind fun x ih y h => ?_)
  obtain ⟨h1, h2, h3, h4, h5, h6, h7⟩ := (sm_iff _ _).1 h
  obtain ⟨a1, a2, a3, a4, a5, a6, a7⟩ := renP_parts g x
  obtain ⟨b1, b2, b3, b4, b5, b6, b7⟩ := renP_parts g y
  rw [sm_iff, a1, a2, a3, a4, a5, a6, b1, b2, b3, b4, b5, b6, h1, h2]
  exact ⟨rfl, rfl, h3, h4, h5, h6, fun i hi => by rw [a7, b7]; exact ih i hi (h7 i hi)⟩
/-- The nodes that have a Var, in the order in which they stand. -/
def usesP : Pt → List Pt
  | .nil => []
  | .mk k s t lo hi a n cap c => (if nmd k = true then [.mk k s t lo hi a n cap c] else []) ++ catN (fun i => usesP (c i)) n
theorem usesP_eq (x : Pt) : usesP x = (if nmd x.k = true then [x] else []) ++ catN (fun i => usesP (x.c i)) x.n := by cases x <;> rfl
/-- All nodes in their order, each with how many lie on the way down to it. -/
def visP (d : Nat) : Pt → List (Nat × Pt)
  | .nil => [(d, .nil)]
  | .mk k s t lo hi a n cap c => (d, .mk k s t lo hi a n cap c) :: catN (fun i => visP (d + 1) (c i)) n
theorem visP_eq (d : Nat) (x : Pt) : visP d x = (d, x) :: catN (fun i => visP (d + 1) (x.c i)) x.n := by cases x <;> rfl
theorem catN_split {α : Type} (f : Nat → List α) : ∀ {n i : Nat}, i < n → ∃ r, catN f n = catN f i ++ (f i ++ r)
  | 0, _, h => by omega
  | n + 1, i, h => by
    by_cases e : i = n
    · subst e; exact ⟨[], by simp [catN]⟩
    · obtain ⟨r, hr⟩ := catN_split f (show i < n by omega)
      exact ⟨r ++ f n, by rw [catN, hr]; simp⟩
theorem catN_congr {α : Type} {f g : Nat → List α} : ∀ {n : Nat}, (∀ i, i < n → f i = g i) → catN f n = catN g n
  | 0, _ => rfl
  | n + 1, h => by rw [catN, catN, catN_congr fun i hi => h i (by omega), h n (by omega)]
theorem catN_map {α β : Type} (g : α → β) (f : Nat → List α) : ∀ n, (catN f n).map g = catN (fun i => (f i).map g) n
  | 0 => rfl
  | n + 1 => by rw [catN, catN, List.map_append, catN_map g f n]
theorem catN_filter {α : Type} (g : α → Bool) (f : Nat → List α) : ∀ n, (catN f n).filter g = catN (fun i => (f i).filter g) n
  | 0 => rfl
  | n + 1 => by rw [catN, catN, List.filter_append, catN_filter g f n]
theorem length_visP : ∀ (x : Pt) (d : Nat), (visP d x).length = x.size := by
  refine Pt.ind fun x ih d => ?_
  have : ∀ m, m ≤ x.n → (catN (fun i => visP (d + 1) (x.c i)) m).length = sumN (fun i => (x.c i).size) m := by
    intro m
    induction m with
    | zero => intro _; rfl
    | succ m ihm => intro hm; simp only [catN, sumN, List.length_append]; rw [ihm (by omega), ih m (by omega)]
  rw [visP_eq, x.size_eq, List.length_cons, this _ (Nat.le_refl _)]
  omega
/-- Of all nodes those that have a Var. -/
theorem uses_visP : ∀ (x : Pt) (d : Nat), ((visP d x).filter fun v => nmd v.2.k).map (·.2) = usesP x := by
  refine Pt.ind fun x ih d => ?_
  have hc : (catN (fun i => ((visP (d + 1) (x.c i)).filter fun v => nmd v.2.k).map (·.2)) x.n) = catN (fun i => usesP (x.c i)) x.n := catN_congr fun i hi => ih i hi (d + 1)
  rw [visP_eq, usesP_eq, List.filter_cons]
  by_cases h : nmd x.k = true
  · rw [if_pos h, if_pos h, List.map_cons, catN_filter, catN_map, hc]
    rfl
  · rw [if_neg h, if_neg h, catN_filter, catN_map, hc]
    rfl
/-- A property of all nodes. -/
theorem visP_all {P : Nat → Pt → Prop} (h : ∀ d x, P d x → ∀ i, i < x.n → P (d + 1) (x.c i)) : ∀ (x : Pt) (d : Nat), P d x → ∀ v ∈ visP d x, P v.1 v.2 := by
  refine Pt.ind fun x ih d hx v hv => ?_
  rw [visP_eq] at hv
  rcases List.mem_cons.1 hv with rfl | hv
  · exact hx
  · obtain ⟨i, hi, hv⟩ := mem_catN.1 hv
    exact ih i hi (d + 1) (h d x hx i hi) v hv
theorem mem_uses {x y : Pt} : y ∈ usesP x ↔ ∃ d, (d, y) ∈ visP 1 x ∧ nmd y.k = true := by
  rw [← uses_visP x 1]
  simp only [List.mem_map, List.mem_filter]
  constructor
  · rintro ⟨⟨d, z⟩, ⟨h1, h2⟩, rfl⟩
    exact ⟨d, h1, h2⟩
  · rintro ⟨d, h1, h2⟩
    exact ⟨(d, y), ⟨h1, h2⟩, rfl⟩
theorem vis_deep : ∀ (x : Pt) (d : Nat), ∀ v ∈ visP d x, v.1 + v.2.deep ≤ d + x.deep ∧ d ≤ v.1 := by
  refine Pt.ind fun x ih d v hv => ?_
  rw [visP_eq] at hv
  rcases List.mem_cons.1 hv with rfl | hv
  · exact ⟨Nat.le_refl _, Nat.le_refl _⟩
  · obtain ⟨i, hi, hv⟩ := mem_catN.1 hv
    have := ih i hi (d + 1) v hv
    have := x.deep_part i hi
    omega
theorem Pt.deep_pos (x : Pt) : 1 ≤ x.deep := by rw [x.deep_eq]; omega
/-- There is a node at the end of the longest way. -/
theorem vis_deepest : ∀ (x : Pt) (d : Nat), ∃ v ∈ visP d x, v.1 + 1 = d + x.deep := by
  refine Pt.ind fun x ih d => ?_
  by_cases h0 : x.n = 0
  · refine ⟨(d, x), by rw [visP_eq]; simp, ?_⟩
    rw [x.deep_eq, h0]
    rfl
  · have key : ∀ m, m ≤ x.n → 0 < m → ∃ i, i < m ∧ (x.c i).deep = maxN (fun i => (x.c i).deep) m := by
      intro m
      induction m with
      | zero => intro _ h; omega
      | succ m ihm =>
        intro hm _
        by_cases e : m = 0
        · subst e; exact ⟨0, by omega, by simp [maxN]⟩
        · obtain ⟨i, hi, q⟩ := ihm (by omega) (by omega)
          simp only [maxN]
          by_cases hle : maxN (fun i => (x.c i).deep) m ≤ (x.c m).deep
          · exact ⟨m, by omega, by omega⟩
          · exact ⟨i, by omega, by omega⟩
    obtain ⟨i, hi, q⟩ := key x.n (Nat.le_refl _) (by omega)
    obtain ⟨v, hv, hd⟩ := ih i hi (d + 1)
    refine ⟨v, by rw [visP_eq]; exact List.mem_cons_of_mem _ (mem_catN.2 ⟨i, hi, hv⟩), ?_⟩
    rw [x.deep_eq, ← q]
    omega
end Go.Proofs.Ytinnhaojmnmliaa
namespace Go.Proofs.Ytinnhaojmnmliaa
open Go

theorem held_up {P : Program} {md : Region.Mode} {ops : Array Oper} {Q : Exit → Act → World → Prop} {S S' : World → Prop} (h : ∀ w, S' w → S w) :
    ∀ (fuel : Nat) (listed : Array Bool) (a : Act) (w : World), wpAnyH P md ops Q S' fuel listed a w → wpAnyH P md ops Q S fuel listed a w
  | 0, _, _, _, k => k
  | fuel + 1, _, _, _, k => ⟨k.1, fun i hi => wpOp_mono (fun a' w' k' => ⟨h w' k'.1, held_up h fuel _ a' w' k'.2⟩) (k.2 i hi)⟩
end Go.Proofs.Ytinnhaojmnmliaa
