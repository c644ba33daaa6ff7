/-
  A range over a function whose rounds are told by what they do to the world: the element that a round is handed may be known by the world in which it is handed. Of no function.
  Trees and what stays of memory: small facts that conditions and patterns share; of no function.
  Conditions (api.Expr) as trees: how many nodes, how deep, their order; plain facts, of no function.
-/
import Derived.Test.YtinnhaojmnmliaaCTxt
import Derived.Test.YtinnhaojmnmliaaRows
import Derived.RangeFuncNested
import Derived.RangeFuncBound
import Derived.RangeFuncCalls
import Derived.RangeFuncLeaves
import Derived.RangeFuncBox
import Derived.Shelf.Abstract
import Derived.Shelf.RegionOpen
import Derived.WalkKit
import Derived.OwnWalkIn
import Derived.TacticsInMore
import Derived.LoopNIn
import Derived.LoopIn
namespace Go.Proofs.Ytinnhaojmnmliaa
open Go.RowKit

/-- The same cells; below B the same blocks. -/
structure Ag (B : Nat) (W A : World) : Prop where
  os : A.os = W.os
  tape : A.tape = W.tape
  output : A.output = W.output
  size : A.heap.size = W.heap.size
  low : ∀ k, k < B → A.heap[k]? = W.heap[k]?
  cells : ∀ (k : Nat) (o : Obj), o.isCells = true → (A.heap[k]? = some o ↔ W.heap[k]? = some o)
theorem Ag.refl (B : Nat) (W : World) : Ag B W W := ⟨rfl, rfl, rfl, rfl, fun _ _ => rfl, fun _ _ _ => Iff.rfl⟩
theorem Ag.symm {B : Nat} {W A : World} (h : Ag B W A) : Ag B A W := ⟨h.os.symm, h.tape.symm, h.output.symm, h.size.symm, fun k hk => (h.low k hk).symm, fun k o ho => (h.cells k o ho).symm⟩
theorem Ag.trans {B : Nat} {W A C : World} (h : Ag B W A) (g : Ag B A C) : Ag B W C :=
  ⟨g.os.trans h.os, g.tape.trans h.tape, g.output.trans h.output, g.size.trans h.size, fun k hk => (g.low k hk).trans (h.low k hk), fun k o ho => (g.cells k o ho).trans (h.cells k o ho)⟩
theorem Ag.putObj {B l : Nat} {W : World} {o o' : Obj} (hl : B ≤ l) (h : W.heap[l]? = some o) (ho : o.isCells = false) (ho' : o'.isCells = false) : Ag B W (W.putObj l o') := by
  have hlt : l < W.heap.size := (Array.getElem?_eq_some_iff.1 h).1
  refine ⟨rfl, rfl, rfl, World.putObj_size, fun k hk => World.putObj_heap_other (by omega), fun k q hq => ?_⟩
  by_cases e : k = l
  · subst e
    rw [World.putObj_heap_same hlt, h]
    constructor <;> (intro e; cases e)
    · rw [ho'] at hq; cases hq
    · rw [ho] at hq; cases hq
  · rw [World.putObj_heap_other e]
theorem Ag.cell_some {B : Nat} {W A : World} (h : Ag B W A) {p : Addr} {v : Value} (hc : W.cell? p = some v) : A.cell? p = some v := by
  obtain ⟨o, ho, hi⟩ := cells_of_cell hc
  rw [World.cell?_of_block (w := W) (w' := A) (((h.cells _ _ hi).2 ho).trans ho.symm)]
  exact hc
theorem Ag.cell {B : Nat} {W A : World} (h : Ag B W A) (p : Addr) : A.cell? p = W.cell? p :=
  Option.ext fun _ => ⟨h.symm.cell_some, h.cell_some⟩
theorem Ag.frozen {B : Nat} {W A : World} (h : Ag B W A) {p : Addr} {v : Value} (hc : W.cell? p = some v) : A.frozen? p = W.frozen? p := by
  obtain ⟨o, ho, hi⟩ := cells_of_cell hc
  exact World.frozen?_of_block (w := W) (w' := A) (((h.cells _ _ hi).2 ho).trans ho.symm)
theorem Ag.boxed {B : Nat} {W A : World} (h : Ag B W A) {b : Nat} {t : TypeId} {v : Value} (hb : Boxed W b t v) : Boxed A b t v := (h.cells _ _ rfl).2 hb
theorem Ag.below {B n : Nat} {W A V : World} (h : Ag B W A) (hn : n ≤ B) (hb : Below n V W) : Below n V A :=
  ⟨h.os.trans hb.os, h.tape.trans hb.tape, h.output.trans hb.output, by rw [h.size]; exact hb.size, fun k hk => (h.low k (by omega)).trans (hb.block k hk)⟩
theorem Ag.below_from {B n : Nat} {W A V : World} (h : Ag B W A) (hn : n ≤ B) (hb : Below n A V) : Below n W V :=
  ⟨hb.os.trans h.os, hb.tape.trans h.tape, hb.output.trans h.output, by rw [← h.size]; exact hb.size, fun k hk => (hb.block k hk).trans (h.low k (by omega))⟩

/-- How a round's body may be left. -/
def backPost {α : Type} (B : Nat) (Go : α → World → World → Prop) (Out : Code → α → World → World → Prop) (x : α) (W : World) : Exit → Act → World → Prop
  | .normal, _, W' => KeepsFrom B W W' ∧ Go x W W'
  | .ret, _, W' => KeepsFrom B W W' ∧ Out .ret x W W'
  | .exit id, _, W' => KeepsFrom B W W' ∧ Out (.exit id) x W W'
  | .goto t, _, W' => KeepsFrom B W W' ∧ Out (.goto t) x W W'
  | .panic _, _, _ => False
  | .outgrown, _, _ => False

/-- What is no cell and lies between stays. -/
def KeepsTo (B B' : Nat) (W W' : World) : Prop := ∀ (k : Nat) (o : Obj), B ≤ k → k < B' → W.heap[k]? = some o → o.isCells = false → W'.heap[k]? = some o
theorem KeepsTo.of {B B' : Nat} {W W' : World} (h : KeepsFrom B W W') : KeepsTo B B' W W' := fun k o h1 _ h3 h4 => h.same k o h1 h3 h4
theorem KeepsTo.of_below {B B' n : Nat} {W W' : World} (h : Below n W W') (hn : B' ≤ n) : KeepsTo B B' W W' := fun k _ _ h2 h3 _ => (h.block k (by omega)).trans h3
theorem KeepsTo.of_ag {B B' n : Nat} {W W' : World} (h : Ag n W W') (hn : B' ≤ n) : KeepsTo B B' W W' := fun k _ _ h2 h3 _ => (h.low k (by omega)).trans h3
theorem KeepsTo.trans {B B' : Nat} {A C D : World} (h : KeepsTo B B' A C) (g : KeepsTo B B' C D) : KeepsTo B B' A D := fun k o h1 h2 h3 h4 => g k o h1 h2 (h k o h1 h2 h3 h4) h4
theorem wpIn_rangeK {α : Type} {n : Nat} {P : Program} {g : Operand} {ps : Array Tmp} {assign body : Code} {Q : Exit → Act → World → Prop} {a : Act} {w : World}
    {gf : Nat} {lb : Array Value} (hg : a.eval g = .func (.func gf) #[] lb) (eg : ∀ args w, (callFunc gf args).run P w = .ok (.enter gf args) w)
    {encs : α → Array Value} (hps : ∀ x, (encs x).size = ps.size)
    (Pre : α → World → Prop) (Go : α → World → World → Prop) (Out : Code → α → World → World → Prop) (Fin : World → Prop) (Left : Code → World → Prop)
    (hPre : ∀ x W A, Ag w.heap.size W A → Pre x W → Pre x A)
    (hGo : ∀ x W A A' W', Ag w.heap.size W A → Ag w.heap.size A' W' → Go x A A' → Go x W W')
    (hOut : ∀ c x W A A' W', Ag w.heap.size W A → Ag w.heap.size A' W' → Out c x A A' → Out c x W W')
    (hFin : ∀ W A, Ag w.heap.size W A → Fin W → Fin A) (hLeft : ∀ c W A, Ag w.heap.size W A → Left c W → Left c A)
    (a₁ : α → Act)
    (hassign : ∀ (l : Nat) (x : α) (W : World) (K : Act → World → Prop), K (a₁ x) W →
      assign.wpIn (Fence.wide.inRound l) (n - 1 - 1) P (Exit.then K (fun _ _ _ => False)) { tmps := (ps.zip (encs x)).foldl (fun t (p, v) => t.setIfInBounds p v) a.tmps, defers := [] } W)
    (hbody : ∀ (l : Nat) (x : α) (W : World), Pre x W → w.heap.size + 2 ≤ W.heap.size → body.wpIn (Fence.wide.inRound l) (n - 1 - 1) P (backPost w.heap.size Go Out x W) (a₁ x) W)
    (hseq : ∀ (l : Nat) (Rec : World → Prop) (RecX : Code → World → Prop) (W1 : World), Below w.heap.size w W1 → W1.heap.size = w.heap.size + 2 → Rec W1 →
      (∀ W W', KeepsTo w.heap.size (w.heap.size + 2) W W' → Rec W → Rec W') → (∀ c W W', KeepsTo w.heap.size (w.heap.size + 2) W W' → RecX c W → RecX c W') →
      (∀ (m : Nat) (x : α) (W : World), Pre x W → Rec W → YieldAt Fence.wide m P l (encs x) W fun e W' => (e = .returned (.bool true) ∧ Go x W W' ∧ Rec W' ∧ KeepsFrom w.heap.size W W') ∨ (e = .returned (.bool false) ∧ ∃ c, Out c x W W' ∧ RecX c W' ∧ KeepsFrom (w.heap.size + 2) W W')) →
      CallsIn Fence.wide (n - 1) P gf (#[.func (.yield l) #[] #[]] ++ lb) W1 fun e W' => (∃ v, e = .returned v) ∧ ((Fin W' ∧ Rec W') ∨ ∃ c, Left c W' ∧ RecX c W'))
    (hdone : ∀ (D : Nat) (W : World), w.heap.size ≤ D → Fin W → W.heap[D]? = some (.deferred (some [])) → Q .normal { a with defers := { target := .collected D, args := #[] } :: a.defers } W)
    (hstop : ∀ (D : Nat) (c : Code) (W : World), w.heap.size ≤ D → Left c W → W.heap[D]? = some (.deferred (some [])) → c.wpIn Fence.wide n P Q { a with defers := { target := .collected D, args := #[] } :: a.defers } W) :
    (Code.rangeFunc g ps assign body).wpIn Fence.wide n P Q a w := by
  refine wpIn_rangeFunc fun fn hfn => ?_
  obtain ⟨rec, hrec⟩ : ∃ rec : LoopState → Option Code → Loop, rec = fun st pe => { state := st, pending := pe, fn, tmps := a.tmps, params := ps, assign, body, defers := w.heap.size } := ⟨_, rfl⟩
  obtain ⟨W1, hW1⟩ : ∃ W1, (w.alloc (.deferred (some []))).alloc (.loop (rec .ready none)) = W1 := ⟨_, rfl⟩
  have hL1 : W1.heap[w.heap.size + 1]? = some (.loop (rec .ready none)) := by
    rw [← hW1]; have := World.alloc_heap_new (w.alloc (.deferred (some []))) (.loop (rec .ready none)); rwa [World.size_alloc] at this
  have hK1 : W1.heap[w.heap.size]? = some (.deferred (some [])) := by
    rw [← hW1]; exact (Below.heap_alloc _ _ _ (by simp)).trans (World.alloc_heap_new w _)
  have hb1 : Below w.heap.size w W1 := by
    rw [← hW1]; exact ((Below.refl _ w).alloc (Nat.le_refl _) _).alloc (by simp) _
  have hs1 : W1.heap.size = w.heap.size + 2 := by rw [← hW1]; simp
  refine ⟨w.heap.size + 1, [{ target := .collected w.heap.size, args := #[] }], W1, { target := .fn (.func gf) lb, args := #[.func (.yield (w.heap.size + 1)) #[] #[]] }, W1, gf,
    #[.func (.yield (w.heap.size + 1)) #[] #[]] ++ lb, W1, ?_, ?_, ?_, ?_, (fun h => (by cases h)), ?_⟩
  · rw [← hW1, hrec]; exact run_enterLoop_outer _ _ _ _ _
  · simp only [resolve, hg]
    simp [go_sem]
  · intro f' _; trivial
  · simp [invoke, go_sem, eg]
  · refine (hseq (w.heap.size + 1) (fun W => W.heap[w.heap.size + 1]? = some (.loop (rec .ready none)) ∧ W.heap[w.heap.size]? = some (.deferred (some [])))
      (fun c W => W.heap[w.heap.size + 1]? = some (.loop (rec .done (some c))) ∧ W.heap[w.heap.size]? = some (.deferred (some []))) W1 hb1 hs1 ⟨hL1, hK1⟩
      (fun W W' hk h => ⟨hk _ _ (by omega) (by omega) h.1 rfl, hk _ _ (Nat.le_refl _) (by omega) h.2 rfl⟩) (fun c W W' hk h => ⟨hk _ _ (by omega) (by omega) h.1 rfl, hk _ _ (Nat.le_refl _) (by omega) h.2 rfl⟩) ?_).mono ?_
    · rintro m x W hp ⟨hl, hd⟩
      have hlt : w.heap.size + 1 < W.heap.size := (Array.getElem?_eq_some_iff.1 hl).1
      have hy := run_yield (P := P) (args := encs x) hl (by rw [hrec]; exact hps x)
      rw [hrec] at hy
      refine ⟨fn, _, assign, body, hy, ⟨hfn, fun c cs _ => (roundIn_of_wpIn (n := n - 1 - 1) hfn (hassign _ x W _ ?_)).2 c cs (fun d h => by cases h)⟩⟩
      clear hy
      refine ⟨_, run_beginRound hl (by rw [hrec]), ?_⟩
      obtain ⟨A, hA⟩ : ∃ A, W.putObj (w.heap.size + 1) (.loop { rec .ready none with state := .busy }) = A := ⟨_, rfl⟩
      have hl2 : A.heap[w.heap.size + 1]? = some (.loop { rec .ready none with state := .busy }) := by rw [← hA]; exact World.putObj_heap_same hlt
      have hd2 : A.heap[w.heap.size]? = some (.deferred (some [])) := by rw [← hA]; exact (World.putObj_heap_other (by omega)).trans hd
      have hag : Ag w.heap.size W A := by rw [← hA]; exact Ag.putObj (by omega) hl rfl rfl
      have hsz : A.heap.size = W.heap.size := hag.size
      have hsame : ∀ k, k ≠ w.heap.size + 1 → A.heap[k]? = W.heap[k]? := fun k hk => by rw [← hA]; exact World.putObj_heap_other hk
      rw [hA]
      refine wpIn_mono (hbody _ x A (hPre x W A hag hp) (by omega)) ?_
      have fin : ∀ (jump : Option Code) (W3 : World), KeepsFrom w.heap.size A W3 → ∃ W4, (Instr.endRound (w.heap.size + 1) jump).run P W3 = .ok (.bool jump.isNone) W4 ∧ Ag w.heap.size W3 W4 ∧
          W4.heap[w.heap.size + 1]? = some (.loop (rec (if jump.isNone then .ready else .done) jump)) ∧ W4.heap[w.heap.size]? = some (.deferred (some [])) ∧ (∀ k, k ≠ w.heap.size + 1 → W4.heap[k]? = W3.heap[k]?) := fun jump W3 hk3 => by
        have hl3 := hk3.same _ _ (by omega) hl2 rfl
        have := run_endRound (P := P) jump hl3
        refine ⟨_, this, Ag.putObj (by omega) hl3 rfl rfl, ?_, (World.putObj_heap_other (by omega)).trans (hk3.same _ _ (Nat.le_refl _) hd2 rfl), fun k hk => World.putObj_heap_other hk⟩
        rw [World.putObj_heap_same (Array.getElem?_eq_some_iff.1 hl3).1, hrec]
      have keep : ∀ W4 W3, KeepsFrom w.heap.size A W3 → Ag w.heap.size W3 W4 → (∀ k, k ≠ w.heap.size + 1 → W4.heap[k]? = W3.heap[k]?) → KeepsFrom (w.heap.size + 2) W W4 := fun W4 W3 hk3 hag4 hs4 =>
        ⟨by rw [hag4.size, ← hsz]; exact hk3.size, fun k o hk ho hc => by rw [hs4 k (by omega)]; exact hk3.same k o (by omega) ((hsame k (by omega)).trans ho) hc⟩
      rintro e a3 W3 hp3
      cases e with
      | normal =>
        obtain ⟨hk3, hg3⟩ := hp3
        obtain ⟨W4, hr, hag4, hl4, hd4, hs4⟩ := fin none W3 hk3
        refine ⟨_, _, hr, .inl ⟨rfl, hGo x W A W3 W4 hag hag4 hg3, ⟨hl4, hd4⟩, ?_, fun k o hk ho hc => ?_⟩⟩
        · rw [hag4.size, ← hsz]; exact hk3.size
        · by_cases e : k = w.heap.size + 1
          · subst e
            rw [hl] at ho
            cases ho
            exact hl4
          · rw [hs4 k e]
            exact hk3.same k o hk ((hsame k e).trans ho) hc
      | ret =>
        obtain ⟨hk3, hg3⟩ := hp3
        obtain ⟨W4, hr, hag4, hl4, hd4, hs4⟩ := fin (some .ret) W3 hk3
        exact ⟨_, _, hr, .inr ⟨rfl, .ret, hOut _ x W A W3 W4 hag hag4 hg3, ⟨hl4, hd4⟩, keep W4 W3 hk3 hag4 hs4⟩⟩
      | exit id =>
        obtain ⟨hk3, hg3⟩ := hp3
        obtain ⟨W4, hr, hag4, hl4, hd4, hs4⟩ := fin (some (.exit id)) W3 hk3
        exact ⟨_, _, hr, .inr ⟨rfl, .exit id, hOut _ x W A W3 W4 hag hag4 hg3, ⟨hl4, hd4⟩, keep W4 W3 hk3 hag4 hs4⟩⟩
      | goto t =>
        obtain ⟨hk3, hg3⟩ := hp3
        obtain ⟨W4, hr, hag4, hl4, hd4, hs4⟩ := fin (some (.goto t)) W3 hk3
        exact ⟨_, _, hr, .inr ⟨rfl, .goto t, hOut _ x W A W3 W4 hag hag4 hg3, ⟨hl4, hd4⟩, keep W4 W3 hk3 hag4 hs4⟩⟩
      | panic ch => exact hp3.elim
      | outgrown => exact hp3.elim
    · rintro e W2 ⟨⟨v, rfl⟩, (⟨hf, hl, hd⟩ | ⟨c, hf, hl, hd⟩)⟩
      · have := run_endLoop (P := P) hl (by rw [hrec]; simp)
        exact ⟨none, _, by rw [this, hrec], hdone _ _ (Nat.le_refl _) (hFin _ _ (Ag.putObj (by omega) hl rfl rfl) hf) ((World.putObj_heap_other (by omega)).trans hd)⟩
      · have := run_endLoop (P := P) hl (by rw [hrec]; simp)
        exact ⟨some c, _, by rw [this, hrec], hstop _ c _ (Nat.le_refl _) (hLeft c _ _ (Ag.putObj (by omega) hl rfl rfl) hf) ((World.putObj_heap_other (by omega)).trans hd)⟩
theorem wpIn_range {α : Type} {n : Nat} {P : Program} {g : Operand} {ps : Array Tmp} {assign body : Code} {Q : Exit → Act → World → Prop} {a : Act} {w : World}
    {gf : Nat} {lb : Array Value} (hg : a.eval g = .func (.func gf) #[] lb) (eg : ∀ args w, (callFunc gf args).run P w = .ok (.enter gf args) w)
    {encs : α → Array Value} (hps : ∀ x, (encs x).size = ps.size)
    (Pre : α → World → Prop) (Go : α → World → World → Prop) (Out : Code → α → World → World → Prop) (Fin : World → Prop) (Left : Code → World → Prop)
    (hPre : ∀ x W A, Ag w.heap.size W A → Pre x W → Pre x A)
    (hGo : ∀ x W A A' W', Ag w.heap.size W A → Ag w.heap.size A' W' → Go x A A' → Go x W W')
    (hOut : ∀ c x W A A' W', Ag w.heap.size W A → Ag w.heap.size A' W' → Out c x A A' → Out c x W W')
    (hFin : ∀ W A, Ag w.heap.size W A → Fin W → Fin A) (hLeft : ∀ c W A, Ag w.heap.size W A → Left c W → Left c A)
    (a₁ : α → Act)
    (hassign : ∀ (l : Nat) (x : α) (W : World) (K : Act → World → Prop), K (a₁ x) W →
      assign.wpIn (Fence.wide.inRound l) (n - 1 - 1) P (Exit.then K (fun _ _ _ => False)) { tmps := (ps.zip (encs x)).foldl (fun t (p, v) => t.setIfInBounds p v) a.tmps, defers := [] } W)
    (hbody : ∀ (l : Nat) (x : α) (W : World), Pre x W → w.heap.size + 2 ≤ W.heap.size → body.wpIn (Fence.wide.inRound l) (n - 1 - 1) P (backPost w.heap.size Go Out x W) (a₁ x) W)
    (hseq : ∀ (l : Nat) (Rec : World → Prop) (RecX : Code → World → Prop) (W1 : World), Below w.heap.size w W1 → W1.heap.size = w.heap.size + 2 → Rec W1 →
      (∀ W W', KeepsFrom w.heap.size W W' → Rec W → Rec W') → (∀ c W W', KeepsFrom w.heap.size W W' → RecX c W → RecX c W') →
      (∀ (m : Nat) (x : α) (W : World), Pre x W → Rec W → YieldAt Fence.wide m P l (encs x) W fun e W' => (e = .returned (.bool true) ∧ Go x W W' ∧ Rec W' ∧ KeepsFrom w.heap.size W W') ∨ (e = .returned (.bool false) ∧ ∃ c, Out c x W W' ∧ RecX c W')) →
      CallsIn Fence.wide (n - 1) P gf (#[.func (.yield l) #[] #[]] ++ lb) W1 fun e W' => (∃ v, e = .returned v) ∧ ((Fin W' ∧ Rec W') ∨ ∃ c, Left c W' ∧ RecX c W'))
    (hdone : ∀ (D : Nat) (W : World), w.heap.size ≤ D → Fin W → W.heap[D]? = some (.deferred (some [])) → Q .normal { a with defers := { target := .collected D, args := #[] } :: a.defers } W)
    (hstop : ∀ (D : Nat) (c : Code) (W : World), w.heap.size ≤ D → Left c W → W.heap[D]? = some (.deferred (some [])) → c.wpIn Fence.wide n P Q { a with defers := { target := .collected D, args := #[] } :: a.defers } W) :
    (Code.rangeFunc g ps assign body).wpIn Fence.wide n P Q a w :=
  wpIn_rangeK hg eg hps Pre Go Out Fin Left hPre hGo hOut hFin hLeft a₁ hassign hbody (fun l Rec RecX W1 h1 h2 h3 h4 h5 h6 => hseq l Rec RecX W1 h1 h2 h3 (fun W W' hk => h4 W W' (.of hk)) (fun c W W' hk => h5 c W W' (.of hk)) (fun m x W hp hr => YieldAt.mono (h6 m x W hp hr) (fun _ _ h => h.imp (fun q => q) (fun ⟨h1, c, h2, h3, _⟩ => ⟨h1, c, h2, h3⟩)))) hdone hstop
end Go.Proofs.Ytinnhaojmnmliaa
namespace Go.Proofs.Ytinnhaojmnmliaa
open Go.RowKit Go.Shelf

theorem alloc_old {w : World} {o : Obj} {r : Nat} (h : r < w.heap.size) : (w.alloc o).heap[r]? = w.heap[r]? := Below.heap_alloc w o r h
theorem alloc_new (w : World) (o : Obj) : (w.alloc o).heap[w.heap.size]? = some o := World.alloc_heap_new w o
theorem alloc2_new (w : World) (A B : Obj) : ((w.alloc A).alloc B).heap[w.heap.size + 1]? = some B := by
  have h := World.alloc_heap_new (w.alloc A) B
  rwa [World.size_alloc] at h
/-- The sum of the first. -/
def sumN (f : Nat → Nat) : Nat → Nat
  | 0 => 0
  | n + 1 => sumN f n + f n
/-- The greatest of the first. -/
def maxN (f : Nat → Nat) : Nat → Nat
  | 0 => 0
  | n + 1 => max (maxN f n) (f n)
theorem sumN_le {f : Nat → Nat} : ∀ {n i : Nat}, i < n → f i ≤ sumN f n
  | 0, _, h => by omega
  | n + 1, i, h => by
    simp only [sumN]
    by_cases e : i = n
    · subst e; omega
    · have := sumN_le (f := f) (show i < n by omega); omega
theorem round_wide {m m' : Nat} {P : Program} {l : Nat} {f : FuncId} {tmps : Array Value} {assign body : Code} {w : World} {R : Ending → World → Prop}
    (h : RoundIn Fence.wide m P l f tmps assign body w R) : RoundIn Fence.wide m' P l f tmps assign body w R := ⟨h.1, fun c cs _ => h.2 c cs (fun d h => by cases h)⟩
theorem yield_wide {m : Nat} (m' : Nat) {P : Program} {l : Nat} {args : Array Value} {W : World} {R : Ending → World → Prop} (h : YieldAt Fence.wide m P l args W R) : YieldAt Fence.wide m' P l args W R := by
  obtain ⟨fn, tmps, assign, body, hy, hR⟩ := h
  exact ⟨fn, tmps, assign, body, hy, round_wide hR⟩

/-- The first of some lists, one behind the other. -/
def catN {α : Type} (f : Nat → List α) : Nat → List α
  | 0 => []
  | n + 1 => catN f n ++ f n
theorem catN_len {α : Type} (f : Nat → List α) : ∀ {n i : Nat}, i < n → (catN f i).length + (f i).length ≤ (catN f n).length
  | 0, _, h => by omega
  | n + 1, i, h => by
    simp only [catN, List.length_append]
    by_cases e : i = n
    · subst e; omega
    · have := catN_len f (show i < n by omega); omega
theorem mem_catN {α : Type} {f : Nat → List α} {y : α} : ∀ {n : Nat}, y ∈ catN f n ↔ ∃ i, i < n ∧ y ∈ f i
  | 0 => by simp [catN]
  | n + 1 => by
    rw [catN, List.mem_append, mem_catN]
    constructor
    · rintro (⟨i, hi, h⟩ | h)
      · exact ⟨i, by omega, h⟩
      · exact ⟨n, by omega, h⟩
    · rintro ⟨i, hi, h⟩
      by_cases e : i = n
      · exact .inr (e ▸ h)
      · exact .inl ⟨i, by omega, h⟩
/-- Blocks of cells that stay as they are. -/
def Kp (T : Nat → Prop) (W W' : World) : Prop := ∀ (k : Nat) (o : Obj), T k → o.isCells = true → W.heap[k]? = some o → W'.heap[k]? = some o
theorem Kp.refl (T : Nat → Prop) (W : World) : Kp T W W := fun _ _ _ _ h => h
theorem Kp.trans {T : Nat → Prop} {A B C : World} (h : Kp T A B) (g : Kp T B C) : Kp T A C := fun k o hk ho e => g k o hk ho (h k o hk ho e)
theorem Kp.cell {T : Nat → Prop} {W W' : World} (h : Kp T W W') {p : Addr} {v : Value} (hp : T p.block) (hc : W.cell? p = some v) : W'.cell? p = some v := by
  obtain ⟨o, ho, hi⟩ := cells_of_cell hc
  rw [World.cell?_of_block (w := W) (w' := W') ((h _ _ hp hi ho).trans ho.symm)]
  exact hc
theorem Kp.ag {B : Nat} {T : Nat → Prop} {W A A' W' : World} (h : Ag B W A) (h' : Ag B A' W') (g : Kp T A A') : Kp T W W' := fun k o hk ho e => (h'.cells k o ho).2 (g k o hk ho ((h.cells k o ho).2 e))
theorem Kp.mono {T T' : Nat → Prop} {W W' : World} (h : Kp T W W') (hT : ∀ k, T' k → T k) : Kp T' W W' := fun k o hk => h k o (hT k hk)
theorem Kp.of_below {n : Nat} {T : Nat → Prop} {W W' : World} (h : Below n W W') (hT : ∀ k, T k → k < n) : Kp T W W' := fun k _ hk _ e => (h.block k (hT k hk)).trans e
theorem Kp.boxed {T : Nat → Prop} {W W' : World} (h : Kp T W W') {b : Nat} {t : TypeId} {v : Value} (hp : T b) (hb : Boxed W b t v) : Boxed W' b t v := h b _ hp rfl hb
theorem Boxed.kept_of {W W' : World} {n B : Nat} {t : TypeId} {v : Value} (h : Boxed W B t v) (hB : Below n W W') (hn : B < n) : Boxed W' B t v := (hB.block B hn).trans h
theorem Kp.set {T : Nat → Prop} {W : World} {b o : Nat} (v : Value) (h : ¬ T b) : Kp T W (W.setCell ⟨b, o, none⟩ v) := fun k _ hk _ e => (Below.heap_setCell W ⟨b, o, none⟩ v k (fun he => h (by have he' : k = b := he; rw [← he']; exact hk))).trans e
/-- One more, as the machine counts. -/
def cnt : Nat → Int
  | 0 => 0
  | n + 1 => wrap64 (cnt n + 1)

/-- The document's Size, as the machine counts. -/
def accZ (f : Nat → Int) : Nat → Int
  | 0 => 1
  | n + 1 => wrap64 (accZ f n + f n)
theorem heap_set {W : World} {b o : Nat} {v : Value} {c : Array Value} {t : TypeId} (h : W.heap[b]? = some (.cells c t (0, 0))) : (W.setCell ⟨b, o, none⟩ v).heap[b]? = some (.cells (c.setIfInBounds o v) t (0, 0)) := by
  simp only [World.setCell, Array.getElem?_modify, if_pos, h]
  rfl
theorem maxN_le {f : Nat → Nat} : ∀ {n i : Nat}, i < n → f i ≤ maxN f n
  | 0, _, h => by omega
  | n + 1, i, h => by
    simp only [maxN]
    by_cases e : i = n
    · subst e; omega
    · have := maxN_le (f := f) (show i < n by omega); omega
theorem own_laterS {w w' : World} {B e size n : Nat} {v : Value} {xs : List Value} (h : w.ownsRow B e size v n xs) (hb : Below w.heap.size w w') : w'.ownsRow B e size v n xs :=
  h.kept (row := none) ⟨hb.os, hb.tape, hb.output, hb.size, fun k hk _ => hb.block k hk⟩ (Classical.em _)
/-- How a body that changes no node may be left. -/
def foldPost (B : Nat) (T : Nat → Prop) (J : World → Prop) (Jx : Code → World → Prop) (W : World) : Exit → Act → World → Prop
  | .normal, _, W' => KeepsFrom B W W' ∧ Kp T W W' ∧ J W'
  | .ret, _, W' => KeepsFrom B W W' ∧ Jx .ret W'
  | .exit id, _, W' => KeepsFrom B W W' ∧ Jx (.exit id) W'
  | .goto t, _, W' => KeepsFrom B W W' ∧ Jx (.goto t) W'
  | .panic _, _, _ => False
  | .outgrown, _, _ => False
/-- How a body that does what it does to a node may be left. -/
def walkPost (B : Nat) (G : World → Prop) (W : World) : Exit → Act → World → Prop
  | .normal, _, W' => KeepsFrom B W W' ∧ Kp (fun k => k = B + 2 ∨ k = B + 3) W W' ∧ G W'
  | _, _, _ => False
/-- What a round is handed. -/
structure Got (ι : Type) where
  d : Int
  b : Nat
  o : Nat
  v : ι

theorem sumN_part {f : Nat → Nat} : ∀ {n i : Nat}, i < n → sumN f i + f i ≤ sumN f n
  | 0, _, h => by omega
  | n + 1, i, h => by
    simp only [sumN]
    by_cases e : i = n
    · subst e; omega
    · have := sumN_part (f := f) (show i < n by omega); omega
theorem wpOp_append_at {P : Program} {w w' : World} {o : Oper} {a : Act} {K : Act → World → Prop} {Q : Exit → Act → World → Prop} (s x : Operand) (t : TypeId)
    (hop : o.op = Op.call { callee := Callee.builtin Builtin.append, args := #[s, x], argTypes := #[t, t] }) (v y v' : Value) (hs : a.eval s = v) (hx : a.eval x = y)
    (hrun : (Builtin.append_ #[t, t] o.type #[v, y]).run P w = .ok v' w') (hK : K (a.put o.dst v') w') : Oper.wp P o a w K Q := by
  unfold Oper.wp
  simp [execOp, hop, resolve, invoke, builtin, hs, hx, hrun, Result.andThen]
  exact hK
end Go.Proofs.Ytinnhaojmnmliaa
namespace Go.Proofs.Ytinnhaojmnmliaa
open Go.RowKit

/-- A condition: its kind, value, Var and Field; its parts' slice (where it lies, how many, how much room) and the parts. -/
inductive X where
  | nil : X
  | mk (k : Int) (v : Val) (s f : ByteArray) (a : Option Addr) (n cap : Nat) (c : Nat → X) : X
def X.k : X → Int | .nil => 0 | .mk k .. => k
def X.v : X → Val | .nil => val0 | .mk _ v .. => v
def X.s : X → ByteArray | .nil => ⟨#[]⟩ | .mk _ _ s .. => s
def X.f : X → ByteArray | .nil => ⟨#[]⟩ | .mk _ _ _ f .. => f
def X.a : X → Option Addr | .nil => none | .mk _ _ _ _ a .. => a
def X.n : X → Nat | .nil => 0 | .mk _ _ _ _ _ n .. => n
def X.cap : X → Nat | .nil => 0 | .mk _ _ _ _ _ _ cap _ => cap
def X.c : X → Nat → X | .nil => fun _ => .nil | .mk _ _ _ _ _ _ _ c => c
theorem X.ind {P : X → Prop} (h : ∀ x, (∀ i, i < x.n → P (x.c i)) → P x) : ∀ x, P x
  | .nil => h .nil fun _ hi => absurd hi (Nat.not_lt_zero _)
  | .mk k v s f a n cap c => h (.mk k v s f a n cap c) fun i _ => X.ind h (c i)

/-- The first of the first that is not 0. -/
def lexN (f : Nat → Int) : Nat → Int
  | 0 => 0
  | n + 1 => if lexN f n = 0 then f n else lexN f n
def orI (a b : Int) : Int := if a = 0 then b else a
def X.size : X → Nat
  | .nil => 1
  | .mk _ _ _ _ _ n _ c => 1 + sumN (fun i => (c i).size) n
def X.deep : X → Nat
  | .nil => 1
  | .mk _ _ _ _ _ n _ c => maxN (fun i => (c i).deep) n + 1
theorem X.size_eq (x : X) : x.size = 1 + sumN (fun i => (x.c i).size) x.n := by cases x <;> rfl
theorem X.deep_eq (x : X) : x.deep = maxN (fun i => (x.c i).deep) x.n + 1 := by cases x <;> rfl
theorem X.size_part (x : X) (i : Nat) (h : i < x.n) : (x.c i).size < x.size := by
  have := sumN_le (f := fun i => (x.c i).size) h
  rw [x.size_eq]
  omega
theorem X.size_pos (x : X) : 1 ≤ x.size := by rw [x.size_eq]; omega
def ordV (x y : Val) : Int := ordZ x.k x.n x.s y.k y.n y.s
/-- Order's answer. -/
def ordX : X → X → Int
  | .nil, y => orI (cmpI 0 y.k) (orI (ordV val0 y.v) (orI (cmpS ⟨#[]⟩ y.s) (orI (cmpS ⟨#[]⟩ y.f) (orI (cmpI (0 : Nat) y.n) 0))))
  | .mk k v s f _ n _ c, y => orI (cmpI k y.k) (orI (ordV v y.v) (orI (cmpS s y.s) (orI (cmpS f y.f) (orI (cmpI n y.n) (lexN (fun i => ordX (c i) (y.c i)) n)))))
theorem ordX_eq (x y : X) : ordX x y = orI (cmpI x.k y.k) (orI (ordV x.v y.v) (orI (cmpS x.s y.s) (orI (cmpS x.f y.f) (orI (cmpI x.n y.n) (lexN (fun i => ordX (x.c i) (y.c i)) x.n))))) := by
  cases x <;> rfl
/-- What an order's three answers of three things have to be. -/
def Comp (f g h : Int) : Prop := (f = 0 → g = 0 → h = 0) ∧ (f < 0 → g ≤ 0 → h < 0) ∧ (f ≤ 0 → g < 0 → h < 0)
theorem Comp.or {f g h f' g' h' : Int} (c : Comp f g h) (d : f = 0 → g = 0 → Comp f' g' h') : Comp (orI f f') (orI g g') (orI h h') := by
  obtain ⟨c1, c2, c3⟩ := c
  unfold orI
  by_cases hf : f = 0
  · by_cases hg : g = 0
    · have hh := c1 hf hg
      rw [if_pos hf, if_pos hg, if_pos hh]
      exact d hf hg
    · rw [if_pos hf, if_neg hg]
      refine ⟨fun h1 h2 => absurd h2 hg, fun h1 h2 => ?_, fun h1 h2 => ?_⟩
      · have := c3 (by omega) (by omega); rw [if_neg (by omega)]; exact this
      · have := c3 (by omega) (by omega); rw [if_neg (by omega)]; exact this
  · rw [if_neg hf]
    refine ⟨fun h1 => absurd h1 hf, fun h1 h2 => ?_, fun h1 h2 => ?_⟩
    · have : h < 0 := c2 h1 (by split at h2 <;> omega)
      rw [if_neg (by omega)]; exact this
    · have : h < 0 := c2 (by omega) (by split at h2 <;> omega)
      rw [if_neg (by omega)]; exact this
theorem Comp.lex {f g h : Nat → Int} : ∀ {n : Nat}, (∀ i, i < n → Comp (f i) (g i) (h i)) → Comp (lexN f n) (lexN g n) (lexN h n)
  | 0, _ => ⟨fun _ _ => rfl, fun h => by simp [lexN] at h, fun _ h => by simp [lexN] at h⟩
  | n + 1, c => (Comp.lex fun i hi => c i (by omega)).or fun _ _ => c n (by omega)
theorem cmpI_comp (a b c : Int) : Comp (cmpI a b) (cmpI b c) (cmpI a c) := by
  unfold Comp cmpI
  refine ⟨?_, ?_, ?_⟩ <;> (intro h1 h2; split at h1 <;> split at h2 <;> split <;> (try split at h1) <;> (try split at h2) <;> (try split) <;> omega)
theorem cmpS_zero {s t : ByteArray} (h : cmpS s t = 0) : s = t := by
  rcases cmpS_cases s t with h1 | h1 | h1
  · omega
  · have := h1.2
    rw [ByteArray.toList_eq, ByteArray.toList_eq] at this
    exact ByteArray.ext (Array.ext' this)
  · omega
theorem cmpS_self (s : ByteArray) : cmpS s s = 0 := by
  rcases cmpS_cases s s with h1 | h1 | h1
  · exact absurd rfl h1.2.2
  · exact h1.1
  · exact absurd rfl h1.2.2
theorem cmpS_turn (s t : ByteArray) : cmpS t s = -cmpS s t := by
  rcases cmpS_cases s t with h1 | h1 | h1 <;> rcases cmpS_cases t s with h2 | h2 | h2
  · have := less_trans _ _ _ h1.2.1 h2.2.1; rw [less_irrefl] at this; cases this
  · exact absurd h2.2.symm h1.2.2
  · omega
  · exact absurd h1.2.symm h2.2.2
  · omega
  · exact absurd h1.2.symm h2.2.2
  · omega
  · exact absurd h2.2.symm h1.2.2
  · have := less_trans _ _ _ h1.2.1 h2.2.1; rw [less_irrefl] at this; cases this
theorem cmpS_comp (s t r : ByteArray) : Comp (cmpS s t) (cmpS t r) (cmpS s r) := by
  have key : cmpS s t = -1 → cmpS t r = -1 → cmpS s r = -1 := by
    intro h1 h2
    rcases cmpS_cases s t with a | a | a <;> rcases cmpS_cases t r with b | b | b <;> first | omega | skip
    have := less_trans _ _ _ a.2.1 b.2.1
    rcases cmpS_cases s r with c | c | c
    · exact c.1
    · rw [c.2, less_irrefl] at this; cases this
    · have h3 := less_trans _ _ _ this c.2.1; rw [less_irrefl] at h3; cases h3
  have zl : cmpS s t = 0 → cmpS s r = cmpS t r := fun h => by rw [cmpS_zero h]
  have zr : cmpS t r = 0 → cmpS s r = cmpS s t := fun h => by rw [cmpS_zero h]
  have a := cmpS_cases s t
  have b := cmpS_cases t r
  have a' : cmpS s t = -1 ∨ cmpS s t = 0 ∨ cmpS s t = 1 := by rcases a with h | h | h <;> simp [h.1]
  have b' : cmpS t r = -1 ∨ cmpS t r = 0 ∨ cmpS t r = 1 := by rcases b with h | h | h <;> simp [h.1]
  clear a b
  refine ⟨fun h1 h2 => by rw [zl h1]; exact h2, fun h1 h2 => ?_, fun h1 h2 => ?_⟩
  · by_cases e : cmpS t r = 0
    · rw [zr e]; exact h1
    · have := key (by omega) (by omega); omega
  · by_cases e : cmpS s t = 0
    · rw [zl e]; exact h2
    · have := key (by omega) (by omega); omega
theorem cmpI_turn (a b : Int) : cmpI b a = -cmpI a b := by
  unfold cmpI
  split <;> split <;> (try split) <;> (try split) <;> omega
theorem cmpI_zero {a b : Int} (h : cmpI a b = 0) : a = b := by
  rcases cmpI_cases a b with h1 | h1 | h1 <;> omega
theorem cmpI_self (a : Int) : cmpI a a = 0 := by unfold cmpI; simp
theorem ordV_eq (x y : Val) : ordV x y = orI (cmpI x.k y.k) (orI (cmpI x.n y.n) (cmpS x.s y.s)) := by
  unfold ordV ordZ orI
  by_cases h1 : cmpI x.k y.k = 0
  · by_cases h2 : cmpI x.n y.n = 0
    · simp [h1, h2]
    · simp [h1, h2]
  · simp [h1]
theorem ordV_comp (x y z : Val) : Comp (ordV x y) (ordV y z) (ordV x z) := by
  rw [ordV_eq, ordV_eq, ordV_eq]
  exact (cmpI_comp _ _ _).or fun _ _ => (cmpI_comp _ _ _).or fun _ _ => cmpS_comp _ _ _
theorem orI_turn {a b a' b' : Int} (h1 : a' = -a) (h2 : a = 0 → b' = -b) : orI a' b' = -orI a b := by
  unfold orI
  by_cases h : a = 0
  · rw [if_pos (by omega), if_pos h]; exact h2 h
  · rw [if_neg (by omega), if_neg h]; exact h1
theorem lexN_turn {f g : Nat → Int} : ∀ {n : Nat}, (∀ i, i < n → g i = -f i) → lexN g n = -lexN f n
  | 0, _ => rfl
  | n + 1, h => by
    show orI (lexN g n) (g n) = -orI (lexN f n) (f n)
    exact orI_turn (lexN_turn fun i hi => h i (by omega)) fun _ => h n (by omega)
theorem ordV_turn (x y : Val) : ordV y x = -ordV x y := by
  rw [ordV_eq, ordV_eq]
  exact orI_turn (cmpI_turn _ _) fun _ => orI_turn (cmpI_turn _ _) fun _ => cmpS_turn _ _
/-- Turned about, it is turned about. -/
theorem ordX_turn : ∀ x y : X, ordX y x = -ordX x y := by
  refine X.ind fun x ih y => ?_
  · rw [ordX_eq, ordX_eq x]
    refine orI_turn (cmpI_turn _ _) fun _ => orI_turn (ordV_turn _ _) fun _ => orI_turn (cmpS_turn _ _) fun _ => orI_turn (cmpS_turn _ _) fun _ => orI_turn (cmpI_turn _ _) fun h => ?_
    have hn : y.n = x.n := by have := cmpI_zero h; omega
    rw [hn]
    exact lexN_turn fun i hi => ih i hi (y.c i)
/-- It goes on. -/
theorem ordX_comp : ∀ x y z : X, Comp (ordX x y) (ordX y z) (ordX x z) := by
  refine X.ind fun x ih y z => ?_
  · rw [ordX_eq x y, ordX_eq y z, ordX_eq x z]
    refine (cmpI_comp _ _ _).or fun _ _ => (ordV_comp _ _ _).or fun _ _ => (cmpS_comp _ _ _).or fun _ _ => (cmpS_comp _ _ _).or fun _ _ => (cmpI_comp _ _ _).or fun h _ => ?_
    have hn : y.n = x.n := by have := cmpI_zero h; omega
    rw [hn]
    exact Comp.lex fun i hi => ih i hi (y.c i) (z.c i)
theorem orI_zero {a b : Int} : orI a b = 0 ↔ a = 0 ∧ b = 0 := by
  unfold orI
  by_cases h : a = 0
  · simp [h]
  · simp [h]
theorem lexN_zero {f : Nat → Int} : ∀ {n : Nat}, lexN f n = 0 ↔ ∀ i, i < n → f i = 0
  | 0 => by simp [lexN]
  | n + 1 => by
    show orI (lexN f n) (f n) = 0 ↔ _
    rw [orI_zero, lexN_zero]
    constructor
    · rintro ⟨h1, h2⟩ i hi
      by_cases e : i = n
      · exact e ▸ h2
      · exact h1 i (by omega)
    · exact fun h => ⟨fun i hi => h i (by omega), h n (by omega)⟩
theorem ordV_zero {x y : Val} : ordV x y = 0 ↔ x = y := by
  rw [ordV_eq, orI_zero, orI_zero]
  constructor
  · rintro ⟨h1, h2, h3⟩
    cases x; cases y
    simp only at h1 h2 h3
    rw [cmpI_zero h1, cmpI_zero h2, cmpS_zero h3]
  · rintro rfl
    exact ⟨cmpI_self _, cmpI_self _, cmpS_self _⟩
/-- It is 0 just where all fields are the same. -/
theorem ordX_zero (x y : X) : ordX x y = 0 ↔ x.k = y.k ∧ x.v = y.v ∧ x.s = y.s ∧ x.f = y.f ∧ x.n = y.n ∧ ∀ i, i < x.n → ordX (x.c i) (y.c i) = 0 := by
  rw [ordX_eq, orI_zero, orI_zero, orI_zero, orI_zero, orI_zero, lexN_zero, ordV_zero]
  constructor
  · rintro ⟨h1, h2, h3, h4, h5, h6⟩
    exact ⟨cmpI_zero h1, h2, cmpS_zero h3, cmpS_zero h4, by have := cmpI_zero h5; omega, h6⟩
  · rintro ⟨h1, h2, h3, h4, h5, h6⟩
    rw [h1, h3, h4, h5]
    exact ⟨cmpI_self _, h2, cmpS_self _, cmpS_self _, cmpI_self _, fun i hi => h6 i (by omega)⟩
theorem ordX_self : ∀ x : X, ordX x x = 0 := X.ind fun _ ih => (ordX_zero _ _).2 ⟨rfl, rfl, rfl, rfl, rfl, ih⟩
theorem ordX_trans {x y z : X} (h1 : ordX x y ≤ 0) (h2 : ordX y z ≤ 0) : ordX x z ≤ 0 := by
  obtain ⟨c1, c2, c3⟩ := ordX_comp x y z
  by_cases e1 : ordX x y = 0
  · by_cases e2 : ordX y z = 0
    · have := c1 e1 e2; omega
    · have := c3 h1 (by omega); omega
  · have := c2 (by omega) h2; omega
/-- The same has as many nodes, and is as deep. -/
theorem size_same : ∀ x y : X, ordX x y = 0 → x.size = y.size := by
  refine X.ind fun x ih y h => ?_
  obtain ⟨_, _, _, _, h5, h6⟩ := (ordX_zero _ _).1 h
  have : ∀ m, m ≤ x.n → sumN (fun i => (x.c i).size) m = sumN (fun i => (y.c i).size) m := by
    intro m
    induction m with
    | zero => intro _; rfl
    | succ m ihm =>
      intro hm
      simp only [sumN]
      rw [ihm (by omega), ih m (by omega) (y.c m) (h6 m (by omega))]
  rw [x.size_eq, y.size_eq, ← h5, this x.n (Nat.le_refl _)]
end Go.Proofs.Ytinnhaojmnmliaa
