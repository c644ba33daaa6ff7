/-
  A range over a function whose rounds are told by what they do to the world: the element that a round is handed may be known by the world in which it is handed. Of no function.
-/
import Derived.Test.YtjnkplmcopihbaaRows
import Derived.RangeFuncNested
import Derived.RangeFuncBound
import Derived.RangeFuncCalls
import Derived.RangeFuncLeaves
import Derived.RangeFuncBox
namespace Go.Proofs.Ytjnkplmcopihbaa
open Go.RowKit

/-- The same cells; below B the same blocks. -/
structure Ag (B : Nat) (W A : World) : Prop where
  os : A.os = W.os
  tape : A.tape = W.tape
  output : A.output = W.output
  size : A.heap.size = W.heap.size
  low : ∀ k, k < B → A.heap[k]? = W.heap[k]?
  cells : ∀ (k : Nat) (o : Obj), o.isCells = true → (A.heap[k]? = some o ↔ W.heap[k]? = some o)
theorem Ag.refl (B : Nat) (W : World) : Ag B W W := ⟨rfl, rfl, rfl, rfl, fun _ _ => rfl, fun _ _ _ => Iff.rfl⟩
theorem Ag.symm {B : Nat} {W A : World} (h : Ag B W A) : Ag B A W := ⟨h.os.symm, h.tape.symm, h.output.symm, h.size.symm, fun k hk => (h.low k hk).symm, fun k o ho => (h.cells k o ho).symm⟩
theorem Ag.trans {B : Nat} {W A C : World} (h : Ag B W A) (g : Ag B A C) : Ag B W C :=
  ⟨g.os.trans h.os, g.tape.trans h.tape, g.output.trans h.output, g.size.trans h.size, fun k hk => (g.low k hk).trans (h.low k hk), fun k o ho => (g.cells k o ho).trans (h.cells k o ho)⟩
theorem Ag.putObj {B l : Nat} {W : World} {o o' : Obj} (hl : B ≤ l) (h : W.heap[l]? = some o) (ho : o.isCells = false) (ho' : o'.isCells = false) : Ag B W (W.putObj l o') := by
  have hlt : l < W.heap.size := (Array.getElem?_eq_some_iff.1 h).1
  refine ⟨rfl, rfl, rfl, World.putObj_size, fun k hk => World.putObj_heap_other (by omega), fun k q hq => ?_⟩
  by_cases e : k = l
  · subst e
    rw [World.putObj_heap_same hlt, h]
    constructor <;> (intro e; cases e)
    · rw [ho'] at hq; cases hq
    · rw [ho] at hq; cases hq
  · rw [World.putObj_heap_other e]
theorem Ag.cell_some {B : Nat} {W A : World} (h : Ag B W A) {p : Addr} {v : Value} (hc : W.cell? p = some v) : A.cell? p = some v := by
  obtain ⟨o, ho, hi⟩ := cells_of_cell hc
  rw [World.cell?_of_block (w := W) (w' := A) (((h.cells _ _ hi).2 ho).trans ho.symm)]
  exact hc
theorem Ag.cell {B : Nat} {W A : World} (h : Ag B W A) (p : Addr) : A.cell? p = W.cell? p :=
  Option.ext fun _ => ⟨h.symm.cell_some, h.cell_some⟩
theorem Ag.frozen {B : Nat} {W A : World} (h : Ag B W A) {p : Addr} {v : Value} (hc : W.cell? p = some v) : A.frozen? p = W.frozen? p := by
  obtain ⟨o, ho, hi⟩ := cells_of_cell hc
  exact World.frozen?_of_block (w := W) (w' := A) (((h.cells _ _ hi).2 ho).trans ho.symm)
theorem Ag.boxed {B : Nat} {W A : World} (h : Ag B W A) {b : Nat} {t : TypeId} {v : Value} (hb : Boxed W b t v) : Boxed A b t v := (h.cells _ _ rfl).2 hb
theorem Ag.below {B n : Nat} {W A V : World} (h : Ag B W A) (hn : n ≤ B) (hb : Below n V W) : Below n V A :=
  ⟨h.os.trans hb.os, h.tape.trans hb.tape, h.output.trans hb.output, by rw [h.size]; exact hb.size, fun k hk => (h.low k (by omega)).trans (hb.block k hk)⟩
theorem Ag.below_from {B n : Nat} {W A V : World} (h : Ag B W A) (hn : n ≤ B) (hb : Below n A V) : Below n W V :=
  ⟨hb.os.trans h.os, hb.tape.trans h.tape, hb.output.trans h.output, by rw [← h.size]; exact hb.size, fun k hk => (hb.block k hk).trans (h.low k (by omega))⟩

/-- How a round's body may be left. -/
def backPost {α : Type} (B : Nat) (Go : α → World → World → Prop) (Out : Code → α → World → World → Prop) (x : α) (W : World) : Exit → Act → World → Prop
  | .normal, _, W' => KeepsFrom B W W' ∧ Go x W W'
  | .ret, _, W' => KeepsFrom B W W' ∧ Out .ret x W W'
  | .exit id, _, W' => KeepsFrom B W W' ∧ Out (.exit id) x W W'
  | .goto t, _, W' => KeepsFrom B W W' ∧ Out (.goto t) x W W'
  | .panic _, _, _ => False
  | .outgrown, _, _ => False

/-- What is no cell and lies between stays. -/
def KeepsTo (B B' : Nat) (W W' : World) : Prop := ∀ (k : Nat) (o : Obj), B ≤ k → k < B' → W.heap[k]? = some o → o.isCells = false → W'.heap[k]? = some o
theorem KeepsTo.of {B B' : Nat} {W W' : World} (h : KeepsFrom B W W') : KeepsTo B B' W W' := fun k o h1 _ h3 h4 => h.same k o h1 h3 h4
theorem KeepsTo.of_below {B B' n : Nat} {W W' : World} (h : Below n W W') (hn : B' ≤ n) : KeepsTo B B' W W' := fun k _ _ h2 h3 _ => (h.block k (by omega)).trans h3
theorem KeepsTo.of_ag {B B' n : Nat} {W W' : World} (h : Ag n W W') (hn : B' ≤ n) : KeepsTo B B' W W' := fun k _ _ h2 h3 _ => (h.low k (by omega)).trans h3
theorem KeepsTo.trans {B B' : Nat} {A C D : World} (h : KeepsTo B B' A C) (g : KeepsTo B B' C D) : KeepsTo B B' A D := fun k o h1 h2 h3 h4 => g k o h1 h2 (h k o h1 h2 h3 h4) h4
theorem wpIn_rangeK {α : Type} {n : Nat} {P : Program} {g : Operand} {ps : Array Tmp} {assign body : Code} {Q : Exit → Act → World → Prop} {a : Act} {w : World}
    {gf : Nat} {lb : Array Value} (hg : a.eval g = .func (.func gf) #[] lb) (eg : ∀ args w, (callFunc gf args).run P w = .ok (.enter gf args) w)
    {encs : α → Array Value} (hps : ∀ x, (encs x).size = ps.size)
    (Pre : α → World → Prop) (Go : α → World → World → Prop) (Out : Code → α → World → World → Prop) (Fin : World → Prop) (Left : Code → World → Prop)
    (hPre : ∀ x W A, Ag w.heap.size W A → Pre x W → Pre x A)
    (hGo : ∀ x W A A' W', Ag w.heap.size W A → Ag w.heap.size A' W' → Go x A A' → Go x W W')
    (hOut : ∀ c x W A A' W', Ag w.heap.size W A → Ag w.heap.size A' W' → Out c x A A' → Out c x W W')
    (hFin : ∀ W A, Ag w.heap.size W A → Fin W → Fin A) (hLeft : ∀ c W A, Ag w.heap.size W A → Left c W → Left c A)
    (a₁ : α → Act)
    (hassign : ∀ (l : Nat) (x : α) (W : World) (K : Act → World → Prop), K (a₁ x) W →
      assign.wpIn (Fence.wide.inRound l) (n - 1 - 1) P (Exit.then K (fun _ _ _ => False)) { tmps := (ps.zip (encs x)).foldl (fun t (p, v) => t.setIfInBounds p v) a.tmps, defers := [] } W)
    (hbody : ∀ (l : Nat) (x : α) (W : World), Pre x W → w.heap.size + 2 ≤ W.heap.size → body.wpIn (Fence.wide.inRound l) (n - 1 - 1) P (backPost w.heap.size Go Out x W) (a₁ x) W)
    (hseq : ∀ (l : Nat) (Rec : World → Prop) (RecX : Code → World → Prop) (W1 : World), Below w.heap.size w W1 → W1.heap.size = w.heap.size + 2 → Rec W1 →
      (∀ W W', KeepsTo w.heap.size (w.heap.size + 2) W W' → Rec W → Rec W') → (∀ c W W', KeepsTo w.heap.size (w.heap.size + 2) W W' → RecX c W → RecX c W') →
      (∀ (m : Nat) (x : α) (W : World), Pre x W → Rec W → YieldAt Fence.wide m P l (encs x) W fun e W' => (e = .returned (.bool true) ∧ Go x W W' ∧ Rec W' ∧ KeepsFrom w.heap.size W W') ∨ (e = .returned (.bool false) ∧ ∃ c, Out c x W W' ∧ RecX c W' ∧ KeepsFrom (w.heap.size + 2) W W')) →
      CallsIn Fence.wide (n - 1) P gf (#[.func (.yield l) #[] #[]] ++ lb) W1 fun e W' => (∃ v, e = .returned v) ∧ ((Fin W' ∧ Rec W') ∨ ∃ c, Left c W' ∧ RecX c W'))
    (hdone : ∀ (D : Nat) (W : World), w.heap.size ≤ D → Fin W → W.heap[D]? = some (.deferred (some [])) → Q .normal { a with defers := { target := .collected D, args := #[] } :: a.defers } W)
    (hstop : ∀ (D : Nat) (c : Code) (W : World), w.heap.size ≤ D → Left c W → W.heap[D]? = some (.deferred (some [])) → c.wpIn Fence.wide n P Q { a with defers := { target := .collected D, args := #[] } :: a.defers } W) :
    (Code.rangeFunc g ps assign body).wpIn Fence.wide n P Q a w := by
  refine wpIn_rangeFunc fun fn hfn => ?_
  obtain ⟨rec, hrec⟩ : ∃ rec : LoopState → Option Code → Loop, rec = fun st pe => { state := st, pending := pe, fn, tmps := a.tmps, params := ps, assign, body, defers := w.heap.size } := ⟨_, rfl⟩
  obtain ⟨W1, hW1⟩ : ∃ W1, (w.alloc (.deferred (some []))).alloc (.loop (rec .ready none)) = W1 := ⟨_, rfl⟩
  have hL1 : W1.heap[w.heap.size + 1]? = some (.loop (rec .ready none)) := by
    rw [← hW1]; have := World.alloc_heap_new (w.alloc (.deferred (some []))) (.loop (rec .ready none)); rwa [World.size_alloc] at this
  have hK1 : W1.heap[w.heap.size]? = some (.deferred (some [])) := by
    rw [← hW1]; exact (Below.heap_alloc _ _ _ (by simp)).trans (World.alloc_heap_new w _)
  have hb1 : Below w.heap.size w W1 := by
    rw [← hW1]; exact ((Below.refl _ w).alloc (Nat.le_refl _) _).alloc (by simp) _
  have hs1 : W1.heap.size = w.heap.size + 2 := by rw [← hW1]; simp
  refine ⟨w.heap.size + 1, [{ target := .collected w.heap.size, args := #[] }], W1, { target := .fn (.func gf) lb, args := #[.func (.yield (w.heap.size + 1)) #[] #[]] }, W1, gf,
    #[.func (.yield (w.heap.size + 1)) #[] #[]] ++ lb, W1, ?_, ?_, ?_, ?_, (fun h => (by cases h)), ?_⟩
  · rw [← hW1, hrec]; exact run_enterLoop_outer _ _ _ _ _
  · simp only [resolve, hg]
    simp [go_sem]
  · intro f' _; trivial
  · simp [invoke, go_sem, eg]
  · refine (hseq (w.heap.size + 1) (fun W => W.heap[w.heap.size + 1]? = some (.loop (rec .ready none)) ∧ W.heap[w.heap.size]? = some (.deferred (some [])))
      (fun c W => W.heap[w.heap.size + 1]? = some (.loop (rec .done (some c))) ∧ W.heap[w.heap.size]? = some (.deferred (some []))) W1 hb1 hs1 ⟨hL1, hK1⟩
      (fun W W' hk h => ⟨hk _ _ (by omega) (by omega) h.1 rfl, hk _ _ (Nat.le_refl _) (by omega) h.2 rfl⟩) (fun c W W' hk h => ⟨hk _ _ (by omega) (by omega) h.1 rfl, hk _ _ (Nat.le_refl _) (by omega) h.2 rfl⟩) ?_).mono ?_
    · rintro m x W hp ⟨hl, hd⟩
      have hlt : w.heap.size + 1 < W.heap.size := (Array.getElem?_eq_some_iff.1 hl).1
      have hy := run_yield (P := P) (args := encs x) hl (by rw [hrec]; exact hps x)
      rw [hrec] at hy
      refine ⟨fn, _, assign, body, hy, ⟨hfn, fun c cs _ => (roundIn_of_wpIn (n := n - 1 - 1) hfn (hassign _ x W _ ?_)).2 c cs (fun d h => by cases h)⟩⟩
      clear hy
      refine ⟨_, run_beginRound hl (by rw [hrec]), ?_⟩
      obtain ⟨A, hA⟩ : ∃ A, W.putObj (w.heap.size + 1) (.loop { rec .ready none with state := .busy }) = A := ⟨_, rfl⟩
      have hl2 : A.heap[w.heap.size + 1]? = some (.loop { rec .ready none with state := .busy }) := by rw [← hA]; exact World.putObj_heap_same hlt
      have hd2 : A.heap[w.heap.size]? = some (.deferred (some [])) := by rw [← hA]; exact (World.putObj_heap_other (by omega)).trans hd
      have hag : Ag w.heap.size W A := by rw [← hA]; exact Ag.putObj (by omega) hl rfl rfl
      have hsz : A.heap.size = W.heap.size := hag.size
      have hsame : ∀ k, k ≠ w.heap.size + 1 → A.heap[k]? = W.heap[k]? := fun k hk => by rw [← hA]; exact World.putObj_heap_other hk
      rw [hA]
      refine wpIn_mono (hbody _ x A (hPre x W A hag hp) (by omega)) ?_
      have fin : ∀ (jump : Option Code) (W3 : World), KeepsFrom w.heap.size A W3 → ∃ W4, (Instr.endRound (w.heap.size + 1) jump).run P W3 = .ok (.bool jump.isNone) W4 ∧ Ag w.heap.size W3 W4 ∧
          W4.heap[w.heap.size + 1]? = some (.loop (rec (if jump.isNone then .ready else .done) jump)) ∧ W4.heap[w.heap.size]? = some (.deferred (some [])) ∧ (∀ k, k ≠ w.heap.size + 1 → W4.heap[k]? = W3.heap[k]?) := fun jump W3 hk3 => by
        have hl3 := hk3.same _ _ (by omega) hl2 rfl
        have := run_endRound (P := P) jump hl3
        refine ⟨_, this, Ag.putObj (by omega) hl3 rfl rfl, ?_, (World.putObj_heap_other (by omega)).trans (hk3.same _ _ (Nat.le_refl _) hd2 rfl), fun k hk => World.putObj_heap_other hk⟩
        rw [World.putObj_heap_same (Array.getElem?_eq_some_iff.1 hl3).1, hrec]
      have keep : ∀ W4 W3, KeepsFrom w.heap.size A W3 → Ag w.heap.size W3 W4 → (∀ k, k ≠ w.heap.size + 1 → W4.heap[k]? = W3.heap[k]?) → KeepsFrom (w.heap.size + 2) W W4 := fun W4 W3 hk3 hag4 hs4 =>
        ⟨by rw [hag4.size, ← hsz]; exact hk3.size, fun k o hk ho hc => by rw [hs4 k (by omega)]; exact hk3.same k o (by omega) ((hsame k (by omega)).trans ho) hc⟩
      rintro e a3 W3 hp3
      cases e with
      | normal =>
        obtain ⟨hk3, hg3⟩ := hp3
        obtain ⟨W4, hr, hag4, hl4, hd4, hs4⟩ := fin none W3 hk3
        refine ⟨_, _, hr, .inl ⟨rfl, hGo x W A W3 W4 hag hag4 hg3, ⟨hl4, hd4⟩, ?_, fun k o hk ho hc => ?_⟩⟩
        · rw [hag4.size, ← hsz]; exact hk3.size
        · by_cases e : k = w.heap.size + 1
          · subst e
            rw [hl] at ho
            cases ho
            exact hl4
          · rw [hs4 k e]
            exact hk3.same k o hk ((hsame k e).trans ho) hc
      | ret =>
        obtain ⟨hk3, hg3⟩ := hp3
        obtain ⟨W4, hr, hag4, hl4, hd4, hs4⟩ := fin (some .ret) W3 hk3
        exact ⟨_, _, hr, .inr ⟨rfl, .ret, hOut _ x W A W3 W4 hag hag4 hg3, ⟨hl4, hd4⟩, keep W4 W3 hk3 hag4 hs4⟩⟩
      | exit id =>
        obtain ⟨hk3, hg3⟩ := hp3
        obtain ⟨W4, hr, hag4, hl4, hd4, hs4⟩ := fin (some (.exit id)) W3 hk3
        exact ⟨_, _, hr, .inr ⟨rfl, .exit id, hOut _ x W A W3 W4 hag hag4 hg3, ⟨hl4, hd4⟩, keep W4 W3 hk3 hag4 hs4⟩⟩
      | goto t =>
        obtain ⟨hk3, hg3⟩ := hp3
        obtain ⟨W4, hr, hag4, hl4, hd4, hs4⟩ := fin (some (.goto t)) W3 hk3
        exact ⟨_, _, hr, .inr ⟨rfl, .goto t, hOut _ x W A W3 W4 hag hag4 hg3, ⟨hl4, hd4⟩, keep W4 W3 hk3 hag4 hs4⟩⟩
      | panic ch => exact hp3.elim
      | outgrown => exact hp3.elim
    · rintro e W2 ⟨⟨v, rfl⟩, (⟨hf, hl, hd⟩ | ⟨c, hf, hl, hd⟩)⟩
      · have := run_endLoop (P := P) hl (by rw [hrec]; simp)
        exact ⟨none, _, by rw [this, hrec], hdone _ _ (Nat.le_refl _) (hFin _ _ (Ag.putObj (by omega) hl rfl rfl) hf) ((World.putObj_heap_other (by omega)).trans hd)⟩
      · have := run_endLoop (P := P) hl (by rw [hrec]; simp)
        exact ⟨some c, _, by rw [this, hrec], hstop _ c _ (Nat.le_refl _) (hLeft c _ _ (Ag.putObj (by omega) hl rfl rfl) hf) ((World.putObj_heap_other (by omega)).trans hd)⟩
theorem wpIn_range {α : Type} {n : Nat} {P : Program} {g : Operand} {ps : Array Tmp} {assign body : Code} {Q : Exit → Act → World → Prop} {a : Act} {w : World}
    {gf : Nat} {lb : Array Value} (hg : a.eval g = .func (.func gf) #[] lb) (eg : ∀ args w, (callFunc gf args).run P w = .ok (.enter gf args) w)
    {encs : α → Array Value} (hps : ∀ x, (encs x).size = ps.size)
    (Pre : α → World → Prop) (Go : α → World → World → Prop) (Out : Code → α → World → World → Prop) (Fin : World → Prop) (Left : Code → World → Prop)
    (hPre : ∀ x W A, Ag w.heap.size W A → Pre x W → Pre x A)
    (hGo : ∀ x W A A' W', Ag w.heap.size W A → Ag w.heap.size A' W' → Go x A A' → Go x W W')
    (hOut : ∀ c x W A A' W', Ag w.heap.size W A → Ag w.heap.size A' W' → Out c x A A' → Out c x W W')
    (hFin : ∀ W A, Ag w.heap.size W A → Fin W → Fin A) (hLeft : ∀ c W A, Ag w.heap.size W A → Left c W → Left c A)
    (a₁ : α → Act)
    (hassign : ∀ (l : Nat) (x : α) (W : World) (K : Act → World → Prop), K (a₁ x) W →
      assign.wpIn (Fence.wide.inRound l) (n - 1 - 1) P (Exit.then K (fun _ _ _ => False)) { tmps := (ps.zip (encs x)).foldl (fun t (p, v) => t.setIfInBounds p v) a.tmps, defers := [] } W)
    (hbody : ∀ (l : Nat) (x : α) (W : World), Pre x W → w.heap.size + 2 ≤ W.heap.size → body.wpIn (Fence.wide.inRound l) (n - 1 - 1) P (backPost w.heap.size Go Out x W) (a₁ x) W)
    (hseq : ∀ (l : Nat) (Rec : World → Prop) (RecX : Code → World → Prop) (W1 : World), Below w.heap.size w W1 → W1.heap.size = w.heap.size + 2 → Rec W1 →
      (∀ W W', KeepsFrom w.heap.size W W' → Rec W → Rec W') → (∀ c W W', KeepsFrom w.heap.size W W' → RecX c W → RecX c W') →
      (∀ (m : Nat) (x : α) (W : World), Pre x W → Rec W → YieldAt Fence.wide m P l (encs x) W fun e W' => (e = .returned (.bool true) ∧ Go x W W' ∧ Rec W' ∧ KeepsFrom w.heap.size W W') ∨ (e = .returned (.bool false) ∧ ∃ c, Out c x W W' ∧ RecX c W')) →
      CallsIn Fence.wide (n - 1) P gf (#[.func (.yield l) #[] #[]] ++ lb) W1 fun e W' => (∃ v, e = .returned v) ∧ ((Fin W' ∧ Rec W') ∨ ∃ c, Left c W' ∧ RecX c W'))
    (hdone : ∀ (D : Nat) (W : World), w.heap.size ≤ D → Fin W → W.heap[D]? = some (.deferred (some [])) → Q .normal { a with defers := { target := .collected D, args := #[] } :: a.defers } W)
    (hstop : ∀ (D : Nat) (c : Code) (W : World), w.heap.size ≤ D → Left c W → W.heap[D]? = some (.deferred (some [])) → c.wpIn Fence.wide n P Q { a with defers := { target := .collected D, args := #[] } :: a.defers } W) :
    (Code.rangeFunc g ps assign body).wpIn Fence.wide n P Q a w :=
  wpIn_rangeK hg eg hps Pre Go Out Fin Left hPre hGo hOut hFin hLeft a₁ hassign hbody (fun l Rec RecX W1 h1 h2 h3 h4 h5 h6 => hseq l Rec RecX W1 h1 h2 h3 (fun W W' hk => h4 W W' (.of hk)) (fun c W W' hk => h5 c W W' (.of hk)) (fun m x W hp hr => YieldAt.mono (h6 m x W hp hr) (fun _ _ h => h.imp (fun q => q) (fun ⟨h1, c, h2, h3, _⟩ => ⟨h1, c, h2, h3⟩)))) hdone hstop
end Go.Proofs.Ytjnkplmcopihbaa
