/-
  A range over a function whose loop variable is a struct: each round first lays it in a box of its own. Of no function.
  able.nodes: a range over all nodes of a pattern, each with its way.
  able.Uses.
-/
import Derived.Test.YtfnfegcjgnbgbaaGreatDoorSExprRange
import Derived.Test.YtfnfegcjgnbgbaaGreatDoorSHeldIn
import Derived.Test.YtfnfegcjgnbgbaaGreatDoorSQryCheckF
import Derived.Test.YtfnfegcjgnbgbaaGreatDoorSPatApart
import Derived.Laws.AppendOwn
namespace Go.Proofs.YtfnfegcjgnbgbaaGreatDoor
open Go.RowKit

theorem wpIn_rangeA {α : Type} {n : Nat} {P : Program} {g : Operand} {ps : Array Tmp} {assign body : Code} {Q : Exit → Act → World → Prop} {a : Act} {w : World}
    {gf : Nat} {lb : Array Value} (hg : a.eval g = .func (.func gf) #[] lb) (eg : ∀ args w, (callFunc gf args).run P w = .ok (.enter gf args) w)
    {encs : α → Array Value} (hps : ∀ x, (encs x).size = ps.size)
    (Pre : α → World → Prop) (Go : α → World → World → Prop) (Out : Code → α → World → World → Prop) (Fin : World → Prop) (Left : Code → World → Prop)
    (asg : α → World → World) (hasg : ∀ (x : α) (W : World), W.grownBy (asg x W) none)
    (hGo : ∀ x W A A' W', Ag w.heap.size (asg x W) A → Ag w.heap.size A' W' → Go x A A' → Go x W W')
    (hOut : ∀ c x W A A' W', Ag w.heap.size (asg x W) A → Ag w.heap.size A' W' → Out c x A A' → Out c x W W')
    (hFin : ∀ W A, Ag w.heap.size W A → Fin W → Fin A) (hLeft : ∀ c W A, Ag w.heap.size W A → Left c W → Left c A)
    (a₁ : α → World → Act)
    (hassign : ∀ (l : Nat) (x : α) (W : World) (K : Act → World → Prop), K (a₁ x W) (asg x W) →
      assign.wpIn (Fence.wide.inRound l) (n - 1 - 1) P (Exit.then K (fun _ _ _ => False)) { tmps := (ps.zip (encs x)).foldl (fun t (p, v) => t.setIfInBounds p v) a.tmps, defers := [] } W)
    (hbody : ∀ (l : Nat) (x : α) (W A : World), Pre x W → Ag w.heap.size (asg x W) A → w.heap.size + 2 ≤ W.heap.size → body.wpIn (Fence.wide.inRound l) (n - 1 - 1) P (backPost w.heap.size Go Out x A) (a₁ x W) A)
    (hseq : ∀ (l : Nat) (Rec : World → Prop) (RecX : Code → World → Prop) (W1 : World), Below w.heap.size w W1 → W1.heap.size = w.heap.size + 2 → Rec W1 →
      (∀ W W', KeepsTo w.heap.size (w.heap.size + 2) W W' → Rec W → Rec W') → (∀ c W W', KeepsTo w.heap.size (w.heap.size + 2) W W' → RecX c W → RecX c W') →
      (∀ (m : Nat) (x : α) (W : World), Pre x W → Rec W → YieldAt Fence.wide m P l (encs x) W fun e W' => (e = .returned (.bool true) ∧ Go x W W' ∧ Rec W' ∧ KeepsFrom w.heap.size W W') ∨ (e = .returned (.bool false) ∧ ∃ c, Out c x W W' ∧ RecX c W' ∧ KeepsFrom (w.heap.size + 2) W W')) →
      CallsIn Fence.wide (n - 1) P gf (#[.func (.yield l) #[] #[]] ++ lb) W1 fun e W' => (∃ v, e = .returned v) ∧ ((Fin W' ∧ Rec W') ∨ ∃ c, Left c W' ∧ RecX c W'))
    (hdone : ∀ (D : Nat) (W : World), w.heap.size ≤ D → Fin W → W.heap[D]? = some (.deferred (some [])) → Q .normal { a with defers := { target := .collected D, args := #[] } :: a.defers } W)
    (hstop : ∀ (D : Nat) (c : Code) (W : World), w.heap.size ≤ D → Left c W → W.heap[D]? = some (.deferred (some [])) → c.wpIn Fence.wide n P Q { a with defers := { target := .collected D, args := #[] } :: a.defers } W) :
    (Code.rangeFunc g ps assign body).wpIn Fence.wide n P Q a w := by
  refine wpIn_rangeFunc fun fn hfn => ?_
  obtain ⟨rec, hrec⟩ : ∃ rec : LoopState → Option Code → Loop, rec = fun st pe => { state := st, pending := pe, fn, tmps := a.tmps, params := ps, assign, body, defers := w.heap.size } := ⟨_, rfl⟩
  obtain ⟨W1, hW1⟩ : ∃ W1, (w.alloc (.deferred (some []))).alloc (.loop (rec .ready none)) = W1 := ⟨_, rfl⟩
  have hL1 : W1.heap[w.heap.size + 1]? = some (.loop (rec .ready none)) := by
    rw [← hW1]; have := World.alloc_heap_new (w.alloc (.deferred (some []))) (.loop (rec .ready none)); rwa [World.size_alloc] at this
  have hK1 : W1.heap[w.heap.size]? = some (.deferred (some [])) := by
    rw [← hW1]; exact (Below.heap_alloc _ _ _ (by simp)).trans (World.alloc_heap_new w _)
  have hb1 : Below w.heap.size w W1 := by
    rw [← hW1]; exact ((Below.refl _ w).alloc (Nat.le_refl _) _).alloc (by simp) _
  have hs1 : W1.heap.size = w.heap.size + 2 := by rw [← hW1]; simp
  refine ⟨w.heap.size + 1, [{ target := .collected w.heap.size, args := #[] }], W1, { target := .fn (.func gf) lb, args := #[.func (.yield (w.heap.size + 1)) #[] #[]] }, W1, gf,
    #[.func (.yield (w.heap.size + 1)) #[] #[]] ++ lb, W1, ?_, ?_, ?_, ?_, (fun h => (by cases h)), ?_⟩
  · rw [← hW1, hrec]; exact run_enterLoop_outer _ _ _ _ _
  · simp only [resolve, hg]
    simp [go_sem]
  · intro f' _; trivial
  · simp [invoke, go_sem, eg]
  · refine (hseq (w.heap.size + 1) (fun W => W.heap[w.heap.size + 1]? = some (.loop (rec .ready none)) ∧ W.heap[w.heap.size]? = some (.deferred (some [])))
      (fun c W => W.heap[w.heap.size + 1]? = some (.loop (rec .done (some c))) ∧ W.heap[w.heap.size]? = some (.deferred (some []))) W1 hb1 hs1 ⟨hL1, hK1⟩
      (fun W W' hk h => ⟨hk _ _ (by omega) (by omega) h.1 rfl, hk _ _ (Nat.le_refl _) (by omega) h.2 rfl⟩) (fun c W W' hk h => ⟨hk _ _ (by omega) (by omega) h.1 rfl, hk _ _ (Nat.le_refl _) (by omega) h.2 rfl⟩) ?_).mono ?_
    · rintro m x W hp ⟨hl, hd⟩
      have hlt : w.heap.size + 1 < W.heap.size := (Array.getElem?_eq_some_iff.1 hl).1
      have hy := run_yield (P := P) (args := encs x) hl (by rw [hrec]; exact hps x)
      rw [hrec] at hy
      refine ⟨fn, _, assign, body, hy, ⟨hfn, fun c cs _ => (roundIn_of_wpIn (n := n - 1 - 1) hfn (hassign _ x W _ ?_)).2 c cs (fun d h => by cases h)⟩⟩
      clear hy
      obtain ⟨V, hV⟩ : ∃ V, asg x W = V := ⟨_, rfl⟩
      have gV : W.grownBy V none := by rw [← hV]; exact hasg x W
      have hlV := (gV.block _ hlt (by simp)).trans hl
      have hdV := (gV.block w.heap.size (by omega) (by simp)).trans hd
      have hltV : w.heap.size + 1 < V.heap.size := Nat.lt_of_lt_of_le hlt gV.size
      rw [hV]
      refine ⟨_, run_beginRound hlV (by rw [hrec]), ?_⟩
      obtain ⟨A, hA⟩ : ∃ A, V.putObj (w.heap.size + 1) (.loop { rec .ready none with state := .busy }) = A := ⟨_, rfl⟩
      have hl2 : A.heap[w.heap.size + 1]? = some (.loop { rec .ready none with state := .busy }) := by rw [← hA]; exact World.putObj_heap_same hltV
      have hd2 : A.heap[w.heap.size]? = some (.deferred (some [])) := by rw [← hA]; exact (World.putObj_heap_other (by omega)).trans hdV
      have hag : Ag w.heap.size V A := by rw [← hA]; exact Ag.putObj (by omega) hlV rfl rfl
      have hsz : A.heap.size = V.heap.size := hag.size
      have hsame : ∀ k, k ≠ w.heap.size + 1 → A.heap[k]? = V.heap[k]? := fun k hk => by rw [← hA]; exact World.putObj_heap_other hk
      rw [hA]
      have hag' : Ag w.heap.size (asg x W) A := by rw [hV]; exact hag
      have up : ∀ (k : Nat) (o : Obj), W.heap[k]? = some o → V.heap[k]? = some o := fun k o h => (gV.block k (Array.getElem?_eq_some_iff.1 h).1 (by simp)).trans h
      have hszV := gV.size
      refine wpIn_mono (hbody _ x W A hp hag' (by omega)) ?_
      have fin : ∀ (jump : Option Code) (W3 : World), KeepsFrom w.heap.size A W3 → ∃ W4, (Instr.endRound (w.heap.size + 1) jump).run P W3 = .ok (.bool jump.isNone) W4 ∧ Ag w.heap.size W3 W4 ∧
          W4.heap[w.heap.size + 1]? = some (.loop (rec (if jump.isNone then .ready else .done) jump)) ∧ W4.heap[w.heap.size]? = some (.deferred (some [])) ∧ (∀ k, k ≠ w.heap.size + 1 → W4.heap[k]? = W3.heap[k]?) := fun jump W3 hk3 => by
        have hl3 := hk3.same _ _ (by omega) hl2 rfl
        have := run_endRound (P := P) jump hl3
        refine ⟨_, this, Ag.putObj (by omega) hl3 rfl rfl, ?_, (World.putObj_heap_other (by omega)).trans (hk3.same _ _ (Nat.le_refl _) hd2 rfl), fun k hk => World.putObj_heap_other hk⟩
        rw [World.putObj_heap_same (Array.getElem?_eq_some_iff.1 hl3).1, hrec]
      have keep : ∀ W4 W3, KeepsFrom w.heap.size A W3 → Ag w.heap.size W3 W4 → (∀ k, k ≠ w.heap.size + 1 → W4.heap[k]? = W3.heap[k]?) → KeepsFrom (w.heap.size + 2) W W4 := fun W4 W3 hk3 hag4 hs4 =>
        ⟨by have := hk3.size; rw [hag4.size]; omega, fun k o hk ho hc => by rw [hs4 k (by omega)]; exact hk3.same k o (by omega) ((hsame k (by omega)).trans (up k o ho)) hc⟩
      rintro e a3 W3 hp3
      cases e with
      | normal =>
        obtain ⟨hk3, hg3⟩ := hp3
        obtain ⟨W4, hr, hag4, hl4, hd4, hs4⟩ := fin none W3 hk3
        refine ⟨_, _, hr, .inl ⟨rfl, hGo x W A W3 W4 hag' hag4 hg3, ⟨hl4, hd4⟩, ?_, fun k o hk ho hc => ?_⟩⟩
        · have := hk3.size
          rw [hag4.size]
          omega
        · by_cases e : k = w.heap.size + 1
          · subst e
            rw [hl] at ho
            cases ho
            exact hl4
          · rw [hs4 k e]
            exact hk3.same k o hk ((hsame k e).trans (up k o ho)) hc
      | ret =>
        obtain ⟨hk3, hg3⟩ := hp3
        obtain ⟨W4, hr, hag4, hl4, hd4, hs4⟩ := fin (some .ret) W3 hk3
        exact ⟨_, _, hr, .inr ⟨rfl, .ret, hOut _ x W A W3 W4 hag' hag4 hg3, ⟨hl4, hd4⟩, keep W4 W3 hk3 hag4 hs4⟩⟩
      | exit id =>
        obtain ⟨hk3, hg3⟩ := hp3
        obtain ⟨W4, hr, hag4, hl4, hd4, hs4⟩ := fin (some (.exit id)) W3 hk3
        exact ⟨_, _, hr, .inr ⟨rfl, .exit id, hOut _ x W A W3 W4 hag' hag4 hg3, ⟨hl4, hd4⟩, keep W4 W3 hk3 hag4 hs4⟩⟩
      | goto t =>
        obtain ⟨hk3, hg3⟩ := hp3
        obtain ⟨W4, hr, hag4, hl4, hd4, hs4⟩ := fin (some (.goto t)) W3 hk3
        exact ⟨_, _, hr, .inr ⟨rfl, .goto t, hOut _ x W A W3 W4 hag' hag4 hg3, ⟨hl4, hd4⟩, keep W4 W3 hk3 hag4 hs4⟩⟩
      | panic ch => exact hp3.elim
      | outgrown => exact hp3.elim
    · rintro e W2 ⟨⟨v, rfl⟩, (⟨hf, hl, hd⟩ | ⟨c, hf, hl, hd⟩)⟩
      · have := run_endLoop (P := P) hl (by rw [hrec]; simp)
        exact ⟨none, _, by rw [this, hrec], hdone _ _ (Nat.le_refl _) (hFin _ _ (Ag.putObj (by omega) hl rfl rfl) hf) ((World.putObj_heap_other (by omega)).trans hd)⟩
      · have := run_endLoop (P := P) hl (by rw [hrec]; simp)
        exact ⟨some c, _, by rw [this, hrec], hstop _ c _ (Nat.le_refl _) (hLeft c _ _ (Ag.putObj (by omega) hl rfl rfl) hf) ((World.putObj_heap_other (by omega)).trans hd)⟩
end Go.Proofs.YtfnfegcjgnbgbaaGreatDoor
namespace Go.Proofs.YtfnfegcjgnbgbaaGreatDoor
open Go.RowKit Go.Shelf
attribute [local go_sem] Oper.semAt_some

set_option maxRecDepth 100000 in
set_option maxHeartbeats 1000000 in
theorem nodesW_in (n : Nat) (x : Pt) (w : World) :
    CallsIn Fence.wide n Tryz.prog 29 #[x.val] w fun e w' => e = .returned (.func (.func 56) #[] #[.pointer (some ⟨w.heap.size, 0, none⟩)]) ∧ w' = w.alloc (.cells x.cells 24) := by
  refine callsIn_of_wp Tryz.func29 rfl trivial ?_ rfl
  simp only [Tryz.ntmps29, List.size_toArray, List.length_cons, List.length_nil, Nat.reduceAdd, Nat.reduceSub, Array.replicate_succ, Array.replicate_zero, List.push_toArray, List.append_toArray, List.nil_append, List.cons_append]
  gi_wp2
  go_ret
  exact ⟨rfl, rfl⟩
set_option maxRecDepth 100000 in
set_option maxHeartbeats 2000000 in
/-- The function that able.nodes hands back: it lays yield and the closure in boxes of their own, and goes down. -/
theorem nodesW1_in (n l Bp : Nat) (x : Pt) (W : World) (R : Ending → World → Prop) (hBp : NodeP W Bp 0 x)
    (hdown : ∀ W2, Boxed W2 W.heap.size 87 (.func (.yield l) #[] #[]) → Boxed W2 (W.heap.size + 1) 87 (downWV W.heap.size (W.heap.size + 1)) → Below W.heap.size W W2 → W2.heap.size = W.heap.size + 2 →
      CallsIn Fence.wide (n - 1) Tryz.prog 57 #[ndVal x (.slice none 0 0) 0, .pointer (some ⟨W.heap.size, 0, none⟩), .pointer (some ⟨W.heap.size + 1, 0, none⟩)] W2 fun e W' => ∃ r, e = .returned (.bool r) ∧ R (.returned (.bool r)) W') :
    CallsIn Fence.wide n Tryz.prog 56 #[.func (.yield l) #[] #[], .pointer (some ⟨Bp, 0, none⟩)] W fun e W' => (∃ v, e = .returned v) ∧ ∃ r, R (.returned (.bool r)) W' := by
  have hdd : ∀ k : Nat, (Fence.wide.depth.isSome = true → 1 ≤ k) := fun k h => by cases h
  have h1 : Boxed (W.alloc (.cells #[.func (.yield l) #[] #[]] 87)) W.heap.size 87 (.func (.yield l) #[] #[]) := Boxed.new _ _ _
  have hlt : Bp < W.heap.size := hBp.lt
  obtain ⟨A, hA⟩ : ∃ A, (W.alloc (.cells #[.func (.yield l) #[] #[]] 87)).alloc (.cells #[.nilFunc] 87) = A := ⟨_, rfl⟩
  have b1 : Boxed A W.heap.size 87 (.func (.yield l) #[] #[]) := hA ▸ h1.alloc _
  have b2 : Boxed A (W.heap.size + 1) 87 .nilFunc := by
    have := Boxed.new (W.alloc (.cells #[.func (.yield l) #[] #[]] 87)) 87 .nilFunc
    rw [World.size_alloc, hA] at this
    exact this
  have hB : Below W.heap.size W A := by rw [← hA]; exact ((Below.refl _ W).alloc (Nat.le_refl _) _).alloc (by simp) _
  have hsz : A.heap.size = W.heap.size + 2 := by rw [← hA]; simp
  have b3 := b2.set (downWV W.heap.size (W.heap.size + 1))
  have b4 := b1.other (show W.heap.size ≠ W.heap.size + 1 by omega) (downWV W.heap.size (W.heap.size + 1))
  have hB3 : Below W.heap.size W (A.setCell ⟨W.heap.size + 1, 0, none⟩ (downWV W.heap.size (W.heap.size + 1))) := hB.setCell (p := ⟨W.heap.size + 1, 0, none⟩) (by simp) _
  have c2 := b2.cell
  have f2 := b2.frozen
  have c3 := b3.cell
  obtain ⟨p0, p1, p2, p3, p4, p5⟩ := hBp.below hB3 hlt
  simp only [Nat.zero_add] at p1 p2 p3 p4 p5
  have hd := hdown _ b4 b3 hB3 (by rw [World.size_setCell]; exact hsz)
  clear hdown
  refine callsIn_of_wp Tryz.func56 rfl trivial ?_ rfl
  simp only [Tryz.ntmps56, List.size_toArray, List.length_cons, List.length_nil, Nat.reduceAdd, Nat.reduceSub, Array.replicate_succ, Array.replicate_zero, List.push_toArray, List.append_toArray, List.nil_append, List.cons_append]
  gi_wp2_with (refine ⟨trivial, hdd _, ?_⟩; gi_at_call 57; refine hd.mono ?_; rintro e W3 ⟨r, rfl, hr⟩)
  go_end0
  exact ⟨⟨_, rfl⟩, _, hr⟩
/-- What a round is handed: a node, its way's row and what it holds, the kind above; what came ahead, and the blocks of the ways that are kept. -/
structure VisN where
  y : Pt
  a : Option Addr
  cap : Nat
  way : List Int
  ink : Int
  pre : List VN
  K : Nat → Prop
abbrev VisN.v (u : VisN) : Value := .slice u.a u.way.length u.cap
/-- How a round's body is left. -/
def ndPost (B : Nat) (T : Nat → Prop) (J : List VN → (Nat → Prop) → World → Prop) (pre : List VN) (K : Nat → Prop) (A : World) : Exit → Act → World → Prop
  | .normal, _, W' => KeepsFrom B A W' ∧ Ks T A W' ∧ ∃ K' : Nat → Prop, (∀ k, K' k → K k ∨ A.heap.size ≤ k) ∧ J pre K' W'
  | _, _, _ => False
theorem Ag.wy {B base : Nat} {W A : World} (h : Ag B W A) {v : Value} {l : List Int} (hw : Wy W base v l) : Wy A base v l := hw.same fun _ _ _ hc => (h.cells _ _ rfl).2 hc
theorem nodesW_fold {n : Nat} {g : Operand} {ps : Array Tmp} {assign body : Code} {Q : Exit → Act → World → Prop} {a : Act} {w : World} (Bp : Nat) (x : Pt) (T : Nat → Prop) (J : List VN → (Nat → Prop) → World → Prop)
    (hg : a.eval g = .func (.func 56) #[] #[.pointer (some ⟨Bp, 0, none⟩)]) (hps : ps.size = 1) (hBp : NodeP w Bp 0 x)
    (hT : ∀ k, T k → k < w.heap.size) (hX : PT T w x) (hdeep : x.deep ≤ 1048576)
    (hJ : ∀ pre K W A, Ag w.heap.size W A → J pre K W → J pre K A)
    (hJg : ∀ pre K W W' r, W.grownBy W' r → (∀ k, r = some k → IntB W k ∧ ¬ K k ∧ w.heap.size ≤ k) → J pre K W → J pre K W')
    (hJk : ∀ pre K W, J pre K W → ∀ k, K k → k < W.heap.size) (h0 : ∀ W, Below w.heap.size w W → J [] (fun _ => False) W)
    (a₁ : Pt → Value → Int → Nat → Act)
    (hassign : ∀ (l : Nat) (y : Pt) (va : Option Addr) (m cap : Nat) (ink : Int) (W : World) (K : Act → World → Prop), K (a₁ y (.slice va m cap) ink W.heap.size) (W.alloc (.cells (ndCells y (.slice va m cap) ink) 64)) →
      assign.wpIn (Fence.wide.inRound l) (n - 1 - 1) Tryz.prog (Exit.then K (fun _ _ _ => False)) { tmps := (ps.zip #[ndVal y (.slice va m cap) ink]).foldl (fun t (p, v) => t.setIfInBounds p v) a.tmps, defers := [] } W)
    (hbody : ∀ (l : Nat) (y : Pt) (v : Value) (way : List Int) (ink : Int) (pre : List VN) (K : Nat → Prop) (B : Nat) (A : World), Wy A w.heap.size v way → PT T A y → J pre K A → A.heap[B]? = some (.cells (ndCells y v ink) 64 (0, 0)) → w.heap.size + 4 ≤ A.heap.size → (∃ post, pre ++ (way, ink, y) :: post = visW [] 0 x) →
      body.wpIn (Fence.wide.inRound l) (n - 1 - 1) Tryz.prog (ndPost w.heap.size T J (pre ++ [(way, ink, y)]) K A) (a₁ y v ink B) A)
    (hdone : ∀ (D : Nat) (W : World), w.heap.size ≤ D → (∃ K, J (visW [] 0 x) K W) → W.heap[D]? = some (.deferred (some [])) → Q .normal { a with defers := { target := .collected D, args := #[] } :: a.defers } W) :
    (Code.rangeFunc g ps assign body).wpIn Fence.wide n Tryz.prog Q a w := by
  obtain ⟨all, hall⟩ : ∃ all, all = visW [] 0 x := ⟨_, rfl⟩
  have hbx : Bp < w.heap.size := hBp.lt
  refine wpIn_rangeA (α := VisN) hg (enters_of Tryz.func56 (by kernel_rfl) rfl) (encs := fun u => #[ndVal u.y u.v u.ink]) (fun _ => hps.symm)
    (fun u W => Wy W w.heap.size u.v u.way ∧ PT T W u.y ∧ J u.pre u.K W ∧ w.heap.size + 4 ≤ W.heap.size ∧ ∃ post, u.pre ++ (u.way, u.ink, u.y) :: post = all)
    (fun u W W' => Ks T W W' ∧ ∃ K' : Nat → Prop, (∀ k, K' k → u.K k ∨ W.heap.size ≤ k) ∧ J (u.pre ++ [(u.way, u.ink, u.y)]) K' W')
    (fun _ _ _ _ => False) (fun W => ∃ K, J all K W) (fun _ _ => False) (fun u W => W.alloc (.cells (ndCells u.y u.v u.ink) 64)) (fun u W => World.grownBy_alloc _ _ _) ?_ (fun _ _ _ _ _ _ _ _ h => h) ?_ (fun _ _ _ _ h => h)
    (fun u W => a₁ u.y u.v u.ink W.heap.size) (fun l u W K hK => hassign l u.y u.a u.way.length u.cap u.ink W K hK) ?_ ?_ (fun D W hD h hK => hdone D W hD (by rw [← hall]; exact h) hK) (fun _ _ _ _ h _ => h.elim)
  · rintro u W A A' W' hag hag' ⟨h1, K', h2, h3⟩
    have hs : W.heap.size ≤ A.heap.size := by rw [hag.size]; simp
    refine ⟨⟨by rw [hag'.size]; exact Nat.le_trans hs h1.size, fun k c t f ht hc => ?_⟩, K', fun k hk => ?_, hJ _ _ _ _ hag' h3⟩
    · exact (hag'.cells _ _ rfl).2 (h1.block k c t f ht ((hag.cells _ _ rfl).2 ((alloc_old (heap_lt hc)).trans hc)))
    · rcases h2 k hk with h | h
      · exact .inl h
      · exact .inr (Nat.le_trans hs h)
  · rintro W A hag ⟨K, h⟩
    exact ⟨K, hJ _ _ _ _ hag h⟩
  · rintro l u W A ⟨h1, h2, h3, h4, h5⟩ hag hs
    have gA : W.grownBy (W.alloc (.cells (ndCells u.y u.v u.ink) 64)) none := World.grownBy_alloc _ _ _
    have hsz : A.heap.size = W.heap.size + 1 := by rw [hag.size]; simp
    refine wpIn_mono (hbody l u.y u.v u.way u.ink u.pre u.K W.heap.size A (Ag.wy hag (Kw.grown (T := T) h1 gA).own) (PT.of (fun p v hp => (hag.cell p).trans (gA.cell hp (by simp))) h2) (hJ _ _ _ _ hag (hJg _ _ _ _ _ gA (fun k e => by cases e) h3)) ((hag.cells _ _ rfl).2 (alloc_new _ _)) (by omega) (by rw [← hall]; exact h5)) ?_
    rintro e a3 W3 hp
    cases e with
    | normal => exact ⟨hp.1, hp.2.1, hp.2.2⟩
    | ret => exact hp.elim
    | exit id => exact hp.elim
    | goto t => exact hp.elim
    | panic ch => exact hp.elim
    | outgrown => exact hp.elim
  · intro l Rec RecX W1 hB1 hs1 hrec1 hrec hrecx hY
    refine (nodesW1_in (n - 1) l Bp x W1 (fun e W' => e = .returned (.bool true) ∧ (∃ K, J all K W') ∧ Rec W') (hBp.below hB1 hbx) ?_).mono ?_
    · intro W2 by2 bd2 hB2 hs2
      have hB : Below w.heap.size w W2 := hB1.trans (hB2.mono (by omega))
      have key := downW_any l W1.heap.size (W1.heap.size + 1) w.heap.size T (fun pre K W => J pre K W ∧ Rec W ∧ w.heap.size + 4 ≤ W.heap.size) all hT ?_ (fun pre K W h => hJk _ _ _ h.1) ?_ (x.size + 1) x (by omega) (n - 1 - 1) (.slice none 0 0) [] 0 [] (fun _ => False) W2 by2 bd2 (World.ownsRow_nil _ _ _ _) (fun k h => by cases h) (PT.kept (Kp.of_below hB hT) hX) ?_ (by omega) (by simp; omega) ⟨[], by simp [hall]⟩
      · refine key.mono ?_
        rintro e W' ⟨rfl, -, K', -, h1, h2, -⟩
        exact ⟨true, rfl, rfl, ⟨K', by rw [hall]; simpa using h1⟩, h2⟩
      · rintro pre K W W' r hg' hr ⟨h1, h2, h3⟩
        refine ⟨hJg _ _ _ _ _ hg' hr h1, hrec W W' (fun k o _ _ ho hc => (hg'.block k (heap_lt ho) (fun e => ?_)).trans ho) h2, Nat.le_trans h3 hg'.size⟩
        obtain ⟨⟨cur, hcur⟩, -, -⟩ := hr k e.symm
        rw [ho] at hcur
        injection hcur with hcur
        subst hcur
        cases hc
      · rintro y v way ink pre K W h1 h2 ⟨h3, h4, h5⟩ h6 h7
        obtain ⟨a', cap', hv, -⟩ := h1.shape
        subst hv
        refine YieldAt.mono (hY 0 ⟨y, a', cap', way, ink, pre, K⟩ W ⟨h1, h2, h3, h5, h7⟩ h4) ?_
        rintro e W' (⟨rfl, ⟨k1, K', k2, k3⟩, k4, -⟩ | ⟨rfl, c, k1, -⟩)
        · exact ⟨rfl, k1, K', k2, k3, k4, Nat.le_trans h5 k1.size⟩
        · exact k1.elim
      · exact ⟨h0 W2 hB, hrec W1 W2 (fun k o _ _ ho _ => (hB2.block k (heap_lt ho)).trans ho) hrec1, by omega⟩
    · rintro e W' ⟨hv, r, -, h1, h2⟩
      exact ⟨hv, .inl ⟨h1, h2⟩⟩
end Go.Proofs.YtfnfegcjgnbgbaaGreatDoor
namespace Go.Proofs.YtfnfegcjgnbgbaaGreatDoor
open Go.RowKit Go.Shelf
attribute [local go_sem] Oper.semAt_some

/-- Is it right, its pattern well made? -/
def FineQ (q : Qy) : Prop := chkQ q = 0 ∧ MadeP q.p
def clauseL (q : Qy) : List Nt := (if (!q.key.toList.isEmpty) = true then [([], 8)] else []) ++ ([([], q.mode + 9)] ++ ((if (q.win != 0) = true then [([], 12)] else []) ++ (if (decide (0 < q.m)) = true then [([], 13)] else [])))
def usesL (q : Qy) : List Nt := (visW [] 0 q.p).flatMap (ntsOf (tlP q.p)) ++ clauseL q
/-- What Uses answers. -/
def UsesAll (q : Qy) (w : World) (e : Ending) (w' : World) : Prop :=
  (¬ FineQ q ∧ e = .returned (.tuple #[.slice none 0 0, .int .i64 1]) ∧ Below w.heap.size w w') ∨
  (FineQ q ∧ ∃ a cap K us, e = .returned (.tuple #[.slice a (usesL q).length cap, .int .i64 0]) ∧ Nts w' w.heap.size K (.slice a (usesL q).length cap) (usesL q) us ∧ Below w.heap.size w w')
theorem qyMode {q : Qy} (h : chkQ q = 0) : 0 ≤ q.mode ∧ q.mode ≤ 2 := by
  have h1 : cl7 q = 0 := lexN_zero.1 h 6 (by omega)
  unfold cl7 argB at h1
  by_cases hc : (decide (0 ≤ q.mode) && decide (q.mode ≤ 2)) = true
  · simpa using hc
  · rw [Bool.not_eq_true] at hc
    rw [hc] at h1
    cases h1
theorem qySmall {q : Qy} (h : chkQ q = 0) : q.p.size ≤ 64 ∧ q.p.deep ≤ 8 := by
  have h1 : chkP q.p = 0 := lexN_zero.1 h 0 (by omega)
  exact ⟨(chkP_zero.1 h1).1, (chkP_zero.1 h1).2.1⟩
abbrev noteV (lb : Nat) : Value := .func (.func 26) #[] #[.pointer (some ⟨lb, 0, none⟩)]
/-- What stays told of memory while notes are taken: the list so far, the closure, the Tail, the query. -/
structure UJ (q : Qy) (y : Pt) (B0 lb tb : Nat) (w : World) (L : List Nt) (K : Nat → Prop) (W : World) : Prop where
  row : ∃ v us, Boxed W lb 31 v ∧ Nts W B0 K v L us
  lt : ∀ k, K k → k < W.heap.size
  note : Boxed W (lb + 1) 57 (noteV lb)
  tail : W.heap[tb]? = some (.cells y.cells 24 (0, 0))
  q : QB W B0 q
  low : Below B0 w W
  lb : B0 < lb
variable {q : Qy} {y : Pt} {B0 lb tb : Nat} {w : World} {L : List Nt} {K : Nat → Prop} {W W' : World}
theorem UJ.moved (h : UJ q y B0 lb tb w L K W) (hc : ∀ (k : Nat) (c : Array Value) (t : TypeId), (t ≠ 3 ∨ K k) → W.heap[k]? = some (.cells c t (0, 0)) → W'.heap[k]? = some (.cells c t (0, 0))) (hs : W.heap.size ≤ W'.heap.size) (hl : Below B0 w W') : UJ q y B0 lb tb w L K W' := by
  obtain ⟨v, us, h1, h2⟩ := h.row
  exact ⟨⟨v, us, hc _ _ _ (.inl (by decide)) h1, h2.same (fun k c _ q => hc k c _ (.inl (by decide)) q) (fun k c hk q => hc k c _ (.inr hk) q) (fun _ h => h)⟩, fun k hk => Nat.lt_of_lt_of_le (h.lt k hk) hs, hc _ _ _ (.inl (by decide)) h.note, hc _ _ _ (.inl (by decide)) h.tail, hc _ _ _ (.inl (by decide)) h.q, hl, h.lb⟩
theorem UJ.grown (h : UJ q y B0 lb tb w L K W) {r : Option Nat} (hg : W.grownBy W' r) (hr : ∀ k, r = some k → IntB W k ∧ ¬ K k ∧ B0 ≤ k) : UJ q y B0 lb tb w L K W' := by
  refine h.moved (fun k c t ht hc => (hg.block k (heap_lt hc) (fun e => ?_)).trans hc) hg.size ⟨hg.os.trans h.low.os, hg.tape.trans h.low.tape, hg.output.trans h.low.output, Nat.le_trans h.low.size hg.size, fun k hk => (hg.block k ?_ (fun e => ?_)).trans (h.low.block k hk)⟩
  · obtain ⟨⟨cur, h1⟩, h2, -⟩ := hr k e.symm
    rcases ht with ht | ht
    · rw [hc] at h1
      injection h1 with h1
      injection h1 with _ q
      exact ht q
    · exact h2 ht
  · have h3 : B0 < W.heap.size := heap_lt h.q
    omega
  · have := (hr k e.symm).2.2
    omega
theorem UJ.later (h : UJ q y B0 lb tb w L K W) (hB : Below W.heap.size W W') : UJ q y B0 lb tb w L K W' := h.grown (r := none) ⟨hB.os, hB.tape, hB.output, hB.size, fun k hk _ => hB.block k hk⟩ (fun k e => by cases e)
theorem UJ.ag {B : Nat} (h : UJ q y B0 lb tb w L K W) (hag : Ag B W W') (hb : B0 ≤ B) : UJ q y B0 lb tb w L K W' :=
  h.moved (fun _ _ _ _ hc => (hag.cells _ _ rfl).2 hc) (Nat.le_of_eq hag.size.symm) (hag.below hb h.low)
/-- One call of the closure that notes. -/
theorem UJ.call (h : UJ q y B0 lb tb w L K W) {T : Nat → Prop} (hT : ∀ k, T k → k < B0) (va : Option Addr) (m cap : Nat) (way : List Int) (wb : Nat) (z : Int) (b : Bool) (hw : Wy W wb (.slice va m cap) way) (hm : m = way.length) (hL : L.length ≤ 1048576) (hwl : way.length ≤ 1048576) :
    Calls Tryz.prog 26 #[.slice va m cap, .int .i64 z, .bool b, .pointer (some ⟨lb, 0, none⟩)] W fun e W' => e = .returned (.tuple #[]) ∧ ∃ K' : Nat → Prop, (∀ k, K' k → K k ∨ W.heap.size ≤ k) ∧ UJ q y B0 lb tb w (L ++ if b = true then [(way, z)] else []) K' W' ∧ Ks T W W' ∧ KeepsOthers W W' := by
  obtain ⟨v, us, h1, h2⟩ := h.row
  have hq : B0 < W.heap.size := heap_lt h.q
  refine (note_any va m cap way wb z b lb B0 K v L us W hw hm h1 h2 (by omega) hL hwl).mono ?_
  rintro e W' ⟨rfl, v1, K1, us1, h3, h4, h5, h6⟩
  have vne : ∀ (k : Nat) (c : Array Value) (t : TypeId) (f : Nat × Nat), t ≠ 56 → W.heap[k]? = some (.cells c t f) → v.ownBlock ≠ some k := fun k c t f ht hc hk => by
    rcases h2.row.2 with ⟨e, -⟩ | ⟨g, cap', cur, e, -, q2, -⟩
    · rw [e] at hk; cases hk
    · rw [e] at hk; cases hk; rw [hc] at q2; injection q2 with q2; injection q2 with _ q3; exact ht q3
  have lne : ∀ (k : Nat) (c : Array Value) (t : TypeId) (f : Nat × Nat), t ≠ 31 → W.heap[k]? = some (.cells c t f) → k ≠ lb := fun k c t f ht hc hk => by
    have h1' : W.heap[lb]? = some (.cells #[v] 31 (0, 0)) := h1
    rw [hk] at hc
    rw [hc] at h1'
    injection h1' with h1'
    injection h1' with _ q3
    exact ht q3
  have keep : ∀ (k : Nat) (c : Array Value) (t : TypeId) (f : Nat × Nat), NoNote t → W.heap[k]? = some (.cells c t f) → W'.heap[k]? = some (.cells c t f) := fun k c t f ht hc =>
    (h6.block k (heap_lt hc) (lne k c t f ht.2 hc) (vne k c t f ht.1 hc)).trans hc
  have keepT : ∀ (k : Nat), k < B0 → W'.heap[k]? = W.heap[k]? := fun k hk => h6.block k (by omega) (by have := h.lb; omega) (fun e => by have := (h2.row.lt k e).1; omega)
  have hks : Ks T W W' := ⟨h6.size, fun k c t f ht hc => by
    rcases ht with ht | ht
    · exact (keepT k (hT k ht)).trans hc
    · exact keep k c t f ht hc⟩
  have hko : KeepsOthers W W' := ⟨h6.size, fun k o ho hcell => by
    refine (h6.block k (heap_lt ho) (fun e => ?_) (fun e => ?_)).trans ho
    · have h1' : W.heap[lb]? = some (.cells #[v] 31 (0, 0)) := h1
      rw [e, h1'] at ho
      injection ho with ho
      subst ho
      cases hcell
    · rcases h2.row.2 with ⟨e', -⟩ | ⟨g, cap', cur, e', -, q2, -⟩
      · rw [e'] at e; cases e
      · rw [e'] at e; cases e; rw [ho] at q2; injection q2 with q2; subst q2; cases hcell⟩
  refine ⟨rfl, fun k => K1 k ∧ k < W'.heap.size, fun k hk => h5 k hk.1, ⟨⟨v1, us1, h3, ?_⟩, fun k hk => hk.2, keep _ _ _ _ (by decide) h.note, keep _ _ _ _ (by decide) h.tail, keep _ _ _ _ (by decide) h.q, ⟨h6.os.trans h.low.os, h6.tape.trans h.low.tape, h6.output.trans h.low.output, Nat.le_trans h.low.size h6.size, fun k hk => (keepT k hk).trans (h.low.block k hk)⟩, h.lb⟩, hks, hko⟩
  exact ⟨h4.len, h4.row, fun j u n hu hn => ⟨(h4.way j u n hu hn).1, fun k hk => ⟨(h4.way j u n hu hn).2 k hk, ((h4.way j u n hu hn).1.lt k hk).2⟩⟩⟩
/-- The Tail of a right pattern has no parts. -/
theorem tlP_n {x : Pt} (h : rightP x = true) : (tlP x).n = 0 := by
  unfold tlP
  split
  · rename_i hh
    have h1 := (right_vis x 1).1 h (2, x.c (x.n - 1)) (by
      rw [visP_eq]
      refine List.mem_cons_of_mem _ (mem_catN.2 ⟨x.n - 1, by omega, ?_⟩)
      rw [visP_eq]
      exact List.mem_cons_self ..)
    simp only at h1
    unfold rightN at h1
    rw [if_neg (by rw [hh.2.2]; decide), if_neg (by rw [hh.2.2]; decide), if_pos (.inr hh.2.2)] at h1
    unfold leafB at h1
    simp at h1
    omega
  · rfl
set_option maxRecDepth 100000 in
set_option maxHeartbeats 16000000 in
theorem uses_in (n : Nat) (q : Qy) (w : World) (hQ : IsQ w q) (hok : QOk q) (hT : AbT w) : CallsIn Fence.wide n Tryz.prog 7 #[q.val] w (UsesAll q w) := by
  have hdd : ∀ k : Nat, (Fence.wide.depth.isSome = true → 1 ≤ k) := fun k h => by cases h
  obtain ⟨A, hA⟩ : ∃ A, w.alloc (.cells q.cells 28) = A := ⟨_, rfl⟩
  have hB : Below w.heap.size w A := by rw [← hA]; exact (Below.refl _ w).alloc (Nat.le_refl _) _
  have hs : A.heap.size = w.heap.size + 1 := by rw [← hA]; simp
  have qA : QB A w.heap.size q := by rw [← hA]; exact QB.new w q
  obtain ⟨⟨a0, a1, a2, a3, a4, a5⟩, a6, a7, a8, a9, a10⟩ := qA.at0
  have hchk := checkQF_any q A (hQ.later hB) hok
  by_cases hc : ¬ chkQ q = 0
  · have HN : Hid (¬ FineQ q) := fun h => hc h.1
    obtain ⟨z, hz⟩ : ∃ z, z = chkQ q := ⟨_, rfl⟩
    have hne : (z != 0) = true := by simp [hz, hc]
    rw [← hz] at hchk
    have HB : Hid (Below w.heap.size w A) := hB
    clear hz hc hQ hok hT qA hs hB
    subst hA
    refine callsIn_of_wp_marks Tryz.func7 rfl trivial ?_ rfl
    simp only [Tryz.ntmps7, List.size_toArray, List.length_cons, List.length_nil, Nat.reduceAdd, Nat.reduceSub, Array.replicate_succ, Array.replicate_zero, List.push_toArray, List.append_toArray, List.nil_append, List.cons_append]
    gi_wp2_with (refine ⟨trivial, hdd _, ?_⟩; gi_at_call 24; refine (callsIn_wide.2 hchk).mono ?_; clear hchk; rintro e w2 ⟨rfl, hB2⟩)
    refine ⟨trivial, ?_⟩
    gi_wp2
    refine leaves_marks (base := w.heap.size) (ds := []) trivial fun W' hW' => ⟨.tuple #[.slice none 0 0, .int .i64 1], ?_, (show UsesAll q w _ W' from Or.inl ⟨HN.out, rfl, hW'.below (Nat.le_refl _) (HB.out.trans (hB2.mono HB.out.size))⟩)⟩
    simp [results, Tryz.f7, go_sem]
  have hc : chkQ q = 0 := Classical.not_not.1 hc
  have hsm := bulk_of fun j hj => lexN_zero.1 hc j (by omega)
  have hpsm : q.p.size ≤ 1048576 := by have := qySmall hc; omega
  rw [hc] at hchk
  have hmade : ∀ d, Below A.heap.size A d → Calls Tryz.prog 25 #[q.p.val] d fun e w' => ∃ z : Int, e = .returned (.int .i64 z) ∧ MadeZ q.p z ∧ Below d.heap.size d w' := fun d h => madeP_any q.p d ((hQ.p.later hB).later h) hpsm hok.p
  have HM : Hid (∀ d, Below A.heap.size A d → Calls Tryz.prog 25 #[q.p.val] d fun e w' => ∃ z : Int, e = .returned (.int .i64 z) ∧ MadeZ q.p z ∧ Below d.heap.size d w') := hmade
  have HB : Hid (Below w.heap.size w A ∧ A.heap.size = w.heap.size + 1) := ⟨hB, hs⟩
  have HQ : Hid (IsQ w q ∧ QOk q ∧ AbT w ∧ chkQ q = 0 ∧ q.p.size ≤ 1048576) := ⟨hQ, hok, hT, hc, hpsm⟩
  have hcp : chkP q.p = 0 := lexN_zero.1 hc 0 (by omega)
  have HQA : Hid (QB A w.heap.size q) := qA
  have HCP : Hid (chkP q.p = 0) := hcp
  clear hmade hQ hok hT hc hpsm hcp qA hs hB hsm
  by_cases hm : ¬ MadeP q.p
  · have HN : Hid (¬ FineQ q) := fun h => hm h.2
    subst hA
    refine callsIn_of_wp_marks Tryz.func7 rfl trivial ?_ rfl
    simp only [Tryz.ntmps7, List.size_toArray, List.length_cons, List.length_nil, Nat.reduceAdd, Nat.reduceSub, Array.replicate_succ, Array.replicate_zero, List.push_toArray, List.append_toArray, List.nil_append, List.cons_append]
    gi_wp2_with (first
      | (refine ⟨trivial, hdd _, ?_⟩; gi_at_call 24; refine (callsIn_wide.2 hchk).mono ?_; clear hchk; rintro e w2 ⟨rfl, hB2⟩; clear a0 a1 a2 a3 a4 a5 a6 a7 a8 a9 a10; obtain ⟨⟨a0, a1, a2, a3, a4, a5⟩, a6, a7, a8, a9, a10⟩ := (HQA.out.later hB2).at0)
      | (refine ⟨trivial, hdd _, ?_⟩; gi_at_call 25; refine (callsIn_wide.2 (HM.out _ hB2)).mono ?_; clear HM; rintro e w3 ⟨z, rfl, hz, hB3⟩; obtain rfl : z = 4 := (by rcases hz with h | h | h; exact absurd HCP.out h.1; exact absurd h.2.1 hm; exact h.2.2); clear hz))
    refine leaves_marks (base := w.heap.size) (ds := []) trivial fun W' hW' => ⟨.tuple #[.slice none 0 0, .int .i64 1], ?_, (show UsesAll q w _ W' from Or.inl ⟨HN.out, rfl, hW'.below (Nat.le_refl _) ((HB.out.1.trans (hB2.mono HB.out.1.size)).trans (hB3.mono (Nat.le_trans HB.out.1.size hB2.size)))⟩)⟩
    simp [results, Tryz.f7, go_sem]
  have hm : MadeP q.p := Classical.not_not.1 hm
  have HMD : Hid (MadeP q.p) := hm
  clear hm
  subst hA
  refine callsIn_of_wp_marks Tryz.func7 rfl trivial ?_ rfl
  simp only [Tryz.ntmps7, List.size_toArray, List.length_cons, List.length_nil, Nat.reduceAdd, Nat.reduceSub, Array.replicate_succ, Array.replicate_zero, List.push_toArray, List.append_toArray, List.nil_append, List.cons_append]
  have NX : Hid (∀ w2, Below (w.alloc (.cells q.cells 28)).heap.size (w.alloc (.cells q.cells 28)) w2 → ∀ w3, Below w2.heap.size w2 w3 → ∃ E, ((w3.alloc (.cells #[.slice none 0 0] 31)).alloc (.cells #[.func (.func 26) #[] #[.pointer (some ⟨w3.heap.size, 0, none⟩)]] 57)) = E ∧ Below w3.heap.size w3 E ∧ E.heap.size = w3.heap.size + 2 ∧ QB E w.heap.size q ∧ Boxed E w3.heap.size 31 (.slice none 0 0) ∧ Boxed E (w3.heap.size + 1) 57 (.func (.func 26) #[] #[.pointer (some ⟨w3.heap.size, 0, none⟩)]) ∧
      Calls Tryz.prog 28 #[q.p.val] E (fun e w' => ∃ (y : Pt) (b : Bool), e = .returned (.tuple #[y.val, .bool b]) ∧ IsP w' y ∧ Sm y (tlP q.p) ∧ Below E.heap.size E w')) := by
    intro w2 hB2 w3 hB3
    have g1 : Below w3.heap.size w3 ((w3.alloc (.cells #[.slice none 0 0] 31)).alloc (.cells #[.func (.func 26) #[] #[.pointer (some ⟨w3.heap.size, 0, none⟩)]] 57)) := ((Below.refl _ _).alloc (Nat.le_refl _) _).alloc (by simp) _
    refine ⟨_, rfl, g1, by simp, ((HQA.out.later hB2).later hB3).later g1, (Boxed.new _ _ _).alloc _, ?_, ?_⟩
    · have := Boxed.new (w3.alloc (.cells #[.slice none 0 0] 31)) 57 (.func (.func 26) #[] #[.pointer (some ⟨w3.heap.size, 0, none⟩)])
      rwa [World.size_alloc] at this
    · exact tail_one q.p _ ((((HQ.out.1.p.later HB.out.1).later hB2).later hB3).later g1) HQ.out.2.2.2.2
  gi_wp2_with (first
      | (refine ⟨trivial, hdd _, ?_⟩; gi_at_call 24; refine (callsIn_wide.2 hchk).mono ?_; clear hchk; rintro e w2 ⟨rfl, hB2⟩; clear a0 a1 a2 a3 a4 a5 a6 a7 a8 a9 a10; obtain ⟨⟨a0, a1, a2, a3, a4, a5⟩, a6, a7, a8, a9, a10⟩ := (HQA.out.later hB2).at0)
      | (refine ⟨trivial, hdd _, ?_⟩; gi_at_call 25; refine (callsIn_wide.2 (HM.out _ hB2)).mono ?_; clear HM; rintro e w3 ⟨z, rfl, hz, hB3⟩; obtain rfl : z = 0 := (by rcases hz with h | h | h; exact absurd HCP.out h.1; exact h.2.2; exact absurd HMD.out h.2.1); clear hz; clear a0 a1 a2 a3 a4 a5 a6 a7 a8 a9 a10; obtain ⟨E, hE, hBE, hsE, qE, lE, nE, htl⟩ := NX.out w2 hB2 w3 hB3; clear NX; subst hE; obtain ⟨⟨a0, a1, a2, a3, a4, a5⟩, a6, a7, a8, a9, a10⟩ := qE.at0)
      | (refine ⟨trivial, hdd _, ?_⟩; gi_at_call 28; refine (callsIn_wide.2 htl).mono ?_; clear htl; rintro e w4 ⟨y, tb, rfl, hy1, hy2, hB4⟩; clear a0 a1 a2 a3 a4 a5 a6 a7 a8 a9 a10; have hB5 : Below w4.heap.size w4 (w4.alloc (.cells y.cells 24)) := (Below.refl _ _).alloc (Nat.le_refl _) _; have q5 := (qE.later hB4).later hB5; obtain ⟨⟨a0, a1, a2, a3, a4, a5⟩, a6, a7, a8, a9, a10⟩ := q5.at0)
      | (refine ⟨trivial, hdd _, ?_⟩; gi_at_call 29; refine (nodesW_in _ _ _).mono ?_; rintro e w' ⟨rfl, rfl⟩))
  have hG : ((w4.alloc (.cells y.cells 24)).alloc (.cells q.p.cells 24)).heap.size = w4.heap.size + 2 := by simp
  obtain ⟨G, hGe⟩ : ∃ G, (w4.alloc (.cells y.cells 24)).alloc (.cells q.p.cells 24) = G := ⟨_, rfl⟩
  have hB6 : Below w4.heap.size w4 G := by rw [← hGe]; exact hB5.alloc (by simp) _
  have pG : NodeP G (w4.heap.size + 1) 0 q.p := by
    rw [← hGe]
    have := nodeP_new (w4.alloc (.cells y.cells 24)) 24 q.p
    rwa [World.size_alloc] at this
  have tG : G.heap[w4.heap.size]? = some (.cells y.cells 24 (0, 0)) := by
    rw [← hGe]
    exact (alloc_old (by simp)).trans (alloc_new _ _)
  rw [hGe] at hG
  have s3 := HB.out.2
  have s2 := hB2.size
  have s33 := hB3.size
  have s4 := hB4.size
  have hw3 : Below w.heap.size w w3 := (HB.out.1.trans (hB2.mono HB.out.1.size)).trans (hB3.mono (by omega))
  have hwE := hw3.trans (hBE.mono hw3.size)
  have hw4 := hwE.trans (hB4.mono hwE.size)
  have hwG : Below w.heap.size w G := hw4.trans (hB6.mono hw4.size)
  have lG : Boxed G w3.heap.size 31 (.slice none 0 0) := (hB6.block _ (by omega)).trans ((hB4.block _ (by omega)).trans lE)
  have nG : Boxed G (w3.heap.size + 1) 57 (noteV w3.heap.size) := (hB6.block _ (by omega)).trans ((hB4.block _ (by omega)).trans nE)
  have qG : QB G w.heap.size q := (hB6.block _ (by omega)).trans ((hB4.block _ (by omega)).trans qE)
  have HJ0 : Hid (UJ q y w.heap.size w3.heap.size w4.heap.size w [] (fun _ => False) G) := ⟨⟨_, [], lG, Nts.nil _ _⟩, fun _ h => h.elim, nG, tG, qG, hwG, by omega⟩
  have hyn : y.n = 0 := by
    have h1 := ((sm_iff _ _).1 hy2).2.2.2.2.2.1
    rw [h1]
    exact tlP_n (chkP_zero.1 HCP.out).2.2
  have HY : Hid (∀ W, IsP W y) := fun W => by
    have h1 := (isP_eq _ _).1 hy1
    exact (isP_eq _ _).2 ⟨h1.1, h1.2.1, fun i hi => by omega⟩
  have HS : Hid (Sm y (tlP q.p)) := hy2
  have HG : Hid (G.heap.size = w4.heap.size + 2 ∧ w.heap.size < G.heap.size ∧ w.heap.size ≤ w3.heap.size) := ⟨hG, by omega, by omega⟩
  have hsm8 := qySmall HQ.out.2.2.2.1
  have HV : Hid (∀ v ∈ visW [] 0 q.p, v.1.length ≤ 8) := fun v hv => by
    have := visW_way q.p [] 0 v hv
    simp at this
    omega
  have HL : Hid (∀ pre post, pre ++ post = visW [] 0 q.p → (pre.flatMap (ntsOf (tlP q.p))).length ≤ 200) := fun pre post he => by
    have h1 := congrArg List.length he
    rw [length_visW, List.length_append] at h1
    have h2 := ntsAll_len (tlP q.p) pre
    omega
  rw [hGe]
  clear hy1 hy2 hyn lG nG qG tG hB5 hB6 hwE hw4 hw3 lE nE qE q5 a0 a1 a2 a3 a4 a5 a6 a7 a8 a9 a10 hBE hsE hB4 hB3 hB2 s2 s3 s33 s4 hGe
  refine nodesW_fold (w4.heap.size + 1) q.p (fun k => k < w.heap.size) (fun pre K W => UJ q y w.heap.size w3.heap.size w4.heap.size w (pre.flatMap (ntsOf (tlP q.p))) K W)
    rfl rfl pG (fun k hk => by have := HG.out.2.1; omega) (PIn.xt (n := w.heap.size) (fun k hk => hk) (HQ.out.1.p.inn.below hwG)) (by omega) ?_ ?_ (fun pre K W h => h.lt) ?_
    (fun y' v ink B => { tmps := #[q.val, .pointer (some ⟨w.heap.size, 0, none⟩), .slice none 0 0, .int .i64 0, .pointer (some ⟨w3.heap.size, 0, none⟩), .pointer (some ⟨w3.heap.size + 1, 0, none⟩), .pointer (some ⟨w4.heap.size, 0, none⟩), .bool tb, .pointer (some ⟨B, 0, none⟩), undef, q.val, .int .i64 0, .bool false, .bool false, .pointer (some ⟨w.heap.size, 0, none⟩), q.p.val, .int .i64 0, .bool false, .bool false, noteV w3.heap.size, .tuple #[y.val, .bool tb], .pointer (some ⟨w.heap.size, 0, none⟩), q.p.val, .tuple #[y.val, .bool tb], y.val, .bool tb, .pointer (some ⟨w.heap.size, 0, none⟩), q.p.val, .func (.func 56) #[] #[.pointer (some ⟨w4.heap.size + 1, 0, none⟩)], ndVal y' v ink, undef, undef, undef, undef, undef, undef, undef, undef, undef, undef, undef, undef, undef, undef, undef, undef, undef, undef, undef, undef, undef, undef, undef, undef, undef, undef, undef, undef, undef, undef, undef, undef, undef, undef, undef, undef, undef, undef, undef, undef, undef, undef, undef, undef, undef, undef, undef], defers := [] }) ?_ ?_ ?_
  · exact fun pre K W A hag h => h.ag hag (by have := HG.out.2.1; omega)
  · exact fun pre K W W' r hg hr h => h.grown hg (fun k hk => ⟨(hr k hk).1, (hr k hk).2.1, by have := (hr k hk).2.2; have := HG.out.2.1; omega⟩)
  · exact fun W hB => HJ0.out.later hB
  · intro l y' va m cap ink W K hK
    gi_wp2
    first | exact hK | simpa using hK
  · intro l y' v way ink pre K B A hwy hpt hj hbx hsz hpo
    obtain ⟨va, cap, hv, -⟩ := hwy.shape
    subst hv
    obtain ⟨post, hpo⟩ := hpo
    have hwl : way.length ≤ 8 := HV.out (way, ink, y') (by rw [← hpo]; simp)
    have hll := HL.out pre _ hpo
    have hown := own_any y' y A hpt.is (HY.out A)
    rw [ownZ_sm HS.out] at hown
    obtain ⟨o, ho⟩ : ∃ o, o = ownZ y' (tlP q.p) := ⟨_, rfl⟩
    have HO : Hid (o = ownZ y' (tlP q.p)) := ho
    rw [← ho] at hown
    obtain ⟨x0, x1, x2, x3, x4, x5, x6, x7⟩ := nd_cells hbx
    obtain ⟨t0, t1, t2, t3, t4, t5⟩ := (nodeP_box hj.tail).at0
    have HJ : Hid (UJ q y w.heap.size w3.heap.size w4.heap.size w (pre.flatMap (ntsOf (tlP q.p))) K A ∧ A.heap[B]? = some (.cells (ndCells y' (.slice va way.length cap) ink) 64 (0, 0)) ∧ Wy A G.heap.size (.slice va way.length cap) way) := ⟨hj, hbx, hwy⟩
    clear hj hbx hwy hpt ho hpo hsz pG
    gi_wp2_with (refine ⟨trivial, hdd _, ?_⟩; gi_at_call 30; refine (CallsIn.inRound l (callsIn_wide.2 hown)).mono ?_; clear hown; rintro e A2 ⟨rfl, hB2⟩)
    obtain ⟨hj, hbx, hwy⟩ := HJ.out
    have hj2 := hj.later hB2
    have bx2 : A2.heap[B]? = some (.cells (ndCells y' (.slice va way.length cap) ink) 64 (0, 0)) := (hB2.block B (heap_lt hbx)).trans hbx
    have wy2 : Wy A2 G.heap.size (.slice va way.length cap) way := hwy.same fun k c _ hc => (hB2.block k (heap_lt hc)).trans hc
    have ko2 : KeepsOthers A A2 := ⟨hB2.size, fun k o ho _ => (hB2.block k (heap_lt ho)).trans ho⟩
    have ks2 : Ks (fun k => k < w.heap.size) A A2 := ⟨hB2.size, fun k c t f _ hc => (hB2.block k (heap_lt hc)).trans hc⟩
    clear x0 x1 x2 x3 x4 x5 x6 x7 t0 t1 t2 t3 t4 t5 hj hbx hwy
    refine bgr (fun w' => Boxed w' (w3.heap.size + 1) 57 (noteV w3.heap.size) ∧ w'.heap[B]? = some (.cells (ndCells y' (.slice va way.length cap) ink) 64 (0, 0))) ⟨hj2.note, bx2⟩ (fun hHeld => ?_)
    obtain ⟨D, hD⟩ : ∃ D, A2.drew = D := ⟨_, rfl⟩
    have jD : UJ q y w.heap.size w3.heap.size w4.heap.size w (pre.flatMap (ntsOf (tlP q.p))) K D := by rw [← hD]; exact hj2.later (Below.refl _ _).drew
    have wD : Wy D G.heap.size (.slice va way.length cap) way := by rw [← hD]; exact wy2
    have koD : KeepsOthers A D := by rw [← hD]; exact ⟨ko2.size, ko2.same⟩
    have ksD : Ks (fun k => k < w.heap.size) A D := by rw [← hD]; exact ⟨ks2.size, ks2.block⟩
    have hc1 := jD.call (T := fun k => k < w.heap.size) (fun k hk => hk) va way.length cap way _ o (thingB o) wD rfl (by omega) (by omega)
    rw [hD] at hHeld ⊢
    clear hD hj2 bx2 wy2 ko2 ks2 hB2
    refine tki 0 ?_ (hy := by intro w9 hSw; obtain ⟨h1, -⟩ := hSw; have c := h1.cell; clear h1; go_simp; (try with_reducible rfl))
    refine tki 1 ?_
    refine tki 2 ?_ (hy := by intro w9 hSw; obtain ⟨-, h1⟩ := hSw; obtain ⟨x0, x1, x2, x3, x4, x5, x6, x7⟩ := nd_cells h1; clear h1; go_simp; (try with_reducible rfl))
    refine tki 3 ?_
    refine tki 4 ?_
    refine rdi 5 (fun K1 hK1 => ?_)
    go_simp
    refine ⟨trivial, hdd _, ?_⟩
    refine (callsIn_wide.2 (thing_any o D)).mono ?_
    rintro e X ⟨rfl, hX⟩
    replace hX := hX.symm
    subst hX
    go_simp
    refine hK1.out _ _ hHeld (fun hHeld => ?_)
    clear hK1 K1
    refine rdi 6 (fun K1 hK1 => ?_)
    go_simp
    refine ⟨trivial, hdd _, ?_⟩
    refine (callsIn_wide.2 hc1).mono ?_
    clear hc1
    rintro e X ⟨rfl, K2, hk2, jX, ksX, koX⟩
    have bxX := ksX.block _ _ _ _ (.inr (by decide)) hHeld.2
    have wX : Wy X G.heap.size (.slice va way.length cap) way := wD.same fun k c _ hc => ksX.block _ _ _ _ (.inr (by decide)) hc
    have hl2 : (pre.flatMap (ntsOf (tlP q.p)) ++ if thingB o = true then [(way, o)] else []).length ≤ 1048576 := by
      have h9 : (if thingB o = true then [((way, o) : Nt)] else []).length ≤ 1 := by split <;> simp
      rw [List.length_append]
      omega
    go_simp
    refine hK1.out _ _ ⟨jX.note, bxX⟩ (fun hHeld => ?_)
    clear hK1 K1
    refine dni ?_
    obtain ⟨x0, x1, x2, x3, x4, x5, x6, x7⟩ := nd_cells bxX
    have cn := jX.note.cell
    have fin : ∀ (b : Bool), (ink == 3 && y'.k != 1) = b → Hid (Calls Tryz.prog 26 #[.slice va way.length cap, .int .i64 14, .bool b, .pointer (some ⟨w3.heap.size, 0, none⟩)] X fun e W' => e = .returned (.tuple #[]) ∧ ndPost G.heap.size (fun k => k < w.heap.size) (fun pre K W => UJ q y w.heap.size w3.heap.size w4.heap.size w (pre.flatMap (ntsOf (tlP q.p))) K W) (pre ++ [(way, ink, y')]) K A .normal ⟨#[], []⟩ W') := fun b hb => by
      refine (jX.call (T := fun k => k < w.heap.size) (fun k hk => hk) va way.length cap way _ 14 b wX rfl hl2 (by omega)).mono ?_
      rintro e W' ⟨rfl, K3, hk3, jW, ksW, koW⟩
      refine ⟨rfl, ((koD.trans koX).trans koW).from _, ⟨Nat.le_trans ksD.size (Nat.le_trans ksX.size ksW.size), fun k c t f ht hc => ksW.block k c t f ht (ksX.block k c t f ht (ksD.block k c t f ht hc))⟩, K3, fun k hk => ?_, ?_⟩
      · rcases hk3 k hk with h | h
        · rcases hk2 k h with h | h
          · exact .inl h
          · exact .inr (Nat.le_trans ksD.size h)
        · exact .inr (Nat.le_trans ksD.size (Nat.le_trans ksX.size h))
      · show UJ q y w.heap.size w3.heap.size w4.heap.size w ((pre ++ [(way, ink, y')]).flatMap (ntsOf (tlP q.p))) K3 W'
        rw [List.flatMap_append, List.flatMap_cons, List.flatMap_nil, List.append_nil]
        unfold ntsOf
        rw [hb, ← HO.out, ← List.append_assoc]
        exact jW
    clear jX ksX koX wX hl2 bxX wD jD koD ksD hk2 hHeld
    cases hi : ink == 3 with
    | false =>
      have hc2 := fin false (by rw [hi]; rfl)
      clear fin
      gi_wp2_with (refine ⟨trivial, hdd _, ?_⟩; gi_at_call 26; refine (CallsIn.inRound l (callsIn_wide.2 hc2.out)).mono ?_; clear hc2; rintro e W' ⟨rfl, hpost⟩)
      exact hpost
    | true =>
      cases hk1 : y'.k != 1 with
      | false =>
        have hc2 := fin false (by rw [hi, hk1]; rfl)
        clear fin
        gi_wp2_with (refine ⟨trivial, hdd _, ?_⟩; gi_at_call 26; refine (CallsIn.inRound l (callsIn_wide.2 hc2.out)).mono ?_; clear hc2; rintro e W' ⟨rfl, hpost⟩)
        exact hpost
      | true =>
        have hc2 := fin true (by rw [hi, hk1]; rfl)
        clear fin
        gi_wp2_with (refine ⟨trivial, hdd _, ?_⟩; gi_at_call 26; refine (CallsIn.inRound l (callsIn_wide.2 hc2.out)).mono ?_; clear hc2; rintro e W' ⟨rfl, hpost⟩)
        exact hpost
  · rintro D W hD ⟨K, hJ⟩ hK
    have hm2 := qyMode HQ.out.2.2.2.1
    obtain ⟨md, hmd⟩ := Int.eq_ofNat_of_zero_le hm2.1
    have hmd3 : md < 3 := by omega
    have hn1 : (Value.slice none 0 0 : Value) = .slice none 0 0 := rfl
    have hL0 := HL.out (visW [] 0 q.p) [] (by simp)
    have step : ∀ {L : List Nt} {K : Nat → Prop} {X : World}, UJ q y w.heap.size w3.heap.size w4.heap.size w L K X → L.length ≤ 300 → ∀ (z : Int) (b : Bool), Calls Tryz.prog 26 #[.slice none 0 0, .int .i64 z, .bool b, .pointer (some ⟨w3.heap.size, 0, none⟩)] X fun e W' => e = .returned (.tuple #[]) ∧ ∃ K' : Nat → Prop, Hid (UJ q y w.heap.size w3.heap.size w4.heap.size w (L ++ if b = true then [([], z)] else []) K' W') ∧ KeepsOthers X W' := fun {L K X} hJ hl z b => by
      refine (hJ.call (T := fun k => k < w.heap.size) (fun k hk => hk) none 0 0 [] 0 z b (World.ownsRow_nil _ _ _ _) rfl (by omega) (by simp)).mono ?_
      rintro e W' ⟨rfl, K', -, h1, -, h2⟩
      exact ⟨rfl, K', h1, h2⟩
    have HStep : Hid (∀ {L : List Nt} {K : Nat → Prop} {X : World}, UJ q y w.heap.size w3.heap.size w4.heap.size w L K X → L.length ≤ 300 → ∀ (z : Int) (b : Bool), Calls Tryz.prog 26 #[.slice none 0 0, .int .i64 z, .bool b, .pointer (some ⟨w3.heap.size, 0, none⟩)] X fun e W' => e = .returned (.tuple #[]) ∧ ∃ K' : Nat → Prop, Hid (UJ q y w.heap.size w3.heap.size w4.heap.size w (L ++ if b = true then [([], z)] else []) K' W') ∧ KeepsOthers X W') := step
    clear step hm2 hn1
    obtain ⟨LV, hLV⟩ : ∃ LV, LV = (visW [] 0 q.p).flatMap (ntsOf (tlP q.p)) := ⟨_, rfl⟩
    have HLV : Hid (LV = (visW [] 0 q.p).flatMap (ntsOf (tlP q.p))) := hLV
    have hJ' : UJ q y w.heap.size w3.heap.size w4.heap.size w LV K W := by rw [hLV]; exact hJ
    rw [← hLV] at hL0
    have hc1 := HStep.out hJ' (by omega) 8
    obtain ⟨⟨a0, a1, a2, a3, a4, a5⟩, a6, a7, a8, a9, a10⟩ := hJ'.q.at0
    have cn := hJ'.note.cell
    have HK : Hid (W.heap[D]? = some (.deferred (some []))) := hK
    have HLL : Hid (LV.length ≤ 200) := hL0
    clear hJ hJ' hK hLV hL0 pG
    gi_wp2_with (refine ⟨trivial, hdd _, ?_⟩; gi_at_call 26; refine (callsIn_wide.2 (hc1 _)).mono ?_; clear hc1; rintro e W1 ⟨rfl, K1, jW1, ko1⟩)
    obtain ⟨L1, hL1⟩ : ∃ L1, L1 = LV ++ if (!q.key.toList.isEmpty) = true then [([], 8)] else [] := ⟨_, rfl⟩
    have HL1 : Hid (L1 = LV ++ if (!q.key.toList.isEmpty) = true then [([], 8)] else []) := hL1
    have hl1 : L1.length ≤ 201 := by
      have := HLL.out
      have h9 : (if (!q.key.toList.isEmpty) = true then [(([], 8) : Nt)] else []).length ≤ 1 := by split <;> simp
      rw [hL1, List.length_append]
      omega
    rw [← hL1] at jW1
    clear hL1 a0 a1 a2 a3 a4 a5 a6 a7 a8 a9 a10 cn
    have tab : ∀ {L : List Nt} {K : Nat → Prop} {X : World}, UJ q y w.heap.size w3.heap.size w4.heap.size w L K X → AbT X := fun h => HQ.out.2.2.1.later h.low
    obtain ⟨X, hX⟩ : ∃ X, X = W1.drew := ⟨_, rfl⟩
    have jX : UJ q y w.heap.size w3.heap.size w4.heap.size w L1 K1 X := by rw [hX]; exact jW1.out.later (Below.refl _ _).drew
    have koX : KeepsOthers W X := by rw [hX]; exact ⟨ko1.size, ko1.same⟩
    have hc2 := HStep.out jX (by omega) ((md : Int) + 9) true
    have tX := tab jX
    have hmdI : (md : Int) < 3 := by omega
    refine bgp (fun w' => Boxed w' (w3.heap.size + 1) 57 (noteV w3.heap.size) ∧ QB w' w.heap.size q ∧ AbT w') (by rw [← hX]; exact ⟨jX.note, jX.q, tX⟩) (fun hHeld => ?_)
    rw [← hX] at hHeld ⊢
    clear hX jW1 ko1 tX
    refine tki 0 ?_ (hy := by intro w9 hSw; obtain ⟨h1, -, -⟩ := hSw; have c := h1.cell; clear h1; go_simp; (try with_reducible rfl))
    refine tki 1 ?_
    refine tki 2 ?_ (hy := by intro w9 hSw; obtain ⟨-, h1, -⟩ := hSw; obtain ⟨⟨a0, a1, a2, a3, a4, a5⟩, a6, a7, a8, a9, a10⟩ := h1.at0; clear h1; go_simp; (try with_reducible rfl))
    refine tki 3 ?_
    refine tki 4 ?_ (hy := by intro w9 hSw; obtain ⟨-, -, h1⟩ := hSw; have c := cell_mode h1 md hmd3; clear h1; go_simp; (try with_reducible rfl))
    refine rdi 5 (fun K9 hK9 => ?_)
    go_simp
    refine ⟨trivial, hdd _, ?_⟩
    refine (callsIn_wide.2 hc2).mono ?_
    clear hc2
    rintro e W2 ⟨rfl, K2, jW2, ko2⟩
    rw [if_pos rfl] at jW2
    obtain ⟨L2, hL2⟩ : ∃ L2, L2 = L1 ++ [(([], (md : Int) + 9) : Nt)] := ⟨_, rfl⟩
    have HL2 : Hid (L2 = L1 ++ [(([], (md : Int) + 9) : Nt)]) := hL2
    have hl2 : L2.length ≤ 202 := by rw [hL2, List.length_append]; simp; omega
    rw [← hL2] at jW2
    clear hL2
    go_simp
    refine hK9.out _ _ ⟨jW2.out.note, jW2.out.q, tab jW2.out⟩ (fun hHeld => ?_)
    clear hK9 K9
    refine dni ?_
    refine NoPanic.normal ?_
    have hc3 := HStep.out jW2.out (by omega) 12
    obtain ⟨⟨a0, a1, a2, a3, a4, a5⟩, a6, a7, a8, a9, a10⟩ := jW2.out.q.at0
    have cn := jW2.out.note.cell
    have HL3 : Hid (∀ b : Bool, (L2 ++ if b = true then [(([], 12) : Nt)] else []).length ≤ 300) := fun b => by
      have h9 : (if b = true then [(([], 12) : Nt)] else []).length ≤ 1 := by split <;> simp
      rw [List.length_append]
      omega
    clear hHeld hl1 hl2
    gi_wp2_with (first
      | (refine ⟨trivial, hdd _, ?_⟩; gi_at_call 26; refine (callsIn_wide.2 (hc4 _)).mono ?_; clear hc4; rintro e W4 ⟨rfl, K4, jW4, ko4⟩; obtain ⟨lv, us, clv, hnts⟩ := jW4.out.row; have cl4 := clv.cell)
      | (refine ⟨trivial, hdd _, ?_⟩; gi_at_call 26; refine (callsIn_wide.2 (hc3 _)).mono ?_; clear hc3; rintro e W3 ⟨rfl, K3, jW3, ko3⟩; have hc4 := HStep.out jW3.out (HL3.out _) 13; clear a0 a1 a2 a3 a4 a5 a6 a7 a8 a9 a10 cn; obtain ⟨⟨a0, a1, a2, a3, a4, a5⟩, a6, a7, a8, a9, a10⟩ := jW3.out.q.at0; have cn := jW3.out.note.cell))
    have hK4 : W4.heap[D]? = some (.deferred (some [])) := ko4.same D _ (ko3.same D _ (ko2.same D _ (koX.same D _ HK.out rfl) rfl) rfl) rfl
    have hlist : (L2 ++ if (q.win != 0) = true then [(([], 12) : Nt)] else []) ++ (if decide (0 < q.m) = true then [(([], 13) : Nt)] else []) = usesL q := by
      unfold usesL clauseL
      rw [HL2.out, HL1.out, HLV.out, hmd]
      simp only [List.append_assoc]
    rw [hlist] at hnts
    obtain ⟨la, lc, rfl⟩ : ∃ la lc, lv = .slice la (usesL q).length lc := by
      rcases hnts.row.2 with ⟨rfl, e⟩ | ⟨g, cap, cur, rfl, -⟩
      · exact ⟨none, 0, by rw [e]⟩
      · exact ⟨_, _, rfl⟩
    have hlow := jW4.out.low
    refine leaves_marks (base := w.heap.size) ⟨D, rfl, by have := HG.out.2.1; omega, hK4, fun d' hd' => (by simp at hd'), trivial⟩ fun W' hW' => ⟨.tuple #[.slice la (usesL q).length lc, .int .i64 0], ?_, (show UsesAll q w _ W' from Or.inr ⟨⟨HQ.out.2.2.2.1, HMD.out⟩, la, lc, K4, us, rfl, hnts.same (fun _ _ _ hc => (hW'.cells _ _ rfl).2 hc) (fun _ _ _ hc => (hW'.cells _ _ rfl).2 hc) (fun _ h => h), hW'.below (Nat.le_refl _) hlow⟩)⟩
    simp [results, Tryz.f7, go_sem]
theorem uses_any (q : Qy) (w : World) (hQ : IsQ w q) (hok : QOk q) (hT : AbT w) : Calls Tryz.prog 7 #[q.val] w (UsesAll q w) := (callsIn_wide (n := 3)).1 (uses_in 3 q w hQ hok hT)
end Go.Proofs.YtfnfegcjgnbgbaaGreatDoor
