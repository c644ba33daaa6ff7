/-
  able.own; what a node notes; pat.Tail, told in one.
  A range over a function whose loop variable is a struct: each round first lays it in a box of its own. Of no function.
  able.nodes: a range over all nodes of a pattern, each with its way.
-/
import Derived.Test.YtfnfegcjgnbgbaaGreatDoorTPatFresh
import Derived.Test.YtfnfegcjgnbgbaaGreatDoorTAbWay
import Derived.Test.YtfnfegcjgnbgbaaGreatDoorTAbNote
import Derived.Test.YtfnfegcjgnbgbaaGreatDoorTExprRange
import Derived.Laws.AppendOwn
namespace Go.Proofs.YtfnfegcjgnbgbaaGreatDoor
open Go.RowKit

/-- The PNot at the end; the zero pattern, if there is none. -/
def tlP (x : Pt) : Pt := if x.k = 2 ∧ 0 < x.n ∧ (x.c (x.n - 1)).k = 6 then x.c (x.n - 1) else .nil
theorem tail_one (x : Pt) (w : World) (hX : IsP w x) (hsm : x.size ≤ 1048576) : Calls Tryz.prog 28 #[x.val] w fun e w' => ∃ (y : Pt) (b : Bool), e = .returned (.tuple #[y.val, .bool b]) ∧ IsP w' y ∧ Sm y (tlP x) ∧ Below w.heap.size w w' := by
  by_cases h : x.k = 2 ∧ 0 < x.n ∧ (x.c (x.n - 1)).k = 6
  · have ht : HasTail x (x.n - 1) := ⟨h.1, by omega, h.2.2⟩
    refine (tail_yes x _ w hX hsm ht).mono ?_
    rintro e w' ⟨y, rfl, h1, h2, -, h3⟩
    exact ⟨y, true, rfl, h1.is, by rw [tlP, if_pos h]; exact h2, h3⟩
  · have ht : ∀ q, ¬ HasTail x q := fun q hq => h ⟨hq.1, by have := hq.2.1; omega, by rw [show x.n - 1 = q by have := hq.2.1; omega]; exact hq.2.2⟩
    refine (tail_no x w hX ht).mono ?_
    rintro e w' ⟨rfl, h3⟩
    exact ⟨.nil, false, rfl, trivial, by rw [tlP, if_neg h]; exact Sm.refl _, h3⟩
/-- What a node has of itself. -/
def ownZ (x t : Pt) : Int := if x.k = 2 then 1 else if x.k = 3 then 2 else if x.k = 4 then 3 else if x.k = 5 then (if x.lo = x.hi then 5 else 4) else if x.k = 6 then (if sameP x t = true then 7 else 6) else 0
theorem ownZ_sm {x t t' : Pt} (h : Sm t t') : ownZ x t = ownZ x t' := by unfold ownZ; rw [sameP_congr (Sm.refl x) h]
theorem boxP_two2 (x y : Pt) (w : World) : ∃ A, (w.alloc (.cells x.cells 24)).alloc (.cells y.cells 24) = A ∧ Below w.heap.size w A ∧ A.heap.size = w.heap.size + 2 ∧ NodeP A w.heap.size 0 x ∧ NodeP A (w.heap.size + 1) 0 y := by
  refine ⟨_, rfl, ((Below.refl _ w).alloc (Nat.le_refl _) _).alloc (by simp) _, by simp, (nodeP_new w 24 x).later ((Below.refl _ _).alloc (Nat.le_refl _) _), ?_⟩
  have := nodeP_new (w.alloc (.cells x.cells 24)) 24 y
  rwa [World.size_alloc] at this
set_option maxRecDepth 100000 in
set_option maxHeartbeats 4000000 in
theorem own_any (x t : Pt) (w : World) (hX : IsP w x) (hT : IsP w t) : Calls Tryz.prog 30 #[x.val, t.val] w fun e w' => e = .returned (.int .i64 (ownZ x t)) ∧ Below w.heap.size w w' := by
  obtain ⟨A, hA, hB, hs, hx, ht⟩ := boxP_two2 x t w
  obtain ⟨a0, a1, a2, a3, a4, a5⟩ := hx.at0
  obtain ⟨b0, b1, b2, b3, b4, b5⟩ := ht.at0
  have hc := samePat_any x t A (hX.later hB) (hT.later hB)
  have HB : Hid (Below w.heap.size w A) := hB
  have HS : Hid (A.heap.size = w.heap.size + 2) := hs
  clear hX hT hB hs hx ht
  unfold ownZ
  by_cases k2 : x.k = 2
  · have t2 : (x.k == 2) = true := by simp [k2]
    rw [if_pos k2]
    clear k2 hc
    go_enter Tryz.func30, Tryz.ntmps30
    go_wp2
    go_ret
    exact ⟨rfl, HB.out⟩
  have t2 : (x.k == 2) = false := by simp [k2]
  rw [if_neg k2]
  by_cases k3 : x.k = 3
  · have t3 : (x.k == 3) = true := by simp [k3]
    rw [if_pos k3]
    clear k2 k3 hc
    go_enter Tryz.func30, Tryz.ntmps30
    go_wp2
    go_ret
    exact ⟨rfl, HB.out⟩
  have t3 : (x.k == 3) = false := by simp [k3]
  rw [if_neg k3]
  by_cases k4 : x.k = 4
  · have t4 : (x.k == 4) = true := by simp [k4]
    rw [if_pos k4]
    clear k2 k3 k4 hc
    go_enter Tryz.func30, Tryz.ntmps30
    go_wp2
    go_ret
    exact ⟨rfl, HB.out⟩
  have t4 : (x.k == 4) = false := by simp [k4]
  rw [if_neg k4]
  by_cases k5 : x.k = 5
  · have t5 : (x.k == 5) = true := by simp [k5]
    rw [if_pos k5]
    clear k2 k3 k4 k5 hc
    by_cases hl : x.lo = x.hi
    · rw [if_pos hl]
      have tl : (x.lo == x.hi) = true := by simp [hl]
      clear hl
      go_enter Tryz.func30, Tryz.ntmps30
      go_wp2
      go_ret
      exact ⟨rfl, HB.out⟩
    · rw [if_neg hl]
      have tl : (x.lo == x.hi) = false := by simp [hl]
      clear hl
      go_enter Tryz.func30, Tryz.ntmps30
      go_wp2
      go_ret
      exact ⟨rfl, HB.out⟩
  have t5 : (x.k == 5) = false := by simp [k5]
  rw [if_neg k5]
  by_cases k6 : x.k = 6
  · have t6 : (x.k == 6) = true := by simp [k6]
    rw [if_pos k6]
    clear k2 k3 k4 k5 k6
    obtain ⟨b, hb⟩ : ∃ b, sameP x t = b := ⟨_, rfl⟩
    rw [hb] at hc ⊢
    clear hb
    cases b with
    | true =>
      rw [if_pos rfl]
      go_enter Tryz.func30, Tryz.ntmps30
      go_wp2_with (go_at_call 58; refine hc.mono ?_; clear hc; rintro e w1 ⟨rfl, hB1⟩)
      go_ret
      exact ⟨rfl, HB.out.trans (hB1.mono (by rw [HS.out]; omega))⟩
    | false =>
      rw [if_neg (by simp)]
      go_enter Tryz.func30, Tryz.ntmps30
      go_wp2_with (go_at_call 58; refine hc.mono ?_; clear hc; rintro e w1 ⟨rfl, hB1⟩)
      go_ret
      exact ⟨rfl, HB.out.trans (hB1.mono (by rw [HS.out]; omega))⟩
  have t6 : (x.k == 6) = false := by simp [k6]
  rw [if_neg k6]
  clear k2 k3 k4 k5 k6 hc
  go_enter Tryz.func30, Tryz.ntmps30
  go_wp2
  go_ret
  exact ⟨rfl, HB.out⟩
/-- What a node notes. -/
def ntsOf (t : Pt) (v : VN) : List Nt := (if thingB (ownZ v.2.2 t) = true then [(v.1, ownZ v.2.2 t)] else []) ++ (if (v.2.1 == 3 && v.2.2.k != 1) = true then [(v.1, 14)] else [])
theorem ntsOf_len (t : Pt) (v : VN) : (ntsOf t v).length ≤ 2 := by
  unfold ntsOf
  rw [List.length_append]
  split <;> split <;> simp
theorem ntsAll_len (t : Pt) : ∀ l : List VN, (l.flatMap (ntsOf t)).length ≤ 2 * l.length
  | [] => by simp
  | v :: l => by
    have h1 := ntsOf_len t v
    have h2 := ntsAll_len t l
    simp only [List.flatMap_cons, List.length_append, List.length_cons]
    omega
theorem visW_way : ∀ (x : Pt) (way : List Int) (ink : Int), ∀ v ∈ visW way ink x, v.1.length + v.2.2.deep ≤ way.length + x.deep := by
  refine Pt.ind fun x ih way ink v hv => ?_
  rw [visW_eq] at hv
  rcases List.mem_cons.1 hv with rfl | hv
  · exact Nat.le_refl _
  · obtain ⟨i, hi, hv⟩ := mem_catN.1 hv
    have h1 := ih i hi _ _ v hv
    have h2 := x.deep_part i hi
    simp at h1
    omega
end Go.Proofs.YtfnfegcjgnbgbaaGreatDoor
namespace Go.Proofs.YtfnfegcjgnbgbaaGreatDoor
open Go.RowKit

theorem wpIn_rangeA {α : Type} {n : Nat} {P : Program} {g : Operand} {ps : Array Tmp} {assign body : Code} {Q : Exit → Act → World → Prop} {a : Act} {w : World}
    {gf : Nat} {lb : Array Value} (hg : a.eval g = .func (.func gf) #[] lb) (eg : ∀ args w, (callFunc gf args).run P w = .ok (.enter gf args) w)
    {encs : α → Array Value} (hps : ∀ x, (encs x).size = ps.size)
    (Pre : α → World → Prop) (Go : α → World → World → Prop) (Out : Code → α → World → World → Prop) (Fin : World → Prop) (Left : Code → World → Prop)
    (asg : α → World → World) (hasg : ∀ (x : α) (W : World), W.grownBy (asg x W) none)
    (hGo : ∀ x W A A' W', Ag w.heap.size (asg x W) A → Ag w.heap.size A' W' → Go x A A' → Go x W W')
    (hOut : ∀ c x W A A' W', Ag w.heap.size (asg x W) A → Ag w.heap.size A' W' → Out c x A A' → Out c x W W')
    (hFin : ∀ W A, Ag w.heap.size W A → Fin W → Fin A) (hLeft : ∀ c W A, Ag w.heap.size W A → Left c W → Left c A)
    (a₁ : α → World → Act)
    (hassign : ∀ (l : Nat) (x : α) (W : World) (K : Act → World → Prop), K (a₁ x W) (asg x W) →
      assign.wpIn (Fence.wide.inRound l) (n - 1 - 1) P (Exit.then K (fun _ _ _ => False)) { tmps := (ps.zip (encs x)).foldl (fun t (p, v) => t.setIfInBounds p v) a.tmps, defers := [] } W)
    (hbody : ∀ (l : Nat) (x : α) (W A : World), Pre x W → Ag w.heap.size (asg x W) A → w.heap.size + 2 ≤ W.heap.size → body.wpIn (Fence.wide.inRound l) (n - 1 - 1) P (backPost w.heap.size Go Out x A) (a₁ x W) A)
    (hseq : ∀ (l : Nat) (Rec : World → Prop) (RecX : Code → World → Prop) (W1 : World), Below w.heap.size w W1 → W1.heap.size = w.heap.size + 2 → Rec W1 →
      (∀ W W', KeepsTo w.heap.size (w.heap.size + 2) W W' → Rec W → Rec W') → (∀ c W W', KeepsTo w.heap.size (w.heap.size + 2) W W' → RecX c W → RecX c W') →
      (∀ (m : Nat) (x : α) (W : World), Pre x W → Rec W → YieldAt Fence.wide m P l (encs x) W fun e W' => (e = .returned (.bool true) ∧ Go x W W' ∧ Rec W' ∧ KeepsFrom w.heap.size W W') ∨ (e = .returned (.bool false) ∧ ∃ c, Out c x W W' ∧ RecX c W' ∧ KeepsFrom (w.heap.size + 2) W W')) →
      CallsIn Fence.wide (n - 1) P gf (#[.func (.yield l) #[] #[]] ++ lb) W1 fun e W' => (∃ v, e = .returned v) ∧ ((Fin W' ∧ Rec W') ∨ ∃ c, Left c W' ∧ RecX c W'))
    (hdone : ∀ (D : Nat) (W : World), w.heap.size ≤ D → Fin W → W.heap[D]? = some (.deferred (some [])) → Q .normal { a with defers := { target := .collected D, args := #[] } :: a.defers } W)
    (hstop : ∀ (D : Nat) (c : Code) (W : World), w.heap.size ≤ D → Left c W → W.heap[D]? = some (.deferred (some [])) → c.wpIn Fence.wide n P Q { a with defers := { target := .collected D, args := #[] } :: a.defers } W) :
    (Code.rangeFunc g ps assign body).wpIn Fence.wide n P Q a w := by
  refine wpIn_rangeFunc fun fn hfn => ?_
  obtain ⟨rec, hrec⟩ : ∃ rec : LoopState → Option Code → Loop, rec = fun st pe => { state := st, pending := pe, fn, tmps := a.tmps, params := ps, assign, body, defers := w.heap.size } := ⟨_, rfl⟩
  obtain ⟨W1, hW1⟩ : ∃ W1, (w.alloc (.deferred (some []))).alloc (.loop (rec .ready none)) = W1 := ⟨_, rfl⟩
  have hL1 : W1.heap[w.heap.size + 1]? = some (.loop (rec .ready none)) := by
    rw [← hW1]; have := World.alloc_heap_new (w.alloc (.deferred (some []))) (.loop (rec .ready none)); rwa [World.size_alloc] at this
  have hK1 : W1.heap[w.heap.size]? = some (.deferred (some [])) := by
    rw [← hW1]; exact (Below.heap_alloc _ _ _ (by simp)).trans (World.alloc_heap_new w _)
  have hb1 : Below w.heap.size w W1 := by
    rw [← hW1]; exact ((Below.refl _ w).alloc (Nat.le_refl _) _).alloc (by simp) _
  have hs1 : W1.heap.size = w.heap.size + 2 := by rw [← hW1]; simp
  refine ⟨w.heap.size + 1, [{ target := .collected w.heap.size, args := #[] }], W1, { target := .fn (.func gf) lb, args := #[.func (.yield (w.heap.size + 1)) #[] #[]] }, W1, gf,
    #[.func (.yield (w.heap.size + 1)) #[] #[]] ++ lb, W1, ?_, ?_, ?_, ?_, (fun h => (by cases h)), ?_⟩
  · rw [← hW1, hrec]; exact run_enterLoop_outer _ _ _ _ _
  · simp only [resolve, hg]
    simp [go_sem]
  · intro f' _; trivial
  · simp [invoke, go_sem, eg]
  · refine (hseq (w.heap.size + 1) (fun W => W.heap[w.heap.size + 1]? = some (.loop (rec .ready none)) ∧ W.heap[w.heap.size]? = some (.deferred (some [])))
      (fun c W => W.heap[w.heap.size + 1]? = some (.loop (rec .done (some c))) ∧ W.heap[w.heap.size]? = some (.deferred (some []))) W1 hb1 hs1 ⟨hL1, hK1⟩
      (fun W W' hk h => ⟨hk _ _ (by omega) (by omega) h.1 rfl, hk _ _ (Nat.le_refl _) (by omega) h.2 rfl⟩) (fun c W W' hk h => ⟨hk _ _ (by omega) (by omega) h.1 rfl, hk _ _ (Nat.le_refl _) (by omega) h.2 rfl⟩) ?_).mono ?_
    · rintro m x W hp ⟨hl, hd⟩
      have hlt : w.heap.size + 1 < W.heap.size := (Array.getElem?_eq_some_iff.1 hl).1
      have hy := run_yield (P := P) (args := encs x) hl (by rw [hrec]; exact hps x)
      rw [hrec] at hy
      refine ⟨fn, _, assign, body, hy, ⟨hfn, fun c cs _ => (roundIn_of_wpIn (n := n - 1 - 1) hfn (hassign _ x W _ ?_)).2 c cs (fun d h => by cases h)⟩⟩
      clear hy
      obtain ⟨V, hV⟩ : ∃ V, asg x W = V := ⟨_, rfl⟩
      have gV : W.grownBy V none := by rw [← hV]; exact hasg x W
      have hlV := (gV.block _ hlt (by simp)).trans hl
      have hdV := (gV.block w.heap.size (by omega) (by simp)).trans hd
      have hltV : w.heap.size + 1 < V.heap.size := Nat.lt_of_lt_of_le hlt gV.size
      rw [hV]
      refine ⟨_, run_beginRound hlV (by rw [hrec]), ?_⟩
      obtain ⟨A, hA⟩ : ∃ A, V.putObj (w.heap.size + 1) (.loop { rec .ready none with state := .busy }) = A := ⟨_, rfl⟩
      have hl2 : A.heap[w.heap.size + 1]? = some (.loop { rec .ready none with state := .busy }) := by rw [← hA]; exact World.putObj_heap_same hltV
      have hd2 : A.heap[w.heap.size]? = some (.deferred (some [])) := by rw [← hA]; exact (World.putObj_heap_other (by omega)).trans hdV
      have hag : Ag w.heap.size V A := by rw [← hA]; exact Ag.putObj (by omega) hlV rfl rfl
      have hsz : A.heap.size = V.heap.size := hag.size
      have hsame : ∀ k, k ≠ w.heap.size + 1 → A.heap[k]? = V.heap[k]? := fun k hk => by rw [← hA]; exact World.putObj_heap_other hk
      rw [hA]
      have hag' : Ag w.heap.size (asg x W) A := by rw [hV]; exact hag
      have up : ∀ (k : Nat) (o : Obj), W.heap[k]? = some o → V.heap[k]? = some o := fun k o h => (gV.block k (Array.getElem?_eq_some_iff.1 h).1 (by simp)).trans h
      have hszV := gV.size
      refine wpIn_mono (hbody _ x W A hp hag' (by omega)) ?_
      have fin : ∀ (jump : Option Code) (W3 : World), KeepsFrom w.heap.size A W3 → ∃ W4, (Instr.endRound (w.heap.size + 1) jump).run P W3 = .ok (.bool jump.isNone) W4 ∧ Ag w.heap.size W3 W4 ∧
          W4.heap[w.heap.size + 1]? = some (.loop (rec (if jump.isNone then .ready else .done) jump)) ∧ W4.heap[w.heap.size]? = some (.deferred (some [])) ∧ (∀ k, k ≠ w.heap.size + 1 → W4.heap[k]? = W3.heap[k]?) := fun jump W3 hk3 => by
        have hl3 := hk3.same _ _ (by omega) hl2 rfl
        have := run_endRound (P := P) jump hl3
        refine ⟨_, this, Ag.putObj (by omega) hl3 rfl rfl, ?_, (World.putObj_heap_other (by omega)).trans (hk3.same _ _ (Nat.le_refl _) hd2 rfl), fun k hk => World.putObj_heap_other hk⟩
        rw [World.putObj_heap_same (Array.getElem?_eq_some_iff.1 hl3).1, hrec]
      have keep : ∀ W4 W3, KeepsFrom w.heap.size A W3 → Ag w.heap.size W3 W4 → (∀ k, k ≠ w.heap.size + 1 → W4.heap[k]? = W3.heap[k]?) → KeepsFrom (w.heap.size + 2) W W4 := fun W4 W3 hk3 hag4 hs4 =>
        ⟨by have := hk3.size; rw [hag4.size]; omega, fun k o hk ho hc => by rw [hs4 k (by omega)]; exact hk3.same k o (by omega) ((hsame k (by omega)).trans (up k o ho)) hc⟩
      rintro e a3 W3 hp3
      cases e with
      | normal =>
        obtain ⟨hk3, hg3⟩ := hp3
        obtain ⟨W4, hr, hag4, hl4, hd4, hs4⟩ := fin none W3 hk3
        refine ⟨_, _, hr, .inl ⟨rfl, hGo x W A W3 W4 hag' hag4 hg3, ⟨hl4, hd4⟩, ?_, fun k o hk ho hc => ?_⟩⟩
        · have := hk3.size
          rw [hag4.size]
          omega
        · by_cases e : k = w.heap.size + 1
          · subst e
            rw [hl] at ho
            cases ho
            exact hl4
          · rw [hs4 k e]
            exact hk3.same k o hk ((hsame k e).trans (up k o ho)) hc
      | ret =>
        obtain ⟨hk3, hg3⟩ := hp3
        obtain ⟨W4, hr, hag4, hl4, hd4, hs4⟩ := fin (some .ret) W3 hk3
        exact ⟨_, _, hr, .inr ⟨rfl, .ret, hOut _ x W A W3 W4 hag' hag4 hg3, ⟨hl4, hd4⟩, keep W4 W3 hk3 hag4 hs4⟩⟩
      | exit id =>
        obtain ⟨hk3, hg3⟩ := hp3
        obtain ⟨W4, hr, hag4, hl4, hd4, hs4⟩ := fin (some (.exit id)) W3 hk3
        exact ⟨_, _, hr, .inr ⟨rfl, .exit id, hOut _ x W A W3 W4 hag' hag4 hg3, ⟨hl4, hd4⟩, keep W4 W3 hk3 hag4 hs4⟩⟩
      | goto t =>
        obtain ⟨hk3, hg3⟩ := hp3
        obtain ⟨W4, hr, hag4, hl4, hd4, hs4⟩ := fin (some (.goto t)) W3 hk3
        exact ⟨_, _, hr, .inr ⟨rfl, .goto t, hOut _ x W A W3 W4 hag' hag4 hg3, ⟨hl4, hd4⟩, keep W4 W3 hk3 hag4 hs4⟩⟩
      | panic ch => exact hp3.elim
      | outgrown => exact hp3.elim
    · rintro e W2 ⟨⟨v, rfl⟩, (⟨hf, hl, hd⟩ | ⟨c, hf, hl, hd⟩)⟩
      · have := run_endLoop (P := P) hl (by rw [hrec]; simp)
        exact ⟨none, _, by rw [this, hrec], hdone _ _ (Nat.le_refl _) (hFin _ _ (Ag.putObj (by omega) hl rfl rfl) hf) ((World.putObj_heap_other (by omega)).trans hd)⟩
      · have := run_endLoop (P := P) hl (by rw [hrec]; simp)
        exact ⟨some c, _, by rw [this, hrec], hstop _ c _ (Nat.le_refl _) (hLeft c _ _ (Ag.putObj (by omega) hl rfl rfl) hf) ((World.putObj_heap_other (by omega)).trans hd)⟩
end Go.Proofs.YtfnfegcjgnbgbaaGreatDoor
namespace Go.Proofs.YtfnfegcjgnbgbaaGreatDoor
open Go.RowKit Go.Shelf
attribute [local go_sem] Oper.semAt_some

set_option maxRecDepth 100000 in
set_option maxHeartbeats 1000000 in
theorem nodesW_in (n : Nat) (x : Pt) (w : World) :
    CallsIn Fence.wide n Tryz.prog 29 #[x.val] w fun e w' => e = .returned (.func (.func 56) #[] #[.pointer (some ⟨w.heap.size, 0, none⟩)]) ∧ w' = w.alloc (.cells x.cells 24) := by
  refine callsIn_of_wp Tryz.func29 rfl trivial ?_ rfl
  simp only [Tryz.ntmps29, List.size_toArray, List.length_cons, List.length_nil, Nat.reduceAdd, Nat.reduceSub, Array.replicate_succ, Array.replicate_zero, List.push_toArray, List.append_toArray, List.nil_append, List.cons_append]
  gi_wp2
  go_ret
  exact ⟨rfl, rfl⟩
set_option maxRecDepth 100000 in
set_option maxHeartbeats 2000000 in
/-- The function that able.nodes hands back: it lays yield and the closure in boxes of their own, and goes down. -/
theorem nodesW1_in (n l Bp : Nat) (x : Pt) (W : World) (R : Ending → World → Prop) (hBp : NodeP W Bp 0 x)
    (hdown : ∀ W2, Boxed W2 W.heap.size 87 (.func (.yield l) #[] #[]) → Boxed W2 (W.heap.size + 1) 87 (downWV W.heap.size (W.heap.size + 1)) → Below W.heap.size W W2 → W2.heap.size = W.heap.size + 2 →
      CallsIn Fence.wide (n - 1) Tryz.prog 57 #[ndVal x (.slice none 0 0) 0, .pointer (some ⟨W.heap.size, 0, none⟩), .pointer (some ⟨W.heap.size + 1, 0, none⟩)] W2 fun e W' => ∃ r, e = .returned (.bool r) ∧ R (.returned (.bool r)) W') :
    CallsIn Fence.wide n Tryz.prog 56 #[.func (.yield l) #[] #[], .pointer (some ⟨Bp, 0, none⟩)] W fun e W' => (∃ v, e = .returned v) ∧ ∃ r, R (.returned (.bool r)) W' := by
  have hdd : ∀ k : Nat, (Fence.wide.depth.isSome = true → 1 ≤ k) := fun k h => by cases h
  have h1 : Boxed (W.alloc (.cells #[.func (.yield l) #[] #[]] 87)) W.heap.size 87 (.func (.yield l) #[] #[]) := Boxed.new _ _ _
  have hlt : Bp < W.heap.size := hBp.lt
  obtain ⟨A, hA⟩ : ∃ A, (W.alloc (.cells #[.func (.yield l) #[] #[]] 87)).alloc (.cells #[.nilFunc] 87) = A := ⟨_, rfl⟩
  have b1 : Boxed A W.heap.size 87 (.func (.yield l) #[] #[]) := hA ▸ h1.alloc _
  have b2 : Boxed A (W.heap.size + 1) 87 .nilFunc := by
    have := Boxed.new (W.alloc (.cells #[.func (.yield l) #[] #[]] 87)) 87 .nilFunc
    rw [World.size_alloc, hA] at this
    exact this
  have hB : Below W.heap.size W A := by rw [← hA]; exact ((Below.refl _ W).alloc (Nat.le_refl _) _).alloc (by simp) _
  have hsz : A.heap.size = W.heap.size + 2 := by rw [← hA]; simp
  have b3 := b2.set (downWV W.heap.size (W.heap.size + 1))
  have b4 := b1.other (show W.heap.size ≠ W.heap.size + 1 by omega) (downWV W.heap.size (W.heap.size + 1))
  have hB3 : Below W.heap.size W (A.setCell ⟨W.heap.size + 1, 0, none⟩ (downWV W.heap.size (W.heap.size + 1))) := hB.setCell (p := ⟨W.heap.size + 1, 0, none⟩) (by simp) _
  have c2 := b2.cell
  have f2 := b2.frozen
  have c3 := b3.cell
  obtain ⟨p0, p1, p2, p3, p4, p5⟩ := hBp.below hB3 hlt
  simp only [Nat.zero_add] at p1 p2 p3 p4 p5
  have hd := hdown _ b4 b3 hB3 (by rw [World.size_setCell]; exact hsz)
  clear hdown
  refine callsIn_of_wp Tryz.func56 rfl trivial ?_ rfl
  simp only [Tryz.ntmps56, List.size_toArray, List.length_cons, List.length_nil, Nat.reduceAdd, Nat.reduceSub, Array.replicate_succ, Array.replicate_zero, List.push_toArray, List.append_toArray, List.nil_append, List.cons_append]
  gi_wp2_with (refine ⟨trivial, hdd _, ?_⟩; gi_at_call 57; refine hd.mono ?_; rintro e W3 ⟨r, rfl, hr⟩)
  go_end0
  exact ⟨⟨_, rfl⟩, _, hr⟩
/-- What a round is handed: a node, its way's row and what it holds, the kind above; what came ahead, and the blocks of the ways that are kept. -/
structure VisN where
  y : Pt
  a : Option Addr
  cap : Nat
  way : List Int
  ink : Int
  pre : List VN
  K : Nat → Prop
abbrev VisN.v (u : VisN) : Value := .slice u.a u.way.length u.cap
/-- How a round's body is left. -/
def ndPost (B : Nat) (T : Nat → Prop) (J : List VN → (Nat → Prop) → World → Prop) (pre : List VN) (K : Nat → Prop) (A : World) : Exit → Act → World → Prop
  | .normal, _, W' => KeepsFrom B A W' ∧ Ks T A W' ∧ ∃ K' : Nat → Prop, (∀ k, K' k → K k ∨ A.heap.size ≤ k) ∧ J pre K' W'
  | _, _, _ => False
theorem Ag.wy {B base : Nat} {W A : World} (h : Ag B W A) {v : Value} {l : List Int} (hw : Wy W base v l) : Wy A base v l := hw.same fun _ _ _ hc => (h.cells _ _ rfl).2 hc
theorem nodesW_fold {n : Nat} {g : Operand} {ps : Array Tmp} {assign body : Code} {Q : Exit → Act → World → Prop} {a : Act} {w : World} (Bp : Nat) (x : Pt) (T : Nat → Prop) (J : List VN → (Nat → Prop) → World → Prop)
    (hg : a.eval g = .func (.func 56) #[] #[.pointer (some ⟨Bp, 0, none⟩)]) (hps : ps.size = 1) (hBp : NodeP w Bp 0 x)
    (hT : ∀ k, T k → k < w.heap.size) (hX : PT T w x) (hdeep : x.deep ≤ 1048576)
    (hJ : ∀ pre K W A, Ag w.heap.size W A → J pre K W → J pre K A)
    (hJg : ∀ pre K W W' r, W.grownBy W' r → (∀ k, r = some k → IntB W k ∧ ¬ K k ∧ w.heap.size ≤ k) → J pre K W → J pre K W')
    (hJk : ∀ pre K W, J pre K W → ∀ k, K k → k < W.heap.size) (h0 : ∀ W, Below w.heap.size w W → J [] (fun _ => False) W)
    (a₁ : Pt → Value → Int → Nat → Act)
    (hassign : ∀ (l : Nat) (y : Pt) (va : Option Addr) (m cap : Nat) (ink : Int) (W : World) (K : Act → World → Prop), K (a₁ y (.slice va m cap) ink W.heap.size) (W.alloc (.cells (ndCells y (.slice va m cap) ink) 64)) →
      assign.wpIn (Fence.wide.inRound l) (n - 1 - 1) Tryz.prog (Exit.then K (fun _ _ _ => False)) { tmps := (ps.zip #[ndVal y (.slice va m cap) ink]).foldl (fun t (p, v) => t.setIfInBounds p v) a.tmps, defers := [] } W)
    (hbody : ∀ (l : Nat) (y : Pt) (v : Value) (way : List Int) (ink : Int) (pre : List VN) (K : Nat → Prop) (B : Nat) (A : World), Wy A w.heap.size v way → PT T A y → J pre K A → A.heap[B]? = some (.cells (ndCells y v ink) 64 (0, 0)) → w.heap.size + 4 ≤ A.heap.size → (∃ post, pre ++ (way, ink, y) :: post = visW [] 0 x) →
      body.wpIn (Fence.wide.inRound l) (n - 1 - 1) Tryz.prog (ndPost w.heap.size T J (pre ++ [(way, ink, y)]) K A) (a₁ y v ink B) A)
    (hdone : ∀ (D : Nat) (W : World), w.heap.size ≤ D → (∃ K, J (visW [] 0 x) K W) → W.heap[D]? = some (.deferred (some [])) → Q .normal { a with defers := { target := .collected D, args := #[] } :: a.defers } W) :
    (Code.rangeFunc g ps assign body).wpIn Fence.wide n Tryz.prog Q a w := by
  obtain ⟨all, hall⟩ : ∃ all, all = visW [] 0 x := ⟨_, rfl⟩
  have hbx : Bp < w.heap.size := hBp.lt
  refine wpIn_rangeA (α := VisN) hg (enters_of Tryz.func56 (by kernel_rfl) rfl) (encs := fun u => #[ndVal u.y u.v u.ink]) (fun _ => hps.symm)
    (fun u W => Wy W w.heap.size u.v u.way ∧ PT T W u.y ∧ J u.pre u.K W ∧ w.heap.size + 4 ≤ W.heap.size ∧ ∃ post, u.pre ++ (u.way, u.ink, u.y) :: post = all)
    (fun u W W' => Ks T W W' ∧ ∃ K' : Nat → Prop, (∀ k, K' k → u.K k ∨ W.heap.size ≤ k) ∧ J (u.pre ++ [(u.way, u.ink, u.y)]) K' W')
    (fun _ _ _ _ => False) (fun W => ∃ K, J all K W) (fun _ _ => False) (fun u W => W.alloc (.cells (ndCells u.y u.v u.ink) 64)) (fun u W => World.grownBy_alloc _ _ _) ?_ (fun _ _ _ _ _ _ _ _ h => h) ?_ (fun _ _ _ _ h => h)
    (fun u W => a₁ u.y u.v u.ink W.heap.size) (fun l u W K hK => hassign l u.y u.a u.way.length u.cap u.ink W K hK) ?_ ?_ (fun D W hD h hK => hdone D W hD (by rw [← hall]; exact h) hK) (fun _ _ _ _ h _ => h.elim)
  · rintro u W A A' W' hag hag' ⟨h1, K', h2, h3⟩
    have hs : W.heap.size ≤ A.heap.size := by rw [hag.size]; simp
    refine ⟨⟨by rw [hag'.size]; exact Nat.le_trans hs h1.size, fun k c t f ht hc => ?_⟩, K', fun k hk => ?_, hJ _ _ _ _ hag' h3⟩
    · exact (hag'.cells _ _ rfl).2 (h1.block k c t f ht ((hag.cells _ _ rfl).2 ((alloc_old (heap_lt hc)).trans hc)))
    · rcases h2 k hk with h | h
      · exact .inl h
      · exact .inr (Nat.le_trans hs h)
  · rintro W A hag ⟨K, h⟩
    exact ⟨K, hJ _ _ _ _ hag h⟩
  · rintro l u W A ⟨h1, h2, h3, h4, h5⟩ hag hs
    have gA : W.grownBy (W.alloc (.cells (ndCells u.y u.v u.ink) 64)) none := World.grownBy_alloc _ _ _
    have hsz : A.heap.size = W.heap.size + 1 := by rw [hag.size]; simp
    refine wpIn_mono (hbody l u.y u.v u.way u.ink u.pre u.K W.heap.size A (Ag.wy hag (Kw.grown (T := T) h1 gA).own) (PT.of (fun p v hp => (hag.cell p).trans (gA.cell hp (by simp))) h2) (hJ _ _ _ _ hag (hJg _ _ _ _ _ gA (fun k e => by cases e) h3)) ((hag.cells _ _ rfl).2 (alloc_new _ _)) (by omega) (by rw [← hall]; exact h5)) ?_
    rintro e a3 W3 hp
    cases e with
    | normal => exact ⟨hp.1, hp.2.1, hp.2.2⟩
    | ret => exact hp.elim
    | exit id => exact hp.elim
    | goto t => exact hp.elim
    | panic ch => exact hp.elim
    | outgrown => exact hp.elim
  · intro l Rec RecX W1 hB1 hs1 hrec1 hrec hrecx hY
    refine (nodesW1_in (n - 1) l Bp x W1 (fun e W' => e = .returned (.bool true) ∧ (∃ K, J all K W') ∧ Rec W') (hBp.below hB1 hbx) ?_).mono ?_
    · intro W2 by2 bd2 hB2 hs2
      have hB : Below w.heap.size w W2 := hB1.trans (hB2.mono (by omega))
      have key := downW_any l W1.heap.size (W1.heap.size + 1) w.heap.size T (fun pre K W => J pre K W ∧ Rec W ∧ w.heap.size + 4 ≤ W.heap.size) all hT ?_ (fun pre K W h => hJk _ _ _ h.1) ?_ (x.size + 1) x (by omega) (n - 1 - 1) (.slice none 0 0) [] 0 [] (fun _ => False) W2 by2 bd2 (World.ownsRow_nil _ _ _ _) (fun k h => by cases h) (PT.kept (Kp.of_below hB hT) hX) ?_ (by omega) (by simp; omega) ⟨[], by simp [hall]⟩
      · refine key.mono ?_
        rintro e W' ⟨rfl, -, K', -, h1, h2, -⟩
        exact ⟨true, rfl, rfl, ⟨K', by rw [hall]; simpa using h1⟩, h2⟩
      · rintro pre K W W' r hg' hr ⟨h1, h2, h3⟩
        refine ⟨hJg _ _ _ _ _ hg' hr h1, hrec W W' (fun k o _ _ ho hc => (hg'.block k (heap_lt ho) (fun e => ?_)).trans ho) h2, Nat.le_trans h3 hg'.size⟩
        obtain ⟨⟨cur, hcur⟩, -, -⟩ := hr k e.symm
        rw [ho] at hcur
        injection hcur with hcur
        subst hcur
        cases hc
      · rintro y v way ink pre K W h1 h2 ⟨h3, h4, h5⟩ h6 h7
        obtain ⟨a', cap', hv, -⟩ := h1.shape
        subst hv
        refine YieldAt.mono (hY 0 ⟨y, a', cap', way, ink, pre, K⟩ W ⟨h1, h2, h3, h5, h7⟩ h4) ?_
        rintro e W' (⟨rfl, ⟨k1, K', k2, k3⟩, k4, -⟩ | ⟨rfl, c, k1, -⟩)
        · exact ⟨rfl, k1, K', k2, k3, k4, Nat.le_trans h5 k1.size⟩
        · exact k1.elim
      · exact ⟨h0 W2 hB, hrec W1 W2 (fun k o _ _ ho _ => (hB2.block k (heap_lt ho)).trans ho) hrec1, by omega⟩
    · rintro e W' ⟨hv, r, -, h1, h2⟩
      exact ⟨hv, .inl ⟨h1, h2⟩⟩
end Go.Proofs.YtfnfegcjgnbgbaaGreatDoor
