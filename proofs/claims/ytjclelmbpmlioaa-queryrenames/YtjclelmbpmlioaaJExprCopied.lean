/-
  expr.copied.
  expr.firsts: each name's first place.
  expr.Rename: the second range, which writes into the copies; of no function.
-/
import Derived.Test.YtjclelmbpmlioaaJExprBase
import Derived.Test.YtjclelmbpmlioaaJNamesMath
import Derived.Maps.OwnSet
import Derived.Maps.OwnIn
import Derived.Maps.Views
namespace Go.Proofs.Ytjclelmbpmlioaa
open Go.RowKit Go.Shelf
attribute [local go_sem] Oper.semAt_some

theorem length_le_size (v : X) : v.n ≤ v.size := by
  have : ∀ m, m ≤ sumN (fun i => (v.c i).size) m := by
    intro m
    induction m with
    | zero => exact Nat.le_refl _
    | succ m ih => have := (v.c m).size_pos; simp only [sumN]; omega
  have := this v.n
  rw [v.size_eq]
  omega
/-- Rows no longer than memory can hold (96 bytes a node), all the way down. -/
def WdX : X → Prop
  | .nil => True
  | .mk _ _ _ _ _ n _ c => n ≤ 1466015503658 ∧ ∀ i, i < n → WdX (c i)
theorem wdX_eq (x : X) : WdX x ↔ x.n ≤ 1466015503658 ∧ ∀ i, i < x.n → WdX (x.c i) := by
  cases x with
  | nil => exact ⟨fun _ => ⟨Nat.zero_le _, fun i hi => absurd hi (Nat.not_lt_zero _)⟩, fun _ => trivial⟩
  | mk => rfl
theorem wdX_of : ∀ (x : X), x.size ≤ 1048576 → WdX x := by
  refine X.ind fun x ih h => ?_
  rw [wdX_eq]
  have := length_le_size x
  exact ⟨by omega, fun i hi => ih i hi (by have := x.size_part i hi; omega)⟩
/-- What a round of expr.copied does: the node's parts lie in a row of their own now. -/
def Cop (N0 : Nat) (v : X) (b o : Nat) (W W' : World) : Prop :=
  ∃ a cap, Node W' b o (v.at a cap v.c) ∧ v.n ≤ cap ∧ cap ≤ maxLen ∧ (0 < v.n → ∃ g, a = some ⟨g, 0, none⟩ ∧ W.heap.size ≤ g ∧ g < W'.heap.size ∧ Free W' g ∧ ∀ i, i < v.n → Node W' g (i * 7) (v.c i)) ∧ Below N0 W W' ∧ Kb b (o + 6) (fun _ => False) W W'
/-- Ahead of it. -/
def CopPre (N0 : Nat) (v : X) (b o : Nat) (W : World) : Prop := Node W b o v ∧ XIn N0 W v ∧ N0 ≤ b ∧ Free W b ∧ WdX v ∧ N0 ≤ W.heap.size
/-- The first i parts are copies. -/
def CopMid (N0 : Nat) (v : X) (b o : Nat) (W : World) (a : Option Addr) (cap i : Nat) (Wi : World) : Prop :=
  ∃ c : Nat → X, Node Wi b o (v.at a cap v.c) ∧ v.n ≤ cap ∧ cap ≤ maxLen ∧ i ≤ v.n ∧
    (0 < v.n → ∃ g, a = some ⟨g, 0, none⟩ ∧ W.heap.size ≤ g ∧ g < Wi.heap.size ∧ Free Wi g ∧ (∀ j, j < i → Node Wi g (j * 7) (c j) ∧ ¬ inX g (c j)) ∧ (∀ j, i ≤ j → j < v.n → Node Wi g (j * 7) (v.c j))) ∧
    (∀ j, j < i → XA Wi (c j) ∧ ordX (c j) (v.c j) = 0 ∧ (∀ k, inX k (c j) → W.heap.size ≤ k ∧ k < Wi.heap.size) ∧ ∀ j', j' < i → j' ≠ j → ∀ k, inX k (c j) → ¬ inX k (c j')) ∧
    Below N0 W Wi ∧ Kb b (o + 6) (fun _ => False) W Wi ∧ XIn N0 Wi v ∧ N0 ≤ b ∧ b < W.heap.size ∧ WdX v ∧ N0 ≤ W.heap.size
/-- Behind it. -/
def CopPost (N0 : Nat) (v : X) (b o : Nat) (W W' : World) : Prop :=
  ∃ y, Node W' b o y ∧ XA W' y ∧ ordX y v = 0 ∧ (∀ k, inX k y → W.heap.size ≤ k ∧ k < W'.heap.size) ∧ Below N0 W W' ∧ Kb b (o + 6) (fun _ => False) W W'
theorem CopPre.ag {N0 B : Nat} {v : X} {b o : Nat} {W A : World} (h : Ag B W A) (hN : N0 ≤ B) (hp : CopPre N0 v b o W) : CopPre N0 v b o A := by
  obtain ⟨h1, h2, h3, h4, h5, h6⟩ := hp
  exact ⟨h1.ag h, h2.below (h.below hN (Below.refl _ _)), h3, h4.ag h, h5, by rw [h.size]; exact h6⟩
theorem Cop.ag {N0 B : Nat} {v : X} {b o : Nat} {W A A' W' : World} (h : Ag B W A) (h' : Ag B A' W') (hN : N0 ≤ B) (hp : Cop N0 v b o A A') : Cop N0 v b o W W' := by
  obtain ⟨a, cap, h1, h2, h3, h4, h5, h6⟩ := hp
  refine ⟨a, cap, h1.ag h', h2, h3, fun h0 => ?_, h.below_from hN (h'.below hN h5), Kb.ag h h' h6⟩
  obtain ⟨g, e, q1, q2, q3, q4⟩ := h4 h0
  exact ⟨g, e, by rw [← h.size]; exact q1, by rw [h'.size]; exact q2, q3.ag h', fun i hi => (q4 i hi).ag h'⟩
theorem CopPost.ag {N0 B : Nat} {v : X} {b o : Nat} {W W' A : World} (h : Ag B W' A) (hN : N0 ≤ B) (hp : CopPost N0 v b o W W') : CopPost N0 v b o W A := by
  obtain ⟨y, h1, h2, h3, h4, h5, h6⟩ := hp
  exact ⟨y, h1.ag h, h2.ag h, h3, fun k hk => by rw [h.size]; exact h4 k hk, h.below hN h5, Kb.ag (Ag.refl B W) h h6⟩
theorem Cop.mid {N0 : Nat} {v : X} {b o : Nat} {W W' : World} (hp : CopPre N0 v b o W) (h : Cop N0 v b o W W') : ∃ a cap, CopMid N0 v b o W a cap 0 W' := by
  obtain ⟨p1, p2, p3, p4, p5, p6⟩ := hp
  obtain ⟨a, cap, h1, h2, h3, h4, h5, h6⟩ := h
  refine ⟨a, cap, v.c, h1, h2, h3, Nat.zero_le _, fun h0 => ?_, fun j hj => absurd hj (Nat.not_lt_zero _), h5, h6, p2.below h5, p3, p4.lt, p5, p6⟩
  obtain ⟨g, e, q1, q2, q3, q4⟩ := h4 h0
  exact ⟨g, e, q1, q2, q3, fun j hj => absurd hj (Nat.not_lt_zero _), fun j _ hj => q4 j hj⟩
theorem CopMid.next {N0 : Nat} {v : X} {b o : Nat} {W : World} {a : Option Addr} {cap i : Nat} {Wi : World} (h : CopMid N0 v b o W a cap i Wi) (hi : i < v.n) :
    ∃ b' o', a = some ⟨b', o', none⟩ ∧ CopPre N0 (v.c i) b' (o' + i * 7) Wi.drew ∧ (∀ W', CopPost N0 (v.c i) b' (o' + i * 7) Wi.drew W' → CopMid N0 v b o W a cap (i + 1) W') := by
  obtain ⟨c, h1, h2, h3, h4, h5, h6, h7, h8, h9, h10, h11, h12, h13⟩ := h
  obtain ⟨g, e, q1, q2, q3, q4, q5⟩ := h5 (by omega)
  obtain ⟨b2, o2, _, _, hn2, hx2⟩ := ((xIn_eq _ _ _).1 h9).2.2 i hi
  refine ⟨g, 0, e, ⟨by rw [Nat.zero_add]; exact q5 i (Nat.le_refl _) hi, hx2.below (Below.refl _ _).drew, by omega, q3, ((wdX_eq v).1 h12).2 i hi, by have := h7.size; show N0 ≤ Wi.heap.size; omega⟩, ?_⟩
  rintro W' ⟨y, p1, p2, p3, p4, p5, p6⟩
  rw [Nat.zero_add] at p1 p6
  have p4' : ∀ k, inX k y → Wi.heap.size ≤ k ∧ k < W'.heap.size := p4
  have p5' : Below N0 Wi W' := ⟨p5.os, p5.tape, p5.output, p5.size, p5.block⟩
  have p6' : Kb g (i * 7 + 6) (fun _ => False) Wi W' := ⟨p6.oth, p6.own, p6.free, p6.size⟩
  clear p4 p5 p6
  have hWW := h8.size
  have hbg : b ≠ g := by omega
  obtain ⟨c', hc'⟩ : ∃ c' : Nat → X, c' = fun j => if j = i then y else c j := ⟨_, rfl⟩
  have ci : c' i = y := by rw [hc']; simp
  have cj : ∀ j, j < i → c' j = c j := fun j hj => by rw [hc']; simp only; rw [if_neg (by omega)]
  refine ⟨c', p6'.node hbg (fun h => h) h1, h2, h3, hi, fun _ => ⟨g, e, q1, Nat.lt_of_lt_of_le q2 p6'.size, p6'.free g q3, fun j hj => ?_, fun j hj1 hj2 => ?_⟩, fun j hj => ?_, h7.trans p5', h8.part p6' (.inr q1) (fun _ h => h.elim) h11 hbg (fun h => h), h9.below p5', h10, h11, h12, h13⟩
  · by_cases ej : j = i
    · subst ej
      rw [ci]
      exact ⟨p1, fun hg => by have := p4' g hg; omega⟩
    · rw [cj j (by omega)]
      obtain ⟨r1, r2⟩ := q4 j (by omega)
      exact ⟨p6'.near (fun t ht => by omega) r1, r2⟩
  · exact p6'.near (fun t ht => by omega) (q5 j (by omega) hj2)
  · by_cases ej : j = i
    · subst ej
      rw [ci]
      refine ⟨p2, p3, fun k hk => by have := p4' k hk; omega, fun j' hj' hne k hk => ?_⟩
      rw [cj j' (by omega)]
      intro hk'
      have := (h6 j' (by omega)).2.2.1 k hk'
      have := p4' k hk
      omega
    · rw [cj j (by omega)]
      obtain ⟨r1, r2, r3, r4⟩ := h6 j (by omega)
      refine ⟨r1.kept p6'.oth fun k hk => ⟨fun ek => ?_, fun h => h⟩, r2, fun k hk => by have := r3 k hk; have := p6'.size; omega, fun j' hj' hne k hk => ?_⟩
      · subst ek
        exact (q4 j (by omega)).2 hk
      · by_cases ej' : j' = i
        · subst ej'
          rw [ci]
          intro hk'
          have := r3 k hk
          have := p4' k hk'
          omega
        · rw [cj j' (by omega)]
          exact r4 j' (by omega) hne k hk
theorem CopMid.done {N0 : Nat} {v : X} {b o : Nat} {W : World} {a : Option Addr} {cap : Nat} {Wi : World} (h : CopMid N0 v b o W a cap v.n Wi) : CopPost N0 v b o W Wi := by
  obtain ⟨c, h1, h2, h3, h4, h5, h6, h7, h8, h9, h10, h11, h12, h13⟩ := h
  refine ⟨v.at a cap c, h1, ?_, ?_, fun k hk => ?_, h7, h8⟩
  · refine ⟨h2, by unfold maxLen at h3; omega, fun i hi => ?_⟩
    obtain ⟨g, e, q1, q2, q3, q4, q5⟩ := h5 (by omega)
    obtain ⟨r1, r2, r3, r4⟩ := h6 i hi
    exact ⟨g, e, q3, (q4 i hi).1, r1, (q4 i hi).2, r4⟩
  · exact (ordX_zero _ _).2 ⟨rfl, rfl, rfl, rfl, rfl, fun i hi => (h6 i hi).2.1⟩
  · rcases hk with ⟨h0, o', e'⟩ | ⟨i, hi, hk⟩
    · obtain ⟨g, e, q1, q2, _⟩ := h5 h0
      rw [e] at e'
      cases e'
      exact ⟨q1, q2⟩
    · exact (h6 i hi).2.2.1 k hk
/-- The seven cells, one after the other. -/
abbrev set7 (W : World) (b : Nat) (y : X) : World :=
  ((((((W.setCell ⟨b, 0, none⟩ (.int .i64 y.k)).setCell ⟨b, 1, none⟩ (.int .i64 y.v.k)).setCell ⟨b, 2, none⟩ (.int .i64 y.v.n)).setCell ⟨b, 3, none⟩ (.string y.v.s)).setCell ⟨b, 4, none⟩ (.string y.s)).setCell ⟨b, 5, none⟩ (.string y.f)).setCell ⟨b, 6, none⟩ (.slice y.a y.n y.cap)
theorem heap_set7 {W : World} {b : Nat} {y z : X} {t : TypeId} (h : W.heap[b]? = some (.cells z.cells t (0, 0))) : (set7 W b y).heap[b]? = some (.cells y.cells t (0, 0)) := by
  rw [heap_set (heap_set (heap_set (heap_set (heap_set (heap_set (heap_set h))))))]
  simp
theorem heap_set7_other {W : World} {b : Nat} {y : X} {k : Nat} (h : k ≠ b) : (set7 W b y).heap[k]? = W.heap[k]? :=
  (Below.heap_setCell _ _ _ _ h).trans ((Below.heap_setCell _ _ _ _ h).trans ((Below.heap_setCell _ _ _ _ h).trans ((Below.heap_setCell _ _ _ _ h).trans ((Below.heap_setCell _ _ _ _ h).trans ((Below.heap_setCell _ _ _ _ h).trans (Below.heap_setCell _ _ _ _ h))))))
theorem below_set7 {n : Nat} {w W : World} {b : Nat} {y : X} (h : Below n w W) (hb : n ≤ b) : Below n w (set7 W b y) :=
  ((((((h.setCell (p := ⟨b, 0, none⟩) hb _).setCell (p := ⟨b, 1, none⟩) hb _).setCell (p := ⟨b, 2, none⟩) hb _).setCell (p := ⟨b, 3, none⟩) hb _).setCell (p := ⟨b, 4, none⟩) hb _).setCell (p := ⟨b, 5, none⟩) hb _).setCell (p := ⟨b, 6, none⟩) hb _
/-- Behind the last store: the deferred list is taken, and the result's cells are read. -/
theorem end7 {fn : Func} {p : Tmp} {tmps : Array Value} {W : World} {b D : Nat} {y : X} (hr : fn.results = #[.cell p 68]) (hp : tmps.getD p undef = .pointer (some ⟨b, 0, none⟩))
    (hb : W.heap[b]? = some (.cells y.cells 68 (0, 0))) (hD : D ≠ b) : (results fn tmps).run Try.prog (W.putObj D (.deferred none)) = .ok y.val (W.putObj D (.deferred none)) :=
  results_cell_row hr tmps _ b 68 y.cells (0, 0) _ hp ((World.putObj_heap_other (fun e => hD e.symm)).trans hb) Try.underlying68 rfl (by kernel_rfl)
set_option maxRecDepth 100000 in
set_option maxHeartbeats 4000000 in
theorem copied_inW (n : Nat) (x : X) (w : World) (hX : IsX w x) (hsm : WdX x) :
    CallsIn Fence.wide n Try.prog 53 #[x.val] w fun e w' => ∃ y : X, e = .returned y.val ∧ XA w' y ∧ ordX y x = 0 ∧ (∀ k, inX k y → w.heap.size ≤ k) ∧ Below w.heap.size w w' := by
  have hdd : ∀ k : Nat, (Fence.wide.depth.isSome = true → 1 ≤ k) := fun k h => by cases h
  refine callsIn_of_wp_marks Try.func53 rfl trivial ?_ rfl
  simp only [Try.ntmps53, List.size_toArray, List.length_cons, List.length_nil, Nat.reduceAdd, Nat.reduceSub, Array.replicate_succ, Array.replicate_zero, List.push_toArray, List.append_toArray, List.nil_append, List.cons_append]
  gi_wp2_with (refine ⟨trivial, hdd _, ?_⟩; gi_at_call 54; refine (nodes_in _ _ _).mono ?_; rintro e w' ⟨rfl, rfl⟩)
  obtain ⟨A, hA⟩ : ∃ A, (((w.alloc (.cells x.cells 68)).alloc (.cells X.nil.cells 68)).alloc (.cells #[.pointer (some ⟨w.heap.size, 0, none⟩)] 91)) = A := ⟨_, rfl⟩
  have hsz : A.heap.size = w.heap.size + 3 := by rw [← hA]; simp
  have hB : Below w.heap.size w A := by rw [← hA]; exact (((Below.refl _ w).alloc (Nat.le_refl _) _).alloc (by simp) _).alloc (by simp; omega) _
  have hnode : Node A w.heap.size 0 x := by
    rw [← hA]
    exact ((node_new w 68 x).later ((Below.refl _ _).alloc (Nat.le_refl _) _)).later ((Below.refl _ _).alloc (Nat.le_refl _) _)
  have hfree : Free A w.heap.size := by
    rw [← hA]
    exact ⟨x.cells, (alloc_old (by simp; omega)).trans ((alloc_old (by simp)).trans (alloc_new _ _))⟩
  have hres : A.heap[w.heap.size + 1]? = some (.cells X.nil.cells 68 (0, 0)) := by
    rw [← hA, alloc_old (by simp)]
    exact alloc2_new _ _ _
  have hbp : Boxed A (w.heap.size + 1 + 1) 91 (.pointer (some ⟨w.heap.size, 0, none⟩)) := by
    have := Boxed.new ((w.alloc (.cells x.cells 68)).alloc (.cells X.nil.cells 68)) 91 (.pointer (some ⟨w.heap.size, 0, none⟩))
    rw [World.size_alloc, World.size_alloc, hA] at this
    exact this
  show Code.wpIn _ _ _ _ _ _ (((w.alloc (.cells x.cells 68)).alloc (.cells X.nil.cells 68)).alloc (.cells #[.pointer (some ⟨w.heap.size, 0, none⟩)] 91))
  rw [hA]
  have hXI := hX.inn.below hB
  refine nodes_walk (ι := X) (w.heap.size + 1 + 1) w.heap.size 0 x X.n X.c X.size (CopPre w.heap.size) (Cop w.heap.size) (CopMid w.heap.size) (CopPost w.heap.size)
    rfl rfl hbp.cell X.size_part (fun v b o W B hag h => h.ag hag (by omega)) (fun v b o W B B' W' hag hag' h => h.ag hag hag' (by omega)) (fun v b o W W' B hag h => h.ag hag (by omega))
    (fun W hW hs => ⟨hnode.below hW (by omega), hXI.below (hW.mono (by omega)), Nat.le_refl _, hfree.kept (T := fun k => k < A.heap.size) (Kp.of_below hW fun _ h => h) (by omega), hsm, by omega⟩)
    (fun d b o => { tmps := #[x.val, .pointer (some ⟨w.heap.size, 0, none⟩), .pointer (some ⟨w.heap.size + 1, 0, none⟩), undef, .pointer (some ⟨b, o, none⟩), .func (.func 62) #[] #[.pointer (some ⟨w.heap.size + 1 + 1, 0, none⟩)], .int .i64 d, .pointer (some ⟨b, o, none⟩), undef, undef, undef, undef, undef, undef, undef, undef, undef], defers := [] }) ?_ ?_
    (fun v b o W W' hp hg => hg.mid hp) ?_ (fun v b o W a cap i Wi h hi => h.next hi) (fun v b o W a cap Wi h => h.done) ?_
  · intro l d b o W K hK
    gi_wp2
    first | exact hK | simpa using hK
  · rintro l d b o v W ⟨p1, p2, p3, p4, p5, p6⟩ hs ⟨u2, b2⟩ ⟨u3, b3⟩
    have hnv : v.n ≤ 1466015503658 := ((wdX_eq v).1 p5).1
    have hcl := clone_wide v.a v.n v.cap v.c W (fun i hi => by obtain ⟨b', o', e, _, hn, _⟩ := ((xIn_eq _ _ _).1 p2).2.2 i hi; exact ⟨b', o', e, hn⟩) hnv
    have ne2 := p4.ne b2 (by decide)
    have ne3 := p4.ne b3 (by decide)
    have HP := p1
    obtain ⟨d0, d1, d2, d3, d4, d5, d6⟩ := p1
    gi_wp2_with (refine ⟨trivial, hdd _, ?_⟩; gi_at_call 61; refine (CallsIn.inRound l (callsIn_wide.2 hcl)).mono ?_; clear hcl; rintro e W1 ⟨v1, rfl, ho, hB1⟩; obtain ⟨a1, cap1, rfl, hq1, hq2, hq3⟩ := own_nodes ho; clear ho; have d6' := (HP.later hB1).2.2.2.2.2.2; have ff := (p4.kept (T := fun k => k < W.heap.size) (Kp.of_below hB1 fun _ h => h) p4.lt).frozen (o + 6))
    have hW1 : Below w.heap.size W W1 := hB1.mono p6
    have kb : Kb b (o + 6) (fun _ => False) W W1 := .of_below _ _ _ hB1
    refine ⟨((KeepsOthers.mk hB1.size fun k o ho _ => (hB1.block k (Array.getElem?_eq_some_iff.1 ho).1).trans ho).trans (KeepsOthers.setCell _ _ _)).from _, ?_, a1, cap1, ?_, hq1, hq2, fun h0 => ?_, hW1.setCell (p := ⟨b, o + 6, none⟩) p3 _, kb.trans (Kb.set _ _ _ _ _)⟩
    · refine Kp.trans (fun k o _ _ ho => (hB1.block k (Array.getElem?_eq_some_iff.1 ho).1).trans ho) (Kp.set _ ?_)
      rintro (h | h)
      · omega
      · omega
    · obtain ⟨e0, e1, e2, e3, e4, e5, e6⟩ := HP.later hB1
      refine ⟨?_, ?_, ?_, ?_, ?_, ?_, World.cell?_setCell_same _ _ _ e6⟩
      · exact (World.cell?_setCell_other _ _ _ _ (by intro e; injection e with _ e; omega)).trans e0
      · exact (World.cell?_setCell_other _ _ _ _ (by intro e; injection e with _ e; omega)).trans e1
      · exact (World.cell?_setCell_other _ _ _ _ (by intro e; injection e with _ e; omega)).trans e2
      · exact (World.cell?_setCell_other _ _ _ _ (by intro e; injection e with _ e; omega)).trans e3
      · exact (World.cell?_setCell_other _ _ _ _ (by intro e; injection e with _ e; omega)).trans e4
      · exact (World.cell?_setCell_other _ _ _ _ (by intro e; injection e with _ e; omega)).trans e5
    · obtain ⟨g, eg, r1, r2, r3, r4⟩ := hq3 h0
      have hne : g ≠ b := by have := p4.lt; omega
      exact ⟨g, eg, r1, by rw [World.size_setCell]; exact r2, r3.set, fun i hi => (r4 i hi).kept (T := fun k => k ≠ b) (Kp.set _ (by simp)) hne⟩
  · rintro v b o W a cap i Wi ⟨c, h1, h2, h3, -⟩
    exact ⟨by unfold maxLen at h3; omega, h1.2.2.2.2.2.2⟩
  · rintro D W2 W hD hW2 hs ⟨y, h1, h2, h3, h4, h5, h6⟩ hK
    have g1 := h1.at0
    have hres2 : W.heap[w.heap.size + 1]? = some (.cells X.nil.cells 68 (0, 0)) := h6.oth _ _ ⟨by omega, fun h => h⟩ rfl ((hW2.block _ (by omega)).trans hres)
    have g2 : Node W (w.heap.size + 1) 0 X.nil := node_box hres2
    have gf : ∀ j, W.frozen? ⟨w.heap.size + 1, j, none⟩ = false := fun j => Free.frozen ⟨_, hres2⟩ j
    obtain ⟨d0, d1, d2, d3, d4, d5, d6⟩ := g1
    have g2' := g2.at0
    obtain ⟨e0, e1, e2, e3, e4, e5, e6⟩ := g2'
    have f0 := gf 0
    have f1 := gf 1
    have f2 := gf 2
    have f3 := gf 3
    have f4 := gf 4
    have f5 := gf 5
    have f6 := gf 6
    have hblk : (set7 W (w.heap.size + 1) y).heap[w.heap.size + 1]? = some (.cells y.cells 68 (0, 0)) := heap_set7 hres2
    have hK' : (set7 W (w.heap.size + 1) y).heap[D]? = some (.deferred (some [])) := (heap_set7_other (by omega)).trans hK
    have hBf : Below w.heap.size w (set7 W (w.heap.size + 1) y) := below_set7 ((hB.trans (hW2.mono (by omega))).trans h5) (by omega)
    have hkp : Kp (fun k => k ≠ w.heap.size + 1) W ((set7 W (w.heap.size + 1) y).putObj D (.deferred none)) := fun k ob hk ho e => by
      have hne : k ≠ D := by rintro rfl; rw [hK] at e; cases e; cases ho
      exact (World.putObj_heap_other hne).trans ((heap_set7_other hk).trans e)
    gi_wp2
    refine ⟨by simp, .inl ⟨_, _, rfl, run_takeDeferred hK', ?_⟩⟩
    exact ⟨_, end7 rfl rfl hblk (by omega), y, rfl, h2.kept hkp (fun k hk => by have := h4 k hk; omega), h3, fun k hk => by have := h4 k hk; omega, hBf.trans (belowK_b (w := w) (Nat.le_refl _) _ D _ _ (by omega) hK' rfl rfl)⟩
end Go.Proofs.Ytjclelmbpmlioaa
namespace Go.Proofs.Ytjclelmbpmlioaa
open Go.RowKit Go.Shelf Go.Maps Go.WideMaps
attribute [local go_sem] Oper.semAt_some

set_option maxRecDepth 100000 in
set_option maxHeartbeats 4000000 in
theorem firsts_in (n : Nat) (a : Option Addr) (m cap : Nat) (S : Nat → ByteArray) (w : World) (hx : Txs w a m S) (hm : m ≤ 9223372036854775807) (hs : ∀ j, j < m → (S j).size ≤ maxLen) :
    CallsIn Fence.wide n Try.prog 52 #[.slice a m cap] w fun e w' => e = .returned (.map (some w.heap.size)) ∧ (∃ D, w'.ownsMap Try.prog 9 (plainElem (H := Unit) Try.prog 3) w.heap.size m D ∧ Firsts S m 0 D) ∧ Below w.heap.size w w' := by
  have hdd : ∀ k : Nat, (Fence.wide.depth.isSome = true → 1 ≤ k) := fun k h => by cases h
  have hmm := @run_makeMap Try.prog
  refine callsIn_of_wp_marks Try.func52 rfl trivial ?_ rfl
  simp only [Try.ntmps52, List.size_toArray, List.length_cons, List.length_nil, Nat.reduceAdd, Nat.reduceSub, Array.replicate_succ, Array.replicate_zero, List.push_toArray, List.append_toArray, List.nil_append, List.cons_append]
  gi_wp2_with (refine ⟨trivial, hdd _, ?_⟩; gi_at_call 23; refine (backward_in _ _ _ _ _).mono ?_; rintro e w' ⟨rfl, rfl⟩)
  obtain ⟨A, hA⟩ : ∃ A, (((w.alloc (.map #[] 0)).alloc (.cells #[.map (some w.heap.size)] 47)).alloc (.cells #[.slice a m cap] 25)) = A := ⟨_, rfl⟩
  have hsz : A.heap.size = w.heap.size + 3 := by rw [← hA]; simp
  have hB : Below w.heap.size w A := by rw [← hA]; exact (((Below.refl _ w).alloc (Nat.le_refl _) _).alloc (by simp) _).alloc (by simp; omega) _
  have hbm : Boxed A (w.heap.size + 1) 47 (.map (some w.heap.size)) := by
    have := (Boxed.new (w.alloc (.map #[] 0)) 47 (.map (some w.heap.size))).alloc (.cells #[.slice a m cap] 25)
    rw [World.size_alloc, hA] at this
    exact this
  have hbs : Boxed A (w.heap.size + 1 + 1) 25 (.slice a m cap) := by
    have := Boxed.new ((w.alloc (.map #[] 0)).alloc (.cells #[.map (some w.heap.size)] 47)) 25 (.slice a m cap)
    rw [World.size_alloc, World.size_alloc, hA] at this
    exact this
  have hown : A.ownsMap Try.prog 9 (plainElem (H := Unit) Try.prog 3) w.heap.size 0 (.map []) := by
    rw [← hA]
    exact ((World.ownsMap_made w _ _ _).alloc _).alloc _
  rw [hA]
  refine back_fold (w.heap.size + 1 + 1) a m cap S (fun k W => (∃ D, W.ownsMap Try.prog 9 (plainElem (H := Unit) Try.prog 3) w.heap.size (m - k) D ∧ Hid (Firsts S m k D)) ∧ Boxed W (w.heap.size + 1) 47 (.map (some w.heap.size)) ∧ Below w.heap.size w W)
    rfl rfl hbs (hx.later hB) hm ?_ ?_
    (fun k => { tmps := #[.slice a m cap, undef, .map none, .pointer (some ⟨w.heap.size + 1, 0, none⟩), .int .i64 k, .string (S k), .map (some w.heap.size), .slice a m cap, .func (.func 41) #[] #[.pointer (some ⟨w.heap.size + 1 + 1, 0, none⟩)], .int .i64 k, .string (S k), undef, undef, undef, undef], defers := [] }) ?_ ?_ ?_
  · rintro k W B hag ⟨⟨D, h1, h2⟩, h3, h4⟩
    exact ⟨⟨D, ownsMap_ag hag (by omega) h1, h2⟩, hag.boxed h3, hag.below (by omega) h4⟩
  · exact fun W h => ⟨⟨_, (ownsMap_below h (by omega) hown).mono (Nat.zero_le _), firsts_none S m⟩, Boxed.kept_of hbm h (by omega), hB.trans (h.mono (by omega))⟩
  · intro l k W K hK
    gi_wp2
    first | exact hK | simpa using hK
  · rintro l k W hk ⟨⟨D, h1, h2⟩, h3, h4⟩ hs2
    have c1 := h3.cell
    have HS : Hid ((S k).size ≤ maxLen) := hs k hk
    have hkey : keyOf Try.prog 9 (.string (S k)) = some (keyS (S k)) := keyOf_string_mk Try.underlying9 HS.out
    gi_wp2_with (first
      | (gi_at_mapUpdate; refine wpListIn_mapUpdate_own _ rfl _ _ _ 47 rfl 9 3 str_law Try.underlying47 (plainElem (H := Unit) Try.prog 3) w.heap.size (m - (k + 1)) _ rfl h1 (by unfold maxLen; omega) _ _ _ rfl rfl hkey _ [] (plainElem_int Try.underlying3 (WalkArith.wf_i64 (by omega))) ?_; intro w1 hown1 hgrow1)
      | gi_in)
    have hmap : ∀ (k' : Nat) (o : Obj), o.isCells = true → W.heap[k']? = some o → w1.heap[k']? = some o := fun k' o ho e => by
      refine (hgrow1.block k' (Array.getElem?_eq_some_iff.1 e).1 fun q => ?_).trans e
      injection q with q
      subst q
      obtain ⟨es, clock, e1, _⟩ := h1
      rw [e1] at e
      cases e
      cases ho
    refine ⟨⟨hgrow1.size, fun k' o hk' ho _ => (hgrow1.block k' (Array.getElem?_eq_some_iff.1 ho).1 fun q => ?_).trans ho⟩, fun k' o _ ho e => hmap k' o ho e, ⟨_, hown1.mono (by omega), h2.out.more h1.isMap hk⟩, hmap _ _ rfl h3, h4.grown hgrow1 h4.size (fun j hj => by cases hj; exact Nat.le_refl _)⟩
    injection q with q
    omega
  · rintro D W hD ⟨⟨E, h1, h2⟩, h3, h4⟩ hK
    have c1 := h3.cell
    gi_wp2
    refine ⟨by simp, .inl ⟨_, _, rfl, run_takeDeferred hK, ?_⟩⟩
    have hbk := belowK_b (w := A) (n₀ := A.heap.size) (Nat.le_refl _) W D _ (.deferred none) hD hK rfl rfl
    exact ⟨_, results_tmp rfl _ _ _, rfl, ⟨E, (ownsMap_below hbk (by omega) h1).mono (by omega), h2.out⟩, h4.trans (hbk.mono (by omega))⟩
end Go.Proofs.Ytjclelmbpmlioaa
namespace Go.Proofs.Ytjclelmbpmlioaa
open Go.RowKit

theorem renX_slice (g : ByteArray → ByteArray) (x : X) : (renX g x).a = x.a ∧ (renX g x).cap = x.cap := by
  cases x with
  | nil => exact ⟨rfl, rfl⟩
  | mk => exact ⟨rfl, rfl⟩
theorem inX_ren (g : ByteArray → ByteArray) (k : Nat) : ∀ x : X, inX k (renX g x) ↔ inX k x := by
  refine X.ind fun x ih => ?_
  obtain ⟨a1, a2, a3, a4, a5, a6⟩ := renX_parts g x
  rw [inX_eq, inX_eq k x, a5, (renX_slice g x).1]
  constructor
  · rintro (h | ⟨i, hi, h⟩)
    · exact .inl h
    · rw [a6] at h
      exact .inr ⟨i, hi, (ih i hi).1 h⟩
  · rintro (h | ⟨i, hi, h⟩)
    · exact .inl h
    · exact .inr ⟨i, hi, by rw [a6]; exact (ih i hi).2 h⟩
section
variable (g : ByteArray → ByteArray) (N1 B0 : Nat) (W0 : World)
/-- Ahead of a node. -/
def RenPre (v : X) (b o : Nat) (W : World) : Prop := Node W b o v ∧ XA W v ∧ ¬ inX b v ∧ Free W b ∧ (b = B0 ∨ N1 ≤ b) ∧ (∀ k, inX k v → N1 ≤ k) ∧ XOk v ∧ Lb N1 B0 W0 W
/-- What a round does. -/
def RenGo (v : X) (b o : Nat) (W W' : World) : Prop := Node W' b o (renX g v) ∧ Kb b (o + 4) (fun _ => False) W W' ∧ Lb N1 B0 W W'
/-- The first i parts have their new names. -/
def RenMid (v : X) (b o : Nat) (W : World) (a : Option Addr) (cap i : Nat) (Wi : World) : Prop :=
  a = v.a ∧ cap = v.cap ∧ i ≤ v.n ∧ Node Wi b o (renX g v) ∧ RenPre N1 B0 W0 v b o W ∧
    (∀ j, j < v.n → ∃ r, v.a = some ⟨r, 0, none⟩ ∧ Free Wi r ∧ (j < i → Node Wi r (j * 7) (renX g (v.c j)) ∧ XA Wi (renX g (v.c j))) ∧ (i ≤ j → Node Wi r (j * 7) (v.c j) ∧ XA Wi (v.c j))) ∧
    Kb b (o + 4) (fun k => inX k v) W Wi ∧ Lb N1 B0 W Wi
/-- Behind it. -/
def RenPost (v : X) (b o : Nat) (W W' : World) : Prop := Node W' b o (renX g v) ∧ XA W' (renX g v) ∧ Kb b (o + 4) (fun k => inX k v) W W' ∧ Lb N1 B0 W W'
variable {g N1 B0 W0}
theorem RenPre.ag {B : Nat} {v : X} {b o : Nat} {W A : World} (h : Ag B W A) (hN : N1 ≤ B) (hp : RenPre N1 B0 W0 v b o W) : RenPre N1 B0 W0 v b o A := by
  obtain ⟨h1, h2, h3, h4, h5, h6, h7, h8⟩ := hp
  exact ⟨h1.ag h, h2.ag h, h3, h4.ag h, h5, h6, h7, Lb.ag (Ag.refl B W0) h hN h8⟩
theorem RenGo.ag {B : Nat} {v : X} {b o : Nat} {W A A' W' : World} (h : Ag B W A) (h' : Ag B A' W') (hN : N1 ≤ B) (hp : RenGo g N1 B0 v b o A A') : RenGo g N1 B0 v b o W W' := by
  obtain ⟨h1, h2, h3⟩ := hp
  exact ⟨h1.ag h', Kb.ag h h' h2, Lb.ag h h' hN h3⟩
theorem RenPost.ag {B : Nat} {v : X} {b o : Nat} {W W' A : World} (h : Ag B W' A) (hN : N1 ≤ B) (hp : RenPost g N1 B0 v b o W W') : RenPost g N1 B0 v b o W A := by
  obtain ⟨h1, h2, h3, h4⟩ := hp
  exact ⟨h1.ag h, h2.ag h, Kb.ag (Ag.refl B W) h h3, Lb.ag (Ag.refl B W) h hN h4⟩
theorem RenGo.mid {v : X} {b o : Nat} {W W' : World} (hp : RenPre N1 B0 W0 v b o W) (h : RenGo g N1 B0 v b o W W') : ∃ a cap, RenMid g N1 B0 W0 v b o W a cap 0 W' := by
  obtain ⟨q1, q2, q3⟩ := h
  refine ⟨v.a, v.cap, rfl, rfl, Nat.zero_le _, q1, hp, fun j hj => ?_, q2.mono fun _ h => h.elim, q3⟩
  obtain ⟨h1, h2, h3, h4, h5, h6, h7, h8⟩ := hp
  obtain ⟨r, e, hf, hn, hx, hd, _⟩ := ((xA_eq _ _).1 h2).2.2 j hj
  have hr : inX r v := (inX_eq _ _).2 (.inl ⟨by omega, 0, e⟩)
  have hne : r ≠ b := fun q => h3 (q ▸ hr)
  exact ⟨r, e, q2.free r hf, fun h => absurd h (Nat.not_lt_zero _), fun _ => ⟨q2.node hne (fun h => h) hn, hx.kept q2.oth fun k hk => ⟨fun q => h3 (q ▸ (inX_eq _ _).2 (.inr ⟨j, hj, hk⟩)), fun h => h⟩⟩⟩
theorem RenMid.next {v : X} {b o : Nat} {W : World} {a : Option Addr} {cap i : Nat} {Wi : World} (h : RenMid g N1 B0 W0 v b o W a cap i Wi) (hi : i < v.n) :
    ∃ b' o', a = some ⟨b', o', none⟩ ∧ RenPre N1 B0 W0 (v.c i) b' (o' + i * 7) Wi.drew ∧ (∀ W', RenPost g N1 B0 (v.c i) b' (o' + i * 7) Wi.drew W' → RenMid g N1 B0 W0 v b o W a cap (i + 1) W') := by
  obtain ⟨rfl, rfl, m1, m2, hp, m3, m4, m5⟩ := h
  have hp' := hp
  obtain ⟨h1, h2, h3, h4, h5, h6, h7, h8⟩ := hp
  obtain ⟨r, e, hf, hlo, hup⟩ := m3 i hi
  obtain ⟨r', e', _, _, _, hd, hapart⟩ := ((xA_eq _ _).1 h2).2.2 i hi
  rw [e] at e'
  cases e'
  have hr : inX r v := (inX_eq _ _).2 (.inl ⟨by omega, 0, e⟩)
  have hsub : ∀ k, inX k (v.c i) → inX k v := fun k hk => (inX_eq _ _).2 (.inr ⟨i, hi, hk⟩)
  have hbr : b ≠ r := fun q => h3 (q ▸ hr)
  have hl8 : Lb N1 B0 W0 Wi := h8.trans m5
  refine ⟨r, 0, e, ⟨by rw [Nat.zero_add]; exact (hup (Nat.le_refl _)).1, (hup (Nat.le_refl _)).2.later (Below.refl _ _).drew, hd, hf, .inr (h6 r hr), fun k hk => h6 k (hsub k hk), ((xOk_eq v).1 h7).2.2 i hi, ⟨hl8.os, hl8.tape, hl8.output, hl8.size, hl8.block⟩⟩, ?_⟩
  rintro W' ⟨p1, p2, p3, p4⟩
  rw [Nat.zero_add] at p1 p3
  have p3' : Kb r (i * 7 + 4) (fun k => inX k (v.c i)) Wi W' := ⟨p3.oth, p3.own, p3.free, p3.size⟩
  have p4' : Lb N1 B0 Wi W' := ⟨p4.os, p4.tape, p4.output, p4.size, p4.block⟩
  clear p3 p4
  refine ⟨rfl, rfl, hi, p3'.node hbr (fun h => h3 (hsub b h)) m2, hp', fun j hj => ?_, m4.part p3' (.inl hr) (fun k hk => .inl (hsub k hk)) h4.lt hbr (fun h => h3 (hsub b h)), m5.trans p4'⟩
  obtain ⟨r2, e2, hf2, hlo2, hup2⟩ := m3 j hj
  rw [e] at e2
  cases e2
  obtain ⟨r3, e3, _, _, _, hd3, _⟩ := ((xA_eq _ _).1 h2).2.2 j hj
  rw [e] at e3
  cases e3
  have ho : j ≠ i → ∀ k, inX k (v.c j) → k ≠ r ∧ ¬ inX k (v.c i) := fun hne k hk => ⟨fun q => hd3 (q ▸ hk), fun hk' => hapart j hj hne k hk' hk⟩
  refine ⟨r, e, p3'.free r hf2, fun hji => ?_, fun hij => ?_⟩
  · by_cases ej : j = i
    · subst ej
      exact ⟨p1, p2⟩
    · obtain ⟨q1, q2⟩ := hlo2 (by omega)
      exact ⟨p3'.near (fun t ht => by omega) q1, q2.kept p3'.oth fun k hk => ho ej k ((inX_ren g k _).1 hk)⟩
  · obtain ⟨q1, q2⟩ := hup2 (by omega)
    exact ⟨p3'.near (fun t ht => by omega) q1, q2.kept p3'.oth fun k hk => ho (by omega) k hk⟩
theorem RenMid.done {v : X} {b o : Nat} {W : World} {a : Option Addr} {cap : Nat} {Wi : World} (h : RenMid g N1 B0 W0 v b o W a cap v.n Wi) : RenPost g N1 B0 v b o W Wi := by
  obtain ⟨rfl, rfl, m1, m2, hp, m3, m4, m5⟩ := h
  obtain ⟨h1, h2, h3, h4, h5, h6, h7, h8⟩ := hp
  refine ⟨m2, ?_, m4, m5⟩
  obtain ⟨a1, a2, a3, a4, a5, a6⟩ := renX_parts g v
  have h2' := (xA_eq _ _).1 h2
  rw [xA_eq, a5, (renX_slice g v).1, (renX_slice g v).2]
  refine ⟨h2'.1, h2'.2.1, fun i hi => ?_⟩
  obtain ⟨r, e, hf, hlo, _⟩ := m3 i hi
  obtain ⟨r', e', _, _, _, hd, hapart⟩ := h2'.2.2 i hi
  rw [e] at e'
  cases e'
  obtain ⟨q1, q2⟩ := hlo hi
  rw [a6]
  refine ⟨r, e, hf, q1, q2, fun hk => hd ((inX_ren g r _).1 hk), fun j hj hne k hk hk' => ?_⟩
  rw [a6] at hk'
  exact hapart j hj hne k ((inX_ren g k _).1 hk) ((inX_ren g k _).1 hk')
end
end Go.Proofs.Ytjclelmbpmlioaa
