/-
  expr.copied.
  pat.At and pat.Tail, and the document's.
  pat.named: a range over the nodes that have a Var.
  Patterns that came in.
  Patterns that came in, of any size within the form's own reach.
-/
import Derived.Test.YtcdehohmgfocdaaTPatMath
import Derived.Test.YtcdehohmgfocdaaTTrees
import Derived.Laws.ResultCell
import Derived.Deep.Strs
import Derived.SizedLaws
namespace Go.Proofs.Ytcdehohmgfocdaa
open Go.RowKit Go.Shelf
attribute [local go_sem] Oper.semAt_some

/-- What a round of expr.copied does: the node's parts lie in a row of their own now. -/
def CopP (N0 : Nat) (v : Pt) (b o : Nat) (W W' : World) : Prop :=
  ∃ a cap, NodeP W' b o (v.at a cap v.c) ∧ v.n ≤ cap ∧ cap ≤ maxLen ∧ (0 < v.n → ∃ g, a = some ⟨g, 0, none⟩ ∧ W.heap.size ≤ g ∧ g < W'.heap.size ∧ FreeP W' g ∧ ∀ i, i < v.n → NodeP W' g (i * 6) (v.c i)) ∧ Below N0 W W' ∧ KbP b (o + 5) (fun _ => False) W W'
/-- Ahead of it. -/
def CopPPre (N0 : Nat) (v : Pt) (b o : Nat) (W : World) : Prop := NodeP W b o v ∧ PIn N0 W v ∧ N0 ≤ b ∧ FreeP W b ∧ WdP v ∧ N0 ≤ W.heap.size
/-- The first i parts are copies. -/
def CopPMid (N0 : Nat) (v : Pt) (b o : Nat) (W : World) (a : Option Addr) (cap i : Nat) (Wi : World) : Prop :=
  ∃ c : Nat → Pt, NodeP Wi b o (v.at a cap v.c) ∧ v.n ≤ cap ∧ cap ≤ maxLen ∧ i ≤ v.n ∧
    (0 < v.n → ∃ g, a = some ⟨g, 0, none⟩ ∧ W.heap.size ≤ g ∧ g < Wi.heap.size ∧ FreeP Wi g ∧ (∀ j, j < i → NodeP Wi g (j * 6) (c j) ∧ ¬ inP g (c j)) ∧ (∀ j, i ≤ j → j < v.n → NodeP Wi g (j * 6) (v.c j))) ∧
    (∀ j, j < i → PA Wi (c j) ∧ Sm (c j) (v.c j) ∧ (∀ k, inP k (c j) → W.heap.size ≤ k ∧ k < Wi.heap.size) ∧ ∀ j', j' < i → j' ≠ j → ∀ k, inP k (c j) → ¬ inP k (c j')) ∧
    Below N0 W Wi ∧ KbP b (o + 5) (fun _ => False) W Wi ∧ PIn N0 Wi v ∧ N0 ≤ b ∧ b < W.heap.size ∧ WdP v ∧ N0 ≤ W.heap.size
/-- Behind it. -/
def CopPPost (N0 : Nat) (v : Pt) (b o : Nat) (W W' : World) : Prop :=
  ∃ y, NodeP W' b o y ∧ PA W' y ∧ Sm y v ∧ (∀ k, inP k y → W.heap.size ≤ k ∧ k < W'.heap.size) ∧ Below N0 W W' ∧ KbP b (o + 5) (fun _ => False) W W'
theorem CopPPre.ag {N0 B : Nat} {v : Pt} {b o : Nat} {W A : World} (h : Ag B W A) (hN : N0 ≤ B) (hp : CopPPre N0 v b o W) : CopPPre N0 v b o A := by
  obtain ⟨h1, h2, h3, h4, h5, h6⟩ := hp
  exact ⟨h1.ag h, h2.below (h.below hN (Below.refl _ _)), h3, h4.ag h, h5, by rw [h.size]; exact h6⟩
theorem CopP.ag {N0 B : Nat} {v : Pt} {b o : Nat} {W A A' W' : World} (h : Ag B W A) (h' : Ag B A' W') (hN : N0 ≤ B) (hp : CopP N0 v b o A A') : CopP N0 v b o W W' := by
  obtain ⟨a, cap, h1, h2, h3, h4, h5, h6⟩ := hp
  refine ⟨a, cap, h1.ag h', h2, h3, fun h0 => ?_, h.below_from hN (h'.below hN h5), KbP.ag h h' h6⟩
  obtain ⟨g, e, q1, q2, q3, q4⟩ := h4 h0
  exact ⟨g, e, by rw [← h.size]; exact q1, by rw [h'.size]; exact q2, q3.ag h', fun i hi => (q4 i hi).ag h'⟩
theorem CopPPost.ag {N0 B : Nat} {v : Pt} {b o : Nat} {W W' A : World} (h : Ag B W' A) (hN : N0 ≤ B) (hp : CopPPost N0 v b o W W') : CopPPost N0 v b o W A := by
  obtain ⟨y, h1, h2, h3, h4, h5, h6⟩ := hp
  exact ⟨y, h1.ag h, h2.ag h, h3, fun k hk => by rw [h.size]; exact h4 k hk, h.below hN h5, KbP.ag (Ag.refl B W) h h6⟩
theorem CopP.mid {N0 : Nat} {v : Pt} {b o : Nat} {W W' : World} (hp : CopPPre N0 v b o W) (h : CopP N0 v b o W W') : ∃ a cap, CopPMid N0 v b o W a cap 0 W' := by
  obtain ⟨p1, p2, p3, p4, p5, p6⟩ := hp
  obtain ⟨a, cap, h1, h2, h3, h4, h5, h6⟩ := h
  refine ⟨a, cap, v.c, h1, h2, h3, Nat.zero_le _, fun h0 => ?_, fun j hj => absurd hj (Nat.not_lt_zero _), h5, h6, p2.below h5, p3, p4.lt, p5, p6⟩
  obtain ⟨g, e, q1, q2, q3, q4⟩ := h4 h0
  exact ⟨g, e, q1, q2, q3, fun j hj => absurd hj (Nat.not_lt_zero _), fun j _ hj => q4 j hj⟩
theorem CopPMid.next {N0 : Nat} {v : Pt} {b o : Nat} {W : World} {a : Option Addr} {cap i : Nat} {Wi : World} (h : CopPMid N0 v b o W a cap i Wi) (hi : i < v.n) :
    ∃ b' o', a = some ⟨b', o', none⟩ ∧ CopPPre N0 (v.c i) b' (o' + i * 6) Wi.drew ∧ (∀ W', CopPPost N0 (v.c i) b' (o' + i * 6) Wi.drew W' → CopPMid N0 v b o W a cap (i + 1) W') := by
  obtain ⟨c, h1, h2, h3, h4, h5, h6, h7, h8, h9, h10, h11, h12, h13⟩ := h
  obtain ⟨g, e, q1, q2, q3, q4, q5⟩ := h5 (by omega)
  obtain ⟨b2, o2, _, _, hn2, hx2⟩ := ((pIn_eq _ _ _).1 h9).2.2 i hi
  refine ⟨g, 0, e, ⟨by rw [Nat.zero_add]; exact q5 i (Nat.le_refl _) hi, hx2.below (Below.refl _ _).drew, by omega, q3, ((wdP_eq v).1 h12).2 i hi, by have := h7.size; show N0 ≤ Wi.heap.size; omega⟩, ?_⟩
  rintro W' ⟨y, p1, p2, p3, p4, p5, p6⟩
  rw [Nat.zero_add] at p1 p6
  have p4' : ∀ k, inP k y → Wi.heap.size ≤ k ∧ k < W'.heap.size := p4
  have p5' : Below N0 Wi W' := ⟨p5.os, p5.tape, p5.output, p5.size, p5.block⟩
  have p6' : KbP g (i * 6 + 5) (fun _ => False) Wi W' := ⟨p6.oth, p6.own, p6.free, p6.size⟩
  clear p4 p5 p6
  have hWW := h8.size
  have hbg : b ≠ g := by omega
  obtain ⟨c', hc'⟩ : ∃ c' : Nat → Pt, c' = fun j => if j = i then y else c j := ⟨_, rfl⟩
  have ci : c' i = y := by rw [hc']; simp
  have cj : ∀ j, j < i → c' j = c j := fun j hj => by rw [hc']; simp only; rw [if_neg (by omega)]
  refine ⟨c', p6'.node hbg (fun h => h) h1, h2, h3, hi, fun _ => ⟨g, e, q1, Nat.lt_of_lt_of_le q2 p6'.size, p6'.free g q3, fun j hj => ?_, fun j hj1 hj2 => ?_⟩, fun j hj => ?_, h7.trans p5', h8.part p6' (.inr q1) (fun _ h => h.elim) h11 hbg (fun h => h), h9.below p5', h10, h11, h12, h13⟩
  · by_cases ej : j = i
    · subst ej
      rw [ci]
      exact ⟨p1, fun hg => by have := p4' g hg; omega⟩
    · rw [cj j (by omega)]
      obtain ⟨r1, r2⟩ := q4 j (by omega)
      exact ⟨p6'.near (fun t ht => by omega) r1, r2⟩
  · exact p6'.near (fun t ht => by omega) (q5 j (by omega) hj2)
  · by_cases ej : j = i
    · subst ej
      rw [ci]
      refine ⟨p2, p3, fun k hk => by have := p4' k hk; omega, fun j' hj' hne k hk => ?_⟩
      rw [cj j' (by omega)]
      intro hk'
      have := (h6 j' (by omega)).2.2.1 k hk'
      have := p4' k hk
      omega
    · rw [cj j (by omega)]
      obtain ⟨r1, r2, r3, r4⟩ := h6 j (by omega)
      refine ⟨r1.kept p6'.oth fun k hk => ⟨fun ek => ?_, fun h => h⟩, r2, fun k hk => by have := r3 k hk; have := p6'.size; omega, fun j' hj' hne k hk => ?_⟩
      · subst ek
        exact (q4 j (by omega)).2 hk
      · by_cases ej' : j' = i
        · subst ej'
          rw [ci]
          intro hk'
          have := r3 k hk
          have := p4' k hk'
          omega
        · rw [cj j' (by omega)]
          exact r4 j' (by omega) hne k hk
theorem CopPMid.done {N0 : Nat} {v : Pt} {b o : Nat} {W : World} {a : Option Addr} {cap : Nat} {Wi : World} (h : CopPMid N0 v b o W a cap v.n Wi) : CopPPost N0 v b o W Wi := by
  obtain ⟨c, h1, h2, h3, h4, h5, h6, h7, h8, h9, h10, h11, h12, h13⟩ := h
  refine ⟨v.at a cap c, h1, ?_, ?_, fun k hk => ?_, h7, h8⟩
  · refine ⟨h2, by unfold maxLen at h3; omega, fun i hi => ?_⟩
    obtain ⟨g, e, q1, q2, q3, q4, q5⟩ := h5 (by omega)
    obtain ⟨r1, r2, r3, r4⟩ := h6 i hi
    exact ⟨g, e, q3, (q4 i hi).1, r1, (q4 i hi).2, r4⟩
  · exact (sm_iff _ _).2 ⟨rfl, rfl, rfl, rfl, rfl, rfl, fun i hi => (h6 i hi).2.1⟩
  · rcases hk with ⟨h0, o', e'⟩ | ⟨i, hi, hk⟩
    · obtain ⟨g, e, q1, q2, _⟩ := h5 h0
      rw [e] at e'
      cases e'
      exact ⟨q1, q2⟩
    · exact (h6 i hi).2.2.1 k hk
/-- The six cells, one after the other. -/
abbrev set6 (W : World) (b : Nat) (y : Pt) : World :=
  (((((W.setCell ⟨b, 0, none⟩ (.int .i64 y.k)).setCell ⟨b, 1, none⟩ (.string y.s)).setCell ⟨b, 2, none⟩ (.string y.t)).setCell ⟨b, 3, none⟩ (.int .i64 y.lo)).setCell ⟨b, 4, none⟩ (.int .i64 y.hi)).setCell ⟨b, 5, none⟩ (.slice y.a y.n y.cap)
theorem heap_set6 {W : World} {b : Nat} {y z : Pt} {t : TypeId} (h : W.heap[b]? = some (.cells z.cells t (0, 0))) : (set6 W b y).heap[b]? = some (.cells y.cells t (0, 0)) := by
  rw [heap_set (heap_set (heap_set (heap_set (heap_set (heap_set h)))))]
  simp
theorem heap_set6_other {W : World} {b : Nat} {y : Pt} {k : Nat} (h : k ≠ b) : (set6 W b y).heap[k]? = W.heap[k]? :=
  (Below.heap_setCell _ _ _ _ h).trans ((Below.heap_setCell _ _ _ _ h).trans ((Below.heap_setCell _ _ _ _ h).trans ((Below.heap_setCell _ _ _ _ h).trans ((Below.heap_setCell _ _ _ _ h).trans (Below.heap_setCell _ _ _ _ h)))))
theorem below_set6 {n : Nat} {w W : World} {b : Nat} {y : Pt} (h : Below n w W) (hb : n ≤ b) : Below n w (set6 W b y) :=
  (((((h.setCell (p := ⟨b, 0, none⟩) hb _).setCell (p := ⟨b, 1, none⟩) hb _).setCell (p := ⟨b, 2, none⟩) hb _).setCell (p := ⟨b, 3, none⟩) hb _).setCell (p := ⟨b, 4, none⟩) hb _).setCell (p := ⟨b, 5, none⟩) hb _
/-- Behind the last store: the deferred list is taken, and the result's cells are read. -/
theorem end6 {fn : Func} {p : Tmp} {tmps : Array Value} {W : World} {b D : Nat} {y : Pt} (hr : fn.results = #[.cell p 27]) (hp : tmps.getD p undef = .pointer (some ⟨b, 0, none⟩))
    (hb : W.heap[b]? = some (.cells y.cells 27 (0, 0))) (hD : D ≠ b) : (results fn tmps).run Try.prog (W.putObj D (.deferred none)) = .ok y.val (W.putObj D (.deferred none)) :=
  results_cell_row hr tmps _ b 27 y.cells (0, 0) _ hp ((World.putObj_heap_other (fun e => hD e.symm)).trans hb) Try.underlying27 rfl (by kernel_rfl)
set_option maxRecDepth 100000 in
set_option maxHeartbeats 4000000 in
theorem copiedP_inW (n : Nat) (x : Pt) (w : World) (hX : IsP w x) (hsm : WdP x) :
    CallsIn Fence.wide n Try.prog 69 #[x.val] w fun e w' => ∃ y : Pt, e = .returned y.val ∧ PA w' y ∧ Sm y x ∧ (∀ k, inP k y → w.heap.size ≤ k) ∧ Below w.heap.size w w' := by
  have hdd : ∀ k : Nat, (Fence.wide.depth.isSome = true → 1 ≤ k) := fun k h => by cases h
  refine callsIn_of_wp_marks Try.func69 rfl trivial ?_ rfl
  simp only [Try.ntmps69, List.size_toArray, List.length_cons, List.length_nil, Nat.reduceAdd, Nat.reduceSub, Array.replicate_succ, Array.replicate_zero, List.push_toArray, List.append_toArray, List.nil_append, List.cons_append]
  gi_wp2_with (refine ⟨trivial, hdd _, ?_⟩; gi_at_call 89; refine (nodesP_in _ _ _).mono ?_; rintro e w' ⟨rfl, rfl⟩)
  obtain ⟨A, hA⟩ : ∃ A, (((w.alloc (.cells x.cells 27)).alloc (.cells Pt.nil.cells 27)).alloc (.cells #[.pointer (some ⟨w.heap.size, 0, none⟩)] 90)) = A := ⟨_, rfl⟩
  have hsz : A.heap.size = w.heap.size + 3 := by rw [← hA]; simp
  have hB : Below w.heap.size w A := by rw [← hA]; exact (((Below.refl _ w).alloc (Nat.le_refl _) _).alloc (by simp) _).alloc (by simp; omega) _
  have hnode : NodeP A w.heap.size 0 x := by
    rw [← hA]
    exact ((nodeP_new w 27 x).later ((Below.refl _ _).alloc (Nat.le_refl _) _)).later ((Below.refl _ _).alloc (Nat.le_refl _) _)
  have hfree : FreeP A w.heap.size := by
    rw [← hA]
    exact ⟨x.cells, (alloc_old (by simp; omega)).trans ((alloc_old (by simp)).trans (alloc_new _ _))⟩
  have hres : A.heap[w.heap.size + 1]? = some (.cells Pt.nil.cells 27 (0, 0)) := by
    rw [← hA, alloc_old (by simp)]
    exact alloc2_new _ _ _
  have hbp : Boxed A (w.heap.size + 1 + 1) 90 (.pointer (some ⟨w.heap.size, 0, none⟩)) := by
    have := Boxed.new ((w.alloc (.cells x.cells 27)).alloc (.cells Pt.nil.cells 27)) 90 (.pointer (some ⟨w.heap.size, 0, none⟩))
    rw [World.size_alloc, World.size_alloc, hA] at this
    exact this
  show Code.wpIn _ _ _ _ _ _ (((w.alloc (.cells x.cells 27)).alloc (.cells Pt.nil.cells 27)).alloc (.cells #[.pointer (some ⟨w.heap.size, 0, none⟩)] 90))
  rw [hA]
  have hXI := hX.inn.below hB
  refine nodesP_walk (ι := Pt) (w.heap.size + 1 + 1) w.heap.size 0 x Pt.n Pt.c Pt.size (CopPPre w.heap.size) (CopP w.heap.size) (CopPMid w.heap.size) (CopPPost w.heap.size)
    rfl rfl hbp.cell Pt.size_part (fun v b o W B hag h => h.ag hag (by omega)) (fun v b o W B B' W' hag hag' h => h.ag hag hag' (by omega)) (fun v b o W W' B hag h => h.ag hag (by omega))
    (fun W hW hs => ⟨hnode.below hW (by omega), hXI.below (hW.mono (by omega)), Nat.le_refl _, hfree.kept (T := fun k => k < A.heap.size) (Kp.of_below hW fun _ h => h) (by omega), hsm, by omega⟩)
    (fun d b o => { tmps := #[x.val, .pointer (some ⟨w.heap.size, 0, none⟩), .pointer (some ⟨w.heap.size + 1, 0, none⟩), undef, .pointer (some ⟨b, o, none⟩), .func (.func 97) #[] #[.pointer (some ⟨w.heap.size + 1 + 1, 0, none⟩)], .int .i64 d, .pointer (some ⟨b, o, none⟩), undef, undef, undef, undef, undef, undef, undef, undef, undef], defers := [] }) ?_ ?_
    (fun v b o W W' hp hg => hg.mid hp) ?_ (fun v b o W a cap i Wi h hi => h.next hi) (fun v b o W a cap Wi h => h.done) ?_
  · intro l d b o W K hK
    gi_wp2
    first | exact hK | simpa using hK
  · rintro l d b o v W ⟨p1, p2, p3, p4, p5, p6⟩ hs ⟨u2, b2⟩ ⟨u3, b3⟩
    have hnv : v.n ≤ 1759218604390 := ((wdP_eq v).1 p5).1
    have hcl := cloneP_wide v.a v.n v.cap v.c W (fun i hi => by obtain ⟨b', o', e, _, hn, _⟩ := ((pIn_eq _ _ _).1 p2).2.2 i hi; exact ⟨b', o', e, hn⟩) hnv
    have ne2 := p4.ne b2 (by decide)
    have ne3 := p4.ne b3 (by decide)
    have HP := p1
    obtain ⟨d0, d1, d2, d3, d4, d5⟩ := p1
    gi_wp2_with (refine ⟨trivial, hdd _, ?_⟩; gi_at_call 47; refine (CallsIn.inRound l (callsIn_wide.2 hcl)).mono ?_; clear hcl; rintro e W1 ⟨v1, rfl, ho, hB1⟩; obtain ⟨a1, cap1, rfl, hq1, hq2, hq3⟩ := ownP_nodes ho; clear ho; have d5' := (HP.later hB1).2.2.2.2.2; have ff := (p4.kept (T := fun k => k < W.heap.size) (Kp.of_below hB1 fun _ h => h) p4.lt).frozen (o + 5))
    have hW1 : Below w.heap.size W W1 := hB1.mono p6
    have kb : KbP b (o + 5) (fun _ => False) W W1 := .of_below _ _ _ hB1
    refine ⟨((KeepsOthers.mk hB1.size fun k o ho _ => (hB1.block k (Array.getElem?_eq_some_iff.1 ho).1).trans ho).trans (KeepsOthers.setCell _ _ _)).from _, ?_, a1, cap1, ?_, hq1, hq2, fun h0 => ?_, hW1.setCell (p := ⟨b, o + 5, none⟩) p3 _, kb.trans (KbP.set _ _ _ _ _)⟩
    · refine Kp.trans (fun k o _ _ ho => (hB1.block k (Array.getElem?_eq_some_iff.1 ho).1).trans ho) (Kp.set _ ?_)
      rintro (h | h)
      · omega
      · omega
    · obtain ⟨e0, e1, e2, e3, e4, e5⟩ := HP.later hB1
      refine ⟨?_, ?_, ?_, ?_, ?_, World.cell?_setCell_same _ _ _ e5⟩
      · exact (World.cell?_setCell_other _ _ _ _ (by intro e; injection e with _ e; omega)).trans e0
      · exact (World.cell?_setCell_other _ _ _ _ (by intro e; injection e with _ e; omega)).trans e1
      · exact (World.cell?_setCell_other _ _ _ _ (by intro e; injection e with _ e; omega)).trans e2
      · exact (World.cell?_setCell_other _ _ _ _ (by intro e; injection e with _ e; omega)).trans e3
      · exact (World.cell?_setCell_other _ _ _ _ (by intro e; injection e with _ e; omega)).trans e4
    · obtain ⟨g, eg, r1, r2, r3, r4⟩ := hq3 h0
      have hne : g ≠ b := by have := p4.lt; omega
      exact ⟨g, eg, r1, by rw [World.size_setCell]; exact r2, r3.set, fun i hi => (r4 i hi).kept (T := fun k => k ≠ b) (Kp.set _ (by simp)) hne⟩
  · rintro v b o W a cap i Wi ⟨c, h1, h2, h3, -⟩
    exact ⟨by unfold maxLen at h3; omega, h1.2.2.2.2.2⟩
  · rintro D W2 W hD hW2 hs ⟨y, h1, h2, h3, h4, h5, h6⟩ hK
    have g1 := h1.at0
    have hres2 : W.heap[w.heap.size + 1]? = some (.cells Pt.nil.cells 27 (0, 0)) := h6.oth _ _ ⟨by omega, fun h => h⟩ rfl ((hW2.block _ (by omega)).trans hres)
    have g2 : NodeP W (w.heap.size + 1) 0 Pt.nil := nodeP_box hres2
    have gf : ∀ j, W.frozen? ⟨w.heap.size + 1, j, none⟩ = false := fun j => FreeP.frozen ⟨_, hres2⟩ j
    obtain ⟨d0, d1, d2, d3, d4, d5⟩ := g1
    have g2' := g2.at0
    obtain ⟨e0, e1, e2, e3, e4, e5⟩ := g2'
    have f0 := gf 0
    have f1 := gf 1
    have f2 := gf 2
    have f3 := gf 3
    have f4 := gf 4
    have f5 := gf 5
    have hblk : (set6 W (w.heap.size + 1) y).heap[w.heap.size + 1]? = some (.cells y.cells 27 (0, 0)) := heap_set6 hres2
    have hK' : (set6 W (w.heap.size + 1) y).heap[D]? = some (.deferred (some [])) := (heap_set6_other (by omega)).trans hK
    have hBf : Below w.heap.size w (set6 W (w.heap.size + 1) y) := below_set6 ((hB.trans (hW2.mono (by omega))).trans h5) (by omega)
    have hkp : Kp (fun k => k ≠ w.heap.size + 1) W ((set6 W (w.heap.size + 1) y).putObj D (.deferred none)) := fun k ob hk ho e => by
      have hne : k ≠ D := by rintro rfl; rw [hK] at e; cases e; cases ho
      exact (World.putObj_heap_other hne).trans ((heap_set6_other hk).trans e)
    gi_wp2
    refine ⟨by simp, .inl ⟨_, _, rfl, run_takeDeferred hK', ?_⟩⟩
    exact ⟨_, end6 rfl rfl hblk (by omega), y, rfl, h2.kept hkp (fun k hk => by have := h4 k hk; omega), h3, fun k hk => by have := h4 k hk; omega, hBf.trans (belowK_b (w := w) (Nat.le_refl _) _ D _ _ (by omega) hK' rfl rfl)⟩
theorem copiedP_wide (x : Pt) (w : World) (hX : IsP w x) (hsm : WdP x) : Calls Try.prog 69 #[x.val] w fun e w' => ∃ y : Pt, e = .returned y.val ∧ PA w' y ∧ Sm y x ∧ (∀ k, inP k y → w.heap.size ≤ k) ∧ Below w.heap.size w w' :=
  (callsIn_wide (n := 3)).1 (copiedP_inW 3 x w hX hsm)
end Go.Proofs.Ytcdehohmgfocdaa
namespace Go.Proofs.Ytcdehohmgfocdaa
open Go.RowKit

/-- The part that is reached by the first places of a way. -/
def atK (x : Pt) (Z : Nat → Int) : Nat → Option Pt
  | 0 => some x
  | k + 1 => match atK x Z k with
    | none => none
    | some y => if 0 ≤ Z k ∧ Z k < y.n then some (y.c (Z k).toNat) else none
theorem atK_yes {x y : Pt} {Z : Nat → Int} {k i : Nat} (h : atK x Z k = some y) (hi : Z k = i) (hn : i < y.n) : atK x Z (k + 1) = some (y.c i) := by
  simp only [atK, h]
  rw [if_pos ⟨by omega, by omega⟩, hi]
  rfl
theorem atK_no {x y : Pt} {Z : Nat → Int} {k : Nat} (h : atK x Z k = some y) (hn : ¬ (0 ≤ Z k ∧ Z k < y.n)) : atK x Z (k + 1) = none := by
  simp only [atK, h]
  rw [if_neg hn]
theorem atK_none {x : Pt} {Z : Nat → Int} {k : Nat} (h : atK x Z k = none) : ∀ m, k ≤ m → atK x Z m = none
  | 0, hm => by obtain rfl : k = 0 := by omega
                exact h
  | m + 1, hm => by
    by_cases e : k = m + 1
    · exact e ▸ h
    · simp only [atK, atK_none h m (by omega)]
/-- What is at the end of a way lies where parts lie, and is no greater. -/
theorem atK_part {x y : Pt} {Z : Nat → Int} : ∀ {k : Nat}, atK x Z k = some y → y.size ≤ x.size
  | 0, h => by simp only [atK] at h; cases h; exact Nat.le_refl _
  | k + 1, h => by
    simp only [atK] at h
    cases e : atK x Z k with
    | none => rw [e] at h; cases h
    | some z =>
      rw [e] at h
      simp only at h
      by_cases hc : 0 ≤ Z k ∧ Z k < z.n
      · rw [if_pos hc] at h
        cases h
        have := z.size_part (Z k).toNat (by omega)
        have := atK_part e
        omega
      · rw [if_neg hc] at h; cases h
theorem results_row_tmp {P : Program} {fn : Func} {p u : Tmp} {ty : TypeId} (h : fn.results = #[.cell p ty, .tmp u]) (tmps : Array Value) (w : World) (g : Nat) (t : TypeId) (cs : Array Value) (fr : Nat × Nat) (d : TypeDesc)
    (hp : tmps.getD p undef = .pointer (some ⟨g, 0, none⟩)) (hg : w.heap[g]? = some (.cells cs t fr))
    (hu : P.underlying ty = some d) (hd : (match d with | .struct _ | .array _ _ => true | _ => false) = true) (hi : (P.info? ty).map (·.size) = some cs.size) :
    (results fn tmps).run P w = .ok (.tuple #[.agg cs, tmps.getD u undef]) w := by
  rw [results_cell_tmp h, hp]
  simp [asAddr, run_loadVar_row w g t ty cs fr d hg hu hd hi]
/-- The zero pattern's cells. -/
abbrev zeroP : Array Value := #[.int .i64 0, .string ⟨#[]⟩, .string ⟨#[]⟩, .int .i64 0, .int .i64 0, .slice none 0 0]
theorem boxP_res (x : Pt) (w : World) : ∃ A, (w.alloc (.cells x.cells 27)).alloc (.cells zeroP 27) = A ∧ Below w.heap.size w A ∧ A.heap.size = w.heap.size + 2 ∧ NodeP A w.heap.size 0 x ∧ A.heap[w.heap.size + 1]? = some (.cells zeroP 27 (0, 0)) :=
  ⟨_, rfl, ((Below.refl _ w).alloc (Nat.le_refl _) _).alloc (by simp) _, by simp, (nodeP_new w _ x).later ((Below.refl _ _).alloc (Nat.le_refl _) _), alloc2_new _ _ _⟩
/-- The six cells of the box for the answer. -/
theorem zero_cells {w : World} {B : Nat} (h : w.heap[B]? = some (.cells zeroP 27 (0, 0))) : (w.cell? ⟨B, 0, none⟩ = some (.int .i64 0) ∧ w.cell? ⟨B, 1, none⟩ = some (.string ⟨#[]⟩) ∧ w.cell? ⟨B, 2, none⟩ = some (.string ⟨#[]⟩) ∧ w.cell? ⟨B, 3, none⟩ = some (.int .i64 0) ∧ w.cell? ⟨B, 4, none⟩ = some (.int .i64 0) ∧ w.cell? ⟨B, 5, none⟩ = some (.slice none 0 0)) ∧
    w.frozen? ⟨B, 0, none⟩ = false ∧ w.frozen? ⟨B, 1, none⟩ = false ∧ w.frozen? ⟨B, 2, none⟩ = false ∧ w.frozen? ⟨B, 3, none⟩ = false ∧ w.frozen? ⟨B, 4, none⟩ = false ∧ w.frozen? ⟨B, 5, none⟩ = false := by
  refine ⟨nodeP_box (x := .nil) h |>.at0, ?_, ?_, ?_, ?_, ?_, ?_⟩ <;> exact FreeP.frozen ⟨_, h⟩ _
theorem atK_wd {x y : Pt} {Z : Nat → Int} (hx : WdP x) : ∀ {k : Nat}, atK x Z k = some y → WdP y
  | 0, h => by simp only [atK] at h; cases h; exact hx
  | k + 1, h => by
    simp only [atK] at h
    cases e : atK x Z k with
    | none => rw [e] at h; cases h
    | some z =>
      rw [e] at h
      simp only at h
      by_cases hc : 0 ≤ Z k ∧ Z k < z.n
      · rw [if_pos hc] at h
        cases h
        exact ((wdP_eq z).1 (atK_wd hx e)).2 _ (by omega)
      · rw [if_neg hc] at h; cases h
set_option maxRecDepth 100000 in
set_option maxHeartbeats 4000000 in
theorem at_yesW (x y : Pt) (a : Option Addr) (m cap : Nat) (Z : Nat → Int) (w : World) (hX : IsP w x) (hsm : WdP x) (hZ : Ints .i64 w a m Z) (hm : m ≤ 9223372036854775807) (hy : atK x Z m = some y) :
    Calls Try.prog 49 #[x.val, .slice a m cap] w fun e w' => ∃ q : Pt, e = .returned (.tuple #[q.val, .bool true]) ∧ PA w' q ∧ Sm q y ∧ (∀ k, inP k q → w.heap.size ≤ k) ∧ Below w.heap.size w w' := by
  obtain ⟨A, hA, hB, hs, hn, hr⟩ := boxP_res x w
  have HB : Hid (Below w.heap.size w A) := hB
  have HN : Hid (NodeP A w.heap.size 0 x) := hn
  have HX : Hid (IsP A x) := hX.later hB
  have HR : Hid (A.heap[w.heap.size + 1]? = some (.cells zeroP 27 (0, 0))) := hr
  have HZ : Hid (Ints .i64 A a m Z) := fun h0 => by
    obtain ⟨b, o, e, hc⟩ := hZ h0
    exact ⟨b, o, e, fun j hj => ⟨cell_later (hc j hj).1 hB, (hc j hj).2⟩⟩
  have HY : Hid (atK x Z m = some y) := hy
  have HS : Hid (A.heap.size = w.heap.size + 2) := hs
  clear hB hn hX hr hZ hy
  go_enter Try.func49, Try.ntmps49
  go_wp2
  go_loopw [6, 11] (fun u v wr => ∃ (k b o : Nat) (z : Pt), k ≤ m ∧ u = .pointer (some ⟨b, o, none⟩) ∧ v = .int .i64 k ∧ Hid (atK x Z k = some z) ∧ Hid (NodeP A b o z) ∧ Hid (IsP A z) ∧ wr = A) (fun _ v _ => m - (intOf v).toNat)
  case atStart => exact ⟨0, _, _, x, Nat.zero_le _, rfl, rfl, rfl, HN, HX, rfl⟩
  case round =>
    obtain ⟨k, b, o, z, hk, rfl, rfl, HK, HNZ, HXZ, hwr⟩ := hrel
    subst hwr
    by_cases hkm : k < m
    · obtain ⟨b1, o1, rfl, hc⟩ := HZ.out (by omega)
      have ck := (hc k hkm).1
      have hin : 0 ≤ Z k ∧ Z k < z.n := Classical.byContradiction fun h => by
        have := atK_none (atK_no HK.out h) m hkm
        rw [HY.out] at this
        cases this
      obtain ⟨i, hi⟩ : ∃ i : Nat, Z k = i := ⟨(Z k).toNat, by omega⟩
      rw [hi] at ck hin
      have hin2 : i < z.n := by omega
      have HK1 : Hid (atK x Z (k + 1) = some (z.c i)) := atK_yes HK.out hi hin2
      obtain ⟨d0, d1, d2, d3, d4, d5⟩ := HNZ.out
      obtain ⟨b2, o2, ea, hn2, hx2⟩ := HXZ.out.part hin2
      have hzl := HXZ.out.len
      rw [ea] at d5
      have HN2 : Hid (NodeP wr b2 (o2 + i * 6) (z.c i)) := hn2
      have HX2 : Hid (IsP wr (z.c i)) := hx2
      have HKM : Hid (k < m) := hkm
      clear hc hin hi ea hn2 hx2 d0 d1 d2 d3 d4
      go_wp2
      go_roundw
      case rel => exact ⟨k + 1, b2, o2 + i * 6, z.c i, HKM.out, by simp, by go_num, HK1, HN2, HX2, by first | trivial | rfl⟩
      case measure => have := HKM.out; simp [intOf]; omega
    · obtain rfl : k = m := by omega
      have hzy : z = y := by have := HK.out.symm.trans HY.out; injection this
      subst hzy
      obtain ⟨d0, d1, d2, d3, d4, d5⟩ := HNZ.out
      have hc := copiedP_wide z wr HXZ.out (atK_wd hsm HY.out)
      go_wp2_with (go_at_call 69; refine hc.mono ?_; clear hc; rintro e w2 ⟨q, rfl, hPA, hSm, hin, hB2⟩; have hr2 := (hB2.block (w.heap.size + 1) (by have := HS.out; omega)).trans HR.out; obtain ⟨⟨g0, g1, g2, g3, g4, g5⟩, f0, f1, f2, f3, f4, f5⟩ := zero_cells hr2)
      have hblk : (set6 w2 (w.heap.size + 1) q).heap[w.heap.size + 1]? = some (.cells q.cells 27 (0, 0)) := heap_set6 (z := .nil) hr2
      refine bodyPost_ret (results_row_tmp rfl _ _ (w.heap.size + 1) 27 _ (0, 0) _ rfl hblk Try.underlying27 rfl (by kernel_rfl)) rfl ?_
      refine ⟨q, rfl, hPA.kept (T := fun k => k ≠ w.heap.size + 1) (fun k o hk _ e => (heap_set6_other hk).trans e) (fun k hk => by have := hin k hk; have := HS.out; omega), hSm, fun k hk => by have := hin k hk; have := HS.out; omega, below_set6 (HB.out.trans (hB2.mono (by have := HS.out; omega))) (by omega)⟩
end Go.Proofs.Ytcdehohmgfocdaa
namespace Go.Proofs.Ytcdehohmgfocdaa
open Go.RowKit Go.Shelf
attribute [local go_sem] Oper.semAt_some

theorem Ag.mono {B B' : Nat} {W A : World} (h : Ag B' W A) (hB : B ≤ B') : Ag B W A := ⟨h.os, h.tape, h.output, h.size, fun k hk => h.low k (by omega), h.cells⟩
theorem KeepsTo.drew (B B' : Nat) (W : World) : KeepsTo B B' W W.drew := fun _ _ _ _ h _ => h
end Go.Proofs.Ytcdehohmgfocdaa
namespace Go.Proofs.Ytcdehohmgfocdaa
open Go.RowKit Go.ChangeShapes Go.WideShapes

section
variable {H : Type} {enc : TypeId × Value → H} {w : World} {base : Nat} {spare : Nat → Bool} {held : Bool}
theorem pat_under : ∃ f0 f1 f2 f3 f4 f5 : Field, Try.prog.underlying 27 = some (.struct #[f0, f1, f2, f3, f4, f5]) ∧ f0.offset = 0 ∧ f1.offset = 1 ∧ f2.offset = 2 ∧ f3.offset = 3 ∧ f4.offset = 4 ∧ f5.offset = 5 ∧ f0.type = 3 ∧ f1.type = 9 ∧ f2.type = 9 ∧ f3.type = 3 ∧ f4.type = 3 ∧ f5.type = 22 := ⟨_, _, _, _, _, _, Try.underlying27, rfl, rfl, rfl, rfl, rfl, rfl, rfl, rfl, rfl, rfl, rfl, rfl⟩
theorem cells_p : Try.prog.cellsOf 27 = 6 := by kernel_rfl
theorem cells_pl : Try.prog.cellsOf 22 = 1 := by kernel_rfl
end
end Go.Proofs.Ytcdehohmgfocdaa
namespace Go.Proofs.Ytcdehohmgfocdaa
open Go.RowKit Go.ChangeShapes Go.WideShapes

section
variable {H : Type} {enc : TypeId × Value → H} {w : World} {base : Nat} {spare : Nat → Bool} {held : Bool}
theorem bytes_p : Try.prog.bytesOf 27 = 80 := by kernel_rfl
/-- What comes in at a place, by the form's own reach. -/
theorem weigh {ts : List TypeId} {ds : List (DataW H)} {t : TypeId} {d : DataW H} {j : Nat} (hsz : (DataW.weightsEach Try.prog ts ds).all (· ≤ reachBytes) = true) (ht : ts[j]? = some t) (hd : ds[j]? = some d) : ∀ n ∈ d.weights Try.prog t, n ≤ 140737488351232 := fun n hn => by
  have := List.all_eq_true.1 hsz n (DataW.weights_mem_each ht hd n hn)
  exact of_decide_eq_true this
set_option maxRecDepth 100000 in
/-- A pattern's cells, read: as a tree, its rows within the form's own reach. -/
theorem trod_pw : ∀ (m fuel : Nat) (cs : List Value) (x : DataW H × List MemPlace), DataW.trod enc Try.prog w base spare held fuel 27 cs = some x → (∀ n ∈ x.1.weights Try.prog 27, n ≤ 140737488351232) → Rows.uptoBulk x.1 ≤ m →
    ∃ q : Pt, cs = [.int .i64 q.k, .string q.s, .string q.t, .int .i64 q.lo, .int .i64 q.hi, .slice q.a q.n q.cap] ∧ IsP w q ∧ WdP q ∧ POk q := by
  intro m
  induction m with
  | zero =>
    intro fuel cs x h hwt hm
    obtain ⟨f0, f1, f2, f3, f4, f5, hu, -⟩ := pat_under
    obtain ⟨xs, n, rfl, rfl, -⟩ := DataW.trod_struct hu h
    simp [Rows.uptoBulk] at hm
  | succ m ih =>
    intro fuel cs x h hwt hm
    obtain ⟨f0, f1, f2, f3, f4, f5, hu, o0, o1, o2, o3, o4, o5, t0, t1, t2, t3, t4, t5⟩ := pat_under
    obtain ⟨xs, n, rfl, rfl, hl, hlen, hf⟩ := DataW.trod_struct hu h
    rw [cells_p] at hl
    match xs, hlen, cs, hl with
    | [y0, y1, y2, y3, y4, y5], _, [c0, c1, c2, c3, c4, c5], _ =>
      have hb : Rows.uptoBulk y5.1 + 1 ≤ Rows.uptoBulk (DataW.agg (H := H) ([y0, y1, y2, y3, y4, y5].map (·.1))) := by
        simp only [List.map_cons, List.map_nil, Rows.uptoBulk, Rows.uptoBulkAll]
        omega
      have hw5 : ∀ n ∈ y5.1.weights Try.prog 22, n ≤ 140737488351232 := fun n hn => hwt n (by
        have h1 : n ∈ y5.1.weights Try.prog f5.type := by rw [t5]; exact hn
        simp only [DataW.weights, hu, List.map_cons, List.map_nil, DataW.weightsEach, List.mem_append]
        exact .inr (.inr (.inr (.inr (.inr (.inl h1))))))
      dsimp only at hm ⊢
      clear h hwt
      generalize Rows.uptoBulk (DataW.agg (H := H) ([y0, y1, y2, y3, y4, y5].map (·.1))) = M at hb hm ⊢
      have g0 := hf 0 f0 rfl
      have g1 := hf 1 f1 rfl
      have g2 := hf 2 f2 rfl
      have g3 := hf 3 f3 rfl
      have g4 := hf 4 f4 rfl
      have g5 := hf 5 f5 rfl
      rw [o0, t0, cells_i] at g0
      rw [o1, t1, cells_s] at g1
      rw [o2, t2, cells_s] at g2
      rw [o3, t3, cells_i] at g3
      rw [o4, t4, cells_i] at g4
      rw [o5, t5, cells_pl] at g5
      simp at g0 g1 g2 g3 g4 g5
      obtain ⟨k, e0, rfl, w0⟩ := DataW.trod_int Try.underlying3 g0
      obtain ⟨s, e1, rfl, w2⟩ := DataW.trod_string Try.underlying9 g1
      obtain ⟨t, e2, rfl, w3⟩ := DataW.trod_string Try.underlying9 g2
      obtain ⟨lo, e3, rfl, _⟩ := DataW.trod_int Try.underlying3 g3
      obtain ⟨hi, e5, rfl, _⟩ := DataW.trod_int Try.underlying3 g4
      simp at e0 e1 e2 e3 e5
      subst e0 e1 e2 e3 e5
      rcases Deep.open_slice Try.underlying22 g5 with ⟨e4, _⟩ | ⟨a, len, cap, mm, nn, D, Pl, e4, _, hl4, hcm, hmm, rfl, hx⟩
      · simp at e4
        subst e4
        exact ⟨.mk k s t lo hi none 0 0 (fun _ => .nil), rfl, ⟨by omega, by omega, fun i hi => by omega⟩, ⟨by omega, fun i hi => by omega⟩, w2, w3, fun i hi => by omega⟩
      · simp at e4
        subst e4
        have hlm : len ≤ mm := by rw [hmm]; split <;> omega
        have hB : sumN (fun i => Rows.uptoBulk (D i)) len + 1 ≤ Rows.uptoBulk (DataW.slice (H := H) ((List.range len).map D) ((List.range (mm - len)).map fun j => D (len + j))) := by
          simp only [Rows.uptoBulk, bulk_range]
          omega
        simp only at hb hw5
        have hwr : len ≤ 1759218604390 := by
          have := hw5 _ (by simp only [DataW.weights, Try.underlying22]; exact List.mem_cons_self ..)
          rw [bytes_p] at this
          simp at this
          omega
        have hwe : ∀ i, i < len → ∀ n ∈ (D i).weights Try.prog 27, n ≤ 140737488351232 := fun i hi n hn => hw5 n (by
          simp only [DataW.weights, Try.underlying22, List.mem_cons, List.mem_append]
          exact .inr (.inl (mem_weightsAll (List.mem_map.2 ⟨i, List.mem_range.2 hi, rfl⟩) hn)))
        have each : ∀ i, i < len → ∃ q : Pt, w.cell? (a.add (i * 6)) = some (.int .i64 q.k) ∧ w.cell? (a.add (i * 6 + 1)) = some (.string q.s) ∧ w.cell? (a.add (i * 6 + 2)) = some (.string q.t) ∧ w.cell? (a.add (i * 6 + 3)) = some (.int .i64 q.lo) ∧
            w.cell? (a.add (i * 6 + 4)) = some (.int .i64 q.hi) ∧ w.cell? (a.add (i * 6 + 5)) = some (.slice q.a q.n q.cap) ∧ IsP w q ∧ WdP q ∧ POk q := by
          intro i hi
          obtain ⟨cs', h1, h2⟩ := hx i (by omega)
          rw [cells_p] at h1
          obtain ⟨_, hlen, hcell⟩ := World.cells?_some h1
          have hle := sumN_le (f := fun i => Rows.uptoBulk (D i)) hi
          obtain ⟨q, rfl, hq, hqs, hqo⟩ := ih _ _ _ h2 (hwe i hi) (by simp only; omega)
          have d0 := hcell 0 (by omega)
          have d1 := hcell 1 (by omega)
          have d2 := hcell 2 (by omega)
          have d3 := hcell 3 (by omega)
          have d4 := hcell 4 (by omega)
          have d5 := hcell 5 (by omega)
          rw [Deep.add_add] at d0 d1 d2 d3 d4 d5
          exact ⟨q, by simpa using d0, by simpa using d1, by simpa using d2, by simpa using d3, by simpa using d4, by simpa using d5, hq, hqs, hqo⟩
        have : Inhabited Pt := ⟨.nil⟩
        obtain ⟨q, hq⟩ := Deep.choose_lt each
        refine ⟨.mk k s t lo hi (some a) len cap q, rfl, ⟨hl4, by unfold maxLen at hcm; omega, fun i hi => ?_⟩, ⟨hwr, fun i hi => (hq i hi).2.2.2.2.2.2.2.1⟩, w2, w3, fun i hi => (hq i hi).2.2.2.2.2.2.2.2⟩
        · obtain ⟨b, off, spot⟩ := a
          obtain ⟨d0, d1, d2, d3, d4, d5, hi1, hi2, -⟩ := hq i hi
          have hspot : spot = none := by simpa [Addr.add] using World.cell?_spot (hq 0 (by omega)).1
          subst hspot
          rw [add_none] at d0 d1 d2 d3 d4 d5
          refine ⟨b, off, rfl, ⟨?_, ?_, ?_, ?_, ?_, ?_⟩, hi1⟩
          · exact d0
          · rw [Nat.add_assoc]; exact d1
          · rw [Nat.add_assoc]; exact d2
          · rw [Nat.add_assoc]; exact d3
          · rw [Nat.add_assoc]; exact d4
          · rw [Nat.add_assoc]; exact d5
end
end Go.Proofs.Ytcdehohmgfocdaa
