/-
  expr.copied.
  pat.Rename: the second range, which writes into the copies; of no function.
  pat.named: a range over the nodes that have a Var.
  pat.Size.
  Patterns that came in.
-/
import Derived.Test.YtjclelmbpmlioaaJPatMath
import Derived.Test.YtjclelmbpmlioaaJNamesMath
import Derived.Deep.Strs
namespace Go.Proofs.Ytjclelmbpmlioaa
open Go.RowKit Go.Shelf
attribute [local go_sem] Oper.semAt_some

/-- What a round of expr.copied does: the node's parts lie in a row of their own now. -/
def CopP (N0 : Nat) (v : Pt) (b o : Nat) (W W' : World) : Prop :=
  ∃ a cap, NodeP W' b o (v.at a cap v.c) ∧ v.n ≤ cap ∧ cap ≤ maxLen ∧ (0 < v.n → ∃ g, a = some ⟨g, 0, none⟩ ∧ W.heap.size ≤ g ∧ g < W'.heap.size ∧ FreeP W' g ∧ ∀ i, i < v.n → NodeP W' g (i * 6) (v.c i)) ∧ Below N0 W W' ∧ KbP b (o + 5) (fun _ => False) W W'
/-- Ahead of it. -/
def CopPPre (N0 : Nat) (v : Pt) (b o : Nat) (W : World) : Prop := NodeP W b o v ∧ PIn N0 W v ∧ N0 ≤ b ∧ FreeP W b ∧ WdP v ∧ N0 ≤ W.heap.size
/-- The first i parts are copies. -/
def CopPMid (N0 : Nat) (v : Pt) (b o : Nat) (W : World) (a : Option Addr) (cap i : Nat) (Wi : World) : Prop :=
  ∃ c : Nat → Pt, NodeP Wi b o (v.at a cap v.c) ∧ v.n ≤ cap ∧ cap ≤ maxLen ∧ i ≤ v.n ∧
    (0 < v.n → ∃ g, a = some ⟨g, 0, none⟩ ∧ W.heap.size ≤ g ∧ g < Wi.heap.size ∧ FreeP Wi g ∧ (∀ j, j < i → NodeP Wi g (j * 6) (c j) ∧ ¬ inP g (c j)) ∧ (∀ j, i ≤ j → j < v.n → NodeP Wi g (j * 6) (v.c j))) ∧
    (∀ j, j < i → PA Wi (c j) ∧ Sm (c j) (v.c j) ∧ (∀ k, inP k (c j) → W.heap.size ≤ k ∧ k < Wi.heap.size) ∧ ∀ j', j' < i → j' ≠ j → ∀ k, inP k (c j) → ¬ inP k (c j')) ∧
    Below N0 W Wi ∧ KbP b (o + 5) (fun _ => False) W Wi ∧ PIn N0 Wi v ∧ N0 ≤ b ∧ b < W.heap.size ∧ WdP v ∧ N0 ≤ W.heap.size
/-- Behind it. -/
def CopPPost (N0 : Nat) (v : Pt) (b o : Nat) (W W' : World) : Prop :=
  ∃ y, NodeP W' b o y ∧ PA W' y ∧ Sm y v ∧ (∀ k, inP k y → W.heap.size ≤ k ∧ k < W'.heap.size) ∧ Below N0 W W' ∧ KbP b (o + 5) (fun _ => False) W W'
theorem CopPPre.ag {N0 B : Nat} {v : Pt} {b o : Nat} {W A : World} (h : Ag B W A) (hN : N0 ≤ B) (hp : CopPPre N0 v b o W) : CopPPre N0 v b o A := by
  obtain ⟨h1, h2, h3, h4, h5, h6⟩ := hp
  exact ⟨h1.ag h, h2.below (h.below hN (Below.refl _ _)), h3, h4.ag h, h5, by rw [h.size]; exact h6⟩
theorem CopP.ag {N0 B : Nat} {v : Pt} {b o : Nat} {W A A' W' : World} (h : Ag B W A) (h' : Ag B A' W') (hN : N0 ≤ B) (hp : CopP N0 v b o A A') : CopP N0 v b o W W' := by
  obtain ⟨a, cap, h1, h2, h3, h4, h5, h6⟩ := hp
  refine ⟨a, cap, h1.ag h', h2, h3, fun h0 => ?_, h.below_from hN (h'.below hN h5), KbP.ag h h' h6⟩
  obtain ⟨g, e, q1, q2, q3, q4⟩ := h4 h0
  exact ⟨g, e, by rw [← h.size]; exact q1, by rw [h'.size]; exact q2, q3.ag h', fun i hi => (q4 i hi).ag h'⟩
theorem CopPPost.ag {N0 B : Nat} {v : Pt} {b o : Nat} {W W' A : World} (h : Ag B W' A) (hN : N0 ≤ B) (hp : CopPPost N0 v b o W W') : CopPPost N0 v b o W A := by
  obtain ⟨y, h1, h2, h3, h4, h5, h6⟩ := hp
  exact ⟨y, h1.ag h, h2.ag h, h3, fun k hk => by rw [h.size]; exact h4 k hk, h.below hN h5, KbP.ag (Ag.refl B W) h h6⟩
theorem CopP.mid {N0 : Nat} {v : Pt} {b o : Nat} {W W' : World} (hp : CopPPre N0 v b o W) (h : CopP N0 v b o W W') : ∃ a cap, CopPMid N0 v b o W a cap 0 W' := by
  obtain ⟨p1, p2, p3, p4, p5, p6⟩ := hp
  obtain ⟨a, cap, h1, h2, h3, h4, h5, h6⟩ := h
  refine ⟨a, cap, v.c, h1, h2, h3, Nat.zero_le _, fun h0 => ?_, fun j hj => absurd hj (Nat.not_lt_zero _), h5, h6, p2.below h5, p3, p4.lt, p5, p6⟩
  obtain ⟨g, e, q1, q2, q3, q4⟩ := h4 h0
  exact ⟨g, e, q1, q2, q3, fun j hj => absurd hj (Nat.not_lt_zero _), fun j _ hj => q4 j hj⟩
theorem CopPMid.next {N0 : Nat} {v : Pt} {b o : Nat} {W : World} {a : Option Addr} {cap i : Nat} {Wi : World} (h : CopPMid N0 v b o W a cap i Wi) (hi : i < v.n) :
    ∃ b' o', a = some ⟨b', o', none⟩ ∧ CopPPre N0 (v.c i) b' (o' + i * 6) Wi.drew ∧ (∀ W', CopPPost N0 (v.c i) b' (o' + i * 6) Wi.drew W' → CopPMid N0 v b o W a cap (i + 1) W') := by
  obtain ⟨c, h1, h2, h3, h4, h5, h6, h7, h8, h9, h10, h11, h12, h13⟩ := h
  obtain ⟨g, e, q1, q2, q3, q4, q5⟩ := h5 (by omega)
  obtain ⟨b2, o2, _, _, hn2, hx2⟩ := ((pIn_eq _ _ _).1 h9).2.2 i hi
  refine ⟨g, 0, e, ⟨by rw [Nat.zero_add]; exact q5 i (Nat.le_refl _) hi, hx2.below (Below.refl _ _).drew, by omega, q3, ((wdP_eq v).1 h12).2 i hi, by have := h7.size; show N0 ≤ Wi.heap.size; omega⟩, ?_⟩
  rintro W' ⟨y, p1, p2, p3, p4, p5, p6⟩
  rw [Nat.zero_add] at p1 p6
  have p4' : ∀ k, inP k y → Wi.heap.size ≤ k ∧ k < W'.heap.size := p4
  have p5' : Below N0 Wi W' := ⟨p5.os, p5.tape, p5.output, p5.size, p5.block⟩
  have p6' : KbP g (i * 6 + 5) (fun _ => False) Wi W' := ⟨p6.oth, p6.own, p6.free, p6.size⟩
  clear p4 p5 p6
  have hWW := h8.size
  have hbg : b ≠ g := by omega
  obtain ⟨c', hc'⟩ : ∃ c' : Nat → Pt, c' = fun j => if j = i then y else c j := ⟨_, rfl⟩
  have ci : c' i = y := by rw [hc']; simp
  have cj : ∀ j, j < i → c' j = c j := fun j hj => by rw [hc']; simp only; rw [if_neg (by omega)]
  refine ⟨c', p6'.node hbg (fun h => h) h1, h2, h3, hi, fun _ => ⟨g, e, q1, Nat.lt_of_lt_of_le q2 p6'.size, p6'.free g q3, fun j hj => ?_, fun j hj1 hj2 => ?_⟩, fun j hj => ?_, h7.trans p5', h8.part p6' (.inr q1) (fun _ h => h.elim) h11 hbg (fun h => h), h9.below p5', h10, h11, h12, h13⟩
  · by_cases ej : j = i
    · subst ej
      rw [ci]
      exact ⟨p1, fun hg => by have := p4' g hg; omega⟩
    · rw [cj j (by omega)]
      obtain ⟨r1, r2⟩ := q4 j (by omega)
      exact ⟨p6'.near (fun t ht => by omega) r1, r2⟩
  · exact p6'.near (fun t ht => by omega) (q5 j (by omega) hj2)
  · by_cases ej : j = i
    · subst ej
      rw [ci]
      refine ⟨p2, p3, fun k hk => by have := p4' k hk; omega, fun j' hj' hne k hk => ?_⟩
      rw [cj j' (by omega)]
      intro hk'
      have := (h6 j' (by omega)).2.2.1 k hk'
      have := p4' k hk
      omega
    · rw [cj j (by omega)]
      obtain ⟨r1, r2, r3, r4⟩ := h6 j (by omega)
      refine ⟨r1.kept p6'.oth fun k hk => ⟨fun ek => ?_, fun h => h⟩, r2, fun k hk => by have := r3 k hk; have := p6'.size; omega, fun j' hj' hne k hk => ?_⟩
      · subst ek
        exact (q4 j (by omega)).2 hk
      · by_cases ej' : j' = i
        · subst ej'
          rw [ci]
          intro hk'
          have := r3 k hk
          have := p4' k hk'
          omega
        · rw [cj j' (by omega)]
          exact r4 j' (by omega) hne k hk
theorem CopPMid.done {N0 : Nat} {v : Pt} {b o : Nat} {W : World} {a : Option Addr} {cap : Nat} {Wi : World} (h : CopPMid N0 v b o W a cap v.n Wi) : CopPPost N0 v b o W Wi := by
  obtain ⟨c, h1, h2, h3, h4, h5, h6, h7, h8, h9, h10, h11, h12, h13⟩ := h
  refine ⟨v.at a cap c, h1, ?_, ?_, fun k hk => ?_, h7, h8⟩
  · refine ⟨h2, by unfold maxLen at h3; omega, fun i hi => ?_⟩
    obtain ⟨g, e, q1, q2, q3, q4, q5⟩ := h5 (by omega)
    obtain ⟨r1, r2, r3, r4⟩ := h6 i hi
    exact ⟨g, e, q3, (q4 i hi).1, r1, (q4 i hi).2, r4⟩
  · exact (sm_iff _ _).2 ⟨rfl, rfl, rfl, rfl, rfl, rfl, fun i hi => (h6 i hi).2.1⟩
  · rcases hk with ⟨h0, o', e'⟩ | ⟨i, hi, hk⟩
    · obtain ⟨g, e, q1, q2, _⟩ := h5 h0
      rw [e] at e'
      cases e'
      exact ⟨q1, q2⟩
    · exact (h6 i hi).2.2.1 k hk
/-- The six cells, one after the other. -/
abbrev set6 (W : World) (b : Nat) (y : Pt) : World :=
  (((((W.setCell ⟨b, 0, none⟩ (.int .i64 y.k)).setCell ⟨b, 1, none⟩ (.string y.s)).setCell ⟨b, 2, none⟩ (.string y.t)).setCell ⟨b, 3, none⟩ (.int .i64 y.lo)).setCell ⟨b, 4, none⟩ (.int .i64 y.hi)).setCell ⟨b, 5, none⟩ (.slice y.a y.n y.cap)
theorem heap_set6 {W : World} {b : Nat} {y z : Pt} {t : TypeId} (h : W.heap[b]? = some (.cells z.cells t (0, 0))) : (set6 W b y).heap[b]? = some (.cells y.cells t (0, 0)) := by
  rw [heap_set (heap_set (heap_set (heap_set (heap_set (heap_set h)))))]
  simp
theorem heap_set6_other {W : World} {b : Nat} {y : Pt} {k : Nat} (h : k ≠ b) : (set6 W b y).heap[k]? = W.heap[k]? :=
  (Below.heap_setCell _ _ _ _ h).trans ((Below.heap_setCell _ _ _ _ h).trans ((Below.heap_setCell _ _ _ _ h).trans ((Below.heap_setCell _ _ _ _ h).trans ((Below.heap_setCell _ _ _ _ h).trans (Below.heap_setCell _ _ _ _ h)))))
theorem below_set6 {n : Nat} {w W : World} {b : Nat} {y : Pt} (h : Below n w W) (hb : n ≤ b) : Below n w (set6 W b y) :=
  (((((h.setCell (p := ⟨b, 0, none⟩) hb _).setCell (p := ⟨b, 1, none⟩) hb _).setCell (p := ⟨b, 2, none⟩) hb _).setCell (p := ⟨b, 3, none⟩) hb _).setCell (p := ⟨b, 4, none⟩) hb _).setCell (p := ⟨b, 5, none⟩) hb _
/-- Behind the last store: the deferred list is taken, and the result's cells are read. -/
theorem end6 {fn : Func} {p : Tmp} {tmps : Array Value} {W : World} {b D : Nat} {y : Pt} (hr : fn.results = #[.cell p 24]) (hp : tmps.getD p undef = .pointer (some ⟨b, 0, none⟩))
    (hb : W.heap[b]? = some (.cells y.cells 24 (0, 0))) (hD : D ≠ b) : (results fn tmps).run Try.prog (W.putObj D (.deferred none)) = .ok y.val (W.putObj D (.deferred none)) :=
  results_cell_row hr tmps _ b 24 y.cells (0, 0) _ hp ((World.putObj_heap_other (fun e => hD e.symm)).trans hb) Try.underlying24 rfl (by kernel_rfl)
set_option maxRecDepth 100000 in
set_option maxHeartbeats 4000000 in
theorem copiedP_inW (n : Nat) (x : Pt) (w : World) (hX : IsP w x) (hsm : WdP x) :
    CallsIn Fence.wide n Try.prog 24 #[x.val] w fun e w' => ∃ y : Pt, e = .returned y.val ∧ PA w' y ∧ Sm y x ∧ (∀ k, inP k y → w.heap.size ≤ k) ∧ Below w.heap.size w w' := by
  have hdd : ∀ k : Nat, (Fence.wide.depth.isSome = true → 1 ≤ k) := fun k h => by cases h
  refine callsIn_of_wp_marks Try.func24 rfl trivial ?_ rfl
  simp only [Try.ntmps24, List.size_toArray, List.length_cons, List.length_nil, Nat.reduceAdd, Nat.reduceSub, Array.replicate_succ, Array.replicate_zero, List.push_toArray, List.append_toArray, List.nil_append, List.cons_append]
  gi_wp2_with (refine ⟨trivial, hdd _, ?_⟩; gi_at_call 27; refine (nodesP_in _ _ _).mono ?_; rintro e w' ⟨rfl, rfl⟩)
  obtain ⟨A, hA⟩ : ∃ A, (((w.alloc (.cells x.cells 24)).alloc (.cells Pt.nil.cells 24)).alloc (.cells #[.pointer (some ⟨w.heap.size, 0, none⟩)] 55)) = A := ⟨_, rfl⟩
  have hsz : A.heap.size = w.heap.size + 3 := by rw [← hA]; simp
  have hB : Below w.heap.size w A := by rw [← hA]; exact (((Below.refl _ w).alloc (Nat.le_refl _) _).alloc (by simp) _).alloc (by simp; omega) _
  have hnode : NodeP A w.heap.size 0 x := by
    rw [← hA]
    exact ((nodeP_new w 24 x).later ((Below.refl _ _).alloc (Nat.le_refl _) _)).later ((Below.refl _ _).alloc (Nat.le_refl _) _)
  have hfree : FreeP A w.heap.size := by
    rw [← hA]
    exact ⟨x.cells, (alloc_old (by simp; omega)).trans ((alloc_old (by simp)).trans (alloc_new _ _))⟩
  have hres : A.heap[w.heap.size + 1]? = some (.cells Pt.nil.cells 24 (0, 0)) := by
    rw [← hA, alloc_old (by simp)]
    exact alloc2_new _ _ _
  have hbp : Boxed A (w.heap.size + 1 + 1) 55 (.pointer (some ⟨w.heap.size, 0, none⟩)) := by
    have := Boxed.new ((w.alloc (.cells x.cells 24)).alloc (.cells Pt.nil.cells 24)) 55 (.pointer (some ⟨w.heap.size, 0, none⟩))
    rw [World.size_alloc, World.size_alloc, hA] at this
    exact this
  show Code.wpIn _ _ _ _ _ _ (((w.alloc (.cells x.cells 24)).alloc (.cells Pt.nil.cells 24)).alloc (.cells #[.pointer (some ⟨w.heap.size, 0, none⟩)] 55))
  rw [hA]
  have hXI := hX.inn.below hB
  refine nodesP_walk (ι := Pt) (w.heap.size + 1 + 1) w.heap.size 0 x Pt.n Pt.c Pt.size (CopPPre w.heap.size) (CopP w.heap.size) (CopPMid w.heap.size) (CopPPost w.heap.size)
    rfl rfl hbp.cell Pt.size_part (fun v b o W B hag h => h.ag hag (by omega)) (fun v b o W B B' W' hag hag' h => h.ag hag hag' (by omega)) (fun v b o W W' B hag h => h.ag hag (by omega))
    (fun W hW hs => ⟨hnode.below hW (by omega), hXI.below (hW.mono (by omega)), Nat.le_refl _, hfree.kept (T := fun k => k < A.heap.size) (Kp.of_below hW fun _ h => h) (by omega), hsm, by omega⟩)
    (fun d b o => { tmps := #[x.val, .pointer (some ⟨w.heap.size, 0, none⟩), .pointer (some ⟨w.heap.size + 1, 0, none⟩), undef, .pointer (some ⟨b, o, none⟩), .func (.func 44) #[] #[.pointer (some ⟨w.heap.size + 1 + 1, 0, none⟩)], .int .i64 d, .pointer (some ⟨b, o, none⟩), undef, undef, undef, undef, undef, undef, undef, undef, undef], defers := [] }) ?_ ?_
    (fun v b o W W' hp hg => hg.mid hp) ?_ (fun v b o W a cap i Wi h hi => h.next hi) (fun v b o W a cap Wi h => h.done) ?_
  · intro l d b o W K hK
    gi_wp2
    first | exact hK | simpa using hK
  · rintro l d b o v W ⟨p1, p2, p3, p4, p5, p6⟩ hs ⟨u2, b2⟩ ⟨u3, b3⟩
    have hnv : v.n ≤ 1759218604390 := ((wdP_eq v).1 p5).1
    have hcl := cloneP_wide v.a v.n v.cap v.c W (fun i hi => by obtain ⟨b', o', e, _, hn, _⟩ := ((pIn_eq _ _ _).1 p2).2.2 i hi; exact ⟨b', o', e, hn⟩) hnv
    have ne2 := p4.ne b2 (by decide)
    have ne3 := p4.ne b3 (by decide)
    have HP := p1
    obtain ⟨d0, d1, d2, d3, d4, d5⟩ := p1
    gi_wp2_with (refine ⟨trivial, hdd _, ?_⟩; gi_at_call 42; refine (CallsIn.inRound l (callsIn_wide.2 hcl)).mono ?_; clear hcl; rintro e W1 ⟨v1, rfl, ho, hB1⟩; obtain ⟨a1, cap1, rfl, hq1, hq2, hq3⟩ := ownP_nodes ho; clear ho; have d5' := (HP.later hB1).2.2.2.2.2; have ff := (p4.kept (T := fun k => k < W.heap.size) (Kp.of_below hB1 fun _ h => h) p4.lt).frozen (o + 5))
    have hW1 : Below w.heap.size W W1 := hB1.mono p6
    have kb : KbP b (o + 5) (fun _ => False) W W1 := .of_below _ _ _ hB1
    refine ⟨((KeepsOthers.mk hB1.size fun k o ho _ => (hB1.block k (Array.getElem?_eq_some_iff.1 ho).1).trans ho).trans (KeepsOthers.setCell _ _ _)).from _, ?_, a1, cap1, ?_, hq1, hq2, fun h0 => ?_, hW1.setCell (p := ⟨b, o + 5, none⟩) p3 _, kb.trans (KbP.set _ _ _ _ _)⟩
    · refine Kp.trans (fun k o _ _ ho => (hB1.block k (Array.getElem?_eq_some_iff.1 ho).1).trans ho) (Kp.set _ ?_)
      rintro (h | h)
      · omega
      · omega
    · obtain ⟨e0, e1, e2, e3, e4, e5⟩ := HP.later hB1
      refine ⟨?_, ?_, ?_, ?_, ?_, World.cell?_setCell_same _ _ _ e5⟩
      · exact (World.cell?_setCell_other _ _ _ _ (by intro e; injection e with _ e; omega)).trans e0
      · exact (World.cell?_setCell_other _ _ _ _ (by intro e; injection e with _ e; omega)).trans e1
      · exact (World.cell?_setCell_other _ _ _ _ (by intro e; injection e with _ e; omega)).trans e2
      · exact (World.cell?_setCell_other _ _ _ _ (by intro e; injection e with _ e; omega)).trans e3
      · exact (World.cell?_setCell_other _ _ _ _ (by intro e; injection e with _ e; omega)).trans e4
    · obtain ⟨g, eg, r1, r2, r3, r4⟩ := hq3 h0
      have hne : g ≠ b := by have := p4.lt; omega
      exact ⟨g, eg, r1, by rw [World.size_setCell]; exact r2, r3.set, fun i hi => (r4 i hi).kept (T := fun k => k ≠ b) (Kp.set _ (by simp)) hne⟩
  · rintro v b o W a cap i Wi ⟨c, h1, h2, h3, -⟩
    exact ⟨by unfold maxLen at h3; omega, h1.2.2.2.2.2⟩
  · rintro D W2 W hD hW2 hs ⟨y, h1, h2, h3, h4, h5, h6⟩ hK
    have g1 := h1.at0
    have hres2 : W.heap[w.heap.size + 1]? = some (.cells Pt.nil.cells 24 (0, 0)) := h6.oth _ _ ⟨by omega, fun h => h⟩ rfl ((hW2.block _ (by omega)).trans hres)
    have g2 : NodeP W (w.heap.size + 1) 0 Pt.nil := nodeP_box hres2
    have gf : ∀ j, W.frozen? ⟨w.heap.size + 1, j, none⟩ = false := fun j => FreeP.frozen ⟨_, hres2⟩ j
    obtain ⟨d0, d1, d2, d3, d4, d5⟩ := g1
    have g2' := g2.at0
    obtain ⟨e0, e1, e2, e3, e4, e5⟩ := g2'
    have f0 := gf 0
    have f1 := gf 1
    have f2 := gf 2
    have f3 := gf 3
    have f4 := gf 4
    have f5 := gf 5
    have hblk : (set6 W (w.heap.size + 1) y).heap[w.heap.size + 1]? = some (.cells y.cells 24 (0, 0)) := heap_set6 hres2
    have hK' : (set6 W (w.heap.size + 1) y).heap[D]? = some (.deferred (some [])) := (heap_set6_other (by omega)).trans hK
    have hBf : Below w.heap.size w (set6 W (w.heap.size + 1) y) := below_set6 ((hB.trans (hW2.mono (by omega))).trans h5) (by omega)
    have hkp : Kp (fun k => k ≠ w.heap.size + 1) W ((set6 W (w.heap.size + 1) y).putObj D (.deferred none)) := fun k ob hk ho e => by
      have hne : k ≠ D := by rintro rfl; rw [hK] at e; cases e; cases ho
      exact (World.putObj_heap_other hne).trans ((heap_set6_other hk).trans e)
    gi_wp2
    refine ⟨by simp, .inl ⟨_, _, rfl, run_takeDeferred hK', ?_⟩⟩
    exact ⟨_, end6 rfl rfl hblk (by omega), y, rfl, h2.kept hkp (fun k hk => by have := h4 k hk; omega), h3, fun k hk => by have := h4 k hk; omega, hBf.trans (belowK_b (w := w) (Nat.le_refl _) _ D _ _ (by omega) hK' rfl rfl)⟩
end Go.Proofs.Ytjclelmbpmlioaa
namespace Go.Proofs.Ytjclelmbpmlioaa
open Go.RowKit

theorem inP_ren (g : ByteArray → ByteArray) (k : Nat) : ∀ x : Pt, inP k (renP g x) ↔ inP k x := by
  refine Pt.ind fun x ih => ?_
  obtain ⟨a1, a2, a3, a4, a6, a5, a7⟩ := renP_parts g x
  rw [inP_eq, inP_eq k x, a5, (renP_slice g x).1]
  constructor
  · rintro (h | ⟨i, hi, h⟩)
    · exact .inl h
    · rw [a7] at h
      exact .inr ⟨i, hi, (ih i hi).1 h⟩
  · rintro (h | ⟨i, hi, h⟩)
    · exact .inl h
    · exact .inr ⟨i, hi, by rw [a7]; exact (ih i hi).2 h⟩
section
variable (g : ByteArray → ByteArray) (N1 B0 : Nat) (W0 : World)
/-- Ahead of a node. -/
def RePre (v : Pt) (b o : Nat) (W : World) : Prop := NodeP W b o v ∧ PA W v ∧ ¬ inP b v ∧ FreeP W b ∧ (b = B0 ∨ N1 ≤ b) ∧ (∀ k, inP k v → N1 ≤ k) ∧ POk v ∧ Lb N1 B0 W0 W
/-- What a round does. -/
def ReGo (v : Pt) (b o : Nat) (W W' : World) : Prop := NodeP W' b o (renP g v) ∧ KbP b (o + 1) (fun _ => False) W W' ∧ Lb N1 B0 W W'
/-- The first i parts have their new names. -/
def ReMid (v : Pt) (b o : Nat) (W : World) (a : Option Addr) (cap i : Nat) (Wi : World) : Prop :=
  a = v.a ∧ cap = v.cap ∧ i ≤ v.n ∧ NodeP Wi b o (renP g v) ∧ RePre N1 B0 W0 v b o W ∧
    (∀ j, j < v.n → ∃ r, v.a = some ⟨r, 0, none⟩ ∧ FreeP Wi r ∧ (j < i → NodeP Wi r (j * 6) (renP g (v.c j)) ∧ PA Wi (renP g (v.c j))) ∧ (i ≤ j → NodeP Wi r (j * 6) (v.c j) ∧ PA Wi (v.c j))) ∧
    KbP b (o + 1) (fun k => inP k v) W Wi ∧ Lb N1 B0 W Wi
/-- Behind it. -/
def RePost (v : Pt) (b o : Nat) (W W' : World) : Prop := NodeP W' b o (renP g v) ∧ PA W' (renP g v) ∧ KbP b (o + 1) (fun k => inP k v) W W' ∧ Lb N1 B0 W W'
variable {g N1 B0 W0}
theorem RePre.ag {B : Nat} {v : Pt} {b o : Nat} {W A : World} (h : Ag B W A) (hN : N1 ≤ B) (hp : RePre N1 B0 W0 v b o W) : RePre N1 B0 W0 v b o A := by
  obtain ⟨h1, h2, h3, h4, h5, h6, h7, h8⟩ := hp
  exact ⟨h1.ag h, h2.ag h, h3, h4.ag h, h5, h6, h7, Lb.ag (Ag.refl B W0) h hN h8⟩
theorem ReGo.ag {B : Nat} {v : Pt} {b o : Nat} {W A A' W' : World} (h : Ag B W A) (h' : Ag B A' W') (hN : N1 ≤ B) (hp : ReGo g N1 B0 v b o A A') : ReGo g N1 B0 v b o W W' := by
  obtain ⟨h1, h2, h3⟩ := hp
  exact ⟨h1.ag h', KbP.ag h h' h2, Lb.ag h h' hN h3⟩
theorem RePost.ag {B : Nat} {v : Pt} {b o : Nat} {W W' A : World} (h : Ag B W' A) (hN : N1 ≤ B) (hp : RePost g N1 B0 v b o W W') : RePost g N1 B0 v b o W A := by
  obtain ⟨h1, h2, h3, h4⟩ := hp
  exact ⟨h1.ag h, h2.ag h, KbP.ag (Ag.refl B W) h h3, Lb.ag (Ag.refl B W) h hN h4⟩
theorem ReGo.mid {v : Pt} {b o : Nat} {W W' : World} (hp : RePre N1 B0 W0 v b o W) (h : ReGo g N1 B0 v b o W W') : ∃ a cap, ReMid g N1 B0 W0 v b o W a cap 0 W' := by
  obtain ⟨q1, q2, q3⟩ := h
  refine ⟨v.a, v.cap, rfl, rfl, Nat.zero_le _, q1, hp, fun j hj => ?_, q2.mono fun _ h => h.elim, q3⟩
  obtain ⟨h1, h2, h3, h4, h5, h6, h7, h8⟩ := hp
  obtain ⟨r, e, hf, hn, hx, hd, _⟩ := ((pA_eq _ _).1 h2).2.2 j hj
  have hr : inP r v := (inP_eq _ _).2 (.inl ⟨by omega, 0, e⟩)
  have hne : r ≠ b := fun q => h3 (q ▸ hr)
  exact ⟨r, e, q2.free r hf, fun h => absurd h (Nat.not_lt_zero _), fun _ => ⟨q2.node hne (fun h => h) hn, hx.kept q2.oth fun k hk => ⟨fun q => h3 (q ▸ (inP_eq _ _).2 (.inr ⟨j, hj, hk⟩)), fun h => h⟩⟩⟩
theorem ReMid.next {v : Pt} {b o : Nat} {W : World} {a : Option Addr} {cap i : Nat} {Wi : World} (h : ReMid g N1 B0 W0 v b o W a cap i Wi) (hi : i < v.n) :
    ∃ b' o', a = some ⟨b', o', none⟩ ∧ RePre N1 B0 W0 (v.c i) b' (o' + i * 6) Wi.drew ∧ (∀ W', RePost g N1 B0 (v.c i) b' (o' + i * 6) Wi.drew W' → ReMid g N1 B0 W0 v b o W a cap (i + 1) W') := by
  obtain ⟨rfl, rfl, m1, m2, hp, m3, m4, m5⟩ := h
  have hp' := hp
  obtain ⟨h1, h2, h3, h4, h5, h6, h7, h8⟩ := hp
  obtain ⟨r, e, hf, hlo, hup⟩ := m3 i hi
  obtain ⟨r', e', _, _, _, hd, hapart⟩ := ((pA_eq _ _).1 h2).2.2 i hi
  rw [e] at e'
  cases e'
  have hr : inP r v := (inP_eq _ _).2 (.inl ⟨by omega, 0, e⟩)
  have hsub : ∀ k, inP k (v.c i) → inP k v := fun k hk => (inP_eq _ _).2 (.inr ⟨i, hi, hk⟩)
  have hbr : b ≠ r := fun q => h3 (q ▸ hr)
  have hl8 : Lb N1 B0 W0 Wi := h8.trans m5
  refine ⟨r, 0, e, ⟨by rw [Nat.zero_add]; exact (hup (Nat.le_refl _)).1, (hup (Nat.le_refl _)).2.later (Below.refl _ _).drew, hd, hf, .inr (h6 r hr), fun k hk => h6 k (hsub k hk), ((pOk_eq v).1 h7).2.2 i hi, ⟨hl8.os, hl8.tape, hl8.output, hl8.size, hl8.block⟩⟩, ?_⟩
  rintro W' ⟨p1, p2, p3, p4⟩
  rw [Nat.zero_add] at p1 p3
  have p3' : KbP r (i * 6 + 1) (fun k => inP k (v.c i)) Wi W' := ⟨p3.oth, p3.own, p3.free, p3.size⟩
  have p4' : Lb N1 B0 Wi W' := ⟨p4.os, p4.tape, p4.output, p4.size, p4.block⟩
  clear p3 p4
  refine ⟨rfl, rfl, hi, p3'.node hbr (fun h => h3 (hsub b h)) m2, hp', fun j hj => ?_, m4.part p3' (.inl hr) (fun k hk => .inl (hsub k hk)) h4.lt hbr (fun h => h3 (hsub b h)), m5.trans p4'⟩
  obtain ⟨r2, e2, hf2, hlo2, hup2⟩ := m3 j hj
  rw [e] at e2
  cases e2
  obtain ⟨r3, e3, _, _, _, hd3, _⟩ := ((pA_eq _ _).1 h2).2.2 j hj
  rw [e] at e3
  cases e3
  have ho : j ≠ i → ∀ k, inP k (v.c j) → k ≠ r ∧ ¬ inP k (v.c i) := fun hne k hk => ⟨fun q => hd3 (q ▸ hk), fun hk' => hapart j hj hne k hk' hk⟩
  refine ⟨r, e, p3'.free r hf2, fun hji => ?_, fun hij => ?_⟩
  · by_cases ej : j = i
    · subst ej
      exact ⟨p1, p2⟩
    · obtain ⟨q1, q2⟩ := hlo2 (by omega)
      exact ⟨p3'.near (fun t ht => by omega) q1, q2.kept p3'.oth fun k hk => ho ej k ((inP_ren g k _).1 hk)⟩
  · obtain ⟨q1, q2⟩ := hup2 (by omega)
    exact ⟨p3'.near (fun t ht => by omega) q1, q2.kept p3'.oth fun k hk => ho (by omega) k hk⟩
theorem ReMid.done {v : Pt} {b o : Nat} {W : World} {a : Option Addr} {cap : Nat} {Wi : World} (h : ReMid g N1 B0 W0 v b o W a cap v.n Wi) : RePost g N1 B0 v b o W Wi := by
  obtain ⟨rfl, rfl, m1, m2, hp, m3, m4, m5⟩ := h
  obtain ⟨h1, h2, h3, h4, h5, h6, h7, h8⟩ := hp
  refine ⟨m2, ?_, m4, m5⟩
  obtain ⟨a1, a2, a3, a4, a6, a5, a7⟩ := renP_parts g v
  have h2' := (pA_eq _ _).1 h2
  rw [pA_eq, a5, (renP_slice g v).1, (renP_slice g v).2]
  refine ⟨h2'.1, h2'.2.1, fun i hi => ?_⟩
  obtain ⟨r, e, hf, hlo, _⟩ := m3 i hi
  obtain ⟨r', e', _, _, _, hd, hapart⟩ := h2'.2.2 i hi
  rw [e] at e'
  cases e'
  obtain ⟨q1, q2⟩ := hlo hi
  rw [a7]
  refine ⟨r, e, hf, q1, q2, fun hk => hd ((inP_ren g r _).1 hk), fun j hj hne k hk hk' => ?_⟩
  rw [a7] at hk'
  exact hapart j hj hne k ((inP_ren g k _).1 hk) ((inP_ren g k _).1 hk')
end
end Go.Proofs.Ytjclelmbpmlioaa
namespace Go.Proofs.Ytjclelmbpmlioaa
open Go.RowKit Go.Shelf
attribute [local go_sem] Oper.semAt_some

theorem Ag.mono {B B' : Nat} {W A : World} (h : Ag B' W A) (hB : B ≤ B') : Ag B W A := ⟨h.os, h.tape, h.output, h.size, fun k hk => h.low k (by omega), h.cells⟩
theorem keepsFrom_mono {B B' : Nat} {W W' : World} (h : KeepsFrom B W W') (hB : B ≤ B') : KeepsFrom B' W W' := ⟨h.size, fun k o hk => h.same k o (by omega)⟩
theorem KeepsTo.drew (B B' : Nat) (W : World) : KeepsTo B B' W W.drew := fun _ _ _ _ h _ => h
theorem round_in {m : Nat} {P : Program} {l : Nat} {f : FuncId} {tmps : Array Value} {assign body : Code} {w : World} {R : Ending → World → Prop} (l' : Nat)
    (h : RoundIn Fence.wide m P l f tmps assign body w R) : RoundIn (Fence.wide.inRound l') m P l f tmps assign body w R := h
theorem nmd_cases (k : Int) : (nmd k = true ∧ ((k == 1) = true ∨ ((k == 1) = false ∧ (k == 5) = true) ∨ ((k == 1) = false ∧ (k == 5) = false ∧ (k == 6) = true))) ∨ (nmd k = false ∧ (k == 1) = false ∧ (k == 5) = false ∧ (k == 6) = false) := by
  unfold nmd
  cases (k == 1) <;> cases (k == 5) <;> cases (k == 6) <;> simp
set_option maxRecDepth 100000 in
set_option maxHeartbeats 1000000 in
theorem named_in (n : Nat) (p : Option Addr) (w : World) :
    CallsIn Fence.wide n Try.prog 25 #[.pointer p] w fun e w' => e = .returned (.func (.func 43) #[] #[.pointer (some ⟨w.heap.size, 0, none⟩)]) ∧ w' = w.alloc (.cells #[.pointer p] 55) := by
  refine callsIn_of_wp Try.func25 rfl trivial ?_ rfl
  simp only [Try.ntmps25, List.size_toArray, List.length_cons, List.length_nil, Nat.reduceAdd, Nat.reduceSub, Array.replicate_succ, Array.replicate_zero, List.push_toArray, List.append_toArray, List.nil_append, List.cons_append]
  gi_wp2
  go_ret
  exact ⟨rfl, rfl⟩
/-- What a round of the range is handed. -/
structure NamP where
  b : Nat
  o : Nat
  y : Pt
  pre : List Pt
/-- The nodes with a Var among some. -/
def usesOf (l : List (Nat × Pt)) : List Pt := (l.filter fun v => nmd v.2.k).map (·.2)
theorem usesOf_app (l m : List (Nat × Pt)) : usesOf (l ++ m) = usesOf l ++ usesOf m := by simp [usesOf]
theorem usesOf_yes {d : Nat} {y : Pt} (h : nmd y.k = true) (l : List (Nat × Pt)) : usesOf ((d, y) :: l) = y :: usesOf l := by simp [usesOf, h]
theorem usesOf_no {d : Nat} {y : Pt} (h : nmd y.k = false) (l : List (Nat × Pt)) : usesOf ((d, y) :: l) = usesOf l := by simp [usesOf, h]
theorem usesOf_vis (x : Pt) : usesOf (visP 1 x) = usesP x := uses_visP x 1

/-- How a body that does what it does to a node with a Var may be left. -/
def namedPost (B : Nat) (G : World → Prop) (W : World) : Exit → Act → World → Prop
  | .normal, _, W' => KeepsFrom B W W' ∧ Kp (fun k => k = B + 2 ∨ k = B + 6 ∨ k = B + 7) W W' ∧ G W'
  | _, _, _ => False
/-- What a round is handed. -/
structure NamG (ι : Type) where
  b : Nat
  o : Nat
  v : ι
set_option maxRecDepth 100000 in
set_option maxHeartbeats 4000000 in
/-- A range over the nodes that have a Var, whose rounds may write: told by relations between worlds. -/
theorem named_walk {ι : Type} {n : Nat} {g : Operand} {ps : Array Tmp} {assign body : Code} {Q : Exit → Act → World → Prop} {a : Act} {w : World} (Bp b0 o0 : Nat) (v0 : ι) (kids : ι → Nat) (kid : ι → Nat → ι) (rank : ι → Nat)
    (Pre : ι → Nat → Nat → World → Prop) (Go : ι → Nat → Nat → World → World → Prop) (Mid : ι → Nat → Nat → World → Option Addr → Nat → Nat → World → Prop) (Post : ι → Nat → Nat → World → World → Prop)
    (hg : a.eval g = .func (.func 43) #[] #[.pointer (some ⟨Bp, 0, none⟩)]) (hps : ps.size = 1) (hBp : w.cell? ⟨Bp, 0, none⟩ = some (.pointer (some ⟨b0, o0, none⟩)))
    (hrank : ∀ v i, i < kids v → rank (kid v i) < rank v)
    (hPre : ∀ v b o W A, Ag w.heap.size W A → Pre v b o W → Pre v b o A)
    (hGo : ∀ v b o W A A' W', Ag w.heap.size W A → Ag w.heap.size A' W' → Go v b o A A' → Go v b o W W')
    (hPost : ∀ v b o W W' A, Ag w.heap.size W' A → Post v b o W W' → Post v b o W A)
    (h0 : ∀ W, Below w.heap.size w W → W.heap.size = w.heap.size + 8 → Pre v0 b0 o0 W)
    (hskip : ∀ v b o W, Pre v b o W → ∃ k, W.cell? ⟨b, o, none⟩ = some (.int .i64 k) ∧ (nmd k = false → Go v b o W W))
    (a₁ : Nat → Nat → Act)
    (hassign : ∀ (l b o : Nat) (W : World) (K : Act → World → Prop), K (a₁ b o) W →
      assign.wpIn (Fence.wide.inRound l) (n - 1 - 1) Try.prog (Exit.then K (fun _ _ _ => False)) { tmps := (ps.zip #[.pointer (some ⟨b, o, none⟩)]).foldl (fun t (p, v) => t.setIfInBounds p v) a.tmps, defers := [] } W)
    (hbody : ∀ (l b o : Nat) (v : ι) (W : World) (k : Int), Pre v b o W → W.cell? ⟨b, o, none⟩ = some (.int .i64 k) → nmd k = true → w.heap.size + 8 ≤ W.heap.size → (∃ u, Boxed W (w.heap.size + 2) 61 u) → (∃ u, Boxed W (w.heap.size + 6) 79 u) → (∃ u, Boxed W (w.heap.size + 7) 79 u) →
      body.wpIn (Fence.wide.inRound l) (n - 1 - 1) Try.prog (namedPost w.heap.size (Go v b o W) W) (a₁ b o) W)
    (hM : ∀ v b o W W', Pre v b o W → Go v b o W W' → ∃ a cap, Mid v b o W a cap 0 W')
    (hL : ∀ v b o W a cap i Wi, Mid v b o W a cap i Wi → kids v ≤ 9223372036854775807 ∧ Wi.cell? ⟨b, o + 5, none⟩ = some (.slice a (kids v) cap))
    (hC : ∀ v b o W a cap i Wi, Mid v b o W a cap i Wi → i < kids v → ∃ b' o', a = some ⟨b', o', none⟩ ∧ Pre (kid v i) b' (o' + i * 6) Wi.drew ∧
      (∀ W', Post (kid v i) b' (o' + i * 6) Wi.drew W' → Mid v b o W a cap (i + 1) W'))
    (hE : ∀ v b o W a cap Wi, Mid v b o W a cap (kids v) Wi → Post v b o W Wi)
    (hdone : ∀ (D : Nat) (W2 W : World), w.heap.size ≤ D → Below w.heap.size w W2 → W2.heap.size = w.heap.size + 8 → Post v0 b0 o0 W2 W → W.heap[D]? = some (.deferred (some [])) → Q .normal { a with defers := { target := .collected D, args := #[] } :: a.defers } W) :
    (Code.rangeFunc g ps assign body).wpIn Fence.wide n Try.prog Q a w := by
  have hdd : ∀ k : Nat, (Fence.wide.depth.isSome = true → 1 ≤ k) := fun k h => by cases h
  obtain ⟨T, hT⟩ : ∃ T : Nat → Prop, T = fun k => k = w.heap.size + 2 ∨ k = w.heap.size + 6 ∨ k = w.heap.size + 7 := ⟨_, rfl⟩
  refine wpIn_rangeK (α := NamG ι) hg (enters_of Try.func43 (by kernel_rfl) rfl) (encs := fun v => #[.pointer (some ⟨v.b, v.o, none⟩)]) (fun _ => hps.symm)
    (fun v W => Pre v.v v.b v.o W ∧ w.heap.size + 8 ≤ W.heap.size ∧ (∃ u, Boxed W (w.heap.size + 2) 61 u) ∧ (∃ u, Boxed W (w.heap.size + 6) 79 u) ∧ (∃ u, Boxed W (w.heap.size + 7) 79 u) ∧ ∃ k, W.cell? ⟨v.b, v.o, none⟩ = some (.int .i64 k) ∧ nmd k = true)
    (fun v W W' => Kp T W W' ∧ Go v.v v.b v.o W W' ∧ w.heap.size + 8 ≤ W'.heap.size)
    (fun _ _ _ _ => False) (fun W => ∃ W2, Below w.heap.size w W2 ∧ W2.heap.size = w.heap.size + 8 ∧ Post v0 b0 o0 W2 W) (fun _ _ => False) ?_ ?_ (fun _ _ _ _ _ _ _ _ h => h) ?_ (fun _ _ _ _ h => h) (fun v => a₁ v.b v.o) (fun l v W K hK => hassign l v.b v.o W K hK) ?_ ?_
    (fun D W hD h hK => by obtain ⟨W2, h1, h2, h3⟩ := h; exact hdone D W2 W hD h1 h2 h3 hK) (fun _ _ _ _ h _ => h.elim)
  · rintro v W A hag ⟨h1, h2, ⟨u, h3⟩, ⟨u', h4⟩, ⟨u'', h5⟩, k, h6, h7⟩
    exact ⟨hPre _ _ _ _ _ hag h1, by rw [hag.size]; exact h2, ⟨u, hag.boxed h3⟩, ⟨u', hag.boxed h4⟩, ⟨u'', hag.boxed h5⟩, k, (hag.cell _).trans h6, h7⟩
  · rintro v W A A' W' hag hag' ⟨h1, h2, h3⟩
    exact ⟨Kp.ag hag hag' h1, hGo _ _ _ _ _ _ _ hag hag' h2, by rw [hag'.size]; exact h3⟩
  · rintro W A hag ⟨W2, h1, h2, h3⟩
    exact ⟨W2, h1, h2, hPost _ _ _ _ _ _ hag h3⟩
  · rintro l v W ⟨h1, h2, h3, h4, h5, k, h6, h7⟩ _
    refine wpIn_mono (hbody l v.b v.o v.v W k h1 h6 h7 h2 h3 h4 h5) ?_
    rintro e a3 W3 hp
    cases e with
    | normal => exact ⟨hp.1, by rw [hT]; exact hp.2.1, hp.2.2, Nat.le_trans h2 hp.1.size⟩
    | ret => exact hp.elim
    | exit id => exact hp.elim
    | goto t => exact hp.elim
    | panic ch => exact hp.elim
    | outgrown => exact hp.elim
  · intro l Rec RecX W1 hB1 hs1 hrec1 hrec hrecx hY
    have hlt : Bp < w.heap.size := by
      obtain ⟨ob, ho, -⟩ := cells_of_cell hBp
      exact (Array.getElem?_eq_some_iff.1 ho).1
    clear hbody hassign hdone
    obtain ⟨A0, hA0⟩ : ∃ A0, W1.alloc (.cells #[.func (.yield l) #[] #[]] 61) = A0 := ⟨_, rfl⟩
    have hB0 : Below W1.heap.size W1 A0 := by rw [← hA0]; exact (Below.refl _ _).alloc (Nat.le_refl _) _
    have by0 : Boxed A0 W1.heap.size 61 (.func (.yield l) #[] #[]) := hA0 ▸ Boxed.new _ _ _
    have hs0 : A0.heap.size = W1.heap.size + 1 := by rw [← hA0]; simp
    have cp := (hB0.cell (p := ⟨Bp, 0, none⟩) (by have := hlt; show Bp < _; omega)).trans ((hB1.cell (p := ⟨Bp, 0, none⟩) hlt).trans hBp)
    have c0 := by0.cell
    refine callsIn_of_wp_marks Try.func43 rfl trivial ?_ rfl
    simp only [Try.ntmps43, List.size_toArray, List.length_cons, List.length_nil, Nat.reduceAdd, Nat.reduceSub, Array.replicate_succ, Array.replicate_zero, List.push_toArray, List.append_toArray, List.nil_append, List.cons_append]
    gi_wp2_with (refine ⟨trivial, hdd _, ?_⟩; gi_at_call 27; refine (nodesP_in _ _ _).mono ?_; rintro e w' ⟨rfl, rfl⟩)
    obtain ⟨A, hA⟩ : ∃ A, A0.alloc (.cells #[.pointer (some ⟨b0, o0, none⟩)] 55) = A := ⟨_, rfl⟩
    rw [hA]
    have hBA0 : Below A0.heap.size A0 A := by rw [← hA]; exact (Below.refl _ _).alloc (Nat.le_refl _) _
    have hsz : A.heap.size = w.heap.size + 4 := by rw [← hA]; simp; omega
    have hBA : Below w.heap.size w A := (hB1.trans (hB0.mono (by omega))).trans (hBA0.mono (by omega))
    have byA : Boxed A (w.heap.size + 2) 61 (.func (.yield l) #[] #[]) := by rw [← hs1, ← hA]; exact by0.alloc _
    have bpA : Boxed A (w.heap.size + 2 + 1) 55 (.pointer (some ⟨b0, o0, none⟩)) := by
      have := Boxed.new A0 55 (.pointer (some ⟨b0, o0, none⟩))
      rw [hA, hs0, hs1] at this
      exact this
    have hkA : KeepsTo w.heap.size (w.heap.size + 2) W1 A := (KeepsTo.of_below hB0 (by omega)).trans (KeepsTo.of_below hBA0 (by omega))
    clear hA hA0 cp c0 by0
    refine nodesP_walk (ι := ι) (w.heap.size + 2 + 1) b0 o0 v0 kids kid rank
      (fun v b o W => Pre v b o W ∧ Rec W ∧ Boxed W (w.heap.size + 2) 61 (.func (.yield l) #[] #[]))
      (fun v b o W W' => Go v b o W W' ∧ Rec W' ∧ Boxed W' (w.heap.size + 2) 61 (.func (.yield l) #[] #[]))
      (fun v b o W a cap i Wi => Mid v b o W a cap i Wi ∧ Rec Wi ∧ Boxed Wi (w.heap.size + 2) 61 (.func (.yield l) #[] #[]))
      (fun v b o W W' => Post v b o W W' ∧ Rec W' ∧ Boxed W' (w.heap.size + 2) 61 (.func (.yield l) #[] #[]))
      rfl rfl bpA.cell hrank ?_ ?_ ?_ ?_
      (fun d b o => { tmps := #[.func (.yield l) #[] #[], .pointer (some ⟨Bp, 0, none⟩), .pointer (some ⟨w.heap.size + 2, 0, none⟩), undef, .pointer (some ⟨b, o, none⟩), .pointer (some ⟨b0, o0, none⟩), .func (.func 44) #[] #[.pointer (some ⟨w.heap.size + 2 + 1, 0, none⟩)], .int .i64 d, .pointer (some ⟨b, o, none⟩), undef, undef, undef, undef, undef, undef, undef, undef, undef, undef, undef, undef, undef, undef, undef, undef, undef, undef, undef, undef, undef, undef, undef, undef, undef], defers := [] }) ?_ ?_ ?_ ?_ ?_ ?_ ?_
    · rintro v b o W B hag ⟨j1, j2, j3⟩
      exact ⟨hPre _ _ _ _ _ (hag.mono (by omega)) j1, hrec _ _ (KeepsTo.of_ag hag (by omega)) j2, hag.boxed j3⟩
    · rintro v b o W B B' W' hag hag' ⟨j1, j2, j3⟩
      exact ⟨hGo _ _ _ _ _ _ _ (hag.mono (by omega)) (hag'.mono (by omega)) j1, hrec _ _ (KeepsTo.of_ag hag' (by omega)) j2, hag'.boxed j3⟩
    · rintro v b o W W' B hag ⟨j1, j2, j3⟩
      exact ⟨hPost _ _ _ _ _ _ (hag.mono (by omega)) j1, hrec _ _ (KeepsTo.of_ag hag (by omega)) j2, hag.boxed j3⟩
    · rintro W hW hs
      exact ⟨h0 W (hBA.trans (hW.mono (by omega))) (by omega), hrec _ _ (hkA.trans (KeepsTo.of_below hW (by omega))) hrec1, Boxed.kept_of byA hW (by omega)⟩
    · intro l' d b o W K hK
      gi_wp2
      simpa using hK
    · rintro l' d b o v W ⟨j1, j2, j3⟩ hs ⟨u2, b2⟩ ⟨u3, b3⟩
      have c2 := j3.cell
      obtain ⟨k, d0, hno⟩ := hskip v b o W j1
      rcases nmd_cases k with ⟨hk, hkk⟩ | ⟨hk, k1, k2, k3⟩
      · obtain ⟨fn, tmps, assign', body', hy, hR⟩ := hY 0 ⟨b, o, v⟩ W ⟨j1, by omega, ⟨_, j3⟩, ⟨u2, by rw [show w.heap.size + 6 = A.heap.size + 2 by omega]; exact b2⟩, ⟨u3, by rw [show w.heap.size + 7 = A.heap.size + 3 by omega]; exact b3⟩, k, d0, hk⟩ j2
        replace hR := round_in l' (round_wide (m' := n - 1 - 1 - 1 - 1) hR)
        have YES : ∀ W3, Kp T W W3 → Go v b o W W3 → w.heap.size + 8 ≤ W3.heap.size → Rec W3 → KeepsFrom w.heap.size W W3 →
            KeepsFrom A.heap.size W W3 ∧ Kp (fun k => k = A.heap.size + 2 ∨ k = A.heap.size + 3) W W3 ∧ Go v b o W W3 ∧ Rec W3 ∧ Boxed W3 (w.heap.size + 2) 61 (.func (.yield l) #[] #[]) := fun W3 q1 q2 q3 q4 q5 => by
          refine ⟨keepsFrom_mono q5 (by omega), q1.mono fun k hk => ?_, q2, q4, q1.boxed (by rw [hT]; exact .inl rfl) j3⟩
          rw [hT]
          rcases hk with hk | hk
          · exact .inr (.inl (by omega))
          · exact .inr (.inr (by omega))
        clear hY hk hno
        rcases hkk with k1 | ⟨k1, k2⟩ | ⟨k1, k2, k3⟩
        · gi_wp2_with (first
            | ((try refine ⟨hdd _, ?_⟩); refine hR.mono ?_; clear hR; rintro e W3 (⟨rfl, ⟨q1, q2, q3⟩, q4, q5⟩ | ⟨rfl, c, q1, q2, q3⟩)))
          · exact YES W3 q1 q2 q3 q4 q5
        · gi_wp2_with (first
            | ((try refine ⟨hdd _, ?_⟩); refine hR.mono ?_; clear hR; rintro e W3 (⟨rfl, ⟨q1, q2, q3⟩, q4, q5⟩ | ⟨rfl, c, q1, q2, q3⟩)))
          · exact YES W3 q1 q2 q3 q4 q5
        · gi_wp2_with (first
            | ((try refine ⟨hdd _, ?_⟩); refine hR.mono ?_; clear hR; rintro e W3 (⟨rfl, ⟨q1, q2, q3⟩, q4, q5⟩ | ⟨rfl, c, q1, q2, q3⟩)))
          · exact YES W3 q1 q2 q3 q4 q5
      · clear hY
        have NO : KeepsFrom A.heap.size W W ∧ Kp (fun k => k = A.heap.size + 2 ∨ k = A.heap.size + 3) W W ∧ Go v b o W W ∧ Rec W ∧ Boxed W (w.heap.size + 2) 61 (.func (.yield l) #[] #[]) := ⟨KeepsFrom.refl _ _, Kp.refl _ _, hno hk, j2, j3⟩
        clear hk hno
        gi_wp2
        refine ⟨fun f h => (by cases h), ?_⟩
        gi_wp2
        exact NO
    · rintro v b o W W' ⟨j1, j2, j3⟩ ⟨q1, q2, q3⟩
      obtain ⟨a', cap', hm⟩ := hM _ _ _ _ _ j1 q1
      exact ⟨a', cap', hm, q2, q3⟩
    · rintro v b o W a' cap' i Wi ⟨j1, j2, j3⟩
      exact hL _ _ _ _ _ _ _ _ j1
    · rintro v b o W a' cap' i Wi ⟨j1, j2, j3⟩ hi
      obtain ⟨b', o', ea, hp, hq⟩ := hC _ _ _ _ _ _ _ _ j1 hi
      exact ⟨b', o', ea, ⟨hp, hrec _ _ (KeepsTo.drew _ _ _) j2, j3⟩, fun W' h => ⟨hq W' h.1, h.2.1, h.2.2⟩⟩
    · rintro v b o W a' cap' Wi ⟨j1, j2, j3⟩
      exact ⟨hE _ _ _ _ _ _ _ j1, j2, j3⟩
    · rintro D W2 W hD hW2 hs2 ⟨j1, j2, j3⟩ hK
      have hag : Ag w.heap.size W (W.putObj D (.deferred none)) := Ag.putObj (by omega) hK rfl rfl
      have hkt : KeepsTo w.heap.size (w.heap.size + 2) W (W.putObj D (.deferred none)) := fun k o h1 h2 h3 _ => (World.putObj_heap_other (by omega)).trans h3
      gi_wp2
      refine ⟨by simp, .inl ⟨_, _, rfl, run_takeDeferred hK, ?_⟩⟩
      exact ⟨_, results_none rfl _ _ _, ⟨_, rfl⟩, .inl ⟨⟨W2, hBA.trans (hW2.mono (by omega)), by omega, hPost _ _ _ _ _ _ hag j1⟩, hrec _ _ hkt j2⟩⟩
end Go.Proofs.Ytjclelmbpmlioaa
namespace Go.Proofs.Ytjclelmbpmlioaa
open Go.RowKit Go.Shelf
attribute [local go_sem] Oper.semAt_some

set_option maxRecDepth 100000 in
set_option maxHeartbeats 4000000 in
theorem refSizeP_any : ∀ (x : Pt) (w : World), IsP w x → x.size ≤ 1048576 → Calls Try.prog 21 #[x.val] w fun e w' => e = .returned (.int .i64 x.size) ∧ Below w.heap.size w w' := by
  refine Pt.ind fun x ih w hX hsm => ?_
  obtain ⟨r, hr⟩ : ∃ r : Int, r = x.size := ⟨_, rfl⟩
  have HR : Hid (r = ((1 + sumN (fun i => (x.c i).size) x.n : Nat) : Int)) := by show r = _; rw [hr, x.size_eq]
  rw [← hr]
  have HI : Hid (∀ i, i < x.n → ∀ w, IsP w (x.c i) → Calls Try.prog 21 #[(x.c i).val] w fun e w' => e = .returned (.int .i64 (x.c i).size) ∧ Below w.heap.size w w') := fun i hi w h => ih i hi w h (by have := x.size_part i hi; omega)
  have HX : Hid (IsP w x) := hX
  have hlen := hX.len
  have HS : Hid (∀ k, k < x.n → 1 + sumN (fun i => (x.c i).size) k + (x.c k).size ≤ 1048576) := fun k hk => by have := sumN_part (f := fun i => (x.c i).size) hk; have := x.size_eq; omega
  obtain ⟨A, hA, hB0, hs, hN⟩ := boxP_one x w
  have HB : Hid (Below w.heap.size w A) := hB0
  have HN : Hid (NodeP A w.heap.size 0 x) := hN
  clear ih hX hr hB0 hN hsm
  go_enter Try.func21, Try.ntmps21
  go_wp2_with fail
  go_loopw [3, 4] (fun u v wr => ∃ k : Nat, k ≤ x.n ∧ u = .int .i64 ((1 + sumN (fun i => (x.c i).size) k : Nat) : Int) ∧ v = .int .i64 k ∧ Below A.heap.size A wr) (fun _ v _ => x.n - (intOf v).toNat)
  case atStart => exact ⟨0, Nat.zero_le _, rfl, rfl, Below.refl _ _⟩
  case round =>
    obtain ⟨k, hk, rfl, rfl, hB⟩ := hrel
    obtain ⟨-, -, -, -, -, c6⟩ := (nodeP_on HN.out (hB.mono (by omega))).at0
    have hw := HB.out.trans (hB.mono (by omega))
    by_cases hkn : k < x.n
    · obtain ⟨b, o, ea, hn, hx⟩ := (HX.out.later hw).part hkn
      rw [ea] at c6
      obtain ⟨d0, d1, d2, d3, d4, d5⟩ := hn
      have hc := HI.out k hkn wr hx
      have HK : Hid (k < x.n) := hkn
      have HQ : Hid (Below w.heap.size w wr) := hw
      have hb := HS.out k hkn
      have HE : Hid (1 + sumN (fun i => (x.c i).size) (k + 1) = 1 + sumN (fun i => (x.c i).size) k + (x.c k).size) := by show _ = _; simp only [sumN]; omega
      generalize 1 + sumN (fun i => (x.c i).size) k = p at hb HE ⊢
      generalize (x.c k).size = q at hc hb HE
      clear hx hw
      go_wp2_with (go_at_call 21; refine hc.mono ?_; rintro e w2 ⟨rfl, hB2⟩)
      exact ⟨⟨k + 1, HK.out, by rw [HE.out]; simp, by simp, hB.trans (hB2.mono hB.size)⟩, by have := HK.out; simp [intOf]; omega⟩
    · have hk' : k = x.n := by omega
      subst hk'
      go_wp2
      go_ret
      exact ⟨ret_int HR.out.symm, hw⟩
def szP : Pt → Int
  | .nil => 1
  | .mk _ _ _ _ _ _ n _ c => accZ (fun i => szP (c i)) n
theorem szP_eq (x : Pt) : szP x = accZ (fun i => szP (x.c i)) x.n := by cases x <;> rfl
set_option maxRecDepth 100000 in
set_option maxHeartbeats 4000000 in
theorem refSizeP_wide : ∀ (x : Pt) (w : World), IsP w x → Calls Try.prog 21 #[x.val] w fun e w' => e = .returned (.int .i64 (szP x)) ∧ Below w.heap.size w w' := by
  refine Pt.ind fun x ih w hX => ?_
  obtain ⟨r, hr⟩ : ∃ r, r = szP x := ⟨_, rfl⟩
  have HR : Hid (r = accZ (fun i => szP (x.c i)) x.n) := by show r = _; rw [hr, szP_eq]
  rw [← hr]
  have HI : Hid (∀ i, i < x.n → ∀ w, IsP w (x.c i) → Calls Try.prog 21 #[(x.c i).val] w fun e w' => e = .returned (.int .i64 (szP (x.c i))) ∧ Below w.heap.size w w') := ih
  have HX : Hid (IsP w x) := hX
  have hlen := hX.len
  obtain ⟨A, hA, hB0, hs, hN⟩ := boxP_one x w
  have HB : Hid (Below w.heap.size w A) := hB0
  have HN : Hid (NodeP A w.heap.size 0 x) := hN
  clear ih hX hr hB0 hN
  go_enter Try.func21, Try.ntmps21
  go_wp2_with fail
  go_loopw [3, 4] (fun u v wr => ∃ k : Nat, k ≤ x.n ∧ u = .int .i64 (accZ (fun i => szP (x.c i)) k) ∧ v = .int .i64 k ∧ Below A.heap.size A wr) (fun _ v _ => x.n - (intOf v).toNat)
  case atStart => exact ⟨0, Nat.zero_le _, rfl, rfl, Below.refl _ _⟩
  case round =>
    obtain ⟨k, hk, rfl, rfl, hB⟩ := hrel
    obtain ⟨-, -, -, -, -, c6⟩ := (nodeP_on HN.out (hB.mono (by omega))).at0
    have hw := HB.out.trans (hB.mono (by omega))
    by_cases hkn : k < x.n
    · obtain ⟨b, o, ea, hn, hx⟩ := (HX.out.later hw).part hkn
      rw [ea] at c6
      obtain ⟨d0, d1, d2, d3, d4, d5⟩ := hn
      have hc := HI.out k hkn wr hx
      have HK : Hid (k < x.n) := hkn
      have HQ : Hid (Below w.heap.size w wr) := hw
      clear hx hw
      go_wp2_with (go_at_call 21; refine hc.mono ?_; rintro e w2 ⟨rfl, hB2⟩)
      exact ⟨⟨k + 1, HK.out, rfl, by simp, hB.trans (hB2.mono hB.size)⟩, by have := HK.out; simp [intOf]; omega⟩
    · have hk' : k = x.n := by omega
      subst hk'
      go_wp2
      go_ret
      exact ⟨ret_int HR.out.symm, hw⟩
end Go.Proofs.Ytjclelmbpmlioaa
namespace Go.Proofs.Ytjclelmbpmlioaa
open Go.RowKit Go.ChangeShapes Go.WideShapes

section
variable {H : Type} {enc : TypeId × Value → H} {w : World} {base : Nat} {spare : Nat → Bool} {held : Bool}
theorem pat_under : ∃ f0 f1 f2 f3 f4 f5 : Field, Try.prog.underlying 24 = some (.struct #[f0, f1, f2, f3, f4, f5]) ∧ f0.offset = 0 ∧ f1.offset = 1 ∧ f2.offset = 2 ∧ f3.offset = 3 ∧ f4.offset = 4 ∧ f5.offset = 5 ∧ f0.type = 3 ∧ f1.type = 9 ∧ f2.type = 9 ∧ f3.type = 3 ∧ f4.type = 3 ∧ f5.type = 22 := ⟨_, _, _, _, _, _, Try.underlying24, rfl, rfl, rfl, rfl, rfl, rfl, rfl, rfl, rfl, rfl, rfl, rfl⟩
theorem cells_p : Try.prog.cellsOf 24 = 6 := by kernel_rfl
theorem cells_pl : Try.prog.cellsOf 22 = 1 := by kernel_rfl
end
end Go.Proofs.Ytjclelmbpmlioaa
