/-
  pat.Check.
  pat.Made.
  PatParts' walk: a part of a right pattern is right.
  The document's own nots: do the PNots stand where they may?
-/
import Derived.Test.YtinnhaojmnmliaaDPatRightC
import Derived.Test.YtinnhaojmnmliaaDPatSize
import Derived.Test.YtinnhaojmnmliaaDPatApart
import Derived.Test.YtinnhaojmnmliaaDPatAlike
import Derived.Test.YtinnhaojmnmliaaDPatAt
import Derived.Test.YtinnhaojmnmliaaDPatTail
import Derived.Test.YtinnhaojmnmliaaDRefVar
import Derived.Deep.DeepCutAuto
namespace Go.Proofs.Ytinnhaojmnmliaa
open Go.RowKit Go.Shelf
attribute [local go_sem] Oper.semAt_some

theorem PT.is {T : Nat → Prop} {w : World} : ∀ {x : Pt}, PT T w x → IsP w x := by
  refine @(Pt.ind fun x ih hx => ?_)
  rw [pT_eq] at hx
  rw [isP_eq]
  refine ⟨hx.1, hx.2.1, fun i hi => ?_⟩
  obtain ⟨b, o, e, hb, hn, hc⟩ := hx.2.2 i hi
  exact ⟨b, o, e, hn, ih i hi hc⟩
/-- How far Check has come. -/
def SaidP (pre : List (Nat × Pt)) (sd : Int) : Prop := (sd = 0 ∧ ∀ v ∈ pre, rightN v.2 = true) ∨ (sd = 1 ∧ ¬ ∀ v ∈ pre, rightN v.2 = true)
theorem SaidP.yes {pre : List (Nat × Pt)} {sd : Int} {v : Nat × Pt} (h : SaidP pre sd) (hv : rightN v.2 = true) : SaidP (pre ++ [v]) sd := by
  rcases h with ⟨h1, h2⟩ | ⟨h1, h2⟩
  · refine .inl ⟨h1, fun u hu => ?_⟩
    rcases List.mem_append.1 hu with hu | hu
    · exact h2 u hu
    · rw [List.mem_singleton] at hu; rw [hu]; exact hv
  · exact .inr ⟨h1, fun h => h2 fun u hu => h u (List.mem_append_left _ hu)⟩
theorem SaidP.no {pre : List (Nat × Pt)} {v : Nat × Pt} (hv : ¬ rightN v.2 = true) : SaidP (pre ++ [v]) 1 := .inr ⟨rfl, fun h => hv (h v (by simp))⟩
set_option maxRecDepth 100000 in
set_option maxHeartbeats 4000000 in
theorem checkP_in (n : Nat) (x : Pt) (w : World) (hX : IsP w x) (hsm : x.size ≤ 1048576) :
    CallsIn Fence.wide n Try.prog 15 #[x.val] w fun e w' => e = .returned (.int .i64 (chkP x)) ∧ Below w.heap.size w w' := by
  have hdd : ∀ k : Nat, (Fence.wide.depth.isSome = true → 1 ≤ k) := fun k h => by cases h
  refine callsIn_of_wp_marks Try.func15 rfl trivial ?_ rfl
  simp only [Try.ntmps15, List.size_toArray, List.length_cons, List.length_nil, Nat.reduceAdd, Nat.reduceSub, Array.replicate_succ, Array.replicate_zero, List.push_toArray, List.append_toArray, List.nil_append, List.cons_append]
  gi_wp2_with (refine ⟨trivial, hdd _, ?_⟩; gi_at_call 32; refine (nodesP_in _ _ _).mono ?_; rintro e w' ⟨rfl, rfl⟩)
  obtain ⟨A, hA⟩ : ∃ A, (((((w.alloc (.cells x.cells 24)).alloc (.cells #[.int .i64 0] 36)).alloc (.cells #[.int .i64 0] 3)).alloc (.cells #[.int .i64 0] 36)).alloc (.cells #[.pointer (some ⟨w.heap.size, 0, none⟩)] 52)) = A := ⟨_, rfl⟩
  have hsz : A.heap.size = w.heap.size + 5 := by rw [← hA]; simp
  have hB : Below w.heap.size w A := by rw [← hA]; exact (((((Below.refl _ w).alloc (Nat.le_refl _) _).alloc (by simp) _).alloc (by first | (simp; done) | (simp; omega)) _).alloc (by first | (simp; done) | (simp; omega)) _).alloc (by first | (simp; done) | (simp; omega)) _
  have hnode : NodeP A w.heap.size 0 x := by
    rw [← hA]
    exact (nodeP_new w 24 x).later (((((Below.refl _ _).alloc (Nat.le_refl _) _).alloc (by simp) _).alloc (by first | (simp; done) | (simp; omega)) _).alloc (by first | (simp; done) | (simp; omega)) _)
  have hb1 : Boxed A (w.heap.size + 1) 36 (.int .i64 0) := by
    have := (((Boxed.new (w.alloc (.cells x.cells 24)) 36 (.int .i64 0)).alloc (.cells #[.int .i64 0] 3)).alloc (.cells #[.int .i64 0] 36)).alloc (.cells #[.pointer (some ⟨w.heap.size, 0, none⟩)] 52)
    rw [World.size_alloc, hA] at this
    exact this
  have hb2 : Boxed A (w.heap.size + 1 + 1) 3 (.int .i64 0) := by
    have := ((Boxed.new ((w.alloc (.cells x.cells 24)).alloc (.cells #[.int .i64 0] 36)) 3 (.int .i64 0)).alloc (.cells #[.int .i64 0] 36)).alloc (.cells #[.pointer (some ⟨w.heap.size, 0, none⟩)] 52)
    rw [World.size_alloc, World.size_alloc, hA] at this
    exact this
  have hb3 : Boxed A (w.heap.size + 1 + 1 + 1) 36 (.int .i64 0) := by
    have := (Boxed.new (((w.alloc (.cells x.cells 24)).alloc (.cells #[.int .i64 0] 36)).alloc (.cells #[.int .i64 0] 3)) 36 (.int .i64 0)).alloc (.cells #[.pointer (some ⟨w.heap.size, 0, none⟩)] 52)
    rw [World.size_alloc, World.size_alloc, World.size_alloc, hA] at this
    exact this
  have hbp : Boxed A (w.heap.size + 1 + 1 + 1 + 1) 52 (.pointer (some ⟨w.heap.size, 0, none⟩)) := by
    have := Boxed.new ((((w.alloc (.cells x.cells 24)).alloc (.cells #[.int .i64 0] 36)).alloc (.cells #[.int .i64 0] 3)).alloc (.cells #[.int .i64 0] 36)) 52 (.pointer (some ⟨w.heap.size, 0, none⟩))
    rw [World.size_alloc, World.size_alloc, World.size_alloc, World.size_alloc, hA] at this
    exact this
  rw [hA]
  refine nodesP_fold (w.heap.size + 1 + 1 + 1 + 1) w.heap.size 0 x (fun k => k < w.heap.size + 1)
    (fun pre W => Boxed W (w.heap.size + 1) 36 (.int .i64 0) ∧ Boxed W (w.heap.size + 1 + 1) 3 (.int .i64 (pre.length : Int)) ∧ (∃ sd, Boxed W (w.heap.size + 1 + 1 + 1) 36 (.int .i64 sd) ∧ SaidP pre sd) ∧ pre.length ≤ 64 ∧ (∀ v ∈ pre, v.1 ≤ 8) ∧ Below w.heap.size w W)
    (fun c W => c = .ret ∧ (64 < x.size ∨ 8 < x.deep) ∧ Boxed W (w.heap.size + 1) 36 (.int .i64 2) ∧ Below w.heap.size w W)
    rfl rfl hbp.cell hsm (fun k hk => by omega) (by omega) hnode (PIn.xt (n := w.heap.size) (fun k hk => by omega) (hX.inn.below hB)) ?_ ?_ ?_ ?_
    (fun d b o => { tmps := #[x.val, .pointer (some ⟨w.heap.size, 0, none⟩), .pointer (some ⟨w.heap.size + 1, 0, none⟩), .pointer (some ⟨w.heap.size + 1 + 1, 0, none⟩), .pointer (some ⟨w.heap.size + 1 + 1 + 1, 0, none⟩), .int .i64 d, .pointer (some ⟨b, o, none⟩), .func (.func 54) #[] #[.pointer (some ⟨w.heap.size + 1 + 1 + 1 + 1, 0, none⟩)], .int .i64 d, .pointer (some ⟨b, o, none⟩), undef, undef, undef, undef, undef, undef, undef, undef, undef, undef, undef, undef], defers := [] }) ?_ ?_ ?_ ?_
  · rintro pre W B hag ⟨h1, h2, ⟨sd, h3, h4⟩, h5, h7, h6⟩
    exact ⟨hag.boxed h1, hag.boxed h2, ⟨sd, hag.boxed h3, h4⟩, h5, h7, hag.below (by omega) h6⟩
  · exact fun pre W h => ⟨h.1, h.2.1, h.2.2.1, h.2.2.2.1, h.2.2.2.2.1, h.2.2.2.2.2.drew⟩
  · exact fun W h => ⟨Boxed.kept_of hb1 h (by omega), Boxed.kept_of hb2 h (by omega), ⟨0, Boxed.kept_of hb3 h (by omega), .inl ⟨rfl, by simp⟩⟩, by simp, by simp, hB.trans (h.mono (by omega))⟩
  · rintro c W B hag ⟨h1, h2, h3, h4⟩
    exact ⟨h1, h2, hag.boxed h3, hag.below (by omega) h4⟩
  · intro l d b o W K hK
    gi_wp2
    first | exact hK | simpa using hK
  · rintro l d b o y pre W hb hn hx ⟨h1, h2, ⟨sd, h3, h4⟩, h5, h7, h6⟩ hs ⟨post, hpo⟩
    have hlt : pre.length + 1 ≤ x.size := by
      have := congrArg List.length hpo
      rw [length_visP, List.length_append, List.length_cons] at this
      omega
    have hdd2 : d ≤ x.deep := by
      have hm : (d, y) ∈ visP 1 x := by rw [← hpo]; simp
      have := (vis_deep x 1 _ hm).1
      have := y.deep_pos
      simp only at *
      omega
    clear hpo
    have c2 := h2.cell
    have f2 := h2.frozen
    obtain ⟨m, hm⟩ : ∃ m, m = pre.length := ⟨_, rfl⟩
    have HM : Hid (m = pre.length) := hm
    rw [← hm] at c2 h2 h5 hlt
    have e1 := h1.other (show w.heap.size + 1 ≠ w.heap.size + 1 + 1 by omega) (.int .i64 ((m : Int) + 1))
    have e2 := h2.set (.int .i64 ((m : Int) + 1))
    have e3 := h3.other (show w.heap.size + 1 + 1 + 1 ≠ w.heap.size + 1 + 1 by omega) (.int .i64 ((m : Int) + 1))
    have kp1 : Kp (fun k => k < w.heap.size + 1 ∨ k = A.heap.size + 2 ∨ k = A.heap.size + 3) W (W.setCell ⟨w.heap.size + 1 + 1, 0, none⟩ (.int .i64 ((m : Int) + 1))) := Kp.set _ (by simp; omega)
    have n1 : NodeP (W.setCell ⟨w.heap.size + 1 + 1, 0, none⟩ (.int .i64 ((m : Int) + 1))) b o y := hn.kept kp1 (.inl hb)
    have x1 : IsP (W.setCell ⟨w.heap.size + 1 + 1, 0, none⟩ (.int .i64 ((m : Int) + 1))) y := (hx.kept (kp1.mono fun k hk => .inl hk)).is
    have b1 : Below w.heap.size w (W.setCell ⟨w.heap.size + 1 + 1, 0, none⟩ (.int .i64 ((m : Int) + 1))) := h6.setCell (p := ⟨w.heap.size + 1 + 1, 0, none⟩) (by simp; omega) _
    have k1 : KeepsOthers W (W.setCell ⟨w.heap.size + 1 + 1, 0, none⟩ (.int .i64 ((m : Int) + 1))) := KeepsOthers.setCell _ _ _
    have g1 := e1.cell
    have g2 := e2.cell
    have i1 := e1.frozen
    by_cases hm64 : 64 < m + 1
    · have hm' : (64 : Int) < (m : Int) + 1 := by omega
      clear hm
      gi_wp2
      exact ⟨(k1.trans (KeepsOthers.setCell _ _ _)).from _, rfl, .inl (by omega), e1.set _, b1.setCell (p := ⟨w.heap.size + 1, 0, none⟩) (by simp) _⟩
    · have hm' : ¬ (64 : Int) < (m : Int) + 1 := by omega
      by_cases hd8 : 8 < d
      · clear hm
        gi_wp2
        exact ⟨(k1.trans (KeepsOthers.setCell _ _ _)).from _, rfl, .inr (by omega), e1.set _, b1.setCell (p := ⟨w.heap.size + 1, 0, none⟩) (by simp) _⟩
      · have hr := rightP_any y b o _ n1 x1
        have hl1 : (pre ++ [(d, y)]).length = m + 1 := by simp [hm]
        have h8 : ∀ v ∈ pre ++ [(d, y)], v.1 ≤ 8 := fun v hv => by
          rcases List.mem_append.1 hv with hv | hv
          · exact h7 v hv
          · rw [List.mem_singleton] at hv; rw [hv]; show d ≤ 8; omega
        obtain ⟨r, hrr⟩ : ∃ r, r = rightN y := ⟨_, rfl⟩
        rw [← hrr] at hr
        have HRR : Hid (r = rightN y) := hrr
        clear hm hrr
        gi_wp2_with (refine ⟨trivial, hdd _, ?_⟩; gi_at_call 33; refine (CallsIn.inRound l (callsIn_wide.2 hr)).mono ?_; rintro e w2 ⟨rfl, hB2⟩; have q3 := Boxed.kept_of e3 hB2 (Boxed.lt e3); have gq3 := q3.cell; have fq3 := q3.frozen; cases r)
        · have hno : ¬ rightN y = true := fun h => by rw [← HRR.out] at h; cases h
          refine ⟨((k1.trans ⟨hB2.size, fun k o ho _ => (hB2.block k (Array.getElem?_eq_some_iff.1 ho).1).trans ho⟩).trans (KeepsOthers.setCell _ _ _)).from _, ?_, ?_, ?_, ⟨1, q3.set _, SaidP.no hno⟩, by rw [hl1]; omega, h8, ?_⟩
          · exact (kp1.trans (fun k o _ _ ho => (hB2.block k (Array.getElem?_eq_some_iff.1 ho).1).trans ho)).trans (Kp.set _ (by simp; omega))
          · exact (Boxed.kept_of e1 hB2 (Boxed.lt e1)).other (by omega) _
          · rw [hl1]; exact (Boxed.kept_of e2 hB2 (Boxed.lt e2)).other (by omega) _
          · exact (b1.trans (hB2.mono b1.size)).setCell (p := ⟨w.heap.size + 1 + 1 + 1, 0, none⟩) (by simp; omega) _
        · have hyes : rightN y = true := HRR.out.symm
          refine ⟨(k1.trans ⟨hB2.size, fun k o ho _ => (hB2.block k (Array.getElem?_eq_some_iff.1 ho).1).trans ho⟩).from _, ?_, ?_, ?_, ⟨sd, q3, h4.yes hyes⟩, by rw [hl1]; omega, h8, ?_⟩
          · exact kp1.trans (fun k o _ _ ho => (hB2.block k (Array.getElem?_eq_some_iff.1 ho).1).trans ho)
          · exact Boxed.kept_of e1 hB2 (Boxed.lt e1)
          · rw [hl1]; exact Boxed.kept_of e2 hB2 (Boxed.lt e2)
          · exact b1.trans (hB2.mono b1.size)
  · rintro D W hD ⟨h1, h2, ⟨sd, h3, h4⟩, h5, h7, h6⟩ hK
    rw [length_visP] at h5
    have hdeep : x.deep ≤ 8 := by
      obtain ⟨v, hv, hd⟩ := vis_deepest x 1
      have := h7 v hv
      omega
    have hsd : sd = chkP x := by
      unfold chkP
      rw [if_neg (by omega)]
      rcases h4 with ⟨e, h⟩ | ⟨e, h⟩
      · rw [if_pos ((right_vis x 1).2 h)]; exact e
      · rw [if_neg (fun t => h ((right_vis x 1).1 t))]; exact e
    rw [hsd] at h3
    have c1 := h1.cell
    have f1 := h1.frozen
    have c3 := h3.cell
    have hK' : (W.setCell ⟨w.heap.size + 1, 0, none⟩ (.int .i64 (chkP x))).heap[D]? = some (.deferred (some [])) := (KeepsOthers.setCell _ _ _).same D _ hK rfl
    have hc5 := cell_kept (h1.set (.int .i64 (chkP x))).cell (grownBy_putObj' _ D (.deferred none)) (fun r e => by cases e; exact ⟨_, hK', rfl⟩)
    gi_wp2
    refine ⟨by simp, .inl ⟨_, _, rfl, run_takeDeferred hK', ?_⟩⟩
    refine ⟨.int .i64 (chkP x), ?_, rfl, (h6.setCell (p := ⟨w.heap.size + 1, 0, none⟩) (by simp) _).trans (belowK_b (w := w) (Nat.le_refl _) _ D _ _ (by omega) hK' rfl rfl)⟩
    simp [results, Try.f15, go_sem, hc5]
  · rintro D c W hD ⟨rfl, h0, h1, h2⟩ hK
    have hc5 := cell_kept h1.cell (grownBy_putObj' _ D (.deferred none)) (fun r e => by cases e; exact ⟨_, hK, rfl⟩)
    have h00 : chkP x = 2 := by unfold chkP; rw [if_pos h0]
    gi_wp2
    refine ⟨by simp, .inl ⟨_, _, rfl, run_takeDeferred hK, ?_⟩⟩
    refine ⟨.int .i64 2, ?_, by rw [h00], h2.trans (belowK_b (w := w) (Nat.le_refl _) _ D _ _ (by omega) hK rfl rfl)⟩
    simp [results, Try.f15, go_sem, hc5]
theorem checkP_any (x : Pt) (w : World) (hX : IsP w x) (hsm : x.size ≤ 1048576) : Calls Try.prog 15 #[x.val] w fun e w' => e = .returned (.int .i64 (chkP x)) ∧ Below w.heap.size w w' :=
  (callsIn_wide (n := 3)).1 (checkP_in 3 x w hX hsm)
end Go.Proofs.Ytinnhaojmnmliaa
namespace Go.Proofs.Ytinnhaojmnmliaa
open Go.RowKit Go.Shelf
attribute [local go_sem] Oper.semAt_some

/-- What Made answers. -/
def MadeZ (x : Pt) (z : Int) : Prop := (chkP x ≠ 0 ∧ z = chkP x) ∨ (chkP x = 0 ∧ MadeP x ∧ z = 0) ∨ (chkP x = 0 ∧ ¬ MadeP x ∧ z = 4)
theorem between_no {x y : Pt} {d : Nat} (hv : (d, y) ∈ visP 1 x) (h : betweenB y (d == 1) = false) : ¬ MadeP x := fun hm => by
  have := (hm.2.2 (d, y) hv).1
  rw [h] at this
  cases this
theorem apart_no {x y : Pt} {d : Nat} (hv : (d, y) ∈ visP 1 x) (h4 : y.k ≠ 4) (h : ¬ Apart y) : ¬ MadeP x := fun hm => by
  rcases (hm.2.2 (d, y) hv).2 with e | e
  · exact h4 e
  · exact h e
set_option maxRecDepth 100000 in
set_option maxHeartbeats 8000000 in
theorem madeP_in (n : Nat) (x : Pt) (w : World) (hX : IsP w x) (hsm : x.size ≤ 1048576) (hok : POk x) :
    CallsIn Fence.wide n Try.prog 17 #[x.val] w fun e w' => ∃ z : Int, e = .returned (.int .i64 z) ∧ MadeZ x z ∧ Below w.heap.size w w' := by
  have hdd : ∀ k : Nat, (Fence.wide.depth.isSome = true → 1 ≤ k) := fun k h => by cases h
  obtain ⟨A, hA⟩ : ∃ A, (w.alloc (.cells x.cells 24)).alloc (.cells #[.int .i64 0] 36) = A := ⟨_, rfl⟩
  have hAs : A.heap.size = w.heap.size + 2 := by rw [← hA]; simp
  have hB : Below w.heap.size w A := by rw [← hA]; exact ((Below.refl _ w).alloc (Nat.le_refl _) _).alloc (by simp) _
  have hnode : NodeP A w.heap.size 0 x := by
    rw [← hA]
    exact (nodeP_new w 24 x).later ((Below.refl _ _).alloc (Nat.le_refl _) _)
  have hb1 : Boxed A (w.heap.size + 1) 36 (.int .i64 0) := by
    have := Boxed.new (w.alloc (.cells x.cells 24)) 36 (.int .i64 0)
    rw [World.size_alloc, hA] at this
    exact this
  obtain ⟨d0, d1, d2, d3, d4, d5⟩ := hnode.at0
  have hchk := checkP_any x A (hX.later hB) hsm
  refine callsIn_of_wp_marks Try.func17 rfl trivial ?_ rfl
  simp only [Try.ntmps17, List.size_toArray, List.length_cons, List.length_nil, Nat.reduceAdd, Nat.reduceSub, Array.replicate_succ, Array.replicate_zero, List.push_toArray, List.append_toArray, List.nil_append, List.cons_append]
  by_cases hc : chkP x = 0
  · rw [hc] at hchk
    by_cases h6 : x.k = 6
    · have hk6 : (x.k == 6) = true := by simp [h6]
      have hno : MadeZ x 4 := .inr (.inr ⟨hc, fun h => h.1 h6, rfl⟩)
      clear h6 hc
      gi_wp2_with (refine ⟨trivial, hdd _, ?_⟩; gi_at_call 15; refine (callsIn_wide.2 hchk).mono ?_; rintro e w2 ⟨rfl, hB2⟩; have q1 := Boxed.kept_of hb1 hB2 (by omega); have c1 := q1.cell; have f1 := q1.frozen; obtain ⟨g0, g1, g2, g3, g4, g5⟩ := (hnode.later hB2).at0)
      refine ⟨trivial, ?_⟩
      gi_wp2
      refine leaves_marks (base := A.heap.size) (ds := []) trivial fun W' hW' => ⟨.int .i64 4, ?_, 4, rfl, hno, hW'.below (by omega) ((hB.trans (hB2.mono (by omega))).setCell (p := ⟨w.heap.size + 1, 0, none⟩) (by simp) _)⟩
      have := (hW'.boxed (q1.set (.int .i64 4))).cell
      simp [results, Try.f17, go_sem, this]
    · have hk6 : (x.k == 6) = false := by simp [h6]
      gi_wp2_with (first
        | (refine ⟨trivial, hdd _, ?_⟩; gi_at_call 15; refine (callsIn_wide.2 hchk).mono ?_; rintro e w2 ⟨rfl, hB2⟩; clear hchk; have q1 := Boxed.kept_of hb1 hB2 (by omega); have n2 := hnode.later hB2; have x2 := hX.later (hB.trans (hB2.mono (by omega))); obtain ⟨g0, g1, g2, g3, g4, g5⟩ := n2.at0)
        | (refine ⟨trivial, hdd _, ?_⟩; gi_at_call 35; refine (alike_in _ x _ 0 _ n2 x2 hsm hok).mono ?_; rintro e w3 ⟨r, rfl, hr, hB3⟩; have HR : Hid _ := hr; clear hr; have q3 := Boxed.kept_of q1 hB3 (by have := hB2.size; omega); have c3 := q3.cell; have f3 := q3.frozen; cases r)
        | (refine ⟨trivial, hdd _, ?_⟩; gi_at_call 32; refine (nodesP_in _ _ _).mono ?_; rintro e w' ⟨rfl, rfl⟩))
      · refine leaves_marks (base := A.heap.size) (ds := []) trivial fun W' hW' => ⟨.int .i64 4, ?_, 4, rfl, .inr (.inr ⟨hc, fun h => (by have := HR.out.2 h.2.1; cases this), rfl⟩), hW'.below (by omega) (((hB.trans (hB2.mono (by omega))).trans (hB3.mono (by have := hB2.size; omega))).setCell (p := ⟨w.heap.size + 1, 0, none⟩) (by simp) _)⟩
        have := (hW'.boxed (q3.set (.int .i64 4))).cell
        simp [results, Try.f17, go_sem, this]
      · have hal : AlikeP x := HR.out.1 trivial
        have s2 := hB2.size
        have s3 := hB3.size
        obtain ⟨E, hE⟩ : ∃ E, w3.alloc (.cells #[.pointer (some ⟨w.heap.size, 0, none⟩)] 52) = E := ⟨_, rfl⟩
        have hEs : E.heap.size = w3.heap.size + 1 := by rw [← hE]; simp
        have h3E : Below w3.heap.size w3 E := by rw [← hE]; exact (Below.refl _ _).alloc (Nat.le_refl _) _
        have hpE : Boxed E w3.heap.size 52 (.pointer (some ⟨w.heap.size, 0, none⟩)) := by rw [← hE]; exact Boxed.new _ _ _
        have h2E : Below w2.heap.size w2 E := hB3.trans (h3E.mono s3)
        have hwE : Below w.heap.size w E := (hB.trans (hB2.mono (by omega))).trans (h2E.mono (by omega))
        have nE : NodeP E w.heap.size 0 x := n2.later h2E
        have hbE : Boxed E (w.heap.size + 1) 36 (.int .i64 0) := Boxed.kept_of q3 h3E (by omega)
        rw [hE]
        clear hE HR q3 c3 f3 q1 g0 g1 g2 g3 g4 g5 d0 d1 d2 d3 d4 d5 hA
        refine nodesP_fold w3.heap.size w.heap.size 0 x (fun k => k < w.heap.size + 1) (fun pre W => Below E.heap.size E W ∧ ∀ v ∈ pre, betweenB v.2 (v.1 == 1) = true ∧ (v.2.k = 4 ∨ Apart v.2))
          (fun c W => c = .ret ∧ ¬ MadeP x ∧ Boxed W (w.heap.size + 1) 36 (.int .i64 4) ∧ Below w.heap.size w W)
          rfl rfl hpE.cell hsm (fun k hk => by omega) (by omega) nE (PIn.xt (n := w.heap.size) (fun k hk => by omega) (hX.inn.below hwE)) ?_ ?_ ?_ ?_
          (fun d b o => { tmps := #[x.val, .pointer (some ⟨w.heap.size, 0, none⟩), .pointer (some ⟨w.heap.size + 1, 0, none⟩), .int .i64 0, .int .i64 d, .pointer (some ⟨b, o, none⟩), .agg #[.int .i64 x.k, .string x.s, .string x.t, .int .i64 x.lo, .int .i64 x.hi, .slice x.a x.n x.cap], .int .i64 0, .int .i64 0, .bool false, undef, .pointer (some ⟨w.heap.size, 0, none⟩), .int .i64 x.k, .bool false, .bool false, .bool true, .bool false, .bool false, .func (.func 54) #[] #[.pointer (some ⟨w3.heap.size, 0, none⟩)], .int .i64 d, .pointer (some ⟨b, o, none⟩), undef, undef, undef, undef, undef, undef, undef, undef, undef, undef, undef, undef, undef, undef, undef, undef, undef], defers := [] }) ?_ ?_ ?_ ?_
        · rintro pre W B hag ⟨h1, h2⟩
          exact ⟨hag.below (Nat.le_refl _) h1, h2⟩
        · rintro pre W ⟨h1, h2⟩
          exact ⟨h1.drew, h2⟩
        · exact fun W hW => ⟨hW, fun v hv => by simp at hv⟩
        · rintro c W B hag ⟨h1, h2, h3, h4⟩
          exact ⟨h1, h2, hag.boxed h3, hag.below (by omega) h4⟩
        · intro l d b o W K hK
          gi_wp2
          first | exact hK | simpa using hK
        · rintro l d b o y pre W hb hn hx ⟨hW, hpre⟩ hs ⟨post, hpo⟩
          have hv : (d, y) ∈ visP 1 x := by rw [← hpo]; simp
          clear hpo
          have hyk := visP_all (P := fun _ z => POk z ∧ z.size ≤ 1048576) (fun _ z hz i hi => ⟨((pOk_eq z).1 hz.1).2.2 i hi, by have := z.size_part i hi; omega⟩) x 1 ⟨hok, hsm⟩ (d, y) hv
          have hbt := between_any y (d == 1) b o W hn hx.is
          have hd1 : ((d : Int) == 1) = (d == 1) := by rw [Bool.eq_iff_iff]; simp; omega
          have HP : Hid (∀ W', Below W.heap.size W W' → betweenB y (d == 1) = true → (y.k = 4 ∨ Apart y) → foldPost E.heap.size (fun k => k < w.heap.size + 1 ∨ k = E.heap.size + 2 ∨ k = E.heap.size + 3) (fun W => Below E.heap.size E W ∧ ∀ v ∈ pre ++ [(d, y)], betweenB v.2 (v.1 == 1) = true ∧ (v.2.k = 4 ∨ Apart v.2)) (fun c W => c = .ret ∧ ¬ MadeP x ∧ Boxed W (w.heap.size + 1) 36 (.int .i64 4) ∧ Below w.heap.size w W) W .normal ⟨#[], []⟩ W') := fun W' hB' h1 h2 => by
            refine ⟨⟨hB'.size, fun k ob _ ho _ => (hB'.block k (Array.getElem?_eq_some_iff.1 ho).1).trans ho⟩, fun k ob _ _ ho => (hB'.block k (Array.getElem?_eq_some_iff.1 ho).1).trans ho, hW.trans (hB'.mono hW.size), fun v hv => ?_⟩
            rcases List.mem_append.1 hv with hv | hv
            · exact hpre v hv
            · rw [List.mem_singleton] at hv; rw [hv]; exact ⟨h1, h2⟩
          have HX : Hid (∀ W', Below W.heap.size W W' → ¬ MadeP x → foldPost E.heap.size (fun k => k < w.heap.size + 1 ∨ k = E.heap.size + 2 ∨ k = E.heap.size + 3) (fun W => Below E.heap.size E W ∧ ∀ v ∈ pre ++ [(d, y)], betweenB v.2 (v.1 == 1) = true ∧ (v.2.k = 4 ∨ Apart v.2)) (fun c W => c = .ret ∧ ¬ MadeP x ∧ Boxed W (w.heap.size + 1) 36 (.int .i64 4) ∧ Below w.heap.size w W) W .ret ⟨#[], []⟩ (W'.setCell ⟨w.heap.size + 1, 0, none⟩ (.int .i64 4))) := fun W' hB' h1 => by
            have r1 : Boxed W' (w.heap.size + 1) 36 (.int .i64 0) := Boxed.kept_of (Boxed.kept_of hbE hW (by omega)) hB' (by have := hW.size; omega)
            have k0 : KeepsOthers W W' := ⟨hB'.size, fun k ob ho _ => (hB'.block k (Array.getElem?_eq_some_iff.1 ho).1).trans ho⟩
            exact ⟨(k0.trans (KeepsOthers.setCell _ _ _)).from _, rfl, h1, r1.set _, ((hwE.trans (hW.mono (by omega))).trans (hB'.mono (by have := hW.size; omega))).setCell (p := ⟨w.heap.size + 1, 0, none⟩) (by simp) _⟩
          have HC : Hid (∀ W', Below W.heap.size W W' → W'.cell? ⟨w.heap.size + 1, 0, none⟩ = some (.int .i64 0) ∧ W'.frozen? ⟨w.heap.size + 1, 0, none⟩ = false ∧ W'.cell? ⟨b, o, none⟩ = some (.int .i64 y.k)) := fun W' hB' => by
            have r1 : Boxed W' (w.heap.size + 1) 36 (.int .i64 0) := Boxed.kept_of (Boxed.kept_of hbE hW (by omega)) hB' (by have := hW.size; omega)
            exact ⟨r1.cell, r1.frozen, (hn.later hB').1⟩
          clear hpre hbE hW
          obtain ⟨t, ht⟩ : ∃ t, t = betweenB y (d == 1) := ⟨_, rfl⟩
          rw [← ht] at hbt
          cases t with
          | false =>
            have HNM : Hid (¬ MadeP x) := between_no hv ht.symm
            clear hv ht hyk hn hx
            gi_wp2_with (refine ⟨trivial, hdd _, ?_⟩; gi_at_call 36; refine (CallsIn.inRound l (callsIn_wide.2 hbt)).mono ?_; rintro e v2 ⟨rfl, hC2⟩; obtain ⟨r1, r2, r3⟩ := HC.out v2 hC2)
            all_goals first
              | (rename_i h1 h2; cases h1; done)
              | (refine ⟨trivial, ?_⟩; gi_wp2; exact HX.out _ hC2 HNM.out)
          | true =>
            by_cases h4 : y.k = 4
            · have t4 : (y.k != 4) = false := by simp [h4]
              have HGO : Hid _ := fun W' hB' => HP.out W' hB' ht.symm (.inl h4)
              clear hv ht hyk hn hx HX HP h4
              gi_wp2_with (refine ⟨trivial, hdd _, ?_⟩; gi_at_call 36; refine (CallsIn.inRound l (callsIn_wide.2 hbt)).mono ?_; rintro e v2 ⟨rfl, hC2⟩; obtain ⟨r1, r2, r3⟩ := HC.out v2 hC2)
              refine ⟨trivial, ?_⟩
              gi_wp2
              exact HGO.out _ hC2
            · have t4 : (y.k != 4) = true := by simp [h4]
              have hap := fun W' hB' => apart_any y b o W' (hn.later hB') (hx.is.later hB') hyk.2 hyk.1
              have HV : Hid ((d, y) ∈ visP 1 x) := hv
              have H4 : Hid (y.k ≠ 4) := h4
              have HT : Hid (true = betweenB y (d == 1)) := ht
              clear hv ht hyk hn hx h4
              gi_wp2_with (first
                | (refine ⟨trivial, hdd _, ?_⟩; gi_at_call 36; refine (CallsIn.inRound l (callsIn_wide.2 hbt)).mono ?_; rintro e v2 ⟨rfl, hC2⟩; clear hbt; obtain ⟨r1, r2, r3⟩ := HC.out v2 hC2)
                | (refine ⟨trivial, hdd _, ?_⟩; gi_at_call 37; refine (CallsIn.inRound l (callsIn_wide.2 (hap v2 hC2))).mono ?_; clear hap; rintro e v3 ⟨r, rfl, hr, hC3⟩; have HR : Hid _ := hr; clear hr; have hC4 := hC2.trans (hC3.mono hC2.size); obtain ⟨s1, s2, s3⟩ := HC.out v3 hC4; cases r))
              · exact HX.out _ hC4 (apart_no HV.out H4.out (fun h => (by have := HR.out.2 h; cases this)))
              · exact HP.out _ hC4 HT.out.symm (.inr (HR.out.1 trivial))
        · rintro D0 W hD ⟨hW, hall⟩ hK
          have rW := Boxed.kept_of hbE hW (by omega)
          have rc := rW.cell
          have rf := rW.frozen
          have hK' : (W.setCell ⟨w.heap.size + 1, 0, none⟩ (.int .i64 0)).heap[D0]? = some (.deferred (some [])) := (KeepsOthers.setCell _ _ _).same D0 _ hK rfl
          have hmade : MadeZ x 0 := .inr (.inl ⟨hc, ⟨h6, hal, hall⟩, rfl⟩)
          clear hall hal
          gi_wp2
          refine leaves_marks (base := E.heap.size) ⟨D0, rfl, hD, hK', fun d' hd' => (by simp at hd'), trivial⟩ fun W' hW' => ⟨.int .i64 0, ?_, 0, rfl, hmade, hW'.below (by omega) ((hwE.trans (hW.mono (by omega))).setCell (p := ⟨w.heap.size + 1, 0, none⟩) (by simp) _)⟩
          have := (hW'.boxed (rW.set (.int .i64 0))).cell
          simp [results, Try.f17, go_sem, this]
        · rintro D0 c W hD ⟨rfl, h2, h3, h4⟩ hK
          gi_wp2
          refine leaves_marks (base := E.heap.size) ⟨D0, rfl, hD, hK, fun d' hd' => (by simp at hd'), trivial⟩ fun W' hW' => ⟨.int .i64 4, ?_, 4, rfl, .inr (.inr ⟨hc, h2, rfl⟩), hW'.below (by omega) h4⟩
          have := (hW'.boxed h3).cell
          simp [results, Try.f17, go_sem, this]
  · have HNZ : Hid (MadeZ x (chkP x)) := .inl ⟨hc, rfl⟩
    obtain ⟨z, hz⟩ : ∃ z, z = chkP x := ⟨_, rfl⟩
    have hne : (z != 0) = true := by simp [hz, hc]
    rw [← hz] at hchk HNZ
    clear hz hc
    gi_wp2_with (refine ⟨trivial, hdd _, ?_⟩; gi_at_call 15; refine (callsIn_wide.2 hchk).mono ?_; rintro e w2 ⟨rfl, hB2⟩; have q1 := Boxed.kept_of hb1 hB2 (by omega); have c1 := q1.cell; have f1 := q1.frozen)
    refine leaves_marks (base := A.heap.size) (ds := []) trivial fun W' hW' => ⟨.int .i64 z, ?_, z, rfl, HNZ.out, hW'.below (by omega) ((hB.trans (hB2.mono (by omega))).setCell (p := ⟨w.heap.size + 1, 0, none⟩) (by simp) _)⟩
    have := (hW'.boxed (q1.set (.int .i64 z))).cell
    simp [results, Try.f17, go_sem, this]
theorem madeP_any (x : Pt) (w : World) (hX : IsP w x) (hsm : x.size ≤ 1048576) (hok : POk x) :
    Calls Try.prog 17 #[x.val] w fun e w' => ∃ z : Int, e = .returned (.int .i64 z) ∧ MadeZ x z ∧ Below w.heap.size w w' :=
  (callsIn_wide (n := 3)).1 (madeP_in 3 x w hX hsm hok)
end Go.Proofs.Ytinnhaojmnmliaa
namespace Go.Proofs.Ytinnhaojmnmliaa
open Go.RowKit

theorem atK_right {x : Pt} {Z : Nat → Int} (h : chkP x = 0) : ∀ {m : Nat} {y : Pt}, atK x Z m = some y → chkP y = 0
  | 0, y, e => by cases e; exact h
  | m + 1, y, e => by
    cases hq : atK x Z m with
    | none => simp only [atK, hq] at e; cases e
    | some q =>
      simp only [atK, hq] at e
      split at e
      · rename_i hz
        cases e
        exact chkP_part (atK_right h hq) (by omega)
      · cases e
theorem atK_size {x : Pt} {Z : Nat → Int} : ∀ {m : Nat} {y : Pt}, atK x Z m = some y → y.size ≤ x.size
  | 0, y, e => by cases e; exact Nat.le_refl _
  | m + 1, y, e => by
    cases hq : atK x Z m with
    | none => simp only [atK, hq] at e; cases e
    | some q =>
      simp only [atK, hq] at e
      split at e
      · rename_i hz
        cases e
        have h1 := q.size_part (Z m).toNat (by omega)
        have h2 := atK_size hq
        omega
      · cases e
theorem isP_nil (w : World) : IsP w .nil := (isP_eq w .nil).2 ⟨Nat.le_refl _, by decide, fun i hi => absurd hi (Nat.not_lt_zero _)⟩
/-- At, whatever it answers. -/
theorem at_both (x : Pt) (a : Option Addr) (m cap : Nat) (Z : Nat → Int) (w : World) (hX : IsP w x) (hsm : x.size ≤ 1048576) (hZ : Ints .i64 w a m Z) (hm : m ≤ 9223372036854775807) :
    ∃ ok : Bool, Calls Try.prog 9 #[x.val, .slice a m cap] w fun e w' => ∃ q : Pt, e = .returned (.tuple #[q.val, .bool ok]) ∧ IsP w' q ∧ q.size ≤ 1048576 ∧ (ok = true → chkP x = 0 → chkP q = 0) ∧ (ok = false → q = .nil) ∧ Below w.heap.size w w' := by
  cases hy : atK x Z m with
  | none =>
    refine ⟨false, (at_no x a m cap Z w hX hZ hm hy).mono ?_⟩
    rintro e w' ⟨rfl, hB⟩
    exact ⟨.nil, rfl, isP_nil _, by decide, fun h => (by cases h), fun _ => rfl, hB⟩
  | some y =>
    refine ⟨true, (at_yes x y a m cap Z w hX hsm hZ hm hy).mono ?_⟩
    rintro e w' ⟨q, rfl, hq, hs, _, hB⟩
    exact ⟨q, rfl, hq.is, (by rw [size_sm hs]; exact Nat.le_trans (atK_size hy) hsm), fun _ h => (chkP_sm hs).trans (atK_right h hy), fun h => (by cases h), hB⟩
/-- Tail, whatever it answers. -/
theorem tail_both (x : Pt) (hsm : x.size ≤ 1048576) :
    ∃ is : Bool, ∀ w, IsP w x → Calls Try.prog 11 #[x.val] w fun e w' => ∃ t : Pt, e = .returned (.tuple #[t.val, .bool is]) ∧ (is = true → (t.k != 6) = false) ∧ Below w.heap.size w w' := by
  by_cases h : ∃ q, HasTail x q
  · obtain ⟨q, h⟩ := h
    refine ⟨true, fun w hX => (tail_yes x q w hX hsm h).mono ?_⟩
    rintro e w' ⟨y, rfl, _, hs, _, hB⟩
    exact ⟨y, rfl, fun _ => by rw [((sm_iff _ _).1 hs).1.trans h.2.2]; rfl, hB⟩
  · refine ⟨false, fun w hX => (tail_no x w hX (fun q hq => h ⟨q, hq⟩)).mono ?_⟩
    rintro e w' ⟨rfl, hB⟩
    exact ⟨.nil, rfl, fun h => (by cases h), hB⟩
theorem made_six {x : Pt} {z : Int} (h : MadeZ x z) (hc : chkP x = 0) : (z != 0) = true ∨ (z = 0 ∧ (x.k != 6) = true) := by
  rcases h with ⟨h1, _⟩ | ⟨_, h1, h2⟩ | ⟨_, _, h2⟩
  · exact absurd hc h1
  · exact .inr ⟨h2, by simpa using h1.1⟩
  · exact .inl (by rw [h2]; rfl)
/-- A new box, and a pattern put into it. -/
theorem boxP_put (q : Pt) (w : World) : ∃ A W, w.alloc (.cells zeroP 24) = A ∧ A.heap[w.heap.size]? = some (.cells zeroP 24 (0, 0)) ∧
    (((((A.setCell ⟨w.heap.size, 0, none⟩ (.int .i64 q.k)).setCell ⟨w.heap.size, 1, none⟩ (.string q.s)).setCell ⟨w.heap.size, 2, none⟩ (.string q.t)).setCell ⟨w.heap.size, 3, none⟩ (.int .i64 q.lo)).setCell ⟨w.heap.size, 4, none⟩ (.int .i64 q.hi)).setCell ⟨w.heap.size, 5, none⟩ (.slice q.a q.n q.cap) = W ∧
    Below w.heap.size w W ∧ NodeP W w.heap.size 0 q ∧ W.heap.size = w.heap.size + 1 := by
  have h0 : (w.alloc (.cells zeroP 24)).heap[w.heap.size]? = some (.cells zeroP 24 (0, 0)) := World.alloc_heap_new w _
  exact ⟨_, _, rfl, h0, rfl, below_set6 ((Below.refl _ w).alloc (Nat.le_refl _) _) (Nat.le_refl _), nodeP_box (heap_set6 (z := .nil) h0), by simp⟩
end Go.Proofs.Ytinnhaojmnmliaa
namespace Go.Proofs.Ytinnhaojmnmliaa
open Go.RowKit

set_option maxRecDepth 100000 in
set_option maxHeartbeats 8000000 in
theorem refNots_any : ∀ (x : Pt) (whole : Bool) (w : World), IsP w x →
    Calls Try.prog 38 #[x.val, .bool whole] w fun e w' => e = .returned (.bool (notsP x whole)) ∧ Below w.heap.size w w' := by
  refine Pt.ind fun x ih whole w hX => ?_
  obtain ⟨A, hA, hB, hs, hn⟩ := boxP_one x w
  obtain ⟨f, hf⟩ : ∃ f : Nat → Bool, f = fun i => if (x.c i).k = 6 then notB x whole i else notsP (x.c i) false := ⟨_, rfl⟩
  obtain ⟨r, hr⟩ : ∃ r, r = notsP x whole := ⟨_, rfl⟩
  have hr' : r = allN f x.n := by rw [hr, notsP_eq, hf]
  have HF : Hid (∀ i, i < x.n → f i = false → r = false) := fun i hi h => hr'.trans (allN_false hi h)
  have HT : Hid ((∀ i, i < x.n → f i = true) → r = true) := fun h => hr'.trans (allN_true.2 h)
  rw [← hr]
  have F6 : Hid (∀ i, (x.c i).k = 6 → f i = notB x whole i) := fun i h => by rw [hf]; simp [h]
  have F0 : Hid (∀ i, ¬ (x.c i).k = 6 → f i = notsP (x.c i) false) := fun i h => by rw [hf]; simp [h]
  have HN : Hid (NodeP A w.heap.size 0 x) := hn
  have HX : Hid (IsP A x) := hX.later hB
  have HB : Hid (Below w.heap.size w A) := hB
  have HI : Hid (∀ i, i < x.n → ∀ d, IsP d (x.c i) → Calls Try.prog 38 #[(x.c i).val, .bool false] d fun e w' => e = .returned (.bool (notsP (x.c i) false)) ∧ Below d.heap.size d w') := fun i hi d hd => ih i hi false d hd
  have hlen := hX.len
  clear hr hr' hf hX hB ih hn
  go_enter Try.func38, Try.ntmps38
  go_wp2
  go_loopw [5] (fun u wr => ∃ k : Nat, k ≤ x.n ∧ u = .int .i64 k ∧ Hid (∀ i, i < k → f i = true) ∧ Below A.heap.size A wr) (fun u _ => x.n - (intOf u).toNat)
  case atStart => exact ⟨0, Nat.zero_le _, rfl, fun i hi => absurd hi (Nat.not_lt_zero _), Below.refl _ _⟩
  case round =>
    obtain ⟨k, hk, rfl, HK, hB⟩ := hrel
    have HBr : Hid (Below A.heap.size A wr) := hB
    by_cases hkn : k < x.n
    · obtain ⟨b1, o1, ea, hn1, hx1⟩ := (HX.out.later hB).part hkn
      obtain ⟨C, W, hC, hCb, hCW, hCB, hCn, hCs⟩ := boxP_put (x.c k) wr
      obtain ⟨⟨g0, g1, g2, g3, g4, g5⟩, f0, f1, f2, f3, f4, f5⟩ := zero_cells hCb
      have HBW : Hid (Below A.heap.size A W) := hB.trans (hCB.mono hB.size)
      have HXW : Hid (IsP W (x.c k)) := hx1.later hCB
      obtain ⟨e0, e1, e2, e3, e4, e5⟩ := (HN.out.later hB).at0
      obtain ⟨i0, i1, i2, i3, i4, i5⟩ := (HN.out.later HBW.out).at0
      obtain ⟨c0, c1, c2, c3, c4, c5⟩ := hn1
      obtain ⟨j0, j1, j2, j3, j4, j5⟩ := hCn.at0
      rw [ea] at e5 i5
      have HKN : Hid (k < x.n) := hkn
      have next : (f k = true) → ∀ i, i < k + 1 → f i = true := fun h i hi => by
        by_cases e : i = k
        · rw [e]; exact h
        · exact HK.out i (by omega)
      clear hx1 hCb hCn i1 i2 i3 i4 e0 e1 e2 e3 e4
      by_cases h6 : (x.c k).k = 6
      · have t1 : ((x.c k).k == 6) = true := by simp [h6]
        have hfk := F6.out k h6
        by_cases h2 : x.k = 2
        · have t2 : (x.k != 2) = false := by simp [h2]
          by_cases h0 : k = 0
          · have t3 : (((k : Nat) : Int) == 0) = true := by simp [h0]
            have HE : Hid (r = false) := HF.out k hkn (by rw [hfk]; rw [h0] at h6 ⊢; simp [notB, h6])
            clear h6 h2 h0 next ea hB hCB hCs hfk
            go_wp2
            all_goals first
              | (rename_i q1 q2; cases q1; done)
              | (go_ret; exact ⟨by rw [HE.out]; rfl, HB.out.trans (HBW.out.mono HB.out.size)⟩)
          · obtain ⟨j, hj⟩ : ∃ j, k = j + 1 := ⟨k - 1, by omega⟩
            have hq : ((k : Nat) : Int) - 1 = (j : Int) := by omega
            have hjn : j < x.n := by omega
            have t3 : (((k : Nat) : Int) == 0) = false := by simp; omega
            obtain ⟨b2, o2, ea2, hn2, -⟩ := (HX.out.later HBW.out).part hjn
            rw [ea] at ea2
            cases ea2
            obtain ⟨p0, p1, p2, p3, p4, p5⟩ := hn2
            have hkj : x.c (k - 1) = x.c j := by rw [hj]; rfl
            clear p1 p2 p3 p4 p5
            by_cases h5 : (x.c j).k = 6
            · have t4 : ((x.c j).k == 6) = true := by simp [h5]
              have HE : Hid (r = false) := HF.out k hkn (by rw [hfk]; simp [notB, h6, hkj, h5])
              clear h6 h2 h0 next ea hB hCB hCs hfk hj hkj h5
              go_wp2
              all_goals first
                | (rename_i q1 q2; cases q1; done)
                | (go_ret; exact ⟨by rw [HE.out]; rfl, HB.out.trans (HBW.out.mono HB.out.size)⟩)
            · have t4 : ((x.c j).k == 6) = false := by simp [h5]
              by_cases hl : k + 1 = x.n
              · have t5 : (((k : Nat) : Int) == ((x.n : Nat) : Int) - 1) = true := by simp; omega
                cases whole with
                | false =>
                  have HE : Hid (r = false) := HF.out k hkn (by rw [hfk]; simp [notB, h6, hl])
                  clear h6 h2 h0 next ea hB hCB hCs hfk hj hkj h5 hl
                  go_wp2
                  all_goals first
                    | (rename_i q1 q2; cases q1; done)
                    | (go_ret; exact ⟨by rw [HE.out]; rfl, HB.out.trans (HBW.out.mono HB.out.size)⟩)
                | true =>
                  have HE : Hid (∀ i, i < k + 1 → f i = true) := next (by rw [hfk]; simp [notB, h2, h0, hkj, h5])
                  clear h6 h2 h0 next ea hB hCB hCs hfk hj hkj h5 hl
                  go_wp2
                  go_roundw
                  case rel => exact ⟨k + 1, HKN.out, by go_num, HE, HBW.out⟩
                  case measure => have := HKN.out; simp [intOf]; omega
              · have t5 : (((k : Nat) : Int) == ((x.n : Nat) : Int) - 1) = false := by simp; omega
                have HE : Hid (∀ i, i < k + 1 → f i = true) := next (by rw [hfk]; simp [notB, h2, h0, hkj, h5, hl])
                clear h6 h2 h0 next ea hB hCB hCs hfk hj hkj h5 hl
                go_wp2
                go_roundw
                case rel => exact ⟨k + 1, HKN.out, by go_num, HE, HBW.out⟩
                case measure => have := HKN.out; simp [intOf]; omega
        · have t2 : (x.k != 2) = true := by simp [h2]
          have HE : Hid (r = false) := HF.out k hkn (by rw [hfk]; simp [notB, h6, h2])
          clear h6 h2 next ea hB hCB hCs hfk
          go_wp2
          all_goals first
            | (rename_i q1 q2; cases q1; done)
            | (go_ret; exact ⟨by rw [HE.out]; rfl, HB.out.trans (HBW.out.mono HB.out.size)⟩)
      · have t1 : ((x.c k).k == 6) = false := by simp [h6]
        have hc := HI.out k hkn W HXW.out
        rw [← F0.out k h6] at hc
        clear h6 hB hCB hCs
        cases hv : f k with
        | true =>
          rw [hv] at hc
          have HE : Hid (∀ i, i < k + 1 → f i = true) := next hv
          clear next hv ea
          go_wp2_with (go_at_call 38; refine hc.mono ?_; clear hc; rintro e w2 ⟨rfl, hB2⟩)
          go_roundw
          case rel => exact ⟨k + 1, HKN.out, by go_num, HE, HBW.out.trans (hB2.mono HBW.out.size)⟩
          case measure => have := HKN.out; simp [intOf]; omega
        | false =>
          rw [hv] at hc
          have HE : Hid (r = false) := HF.out k hkn hv
          clear next hv ea
          go_wp2_with (go_at_call 38; refine hc.mono ?_; clear hc; rintro e w2 ⟨rfl, hB2⟩)
          go_ret
          exact ⟨by rw [HE.out]; rfl, HB.out.trans ((HBW.out.trans (hB2.mono HBW.out.size)).mono HB.out.size)⟩
    · obtain rfl : k = x.n := by omega
      obtain ⟨e0, e1, e2, e3, e4, e5⟩ := (HN.out.later hB).at0
      go_wp2
      go_ret
      exact ⟨by rw [HT.out HK.out]; rfl, HB.out.trans (hB.mono HB.out.size)⟩
end Go.Proofs.Ytinnhaojmnmliaa
