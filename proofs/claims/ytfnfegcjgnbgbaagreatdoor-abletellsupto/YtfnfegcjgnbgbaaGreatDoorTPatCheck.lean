/-
  pat.Check.
  A range over all nodes whose rounds may write: told by relations between worlds.
  pat.named: a range over the nodes that have a Var.
  When a pattern is well made: plain facts, of no function.
-/
import Derived.Test.YtfnfegcjgnbgbaaGreatDoorTPatRightC
import Derived.Test.YtfnfegcjgnbgbaaGreatDoorTPatKinds
import Derived.Test.YtfnfegcjgnbgbaaGreatDoorTPatMath
import Derived.Test.YtfnfegcjgnbgbaaGreatDoorTPatRightMath
namespace Go.Proofs.YtfnfegcjgnbgbaaGreatDoor
open Go.RowKit Go.Shelf
attribute [local go_sem] Oper.semAt_some

theorem PT.is {T : Nat → Prop} {w : World} : ∀ {x : Pt}, PT T w x → IsP w x := by
  refine @(Pt.ind fun x ih hx => ?_)
  rw [pT_eq] at hx
  rw [isP_eq]
  refine ⟨hx.1, hx.2.1, fun i hi => ?_⟩
  obtain ⟨b, o, e, hb, hn, hc⟩ := hx.2.2 i hi
  exact ⟨b, o, e, hn, ih i hi hc⟩
/-- How far Check has come. -/
def SaidP (pre : List (Nat × Pt)) (sd : Int) : Prop := (sd = 0 ∧ ∀ v ∈ pre, rightN v.2 = true) ∨ (sd = 1 ∧ ¬ ∀ v ∈ pre, rightN v.2 = true)
theorem SaidP.yes {pre : List (Nat × Pt)} {sd : Int} {v : Nat × Pt} (h : SaidP pre sd) (hv : rightN v.2 = true) : SaidP (pre ++ [v]) sd := by
  rcases h with ⟨h1, h2⟩ | ⟨h1, h2⟩
  · refine .inl ⟨h1, fun u hu => ?_⟩
    rcases List.mem_append.1 hu with hu | hu
    · exact h2 u hu
    · rw [List.mem_singleton] at hu; rw [hu]; exact hv
  · exact .inr ⟨h1, fun h => h2 fun u hu => h u (List.mem_append_left _ hu)⟩
theorem SaidP.no {pre : List (Nat × Pt)} {v : Nat × Pt} (hv : ¬ rightN v.2 = true) : SaidP (pre ++ [v]) 1 := .inr ⟨rfl, fun h => hv (h v (by simp))⟩
set_option maxRecDepth 100000 in
set_option maxHeartbeats 4000000 in
theorem checkP_in (n : Nat) (x : Pt) (w : World) (hX : IsP w x) (hsm : x.size ≤ 1048576) :
    CallsIn Fence.wide n Tryz.prog 50 #[x.val] w fun e w' => e = .returned (.int .i64 (chkP x)) ∧ Below w.heap.size w w' := by
  have hdd : ∀ k : Nat, (Fence.wide.depth.isSome = true → 1 ≤ k) := fun k h => by cases h
  refine callsIn_of_wp_marks Tryz.func50 rfl trivial ?_ rfl
  simp only [Tryz.ntmps50, List.size_toArray, List.length_cons, List.length_nil, Nat.reduceAdd, Nat.reduceSub, Array.replicate_succ, Array.replicate_zero, List.push_toArray, List.append_toArray, List.nil_append, List.cons_append]
  gi_wp2_with (refine ⟨trivial, hdd _, ?_⟩; gi_at_call 52; refine (nodesP_in _ _ _).mono ?_; rintro e w' ⟨rfl, rfl⟩)
  obtain ⟨A, hA⟩ : ∃ A, (((((w.alloc (.cells x.cells 24)).alloc (.cells #[.int .i64 0] 32)).alloc (.cells #[.int .i64 0] 3)).alloc (.cells #[.int .i64 0] 32)).alloc (.cells #[.pointer (some ⟨w.heap.size, 0, none⟩)] 81)) = A := ⟨_, rfl⟩
  have hsz : A.heap.size = w.heap.size + 5 := by rw [← hA]; simp
  have hB : Below w.heap.size w A := by rw [← hA]; exact (((((Below.refl _ w).alloc (Nat.le_refl _) _).alloc (by simp) _).alloc (by first | (simp; done) | (simp; omega)) _).alloc (by first | (simp; done) | (simp; omega)) _).alloc (by first | (simp; done) | (simp; omega)) _
  have hnode : NodeP A w.heap.size 0 x := by
    rw [← hA]
    exact (nodeP_new w 24 x).later (((((Below.refl _ _).alloc (Nat.le_refl _) _).alloc (by simp) _).alloc (by first | (simp; done) | (simp; omega)) _).alloc (by first | (simp; done) | (simp; omega)) _)
  have hb1 : Boxed A (w.heap.size + 1) 32 (.int .i64 0) := by
    have := (((Boxed.new (w.alloc (.cells x.cells 24)) 32 (.int .i64 0)).alloc (.cells #[.int .i64 0] 3)).alloc (.cells #[.int .i64 0] 32)).alloc (.cells #[.pointer (some ⟨w.heap.size, 0, none⟩)] 81)
    rw [World.size_alloc, hA] at this
    exact this
  have hb2 : Boxed A (w.heap.size + 1 + 1) 3 (.int .i64 0) := by
    have := ((Boxed.new ((w.alloc (.cells x.cells 24)).alloc (.cells #[.int .i64 0] 32)) 3 (.int .i64 0)).alloc (.cells #[.int .i64 0] 32)).alloc (.cells #[.pointer (some ⟨w.heap.size, 0, none⟩)] 81)
    rw [World.size_alloc, World.size_alloc, hA] at this
    exact this
  have hb3 : Boxed A (w.heap.size + 1 + 1 + 1) 32 (.int .i64 0) := by
    have := (Boxed.new (((w.alloc (.cells x.cells 24)).alloc (.cells #[.int .i64 0] 32)).alloc (.cells #[.int .i64 0] 3)) 32 (.int .i64 0)).alloc (.cells #[.pointer (some ⟨w.heap.size, 0, none⟩)] 81)
    rw [World.size_alloc, World.size_alloc, World.size_alloc, hA] at this
    exact this
  have hbp : Boxed A (w.heap.size + 1 + 1 + 1 + 1) 81 (.pointer (some ⟨w.heap.size, 0, none⟩)) := by
    have := Boxed.new ((((w.alloc (.cells x.cells 24)).alloc (.cells #[.int .i64 0] 32)).alloc (.cells #[.int .i64 0] 3)).alloc (.cells #[.int .i64 0] 32)) 81 (.pointer (some ⟨w.heap.size, 0, none⟩))
    rw [World.size_alloc, World.size_alloc, World.size_alloc, World.size_alloc, hA] at this
    exact this
  rw [hA]
  refine nodesP_fold (w.heap.size + 1 + 1 + 1 + 1) w.heap.size 0 x (fun k => k < w.heap.size + 1)
    (fun pre W => Boxed W (w.heap.size + 1) 32 (.int .i64 0) ∧ Boxed W (w.heap.size + 1 + 1) 3 (.int .i64 (pre.length : Int)) ∧ (∃ sd, Boxed W (w.heap.size + 1 + 1 + 1) 32 (.int .i64 sd) ∧ SaidP pre sd) ∧ pre.length ≤ 64 ∧ (∀ v ∈ pre, v.1 ≤ 8) ∧ Below w.heap.size w W)
    (fun c W => c = .ret ∧ (64 < x.size ∨ 8 < x.deep) ∧ Boxed W (w.heap.size + 1) 32 (.int .i64 2) ∧ Below w.heap.size w W)
    rfl rfl hbp.cell hsm (fun k hk => by omega) (by omega) hnode (PIn.xt (n := w.heap.size) (fun k hk => by omega) (hX.inn.below hB)) ?_ ?_ ?_ ?_
    (fun d b o => { tmps := #[x.val, .pointer (some ⟨w.heap.size, 0, none⟩), .pointer (some ⟨w.heap.size + 1, 0, none⟩), .pointer (some ⟨w.heap.size + 1 + 1, 0, none⟩), .pointer (some ⟨w.heap.size + 1 + 1 + 1, 0, none⟩), .int .i64 d, .pointer (some ⟨b, o, none⟩), .func (.func 77) #[] #[.pointer (some ⟨w.heap.size + 1 + 1 + 1 + 1, 0, none⟩)], .int .i64 d, .pointer (some ⟨b, o, none⟩), undef, undef, undef, undef, undef, undef, undef, undef, undef, undef, undef, undef], defers := [] }) ?_ ?_ ?_ ?_
  · rintro pre W B hag ⟨h1, h2, ⟨sd, h3, h4⟩, h5, h7, h6⟩
    exact ⟨hag.boxed h1, hag.boxed h2, ⟨sd, hag.boxed h3, h4⟩, h5, h7, hag.below (by omega) h6⟩
  · exact fun pre W h => ⟨h.1, h.2.1, h.2.2.1, h.2.2.2.1, h.2.2.2.2.1, h.2.2.2.2.2.drew⟩
  · exact fun W h => ⟨Boxed.kept_of hb1 h (by omega), Boxed.kept_of hb2 h (by omega), ⟨0, Boxed.kept_of hb3 h (by omega), .inl ⟨rfl, by simp⟩⟩, by simp, by simp, hB.trans (h.mono (by omega))⟩
  · rintro c W B hag ⟨h1, h2, h3, h4⟩
    exact ⟨h1, h2, hag.boxed h3, hag.below (by omega) h4⟩
  · intro l d b o W K hK
    gi_wp2
    first | exact hK | simpa using hK
  · rintro l d b o y pre W hb hn hx ⟨h1, h2, ⟨sd, h3, h4⟩, h5, h7, h6⟩ hs ⟨post, hpo⟩
    have hlt : pre.length + 1 ≤ x.size := by
      have := congrArg List.length hpo
      rw [length_visP, List.length_append, List.length_cons] at this
      omega
    have hdd2 : d ≤ x.deep := by
      have hm : (d, y) ∈ visP 1 x := by rw [← hpo]; simp
      have := (vis_deep x 1 _ hm).1
      have := y.deep_pos
      simp only at *
      omega
    clear hpo
    have c2 := h2.cell
    have f2 := h2.frozen
    obtain ⟨m, hm⟩ : ∃ m, m = pre.length := ⟨_, rfl⟩
    have HM : Hid (m = pre.length) := hm
    rw [← hm] at c2 h2 h5 hlt
    have e1 := h1.other (show w.heap.size + 1 ≠ w.heap.size + 1 + 1 by omega) (.int .i64 ((m : Int) + 1))
    have e2 := h2.set (.int .i64 ((m : Int) + 1))
    have e3 := h3.other (show w.heap.size + 1 + 1 + 1 ≠ w.heap.size + 1 + 1 by omega) (.int .i64 ((m : Int) + 1))
    have kp1 : Kp (fun k => k < w.heap.size + 1 ∨ k = A.heap.size + 2 ∨ k = A.heap.size + 3) W (W.setCell ⟨w.heap.size + 1 + 1, 0, none⟩ (.int .i64 ((m : Int) + 1))) := Kp.set _ (by simp; omega)
    have n1 : NodeP (W.setCell ⟨w.heap.size + 1 + 1, 0, none⟩ (.int .i64 ((m : Int) + 1))) b o y := hn.kept kp1 (.inl hb)
    have x1 : IsP (W.setCell ⟨w.heap.size + 1 + 1, 0, none⟩ (.int .i64 ((m : Int) + 1))) y := (hx.kept (kp1.mono fun k hk => .inl hk)).is
    have b1 : Below w.heap.size w (W.setCell ⟨w.heap.size + 1 + 1, 0, none⟩ (.int .i64 ((m : Int) + 1))) := h6.setCell (p := ⟨w.heap.size + 1 + 1, 0, none⟩) (by simp; omega) _
    have k1 : KeepsOthers W (W.setCell ⟨w.heap.size + 1 + 1, 0, none⟩ (.int .i64 ((m : Int) + 1))) := KeepsOthers.setCell _ _ _
    have g1 := e1.cell
    have g2 := e2.cell
    have i1 := e1.frozen
    by_cases hm64 : 64 < m + 1
    · have hm' : (64 : Int) < (m : Int) + 1 := by omega
      clear hm
      gi_wp2
      exact ⟨(k1.trans (KeepsOthers.setCell _ _ _)).from _, rfl, .inl (by omega), e1.set _, b1.setCell (p := ⟨w.heap.size + 1, 0, none⟩) (by simp) _⟩
    · have hm' : ¬ (64 : Int) < (m : Int) + 1 := by omega
      by_cases hd8 : 8 < d
      · clear hm
        gi_wp2
        exact ⟨(k1.trans (KeepsOthers.setCell _ _ _)).from _, rfl, .inr (by omega), e1.set _, b1.setCell (p := ⟨w.heap.size + 1, 0, none⟩) (by simp) _⟩
      · have hr := rightP_any y b o _ n1 x1
        have hl1 : (pre ++ [(d, y)]).length = m + 1 := by simp [hm]
        have h8 : ∀ v ∈ pre ++ [(d, y)], v.1 ≤ 8 := fun v hv => by
          rcases List.mem_append.1 hv with hv | hv
          · exact h7 v hv
          · rw [List.mem_singleton] at hv; rw [hv]; show d ≤ 8; omega
        obtain ⟨r, hrr⟩ : ∃ r, r = rightN y := ⟨_, rfl⟩
        rw [← hrr] at hr
        have HRR : Hid (r = rightN y) := hrr
        clear hm hrr
        gi_wp2_with (refine ⟨trivial, hdd _, ?_⟩; gi_at_call 74; refine (CallsIn.inRound l (callsIn_wide.2 hr)).mono ?_; rintro e w2 ⟨rfl, hB2⟩; have q3 := Boxed.kept_of e3 hB2 (Boxed.lt e3); have gq3 := q3.cell; have fq3 := q3.frozen; cases r)
        · have hno : ¬ rightN y = true := fun h => by rw [← HRR.out] at h; cases h
          refine ⟨((k1.trans ⟨hB2.size, fun k o ho _ => (hB2.block k (Array.getElem?_eq_some_iff.1 ho).1).trans ho⟩).trans (KeepsOthers.setCell _ _ _)).from _, ?_, ?_, ?_, ⟨1, q3.set _, SaidP.no hno⟩, by rw [hl1]; omega, h8, ?_⟩
          · exact (kp1.trans (fun k o _ _ ho => (hB2.block k (Array.getElem?_eq_some_iff.1 ho).1).trans ho)).trans (Kp.set _ (by simp; omega))
          · exact (Boxed.kept_of e1 hB2 (Boxed.lt e1)).other (by omega) _
          · rw [hl1]; exact (Boxed.kept_of e2 hB2 (Boxed.lt e2)).other (by omega) _
          · exact (b1.trans (hB2.mono b1.size)).setCell (p := ⟨w.heap.size + 1 + 1 + 1, 0, none⟩) (by simp; omega) _
        · have hyes : rightN y = true := HRR.out.symm
          refine ⟨(k1.trans ⟨hB2.size, fun k o ho _ => (hB2.block k (Array.getElem?_eq_some_iff.1 ho).1).trans ho⟩).from _, ?_, ?_, ?_, ⟨sd, q3, h4.yes hyes⟩, by rw [hl1]; omega, h8, ?_⟩
          · exact kp1.trans (fun k o _ _ ho => (hB2.block k (Array.getElem?_eq_some_iff.1 ho).1).trans ho)
          · exact Boxed.kept_of e1 hB2 (Boxed.lt e1)
          · rw [hl1]; exact Boxed.kept_of e2 hB2 (Boxed.lt e2)
          · exact b1.trans (hB2.mono b1.size)
  · rintro D W hD ⟨h1, h2, ⟨sd, h3, h4⟩, h5, h7, h6⟩ hK
    rw [length_visP] at h5
    have hdeep : x.deep ≤ 8 := by
      obtain ⟨v, hv, hd⟩ := vis_deepest x 1
      have := h7 v hv
      omega
    have hsd : sd = chkP x := by
      unfold chkP
      rw [if_neg (by omega)]
      rcases h4 with ⟨e, h⟩ | ⟨e, h⟩
      · rw [if_pos ((right_vis x 1).2 h)]; exact e
      · rw [if_neg (fun t => h ((right_vis x 1).1 t))]; exact e
    rw [hsd] at h3
    have c1 := h1.cell
    have f1 := h1.frozen
    have c3 := h3.cell
    have hK' : (W.setCell ⟨w.heap.size + 1, 0, none⟩ (.int .i64 (chkP x))).heap[D]? = some (.deferred (some [])) := (KeepsOthers.setCell _ _ _).same D _ hK rfl
    have hc5 := cell_kept (h1.set (.int .i64 (chkP x))).cell (grownBy_putObj' _ D (.deferred none)) (fun r e => by cases e; exact ⟨_, hK', rfl⟩)
    gi_wp2
    refine ⟨by simp, .inl ⟨_, _, rfl, run_takeDeferred hK', ?_⟩⟩
    refine ⟨.int .i64 (chkP x), ?_, rfl, (h6.setCell (p := ⟨w.heap.size + 1, 0, none⟩) (by simp) _).trans (belowK_b (w := w) (Nat.le_refl _) _ D _ _ (by omega) hK' rfl rfl)⟩
    simp [results, Tryz.f50, go_sem, hc5]
  · rintro D c W hD ⟨rfl, h0, h1, h2⟩ hK
    have hc5 := cell_kept h1.cell (grownBy_putObj' _ D (.deferred none)) (fun r e => by cases e; exact ⟨_, hK, rfl⟩)
    have h00 : chkP x = 2 := by unfold chkP; rw [if_pos h0]
    gi_wp2
    refine ⟨by simp, .inl ⟨_, _, rfl, run_takeDeferred hK, ?_⟩⟩
    refine ⟨.int .i64 2, ?_, by rw [h00], h2.trans (belowK_b (w := w) (Nat.le_refl _) _ D _ _ (by omega) hK rfl rfl)⟩
    simp [results, Tryz.f50, go_sem, hc5]
theorem checkP_any (x : Pt) (w : World) (hX : IsP w x) (hsm : x.size ≤ 1048576) : Calls Tryz.prog 50 #[x.val] w fun e w' => e = .returned (.int .i64 (chkP x)) ∧ Below w.heap.size w w' :=
  (callsIn_wide (n := 3)).1 (checkP_in 3 x w hX hsm)
end Go.Proofs.YtfnfegcjgnbgbaaGreatDoor
namespace Go.Proofs.YtfnfegcjgnbgbaaGreatDoor
open Go.RowKit Go.Shelf
attribute [local go_sem] Oper.semAt_some

theorem nodesP_walk {ι : Type} {n : Nat} {g : Operand} {ps : Array Tmp} {assign body : Code} {Q : Exit → Act → World → Prop} {a : Act} {w : World} (Bp b0 o0 : Nat) (v0 : ι) (kids : ι → Nat) (kid : ι → Nat → ι) (rank : ι → Nat)
    (Pre : ι → Nat → Nat → World → Prop) (Go : ι → Nat → Nat → World → World → Prop) (Mid : ι → Nat → Nat → World → Option Addr → Nat → Nat → World → Prop) (Post : ι → Nat → Nat → World → World → Prop)
    (hg : a.eval g = .func (.func 77) #[] #[.pointer (some ⟨Bp, 0, none⟩)]) (hps : ps.size = 2) (hBp : w.cell? ⟨Bp, 0, none⟩ = some (.pointer (some ⟨b0, o0, none⟩)))
    (hrank : ∀ v i, i < kids v → rank (kid v i) < rank v)
    (hPre : ∀ v b o W A, Ag w.heap.size W A → Pre v b o W → Pre v b o A)
    (hGo : ∀ v b o W A A' W', Ag w.heap.size W A → Ag w.heap.size A' W' → Go v b o A A' → Go v b o W W')
    (hPost : ∀ v b o W W' A, Ag w.heap.size W' A → Post v b o W W' → Post v b o W A)
    (h0 : ∀ W, Below w.heap.size w W → W.heap.size = w.heap.size + 4 → Pre v0 b0 o0 W)
    (a₁ : Int → Nat → Nat → Act)
    (hassign : ∀ (l : Nat) (d : Int) (b o : Nat) (W : World) (K : Act → World → Prop), K (a₁ d b o) W →
      assign.wpIn (Fence.wide.inRound l) (n - 1 - 1) Tryz.prog (Exit.then K (fun _ _ _ => False)) { tmps := (ps.zip #[.int .i64 d, .pointer (some ⟨b, o, none⟩)]).foldl (fun t (p, v) => t.setIfInBounds p v) a.tmps, defers := [] } W)
    (hbody : ∀ (l : Nat) (d : Int) (b o : Nat) (v : ι) (W : World), Pre v b o W → w.heap.size + 4 ≤ W.heap.size → (∃ u, Boxed W (w.heap.size + 2) 110 u) → (∃ u, Boxed W (w.heap.size + 3) 110 u) →
      body.wpIn (Fence.wide.inRound l) (n - 1 - 1) Tryz.prog (walkPost w.heap.size (Go v b o W) W) (a₁ d b o) W)
    (hM : ∀ v b o W W', Pre v b o W → Go v b o W W' → ∃ a cap, Mid v b o W a cap 0 W')
    (hL : ∀ v b o W a cap i Wi, Mid v b o W a cap i Wi → kids v ≤ 9223372036854775807 ∧ Wi.cell? ⟨b, o + 5, none⟩ = some (.slice a (kids v) cap))
    (hC : ∀ v b o W a cap i Wi, Mid v b o W a cap i Wi → i < kids v → ∃ b' o', a = some ⟨b', o', none⟩ ∧ Pre (kid v i) b' (o' + i * 6) Wi.drew ∧
      (∀ W', Post (kid v i) b' (o' + i * 6) Wi.drew W' → Mid v b o W a cap (i + 1) W'))
    (hE : ∀ v b o W a cap Wi, Mid v b o W a cap (kids v) Wi → Post v b o W Wi)
    (hdone : ∀ (D : Nat) (W2 W : World), w.heap.size ≤ D → Below w.heap.size w W2 → W2.heap.size = w.heap.size + 4 → Post v0 b0 o0 W2 W → W.heap[D]? = some (.deferred (some [])) → Q .normal { a with defers := { target := .collected D, args := #[] } :: a.defers } W) :
    (Code.rangeFunc g ps assign body).wpIn Fence.wide n Tryz.prog Q a w := by
  obtain ⟨T, hT⟩ : ∃ T : Nat → Prop, T = fun k => k = w.heap.size + 2 ∨ k = w.heap.size + 3 := ⟨_, rfl⟩
  refine wpIn_range (α := Got ι) hg (enters_of Tryz.func77 (by kernel_rfl) rfl) (encs := fun v => #[.int .i64 v.d, .pointer (some ⟨v.b, v.o, none⟩)]) (fun _ => hps.symm)
    (fun v W => Pre v.v v.b v.o W ∧ w.heap.size + 4 ≤ W.heap.size ∧ (∃ u, Boxed W (w.heap.size + 2) 110 u) ∧ ∃ u, Boxed W (w.heap.size + 3) 110 u)
    (fun v W W' => Kp T W W' ∧ Go v.v v.b v.o W W' ∧ w.heap.size + 4 ≤ W'.heap.size)
    (fun _ _ _ _ => False) (fun W => ∃ W2, Below w.heap.size w W2 ∧ W2.heap.size = w.heap.size + 4 ∧ Post v0 b0 o0 W2 W) (fun _ _ => False) ?_ ?_ (fun _ _ _ _ _ _ _ _ h => h) ?_ (fun _ _ _ _ h => h) (fun v => a₁ v.d v.b v.o) (fun l v W K hK => hassign l v.d v.b v.o W K hK) ?_ ?_
    (fun D W hD h hK => by obtain ⟨W2, h1, h2, h3⟩ := h; exact hdone D W2 W hD h1 h2 h3 hK) (fun _ _ _ _ h _ => h.elim)
  · rintro v W A hag ⟨h1, h2, ⟨u, h3⟩, u', h4⟩
    exact ⟨hPre _ _ _ _ _ hag h1, by rw [hag.size]; exact h2, ⟨u, hag.boxed h3⟩, u', hag.boxed h4⟩
  · rintro v W A A' W' hag hag' ⟨h1, h2, h3⟩
    exact ⟨Kp.ag hag hag' h1, hGo _ _ _ _ _ _ _ hag hag' h2, by rw [hag'.size]; exact h3⟩
  · rintro W A hag ⟨W2, h1, h2, h3⟩
    exact ⟨W2, h1, h2, hPost _ _ _ _ _ _ hag h3⟩
  · rintro l v W ⟨h1, h2, h3, h4⟩ _
    refine wpIn_mono (hbody l v.d v.b v.o v.v W h1 h2 h3 h4) ?_
    rintro e a3 W3 hp
    cases e with
    | normal => exact ⟨hp.1, by rw [hT]; exact hp.2.1, hp.2.2, Nat.le_trans h2 hp.1.size⟩
    | ret => exact hp.elim
    | exit id => exact hp.elim
    | goto t => exact hp.elim
    | panic ch => exact hp.elim
    | outgrown => exact hp.elim
  · intro l Rec RecX W1 hB1 hs1 hrec1 hrec hrecx hY
    have hlt : Bp < w.heap.size := by
      obtain ⟨ob, ho, -⟩ := cells_of_cell hBp
      exact (Array.getElem?_eq_some_iff.1 ho).1
    refine (nodesP1_in (n - 1) l Bp b0 o0 W1 (fun e W' => e = .returned (.bool true) ∧ (∃ W2, Below w.heap.size w W2 ∧ W2.heap.size = w.heap.size + 4 ∧ Post v0 b0 o0 W2 W') ∧ Rec W') ((hB1.cell (p := ⟨Bp, 0, none⟩) hlt).trans hBp) ?_).mono ?_
    · intro W2 by2 bd2 hB2 hs2
      have hBW : Below w.heap.size w W2 := hB1.trans (hB2.mono (by omega))
      have key := downP_any (ι := ι) l W1.heap.size (W1.heap.size + 1) kids kid rank
        (fun v b o _ W => Pre v b o W ∧ Rec W ∧ Boxed W W1.heap.size 110 (.func (.yield l) #[] #[]) ∧ Boxed W (W1.heap.size + 1) 110 (downPV W1.heap.size (W1.heap.size + 1)) ∧ w.heap.size + 4 ≤ W.heap.size)
        (fun v b o _ W a cap i Wi => Mid v b o W a cap i Wi ∧ Rec Wi ∧ Boxed Wi W1.heap.size 110 (.func (.yield l) #[] #[]) ∧ Boxed Wi (W1.heap.size + 1) 110 (downPV W1.heap.size (W1.heap.size + 1)) ∧ w.heap.size + 4 ≤ Wi.heap.size ∧ Kp T W Wi)
        (fun v b o _ W W' => Post v b o W W' ∧ Rec W' ∧ Kp T W W' ∧ w.heap.size + 4 ≤ W'.heap.size)
        (fun _ _ _ _ _ _ => False)
        hrank (fun v b o d W h => h.2.2.1.cell) ?_ ?_ ?_ ?_ (rank v0 + 1) v0 (by omega) (n - 1 - 1) b0 o0 1 W2 ?_
      · refine key.mono ?_
        rintro e W' (⟨rfl, h1, h2, -⟩ | ⟨rfl, h⟩)
        · exact ⟨true, rfl, rfl, ⟨W2, hBW, by omega, h1⟩, h2⟩
        · exact h.elim
      · rintro v b o d W ⟨h1, h5, h6, h7, h8⟩
        refine YieldAt.mono (hY 0 ⟨d, b, o, v⟩ W ⟨h1, h8, ⟨_, by rw [show w.heap.size + 2 = W1.heap.size by omega]; exact h6⟩, _, by rw [show w.heap.size + 3 = W1.heap.size + 1 by omega]; exact h7⟩ h5) ?_
        rintro e W' (⟨rfl, ⟨k1, k2, k3⟩, k4, -⟩ | ⟨rfl, c, k1, k2⟩)
        · obtain ⟨a', cap', hm⟩ := hM _ _ _ _ _ h1 k2
          exact .inl ⟨rfl, a', cap', hm, k4, k1.boxed (by rw [hT]; exact .inl (by omega)) h6, k1.boxed (by rw [hT]; exact .inr (by omega)) h7, k3, k1⟩
        · exact k1.elim
      · rintro v b o d W a' cap' i Wi ⟨h1, h5, h6, h7, h8, h9⟩
        obtain ⟨q1, q2⟩ := hL _ _ _ _ _ _ _ _ h1
        exact ⟨q1, q2, h7.cell⟩
      · rintro v b o d W a' cap' i Wi ⟨h1, h5, h6, h7, h8, h9⟩ hi
        obtain ⟨b', o', ea, hp, hq⟩ := hC _ _ _ _ _ _ _ _ h1 hi
        refine ⟨b', o', ea, ⟨hp, hrec Wi Wi.drew ⟨Nat.le_refl _, fun _ _ _ h _ => h⟩ h5, h6, h7, h8⟩, ?_, fun W' h => h⟩
        rintro W' ⟨k1, k2, k3, k4⟩
        have kk : Kp T Wi W' := k3
        exact ⟨hq W' k1, k2, kk.boxed (by rw [hT]; exact .inl (by omega)) h6, kk.boxed (by rw [hT]; exact .inr (by omega)) h7, k4, h9.trans kk⟩
      · rintro v b o d W a' cap' Wi ⟨h1, h5, h6, h7, h8, h9⟩
        exact ⟨hE _ _ _ _ _ _ _ h1, h5, h9, h8⟩
      · refine ⟨h0 W2 hBW (by omega), hrec W1 W2 ⟨by omega, fun k o hk ho _ => ?_⟩ hrec1, by2, bd2, by omega⟩
        exact (hB2.block k (Array.getElem?_eq_some_iff.1 ho).1).trans ho
    · rintro e W' ⟨hv, r, -, h1, h2⟩
      exact ⟨hv, .inl ⟨h1, h2⟩⟩
end Go.Proofs.YtfnfegcjgnbgbaaGreatDoor
namespace Go.Proofs.YtfnfegcjgnbgbaaGreatDoor
open Go.RowKit Go.Shelf
attribute [local go_sem] Oper.semAt_some

theorem Ag.mono {B B' : Nat} {W A : World} (h : Ag B' W A) (hB : B ≤ B') : Ag B W A := ⟨h.os, h.tape, h.output, h.size, fun k hk => h.low k (by omega), h.cells⟩
theorem keepsFrom_mono {B B' : Nat} {W W' : World} (h : KeepsFrom B W W') (hB : B ≤ B') : KeepsFrom B' W W' := ⟨h.size, fun k o hk => h.same k o (by omega)⟩
theorem KeepsTo.drew (B B' : Nat) (W : World) : KeepsTo B B' W W.drew := fun _ _ _ _ h _ => h
theorem round_in {m : Nat} {P : Program} {l : Nat} {f : FuncId} {tmps : Array Value} {assign body : Code} {w : World} {R : Ending → World → Prop} (l' : Nat)
    (h : RoundIn Fence.wide m P l f tmps assign body w R) : RoundIn (Fence.wide.inRound l') m P l f tmps assign body w R := h
theorem nmd_cases (k : Int) : (nmd k = true ∧ ((k == 1) = true ∨ ((k == 1) = false ∧ (k == 5) = true) ∨ ((k == 1) = false ∧ (k == 5) = false ∧ (k == 6) = true))) ∨ (nmd k = false ∧ (k == 1) = false ∧ (k == 5) = false ∧ (k == 6) = false) := by
  unfold nmd
  cases (k == 1) <;> cases (k == 5) <;> cases (k == 6) <;> simp
set_option maxRecDepth 100000 in
set_option maxHeartbeats 1000000 in
theorem named_in (n : Nat) (p : Option Addr) (w : World) :
    CallsIn Fence.wide n Tryz.prog 76 #[.pointer p] w fun e w' => e = .returned (.func (.func 96) #[] #[.pointer (some ⟨w.heap.size, 0, none⟩)]) ∧ w' = w.alloc (.cells #[.pointer p] 81) := by
  refine callsIn_of_wp Tryz.func76 rfl trivial ?_ rfl
  simp only [Tryz.ntmps76, List.size_toArray, List.length_cons, List.length_nil, Nat.reduceAdd, Nat.reduceSub, Array.replicate_succ, Array.replicate_zero, List.push_toArray, List.append_toArray, List.nil_append, List.cons_append]
  gi_wp2
  go_ret
  exact ⟨rfl, rfl⟩
/-- What a round of the range is handed. -/
structure NamP where
  b : Nat
  o : Nat
  y : Pt
  pre : List Pt
/-- The nodes with a Var among some. -/
def usesOf (l : List (Nat × Pt)) : List Pt := (l.filter fun v => nmd v.2.k).map (·.2)
theorem usesOf_app (l m : List (Nat × Pt)) : usesOf (l ++ m) = usesOf l ++ usesOf m := by simp [usesOf]
theorem usesOf_yes {d : Nat} {y : Pt} (h : nmd y.k = true) (l : List (Nat × Pt)) : usesOf ((d, y) :: l) = y :: usesOf l := by simp [usesOf, h]
theorem usesOf_no {d : Nat} {y : Pt} (h : nmd y.k = false) (l : List (Nat × Pt)) : usesOf ((d, y) :: l) = usesOf l := by simp [usesOf, h]
theorem usesOf_vis (x : Pt) : usesOf (visP 1 x) = usesP x := uses_visP x 1

set_option maxRecDepth 100000 in
set_option maxHeartbeats 4000000 in
/-- A range over the nodes that have a Var, each once, in their order. -/
theorem named_fold {n : Nat} {g : Operand} {ps : Array Tmp} {assign body : Code} {Q : Exit → Act → World → Prop} {a : Act} {w : World} (Bp b0 o0 : Nat) (x : Pt) (T : Nat → Prop) (J : List Pt → World → Prop) (Jx : Code → World → Prop)
    (hg : a.eval g = .func (.func 96) #[] #[.pointer (some ⟨Bp, 0, none⟩)]) (hps : ps.size = 1) (hBp : w.cell? ⟨Bp, 0, none⟩ = some (.pointer (some ⟨b0, o0, none⟩))) (hsm : x.size ≤ 1048576)
    (hT : ∀ k, T k → k < w.heap.size) (hb0 : T b0) (hN : NodeP w b0 o0 x) (hX : PT T w x)
    (hJ : ∀ pre W A, Ag w.heap.size W A → J pre W → J pre A) (hJd : ∀ pre W, J pre W → J pre W.drew) (h0 : ∀ W, Below w.heap.size w W → J [] W) (hJx : ∀ c W A, Ag w.heap.size W A → Jx c W → Jx c A)
    (a₁ : Nat → Nat → Act)
    (hassign : ∀ (l b o : Nat) (W : World) (K : Act → World → Prop), K (a₁ b o) W →
      assign.wpIn (Fence.wide.inRound l) (n - 1 - 1) Tryz.prog (Exit.then K (fun _ _ _ => False)) { tmps := (ps.zip #[.pointer (some ⟨b, o, none⟩)]).foldl (fun t (p, v) => t.setIfInBounds p v) a.tmps, defers := [] } W)
    (hbody : ∀ (l b o : Nat) (y : Pt) (pre : List Pt) (W : World), T b → NodeP W b o y → PT T W y → J pre W → w.heap.size + 8 ≤ W.heap.size → (∃ post, pre ++ y :: post = usesP x) → nmd y.k = true →
      body.wpIn (Fence.wide.inRound l) (n - 1 - 1) Tryz.prog (foldPost w.heap.size (fun k => T k ∨ (w.heap.size ≤ k ∧ k < w.heap.size + 8)) (J (pre ++ [y])) Jx W) (a₁ b o) W)
    (hdone : ∀ (D : Nat) (W : World), w.heap.size ≤ D → J (usesP x) W → W.heap[D]? = some (.deferred (some [])) → Q .normal { a with defers := { target := .collected D, args := #[] } :: a.defers } W)
    (hstop : ∀ (D : Nat) (c : Code) (W : World), w.heap.size ≤ D → Jx c W → W.heap[D]? = some (.deferred (some [])) → c.wpIn Fence.wide n Tryz.prog Q { a with defers := { target := .collected D, args := #[] } :: a.defers } W) :
    (Code.rangeFunc g ps assign body).wpIn Fence.wide n Tryz.prog Q a w := by
  have hdd : ∀ k : Nat, (Fence.wide.depth.isSome = true → 1 ≤ k) := fun k h => by cases h
  obtain ⟨T', hT'⟩ : ∃ T' : Nat → Prop, T' = fun k => T k ∨ (w.heap.size ≤ k ∧ k < w.heap.size + 8) := ⟨_, rfl⟩
  have tT : ∀ k, T k → T' k := fun k hk => by rw [hT']; exact .inl hk
  refine wpIn_rangeK (α := NamP) hg (enters_of Tryz.func96 (by kernel_rfl) rfl) (encs := fun v => #[.pointer (some ⟨v.b, v.o, none⟩)]) (fun _ => hps.symm)
    (fun v W => T v.b ∧ NodeP W v.b v.o v.y ∧ PT T W v.y ∧ J v.pre W ∧ w.heap.size + 8 ≤ W.heap.size ∧ (∃ post, v.pre ++ v.y :: post = usesP x) ∧ nmd v.y.k = true)
    (fun v W W' => Kp T' W W' ∧ J (v.pre ++ [v.y]) W' ∧ w.heap.size + 8 ≤ W'.heap.size)
    (fun c _ _ W' => Jx c W') (J (usesP x)) Jx ?_ ?_ ?_ (fun W A h => hJ _ W A h) hJx (fun v => a₁ v.b v.o) (fun l v W K hK => hassign l v.b v.o W K hK) ?_ ?_ hdone hstop
  · rintro v W A hag ⟨h1, h2, h3, h4, h5, h6, h7⟩
    exact ⟨h1, h2.ag hag, h3.of fun p v h => (hag.cell p).trans h, hJ _ _ _ hag h4, by rw [hag.size]; exact h5, h6, h7⟩
  · rintro v W A A' W' hag hag' ⟨h1, h2, h3⟩
    exact ⟨Kp.ag hag hag' h1, hJ _ _ _ hag' h2, by rw [hag'.size]; exact h3⟩
  · rintro c v W A A' W' hag hag' h
    exact hJx _ _ _ hag' h
  · rintro l v W ⟨h1, h2, h3, h4, h5, h6, h7⟩ _
    refine wpIn_mono (hbody l v.b v.o v.y v.pre W h1 h2 h3 h4 h5 h6 h7) ?_
    rintro e a3 W3 hp
    cases e with
    | normal => exact ⟨hp.1, by rw [hT']; exact hp.2.1, hp.2.2, Nat.le_trans h5 hp.1.size⟩
    | ret => exact hp
    | exit id => exact hp
    | goto t => exact hp
    | panic ch => exact hp.elim
    | outgrown => exact hp.elim
  · intro l Rec RecX W1 hB1 hs1 hrec1 hrec hrecx hY
    have hlt : Bp < w.heap.size := by
      obtain ⟨ob, ho, -⟩ := cells_of_cell hBp
      exact (Array.getElem?_eq_some_iff.1 ho).1
    clear hbody hassign hdone hstop
    obtain ⟨A0, hA0⟩ : ∃ A0, W1.alloc (.cells #[.func (.yield l) #[] #[]] 80) = A0 := ⟨_, rfl⟩
    have hB0 : Below W1.heap.size W1 A0 := by rw [← hA0]; exact (Below.refl _ _).alloc (Nat.le_refl _) _
    have by0 : Boxed A0 W1.heap.size 80 (.func (.yield l) #[] #[]) := hA0 ▸ Boxed.new _ _ _
    have hs0 : A0.heap.size = W1.heap.size + 1 := by rw [← hA0]; simp
    have cp := (hB0.cell (p := ⟨Bp, 0, none⟩) (by have := hlt; show Bp < _; omega)).trans ((hB1.cell (p := ⟨Bp, 0, none⟩) hlt).trans hBp)
    have c0 := by0.cell
    refine callsIn_of_wp_marks Tryz.func96 rfl trivial ?_ rfl
    simp only [Tryz.ntmps96, List.size_toArray, List.length_cons, List.length_nil, Nat.reduceAdd, Nat.reduceSub, Array.replicate_succ, Array.replicate_zero, List.push_toArray, List.append_toArray, List.nil_append, List.cons_append]
    gi_wp2_with (refine ⟨trivial, hdd _, ?_⟩; gi_at_call 52; refine (nodesP_in _ _ _).mono ?_; rintro e w' ⟨rfl, rfl⟩)
    obtain ⟨A, hA⟩ : ∃ A, A0.alloc (.cells #[.pointer (some ⟨b0, o0, none⟩)] 81) = A := ⟨_, rfl⟩
    rw [hA]
    have hBA0 : Below A0.heap.size A0 A := by rw [← hA]; exact (Below.refl _ _).alloc (Nat.le_refl _) _
    have hsz : A.heap.size = w.heap.size + 4 := by rw [← hA]; simp; omega
    have hBA : Below w.heap.size w A := (hB1.trans (hB0.mono (by omega))).trans (hBA0.mono (by omega))
    have byA : Boxed A (w.heap.size + 2) 80 (.func (.yield l) #[] #[]) := by rw [← hs1, ← hA]; exact by0.alloc _
    have bpA : Boxed A (w.heap.size + 2 + 1) 81 (.pointer (some ⟨b0, o0, none⟩)) := by
      have := Boxed.new A0 81 (.pointer (some ⟨b0, o0, none⟩))
      rw [hA, hs0, hs1] at this
      exact this
    have hkA : KeepsTo w.heap.size (w.heap.size + 2) W1 A := (KeepsTo.of_below hB0 (by omega)).trans (KeepsTo.of_below hBA0 (by omega))
    clear hA hA0 cp c0 by0
    refine nodesP_fold (w.heap.size + 2 + 1) b0 o0 x T (fun pre W => J (usesOf pre) W ∧ Rec W ∧ Boxed W (w.heap.size + 2) 80 (.func (.yield l) #[] #[])) (fun c W => c = .ret ∧ ∃ c', Jx c' W ∧ RecX c' W)
      rfl rfl bpA.cell hsm (fun k hk => by have := hT k hk; omega) hb0 (hN.below hBA (hT _ hb0)) (hX.kept (Kp.of_below hBA hT)) ?_ ?_ ?_ ?_
      (fun d b o => { tmps := #[.func (.yield l) #[] #[], .pointer (some ⟨Bp, 0, none⟩), .pointer (some ⟨w.heap.size + 2, 0, none⟩), undef, .pointer (some ⟨b, o, none⟩), .pointer (some ⟨b0, o0, none⟩), .func (.func 77) #[] #[.pointer (some ⟨w.heap.size + 2 + 1, 0, none⟩)], .int .i64 d, .pointer (some ⟨b, o, none⟩), undef, undef, undef, undef, undef, undef, undef, undef, undef, undef, undef, undef, undef, undef, undef, undef, undef, undef, undef, undef, undef, undef, undef, undef, undef], defers := [] }) ?_ ?_ ?_ ?_
    · rintro pre W B hag ⟨j1, j2, j3⟩
      exact ⟨hJ _ _ _ (hag.mono (by omega)) j1, hrec _ _ (KeepsTo.of_ag hag (by omega)) j2, hag.boxed j3⟩
    · rintro pre W ⟨j1, j2, j3⟩
      exact ⟨hJd _ _ j1, hrec _ _ (KeepsTo.drew _ _ _) j2, j3⟩
    · rintro W hW
      exact ⟨h0 W (hBA.trans (hW.mono (by omega))), hrec _ _ (hkA.trans (KeepsTo.of_below hW (by omega))) hrec1, Boxed.kept_of byA hW (by omega)⟩
    · rintro c W B hag ⟨rfl, c', j1, j2⟩
      exact ⟨rfl, c', hJx _ _ _ (hag.mono (by omega)) j1, hrecx _ _ _ (KeepsTo.of_ag hag (by omega)) j2⟩
    · intro l' d b o W K hK
      gi_wp2
      simpa using hK
    · rintro l' d b o y pre W hb hn hx ⟨j1, j2, j3⟩ hs ⟨post, hpo⟩
      have c2 := j3.cell
      obtain ⟨d0, d1, d2, d3, d4, d5⟩ := hn
      have hn : NodeP W b o y := ⟨d0, d1, d2, d3, d4, d5⟩
      have hus : usesOf pre ++ usesOf ((d, y) :: post) = usesP x := by rw [← usesOf_app, hpo, usesOf_vis]
      rcases nmd_cases y.k with ⟨hk, hkk⟩ | ⟨hk, k1, k2, k3⟩
      · rw [usesOf_yes hk] at hus
        obtain ⟨fn, tmps, assign', body', hy, hR⟩ := hY 0 ⟨b, o, y, usesOf pre⟩ W ⟨hb, hn, hx, j1, by omega, ⟨_, hus⟩, hk⟩ j2
        replace hR := round_in l' (round_wide (m' := n - 1 - 1 - 1 - 1) hR)
        have YES : ∀ W3, Kp T' W W3 → J (usesOf pre ++ [y]) W3 → w.heap.size + 8 ≤ W3.heap.size → Rec W3 → KeepsFrom w.heap.size W W3 →
            KeepsFrom A.heap.size W W3 ∧ Kp (fun k => T k ∨ k = A.heap.size + 2 ∨ k = A.heap.size + 3) W W3 ∧ J (usesOf (pre ++ [(d, y)])) W3 ∧ Rec W3 ∧ Boxed W3 (w.heap.size + 2) 80 (.func (.yield l) #[] #[]) := fun W3 q1 q2 q3 q4 q5 => by
          refine ⟨keepsFrom_mono q5 (by omega), q1.mono fun k hk => ?_, ?_, q4, q1.boxed (by rw [hT']; exact .inr ⟨by omega, by omega⟩) j3⟩
          · rw [hT']
            rcases hk with hk | hk | hk
            · exact .inl hk
            · exact .inr ⟨by omega, by omega⟩
            · exact .inr ⟨by omega, by omega⟩
          · rw [usesOf_app, usesOf_yes hk]; exact q2
        clear hY hn hus hk
        rcases hkk with k1 | ⟨k1, k2⟩ | ⟨k1, k2, k3⟩
        · gi_wp2_with (first
            | ((try refine ⟨hdd _, ?_⟩); refine hR.mono ?_; clear hR; rintro e W3 (⟨rfl, ⟨q1, q2, q3⟩, q4, q5⟩ | ⟨rfl, c, q1, q2, q3⟩)))
          · exact YES W3 q1 q2 q3 q4 q5
          · exact ⟨keepsFrom_mono q3 (by omega), rfl, c, q1, q2⟩
        · gi_wp2_with (first
            | ((try refine ⟨hdd _, ?_⟩); refine hR.mono ?_; clear hR; rintro e W3 (⟨rfl, ⟨q1, q2, q3⟩, q4, q5⟩ | ⟨rfl, c, q1, q2, q3⟩)))
          · exact YES W3 q1 q2 q3 q4 q5
          · exact ⟨keepsFrom_mono q3 (by omega), rfl, c, q1, q2⟩
        · gi_wp2_with (first
            | ((try refine ⟨hdd _, ?_⟩); refine hR.mono ?_; clear hR; rintro e W3 (⟨rfl, ⟨q1, q2, q3⟩, q4, q5⟩ | ⟨rfl, c, q1, q2, q3⟩)))
          · exact YES W3 q1 q2 q3 q4 q5
          · exact ⟨keepsFrom_mono q3 (by omega), rfl, c, q1, q2⟩
      · clear hY
        have NO : KeepsFrom A.heap.size W W ∧ Kp (fun k => T k ∨ k = A.heap.size + 2 ∨ k = A.heap.size + 3) W W ∧ J (usesOf (pre ++ [(d, y)])) W ∧ Rec W ∧ Boxed W (w.heap.size + 2) 80 (.func (.yield l) #[] #[]) :=
          ⟨KeepsFrom.refl _ _, Kp.refl _ _, by rw [usesOf_app, usesOf_no hk]; simpa [usesOf] using j1, j2, j3⟩
        clear hus hk
        gi_wp2
        refine ⟨fun f h => (by cases h), ?_⟩
        gi_wp2
        exact NO
    · rintro D W hD ⟨j1, j2, j3⟩ hK
      rw [usesOf_vis] at j1
      have hag : Ag w.heap.size W (W.putObj D (.deferred none)) := Ag.putObj (by omega) hK rfl rfl
      have hkt : KeepsTo w.heap.size (w.heap.size + 2) W (W.putObj D (.deferred none)) := fun k o h1 h2 h3 _ => (World.putObj_heap_other (by omega)).trans h3
      gi_wp2
      refine ⟨by simp, .inl ⟨_, _, rfl, run_takeDeferred hK, ?_⟩⟩
      exact ⟨_, results_none rfl _ _ _, ⟨_, rfl⟩, .inl ⟨hJ _ _ _ hag j1, hrec _ _ hkt j2⟩⟩
    · rintro D c W hD ⟨rfl, c', j1, j2⟩ hK
      have hag : Ag w.heap.size W (W.putObj D (.deferred none)) := Ag.putObj (by omega) hK rfl rfl
      have hkt : KeepsTo w.heap.size (w.heap.size + 2) W (W.putObj D (.deferred none)) := fun k o h1 h2 h3 _ => (World.putObj_heap_other (by omega)).trans h3
      gi_wp2
      refine ⟨by simp, .inl ⟨_, _, rfl, run_takeDeferred hK, ?_⟩⟩
      exact ⟨_, results_none rfl _ _ _, ⟨_, rfl⟩, .inr ⟨c', hJx _ _ _ hag j1, hrecx _ _ _ hkt j2⟩⟩
end Go.Proofs.YtfnfegcjgnbgbaaGreatDoor
namespace Go.Proofs.YtfnfegcjgnbgbaaGreatDoor
open Go.RowKit

/-- May a PNot stand at place i among the parts? -/
def notB (x : Pt) (whole : Bool) (i : Nat) : Bool := !((x.c i).k == 6) || (x.k == 2 && (!(i == 0) && (!((x.c (i - 1)).k == 6) && (!(i + 1 == x.n) || whole))))
def betweenB (x : Pt) (whole : Bool) : Bool := allN (notB x whole) x.n
/-- No Var stands in two parts. -/
def Apart (x : Pt) : Prop := ∀ i j, i < j → j < x.n → ∀ a ∈ usesP (x.c i), ∀ b ∈ usesP (x.c j), a.s ≠ b.s
/-- Two nodes with one Var that may stand in parts of a POr. -/
def Agree (a b : Pt) : Prop := a.t = b.t ∧ (a.k = 6 ↔ b.k = 6)
def AlikeP (x : Pt) : Prop := ∀ a ∈ usesP x, ∀ b ∈ usesP x, a.s = b.s → Agree a b
/-- Well made, as pat.Made asks. -/
def MadeP (x : Pt) : Prop := x.k ≠ 6 ∧ AlikeP x ∧ ∀ v ∈ visP 1 x, betweenB v.2 (v.1 == 1) = true ∧ (v.2.k = 4 ∨ Apart v.2)
/-- One more name, if it is new. -/
def addU (l : List Pt) (y : Pt) : List Pt := if l.any (fun z => decide (z.s = y.s)) = true then l else l ++ [y]
/-- The nodes where names stand first. -/
def firstL (l : List Pt) : List Pt := l.foldl addU []
theorem firstL_snoc (l : List Pt) (y : Pt) : firstL (l ++ [y]) = addU (firstL l) y := by simp [firstL]
/-- A name's place among them. -/
def idxF (l : List Pt) (s : ByteArray) : Option Nat := l.findIdx? (fun y => decide (y.s = s))
theorem idxF_some {l : List Pt} {s : ByteArray} {i : Nat} (h : idxF l s = some i) : ∃ y, l[i]? = some y ∧ y.s = s := by
  unfold idxF at h
  obtain ⟨hl, h1, _⟩ := List.findIdx?_eq_some_iff_getElem.1 h
  exact ⟨l[i], List.getElem?_eq_getElem hl, by simpa using h1⟩
theorem idxF_none {l : List Pt} {s : ByteArray} : idxF l s = none ↔ ∀ y ∈ l, y.s ≠ s := by
  unfold idxF
  rw [List.findIdx?_eq_none_iff]
  constructor
  · intro h y hy e; have := h y hy; simp [e] at this
  · intro h y hy; simpa using h y hy
theorem addU_some {l : List Pt} {y : Pt} {i : Nat} (h : idxF l y.s = some i) : addU l y = l := by
  obtain ⟨z, hz, e⟩ := idxF_some h
  unfold addU
  rw [if_pos (List.any_eq_true.2 ⟨z, List.mem_of_getElem? hz, by simp [e]⟩)]
theorem addU_none {l : List Pt} {y : Pt} (h : idxF l y.s = none) : addU l y = l ++ [y] := by
  unfold addU
  rw [if_neg]
  intro e
  obtain ⟨z, hz, q⟩ := List.any_eq_true.1 e
  exact (idxF_none.1 h) z hz (by simpa using q)
theorem idxF_snoc {l : List Pt} {y : Pt} (h : idxF l y.s = none) (s : ByteArray) : idxF (l ++ [y]) s = if s = y.s then some l.length else idxF l s := by
  by_cases e : s = y.s
  · rw [if_pos e, e]
    unfold idxF at h ⊢
    rw [List.findIdx?_append, h]
    simp [List.findIdx?_cons]
  · rw [if_neg e]
    unfold idxF
    rw [List.findIdx?_append]
    have : ([y] : List Pt).findIdx? (fun z => decide (z.s = s)) = none := by
      simp [List.findIdx?_cons, show ¬ y.s = s from fun q => e q.symm]
    rw [this]
    simp
theorem mem_firstL : ∀ {l : List Pt} {y : Pt}, y ∈ firstL l → y ∈ l := by
  have key : ∀ (l acc : List Pt) (y : Pt), y ∈ l.foldl addU acc → y ∈ acc ∨ y ∈ l := by
    intro l
    induction l with
    | nil => intro acc y h; exact .inl h
    | cons z l ih =>
      intro acc y h
      rcases ih (addU acc z) y h with h | h
      · unfold addU at h
        split at h
        · exact .inl h
        · rcases List.mem_append.1 h with h | h
          · exact .inl h
          · rw [List.mem_singleton] at h; exact .inr (by rw [h]; simp)
      · exact .inr (List.mem_cons_of_mem _ h)
  intro l y h
  rcases key l [] y h with h | h
  · simp at h
  · exact h
theorem firstL_has : ∀ {l : List Pt} {y : Pt}, y ∈ l → ∃ z ∈ firstL l, z.s = y.s := by
  have mono : ∀ (l acc : List Pt) (z : Pt), z ∈ acc → z ∈ l.foldl addU acc := by
    intro l
    induction l with
    | nil => intro acc z h; exact h
    | cons u l ih =>
      intro acc z h
      refine ih _ z ?_
      unfold addU
      split
      · exact h
      · exact List.mem_append_left _ h
  have key : ∀ (l acc : List Pt) (y : Pt), y ∈ l → ∃ z ∈ l.foldl addU acc, z.s = y.s := by
    intro l
    induction l with
    | nil => intro acc y h; simp at h
    | cons u l ih =>
      intro acc y h
      rcases List.mem_cons.1 h with rfl | h
      · by_cases e : acc.any (fun z => decide (z.s = y.s)) = true
        · obtain ⟨z, hz, q⟩ := List.any_eq_true.1 e
          refine ⟨z, mono l _ z ?_, by simpa using q⟩
          unfold addU
          rw [if_pos e]
          exact hz
        · refine ⟨y, mono l _ y ?_, rfl⟩
          unfold addU
          rw [if_neg e]
          simp
      · exact ih _ y h
  intro l y h
  exact key l [] y h
theorem length_firstL : ∀ l : List Pt, (firstL l).length ≤ l.length := by
  have key : ∀ (l acc : List Pt), (l.foldl addU acc).length ≤ acc.length + l.length := by
    intro l
    induction l with
    | nil => intro acc; simp
    | cons u l ih =>
      intro acc
      have := ih (addU acc u)
      have h2 : (addU acc u).length ≤ acc.length + 1 := by unfold addU; split <;> simp
      simp only [List.foldl_cons, List.length_cons]
      omega
  intro l
  simpa [firstL] using key l []
theorem length_uses (x : Pt) : (usesP x).length ≤ x.size := by
  rw [← uses_visP x 1, List.length_map, ← length_visP x 1]
  exact List.length_filter_le _ _
/-- All uses agree just where each agrees with the first of its name. -/
theorem alike_first {x : Pt} : AlikeP x ↔ ∀ a ∈ usesP x, ∀ f ∈ firstL (usesP x), f.s = a.s → Agree a f := by
  constructor
  · intro h a ha f hf e
    exact h a ha f (mem_firstL hf) e.symm
  · intro h a ha b hb e
    obtain ⟨f, hf, q⟩ := firstL_has ha
    have h1 := h a ha f hf q
    have h2 := h b hb f hf (q.trans e)
    exact ⟨h1.1.trans h2.1.symm, h1.2.trans h2.2.symm⟩
end Go.Proofs.YtfnfegcjgnbgbaaGreatDoor
