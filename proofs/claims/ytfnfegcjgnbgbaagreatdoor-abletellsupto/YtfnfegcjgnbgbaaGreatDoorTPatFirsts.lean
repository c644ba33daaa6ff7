/-
  pat.firsts: the nodes where Vars stand first, and each Var's place among them.
  Three rows that a call owns, of which no two lie in one block: two of texts, one of numbers. Of no function.
  pat.alike: has each Var one Type, and is it that of PNots everywhere or nowhere?
  pat.Vars.
  A range over the nodes of a pattern of any size, where the body says how deep it goes.
  pat.Check of a pattern of any size.
-/
import Derived.Test.YtfnfegcjgnbgbaaGreatDoorTPatCheck
import Derived.Test.YtfnfegcjgnbgbaaGreatDoorTValOrder
import Derived.Test.YtfnfegcjgnbgbaaGreatDoorTAbWay
import Derived.Test.YtfnfegcjgnbgbaaGreatDoorTRoundReads
import Derived.Test.YtfnfegcjgnbgbaaGreatDoorTPatRefSame
import Derived.Test.YtfnfegcjgnbgbaaGreatDoorTAbNote
import Derived.Test.YtfnfegcjgnbgbaaGreatDoorTTrees
import Derived.Test.YtfnfegcjgnbgbaaGreatDoorTPatMath
import Derived.Sort.CutIn
import Derived.Maps.AppendAt
import Derived.OwnWalk
namespace Go.Proofs.YtfnfegcjgnbgbaaGreatDoor
open Go.RowKit Go.Shelf Go.Maps Go.WideMaps
attribute [local go_sem] Oper.semAt_some

/-- Some addresses as pointers. -/
def ptrs (A : List (Nat × Nat)) : List Value := A.map fun p => .pointer (some ⟨p.1, p.2, none⟩)
theorem infoPP : (Tryz.prog.info? 81).map (fun i => (i.zero, i.size, i.bytes)) = some (some (.pointer none), 1, 8) := by kernel_rfl
/-- One pointer more behind a row that the call owns. -/
theorem push_ptr {w : World} {base : Nat} {v : Value} {A : List (Nat × Nat)} (h : w.ownsRow base 81 1 v A.length (ptrs A)) (hb : base ≤ w.heap.size) (b o : Nat) (hn : A.length ≤ 1048576) :
    ∃ v' w', (Builtin.append_ #[103, 103] 103 #[v, .slice (some ⟨w.heap.size, 0, none⟩) 1 1]).run Tryz.prog (w.alloc (.cells #[.pointer (some ⟨b, o, none⟩)] 81)) = .ok v' w' ∧
      w'.ownsRow base 81 1 v' (A ++ [(b, o)]).length (ptrs (A ++ [(b, o)])) ∧ (w.alloc (.cells #[.pointer (some ⟨b, o, none⟩)] 81)).grownBy w' v.ownBlock := by
  obtain ⟨i0, hi, hz0, hz1, hz2⟩ := info_parts infoPP
  obtain ⟨v', w', hrun, hown', hgrow, _⟩ := run_append_own (P := Tryz.prog) (w := w.alloc (.cells #[.pointer (some ⟨b, o, none⟩)] 81)) base 103 103 81 i0 _ 1 8 Tryz.underlying103 hi hz0 hz1 hz2 rfl (by decide) v A.length (ptrs A) (h.alloc _) ⟨w.heap.size, 0, none⟩ 1 1 [.pointer (some ⟨b, o, none⟩)] rfl
    (fun j u hu => by
      match j, hu with
      | 0, hu =>
        simp at hu
        subst hu
        exact (Boxed.new w 81 (.pointer (some ⟨b, o, none⟩))).cell) (by simp [Value.oneCell']) (by unfold maxLen; omega) (by omega) (by simp; omega)
  refine ⟨v', w', hrun, ?_, hgrow⟩
  have e1 : ptrs (A ++ [(b, o)]) = ptrs A ++ [.pointer (some ⟨b, o, none⟩)] := by simp [ptrs]
  rw [e1, List.length_append]
  exact hown'
theorem ownRow_ag {B base : Nat} {W A : World} {v : Value} {n : Nat} {xs : List Value} (h : Ag B W A) (ho : W.ownsRow base 81 1 v n xs) : A.ownsRow base 81 1 v n xs := by
  refine ⟨ho.1, ?_⟩
  rcases ho.2 with h1 | ⟨g, cap, cur, e, hg, hc, hr⟩
  · exact .inl h1
  · exact .inr ⟨g, cap, cur, e, hg, (h.cells g _ rfl).2 hc, hr⟩
theorem own_slice {w : World} {base n : Nat} {v : Value} {xs : List Value} (h : w.ownsRow base 81 1 v n xs) : ∃ a cap, v = .slice a n cap := by
  rcases h.2 with ⟨e1, e2⟩ | ⟨g, cap, cur, e, _⟩
  · exact ⟨none, 0, by rw [e1, e2]⟩
  · exact ⟨_, cap, e⟩
/-- The row of the first nodes in memory: each address is that of its node, in w. -/
def FirstAt (w : World) (A : List (Nat × Nat)) (L : List Pt) : Prop := A.length = L.length ∧ ∀ (i : Nat) (p : Nat × Nat) (y : Pt), A[i]? = some p → L[i]? = some y → p.1 < w.heap.size ∧ NodeP w p.1 p.2 y
theorem FirstAt.snoc {w : World} {A : List (Nat × Nat)} {L : List Pt} (h : FirstAt w A L) {b o : Nat} {y : Pt} (hb : b < w.heap.size) (hn : NodeP w b o y) : FirstAt w (A ++ [(b, o)]) (L ++ [y]) := by
  refine ⟨by simp [h.1], fun i p z hp hz => ?_⟩
  by_cases hi : i < A.length
  · rw [List.getElem?_append_left hi] at hp
    rw [List.getElem?_append_left (by rw [← h.1]; exact hi)] at hz
    exact h.2 i p z hp hz
  · have hl := (List.getElem?_eq_some_iff.1 hp).1
    simp only [List.length_append, List.length_singleton] at hl
    have ei : i = A.length := by omega
    subst ei
    rw [List.getElem?_append_right (Nat.le_refl _)] at hp
    rw [h.1, List.getElem?_append_right (Nat.le_refl _)] at hz
    simp at hp hz
    subst hp hz
    exact ⟨hb, hn⟩
theorem uses_ok {x : Pt} (h : POk x) : ∀ y ∈ usesP x, y.s.size ≤ maxLen ∧ y.t.size ≤ maxLen := by
  intro y hy
  obtain ⟨d, hv, _⟩ := mem_uses.1 hy
  have := visP_all (P := fun _ z => POk z) (fun _ z hz i hi => ((pOk_eq z).1 hz).2.2 i hi) x 1 h (d, y) hv
  exact ⟨((pOk_eq y).1 this).1, ((pOk_eq y).1 this).2.1⟩
/-- How far the range has come. -/
def FirJ (w C : World) (s0 : Nat) (pre : List Pt) (W : World) : Prop :=
  ∃ v A D q, Boxed W s0 103 v ∧ W.ownsRow (C.heap.size + 8) 81 1 v A.length (ptrs A) ∧ FirstAt w A (firstL pre) ∧ W.ownsMap Tryz.prog 9 (plainElem (H := Unit) Tryz.prog 3) (s0 + 1) q D ∧ q ≤ pre.length ∧ MapsTo (idxF (firstL pre)) D ∧ Boxed W (s0 + 2) 104 (.map (some (s0 + 1))) ∧ Below s0 w W
set_option maxRecDepth 100000 in
set_option maxHeartbeats 8000000 in
theorem firsts_in12 (n : Nat) (x : Pt) (b0 o0 : Nat) (w : World) (hN : NodeP w b0 o0 x) (hX : IsP w x) (hsm : x.size ≤ 1048576) (hok : POk x) :
    CallsIn Fence.wide n Tryz.prog 75 #[.pointer (some ⟨b0, o0, none⟩)] w fun e w' => ∃ a m cap A D q M, e = .returned (.tuple #[.slice a m cap, .map (some M)]) ∧ w.heap.size ≤ M ∧ w'.ownsRow w.heap.size 81 1 (.slice a m cap) A.length (ptrs A) ∧ FirstAt w A (firstL (usesP x)) ∧
      w'.ownsMap Tryz.prog 9 (plainElem (H := Unit) Tryz.prog 3) M q D ∧ MapsTo (idxF (firstL (usesP x))) D ∧ Below w.heap.size w w' := by
  have hdd : ∀ k : Nat, (Fence.wide.depth.isSome = true → 1 ≤ k) := fun k h => by cases h
  have hmm := @run_makeMap Tryz.prog
  refine callsIn_of_wp_marks Tryz.func75 rfl trivial ?_ rfl
  simp only [Tryz.ntmps75, List.size_toArray, List.length_cons, List.length_nil, Nat.reduceAdd, Nat.reduceSub, Array.replicate_succ, Array.replicate_zero, List.push_toArray, List.append_toArray, List.nil_append, List.cons_append]
  gi_wp2_with (refine ⟨trivial, hdd _, ?_⟩; gi_at_call 76; refine (named_in _ _ _).mono ?_; rintro e w' ⟨rfl, rfl⟩)
  obtain ⟨C, hC⟩ : ∃ C, (((w.alloc (.cells #[.slice none 0 0] 103)).alloc (.map #[] 0)).alloc (.cells #[.map (some (w.heap.size + 1))] 104)).alloc (.cells #[.pointer (some ⟨b0, o0, none⟩)] 81) = C := ⟨_, rfl⟩
  rw [hC]
  have hCs : C.heap.size = w.heap.size + 4 := by rw [← hC]; simp
  have hBC : Below w.heap.size w C := by rw [← hC]; exact ((((Below.refl _ w).alloc (Nat.le_refl _) _).alloc (by simp) _).alloc (by simp; omega) _).alloc (by simp; omega) _
  have hb0 : Boxed C w.heap.size 103 (.slice none 0 0) := by rw [← hC]; exact (((Boxed.new w _ _).alloc _).alloc _).alloc _
  have hm1 : C.ownsMap Tryz.prog 9 (plainElem (H := Unit) Tryz.prog 3) (w.heap.size + 1) 0 (.map []) := by
    have := ((World.ownsMap_made (w.alloc (.cells #[.slice none 0 0] 103)) Tryz.prog 9 (plainElem (H := Unit) Tryz.prog 3)).alloc (.cells #[.map (some (w.heap.size + 1))] 104)).alloc (.cells #[.pointer (some ⟨b0, o0, none⟩)] 81)
    rw [World.size_alloc, hC] at this
    exact this
  have hb2 : Boxed C (w.heap.size + 2) 104 (.map (some (w.heap.size + 1))) := by
    have := (Boxed.new ((w.alloc (.cells #[.slice none 0 0] 103)).alloc (.map #[] 0)) 104 (.map (some (w.heap.size + 1)))).alloc (.cells #[.pointer (some ⟨b0, o0, none⟩)] 81)
    rw [World.size_alloc, World.size_alloc, hC] at this
    exact this
  have hb3 : Boxed C (w.heap.size + 1 + 1 + 1) 81 (.pointer (some ⟨b0, o0, none⟩)) := by
    have := Boxed.new (((w.alloc (.cells #[.slice none 0 0] 103)).alloc (.map #[] 0)).alloc (.cells #[.map (some (w.heap.size + 1))] 104)) 81 (.pointer (some ⟨b0, o0, none⟩))
    rw [World.size_alloc, World.size_alloc, World.size_alloc, hC] at this
    exact this
  clear hC
  have hlt0 := hN.lt
  refine named_fold (w.heap.size + 1 + 1 + 1) b0 o0 x (fun k => k < w.heap.size) (FirJ w C w.heap.size) (fun _ _ => False)
    rfl rfl hb3.cell hsm (fun k hk => by omega) hlt0 (hN.later hBC) (PIn.xt (n := w.heap.size) (fun k hk => hk) (hX.inn.below hBC)) ?_ ?_ ?_ (fun _ _ _ _ h => h)
    (fun b o => { tmps := #[.pointer (some ⟨b0, o0, none⟩), undef, .slice none 0 0, .map none, .pointer (some ⟨w.heap.size, 0, none⟩), .pointer (some ⟨w.heap.size + 1 + 1, 0, none⟩), .pointer (some ⟨b, o, none⟩), undef, undef, .map (some (w.heap.size + 1)), .pointer (some ⟨b0, o0, none⟩), .func (.func 96) #[] #[.pointer (some ⟨w.heap.size + 1 + 1 + 1, 0, none⟩)], .pointer (some ⟨b, o, none⟩), undef, undef, undef, undef, undef, undef, undef, undef, undef, undef, undef, undef, undef, undef, undef, undef, undef, undef, undef, undef, undef, undef, undef, undef], defers := [] }) ?_ ?_ ?_ (fun _ _ _ _ h _ => h.elim)
  · rintro pre W B hag ⟨v, A, D, q, j1, j2, j3, j4, j5, j6, j7, j8⟩
    exact ⟨v, A, D, q, hag.boxed j1, ownRow_ag hag j2, j3, ownsMap_ag hag (by omega) j4, j5, j6, hag.boxed j7, hag.below (by omega) j8⟩
  · rintro pre W ⟨v, A, D, q, j1, j2, j3, j4, j5, j6, j7, j8⟩
    exact ⟨v, A, D, q, j1, j2, j3, j4, j5, j6, j7, j8.drew⟩
  · intro W hW
    exact ⟨_, [], _, 0, Boxed.kept_of hb0 hW (by omega), World.ownsRow_nil _ _ _ _, ⟨rfl, fun i p y hp => by simp at hp⟩, ownsMap_below hW (by omega) hm1, Nat.le_refl _, mapsTo_none.congr (fun s => rfl), Boxed.kept_of hb2 hW (by omega), hBC.trans (hW.mono (by omega))⟩
  · intro l b o W K hK
    gi_wp2
    first | exact hK | simpa using hK
  · rintro l b o y pre W hb hn hx ⟨v, A, D, q, j1, j2, j3, j4, j5, j6, j7, j8⟩ hs ⟨post, hpo⟩ hk
    have hmem : y ∈ usesP x := by rw [← hpo]; simp
    have hys := (uses_ok hok y hmem).1
    have hlen : pre.length < 1048576 := by
      have h1 := congrArg List.length hpo
      have h2 := length_uses x
      rw [List.length_append, List.length_cons] at h1
      omega
    clear hpo
    have hnw : NodeP w b o y := hn.of fun j _ => (j8.cell (p := ⟨b, o + j, none⟩) hb).symm
    obtain ⟨c, hlook, hcj⟩ := look_all j4 j6 hys
    have hl2 : ∀ nq, (Instr.lookup 104 (.map (some (w.heap.size + 1))) (.string y.s) true).run Tryz.prog (W.drewN nq) = .ok (.tuple #[.int .i64 c, .bool (idxF (firstL pre) y.s).isSome]) (W.drewN nq) := fun nq => hlook _ j4
    clear hlook
    have c2 := j7.cell
    obtain ⟨d0, d1, d2, d3, d4, d5⟩ := hn
    cases hf : idxF (firstL pre) y.s with
    | some j =>
      rw [hf] at hl2
      simp only [Option.isSome] at hl2
      have hst2 : ∀ nq, foldPost C.heap.size (fun k => k < w.heap.size ∨ (C.heap.size ≤ k ∧ k < C.heap.size + 8)) (FirJ w C w.heap.size (pre ++ [y])) (fun _ _ => False) W .normal ⟨#[], []⟩ (W.drewN nq) := fun nq => by
        refine ⟨⟨Nat.le_refl _, fun _ _ _ h _ => h⟩, fun _ _ _ _ e => e, v, A, D, q, j1, j2, ?_, j4, by rw [List.length_append]; omega, ?_, j7, j8.trans ⟨rfl, rfl, rfl, Nat.le_refl _, fun _ _ => rfl⟩⟩
        · rw [firstL_snoc, addU_some hf]; exact j3
        · rw [firstL_snoc, addU_some hf]; exact j6
      clear hf hcj
      gi_wp2
      refine wpIn_region_round (by kernel_rfl) (by kernel_rfl) (by kernel_rfl) ?_
      repeat (gi_big_quiet_step (fail))
      refine wpQuietIn_nil ?_
      intro _ hw'
      obtain ⟨nq, hw''⟩ := hw'
      subst hw''
      gi_wp2
      exact hst2 _
    | none =>
      rw [hf] at hl2
      simp only [Option.isSome] at hl2
      gi_wp2
      refine wpIn_region_round (by kernel_rfl) (by kernel_rfl) (by kernel_rfl) ?_
      repeat (gi_big_quiet_step (fail))
      refine wpQuietIn_nil ?_
      intro _ hw'
      obtain ⟨nq, hw''⟩ := hw'
      subst hw''
      gi_wp2
      obtain ⟨V, hV⟩ : ∃ V, V = W.drewN nq := ⟨_, rfl⟩
      have eV : V.heap = W.heap := by rw [hV]; rfl
      have BV : Below W.heap.size W V := by rw [hV]; exact ⟨rfl, rfl, rfl, Nat.le_refl _, fun _ _ => rfl⟩
      have g1 : Boxed V w.heap.size 103 v := by rw [hV]; exact j1
      have g2 : V.ownsRow (C.heap.size + 8) 81 1 v A.length (ptrs A) := by rw [hV]; exact j2
      have g4 : V.drew.ownsMap Tryz.prog 9 (plainElem (H := Unit) Tryz.prog 3) (w.heap.size + 1) q D := by rw [hV]; exact j4
      have g7 : Boxed V (w.heap.size + 2) 104 (.map (some (w.heap.size + 1))) := by rw [hV]; exact j7
      have gn : NodeP V b o y := by rw [hV]; exact ⟨d0, d1, d2, d3, d4, d5⟩
      rw [← hV]
      obtain ⟨a, cap, rfl⟩ := own_slice g2
      have hkey : keyOf Tryz.prog 9 (.string y.s) = some (keyS y.s) := keyOf_string_mk Tryz.underlying9 hys
      have hAl : A.length ≤ 1048576 := by have := length_firstL pre; rw [j3.1]; omega
      obtain ⟨w1, hrunU, hown1, hgrow1⟩ := g4.update str_law Tryz.underlying104 (by unfold maxLen; omega) (val := .int .i64 (A.length : Nat)) hkey (plainElem_int Tryz.underlying3 (WalkArith.wf_i64 (by omega)))
      have hmap : ∀ (k' : Nat) (o : Obj), o.isCells = true → V.heap[k']? = some o → w1.heap[k']? = some o := fun k' o ho e => by
        refine (hgrow1.block k' (Array.getElem?_eq_some_iff.1 e).1 fun q => ?_).trans e
        injection q with q
        subst q
        obtain ⟨es, clock, e1, _⟩ := g4
        have e1' : V.heap[w.heap.size + 1]? = some (.map es clock) := e1
        rw [e1'] at e
        cases e
        cases ho
      have k1 : Boxed w1 w.heap.size 103 (.slice a A.length cap) := hmap _ _ rfl g1
      have k2 : w1.ownsRow (C.heap.size + 8) 81 1 (.slice a A.length cap) A.length (ptrs A) := by
        refine ⟨g2.1, ?_⟩
        rcases g2.2 with h1 | ⟨g, cap', cur, e, hg, hc, hr⟩
        · exact .inl h1
        · exact .inr ⟨g, cap', cur, e, hg, hmap _ _ rfl hc, hr⟩
      have hsz1 : W.heap.size ≤ w1.heap.size := by have := hgrow1.size; have h2 : V.drew.heap.size = W.heap.size := by rw [hV]; rfl
                                                   omega
      obtain ⟨v', w2, hrunA, hown2, hgrow2⟩ := push_ptr k2 (by omega) b o hAl
      obtain ⟨a2, cap2, hv2⟩ := own_slice hown2
      have hl2' : (A ++ [(b, o)]).length = A.length + 1 := by simp
      rw [hl2'] at hv2
      subst hv2
      have cq0 := g7.cell
      have cq1 := gn.2.1
      have cq2 := g1.cell
      have kc := k1.cell
      have kf := k1.frozen
      have hrowblk : ∀ g, (Value.slice a A.length cap).ownBlock = some g → C.heap.size + 8 ≤ g ∧ g < w1.heap.size := fun g e => k2.lt g e
      have m1 : Boxed w2 w.heap.size 103 (.slice a A.length cap) := (hgrow2.block _ (by simp; have := k1.lt; omega) (fun e => by have := (hrowblk _ e.symm).1; omega)).trans ((alloc_old k1.lt).trans k1)
      have mc := m1.cell
      have mf := m1.frozen
      have FIN : Hid (foldPost C.heap.size (fun k => k < w.heap.size ∨ (C.heap.size ≤ k ∧ k < C.heap.size + 8)) (FirJ w C w.heap.size (pre ++ [y])) (fun _ _ => False) W .normal ⟨#[], []⟩ (w2.setCell ⟨w.heap.size, 0, none⟩ (.slice a2 (A.length + 1) cap2))) := by
        have hb2 : ∀ k ob, k < C.heap.size + 8 → k ≠ w.heap.size + 1 → W.heap[k]? = some ob → w2.heap[k]? = some ob := fun k ob hk hne e => by
          have hlt : k < w1.heap.size := by have := (Array.getElem?_eq_some_iff.1 e).1; omega
          refine (hgrow2.block k (by simp; omega) (fun q => by have := (hrowblk k q.symm).1; omega)).trans ((alloc_old hlt).trans ((hgrow1.block k (by have := (Array.getElem?_eq_some_iff.1 e).1; rw [show V.drew.heap = W.heap from eV]; exact this) (fun q => by injection q with q; exact hne q)).trans ?_))
          rw [show V.drew.heap = W.heap from eV]; exact e
        have hnc : ∀ k ob, C.heap.size ≤ k → W.heap[k]? = some ob → ob.isCells = false → w2.heap[k]? = some ob := fun k ob hk e hc => by
          have hlt : k < w1.heap.size := by have := (Array.getElem?_eq_some_iff.1 e).1; omega
          have h1 : w1.heap[k]? = some ob := (hgrow1.block k (by have := (Array.getElem?_eq_some_iff.1 e).1; rw [show V.drew.heap = W.heap from eV]; exact this) (fun q => by injection q with q; omega)).trans (by rw [show V.drew.heap = W.heap from eV]; exact e)
          refine (hgrow2.block k (by simp; omega) (fun q => ?_)).trans ((alloc_old hlt).trans h1)
          rcases k2.2 with ⟨e1, _⟩ | ⟨g, cap', cur, e1, _, hcur, _⟩
          · rw [e1] at q; cases q
          · rw [e1] at q
            injection q with q
            have q' : g = k := q.symm
            rw [q'] at hcur
            rw [h1] at hcur
            cases hcur
            cases hc
        refine ⟨⟨by rw [World.size_setCell]; have := hgrow2.size; simp at this; omega, fun k ob hk e hc => ?_⟩, fun k ob hk ho e => ?_, .slice a2 (A.length + 1) cap2, A ++ [(b, o)], D.put (keyS y.s) (.lit (.int .i64 (A.length : Nat))), q + 1, m1.set _, ?_, ?_, ?_, by rw [List.length_append]; simp; omega, ?_, ?_, ?_⟩
        · exact (Below.heap_setCell w2 ⟨w.heap.size, 0, none⟩ (.slice a2 (A.length + 1) cap2) k (fun q => by have q' : k = w.heap.size := q; omega)).trans (hnc k ob hk e hc)
        · have hne : k ≠ w.heap.size := by rcases hk with hk | hk <;> omega
          have hne1 : k ≠ w.heap.size + 1 := by rcases hk with hk | hk <;> omega
          exact (Below.heap_setCell w2 ⟨w.heap.size, 0, none⟩ (.slice a2 (A.length + 1) cap2) k hne).trans (hb2 k ob (by rcases hk with hk | hk <;> omega) hne1 e)
        · refine hown2.kept (row := some w.heap.size) ⟨rfl, rfl, rfl, by simp, fun k _ hne => Below.heap_setCell w2 ⟨w.heap.size, 0, none⟩ (.slice a2 (A.length + 1) cap2) k fun e => hne (by rw [show k = w.heap.size from e])⟩ (.inr fun e => ?_)
          have := (hown2.lt _ e).1
          omega
        · rw [firstL_snoc, addU_none hf]
          exact j3.snoc hb hnw
        · have hm2 : w2.ownsMap Tryz.prog 9 (plainElem (H := Unit) Tryz.prog 3) (w.heap.size + 1) (q + 1) (D.put (keyS y.s) (.lit (.int .i64 (A.length : Nat)))) := (hown1.alloc (.cells #[.pointer (some ⟨b, o, none⟩)] 81)).kept hgrow2 (fun e => by have := (hrowblk _ e.symm).1; omega)
          obtain ⟨es, clock, e1, e2⟩ := hm2
          exact ⟨es, clock, (Below.heap_setCell w2 ⟨w.heap.size, 0, none⟩ (.slice a2 (A.length + 1) cap2) (w.heap.size + 1) (by simp)).trans e1, e2⟩
        · rw [firstL_snoc, addU_none hf]
          refine (j6.put g4.isMap y.s A.length).congr fun s => ?_
          rw [idxF_snoc hf, j3.1]
        · have : w2.heap[w.heap.size + 2]? = some (.cells #[.map (some (w.heap.size + 1))] 104 (0, 0)) := hb2 _ _ (by omega) (by omega) j7
          exact (Below.heap_setCell w2 ⟨w.heap.size, 0, none⟩ (.slice a2 (A.length + 1) cap2) (w.heap.size + 2) (by simp)).trans this
        · have bw : Below w.heap.size W w2 := by
            refine ⟨?_, ?_, ?_, ?_, fun k hk => ?_⟩
            · rw [hgrow2.os]; show w1.os = _; rw [hgrow1.os, hV]; rfl
            · rw [hgrow2.tape]; show w1.tape = _; rw [hgrow1.tape, hV]; rfl
            · rw [hgrow2.output]; show w1.output = _; rw [hgrow1.output, hV]; rfl
            · have := hgrow2.size; simp at this; omega
            · have hlt : k < W.heap.size := by omega
              rw [Array.getElem?_eq_getElem hlt]
              exact hb2 k _ (by omega) (by omega) (Array.getElem?_eq_getElem hlt)
          exact (j8.trans bw).setCell (p := ⟨w.heap.size, 0, none⟩) (Nat.le_refl _) _
      clear hf hcj hown1 hown2 hgrow1 hgrow2 hrowblk j1 j2 j3 j4 j5 j6 j7 k2 hl2 d0 d1 d2 d3 d4 d5 m1
      refine wpIn_region_reads 7 [(24, .map (some (w.heap.size + 1))), (25, .pointer (some ⟨b, o, none⟩)), (26, .pointer (some ⟨b, o, none⟩)), (27, .pointer (some ⟨b, o + 1, none⟩)), (28, .string y.s), (29, .slice a A.length cap), (30, .int .i64 (A.length : Nat))] _ (by kernel_rfl) (by kernel_rfl) rfl rfl (by kernel_rfl) rfl ?_ ?_ (w1 := w1) ?_
      · generalize hfull : puts _ _ = full
        have F4 : full[4]? = some (.pointer (some ⟨w.heap.size, 0, none⟩)) := by rw [← hfull]; kernel_rfl
        have F5 : full[5]? = some (.pointer (some ⟨w.heap.size + 1 + 1, 0, none⟩)) := by rw [← hfull]; kernel_rfl
        have F6 : full[6]? = some (.pointer (some ⟨b, o, none⟩)) := by rw [← hfull]; kernel_rfl
        have F24 : full[24]? = some (.map (some (w.heap.size + 1))) := by rw [← hfull]; kernel_rfl
        have F25 : full[25]? = some (.pointer (some ⟨b, o, none⟩)) := by rw [← hfull]; kernel_rfl
        have F26 : full[26]? = some (.pointer (some ⟨b, o, none⟩)) := by rw [← hfull]; kernel_rfl
        have F27 : full[27]? = some (.pointer (some ⟨b, o + 1, none⟩)) := by rw [← hfull]; kernel_rfl
        have F28 : full[28]? = some (.string y.s) := by rw [← hfull]; kernel_rfl
        have F29 : full[29]? = some (.slice a A.length cap) := by rw [← hfull]; kernel_rfl
        have F30 : full[30]? = some (.int .i64 (A.length : Nat)) := by rw [← hfull]; kernel_rfl
        clear hfull
        simp only [List.take_succ_cons, List.take_zero, Reads]
        refine ⟨⟨_, _, rfl, F24, ?_⟩, ⟨_, _, rfl, F25, ?_⟩, ⟨_, _, rfl, F26, ?_⟩, ⟨_, _, rfl, F27, ?_⟩, ⟨_, _, rfl, F28, ?_⟩, ⟨_, _, rfl, F29, ?_⟩, ⟨_, _, rfl, F30, ?_⟩, trivial⟩
        all_goals simp [execOp, Act.eval, go_sem, Array.getD_eq_getD_getElem?, F4, F5, F6, F25, F26, F27, F29, cq0, cq1, cq2]
      · generalize hfull : puts _ _ = full
        have F24 : full[24]? = some (.map (some (w.heap.size + 1))) := by rw [← hfull]; kernel_rfl
        have F28 : full[28]? = some (.string y.s) := by rw [← hfull]; kernel_rfl
        have F30 : full[30]? = some (.int .i64 (A.length : Nat)) := by rw [← hfull]; kernel_rfl
        clear hfull
        simp [execOp, Act.eval, go_sem, Array.getD_eq_getD_getElem?, F24, F28, F30, hrunU]
      · simp only [puts, List.setIfInBounds_toArray, List.set_cons_zero, List.set_cons_succ]
        gi_wp2_with (first | (gi_at_builtin; refine wpListIn_append_run rfl (.tmp 31) (.tmp 33) 103 rfl _ _ _ rfl rfl hrunA ?_) | gi_in)
        exact FIN.out
  · rintro D0 W hD ⟨v, A, D, q, j1, j2, j3, j4, j5, j6, j7, j8⟩ hK
    obtain ⟨a, cap, rfl⟩ := own_slice j2
    have c0 := j1.cell
    have c2 := j7.cell
    gi_wp2
    gi_quiet (fail)
    have hK' : (W.drewN nq).heap[D0]? = some (.deferred (some [])) := hK
    have hbk := belowK_b (w := C) (n₀ := C.heap.size) (Nat.le_refl _) (W.drewN nq) D0 _ (.deferred none) hD hK' rfl rfl
    have hag : Ag C.heap.size (W.drewN nq) ((W.drewN nq).putObj D0 (.deferred none)) := Ag.putObj hD hK' rfl rfl
    gi_wp2
    refine ⟨by simp, .inl ⟨_, _, rfl, run_takeDeferred hK', ?_⟩⟩
    refine ⟨_, results_tmp2 rfl _ _ _, a, _, cap, A, D, q, w.heap.size + 1, rfl, by omega, ?_, j3, ownsMap_below hbk (by omega) j4, j6, (j8.trans (show Below w.heap.size W (W.drewN nq) from ⟨rfl, rfl, rfl, Nat.le_refl _, fun _ _ => rfl⟩)).trans (hbk.mono (show w.heap.size ≤ C.heap.size by omega))⟩
    have h2 := ownRow_ag hag (show (W.drewN nq).ownsRow _ _ _ _ _ _ from j2)
    refine ⟨h2.1, ?_⟩
    rcases h2.2 with h1 | ⟨g, cap', cur, e, hg, hc, hr⟩
    · exact .inl h1
    · exact .inr ⟨g, cap', cur, e, by omega, hc, hr⟩
end Go.Proofs.YtfnfegcjgnbgbaaGreatDoor
namespace Go.Proofs.YtfnfegcjgnbgbaaGreatDoor
open Go.RowKit Go.Shelf

/-- Two rows do not lie in one block. -/
def Ap (u v : Value) : Prop := ∀ g, u.ownBlock = some g → v.ownBlock ≠ some g
structure R3 (base : Nat) (W : World) (v1 v2 v3 : Value) (x1 x2 x3 : List Value) : Prop where
  o1 : W.ownsRow base 9 1 v1 x1.length x1
  o2 : W.ownsRow base 9 1 v2 x2.length x2
  o3 : W.ownsRow base 3 1 v3 x3.length x3
  a12 : Ap v1 v2
  a13 : Ap v1 v3
  a23 : Ap v2 v3
/-- A box of one cell, in none of the rows. -/
structure Bx (W : World) (v1 v2 v3 : Value) (g : Nat) (t : TypeId) (u : Value) : Prop where
  box : Boxed W g t u
  n1 : v1.ownBlock ≠ some g
  n2 : v2.ownBlock ≠ some g
  n3 : v3.ownBlock ≠ some g
variable {base : Nat} {W : World} {v1 v2 v3 : Value} {x1 x2 x3 : List Value}
end Go.Proofs.YtfnfegcjgnbgbaaGreatDoor
namespace Go.Proofs.YtfnfegcjgnbgbaaGreatDoor
open Go.RowKit Go.Shelf Go.Maps Go.WideMaps
attribute [local go_sem] Oper.semAt_some

theorem first_one {l : List Pt} {f g : Pt} (hf : f ∈ firstL l) (hg : g ∈ firstL l) (e : f.s = g.s) : f = g := by
  have key : ∀ (l acc : List Pt), (∀ a ∈ acc, ∀ b ∈ acc, a.s = b.s → a = b) → ∀ a ∈ l.foldl addU acc, ∀ b ∈ l.foldl addU acc, a.s = b.s → a = b := by
    intro l
    induction l with
    | nil => intro acc h; exact h
    | cons z l ih =>
      intro acc h
      refine ih (addU acc z) ?_
      unfold addU
      split
      · exact h
      · rename_i hz
        have hz' : ∀ a ∈ acc, a.s ≠ z.s := fun a ha q => hz (List.any_eq_true.2 ⟨a, ha, by simp [q]⟩)
        intro a ha b hb q
        rcases List.mem_append.1 ha with ha' | ha' <;> rcases List.mem_append.1 hb with hb' | hb'
        · exact h a ha' b hb' q
        · rw [List.mem_singleton] at hb'; rw [hb'] at q; exact absurd q (hz' a ha')
        · rw [List.mem_singleton] at ha'; rw [ha'] at q; exact absurd q.symm (hz' b hb')
        · rw [List.mem_singleton] at ha' hb'; rw [ha', hb']
  exact key l [] (fun a ha => by simp at ha) f hf g hg e
theorem row_ptr {w : World} {base n : Nat} {a : Option Addr} {cap : Nat} {A : List (Nat × Nat)} (h : w.ownsRow base 81 1 (.slice a n cap) A.length (ptrs A)) {i : Nat} {p : Nat × Nat} (hp : A[i]? = some p) :
    n = A.length ∧ ∃ g, a = some ⟨g, 0, none⟩ ∧ base ≤ g ∧ g < w.heap.size ∧ w.cell? ⟨g, i, none⟩ = some (.pointer (some ⟨p.1, p.2, none⟩)) := by
  have hi : i < A.length := (List.getElem?_eq_some_iff.1 hp).1
  rcases h.2 with ⟨e, e2⟩ | ⟨g, cap', cur, e, hg, hc, hnc, hcm, hs, ht⟩
  · omega
  · injection e with e1 e2 e3
    subst e1
    refine ⟨e2, g, rfl, hg, (Array.getElem?_eq_some_iff.1 hc).1, ?_⟩
    simp only [World.cell?, hc]
    have h1 : (ptrs A)[i]? = some (.pointer (some ⟨p.1, p.2, none⟩)) := by simp [ptrs, hp]
    rw [← ht, List.getElem?_take_of_lt (by omega)] at h1
    rw [Array.getElem?_toList] at h1
    simpa using h1
set_option maxRecDepth 100000 in
set_option maxHeartbeats 8000000 in
theorem alike_in (n : Nat) (x : Pt) (b0 o0 : Nat) (w : World) (hN : NodeP w b0 o0 x) (hX : IsP w x) (hsm : x.size ≤ 1048576) (hok : POk x) :
    CallsIn Fence.wide n Tryz.prog 51 #[.pointer (some ⟨b0, o0, none⟩)] w fun e w' => ∃ r : Bool, e = .returned (.bool r) ∧ (r = true ↔ AlikeP x) ∧ Below w.heap.size w w' := by
  have hdd : ∀ k : Nat, (Fence.wide.depth.isSome = true → 1 ≤ k) := fun k h => by cases h
  obtain ⟨A0, hA0⟩ : ∃ A0, w.alloc (.cells #[.bool false] 4) = A0 := ⟨_, rfl⟩
  have hB0 : Below w.heap.size w A0 := by rw [← hA0]; exact (Below.refl _ _).alloc (Nat.le_refl _) _
  have hs0 : A0.heap.size = w.heap.size + 1 := by rw [← hA0]; simp
  have hr0 : Boxed A0 w.heap.size 4 (.bool false) := hA0 ▸ Boxed.new _ _ _
  have hfir := firsts_in12 (n - 1) x b0 o0 A0 (hN.later hB0) (hX.later hB0) hsm hok
  refine callsIn_of_wp_marks Tryz.func51 rfl trivial ?_ rfl
  simp only [Tryz.ntmps51, List.size_toArray, List.length_cons, List.length_nil, Nat.reduceAdd, Nat.reduceSub, Array.replicate_succ, Array.replicate_zero, List.push_toArray, List.append_toArray, List.nil_append, List.cons_append]
  gi_wp2_with (first
    | (refine ⟨trivial, hdd _, ?_⟩; gi_at_call 75; refine hfir.mono ?_; clear hfir; rintro e W1 ⟨a, m, cap, A, D, q, M, rfl, hM, hrow, hfa, hmap, hmt, hB1⟩)
    | (refine ⟨trivial, hdd _, ?_⟩; gi_at_call 76; refine (named_in _ _ _).mono ?_; rintro e w' ⟨rfl, rfl⟩))
  obtain ⟨C, hC⟩ : ∃ C, ((W1.alloc (.cells #[.slice a m cap] 103)).alloc (.cells #[.map (some M)] 104)).alloc (.cells #[.pointer (some ⟨b0, o0, none⟩)] 81) = C := ⟨_, rfl⟩
  rw [hC]
  have hCs : C.heap.size = W1.heap.size + 3 := by rw [← hC]; simp
  have hBC : Below W1.heap.size W1 C := by rw [← hC]; exact (((Below.refl _ W1).alloc (Nat.le_refl _) _).alloc (by simp) _).alloc (by simp; omega) _
  have hb0 : Boxed C W1.heap.size 103 (.slice a m cap) := by rw [← hC]; exact ((Boxed.new W1 _ _).alloc _).alloc _
  have hb1 : Boxed C (W1.heap.size + 1) 104 (.map (some M)) := by
    have := (Boxed.new (W1.alloc (.cells #[.slice a m cap] 103)) 104 (.map (some M))).alloc (.cells #[.pointer (some ⟨b0, o0, none⟩)] 81)
    rw [World.size_alloc, hC] at this
    exact this
  have hb2 : Boxed C (W1.heap.size + 1 + 1) 81 (.pointer (some ⟨b0, o0, none⟩)) := by
    have := Boxed.new ((W1.alloc (.cells #[.slice a m cap] 103)).alloc (.cells #[.map (some M)] 104)) 81 (.pointer (some ⟨b0, o0, none⟩))
    rw [World.size_alloc, World.size_alloc, hC] at this
    exact this
  clear hC
  have hs1 := hB1.size
  have hlt0 := hN.lt
  have hwC : Below w.heap.size w C := hB0.trans ((hB1.mono (by omega)).trans (hBC.mono (by omega)))
  have h0C : Below A0.heap.size A0 C := hB1.trans (hBC.mono hs1)
  have hrC : Boxed C w.heap.size 4 (.bool false) := Boxed.kept_of hr0 h0C (by omega)
  have hrowC := own_laterS hrow hBC
  have hmapC := ownsMap_below hBC hmap.lt hmap
  have hML := hmap.lt
  refine named_fold (W1.heap.size + 1 + 1) b0 o0 x (fun k => k < w.heap.size) (fun pre W => Below C.heap.size C W ∧ ∀ u ∈ pre, ∀ f ∈ firstL (usesP x), f.s = u.s → Agree u f) (fun c W => c = .ret ∧ ¬ AlikeP x ∧ Boxed W w.heap.size 4 (.bool false) ∧ Below w.heap.size w W)
    rfl rfl hb2.cell hsm (fun k hk => by omega) hlt0 (hN.later hwC) (PIn.xt (n := w.heap.size) (fun k hk => hk) (hX.inn.below hwC)) ?_ ?_ ?_ ?_
    (fun b o => { tmps := #[.pointer (some ⟨b0, o0, none⟩), undef, .pointer (some ⟨w.heap.size, 0, none⟩), .pointer (some ⟨W1.heap.size, 0, none⟩), .pointer (some ⟨W1.heap.size + 1, 0, none⟩), .pointer (some ⟨b, o, none⟩), undef, .tuple #[.slice a m cap, .map (some M)], .pointer (some ⟨b0, o0, none⟩), .tuple #[.slice a m cap, .map (some M)], .slice a m cap, .map (some M), .pointer (some ⟨b0, o0, none⟩), .func (.func 96) #[] #[.pointer (some ⟨W1.heap.size + 1 + 1, 0, none⟩)], .pointer (some ⟨b, o, none⟩), undef, undef, undef, undef, undef, undef, undef, undef, undef, undef, undef, undef, undef, undef, undef, undef, undef, undef, undef, undef, undef, undef, undef, undef, undef, undef, undef, undef, undef, undef, undef], defers := [] }) ?_ ?_ ?_ ?_
  · rintro pre W B hag ⟨h1, h2⟩
    exact ⟨hag.below (Nat.le_refl _) h1, h2⟩
  · rintro pre W ⟨h1, h2⟩
    exact ⟨h1.drew, h2⟩
  · exact fun W hW => ⟨hW, fun u hu => by simp at hu⟩
  · rintro c W B hag ⟨h1, h2, h3, h4⟩
    exact ⟨h1, h2, hag.boxed h3, hag.below (by omega) h4⟩
  · intro l b o W K hK
    gi_wp2
    first | exact hK | simpa using hK
  · rintro l b o y pre W hb hn hx ⟨hW, hpre⟩ hs ⟨post, hpo⟩ hk
    have hmem : y ∈ usesP x := by rw [← hpo]; simp
    clear hpo
    have hys := (uses_ok hok y hmem).1
    obtain ⟨j, hj⟩ : ∃ j, idxF (firstL (usesP x)) y.s = some j := by
      cases e : idxF (firstL (usesP x)) y.s with
      | some j => exact ⟨j, rfl⟩
      | none =>
        obtain ⟨z, hz, q⟩ := firstL_has hmem
        exact absurd q (idxF_none.1 e z hz)
    obtain ⟨f, hf, hfs⟩ := idxF_some hj
    have hjl : j < (firstL (usesP x)).length := (List.getElem?_eq_some_iff.1 hf).1
    obtain ⟨p, hp⟩ : ∃ p, A[j]? = some p := ⟨A[j]'(by rw [hfa.1]; exact hjl), List.getElem?_eq_getElem _⟩
    obtain ⟨hp1, hpn⟩ := hfa.2 j p f hp hf
    have hfn : NodeP W p.1 p.2 f := (hpn.later h0C).later hW
    obtain ⟨hm, g, rfl, hg1, hg2, hgc⟩ := row_ptr hrowC hp
    have hjm : j < m := by rw [hm, hfa.1]; exact hjl
    have cg := cell_later hgc hW
    have cl := (Boxed.kept_of hb0 hW (by omega)).cell
    have cm := (Boxed.kept_of hb1 hW (by omega)).cell
    have hlk : ∀ nq, (Instr.lookup 104 (.map (some M)) (.string y.s) false).run Tryz.prog (W.drewN nq) = .ok (.int .i64 (j : Nat)) (W.drewN nq) := fun nq => look1_to (W := W.drewN nq) (ownsMap_below hW (by have := hBC.size; omega) hmapC) hmt hys hj
    obtain ⟨d0, d1, d2, d3, d4, d5⟩ := hn
    obtain ⟨p1, p2⟩ := p
    simp only at hfn cg hp1
    obtain ⟨e0, e1, e2, e3, e4, e5⟩ := hfn
    have rW := Boxed.kept_of hrC hW (by omega)
    have rc := rW.cell
    have rf := rW.frozen
    have hmlen : m ≤ 1048576 := by
      have h1 := length_firstL (usesP x)
      have h2 := length_uses x
      rw [hm, hfa.1]; omega
    have HBW : Hid (Below C.heap.size C W) := hW
    have yes : Agree y f → ∀ n1 n2, foldPost C.heap.size (fun k => k < w.heap.size ∨ (C.heap.size ≤ k ∧ k < C.heap.size + 8)) (fun W => Below C.heap.size C W ∧ ∀ u ∈ pre ++ [y], ∀ f ∈ firstL (usesP x), f.s = u.s → Agree u f) (fun c W => c = .ret ∧ ¬ AlikeP x ∧ Boxed W w.heap.size 4 (.bool false) ∧ Below w.heap.size w W) W .normal ⟨#[], []⟩ ((W.drewN n1).drewN n2) := fun hag n1 n2 => by
      refine ⟨⟨Nat.le_refl _, fun _ _ _ h _ => h⟩, fun _ _ _ _ e => e, hW.trans ⟨rfl, rfl, rfl, Nat.le_refl _, fun _ _ => rfl⟩, fun u hu f' hf' e => ?_⟩
      rcases List.mem_append.1 hu with hu | hu
      · exact hpre u hu f' hf' e
      · rw [List.mem_singleton] at hu
        subst hu
        have : f' = f := first_one hf' (List.mem_of_getElem? hf) (e.trans hfs.symm)
        rw [this]; exact hag
    have no : ¬ Agree y f → ∀ n1, foldPost C.heap.size (fun k => k < w.heap.size ∨ (C.heap.size ≤ k ∧ k < C.heap.size + 8)) (fun W => Below C.heap.size C W ∧ ∀ u ∈ pre ++ [y], ∀ f ∈ firstL (usesP x), f.s = u.s → Agree u f) (fun c W => c = .ret ∧ ¬ AlikeP x ∧ Boxed W w.heap.size 4 (.bool false) ∧ Below w.heap.size w W) W .ret ⟨#[], []⟩ ((W.drewN n1).setCell ⟨w.heap.size, 0, none⟩ (.bool false)) := fun hag n1 => by
      have k0 : KeepsOthers W (W.drewN n1) := ⟨Nat.le_refl _, fun _ _ h _ => h⟩
      have rW2 : Boxed (W.drewN n1) w.heap.size 4 (.bool false) := rW
      refine ⟨(k0.trans (KeepsOthers.setCell _ _ _)).from _, rfl, fun h => hag ((alike_first.1 h) y hmem f (List.mem_of_getElem? hf) hfs), rW2.set _, ?_⟩
      exact ((hwC.trans (hW.mono (by omega))).trans (show Below w.heap.size W (W.drewN n1) from ⟨rfl, rfl, rfl, Nat.le_refl _, fun _ _ => rfl⟩)).setCell (p := ⟨w.heap.size, 0, none⟩) (Nat.le_refl _) _
    clear hpre hj hf hfs hjl hp hfa hpn hgc hrowC hm hW
    by_cases ht : y.t = f.t
    · have t1 := str_yes ht
      by_cases hkk : (y.k = 6 ↔ f.k = 6)
      · have HY := yes ⟨ht, hkk⟩
        have HYES : Hid _ := HY
        obtain ⟨u1, hu1⟩ : ∃ u, (y.k == 6) = u := ⟨_, rfl⟩
        have hu2 : (f.k == 6) = u1 := by rw [← hu1, Bool.eq_iff_iff]; simp [hkk]
        clear yes no HY ht hkk
        gi_wp2
        refine wpIn_region_round (by kernel_rfl) (by kernel_rfl) (by kernel_rfl) ?_
        repeat (gi_big_quiet_step (fail))
        refine wpQuietIn_nil ?_
        intro _ hw'
        obtain ⟨nq, hw''⟩ := hw'
        subst hw''
        gi_wp2
        cases u1
        all_goals (refine wpIn_region_round (by kernel_rfl) (by kernel_rfl) (by kernel_rfl) ?_)
        all_goals (repeat (gi_big_quiet_step (fail)))
        all_goals (refine wpQuietIn_nil ?_)
        all_goals (intro w2 hw2)
        all_goals (obtain ⟨n2, hw3⟩ := hw2)
        all_goals (subst hw3)
        all_goals gi_wp2
        all_goals exact HYES.out _ _
      · have HNO : Hid _ := no (fun h => hkk h.2)
        obtain ⟨u1, hu1⟩ : ∃ u, (y.k == 6) = u := ⟨_, rfl⟩
        have hu2 : (f.k == 6) = !u1 := by
          rw [← hu1, Bool.eq_iff_iff]
          simp only [Bool.not_eq_true', beq_eq_false_iff_ne, beq_iff_eq]
          exact ⟨fun h1 h2 => hkk ⟨fun _ => h1, fun _ => h2⟩, fun h1 => Classical.byContradiction fun h2 => hkk ⟨fun h => absurd h h1, fun h => absurd h h2⟩⟩
        clear yes no ht hkk
        gi_wp2
        refine wpIn_region_round (by kernel_rfl) (by kernel_rfl) (by kernel_rfl) ?_
        repeat (gi_big_quiet_step (fail))
        refine wpQuietIn_nil ?_
        intro _ hw'
        obtain ⟨nq, hw''⟩ := hw'
        subst hw''
        gi_wp2
        cases u1
        all_goals (simp only [Bool.not_false, Bool.not_true] at hu2)
        all_goals (refine wpIn_region_round (by kernel_rfl) (by kernel_rfl) (by kernel_rfl) ?_)
        all_goals (repeat (gi_big_quiet_step (fail)))
        all_goals (refine wpQuietIn_nil ?_)
        all_goals (intro w2 hw2)
        all_goals (obtain ⟨n2, hw3⟩ := hw2)
        all_goals (subst hw3)
        all_goals gi_wp2
        all_goals exact HNO.out _
    · have t1 := str_not ht
      have HNO : Hid _ := no (fun h => ht h.1)
      clear yes no ht
      gi_wp2
      refine wpIn_region_round (by kernel_rfl) (by kernel_rfl) (by kernel_rfl) ?_
      repeat (gi_big_quiet_step (fail))
      refine wpQuietIn_nil ?_
      intro _ hw'
      obtain ⟨nq, hw''⟩ := hw'
      subst hw''
      gi_wp2
      refine wpIn_region_round (by kernel_rfl) (by kernel_rfl) (by kernel_rfl) ?_
      repeat (gi_big_quiet_step (fail))
      refine wpQuietIn_nil ?_
      intro w2 hw2
      obtain ⟨n2, hw3⟩ := hw2
      subst hw3
      gi_wp2
      exact HNO.out _
  · rintro D0 W hD ⟨hW, hall⟩ hK
    have rW := Boxed.kept_of hrC hW (by omega)
    have rc := rW.cell
    have rf := rW.frozen
    have hK' : (W.setCell ⟨w.heap.size, 0, none⟩ (.bool true)).heap[D0]? = some (.deferred (some [])) := (KeepsOthers.setCell _ _ _).same D0 _ hK rfl
    have hc5 := cell_kept (rW.set (.bool true)).cell (grownBy_putObj' _ D0 (.deferred none)) (fun r e => by cases e; exact ⟨_, hK', rfl⟩)
    have hBW : Below w.heap.size w W := hwC.trans (hW.mono (by omega))
    gi_wp2
    refine ⟨by simp, .inl ⟨_, _, rfl, run_takeDeferred hK', ?_⟩⟩
    refine ⟨.bool true, ?_, true, rfl, ⟨fun _ => alike_first.2 hall, fun _ => rfl⟩, (hBW.setCell (p := ⟨w.heap.size, 0, none⟩) (Nat.le_refl _) _).trans (belowK_b (w := w) (Nat.le_refl _) _ D0 _ _ (by omega) hK' rfl rfl)⟩
    simp [results, Tryz.f51, go_sem, hc5]
  · rintro D0 c W hD ⟨rfl, h0, h1, h2⟩ hK
    have hc5 := cell_kept h1.cell (grownBy_putObj' _ D0 (.deferred none)) (fun r e => by cases e; exact ⟨_, hK, rfl⟩)
    gi_wp2
    refine ⟨by simp, .inl ⟨_, _, rfl, run_takeDeferred hK, ?_⟩⟩
    refine ⟨.bool false, ?_, false, rfl, ⟨fun h => (by cases h), fun h => absurd h h0⟩, h2.trans (belowK_b (w := w) (Nat.le_refl _) _ D0 _ _ (by omega) hK rfl rfl)⟩
    simp [results, Tryz.f51, go_sem, hc5]
end Go.Proofs.YtfnfegcjgnbgbaaGreatDoor
namespace Go.Proofs.YtfnfegcjgnbgbaaGreatDoor
open Go.RowKit Go.Shelf

/-- The first names, types and kinds. -/
def vs1 (L : List Pt) (k : Nat) : List Value := (L.take k).map fun y => .string y.s
def vs2 (L : List Pt) (k : Nat) : List Value := (L.take k).map fun y => .string y.t
end Go.Proofs.YtfnfegcjgnbgbaaGreatDoor
namespace Go.Proofs.YtfnfegcjgnbgbaaGreatDoor
open Go.RowKit Go.Shelf
attribute [local go_sem] Oper.semAt_some

set_option maxHeartbeats 2000000 in
/-- A range over all nodes, each once, in their order. -/
theorem nodesP_foldJ {n : Nat} {g : Operand} {ps : Array Tmp} {assign body : Code} {Q : Exit → Act → World → Prop} {a : Act} {w : World} (Bp b0 o0 : Nat) (x : Pt) (T : Nat → Prop) (J : List (Nat × Pt) → World → Prop) (Jx : Code → World → Prop)
    (hg : a.eval g = .func (.func 77) #[] #[.pointer (some ⟨Bp, 0, none⟩)]) (hps : ps.size = 2) (hBp : w.cell? ⟨Bp, 0, none⟩ = some (.pointer (some ⟨b0, o0, none⟩))) (hbd : ∀ L W, J L W → ∀ v ∈ L, v.1 ≤ 1048576)
    (hT : ∀ k, T k → k < w.heap.size) (hb0 : T b0) (hN : NodeP w b0 o0 x) (hX : PT T w x)
    (hJ : ∀ pre W A, Ag w.heap.size W A → J pre W → J pre A) (hJd : ∀ pre W, J pre W → J pre W.drew) (h0 : ∀ W, Below w.heap.size w W → J [] W) (hJx : ∀ c W A, Ag w.heap.size W A → Jx c W → Jx c A)
    (a₁ : Nat → Nat → Nat → Act)
    (hassign : ∀ (l d b o : Nat) (W : World) (K : Act → World → Prop), K (a₁ d b o) W →
      assign.wpIn (Fence.wide.inRound l) (n - 1 - 1) Tryz.prog (Exit.then K (fun _ _ _ => False)) { tmps := (ps.zip #[.int .i64 d, .pointer (some ⟨b, o, none⟩)]).foldl (fun t (p, v) => t.setIfInBounds p v) a.tmps, defers := [] } W)
    (hbody : ∀ (l d b o : Nat) (y : Pt) (pre : List (Nat × Pt)) (W : World), T b → NodeP W b o y → PT T W y → J pre W → w.heap.size + 4 ≤ W.heap.size → (∃ post, pre ++ (d, y) :: post = visP 1 x) →
      body.wpIn (Fence.wide.inRound l) (n - 1 - 1) Tryz.prog (foldPost w.heap.size (fun k => T k ∨ k = w.heap.size + 2 ∨ k = w.heap.size + 3) (J (pre ++ [(d, y)])) Jx W) (a₁ d b o) W)
    (hdone : ∀ (D : Nat) (W : World), w.heap.size ≤ D → J (visP 1 x) W → W.heap[D]? = some (.deferred (some [])) → Q .normal { a with defers := { target := .collected D, args := #[] } :: a.defers } W)
    (hstop : ∀ (D : Nat) (c : Code) (W : World), w.heap.size ≤ D → Jx c W → W.heap[D]? = some (.deferred (some [])) → c.wpIn Fence.wide n Tryz.prog Q { a with defers := { target := .collected D, args := #[] } :: a.defers } W) :
    (Code.rangeFunc g ps assign body).wpIn Fence.wide n Tryz.prog Q a w := by
  obtain ⟨T', hT'⟩ : ∃ T' : Nat → Prop, T' = fun k => T k ∨ k = w.heap.size + 2 ∨ k = w.heap.size + 3 := ⟨_, rfl⟩
  have tT : ∀ k, T k → T' k := fun k hk => by rw [hT']; exact .inl hk
  refine wpIn_range (α := VisP) hg (enters_of Tryz.func77 (by kernel_rfl) rfl) (encs := fun v => #[.int .i64 v.d, .pointer (some ⟨v.b, v.o, none⟩)]) (fun _ => hps.symm)
    (fun v W => T v.b ∧ NodeP W v.b v.o v.y ∧ PT T W v.y ∧ J v.pre W ∧ w.heap.size + 4 ≤ W.heap.size ∧ ∃ post, v.pre ++ (v.d, v.y) :: post = visP 1 x)
    (fun v W W' => Kp T' W W' ∧ J (v.pre ++ [(v.d, v.y)]) W' ∧ w.heap.size + 4 ≤ W'.heap.size)
    (fun c _ _ W' => Jx c W') (J (visP 1 x)) Jx ?_ ?_ ?_ (fun W A h => hJ _ W A h) hJx (fun v => a₁ v.d v.b v.o) (fun l v W K hK => hassign l v.d v.b v.o W K hK) ?_ ?_ hdone hstop
  · rintro v W A hag ⟨h1, h2, h3, h4, h5, h6⟩
    exact ⟨h1, h2.ag hag, h3.of fun p v h => (hag.cell p).trans h, hJ _ _ _ hag h4, by rw [hag.size]; exact h5, h6⟩
  · rintro v W A A' W' hag hag' ⟨h1, h2, h3⟩
    exact ⟨Kp.ag hag hag' h1, hJ _ _ _ hag' h2, by rw [hag'.size]; exact h3⟩
  · rintro c v W A A' W' hag hag' h
    exact hJx _ _ _ hag' h
  · rintro l v W ⟨h1, h2, h3, h4, h5, h6⟩ _
    refine wpIn_mono (hbody l v.d v.b v.o v.y v.pre W h1 h2 h3 h4 h5 h6) ?_
    rintro e a3 W3 hp
    cases e with
    | normal => exact ⟨hp.1, by rw [hT']; exact hp.2.1, hp.2.2, Nat.le_trans h5 hp.1.size⟩
    | ret => exact hp
    | exit id => exact hp
    | goto t => exact hp
    | panic ch => exact hp.elim
    | outgrown => exact hp.elim
  · intro l Rec RecX W1 hB1 hs1 hrec1 hrec hrecx hY
    have hkT : Kp T w W1 := Kp.of_below hB1 hT
    have hlt : Bp < w.heap.size := by
      obtain ⟨ob, ho, -⟩ := cells_of_cell hBp
      exact (Array.getElem?_eq_some_iff.1 ho).1
    refine (nodesP1_in (n - 1) l Bp b0 o0 W1 (fun e W' => (e = .returned (.bool true) ∧ J (visP 1 x) W' ∧ Rec W') ∨ (e = .returned (.bool false) ∧ ∃ c, Jx c W' ∧ RecX c W')) ((hB1.cell (p := ⟨Bp, 0, none⟩) hlt).trans hBp) ?_).mono ?_
    · intro W2 by2 bd2 hB2 hs2
      have key := downP_any (ι := Nat × Pt × List (Nat × Pt)) l W1.heap.size (W1.heap.size + 1) (fun v => v.2.1.n) (fun v i => (v.1 + 1, v.2.1.c i, v.2.2 ++ (v.1, v.2.1) :: catN (fun i => visP (v.1 + 1) (v.2.1.c i)) i)) (fun v => v.2.1.size)
        (fun v b o d W => ((v.1 : Nat) : Int) = d ∧ T b ∧ NodeP W b o v.2.1 ∧ PT T W v.2.1 ∧ J v.2.2 W ∧ Rec W ∧ Boxed W W1.heap.size 110 (.func (.yield l) #[] #[]) ∧ Boxed W (W1.heap.size + 1) 110 (downPV W1.heap.size (W1.heap.size + 1)) ∧ w.heap.size + 4 ≤ W.heap.size ∧ (∃ post, v.2.2 ++ (visP v.1 v.2.1 ++ post) = visP 1 x))
        (fun v b o d W a cap i Wi => a = v.2.1.a ∧ cap = v.2.1.cap ∧ ((v.1 : Nat) : Int) = d ∧ T b ∧ NodeP Wi b o v.2.1 ∧ PT T Wi v.2.1 ∧ J (v.2.2 ++ (v.1, v.2.1) :: catN (fun i => visP (v.1 + 1) (v.2.1.c i)) i) Wi ∧ Rec Wi ∧
          Boxed Wi W1.heap.size 110 (.func (.yield l) #[] #[]) ∧ Boxed Wi (W1.heap.size + 1) 110 (downPV W1.heap.size (W1.heap.size + 1)) ∧ w.heap.size + 4 ≤ Wi.heap.size ∧ Kp T' W Wi ∧ (∃ post, v.2.2 ++ (visP v.1 v.2.1 ++ post) = visP 1 x))
        (fun v b o d W W' => J (v.2.2 ++ visP v.1 v.2.1) W' ∧ Rec W' ∧ Kp T' W W' ∧ w.heap.size + 4 ≤ W'.heap.size)
        (fun v b o d W W' => ∃ c, Jx c W' ∧ RecX c W')
        (fun v i hi => Pt.size_part v.2.1 i hi) (fun v b o d W h => h.2.2.2.2.2.2.1.cell) ?_ ?_ ?_ ?_ (x.size + 1) (1, x, []) (by simp) (n - 1 - 1) b0 o0 1 W2 ?_
      · refine key.mono ?_
        rintro e W' (⟨rfl, h1, h2, -⟩ | ⟨rfl, h⟩)
        · exact ⟨true, rfl, .inl ⟨rfl, by simpa using h1, h2⟩⟩
        · exact ⟨false, rfl, .inr ⟨rfl, h⟩⟩
      · rintro ⟨d', y, pre⟩ b o d W ⟨rfl, h1, h2, h3, h4, h5, h6, h7, h8, hN⟩
        have hN' := hN
        obtain ⟨post, hpo⟩ := hN
        refine YieldAt.mono (hY 0 ⟨d', b, o, y, pre⟩ W ⟨h1, h2, h3, h4, h8, by rw [visP_eq d' y] at hpo; exact ⟨_, by simpa using hpo⟩⟩ h5) ?_
        rintro e W' (⟨rfl, ⟨k1, k2, k3⟩, k4, -⟩ | ⟨rfl, c, k1, k2⟩)
        · have kT : Kp T W W' := k1.mono tT
          exact .inl ⟨rfl, y.a, y.cap, rfl, rfl, rfl, h1, h2.kept kT h1, h3.kept kT, by simpa [catN] using k2, k4, k1.boxed (by rw [hT']; exact .inr (.inl (by omega))) h6, k1.boxed (by rw [hT']; exact .inr (.inr (by omega))) h7, k3, k1, hN'⟩
        · exact .inr ⟨rfl, c, k1, k2⟩
      · rintro ⟨d', y, pre⟩ b o d W a cap i Wi ⟨rfl, rfl, rfl, h1, h2, h3, h4, h5, h6, h7, h8, h9, hN⟩
        have := ((pT_eq _ _ _).1 h3)
        simp only at this
        exact ⟨by simp only; omega, h2.2.2.2.2.2, h7.cell⟩
      · rintro ⟨d', y, pre⟩ b o d W a cap i Wi ⟨rfl, rfl, rfl, h1, h2, h3, h4, h5, h6, h7, h8, h9, hN⟩ hi
        have hd : d' ≤ 1048576 := hbd _ _ h4 (d', y) (by simp)
        obtain ⟨b', o', ea, hb', hn', hx'⟩ := ((pT_eq _ _ _).1 h3).2.2 i hi
        have hw1 : IntKind.i64.wrap ((d' : Int) + 1) = ((d' + 1 : Nat) : Int) := by
          simp [IntKind.wrap, IntKind.bits, IntKind.signed]
          omega
        rw [hw1]
        refine ⟨b', o', ea, ⟨rfl, hb', hn', PT.of (W := Wi) (W' := Wi.drew) (fun _ _ h => h) hx', hJd _ _ h4, hrec Wi Wi.drew ⟨Nat.le_refl _, fun _ _ _ h _ => h⟩ h5, h6, h7, h8, ?_⟩, ?_, fun W' h => h⟩
        · obtain ⟨post, hpo⟩ := hN
          obtain ⟨r, hr⟩ := catN_split (fun i => visP (d' + 1) (y.c i)) hi
          refine ⟨r ++ post, ?_⟩
          rw [visP_eq d' y] at hpo
          simp only at hpo ⊢
          rw [← hpo, hr]
          simp
        rintro W' ⟨k1, k2, k3, k4⟩
        have kk : Kp T' Wi W' := k3
        have kT : Kp T Wi W' := kk.mono tT
        exact ⟨rfl, rfl, rfl, h1, h2.kept kT h1, h3.kept kT, by simpa [catN] using k1, k2, kk.boxed (by rw [hT']; exact .inr (.inl (by omega))) h6, kk.boxed (by rw [hT']; exact .inr (.inr (by omega))) h7, k4, h9.trans kk, hN⟩
      · rintro ⟨d', y, pre⟩ b o d W a cap Wi ⟨rfl, rfl, rfl, h1, h2, h3, h4, h5, h6, h7, h8, h9, hN⟩
        exact ⟨by rw [visP_eq]; exact h4, h5, h9, h8⟩
      · have hB : Below w.heap.size w W2 := hB1.trans (hB2.mono (by omega))
        have kT : Kp T w W2 := Kp.of_below hB hT
        refine ⟨rfl, hb0, hN.kept kT hb0, hX.kept kT, h0 W2 hB, hrec W1 W2 ⟨by omega, fun k o hk ho _ => ?_⟩ hrec1, by2, bd2, by omega, ⟨[], by simp⟩⟩
        exact (hB2.block k (Array.getElem?_eq_some_iff.1 ho).1).trans ho
    · rintro e W' ⟨hv, r, (⟨-, h1, h2⟩ | ⟨-, h⟩)⟩
      · exact ⟨hv, .inl ⟨h1, h2⟩⟩
      · exact ⟨hv, .inr h⟩
end Go.Proofs.YtfnfegcjgnbgbaaGreatDoor
namespace Go.Proofs.YtfnfegcjgnbgbaaGreatDoor
open Go.RowKit Go.Shelf
attribute [local go_sem] Oper.semAt_some

set_option maxRecDepth 100000 in
set_option maxHeartbeats 4000000 in
theorem checkPF_in (n : Nat) (x : Pt) (w : World) (hX : IsP w x) :
    CallsIn Fence.wide n Tryz.prog 50 #[x.val] w fun e w' => e = .returned (.int .i64 (chkP x)) ∧ Below w.heap.size w w' := by
  have hdd : ∀ k : Nat, (Fence.wide.depth.isSome = true → 1 ≤ k) := fun k h => by cases h
  refine callsIn_of_wp_marks Tryz.func50 rfl trivial ?_ rfl
  simp only [Tryz.ntmps50, List.size_toArray, List.length_cons, List.length_nil, Nat.reduceAdd, Nat.reduceSub, Array.replicate_succ, Array.replicate_zero, List.push_toArray, List.append_toArray, List.nil_append, List.cons_append]
  gi_wp2_with (refine ⟨trivial, hdd _, ?_⟩; gi_at_call 52; refine (nodesP_in _ _ _).mono ?_; rintro e w' ⟨rfl, rfl⟩)
  obtain ⟨A, hA⟩ : ∃ A, (((((w.alloc (.cells x.cells 24)).alloc (.cells #[.int .i64 0] 32)).alloc (.cells #[.int .i64 0] 3)).alloc (.cells #[.int .i64 0] 32)).alloc (.cells #[.pointer (some ⟨w.heap.size, 0, none⟩)] 81)) = A := ⟨_, rfl⟩
  have hsz : A.heap.size = w.heap.size + 5 := by rw [← hA]; simp
  have hB : Below w.heap.size w A := by rw [← hA]; exact (((((Below.refl _ w).alloc (Nat.le_refl _) _).alloc (by simp) _).alloc (by first | (simp; done) | (simp; omega)) _).alloc (by first | (simp; done) | (simp; omega)) _).alloc (by first | (simp; done) | (simp; omega)) _
  have hnode : NodeP A w.heap.size 0 x := by
    rw [← hA]
    exact (nodeP_new w 24 x).later (((((Below.refl _ _).alloc (Nat.le_refl _) _).alloc (by simp) _).alloc (by first | (simp; done) | (simp; omega)) _).alloc (by first | (simp; done) | (simp; omega)) _)
  have hb1 : Boxed A (w.heap.size + 1) 32 (.int .i64 0) := by
    have := (((Boxed.new (w.alloc (.cells x.cells 24)) 32 (.int .i64 0)).alloc (.cells #[.int .i64 0] 3)).alloc (.cells #[.int .i64 0] 32)).alloc (.cells #[.pointer (some ⟨w.heap.size, 0, none⟩)] 81)
    rw [World.size_alloc, hA] at this
    exact this
  have hb2 : Boxed A (w.heap.size + 1 + 1) 3 (.int .i64 0) := by
    have := ((Boxed.new ((w.alloc (.cells x.cells 24)).alloc (.cells #[.int .i64 0] 32)) 3 (.int .i64 0)).alloc (.cells #[.int .i64 0] 32)).alloc (.cells #[.pointer (some ⟨w.heap.size, 0, none⟩)] 81)
    rw [World.size_alloc, World.size_alloc, hA] at this
    exact this
  have hb3 : Boxed A (w.heap.size + 1 + 1 + 1) 32 (.int .i64 0) := by
    have := (Boxed.new (((w.alloc (.cells x.cells 24)).alloc (.cells #[.int .i64 0] 32)).alloc (.cells #[.int .i64 0] 3)) 32 (.int .i64 0)).alloc (.cells #[.pointer (some ⟨w.heap.size, 0, none⟩)] 81)
    rw [World.size_alloc, World.size_alloc, World.size_alloc, hA] at this
    exact this
  have hbp : Boxed A (w.heap.size + 1 + 1 + 1 + 1) 81 (.pointer (some ⟨w.heap.size, 0, none⟩)) := by
    have := Boxed.new ((((w.alloc (.cells x.cells 24)).alloc (.cells #[.int .i64 0] 32)).alloc (.cells #[.int .i64 0] 3)).alloc (.cells #[.int .i64 0] 32)) 81 (.pointer (some ⟨w.heap.size, 0, none⟩))
    rw [World.size_alloc, World.size_alloc, World.size_alloc, World.size_alloc, hA] at this
    exact this
  rw [hA]
  refine nodesP_foldJ (w.heap.size + 1 + 1 + 1 + 1) w.heap.size 0 x (fun k => k < w.heap.size + 1)
    (fun pre W => Boxed W (w.heap.size + 1) 32 (.int .i64 0) ∧ Boxed W (w.heap.size + 1 + 1) 3 (.int .i64 (pre.length : Int)) ∧ (∃ sd, Boxed W (w.heap.size + 1 + 1 + 1) 32 (.int .i64 sd) ∧ SaidP pre sd) ∧ pre.length ≤ 64 ∧ (∀ v ∈ pre, v.1 ≤ 8) ∧ Below w.heap.size w W)
    (fun c W => c = .ret ∧ (64 < x.size ∨ 8 < x.deep) ∧ Boxed W (w.heap.size + 1) 32 (.int .i64 2) ∧ Below w.heap.size w W)
    rfl rfl hbp.cell (fun L W h v hv => Nat.le_trans (h.2.2.2.2.1 v hv) (by decide)) (fun k hk => by omega) (by omega) hnode (PIn.xt (n := w.heap.size) (fun k hk => by omega) (hX.inn.below hB)) ?_ ?_ ?_ ?_
    (fun d b o => { tmps := #[x.val, .pointer (some ⟨w.heap.size, 0, none⟩), .pointer (some ⟨w.heap.size + 1, 0, none⟩), .pointer (some ⟨w.heap.size + 1 + 1, 0, none⟩), .pointer (some ⟨w.heap.size + 1 + 1 + 1, 0, none⟩), .int .i64 d, .pointer (some ⟨b, o, none⟩), .func (.func 77) #[] #[.pointer (some ⟨w.heap.size + 1 + 1 + 1 + 1, 0, none⟩)], .int .i64 d, .pointer (some ⟨b, o, none⟩), undef, undef, undef, undef, undef, undef, undef, undef, undef, undef, undef, undef], defers := [] }) ?_ ?_ ?_ ?_
  · rintro pre W B hag ⟨h1, h2, ⟨sd, h3, h4⟩, h5, h7, h6⟩
    exact ⟨hag.boxed h1, hag.boxed h2, ⟨sd, hag.boxed h3, h4⟩, h5, h7, hag.below (by omega) h6⟩
  · exact fun pre W h => ⟨h.1, h.2.1, h.2.2.1, h.2.2.2.1, h.2.2.2.2.1, h.2.2.2.2.2.drew⟩
  · exact fun W h => ⟨Boxed.kept_of hb1 h (by omega), Boxed.kept_of hb2 h (by omega), ⟨0, Boxed.kept_of hb3 h (by omega), .inl ⟨rfl, by simp⟩⟩, by simp, by simp, hB.trans (h.mono (by omega))⟩
  · rintro c W B hag ⟨h1, h2, h3, h4⟩
    exact ⟨h1, h2, hag.boxed h3, hag.below (by omega) h4⟩
  · intro l d b o W K hK
    gi_wp2
    first | exact hK | simpa using hK
  · rintro l d b o y pre W hb hn hx ⟨h1, h2, ⟨sd, h3, h4⟩, h5, h7, h6⟩ hs ⟨post, hpo⟩
    have hlt : pre.length + 1 ≤ x.size := by
      have := congrArg List.length hpo
      rw [length_visP, List.length_append, List.length_cons] at this
      omega
    have hdd2 : d ≤ x.deep := by
      have hm : (d, y) ∈ visP 1 x := by rw [← hpo]; simp
      have := (vis_deep x 1 _ hm).1
      have := y.deep_pos
      simp only at *
      omega
    clear hpo
    have c2 := h2.cell
    have f2 := h2.frozen
    obtain ⟨m, hm⟩ : ∃ m, m = pre.length := ⟨_, rfl⟩
    have HM : Hid (m = pre.length) := hm
    rw [← hm] at c2 h2 h5 hlt
    have e1 := h1.other (show w.heap.size + 1 ≠ w.heap.size + 1 + 1 by omega) (.int .i64 ((m : Int) + 1))
    have e2 := h2.set (.int .i64 ((m : Int) + 1))
    have e3 := h3.other (show w.heap.size + 1 + 1 + 1 ≠ w.heap.size + 1 + 1 by omega) (.int .i64 ((m : Int) + 1))
    have kp1 : Kp (fun k => k < w.heap.size + 1 ∨ k = A.heap.size + 2 ∨ k = A.heap.size + 3) W (W.setCell ⟨w.heap.size + 1 + 1, 0, none⟩ (.int .i64 ((m : Int) + 1))) := Kp.set _ (by simp; omega)
    have n1 : NodeP (W.setCell ⟨w.heap.size + 1 + 1, 0, none⟩ (.int .i64 ((m : Int) + 1))) b o y := hn.kept kp1 (.inl hb)
    have x1 : IsP (W.setCell ⟨w.heap.size + 1 + 1, 0, none⟩ (.int .i64 ((m : Int) + 1))) y := (hx.kept (kp1.mono fun k hk => .inl hk)).is
    have b1 : Below w.heap.size w (W.setCell ⟨w.heap.size + 1 + 1, 0, none⟩ (.int .i64 ((m : Int) + 1))) := h6.setCell (p := ⟨w.heap.size + 1 + 1, 0, none⟩) (by simp; omega) _
    have k1 : KeepsOthers W (W.setCell ⟨w.heap.size + 1 + 1, 0, none⟩ (.int .i64 ((m : Int) + 1))) := KeepsOthers.setCell _ _ _
    have g1 := e1.cell
    have g2 := e2.cell
    have i1 := e1.frozen
    by_cases hm64 : 64 < m + 1
    · have hm' : (64 : Int) < (m : Int) + 1 := by omega
      clear hm
      gi_wp2
      exact ⟨(k1.trans (KeepsOthers.setCell _ _ _)).from _, rfl, .inl (by omega), e1.set _, b1.setCell (p := ⟨w.heap.size + 1, 0, none⟩) (by simp) _⟩
    · have hm' : ¬ (64 : Int) < (m : Int) + 1 := by omega
      by_cases hd8 : 8 < d
      · clear hm
        gi_wp2
        exact ⟨(k1.trans (KeepsOthers.setCell _ _ _)).from _, rfl, .inr (by omega), e1.set _, b1.setCell (p := ⟨w.heap.size + 1, 0, none⟩) (by simp) _⟩
      · have hr := rightP_any y b o _ n1 x1
        have hl1 : (pre ++ [(d, y)]).length = m + 1 := by simp [hm]
        have h8 : ∀ v ∈ pre ++ [(d, y)], v.1 ≤ 8 := fun v hv => by
          rcases List.mem_append.1 hv with hv | hv
          · exact h7 v hv
          · rw [List.mem_singleton] at hv; rw [hv]; show d ≤ 8; omega
        obtain ⟨r, hrr⟩ : ∃ r, r = rightN y := ⟨_, rfl⟩
        rw [← hrr] at hr
        have HRR : Hid (r = rightN y) := hrr
        clear hm hrr
        gi_wp2_with (refine ⟨trivial, hdd _, ?_⟩; gi_at_call 74; refine (CallsIn.inRound l (callsIn_wide.2 hr)).mono ?_; rintro e w2 ⟨rfl, hB2⟩; have q3 := Boxed.kept_of e3 hB2 (Boxed.lt e3); have gq3 := q3.cell; have fq3 := q3.frozen; cases r)
        · have hno : ¬ rightN y = true := fun h => by rw [← HRR.out] at h; cases h
          refine ⟨((k1.trans ⟨hB2.size, fun k o ho _ => (hB2.block k (Array.getElem?_eq_some_iff.1 ho).1).trans ho⟩).trans (KeepsOthers.setCell _ _ _)).from _, ?_, ?_, ?_, ⟨1, q3.set _, SaidP.no hno⟩, by rw [hl1]; omega, h8, ?_⟩
          · exact (kp1.trans (fun k o _ _ ho => (hB2.block k (Array.getElem?_eq_some_iff.1 ho).1).trans ho)).trans (Kp.set _ (by simp; omega))
          · exact (Boxed.kept_of e1 hB2 (Boxed.lt e1)).other (by omega) _
          · rw [hl1]; exact (Boxed.kept_of e2 hB2 (Boxed.lt e2)).other (by omega) _
          · exact (b1.trans (hB2.mono b1.size)).setCell (p := ⟨w.heap.size + 1 + 1 + 1, 0, none⟩) (by simp; omega) _
        · have hyes : rightN y = true := HRR.out.symm
          refine ⟨(k1.trans ⟨hB2.size, fun k o ho _ => (hB2.block k (Array.getElem?_eq_some_iff.1 ho).1).trans ho⟩).from _, ?_, ?_, ?_, ⟨sd, q3, h4.yes hyes⟩, by rw [hl1]; omega, h8, ?_⟩
          · exact kp1.trans (fun k o _ _ ho => (hB2.block k (Array.getElem?_eq_some_iff.1 ho).1).trans ho)
          · exact Boxed.kept_of e1 hB2 (Boxed.lt e1)
          · rw [hl1]; exact Boxed.kept_of e2 hB2 (Boxed.lt e2)
          · exact b1.trans (hB2.mono b1.size)
  · rintro D W hD ⟨h1, h2, ⟨sd, h3, h4⟩, h5, h7, h6⟩ hK
    rw [length_visP] at h5
    have hdeep : x.deep ≤ 8 := by
      obtain ⟨v, hv, hd⟩ := vis_deepest x 1
      have := h7 v hv
      omega
    have hsd : sd = chkP x := by
      unfold chkP
      rw [if_neg (by omega)]
      rcases h4 with ⟨e, h⟩ | ⟨e, h⟩
      · rw [if_pos ((right_vis x 1).2 h)]; exact e
      · rw [if_neg (fun t => h ((right_vis x 1).1 t))]; exact e
    rw [hsd] at h3
    have c1 := h1.cell
    have f1 := h1.frozen
    have c3 := h3.cell
    have hK' : (W.setCell ⟨w.heap.size + 1, 0, none⟩ (.int .i64 (chkP x))).heap[D]? = some (.deferred (some [])) := (KeepsOthers.setCell _ _ _).same D _ hK rfl
    have hc5 := cell_kept (h1.set (.int .i64 (chkP x))).cell (grownBy_putObj' _ D (.deferred none)) (fun r e => by cases e; exact ⟨_, hK', rfl⟩)
    gi_wp2
    refine ⟨by simp, .inl ⟨_, _, rfl, run_takeDeferred hK', ?_⟩⟩
    refine ⟨.int .i64 (chkP x), ?_, rfl, (h6.setCell (p := ⟨w.heap.size + 1, 0, none⟩) (by simp) _).trans (belowK_b (w := w) (Nat.le_refl _) _ D _ _ (by omega) hK' rfl rfl)⟩
    simp [results, Tryz.f50, go_sem, hc5]
  · rintro D c W hD ⟨rfl, h0, h1, h2⟩ hK
    have hc5 := cell_kept h1.cell (grownBy_putObj' _ D (.deferred none)) (fun r e => by cases e; exact ⟨_, hK, rfl⟩)
    have h00 : chkP x = 2 := by unfold chkP; rw [if_pos h0]
    gi_wp2
    refine ⟨by simp, .inl ⟨_, _, rfl, run_takeDeferred hK, ?_⟩⟩
    refine ⟨.int .i64 2, ?_, by rw [h00], h2.trans (belowK_b (w := w) (Nat.le_refl _) _ D _ _ (by omega) hK rfl rfl)⟩
    simp [results, Tryz.f50, go_sem, hc5]
theorem checkPF_any (x : Pt) (w : World) (hX : IsP w x) : Calls Tryz.prog 50 #[x.val] w fun e w' => e = .returned (.int .i64 (chkP x)) ∧ Below w.heap.size w w' :=
  (callsIn_wide (n := 3)).1 (checkPF_in 3 x w hX)
end Go.Proofs.YtfnfegcjgnbgbaaGreatDoor
