/-
  pat.firsts: the nodes where Vars stand first, and each Var's place among them.
-/
import Derived.Test.YtjclelmbpmlioaaPatNamed
import Derived.Test.YtjclelmbpmlioaaPatMadeMath
import Derived.Test.YtjclelmbpmlioaaVarMap
import Derived.Test.YtjclelmbpmlioaaRoundQuiet
import Derived.Test.YtjclelmbpmlioaaRoundReads
import Derived.Test.YtjclelmbpmlioaaBulk
import Derived.Sort.CutIn
import Derived.Maps.AppendAt
namespace Go.Proofs.Ytjclelmbpmlioaa
open Go.RowKit Go.Shelf Go.Maps Go.WideMaps
attribute [local go_sem] Oper.semAt_some

/-- Some addresses as pointers. -/
def ptrs (A : List (Nat × Nat)) : List Value := A.map fun p => .pointer (some ⟨p.1, p.2, none⟩)
theorem infoPP : (Try.prog.info? 55).map (fun i => (i.zero, i.size, i.bytes)) = some (some (.pointer none), 1, 8) := by kernel_rfl
theorem ptrs_one (A : List (Nat × Nat)) : ∀ u ∈ ptrs A, u.oneCell' = true := by
  intro u hu
  obtain ⟨p, _, rfl⟩ := List.mem_map.1 hu
  rfl
/-- One pointer more behind a row that the call owns. -/
theorem push_ptr {w : World} {base : Nat} {v : Value} {A : List (Nat × Nat)} (h : w.ownsRow base 55 1 v A.length (ptrs A)) (hb : base ≤ w.heap.size) (b o : Nat) (hn : A.length ≤ 1048576) :
    ∃ v' w', (Builtin.append_ #[83, 83] 83 #[v, .slice (some ⟨w.heap.size, 0, none⟩) 1 1]).run Try.prog (w.alloc (.cells #[.pointer (some ⟨b, o, none⟩)] 55)) = .ok v' w' ∧
      w'.ownsRow base 55 1 v' (A ++ [(b, o)]).length (ptrs (A ++ [(b, o)])) ∧ (w.alloc (.cells #[.pointer (some ⟨b, o, none⟩)] 55)).grownBy w' v.ownBlock := by
  obtain ⟨i0, hi, hz0, hz1, hz2⟩ := info_parts infoPP
  obtain ⟨v', w', hrun, hown', hgrow, _⟩ := run_append_own (P := Try.prog) (w := w.alloc (.cells #[.pointer (some ⟨b, o, none⟩)] 55)) base 83 83 55 i0 _ 1 8 Try.underlying83 hi hz0 hz1 hz2 rfl (by decide) v A.length (ptrs A) (h.alloc _) ⟨w.heap.size, 0, none⟩ 1 1 [.pointer (some ⟨b, o, none⟩)] rfl
    (fun j u hu => by
      match j, hu with
      | 0, hu =>
        simp at hu
        subst hu
        exact (Boxed.new w 55 (.pointer (some ⟨b, o, none⟩))).cell) (by simp [Value.oneCell']) (by unfold maxLen; omega) (by omega) (by simp; omega)
  refine ⟨v', w', hrun, ?_, hgrow⟩
  have e1 : ptrs (A ++ [(b, o)]) = ptrs A ++ [.pointer (some ⟨b, o, none⟩)] := by simp [ptrs]
  rw [e1, List.length_append]
  exact hown'
theorem ownRow_ag {B base : Nat} {W A : World} {v : Value} {n : Nat} {xs : List Value} (h : Ag B W A) (ho : W.ownsRow base 55 1 v n xs) : A.ownsRow base 55 1 v n xs := by
  refine ⟨ho.1, ?_⟩
  rcases ho.2 with h1 | ⟨g, cap, cur, e, hg, hc, hr⟩
  · exact .inl h1
  · exact .inr ⟨g, cap, cur, e, hg, (h.cells g _ rfl).2 hc, hr⟩
theorem own_slice {w : World} {base n : Nat} {v : Value} {xs : List Value} (h : w.ownsRow base 55 1 v n xs) : ∃ a cap, v = .slice a n cap := by
  rcases h.2 with ⟨e1, e2⟩ | ⟨g, cap, cur, e, _⟩
  · exact ⟨none, 0, by rw [e1, e2]⟩
  · exact ⟨_, cap, e⟩
/-- The row of the first nodes in memory: each address is that of its node, in w. -/
def FirstAt (w : World) (A : List (Nat × Nat)) (L : List Pt) : Prop := A.length = L.length ∧ ∀ (i : Nat) (p : Nat × Nat) (y : Pt), A[i]? = some p → L[i]? = some y → p.1 < w.heap.size ∧ NodeP w p.1 p.2 y
theorem FirstAt.snoc {w : World} {A : List (Nat × Nat)} {L : List Pt} (h : FirstAt w A L) {b o : Nat} {y : Pt} (hb : b < w.heap.size) (hn : NodeP w b o y) : FirstAt w (A ++ [(b, o)]) (L ++ [y]) := by
  refine ⟨by simp [h.1], fun i p z hp hz => ?_⟩
  by_cases hi : i < A.length
  · rw [List.getElem?_append_left hi] at hp
    rw [List.getElem?_append_left (by rw [← h.1]; exact hi)] at hz
    exact h.2 i p z hp hz
  · have hl := (List.getElem?_eq_some_iff.1 hp).1
    simp only [List.length_append, List.length_singleton] at hl
    have ei : i = A.length := by omega
    subst ei
    rw [List.getElem?_append_right (Nat.le_refl _)] at hp
    rw [h.1, List.getElem?_append_right (Nat.le_refl _)] at hz
    simp at hp hz
    subst hp hz
    exact ⟨hb, hn⟩
theorem uses_ok {x : Pt} (h : POk x) : ∀ y ∈ usesP x, y.s.size ≤ maxLen ∧ y.t.size ≤ maxLen := by
  intro y hy
  obtain ⟨d, hv, _⟩ := mem_uses.1 hy
  have := visP_all (P := fun _ z => POk z) (fun _ z hz i hi => ((pOk_eq z).1 hz).2.2 i hi) x 1 h (d, y) hv
  exact ⟨((pOk_eq y).1 this).1, ((pOk_eq y).1 this).2.1⟩
/-- How far the range has come. -/
def FirJ (w C : World) (s0 : Nat) (pre : List Pt) (W : World) : Prop :=
  ∃ v A D q, Boxed W s0 83 v ∧ W.ownsRow (C.heap.size + 8) 55 1 v A.length (ptrs A) ∧ FirstAt w A (firstL pre) ∧ W.ownsMap Try.prog 9 (plainElem (H := Unit) Try.prog 3) (s0 + 1) q D ∧ q ≤ pre.length ∧ MapsTo (idxF (firstL pre)) D ∧ Boxed W (s0 + 2) 47 (.map (some (s0 + 1))) ∧ Below s0 w W
set_option maxRecDepth 100000 in
set_option maxHeartbeats 8000000 in
theorem firsts_in12 (n : Nat) (x : Pt) (b0 o0 : Nat) (w : World) (hN : NodeP w b0 o0 x) (hX : IsP w x) (hsm : x.size ≤ 1048576) (hok : POk x) :
    CallsIn Fence.wide n Try.prog 50 #[.pointer (some ⟨b0, o0, none⟩)] w fun e w' => ∃ a m cap A D q M, e = .returned (.tuple #[.slice a m cap, .map (some M)]) ∧ w.heap.size ≤ M ∧ w'.ownsRow w.heap.size 55 1 (.slice a m cap) A.length (ptrs A) ∧ FirstAt w A (firstL (usesP x)) ∧
      w'.ownsMap Try.prog 9 (plainElem (H := Unit) Try.prog 3) M q D ∧ MapsTo (idxF (firstL (usesP x))) D ∧ Below w.heap.size w w' := by
  have hdd : ∀ k : Nat, (Fence.wide.depth.isSome = true → 1 ≤ k) := fun k h => by cases h
  have hmm := @run_makeMap Try.prog
  refine callsIn_of_wp_marks Try.func50 rfl trivial ?_ rfl
  simp only [Try.ntmps50, List.size_toArray, List.length_cons, List.length_nil, Nat.reduceAdd, Nat.reduceSub, Array.replicate_succ, Array.replicate_zero, List.push_toArray, List.append_toArray, List.nil_append, List.cons_append]
  gi_wp2_with (refine ⟨trivial, hdd _, ?_⟩; gi_at_call 25; refine (named_in _ _ _).mono ?_; rintro e w' ⟨rfl, rfl⟩)
  obtain ⟨C, hC⟩ : ∃ C, (((w.alloc (.cells #[.slice none 0 0] 83)).alloc (.map #[] 0)).alloc (.cells #[.map (some (w.heap.size + 1))] 47)).alloc (.cells #[.pointer (some ⟨b0, o0, none⟩)] 55) = C := ⟨_, rfl⟩
  rw [hC]
  have hCs : C.heap.size = w.heap.size + 4 := by rw [← hC]; simp
  have hBC : Below w.heap.size w C := by rw [← hC]; exact ((((Below.refl _ w).alloc (Nat.le_refl _) _).alloc (by simp) _).alloc (by simp; omega) _).alloc (by simp; omega) _
  have hb0 : Boxed C w.heap.size 83 (.slice none 0 0) := by rw [← hC]; exact (((Boxed.new w _ _).alloc _).alloc _).alloc _
  have hm1 : C.ownsMap Try.prog 9 (plainElem (H := Unit) Try.prog 3) (w.heap.size + 1) 0 (.map []) := by
    have := ((World.ownsMap_made (w.alloc (.cells #[.slice none 0 0] 83)) Try.prog 9 (plainElem (H := Unit) Try.prog 3)).alloc (.cells #[.map (some (w.heap.size + 1))] 47)).alloc (.cells #[.pointer (some ⟨b0, o0, none⟩)] 55)
    rw [World.size_alloc, hC] at this
    exact this
  have hb2 : Boxed C (w.heap.size + 2) 47 (.map (some (w.heap.size + 1))) := by
    have := (Boxed.new ((w.alloc (.cells #[.slice none 0 0] 83)).alloc (.map #[] 0)) 47 (.map (some (w.heap.size + 1)))).alloc (.cells #[.pointer (some ⟨b0, o0, none⟩)] 55)
    rw [World.size_alloc, World.size_alloc, hC] at this
    exact this
  have hb3 : Boxed C (w.heap.size + 1 + 1 + 1) 55 (.pointer (some ⟨b0, o0, none⟩)) := by
    have := Boxed.new (((w.alloc (.cells #[.slice none 0 0] 83)).alloc (.map #[] 0)).alloc (.cells #[.map (some (w.heap.size + 1))] 47)) 55 (.pointer (some ⟨b0, o0, none⟩))
    rw [World.size_alloc, World.size_alloc, World.size_alloc, hC] at this
    exact this
  clear hC
  have hlt0 := hN.lt
  refine named_fold (w.heap.size + 1 + 1 + 1) b0 o0 x (fun k => k < w.heap.size) (FirJ w C w.heap.size) (fun _ _ => False)
    rfl rfl hb3.cell hsm (fun k hk => by omega) hlt0 (hN.later hBC) (PIn.xt (n := w.heap.size) (fun k hk => hk) (hX.inn.below hBC)) ?_ ?_ ?_ (fun _ _ _ _ h => h)
    (fun b o => { tmps := #[.pointer (some ⟨b0, o0, none⟩), undef, .slice none 0 0, .map none, .pointer (some ⟨w.heap.size, 0, none⟩), .pointer (some ⟨w.heap.size + 1 + 1, 0, none⟩), .pointer (some ⟨b, o, none⟩), undef, undef, .map (some (w.heap.size + 1)), .pointer (some ⟨b0, o0, none⟩), .func (.func 43) #[] #[.pointer (some ⟨w.heap.size + 1 + 1 + 1, 0, none⟩)], .pointer (some ⟨b, o, none⟩), undef, undef, undef, undef, undef, undef, undef, undef, undef, undef, undef, undef, undef, undef, undef, undef, undef, undef, undef, undef, undef, undef, undef, undef], defers := [] }) ?_ ?_ ?_ (fun _ _ _ _ h _ => h.elim)
  · rintro pre W B hag ⟨v, A, D, q, j1, j2, j3, j4, j5, j6, j7, j8⟩
    exact ⟨v, A, D, q, hag.boxed j1, ownRow_ag hag j2, j3, ownsMap_ag hag (by omega) j4, j5, j6, hag.boxed j7, hag.below (by omega) j8⟩
  · rintro pre W ⟨v, A, D, q, j1, j2, j3, j4, j5, j6, j7, j8⟩
    exact ⟨v, A, D, q, j1, j2, j3, j4, j5, j6, j7, j8.drew⟩
  · intro W hW
    exact ⟨_, [], _, 0, Boxed.kept_of hb0 hW (by omega), World.ownsRow_nil _ _ _ _, ⟨rfl, fun i p y hp => by simp at hp⟩, ownsMap_below hW (by omega) hm1, Nat.le_refl _, mapsTo_none.congr (fun s => rfl), Boxed.kept_of hb2 hW (by omega), hBC.trans (hW.mono (by omega))⟩
  · intro l b o W K hK
    gi_wp2
    first | exact hK | simpa using hK
  · rintro l b o y pre W hb hn hx ⟨v, A, D, q, j1, j2, j3, j4, j5, j6, j7, j8⟩ hs ⟨post, hpo⟩ hk
    have hmem : y ∈ usesP x := by rw [← hpo]; simp
    have hys := (uses_ok hok y hmem).1
    have hlen : pre.length < 1048576 := by
      have h1 := congrArg List.length hpo
      have h2 := length_uses x
      rw [List.length_append, List.length_cons] at h1
      omega
    clear hpo
    have hnw : NodeP w b o y := hn.of fun j _ => (j8.cell (p := ⟨b, o + j, none⟩) hb).symm
    obtain ⟨c, hlook, hcj⟩ := look_all j4 j6 hys
    have hl2 : ∀ nq, (Instr.lookup 47 (.map (some (w.heap.size + 1))) (.string y.s) true).run Try.prog (W.drewN nq) = .ok (.tuple #[.int .i64 c, .bool (idxF (firstL pre) y.s).isSome]) (W.drewN nq) := fun nq => hlook _ j4
    clear hlook
    have c2 := j7.cell
    obtain ⟨d0, d1, d2, d3, d4, d5⟩ := hn
    cases hf : idxF (firstL pre) y.s with
    | some j =>
      rw [hf] at hl2
      simp only [Option.isSome] at hl2
      have hst2 : ∀ nq, foldPost C.heap.size (fun k => k < w.heap.size ∨ (C.heap.size ≤ k ∧ k < C.heap.size + 8)) (FirJ w C w.heap.size (pre ++ [y])) (fun _ _ => False) W .normal ⟨#[], []⟩ (W.drewN nq) := fun nq => by
        refine ⟨⟨Nat.le_refl _, fun _ _ _ h _ => h⟩, fun _ _ _ _ e => e, v, A, D, q, j1, j2, ?_, j4, by rw [List.length_append]; omega, ?_, j7, j8.trans ⟨rfl, rfl, rfl, Nat.le_refl _, fun _ _ => rfl⟩⟩
        · rw [firstL_snoc, addU_some hf]; exact j3
        · rw [firstL_snoc, addU_some hf]; exact j6
      clear hf hcj
      gi_wp2
      refine wpIn_region_round (by kernel_rfl) (by kernel_rfl) (by kernel_rfl) ?_
      repeat (gi_big_quiet_step (fail))
      refine wpQuietIn_nil ?_
      intro _ hw'
      obtain ⟨nq, hw''⟩ := hw'
      subst hw''
      gi_wp2
      exact hst2 _
    | none =>
      rw [hf] at hl2
      simp only [Option.isSome] at hl2
      gi_wp2
      refine wpIn_region_round (by kernel_rfl) (by kernel_rfl) (by kernel_rfl) ?_
      repeat (gi_big_quiet_step (fail))
      refine wpQuietIn_nil ?_
      intro _ hw'
      obtain ⟨nq, hw''⟩ := hw'
      subst hw''
      gi_wp2
      obtain ⟨V, hV⟩ : ∃ V, V = W.drewN nq := ⟨_, rfl⟩
      have eV : V.heap = W.heap := by rw [hV]; rfl
      have BV : Below W.heap.size W V := by rw [hV]; exact ⟨rfl, rfl, rfl, Nat.le_refl _, fun _ _ => rfl⟩
      have g1 : Boxed V w.heap.size 83 v := by rw [hV]; exact j1
      have g2 : V.ownsRow (C.heap.size + 8) 55 1 v A.length (ptrs A) := by rw [hV]; exact j2
      have g4 : V.drew.ownsMap Try.prog 9 (plainElem (H := Unit) Try.prog 3) (w.heap.size + 1) q D := by rw [hV]; exact j4
      have g7 : Boxed V (w.heap.size + 2) 47 (.map (some (w.heap.size + 1))) := by rw [hV]; exact j7
      have gn : NodeP V b o y := by rw [hV]; exact ⟨d0, d1, d2, d3, d4, d5⟩
      rw [← hV]
      obtain ⟨a, cap, rfl⟩ := own_slice g2
      have hkey : keyOf Try.prog 9 (.string y.s) = some (keyS y.s) := keyOf_string_mk Try.underlying9 hys
      have hAl : A.length ≤ 1048576 := by have := length_firstL pre; rw [j3.1]; omega
      obtain ⟨w1, hrunU, hown1, hgrow1⟩ := g4.update str_law Try.underlying47 (by unfold maxLen; omega) (val := .int .i64 (A.length : Nat)) hkey (plainElem_int Try.underlying3 (WalkArith.wf_i64 (by omega)))
      have hmap : ∀ (k' : Nat) (o : Obj), o.isCells = true → V.heap[k']? = some o → w1.heap[k']? = some o := fun k' o ho e => by
        refine (hgrow1.block k' (Array.getElem?_eq_some_iff.1 e).1 fun q => ?_).trans e
        injection q with q
        subst q
        obtain ⟨es, clock, e1, _⟩ := g4
        have e1' : V.heap[w.heap.size + 1]? = some (.map es clock) := e1
        rw [e1'] at e
        cases e
        cases ho
      have k1 : Boxed w1 w.heap.size 83 (.slice a A.length cap) := hmap _ _ rfl g1
      have k2 : w1.ownsRow (C.heap.size + 8) 55 1 (.slice a A.length cap) A.length (ptrs A) := by
        refine ⟨g2.1, ?_⟩
        rcases g2.2 with h1 | ⟨g, cap', cur, e, hg, hc, hr⟩
        · exact .inl h1
        · exact .inr ⟨g, cap', cur, e, hg, hmap _ _ rfl hc, hr⟩
      have hsz1 : W.heap.size ≤ w1.heap.size := by have := hgrow1.size; have h2 : V.drew.heap.size = W.heap.size := by rw [hV]; rfl
                                                   omega
      obtain ⟨v', w2, hrunA, hown2, hgrow2⟩ := push_ptr k2 (by omega) b o hAl
      obtain ⟨a2, cap2, hv2⟩ := own_slice hown2
      have hl2' : (A ++ [(b, o)]).length = A.length + 1 := by simp
      rw [hl2'] at hv2
      subst hv2
      have cq0 := g7.cell
      have cq1 := gn.2.1
      have cq2 := g1.cell
      have kc := k1.cell
      have kf := k1.frozen
      have hrowblk : ∀ g, (Value.slice a A.length cap).ownBlock = some g → C.heap.size + 8 ≤ g ∧ g < w1.heap.size := fun g e => k2.lt g e
      have m1 : Boxed w2 w.heap.size 83 (.slice a A.length cap) := (hgrow2.block _ (by simp; have := k1.lt; omega) (fun e => by have := (hrowblk _ e.symm).1; omega)).trans ((alloc_old k1.lt).trans k1)
      have mc := m1.cell
      have mf := m1.frozen
      have FIN : Hid (foldPost C.heap.size (fun k => k < w.heap.size ∨ (C.heap.size ≤ k ∧ k < C.heap.size + 8)) (FirJ w C w.heap.size (pre ++ [y])) (fun _ _ => False) W .normal ⟨#[], []⟩ (w2.setCell ⟨w.heap.size, 0, none⟩ (.slice a2 (A.length + 1) cap2))) := by
        have hb2 : ∀ k ob, k < C.heap.size + 8 → k ≠ w.heap.size + 1 → W.heap[k]? = some ob → w2.heap[k]? = some ob := fun k ob hk hne e => by
          have hlt : k < w1.heap.size := by have := (Array.getElem?_eq_some_iff.1 e).1; omega
          refine (hgrow2.block k (by simp; omega) (fun q => by have := (hrowblk k q.symm).1; omega)).trans ((alloc_old hlt).trans ((hgrow1.block k (by have := (Array.getElem?_eq_some_iff.1 e).1; rw [show V.drew.heap = W.heap from eV]; exact this) (fun q => by injection q with q; exact hne q)).trans ?_))
          rw [show V.drew.heap = W.heap from eV]; exact e
        have hnc : ∀ k ob, C.heap.size ≤ k → W.heap[k]? = some ob → ob.isCells = false → w2.heap[k]? = some ob := fun k ob hk e hc => by
          have hlt : k < w1.heap.size := by have := (Array.getElem?_eq_some_iff.1 e).1; omega
          have h1 : w1.heap[k]? = some ob := (hgrow1.block k (by have := (Array.getElem?_eq_some_iff.1 e).1; rw [show V.drew.heap = W.heap from eV]; exact this) (fun q => by injection q with q; omega)).trans (by rw [show V.drew.heap = W.heap from eV]; exact e)
          refine (hgrow2.block k (by simp; omega) (fun q => ?_)).trans ((alloc_old hlt).trans h1)
          rcases k2.2 with ⟨e1, _⟩ | ⟨g, cap', cur, e1, _, hcur, _⟩
          · rw [e1] at q; cases q
          · rw [e1] at q
            injection q with q
            have q' : g = k := q.symm
            rw [q'] at hcur
            rw [h1] at hcur
            cases hcur
            cases hc
        refine ⟨⟨by rw [World.size_setCell]; have := hgrow2.size; simp at this; omega, fun k ob hk e hc => ?_⟩, fun k ob hk ho e => ?_, .slice a2 (A.length + 1) cap2, A ++ [(b, o)], D.put (keyS y.s) (.lit (.int .i64 (A.length : Nat))), q + 1, m1.set _, ?_, ?_, ?_, by rw [List.length_append]; simp; omega, ?_, ?_, ?_⟩
        · exact (Below.heap_setCell w2 ⟨w.heap.size, 0, none⟩ (.slice a2 (A.length + 1) cap2) k (fun q => by have q' : k = w.heap.size := q; omega)).trans (hnc k ob hk e hc)
        · have hne : k ≠ w.heap.size := by rcases hk with hk | hk <;> omega
          have hne1 : k ≠ w.heap.size + 1 := by rcases hk with hk | hk <;> omega
          exact (Below.heap_setCell w2 ⟨w.heap.size, 0, none⟩ (.slice a2 (A.length + 1) cap2) k hne).trans (hb2 k ob (by rcases hk with hk | hk <;> omega) hne1 e)
        · refine hown2.kept (row := some w.heap.size) ⟨rfl, rfl, rfl, by simp, fun k _ hne => Below.heap_setCell w2 ⟨w.heap.size, 0, none⟩ (.slice a2 (A.length + 1) cap2) k fun e => hne (by rw [show k = w.heap.size from e])⟩ (.inr fun e => ?_)
          have := (hown2.lt _ e).1
          omega
        · rw [firstL_snoc, addU_none hf]
          exact j3.snoc hb hnw
        · have hm2 : w2.ownsMap Try.prog 9 (plainElem (H := Unit) Try.prog 3) (w.heap.size + 1) (q + 1) (D.put (keyS y.s) (.lit (.int .i64 (A.length : Nat)))) := (hown1.alloc (.cells #[.pointer (some ⟨b, o, none⟩)] 55)).kept hgrow2 (fun e => by have := (hrowblk _ e.symm).1; omega)
          obtain ⟨es, clock, e1, e2⟩ := hm2
          exact ⟨es, clock, (Below.heap_setCell w2 ⟨w.heap.size, 0, none⟩ (.slice a2 (A.length + 1) cap2) (w.heap.size + 1) (by simp)).trans e1, e2⟩
        · rw [firstL_snoc, addU_none hf]
          refine (j6.put g4.isMap y.s A.length).congr fun s => ?_
          rw [idxF_snoc hf, j3.1]
        · have : w2.heap[w.heap.size + 2]? = some (.cells #[.map (some (w.heap.size + 1))] 47 (0, 0)) := hb2 _ _ (by omega) (by omega) j7
          exact (Below.heap_setCell w2 ⟨w.heap.size, 0, none⟩ (.slice a2 (A.length + 1) cap2) (w.heap.size + 2) (by simp)).trans this
        · have bw : Below w.heap.size W w2 := by
            refine ⟨?_, ?_, ?_, ?_, fun k hk => ?_⟩
            · rw [hgrow2.os]; show w1.os = _; rw [hgrow1.os, hV]; rfl
            · rw [hgrow2.tape]; show w1.tape = _; rw [hgrow1.tape, hV]; rfl
            · rw [hgrow2.output]; show w1.output = _; rw [hgrow1.output, hV]; rfl
            · have := hgrow2.size; simp at this; omega
            · have hlt : k < W.heap.size := by omega
              rw [Array.getElem?_eq_getElem hlt]
              exact hb2 k _ (by omega) (by omega) (Array.getElem?_eq_getElem hlt)
          exact (j8.trans bw).setCell (p := ⟨w.heap.size, 0, none⟩) (Nat.le_refl _) _
      clear hf hcj hown1 hown2 hgrow1 hgrow2 hrowblk j1 j2 j3 j4 j5 j6 j7 k2 hl2 d0 d1 d2 d3 d4 d5 m1
      refine wpIn_region_reads 7 [(24, .map (some (w.heap.size + 1))), (25, .pointer (some ⟨b, o, none⟩)), (26, .pointer (some ⟨b, o, none⟩)), (27, .pointer (some ⟨b, o + 1, none⟩)), (28, .string y.s), (29, .slice a A.length cap), (30, .int .i64 (A.length : Nat))] _ (by kernel_rfl) (by kernel_rfl) rfl rfl (by kernel_rfl) rfl ?_ ?_ (w1 := w1) ?_
      · generalize hfull : puts _ _ = full
        have F4 : full[4]? = some (.pointer (some ⟨w.heap.size, 0, none⟩)) := by rw [← hfull]; kernel_rfl
        have F5 : full[5]? = some (.pointer (some ⟨w.heap.size + 1 + 1, 0, none⟩)) := by rw [← hfull]; kernel_rfl
        have F6 : full[6]? = some (.pointer (some ⟨b, o, none⟩)) := by rw [← hfull]; kernel_rfl
        have F24 : full[24]? = some (.map (some (w.heap.size + 1))) := by rw [← hfull]; kernel_rfl
        have F25 : full[25]? = some (.pointer (some ⟨b, o, none⟩)) := by rw [← hfull]; kernel_rfl
        have F26 : full[26]? = some (.pointer (some ⟨b, o, none⟩)) := by rw [← hfull]; kernel_rfl
        have F27 : full[27]? = some (.pointer (some ⟨b, o + 1, none⟩)) := by rw [← hfull]; kernel_rfl
        have F28 : full[28]? = some (.string y.s) := by rw [← hfull]; kernel_rfl
        have F29 : full[29]? = some (.slice a A.length cap) := by rw [← hfull]; kernel_rfl
        have F30 : full[30]? = some (.int .i64 (A.length : Nat)) := by rw [← hfull]; kernel_rfl
        clear hfull
        simp only [List.take_succ_cons, List.take_zero, Reads]
        refine ⟨⟨_, _, rfl, F24, ?_⟩, ⟨_, _, rfl, F25, ?_⟩, ⟨_, _, rfl, F26, ?_⟩, ⟨_, _, rfl, F27, ?_⟩, ⟨_, _, rfl, F28, ?_⟩, ⟨_, _, rfl, F29, ?_⟩, ⟨_, _, rfl, F30, ?_⟩, trivial⟩
        all_goals simp [execOp, Act.eval, go_sem, Array.getD_eq_getD_getElem?, F4, F5, F6, F25, F26, F27, F29, cq0, cq1, cq2]
      · generalize hfull : puts _ _ = full
        have F24 : full[24]? = some (.map (some (w.heap.size + 1))) := by rw [← hfull]; kernel_rfl
        have F28 : full[28]? = some (.string y.s) := by rw [← hfull]; kernel_rfl
        have F30 : full[30]? = some (.int .i64 (A.length : Nat)) := by rw [← hfull]; kernel_rfl
        clear hfull
        simp [execOp, Act.eval, go_sem, Array.getD_eq_getD_getElem?, F24, F28, F30, hrunU]
      · simp only [puts, List.setIfInBounds_toArray, List.set_cons_zero, List.set_cons_succ]
        gi_wp2_with (first | (gi_at_builtin; refine wpListIn_append_run rfl (.tmp 31) (.tmp 33) 83 rfl _ _ _ rfl rfl hrunA ?_) | gi_in)
        exact FIN.out
  · rintro D0 W hD ⟨v, A, D, q, j1, j2, j3, j4, j5, j6, j7, j8⟩ hK
    obtain ⟨a, cap, rfl⟩ := own_slice j2
    have c0 := j1.cell
    have c2 := j7.cell
    gi_wp2
    gi_quiet (fail)
    have hK' : (W.drewN nq).heap[D0]? = some (.deferred (some [])) := hK
    have hbk := belowK_b (w := C) (n₀ := C.heap.size) (Nat.le_refl _) (W.drewN nq) D0 _ (.deferred none) hD hK' rfl rfl
    have hag : Ag C.heap.size (W.drewN nq) ((W.drewN nq).putObj D0 (.deferred none)) := Ag.putObj hD hK' rfl rfl
    gi_wp2
    refine ⟨by simp, .inl ⟨_, _, rfl, run_takeDeferred hK', ?_⟩⟩
    refine ⟨_, results_tmp2 rfl _ _ _, a, _, cap, A, D, q, w.heap.size + 1, rfl, by omega, ?_, j3, ownsMap_below hbk (by omega) j4, j6, (j8.trans (show Below w.heap.size W (W.drewN nq) from ⟨rfl, rfl, rfl, Nat.le_refl _, fun _ _ => rfl⟩)).trans (hbk.mono (show w.heap.size ≤ C.heap.size by omega))⟩
    have h2 := ownRow_ag hag (show (W.drewN nq).ownsRow _ _ _ _ _ _ from j2)
    refine ⟨h2.1, ?_⟩
    rcases h2.2 with h1 | ⟨g, cap', cur, e, hg, hc, hr⟩
    · exact .inl h1
    · exact .inr ⟨g, cap', cur, e, by omega, hc, hr⟩
theorem firsts12_any (x : Pt) (b0 o0 : Nat) (w : World) (hN : NodeP w b0 o0 x) (hX : IsP w x) (hsm : x.size ≤ 1048576) (hok : POk x) :
    Calls Try.prog 50 #[.pointer (some ⟨b0, o0, none⟩)] w fun e w' => ∃ a m cap A D q M, e = .returned (.tuple #[.slice a m cap, .map (some M)]) ∧ w.heap.size ≤ M ∧ w'.ownsRow w.heap.size 55 1 (.slice a m cap) A.length (ptrs A) ∧ FirstAt w A (firstL (usesP x)) ∧
      w'.ownsMap Try.prog 9 (plainElem (H := Unit) Try.prog 3) M q D ∧ MapsTo (idxF (firstL (usesP x))) D ∧ Below w.heap.size w w' :=
  (callsIn_wide (n := 3)).1 (firsts_in12 3 x b0 o0 w hN hX hsm hok)
end Go.Proofs.Ytjclelmbpmlioaa
