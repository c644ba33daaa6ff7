/-
  pat.Rename.
-/
import Derived.Test.YtjclelmbpmlioaaJPatCopied
import Derived.Test.YtjclelmbpmlioaaJExprBase
import Derived.Sort.CutIn
import Derived.Lib.MinMax
namespace Go.Proofs.Ytjclelmbpmlioaa
open Go.RowKit Go.Shelf Go.Maps Go.WideMaps
attribute [local go_sem] Oper.semAt_some

theorem pOk_same : ∀ y x : Pt, Sm y x → POk x → POk y := by
  refine Pt.ind fun y ih x h hx => ?_
  obtain ⟨h1, h2, h3, h4, h5, h6, h7⟩ := (sm_iff _ _).1 h
  rw [pOk_eq] at hx ⊢
  exact ⟨h2 ▸ hx.1, h3 ▸ hx.2.1, fun i hi => ih i hi (x.c i) (h7 i hi) (hx.2.2 i (h6 ▸ hi))⟩
theorem lb_set6 {N1 B0 : Nat} {W : World} {y : Pt} : Lb N1 B0 W (set6 W B0 y) :=
  (((((Lb.set (.inl rfl)).trans (Lb.set (.inl rfl))).trans (Lb.set (.inl rfl))).trans (Lb.set (.inl rfl))).trans (Lb.set (.inl rfl))).trans (Lb.set (.inl rfl))

set_option maxRecDepth 100000 in
set_option maxHeartbeats 8000000 in
theorem renameP_in (n : Nat) (x : Pt) (a a' : Option Addr) (m m' cap cap' : Nat) (S T : Nat → ByteArray) (w : World) (hX : IsP w x) (hsm : WdP x) (hok : POk x)
    (hS : Txs w a m S) (hT : Txs w a' m' T) (hm : m ≤ 9223372036854775807) (hm' : m' ≤ 9223372036854775807) (hc : m ≤ cap) (_ : cap ≤ 9223372036854775807) (zS : ∀ j, j < m → (S j).size ≤ maxLen) :
    CallsIn Fence.wide n Try.prog 9 #[x.val, .slice a m cap, .slice a' m' cap'] w fun e w' => ∃ y : Pt, e = .returned y.val ∧ PA w' y ∧ Sm y (renP (nameX S T (min m m')) x) ∧ (∀ k, inP k y → w.heap.size ≤ k) ∧ Below w.heap.size w w' := by
  have hdd : ∀ k : Nat, (Fence.wide.depth.isSome = true → 1 ≤ k) := fun k h => by cases h
  have hmm := @run_makeMap Try.prog
  refine callsIn_of_wp_marks Try.func9 rfl trivial ?_ rfl
  simp only [Try.ntmps9, List.size_toArray, List.length_cons, List.length_nil, Nat.reduceAdd, Nat.reduceSub, Array.replicate_succ, Array.replicate_zero, List.push_toArray, List.append_toArray, List.nil_append, List.cons_append]
  obtain ⟨A, hA⟩ : ∃ A, ((((w.alloc (.cells x.cells 24)).alloc (.cells #[.slice a' m' cap'] 25)).alloc (.cells Pt.nil.cells 24)).alloc (.map #[] 0)).alloc (.cells #[.map (some (w.heap.size + 1 + 1 + 1))] 47) = A := ⟨_, rfl⟩
  have hsz : A.heap.size = w.heap.size + 5 := by rw [← hA]; simp
  have hB : Below w.heap.size w A := by rw [← hA]; exact (((((Below.refl _ w).alloc (Nat.le_refl _) _).alloc (by simp) _).alloc (by simp; omega) _).alloc (by simp; omega) _).alloc (by simp; omega) _
  have hx0 : A.heap[w.heap.size]? = some (.cells x.cells 24 (0, 0)) := by
    rw [← hA]
    exact (alloc_old (by simp; omega)).trans ((alloc_old (by simp; omega)).trans ((alloc_old (by simp; omega)).trans ((alloc_old (by simp)).trans (alloc_new _ _))))
  have hx1 : Boxed A (w.heap.size + 1) 25 (.slice a' m' cap') := by
    have := (((Boxed.new (w.alloc (.cells x.cells 24)) 25 (.slice a' m' cap')).alloc (.cells Pt.nil.cells 24)).alloc (.map #[] 0)).alloc (.cells #[.map (some (w.heap.size + 1 + 1 + 1))] 47)
    rw [World.size_alloc, hA] at this
    exact this
  have hx2 : A.heap[w.heap.size + 2]? = some (.cells Pt.nil.cells 24 (0, 0)) := by
    have := alloc_new ((w.alloc (.cells x.cells 24)).alloc (.cells #[.slice a' m' cap'] 25)) (.cells Pt.nil.cells 24)
    rw [World.size_alloc, World.size_alloc] at this
    rw [← hA]
    exact (alloc_old (by simp)).trans ((alloc_old (by simp)).trans this)
  have hx3 : A.ownsMap Try.prog 9 (plainElem (H := Unit) Try.prog 3) (w.heap.size + 3) 0 (.map []) := by
    have := (World.ownsMap_made (((w.alloc (.cells x.cells 24)).alloc (.cells #[.slice a' m' cap'] 25)).alloc (.cells Pt.nil.cells 24)) Try.prog 9 (plainElem (H := Unit) Try.prog 3)).alloc (.cells #[.map (some (w.heap.size + 1 + 1 + 1))] 47)
    rw [World.size_alloc, World.size_alloc, World.size_alloc, hA] at this
    exact this
  have hx4 : Boxed A (w.heap.size + 4) 47 (.map (some (w.heap.size + 3))) := by
    have := Boxed.new ((((w.alloc (.cells x.cells 24)).alloc (.cells #[.slice a' m' cap'] 25)).alloc (.cells Pt.nil.cells 24)).alloc (.map #[] 0)) 47 (.map (some (w.heap.size + 1 + 1 + 1)))
    rw [World.size_alloc, World.size_alloc, World.size_alloc, World.size_alloc, hA] at this
    exact this
  gi_wp2
  rw [show min (m : Int) (m' : Int) = ((min m m' : Nat) : Int) by omega, Int.toNat_natCast]
  have hq1 : min m m' ≤ m := Nat.min_le_left _ _
  have hq2 : min m m' ≤ m' := Nat.min_le_right _ _
  obtain ⟨q, hq⟩ : ∃ q : Nat, q = min m m' := ⟨_, rfl⟩
  rw [← hq] at hq1 hq2 ⊢
  have HQ : Hid (q = min m m') := hq
  clear hq
  refine ⟨trivial, hdd _, ?_⟩
  gi_at_call 23
  refine (backward_in _ _ _ _ _).mono ?_
  rintro e w' ⟨rfl, rfl⟩
  gi_wp2
  change Code.wpIn _ _ _ _ _ _ ((((((w.alloc (.cells x.cells 24)).alloc (.cells #[.slice a' m' cap'] 25)).alloc (.cells Pt.nil.cells 24)).alloc (.map #[] 0)).alloc (.cells #[.map (some (w.heap.size + 1 + 1 + 1))] 47)).alloc (.cells #[.slice a q cap] 25))
  rw [hA]
  obtain ⟨C, hC⟩ : ∃ C, A.alloc (.cells #[.slice a q cap] 25) = C := ⟨_, rfl⟩
  have hCs : C.heap.size = w.heap.size + 6 := by rw [← hC]; simp; omega
  have hBC : Below A.heap.size A C := by rw [← hC]; exact (Below.refl _ _).alloc (Nat.le_refl _) _
  have hb5 : Boxed C (w.heap.size + 5) 25 (.slice a q cap) := by
    have := Boxed.new A 25 (.slice a q cap)
    rw [hsz, hC] at this
    exact this
  rw [hC]
  have hBw : Below w.heap.size w C := hB.trans (hBC.mono (by omega))
  replace hx0 := (hBC.block _ (by omega)).trans hx0
  replace hx1 := Boxed.kept_of hx1 hBC (by omega)
  replace hx2 := (hBC.block _ (by omega)).trans hx2
  replace hx3 := ownsMap_below hBC (by omega) hx3
  replace hx4 := Boxed.kept_of hx4 hBC (by omega)
  clear hC hA hB hBC hsz
  refine back_fold (w.heap.size + 5) a q cap S (fun k W => (∃ D, W.ownsMap Try.prog 9 (plainElem (H := Unit) Try.prog 3) (w.heap.size + 3) (q - k) D ∧ Hid (Firsts S q k D)) ∧ Lb C.heap.size (w.heap.size + 3) C W)
    rfl rfl hb5 (fun h0 => by obtain ⟨b, o, e, hc⟩ := hS.later hBw (by omega); exact ⟨b, o, e, fun j hj => hc j (by omega)⟩) (by omega) ?_ ?_
    (fun k => { tmps := #[x.val, .slice a m cap, .slice a' m' cap', .pointer (some ⟨w.heap.size, 0, none⟩), undef, .pointer (some ⟨w.heap.size + 1, 0, none⟩), .pointer (some ⟨w.heap.size + 1 + 1, 0, none⟩), .pointer (some ⟨w.heap.size + 1 + 1 + 1 + 1, 0, none⟩), .int .i64 k, .string (S k), undef, undef, undef, .map (some (w.heap.size + 1 + 1 + 1)), .slice a m cap, .slice a m cap, .int .i64 m, .slice a' m' cap', .int .i64 m', .int .i64 q, .slice a q cap, .func (.func 41) #[] #[.pointer (some ⟨w.heap.size + 1 + 1 + 1 + 1 + 1, 0, none⟩)], .int .i64 k, .string (S k), undef, undef, undef, undef, undef, undef, undef, undef, undef, undef, undef, undef, undef, undef, undef, undef, undef, undef, undef, undef, undef, undef, undef, undef, undef], defers := [] }) ?_ ?_ ?_
  · rintro k W B hag ⟨⟨D, h1, h2⟩, h3⟩
    exact ⟨⟨D, ownsMap_ag hag (by omega) h1, h2⟩, Lb.ag (Ag.refl _ _) hag (Nat.le_refl _) h3⟩
  · exact fun W h => ⟨⟨_, (ownsMap_below h (by omega) hx3).mono (Nat.zero_le _), firsts_none S q⟩, .of_below h⟩
  · intro l k W K hK
    gi_wp2
    first | exact hK | simpa using hK
  · rintro l k W hk ⟨⟨D, h1, h2⟩, h3⟩ hs2
    have c1 := (h3.boxed hx4 (by omega) (by omega)).cell
    have HS : Hid ((S k).size ≤ maxLen) := zS k (by omega)
    have hkey : keyOf Try.prog 9 (.string (S k)) = some (keyS (S k)) := keyOf_string_mk Try.underlying9 HS.out
    gi_wp2_with (first
      | (gi_at_mapUpdate; refine wpListIn_mapUpdate_own _ rfl _ _ _ 47 rfl 9 3 str_law Try.underlying47 (plainElem (H := Unit) Try.prog 3) (w.heap.size + 3) (q - (k + 1)) _ rfl h1 (by unfold maxLen; omega) _ _ _ rfl rfl hkey _ [] (plainElem_int Try.underlying3 (WalkArith.wf_i64 (by omega))) ?_; intro w1 hown1 hgrow1)
      | gi_in)
    have hmap : ∀ (k' : Nat) (o : Obj), o.isCells = true → W.heap[k']? = some o → w1.heap[k']? = some o := fun k' o ho e => by
      refine (hgrow1.block k' (Array.getElem?_eq_some_iff.1 e).1 fun q => ?_).trans e
      injection q with q
      subst q
      obtain ⟨es, clock, e1, _⟩ := h1
      rw [e1] at e
      cases e
      cases ho
    refine ⟨⟨hgrow1.size, fun k' o hk' ho _ => (hgrow1.block k' (Array.getElem?_eq_some_iff.1 ho).1 fun q => ?_).trans ho⟩, fun k' o _ ho e => hmap k' o ho e, ⟨_, hown1.mono (by omega), h2.out.more h1.isMap hk⟩, h3.trans ⟨hgrow1.os, hgrow1.tape, hgrow1.output, hgrow1.size, fun k' h1' h2' => hgrow1.block k' (by have := h3.size; omega) fun q => ?_⟩⟩
    · injection q with q
      omega
    · injection q with q
      exact h2' q
  · rintro D1 W2 hD1 ⟨⟨E, hown, hF⟩, hl2⟩ hK1
    have hD1lt : D1 < W2.heap.size := (Array.getElem?_eq_some_iff.1 hK1).1
    have z0 := (hl2.block w.heap.size (by omega) (by omega)).trans hx0
    have z1 := hl2.boxed hx1 (by omega) (by omega)
    have z2 := (hl2.block (w.heap.size + 2) (by omega) (by omega)).trans hx2
    have zm := hl2.boxed hx4 (by omega) (by omega)
    have hB2 : Below w.heap.size w W2 := hBw.trans (hl2.below (by omega) (by omega))
    have hs2 := hl2.size
    rw [Nat.sub_zero] at hown
    have hX2 : IsP W2 x := hX.later hB2
    clear hx0 hx1 hx2 hx3 hx4 hl2 hb5 hBw hX hS
    obtain ⟨d0, d1, d2, d3, d4, d5⟩ := (nodeP_box z0).at0
    gi_wp2_with (first
      | (refine ⟨trivial, hdd _, ?_⟩; gi_at_call 24; refine (copiedP_inW _ x W2 hX2 hsm).mono ?_; rintro e W3 ⟨y, rfl, hXA, hord, hin, hB3⟩; have u0 := (hB3.block w.heap.size (by omega)).trans z0; obtain ⟨e0, e1, e2, e3, e4, e5⟩ := (nodeP_box u0).at0; have ff : ∀ j, W3.frozen? ⟨w.heap.size, j, none⟩ = false := fun j => FreeP.frozen ⟨_, u0⟩ j; have f0 := ff 0; have f1 := ff 1; have f2 := ff 2; have f3 := ff 3; have f4 := ff 4; have f5 := ff 5; clear ff)
      | (refine ⟨trivial, hdd _, ?_⟩; gi_at_call 25; refine (named_in _ _ _).mono ?_; rintro e w' ⟨rfl, rfl⟩))
    clear d0 d1 d2 d3 d4 d5 e0 e1 e2 e3 e4 e5 f0 f1 f2 f3 f4 f5
    obtain ⟨W4, hW4⟩ : ∃ W4, (set6 W3 w.heap.size y).alloc (.cells #[.pointer (some ⟨w.heap.size, 0, none⟩)] 55) = W4 := ⟨_, rfl⟩
    rw [hW4]
    have hs3 : (set6 W3 w.heap.size y).heap.size = W3.heap.size := by simp
    have hs4 : W4.heap.size = W3.heap.size + 1 := by rw [← hW4]; simp
    have hn4 : W4.heap[w.heap.size]? = some (.cells y.cells 24 (0, 0)) := by
      rw [← hW4]
      exact (alloc_old (by rw [hs3]; have := hB3.size; omega)).trans (heap_set6 u0)
    have hp4 : Boxed W4 W3.heap.size 55 (.pointer (some ⟨w.heap.size, 0, none⟩)) := by
      have := Boxed.new (set6 W3 w.heap.size y) 55 (.pointer (some ⟨w.heap.size, 0, none⟩))
      rw [hs3, hW4] at this
      exact this
    have hl4 : Lb W2.heap.size w.heap.size W2 W4 := by
      rw [← hW4]
      exact ((Lb.of_below hB3).trans lb_set6).trans (.of_below ((Below.refl _ _).alloc (by rw [hs3]; exact hB3.size) _))
    have hx4 : PA W4 y := by
      rw [← hW4]
      refine PA.later ((Below.refl _ _).alloc (Nat.le_refl _) _) (hXA.kept (T := fun k => k ≠ w.heap.size) (fun k o hk _ e => (heap_set6_other hk).trans e) fun k hk => ?_)
      have := hin k hk
      omega
    have hok' := pOk_same y x hord hok
    have lt4 : W3.heap.size < W4.heap.size := by omega
    generalize W3.heap.size = M3 at hp4 lt4 ⊢
    clear hW4 hs3 u0 hXA hB3 z0 hX2 hs4 W3
    refine named_walk (ι := Pt) M3 w.heap.size 0 y Pt.n Pt.c Pt.size (RePre W2.heap.size w.heap.size W2) (ReGo (nameX S T q) W2.heap.size w.heap.size) (ReMid (nameX S T q) W2.heap.size w.heap.size W2) (RePost (nameX S T q) W2.heap.size w.heap.size)
      rfl rfl hp4.cell Pt.size_part (fun v b o W B hag h => h.ag hag hl4.size) (fun v b o W B B' W' hag hag' h => h.ag hag hag' hl4.size) (fun v b o W W' B hag h => h.ag hag hl4.size)
      (fun W hW hs => ?_) ?_
      (fun b o => { tmps := #[x.val, .slice a m cap, .slice a' m' cap', .pointer (some ⟨w.heap.size, 0, none⟩), undef, .pointer (some ⟨w.heap.size + 1, 0, none⟩), .pointer (some ⟨w.heap.size + 1 + 1, 0, none⟩), .pointer (some ⟨w.heap.size + 1 + 1 + 1 + 1, 0, none⟩), undef, undef, .pointer (some ⟨b, o, none⟩), undef, undef, .map (some (w.heap.size + 1 + 1 + 1)), .slice a m cap, .slice a m cap, .int .i64 m, .slice a' m' cap', .int .i64 m', .int .i64 q, .slice a q cap, .func (.func 41) #[] #[.pointer (some ⟨w.heap.size + 1 + 1 + 1 + 1 + 1, 0, none⟩)], undef, undef, undef, undef, undef, x.val, y.val, .func (.func 43) #[] #[.pointer (some ⟨M3, 0, none⟩)], .pointer (some ⟨b, o, none⟩), undef, undef, undef, undef, undef, undef, undef, undef, undef, undef, undef, undef, undef, undef, undef, undef, undef, undef], defers := [] }) ?_ ?_
      (fun v b o W W' hp hg => hg.mid hp) ?_ (fun v b o W a cap i Wi h hi => h.next hi) (fun v b o W a cap Wi h => h.done) ?_
    · exact ⟨(nodeP_box hn4).below hW (by have := hl4.size; omega), hx4.later hW, fun hk => by have := hin _ hk; omega, ⟨_, (hW.block _ (by have := hl4.size; omega)).trans hn4⟩, .inl rfl, hin, hok', hl4.trans (.of_below (hW.mono hl4.size))⟩
    · rintro v b o W ⟨p1, p2, p3, p4, p5, p6, p7, p8⟩
      refine ⟨v.k, p1.1, fun hk => ⟨?_, KbP.refl _ _ _ _, Lb.refl _ _ _⟩⟩
      obtain ⟨a1, a2, a3, a4, a5, a6, a7⟩ := renP_parts (nameX S T q) v
      unfold NodeP
      rw [a1, a2, a3, a4, a5, a6, (renP_slice _ v).1, (renP_slice _ v).2, if_neg (by rw [hk]; simp)]
      exact p1
    · intro l b o W K hK
      gi_wp2
      first | exact hK | simpa using hK
    · rintro l b o v W k ⟨p1, p2, p3, p4, p5, p6, p7, p8⟩ hkc hkn hs ⟨u1, b1⟩ ⟨u2, b2⟩ ⟨u3, b3⟩
      have ne1 := p4.ne b1 (by decide)
      have ne2 := p4.ne b2 (by decide)
      have ne3 := p4.ne b3 (by decide)
      have hvk : nmd v.k = true := by
        have := p1.1.symm.trans hkc
        injection this with this
        injection this with _ this
        rw [this]; exact hkn
      clear hkc hkn
      have HP := p1
      obtain ⟨d0, d1, d2, d3, d4, d5⟩ := p1
      have fb := p4.frozen (o + 1)
      have k1 := (p8.boxed z1 (by omega) (by omega)).cell
      have km := (p8.boxed zm (by omega) (by omega)).cell
      obtain ⟨c, hrun, hcj⟩ := look_at (p8.map (by omega) (by omega) hown).drew hF.out ((pOk_eq v).1 p7).1
      have hTW : Txs W a' m' T := hT.later (hB2.trans (p8.below (by have := hB2.size; omega) (Nat.le_refl _)))
      have hmix : Try.prog.follows .mixedOrders = true := by kernel_rfl
      have stay : nameX S T q v.s = v.s → namedPost W4.heap.size (ReGo (nameX S T q) W2.heap.size w.heap.size v b o W) W .normal ⟨#[], []⟩ W.drew := fun h => by
        refine ⟨⟨Nat.le_refl _, fun _ _ _ h _ => h⟩, fun _ _ _ _ e => e, ?_, KbP.of_below _ _ _ (Below.refl _ _).drew, .of_below (Below.refl _ _).drew⟩
        obtain ⟨a1, a2, a3, a4, a5, a6, a7⟩ := renP_parts (nameX S T q) v
        unfold NodeP
        rw [a1, a2, a3, a4, a5, a6, (renP_slice _ v).1, (renP_slice _ v).2, h, ite_self]
        exact HP
      cases hf : fstS S v.s q with
      | none =>
        rw [hf] at hrun
        simp only [Option.isSome] at hrun
        have hst := stay (by simp [nameX, hf])
        clear stay hcj hf hvk
        gi_wp2
        gi_region_with_o (fail)
        all_goals gi_wp2
        all_goals exact hst
      | some j =>
        rw [hf] at hrun
        simp only [Option.isSome] at hrun
        obtain rfl := hcj j hf
        obtain ⟨hj1, -⟩ := fstS_some hf
        have hjm : j < m' := by omega
        obtain ⟨bt, ot, rfl, ht⟩ := hTW (by omega)
        have htj := ht j hjm
        have hst : namedPost W4.heap.size (ReGo (nameX S T q) W2.heap.size w.heap.size v b o W) W .normal ⟨#[], []⟩ (W.drew.setCell ⟨b, o + 1, none⟩ (.string (T j))) := by
          have k0 : KeepsOthers W W.drew := ⟨Nat.le_refl _, fun _ _ h _ => h⟩
          refine ⟨(k0.trans (KeepsOthers.setCell _ _ _)).from _, ?_, ?_, (KbP.of_below _ _ _ (Below.refl _ _).drew).trans (KbP.set _ _ _ _ _), (Lb.of_below (Below.refl _ _).drew).trans (Lb.set p5)⟩
          · refine Kp.trans (B := W.drew) (fun _ _ _ _ e => e) (Kp.set _ ?_)
            rintro (h | h | h)
            · exact ne1 h
            · exact ne2 h
            · exact ne3 h
          · obtain ⟨a1, a2, a3, a4, a5, a6, a7⟩ := renP_parts (nameX S T q) v
            have a2' : (renP (nameX S T q) v).s = T j := by
              rw [a2, if_pos hvk]
              simp [nameX, hf]
            unfold NodeP
            rw [a1, a2', a3, a4, a5, a6, (renP_slice _ v).1, (renP_slice _ v).2]
            refine ⟨?_, World.cell?_setCell_same W.drew _ _ d1, ?_, ?_, ?_, ?_⟩
            · exact (World.cell?_setCell_other _ _ _ _ (by intro e; injection e with _ e; omega)).trans d0
            · exact (World.cell?_setCell_other _ _ _ _ (by intro e; injection e with _ e; omega)).trans d2
            · exact (World.cell?_setCell_other _ _ _ _ (by intro e; injection e with _ e; omega)).trans d3
            · exact (World.cell?_setCell_other _ _ _ _ (by intro e; injection e with _ e; omega)).trans d4
            · exact (World.cell?_setCell_other _ _ _ _ (by intro e; injection e with _ e; omega)).trans d5
        clear stay hcj hTW ht hf hvk
        gi_wp2
        gi_region_with_o (fail)
        all_goals gi_wp2
        all_goals first
          | exact hst
          | go_show
    · rintro v b o W a cap i Wi ⟨rfl, rfl, m1, m2, mp, -⟩
      have := (pA_eq _ _).1 mp.2.1
      obtain ⟨a1, a2, a3, a4, a5, a6, a7⟩ := renP_parts (nameX S T q) v
      have m26 := m2.2.2.2.2.2
      rw [a6, (renP_slice _ v).1, (renP_slice _ v).2] at m26
      exact ⟨by omega, m26⟩
    · rintro D' W5 W hD hW5 hs ⟨h1, h2, h3, h4⟩ hK
      have hBw : Below w.heap.size w W := ((hB2.trans (hl4.below hB2.size (Nat.le_refl _))).trans (hW5.mono (by have := hl4.size; have := hB2.size; omega))).trans (h4.below hB2.size (Nat.le_refl _))
      have hres2 : W.heap[w.heap.size + 2]? = some (.cells Pt.nil.cells 24 (0, 0)) := (h4.block _ (by omega) (by omega)).trans ((hW5.block _ (by have := hl4.size; omega)).trans ((hl4.block _ (by omega) (by omega)).trans z2))
      have hK1' : W.heap[D1]? = some (.deferred (some [])) := (h4.block _ (by omega) (by omega)).trans ((hW5.block _ (by have := hl4.size; omega)).trans ((hl4.block _ (by omega) (by omega)).trans hK1))
      obtain ⟨y', hy'⟩ : ∃ y', y' = renP (nameX S T q) y := ⟨_, rfl⟩
      rw [← hy'] at h1 h2
      have hor : Sm y' (renP (nameX S T (min m m')) x) := by
        rw [hy', ← HQ.out]
        exact renP_sm _ hord
      have hin' : ∀ k, inP k y' → W2.heap.size ≤ k := fun k hk => hin k ((inP_ren _ k y).1 (hy' ▸ hk))
      clear hy' h3 h4
      obtain ⟨d0, d1, d2, d3, d4, d5⟩ := h1.at0
      have gf : ∀ j, W.frozen? ⟨w.heap.size + 2, j, none⟩ = false := fun j => FreeP.frozen ⟨_, hres2⟩ j
      obtain ⟨e0, e1, e2, e3, e4, e5⟩ := (nodeP_box hres2).at0
      have f0 := gf 0
      have f1 := gf 1
      have f2 := gf 2
      have f3 := gf 3
      have f4 := gf 4
      have f5 := gf 5
      have hblk : (set6 W (w.heap.size + 2) y').heap[w.heap.size + 2]? = some (.cells y'.cells 24 (0, 0)) := heap_set6 hres2
      have hK' : (set6 W (w.heap.size + 2) y').heap[D']? = some (.deferred (some [])) := (heap_set6_other (by have := hl4.size; omega)).trans hK
      have hK1'' : (set6 W (w.heap.size + 2) y').heap[D1]? = some (.deferred (some [])) := (heap_set6_other (by omega)).trans hK1'
      have hBf : Below w.heap.size w (set6 W (w.heap.size + 2) y') := below_set6 hBw (by omega)
      have hDD : D1 ≠ D' := by have := hl4.size; omega
      have hKb : ((set6 W (w.heap.size + 2) y').putObj D' (.deferred none)).heap[D1]? = some (.deferred (some [])) := (World.putObj_heap_other hDD).trans hK1''
      have hblk' : ((set6 W (w.heap.size + 2) y').putObj D' (.deferred none)).heap[w.heap.size + 2]? = some (.cells y'.cells 24 (0, 0)) := (World.putObj_heap_other (by have := hl4.size; omega)).trans hblk
      have hkp : Kp (fun k => k ≠ w.heap.size + 2) W (((set6 W (w.heap.size + 2) y').putObj D' (.deferred none)).putObj D1 (.deferred none)) := fun k ob hk ho e => by
        have hne : k ≠ D' := by rintro rfl; rw [hK] at e; cases e; cases ho
        have hne1 : k ≠ D1 := by rintro rfl; rw [hK1'] at e; cases e; cases ho
        exact (World.putObj_heap_other hne1).trans ((World.putObj_heap_other hne).trans ((heap_set6_other hk).trans e))
      have hBg : Below w.heap.size w (((set6 W (w.heap.size + 2) y').putObj D' (.deferred none)).putObj D1 (.deferred none)) :=
        (hBf.trans (belowK_b (w := w) (Nat.le_refl _) _ D' _ _ (by have := hl4.size; have := hB2.size; omega) hK' rfl rfl)).trans (belowK_b (w := w) (Nat.le_refl _) _ D1 _ _ (by omega) hKb rfl rfl)
      gi_wp2
      refine ⟨by simp, .inl ⟨_, _, rfl, run_takeDeferred hK', ?_⟩⟩
      refine ⟨by simp, .inl ⟨_, _, rfl, run_takeDeferred hKb, ?_⟩⟩
      exact ⟨_, end6 rfl rfl hblk' (by omega), y', rfl, h2.kept hkp (fun k hk => by have := hin' k hk; omega), hor, fun k hk => by have := hin' k hk; have := hB2.size; omega, hBg⟩
theorem renameP_wide (x : Pt) (a a' : Option Addr) (m m' cap cap' : Nat) (S T : Nat → ByteArray) (w : World) (hX : IsP w x) (hsm : WdP x) (hok : POk x)
    (hS : Txs w a m S) (hT : Txs w a' m' T) (hm : m ≤ 9223372036854775807) (hm' : m' ≤ 9223372036854775807) (hc : m ≤ cap) (hcm : cap ≤ 9223372036854775807) (zS : ∀ j, j < m → (S j).size ≤ maxLen) :
    Calls Try.prog 9 #[x.val, .slice a m cap, .slice a' m' cap'] w fun e w' => ∃ y : Pt, e = .returned y.val ∧ PA w' y ∧ Sm y (renP (nameX S T (min m m')) x) ∧ (∀ k, inP k y → w.heap.size ≤ k) ∧ Below w.heap.size w w' :=
  (callsIn_wide (n := 3)).1 (renameP_in 3 x a a' m m' cap cap' S T w hX hsm hok hS hT hm hm' hc hcm zS)
end Go.Proofs.Ytjclelmbpmlioaa
