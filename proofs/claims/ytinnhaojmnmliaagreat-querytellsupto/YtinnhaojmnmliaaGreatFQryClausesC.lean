/-
  query's clauses: the items.
  query.Check: its clauses are looked at by method values in a row.
-/
import Derived.Test.YtinnhaojmnmliaaGreatFQryNames
namespace Go.Proofs.YtinnhaojmnmliaaGreat
open Go.RowKit Go.Maps Go.WideMaps

theorem itAt_new (w : World) (t : TypeId) (x : It) : (w.alloc (.cells x.cells t)).cell? ⟨w.heap.size, 0, none⟩ = some (.string x.nm) ∧ (w.alloc (.cells x.cells t)).cell? ⟨w.heap.size, 1, none⟩ = some (.int .i64 x.k) ∧ (w.alloc (.cells x.cells t)).cell? ⟨w.heap.size, 2, none⟩ = some (.string x.s) ∧ (w.alloc (.cells x.cells t)).cell? ⟨w.heap.size, 3, none⟩ = some (.string x.f) := by
  have := itAt_box (alloc_new w (.cells x.cells t))
  unfold ItAt at this
  simp only [Nat.zero_add] at this
  exact this
set_option maxRecDepth 100000 in
set_option maxHeartbeats 4000000 in
theorem rightI_any (x : It) (w : World) : Calls Tryz.prog 62 #[x.val] w fun e w' => e = .returned (.bool (rightI x)) ∧ Below w.heap.size w w' := by
  have hB : Below w.heap.size w (w.alloc (.cells x.cells 56)) := (Below.refl _ w).alloc (Nat.le_refl _) _
  obtain ⟨k0, k1, k2, k3⟩ := itAt_new w 56 x
  have HB : Hid (Below w.heap.size w (w.alloc (.cells x.cells 56))) := hB
  have KK : Hid (∀ d, Below (w.alloc (.cells x.cells 56)).heap.size (w.alloc (.cells x.cells 56)) d → d.cell? ⟨w.heap.size, 0, none⟩ = some (.string x.nm) ∧ d.cell? ⟨w.heap.size, 1, none⟩ = some (.int .i64 x.k) ∧ d.cell? ⟨w.heap.size, 2, none⟩ = some (.string x.s) ∧ d.cell? ⟨w.heap.size, 3, none⟩ = some (.string x.f)) := fun d h => ⟨cell_later k0 h, cell_later k1 h, cell_later k2 h, cell_later k3 h⟩
  have C1 : Hid (∀ s d, Calls Tryz.prog 61 #[.string s] d _) := fun s d => name_any s d
  obtain ⟨v, hv⟩ : ∃ v, v = rightI x := ⟨_, rfl⟩
  have HV : Hid (∀ f : Bool, f = (if x.k = 3 then decide (x.f = ⟨#[]⟩) else nameB x.f) → v = (nameB x.nm && (nameB x.s && (decide (1 ≤ x.k) && (decide (x.k ≤ 4) && f))))) := fun f h => by rw [hv, h]; rfl
  rw [← hv]
  clear hv hB
  obtain ⟨b1, hb1⟩ : ∃ b1, b1 = nameB x.nm := ⟨_, rfl⟩
  obtain ⟨b2, hb2⟩ : ∃ b2, b2 = nameB x.s := ⟨_, rfl⟩
  have C2 : Hid (∀ d, Calls Tryz.prog 61 #[.string x.nm] d fun e w' => e = .returned (.bool b1) ∧ Below d.heap.size d w') := fun d => by rw [hb1]; exact name_any _ d
  have C3 : Hid (∀ d, Calls Tryz.prog 61 #[.string x.s] d fun e w' => e = .returned (.bool b2) ∧ Below d.heap.size d w') := fun d => by rw [hb2]; exact name_any _ d
  have C4 : Hid (∀ d, Calls Tryz.prog 61 #[.string x.f] d fun e w' => e = .returned (.bool (nameB x.f)) ∧ Below d.heap.size d w') := fun d => name_any _ d
  rw [← hb1, ← hb2] at HV
  clear hb1 hb2 C1
  by_cases h3 : x.k = 3
  · have HV3 : Hid (v = (b1 && (b2 && decide (x.f = ⟨#[]⟩)))) := by
      show _ = _
      rw [HV.out _ rfl, if_pos h3, decide_eq_true (show (1 : Int) ≤ x.k by omega), decide_eq_true (show x.k ≤ 4 by omega), Bool.true_and, Bool.true_and]
    have t3 : (x.k == 3) = true := by simpa using h3
    have t1 : (1 : Int) ≤ x.k := by omega
    have t4 : x.k ≤ 4 := by omega
    have tf : ∀ s, (x.f.toList == []) = s → decide (x.f = ⟨#[]⟩) = s := fun s hs => by
      have := same_str x.f ⟨#[]⟩
      rw [nil_list] at this
      rw [← hs, this]
    obtain ⟨bf, hbf⟩ : ∃ bf, bf = (x.f.toList == []) := ⟨_, rfl⟩
    have HV4 : Hid (v = (b1 && (b2 && bf))) := by show _ = _; rw [HV3.out, tf bf hbf.symm]
    have hbf' := hbf.symm
    clear tf hbf h3 HV HV3
    go_enter Tryz.func62, Tryz.ntmps62
    go_upto_region 2 with (first | (go_at_call 61; refine (C4.out _).mono ?_; rintro e w1 ⟨rfl, hB1⟩))
    obtain ⟨c0, c1, c2, c3⟩ := KK.out _ hB1
    clear k0 k1 k2 k3 C4
    cases b1
    · go_wp2_with (first | (go_at_call 61; refine (C2.out _).mono ?_; clear C2; rintro e w2 ⟨rfl, hB2⟩))
      go_ret
      exact ⟨by rw [HV4.out]; rfl, HB.out.trans ((hB1.trans (hB2.mono hB1.size)).mono HB.out.size)⟩
    · go_wp2_with (first
        | (go_at_call 61; refine (C2.out _).mono ?_; clear C2; rintro e w2 ⟨rfl, hB2⟩; have hB12 := hB1.trans (hB2.mono hB1.size); obtain ⟨e0, e1, e2, e3⟩ := KK.out _ hB12)
        | (go_at_call 61; refine (C3.out _).mono ?_; clear C3; rintro e w3 ⟨rfl, hB3⟩; have hB13 := hB12.trans (hB3.mono hB12.size); obtain ⟨g0, g1, g2, g3⟩ := KK.out _ hB13; cases b2))
      all_goals go_ret
      all_goals exact ⟨by rw [HV4.out]; rfl, HB.out.trans (hB13.mono HB.out.size)⟩
  · have t3 : (x.k == 3) = false := by simpa using h3
    obtain ⟨bf, hbf⟩ : ∃ bf, bf = nameB x.f := ⟨_, rfl⟩
    have HV4 : Hid (v = (b1 && (b2 && (decide (1 ≤ x.k) && (decide (x.k ≤ 4) && bf))))) := by show _ = _; rw [HV.out _ rfl, if_neg h3, hbf]
    rw [← hbf] at C4
    clear hbf h3 HV
    by_cases t1 : (1 : Int) ≤ x.k
    · by_cases t4 : x.k ≤ 4
      · have HV5 : Hid (v = (b1 && (b2 && bf))) := by show _ = _; rw [HV4.out, decide_eq_true t1, decide_eq_true t4, Bool.true_and, Bool.true_and]
        clear HV4
        go_enter Tryz.func62, Tryz.ntmps62
        go_upto_region 2 with (first | (go_at_call 61; refine (C4.out _).mono ?_; rintro e w1 ⟨rfl, hB1⟩))
        obtain ⟨c0, c1, c2, c3⟩ := KK.out _ hB1
        clear k0 k1 k2 k3 C4
        cases b1
        · go_wp2_with (first | (go_at_call 61; refine (C2.out _).mono ?_; clear C2; rintro e w2 ⟨rfl, hB2⟩))
          go_ret
          exact ⟨by rw [HV5.out]; rfl, HB.out.trans ((hB1.trans (hB2.mono hB1.size)).mono HB.out.size)⟩
        · go_wp2_with (first
            | (go_at_call 61; refine (C2.out _).mono ?_; clear C2; rintro e w2 ⟨rfl, hB2⟩; have hB12 := hB1.trans (hB2.mono hB1.size); obtain ⟨e0, e1, e2, e3⟩ := KK.out _ hB12)
            | (go_at_call 61; refine (C3.out _).mono ?_; clear C3; rintro e w3 ⟨rfl, hB3⟩; have hB13 := hB12.trans (hB3.mono hB12.size); obtain ⟨g0, g1, g2, g3⟩ := KK.out _ hB13; cases b2))
          all_goals go_ret
          all_goals exact ⟨by rw [HV5.out]; rfl, HB.out.trans (hB13.mono HB.out.size)⟩
      · have HV5 : Hid (v = false) := by show _ = _; rw [HV4.out, decide_eq_false t4]; simp
        clear HV4
        go_enter Tryz.func62, Tryz.ntmps62
        go_upto_region 2 with (first | (go_at_call 61; refine (C4.out _).mono ?_; rintro e w1 ⟨rfl, hB1⟩))
        obtain ⟨c0, c1, c2, c3⟩ := KK.out _ hB1
        clear k0 k1 k2 k3 C4
        cases b1
        · go_wp2_with (first | (go_at_call 61; refine (C2.out _).mono ?_; clear C2; rintro e w2 ⟨rfl, hB2⟩))
          go_ret
          exact ⟨by rw [HV5.out]; rfl, HB.out.trans ((hB1.trans (hB2.mono hB1.size)).mono HB.out.size)⟩
        · go_wp2_with (first
            | (go_at_call 61; refine (C2.out _).mono ?_; clear C2; rintro e w2 ⟨rfl, hB2⟩; have hB12 := hB1.trans (hB2.mono hB1.size); obtain ⟨e0, e1, e2, e3⟩ := KK.out _ hB12)
            | (go_at_call 61; refine (C3.out _).mono ?_; clear C3; rintro e w3 ⟨rfl, hB3⟩; have hB13 := hB12.trans (hB3.mono hB12.size); obtain ⟨g0, g1, g2, g3⟩ := KK.out _ hB13; cases b2))
          all_goals go_ret
          all_goals exact ⟨by rw [HV5.out]; rfl, HB.out.trans (hB13.mono HB.out.size)⟩
    · have HV5 : Hid (v = false) := by show _ = _; rw [HV4.out, decide_eq_false t1]; simp
      clear HV4
      go_enter Tryz.func62, Tryz.ntmps62
      go_upto_region 2 with (first | (go_at_call 61; refine (C4.out _).mono ?_; rintro e w1 ⟨rfl, hB1⟩))
      obtain ⟨c0, c1, c2, c3⟩ := KK.out _ hB1
      clear k0 k1 k2 k3 C4
      cases b1
      · go_wp2_with (first | (go_at_call 61; refine (C2.out _).mono ?_; clear C2; rintro e w2 ⟨rfl, hB2⟩))
        go_ret
        exact ⟨by rw [HV5.out]; rfl, HB.out.trans ((hB1.trans (hB2.mono hB1.size)).mono HB.out.size)⟩
      · go_wp2_with (first
          | (go_at_call 61; refine (C2.out _).mono ?_; clear C2; rintro e w2 ⟨rfl, hB2⟩; have hB12 := hB1.trans (hB2.mono hB1.size); obtain ⟨e0, e1, e2, e3⟩ := KK.out _ hB12)
          | (go_at_call 61; refine (C3.out _).mono ?_; clear C3; rintro e w3 ⟨rfl, hB3⟩; have hB13 := hB12.trans (hB3.mono hB12.size); obtain ⟨g0, g1, g2, g3⟩ := KK.out _ hB13; cases b2))
        all_goals go_ret
        all_goals exact ⟨by rw [HV5.out]; rfl, HB.out.trans (hB13.mono HB.out.size)⟩
/-- Of a set's elements nothing is told but that they are struct{}. -/
def RS : Value → Option (DataW Unit × List MemPlace)
  | .agg cs => if cs.size = 0 then some (.nil, []) else none
  | _ => none
theorem rS_unit : RS (.agg #[]) = some (.nil, []) := rfl
theorem rS_inv {v : Value} {x : DataW Unit × List MemPlace} (h : RS v = some x) : v = .agg #[] := by
  cases v with
  | agg cs =>
    simp only [RS] at h
    by_cases e : cs.size = 0
    · rw [Array.eq_empty_of_size_eq_zero e]
    · rw [if_neg e] at h; cases h
  | _ => cases h
set_option maxRecDepth 100000 in
/-- What the set tells of a name. -/
theorem look_set {W : World} {M n : Nat} {D : DataW Unit} {L : List ByteArray} {s : ByteArray} (ho : W.ownsMap Tryz.prog 9 RS M n D) (hH : Hs L D) (hs : s.size ≤ maxLen) :
    ∃ b : Bool, (Instr.lookup 60 (.map (some M)) (.string s) true).run Tryz.prog W = .ok (.tuple #[.agg #[], .bool b]) W ∧ (b = true ↔ s ∈ L) := by
  have hkey : keyOf Tryz.prog 9 (.string s) = some (keyS s) := keyOf_string_mk Tryz.underlying9 hs
  obtain ⟨v, ps, hrun, hv⟩ := ho.look_ok str_law Tryz.underlying60 (z := .agg #[]) rfl rS_unit hkey
  obtain rfl := rS_inv hv
  exact ⟨_, hrun, hH.has s⟩
theorem ItemsR.next {q : Qy} {k : Nat} (h : ItemsR q k) (h1 : rightI (q.it k) = true) (h2 : ¬ (q.it k).nm ∈ lstS (fun i => (q.it i).nm) k) : ItemsR q (k + 1) := by
  refine ⟨fun i hi => ?_, fun i hi j hj e => ?_⟩
  · by_cases e : i = k
    · rw [e]; exact h1
    · exact h.1 i (by omega)
  · by_cases ei : i = k
    · subst ei
      exact h2 ((lstS_mem _ _ _).2 ⟨j, hj, e⟩)
    · exact h.2 i (by omega) j hj e
set_option maxRecDepth 100000 in
set_option maxHeartbeats 4000000 in
theorem cl9_any (q : Qy) (w : World) (hQ : IsQ w q) (hok : QOk q) (hsm : q.bulk ≤ 1048576) : Calls Tryz.prog 30 #[q.val] w fun e w' => e = .returned (.int .i64 (cl9 q)) ∧ Below w.heap.size w w' := by
  have hb := hsm
  unfold Qy.bulk at hb
  have hmm := @run_makeMap Tryz.prog
  have HA : Hid (∀ i, i < q.m → ∀ d, Calls Tryz.prog 62 #[(q.it i).val] d fun e w' => e = .returned (.bool (rightI (q.it i))) ∧ Below d.heap.size d w') := fun i _ d => rightI_any (q.it i) d
  have HO : Hid (∀ i, i < q.m → (q.it i).nm.size ≤ maxLen) := fun i hi => (hok.it i hi).1
  have HIT : Hid (Its w q.ia q.m q.it) := hQ.it
  have H0 : Hid (ItemsR q q.m → cl9 q = 0) := fun h => if_pos h
  have H1 : Hid (∀ k, k < q.m → rightI (q.it k) = false → cl9 q = 1) := fun k hk h => if_neg fun e => by have := e.1 k hk; rw [h] at this; cases this
  have H2 : Hid (∀ k, k < q.m → (q.it k).nm ∈ lstS (fun i => (q.it i).nm) k → cl9 q = 1) := fun k hk h => if_neg fun e => by
    obtain ⟨j, hj, e2⟩ := (lstS_mem _ _ _).1 h
    exact e.2 k hk j hj e2
  obtain ⟨v, hv⟩ : ∃ v, v = cl9 q := ⟨_, rfl⟩
  rw [← hv] at H0 H1 H2 ⊢
  clear hQ hok hsm hv
  go_enter Tryz.func30, Tryz.ntmps30
  go_upto_region 2 with fail
  obtain ⟨A, hA⟩ : ∃ A, (w.alloc (.cells q.cells 50)).alloc (.map #[] 0) = A := ⟨_, rfl⟩
  have hsz : A.heap.size = w.heap.size + 2 := by rw [← hA]; simp
  have hB : RowKit.Below w.heap.size w A := by rw [← hA]; exact ((RowKit.Below.refl _ w).alloc (Nat.le_refl _) _).alloc (by simp) _
  have hx0 : A.heap[w.heap.size]? = some (.cells q.cells 50 (0, 0)) := by rw [← hA]; exact (alloc_old (by simp)).trans (alloc_new w _)
  have mb0 : A.ownsMap Tryz.prog 9 RS (w.heap.size + 1) 0 (.map []) := by
    have := World.ownsMap_made (w.alloc (.cells q.cells 50)) Tryz.prog 9 RS
    rw [World.size_alloc, hA] at this
    exact this
  rw [hA]
  have k10 := (qat0 hx0).2.2.2.2.2
  clear hx0 hA hmm
  go_wp2_with fail
  go_loopw [12] (fun u wr => ∃ k : Nat, k ≤ q.m ∧ u = .int .i64 k ∧ (∃ D, wr.ownsMap Tryz.prog 9 RS (w.heap.size + 1) k D ∧ Hid (Hs (lstS (fun i => (q.it i).nm) k) D)) ∧ Hid (ItemsR q k) ∧ Lb A.heap.size (w.heap.size + 1) A wr) (fun u _ => q.m - (intOf u).toNat)
  case atStart => exact ⟨0, Nat.zero_le _, rfl, ⟨_, mb0, hs_none⟩, ⟨fun i hi => absurd hi (Nat.not_lt_zero _), fun i hi => absurd hi (Nat.not_lt_zero _)⟩, Lb.refl _ _ _⟩
  case round =>
    obtain ⟨k, hk, rfl, ⟨D, hown, HH⟩, HIR, hLb⟩ := hrel
    clear k10 mb0
    have hBr : RowKit.Below w.heap.size w wr := hB.trans (hLb.below (by omega) (by omega))
    by_cases hkn : k < q.m
    · obtain ⟨b, o, ea, i0, i1, i2, i3⟩ := (HIT.out.later hBr) k hkn
      rw [ea]
      have HKN : Hid (k < q.m) := hkn
      have hkey : keyOf Tryz.prog 9 (.string (q.it k).nm) = some (keyS (q.it k).nm) := keyOf_string_mk Tryz.underlying9 (HO.out k hkn)
      have hownA : (wr.alloc (.cells (q.it k).cells 56)).ownsMap Tryz.prog 9 RS (w.heap.size + 1) k D := hown.alloc _
      obtain ⟨bb, hrun, hbb⟩ := look_set hownA HH.out (HO.out k hkn)
      have HBB : Hid (bb = true ↔ _) := hbb
      have HLA : Hid (Lb A.heap.size (w.heap.size + 1) A (wr.alloc (.cells (q.it k).cells 56))) := hLb.trans (.of_below ((RowKit.Below.refl _ _).alloc hLb.size _))
      clear ea hbb
      go_upto_region 6 with fail
      obtain ⟨V, hV⟩ : ∃ V, (wr.alloc (.cells (q.it k).cells 56)).alloc (.cells #[] 66) = V := ⟨_, rfl⟩
      rw [hV]
      have hBV : RowKit.Below wr.heap.size wr V := by rw [← hV]; exact ((RowKit.Below.refl _ _).alloc (Nat.le_refl _) _).alloc (by simp) _
      obtain ⟨y0, y1, y2, y3⟩ := itAt_new wr 56 (q.it k)
      have hB2 : RowKit.Below (wr.alloc (.cells (q.it k).cells 56)).heap.size (wr.alloc (.cells (q.it k).cells 56)) V := by rw [← hV]; exact (RowKit.Below.refl _ _).alloc (Nat.le_refl _) _
      have x0 := cell_later y0 hB2
      have x1 := cell_later y1 hB2
      have x2 := cell_later y2 hB2
      have x3 := cell_later y3 hB2
      have hLV : Lb A.heap.size (w.heap.size + 1) A V := hLb.trans (.of_below (hBV.mono hLb.size))
      have hoV : V.ownsMap Tryz.prog 9 RS (w.heap.size + 1) k D := by rw [← hV]; exact hownA.alloc _
      have hc := HA.out k hkn V
      have HBV : Hid (RowKit.Below w.heap.size w V) := hBr.trans (hBV.mono hBr.size)
      have hlt : w.heap.size + 1 < V.heap.size := hoV.lt
      clear hV hB2 hBV y0 y1 y2 y3 hrun hownA HLA
      cases bb with
      | true =>
        clear hc
        go_wp2
        try rw [Exit.noGoto_ret]
        go_ret
        exact ⟨by rw [H2.out k HKN.out (HBB.out.1 (by trivial))]; rfl, HBV.out⟩
      | false =>
        obtain ⟨z, hz⟩ : ∃ z, z = rightI (q.it k) := ⟨_, rfl⟩
        rw [← hz] at hc
        have HE : Hid (z = rightI (q.it k)) := hz
        clear hz
        cases z with
        | false =>
          go_wp2_with (first | (go_at_call 62; refine hc.mono ?_; clear hc; rintro e w2 ⟨rfl, hB2⟩))
          try rw [Exit.noGoto_ret]
          go_ret
          exact ⟨by rw [H1.out k HKN.out HE.out.symm]; rfl, HBV.out.trans (hB2.mono HBV.out.size)⟩
        | true =>
          go_wp2_with (first
            | (go_at_call 62; refine hc.mono ?_; clear hc; rintro e w2 ⟨rfl, hB2⟩; have x0' := cell_later x0 hB2; have ho2 : w2.ownsMap Tryz.prog 9 RS (w.heap.size + 1) k D := (by obtain ⟨es, clock, hb', Ft, hs, hD⟩ := hoV; exact ⟨es, clock, (hB2.block _ hlt).trans hb', Ft, hs, hD⟩))
            | (at_mapUpdate; refine wpList_mapUpdate_own _ rfl _ _ _ 60 rfl 9 66 str_law Tryz.underlying60 RS (w.heap.size + 1) k _ rfl ho2 (by unfold maxLen; omega) _ _ _ rfl rfl hkey _ [] rS_unit ?_; intro w3 hown3 hgrow3)
            | go_in)
          have hL2 : Lb A.heap.size (w.heap.size + 1) A w2 := hLV.trans (.of_below (hB2.mono hLV.size))
          have hL3 := hL2.trans (Lb.grown hgrow3 hL2.size)
          have hHn : Hs (lstS (fun i => (q.it i).nm) (k + 1)) _ := HH.out.more hown.isMap (hown.tidy str_law) (q.it k).nm .nil
          have hIn := HIR.out.next HE.out.symm (fun e => by have := HBB.out.2 e; cases this)
          first
            | (refine ⟨⟨k + 1, HKN.out, by simp, ⟨_, hown3, hHn⟩, hIn, hL3⟩, ?_⟩
               have := HKN.out
               simp [intOf]
               omega)
            | (go_roundw
               case rel => exact ⟨k + 1, HKN.out, by go_num, ⟨_, hown3, hHn⟩, hIn, hL3⟩
               case measure => have := HKN.out; simp [intOf]; omega)
    · obtain rfl : k = q.m := by omega
      go_wp2
      go_ret
      exact ⟨by rw [H0.out HIR.out]; rfl, hBr⟩
end Go.Proofs.YtinnhaojmnmliaaGreat
namespace Go.Proofs.YtinnhaojmnmliaaGreat
open Go.RowKit

/-- What each clause tells. -/
noncomputable def clN (q : Qy) : Nat → Int
  | 0 => cl1 q
  | 1 => cl2 q
  | 2 => cl3 q
  | 3 => cl4 q
  | 4 => cl5 q
  | 5 => cl6 q
  | 6 => cl7 q
  | 7 => cl8 q
  | 8 => cl9 q
  | _ => 0
/-- What Check answers: the first that is not 0. -/
noncomputable def chkQ (q : Qy) : Int := lexN (clN q) 9
set_option maxRecDepth 100000 in
set_option maxHeartbeats 16000000 in
theorem checkQ_any (q : Qy) (w : World) (hQ : IsQ w q) (hok : QOk q) (hsm : q.bulk ≤ 1048576) : Calls Tryz.prog 10 #[q.val] w fun e w' => e = .returned (.int .i64 (chkQ q)) ∧ Below w.heap.size w w' := by
  have C0 : Hid (∀ d, Below w.heap.size w d → Calls Tryz.prog 22 #[q.val] d fun e w' => e = .returned (.int .i64 (clN q 0)) ∧ Below d.heap.size d w') := fun d h => cl1_any q d (hQ.later h) hok hsm
  have C1 : Hid (∀ d, Below w.heap.size w d → Calls Tryz.prog 23 #[q.val] d fun e w' => e = .returned (.int .i64 (clN q 1)) ∧ Below d.heap.size d w') := fun d h => cl2_any q d (hQ.later h) hok hsm
  have C2 : Hid (∀ d, Below w.heap.size w d → Calls Tryz.prog 24 #[q.val] d fun e w' => e = .returned (.int .i64 (clN q 2)) ∧ Below d.heap.size d w') := fun d h => cl3_any q d (hQ.later h) hok hsm
  have C3 : Hid (∀ d, Below w.heap.size w d → Calls Tryz.prog 25 #[q.val] d fun e w' => e = .returned (.int .i64 (clN q 3)) ∧ Below d.heap.size d w') := fun d h => cl4_any q d (hQ.later h) hok hsm
  have C4 : Hid (∀ d, Below w.heap.size w d → Calls Tryz.prog 26 #[q.val] d fun e w' => e = .returned (.int .i64 (clN q 4)) ∧ Below d.heap.size d w') := fun d h => cl5_any q d (hQ.later h) hok hsm
  have C5 : Hid (∀ d, Below w.heap.size w d → Calls Tryz.prog 27 #[q.val] d fun e w' => e = .returned (.int .i64 (clN q 5)) ∧ Below d.heap.size d w') := fun d h => cl6_any q d (hQ.later h) hok hsm
  have C6 : Hid (∀ d, Below w.heap.size w d → Calls Tryz.prog 28 #[q.val] d fun e w' => e = .returned (.int .i64 (clN q 6)) ∧ Below d.heap.size d w') := fun d h => cl7_any q d (hQ.later h) hok hsm
  have C7 : Hid (∀ d, Below w.heap.size w d → Calls Tryz.prog 29 #[q.val] d fun e w' => e = .returned (.int .i64 (clN q 7)) ∧ Below d.heap.size d w') := fun d h => cl8_any q d (hQ.later h) hok hsm
  have C8 : Hid (∀ d, Below w.heap.size w d → Calls Tryz.prog 30 #[q.val] d fun e w' => e = .returned (.int .i64 (clN q 8)) ∧ Below d.heap.size d w') := fun d h => cl9_any q d (hQ.later h) hok hsm
  have HF : Hid (∀ k, k < 9 → (∀ j, j < k → clN q j = 0) → ¬ clN q k = 0 → chkQ q = clN q k) := fun k hk hz hn => lexN_first (f := clN q) hk hz hn
  have HZ : Hid ((∀ j, j < 9 → clN q j = 0) → chkQ q = 0) := fun h => lexN_zero.2 h
  obtain ⟨v, hv⟩ : ∃ v, v = chkQ q := ⟨_, rfl⟩
  rw [← hv] at HF HZ ⊢
  clear hQ hok hsm hv
  go_enter Tryz.func10, Tryz.ntmps10
  go_upto_region 2 with fail
  obtain ⟨A, hA⟩ : ∃ A, (w.alloc (.cells q.cells 28)).alloc (.cells q.cells 50) = A := ⟨_, rfl⟩
  have hA' := hA
  unfold Qy.cells at hA'
  rw [hA']
  have hsz : A.heap.size = w.heap.size + 2 := by rw [← hA]; simp
  have hB : Below w.heap.size w A := by rw [← hA]; exact ((Below.refl _ w).alloc (Nat.le_refl _) _).alloc (by simp) _
  have hx1 : A.heap[w.heap.size + 1]? = some (.cells q.cells 50 (0, 0)) := by
    have := alloc_new (w.alloc (.cells q.cells 28)) (.cells q.cells 50)
    rw [World.size_alloc, hA] at this
    exact this
  obtain ⟨⟨k0, k1, k2, k3, k4, k5⟩, k6, k7, k8, k9, k10⟩ := qat0 hx1
  clear hA hA' hx1
  go_wp2_with fail
  obtain ⟨qv, hqv⟩ : ∃ qv : Value, qv = .agg #[.int .i64 q.p.k, .string q.p.s, .string q.p.t, .int .i64 q.p.lo, .int .i64 q.p.hi, .slice q.p.a q.p.n q.p.cap, .slice q.a q.n q.cap, .string q.key, .int .i64 q.mode, .int .i64 q.win, .slice q.ia q.m q.icap] := ⟨_, rfl⟩
  rw [← hqv]
  rw [show q.val = qv from hqv.symm] at C0
  rw [show q.val = qv from hqv.symm] at C1
  rw [show q.val = qv from hqv.symm] at C2
  rw [show q.val = qv from hqv.symm] at C3
  rw [show q.val = qv from hqv.symm] at C4
  rw [show q.val = qv from hqv.symm] at C5
  rw [show q.val = qv from hqv.symm] at C6
  rw [show q.val = qv from hqv.symm] at C7
  rw [show q.val = qv from hqv.symm] at C8
  have HSZ : Hid (A.heap.size = w.heap.size + 2) := hsz
  have HB : Hid (Below w.heap.size w A) := hB
  obtain ⟨F, hF⟩ : ∃ F, A.alloc (.cells #[.func (.func 22) #[qv] #[], .func (.func 23) #[qv] #[], .func (.func 24) #[qv] #[], .func (.func 25) #[qv] #[], .func (.func 26) #[qv] #[], .func (.func 27) #[qv] #[], .func (.func 28) #[qv] #[], .func (.func 29) #[qv] #[], .func (.func 30) #[qv] #[]] 51) = F := ⟨_, rfl⟩
  rw [hF]
  have hBF : Below A.heap.size A F := by rw [← hF]; exact (Below.refl _ _).alloc (Nat.le_refl _) _
  have hf := alloc_new A (.cells #[.func (.func 22) #[qv] #[], .func (.func 23) #[qv] #[], .func (.func 24) #[qv] #[], .func (.func 25) #[qv] #[], .func (.func 26) #[qv] #[], .func (.func 27) #[qv] #[], .func (.func 28) #[qv] #[], .func (.func 29) #[qv] #[], .func (.func 30) #[qv] #[]] 51)
  rw [hF, hsz] at hf
  have F0 : Hid (F.cell? ⟨w.heap.size + 2, 0, none⟩ = some (.func (.func 22) #[qv] #[])) := by show _ = _; simp [World.cell?, hf]
  have F1 : Hid (F.cell? ⟨w.heap.size + 2, 1, none⟩ = some (.func (.func 23) #[qv] #[])) := by show _ = _; simp [World.cell?, hf]
  have F2 : Hid (F.cell? ⟨w.heap.size + 2, 2, none⟩ = some (.func (.func 24) #[qv] #[])) := by show _ = _; simp [World.cell?, hf]
  have F3 : Hid (F.cell? ⟨w.heap.size + 2, 3, none⟩ = some (.func (.func 25) #[qv] #[])) := by show _ = _; simp [World.cell?, hf]
  have F4 : Hid (F.cell? ⟨w.heap.size + 2, 4, none⟩ = some (.func (.func 26) #[qv] #[])) := by show _ = _; simp [World.cell?, hf]
  have F5 : Hid (F.cell? ⟨w.heap.size + 2, 5, none⟩ = some (.func (.func 27) #[qv] #[])) := by show _ = _; simp [World.cell?, hf]
  have F6 : Hid (F.cell? ⟨w.heap.size + 2, 6, none⟩ = some (.func (.func 28) #[qv] #[])) := by show _ = _; simp [World.cell?, hf]
  have F7 : Hid (F.cell? ⟨w.heap.size + 2, 7, none⟩ = some (.func (.func 29) #[qv] #[])) := by show _ = _; simp [World.cell?, hf]
  have F8 : Hid (F.cell? ⟨w.heap.size + 2, 8, none⟩ = some (.func (.func 30) #[qv] #[])) := by show _ = _; simp [World.cell?, hf]
  clear hf hF hsz hB k0 k1 k2 k3 k4 k5 k6 k7 k8 k9 k10 hqv
  have hwF : Below w.heap.size w F := HB.out.trans (hBF.mono HB.out.size)
  go_loopw [28] (fun u wr => ∃ k : Nat, k ≤ 9 ∧ u = .int .i64 k ∧ Hid (∀ j, j < k → clN q j = 0) ∧ Below F.heap.size F wr) (fun u _ => 9 - (intOf u).toNat)
  case atStart => exact ⟨0, Nat.zero_le _, rfl, fun j hj => absurd hj (Nat.not_lt_zero _), Below.refl _ _⟩
  case round =>
    obtain ⟨k, hk, rfl, HK, hBr⟩ := hrel
    have hw := hwF.trans (hBr.mono hwF.size)
    by_cases hkn : k < 9
    · have hcs : k = 0 ∨ k = 1 ∨ k = 2 ∨ k = 3 ∨ k = 4 ∨ k = 5 ∨ k = 6 ∨ k = 7 ∨ k = 8 := by omega
      clear hk hkn
      rcases hcs with rfl | rfl | rfl | rfl | rfl | rfl | rfl | rfl | rfl
      · have c := cell_later F0.out hBr
        have hc := C0.out wr hw
        obtain ⟨z, hz⟩ : ∃ z, z = clN q 0 := ⟨_, rfl⟩
        rw [← hz] at hc
        have HE : Hid (z = clN q 0) := hz
        have HW : Hid (Below w.heap.size w wr) := hw
        clear hz hw
        by_cases hz0 : z = 0
        · have t : (z != 0) = false := by simp [hz0]
          have HZ0 : Hid (z = 0) := hz0
          clear hz0
          go_wp2_with (first | (go_at_call 22; refine hc.mono ?_; clear hc; rintro e w2 ⟨rfl, hB2⟩))
          have hnx : ∀ j, j < 0 + 1 → clN q j = 0 := fun j hj => by
            by_cases e : j = 0
            · rw [e, ← HE.out]; exact HZ0.out
            · exact HK.out j (by omega)
          first
            | (refine ⟨⟨0 + 1, by omega, by simp, hnx, hBr.trans (hB2.mono hBr.size)⟩, ?_⟩
               simp [intOf])
            | (go_roundw
               case rel => exact ⟨0 + 1, by omega, by go_num, hnx, hBr.trans (hB2.mono hBr.size)⟩
               case measure => simp [intOf])
        · have t : (z != 0) = true := by simp [hz0]
          have HZ0 : Hid (¬ z = 0) := hz0
          clear hz0
          go_wp2_with (first | (go_at_call 22; refine hc.mono ?_; clear hc; rintro e w2 ⟨rfl, hB2⟩))
          try rw [Exit.noGoto_ret]
          go_ret
          exact ⟨by rw [HF.out 0 (by omega) HK.out (HE.out ▸ HZ0.out), ← HE.out]; rfl, HW.out.trans (hB2.mono HW.out.size)⟩
      · have c := cell_later F1.out hBr
        have hc := C1.out wr hw
        obtain ⟨z, hz⟩ : ∃ z, z = clN q 1 := ⟨_, rfl⟩
        rw [← hz] at hc
        have HE : Hid (z = clN q 1) := hz
        have HW : Hid (Below w.heap.size w wr) := hw
        clear hz hw
        by_cases hz0 : z = 0
        · have t : (z != 0) = false := by simp [hz0]
          have HZ0 : Hid (z = 0) := hz0
          clear hz0
          go_wp2_with (first | (go_at_call 23; refine hc.mono ?_; clear hc; rintro e w2 ⟨rfl, hB2⟩))
          have hnx : ∀ j, j < 1 + 1 → clN q j = 0 := fun j hj => by
            by_cases e : j = 1
            · rw [e, ← HE.out]; exact HZ0.out
            · exact HK.out j (by omega)
          first
            | (refine ⟨⟨1 + 1, by omega, by simp, hnx, hBr.trans (hB2.mono hBr.size)⟩, ?_⟩
               simp [intOf])
            | (go_roundw
               case rel => exact ⟨1 + 1, by omega, by go_num, hnx, hBr.trans (hB2.mono hBr.size)⟩
               case measure => simp [intOf])
        · have t : (z != 0) = true := by simp [hz0]
          have HZ0 : Hid (¬ z = 0) := hz0
          clear hz0
          go_wp2_with (first | (go_at_call 23; refine hc.mono ?_; clear hc; rintro e w2 ⟨rfl, hB2⟩))
          try rw [Exit.noGoto_ret]
          go_ret
          exact ⟨by rw [HF.out 1 (by omega) HK.out (HE.out ▸ HZ0.out), ← HE.out]; rfl, HW.out.trans (hB2.mono HW.out.size)⟩
      · have c := cell_later F2.out hBr
        have hc := C2.out wr hw
        obtain ⟨z, hz⟩ : ∃ z, z = clN q 2 := ⟨_, rfl⟩
        rw [← hz] at hc
        have HE : Hid (z = clN q 2) := hz
        have HW : Hid (Below w.heap.size w wr) := hw
        clear hz hw
        by_cases hz0 : z = 0
        · have t : (z != 0) = false := by simp [hz0]
          have HZ0 : Hid (z = 0) := hz0
          clear hz0
          go_wp2_with (first | (go_at_call 24; refine hc.mono ?_; clear hc; rintro e w2 ⟨rfl, hB2⟩))
          have hnx : ∀ j, j < 2 + 1 → clN q j = 0 := fun j hj => by
            by_cases e : j = 2
            · rw [e, ← HE.out]; exact HZ0.out
            · exact HK.out j (by omega)
          first
            | (refine ⟨⟨2 + 1, by omega, by simp, hnx, hBr.trans (hB2.mono hBr.size)⟩, ?_⟩
               simp [intOf])
            | (go_roundw
               case rel => exact ⟨2 + 1, by omega, by go_num, hnx, hBr.trans (hB2.mono hBr.size)⟩
               case measure => simp [intOf])
        · have t : (z != 0) = true := by simp [hz0]
          have HZ0 : Hid (¬ z = 0) := hz0
          clear hz0
          go_wp2_with (first | (go_at_call 24; refine hc.mono ?_; clear hc; rintro e w2 ⟨rfl, hB2⟩))
          try rw [Exit.noGoto_ret]
          go_ret
          exact ⟨by rw [HF.out 2 (by omega) HK.out (HE.out ▸ HZ0.out), ← HE.out]; rfl, HW.out.trans (hB2.mono HW.out.size)⟩
      · have c := cell_later F3.out hBr
        have hc := C3.out wr hw
        obtain ⟨z, hz⟩ : ∃ z, z = clN q 3 := ⟨_, rfl⟩
        rw [← hz] at hc
        have HE : Hid (z = clN q 3) := hz
        have HW : Hid (Below w.heap.size w wr) := hw
        clear hz hw
        by_cases hz0 : z = 0
        · have t : (z != 0) = false := by simp [hz0]
          have HZ0 : Hid (z = 0) := hz0
          clear hz0
          go_wp2_with (first | (go_at_call 25; refine hc.mono ?_; clear hc; rintro e w2 ⟨rfl, hB2⟩))
          have hnx : ∀ j, j < 3 + 1 → clN q j = 0 := fun j hj => by
            by_cases e : j = 3
            · rw [e, ← HE.out]; exact HZ0.out
            · exact HK.out j (by omega)
          first
            | (refine ⟨⟨3 + 1, by omega, by simp, hnx, hBr.trans (hB2.mono hBr.size)⟩, ?_⟩
               simp [intOf])
            | (go_roundw
               case rel => exact ⟨3 + 1, by omega, by go_num, hnx, hBr.trans (hB2.mono hBr.size)⟩
               case measure => simp [intOf])
        · have t : (z != 0) = true := by simp [hz0]
          have HZ0 : Hid (¬ z = 0) := hz0
          clear hz0
          go_wp2_with (first | (go_at_call 25; refine hc.mono ?_; clear hc; rintro e w2 ⟨rfl, hB2⟩))
          try rw [Exit.noGoto_ret]
          go_ret
          exact ⟨by rw [HF.out 3 (by omega) HK.out (HE.out ▸ HZ0.out), ← HE.out]; rfl, HW.out.trans (hB2.mono HW.out.size)⟩
      · have c := cell_later F4.out hBr
        have hc := C4.out wr hw
        obtain ⟨z, hz⟩ : ∃ z, z = clN q 4 := ⟨_, rfl⟩
        rw [← hz] at hc
        have HE : Hid (z = clN q 4) := hz
        have HW : Hid (Below w.heap.size w wr) := hw
        clear hz hw
        by_cases hz0 : z = 0
        · have t : (z != 0) = false := by simp [hz0]
          have HZ0 : Hid (z = 0) := hz0
          clear hz0
          go_wp2_with (first | (go_at_call 26; refine hc.mono ?_; clear hc; rintro e w2 ⟨rfl, hB2⟩))
          have hnx : ∀ j, j < 4 + 1 → clN q j = 0 := fun j hj => by
            by_cases e : j = 4
            · rw [e, ← HE.out]; exact HZ0.out
            · exact HK.out j (by omega)
          first
            | (refine ⟨⟨4 + 1, by omega, by simp, hnx, hBr.trans (hB2.mono hBr.size)⟩, ?_⟩
               simp [intOf])
            | (go_roundw
               case rel => exact ⟨4 + 1, by omega, by go_num, hnx, hBr.trans (hB2.mono hBr.size)⟩
               case measure => simp [intOf])
        · have t : (z != 0) = true := by simp [hz0]
          have HZ0 : Hid (¬ z = 0) := hz0
          clear hz0
          go_wp2_with (first | (go_at_call 26; refine hc.mono ?_; clear hc; rintro e w2 ⟨rfl, hB2⟩))
          try rw [Exit.noGoto_ret]
          go_ret
          exact ⟨by rw [HF.out 4 (by omega) HK.out (HE.out ▸ HZ0.out), ← HE.out]; rfl, HW.out.trans (hB2.mono HW.out.size)⟩
      · have c := cell_later F5.out hBr
        have hc := C5.out wr hw
        obtain ⟨z, hz⟩ : ∃ z, z = clN q 5 := ⟨_, rfl⟩
        rw [← hz] at hc
        have HE : Hid (z = clN q 5) := hz
        have HW : Hid (Below w.heap.size w wr) := hw
        clear hz hw
        by_cases hz0 : z = 0
        · have t : (z != 0) = false := by simp [hz0]
          have HZ0 : Hid (z = 0) := hz0
          clear hz0
          go_wp2_with (first | (go_at_call 27; refine hc.mono ?_; clear hc; rintro e w2 ⟨rfl, hB2⟩))
          have hnx : ∀ j, j < 5 + 1 → clN q j = 0 := fun j hj => by
            by_cases e : j = 5
            · rw [e, ← HE.out]; exact HZ0.out
            · exact HK.out j (by omega)
          first
            | (refine ⟨⟨5 + 1, by omega, by simp, hnx, hBr.trans (hB2.mono hBr.size)⟩, ?_⟩
               simp [intOf])
            | (go_roundw
               case rel => exact ⟨5 + 1, by omega, by go_num, hnx, hBr.trans (hB2.mono hBr.size)⟩
               case measure => simp [intOf])
        · have t : (z != 0) = true := by simp [hz0]
          have HZ0 : Hid (¬ z = 0) := hz0
          clear hz0
          go_wp2_with (first | (go_at_call 27; refine hc.mono ?_; clear hc; rintro e w2 ⟨rfl, hB2⟩))
          try rw [Exit.noGoto_ret]
          go_ret
          exact ⟨by rw [HF.out 5 (by omega) HK.out (HE.out ▸ HZ0.out), ← HE.out]; rfl, HW.out.trans (hB2.mono HW.out.size)⟩
      · have c := cell_later F6.out hBr
        have hc := C6.out wr hw
        obtain ⟨z, hz⟩ : ∃ z, z = clN q 6 := ⟨_, rfl⟩
        rw [← hz] at hc
        have HE : Hid (z = clN q 6) := hz
        have HW : Hid (Below w.heap.size w wr) := hw
        clear hz hw
        by_cases hz0 : z = 0
        · have t : (z != 0) = false := by simp [hz0]
          have HZ0 : Hid (z = 0) := hz0
          clear hz0
          go_wp2_with (first | (go_at_call 28; refine hc.mono ?_; clear hc; rintro e w2 ⟨rfl, hB2⟩))
          have hnx : ∀ j, j < 6 + 1 → clN q j = 0 := fun j hj => by
            by_cases e : j = 6
            · rw [e, ← HE.out]; exact HZ0.out
            · exact HK.out j (by omega)
          first
            | (refine ⟨⟨6 + 1, by omega, by simp, hnx, hBr.trans (hB2.mono hBr.size)⟩, ?_⟩
               simp [intOf])
            | (go_roundw
               case rel => exact ⟨6 + 1, by omega, by go_num, hnx, hBr.trans (hB2.mono hBr.size)⟩
               case measure => simp [intOf])
        · have t : (z != 0) = true := by simp [hz0]
          have HZ0 : Hid (¬ z = 0) := hz0
          clear hz0
          go_wp2_with (first | (go_at_call 28; refine hc.mono ?_; clear hc; rintro e w2 ⟨rfl, hB2⟩))
          try rw [Exit.noGoto_ret]
          go_ret
          exact ⟨by rw [HF.out 6 (by omega) HK.out (HE.out ▸ HZ0.out), ← HE.out]; rfl, HW.out.trans (hB2.mono HW.out.size)⟩
      · have c := cell_later F7.out hBr
        have hc := C7.out wr hw
        obtain ⟨z, hz⟩ : ∃ z, z = clN q 7 := ⟨_, rfl⟩
        rw [← hz] at hc
        have HE : Hid (z = clN q 7) := hz
        have HW : Hid (Below w.heap.size w wr) := hw
        clear hz hw
        by_cases hz0 : z = 0
        · have t : (z != 0) = false := by simp [hz0]
          have HZ0 : Hid (z = 0) := hz0
          clear hz0
          go_wp2_with (first | (go_at_call 29; refine hc.mono ?_; clear hc; rintro e w2 ⟨rfl, hB2⟩))
          have hnx : ∀ j, j < 7 + 1 → clN q j = 0 := fun j hj => by
            by_cases e : j = 7
            · rw [e, ← HE.out]; exact HZ0.out
            · exact HK.out j (by omega)
          first
            | (refine ⟨⟨7 + 1, by omega, by simp, hnx, hBr.trans (hB2.mono hBr.size)⟩, ?_⟩
               simp [intOf])
            | (go_roundw
               case rel => exact ⟨7 + 1, by omega, by go_num, hnx, hBr.trans (hB2.mono hBr.size)⟩
               case measure => simp [intOf])
        · have t : (z != 0) = true := by simp [hz0]
          have HZ0 : Hid (¬ z = 0) := hz0
          clear hz0
          go_wp2_with (first | (go_at_call 29; refine hc.mono ?_; clear hc; rintro e w2 ⟨rfl, hB2⟩))
          try rw [Exit.noGoto_ret]
          go_ret
          exact ⟨by rw [HF.out 7 (by omega) HK.out (HE.out ▸ HZ0.out), ← HE.out]; rfl, HW.out.trans (hB2.mono HW.out.size)⟩
      · have c := cell_later F8.out hBr
        have hc := C8.out wr hw
        obtain ⟨z, hz⟩ : ∃ z, z = clN q 8 := ⟨_, rfl⟩
        rw [← hz] at hc
        have HE : Hid (z = clN q 8) := hz
        have HW : Hid (Below w.heap.size w wr) := hw
        clear hz hw
        by_cases hz0 : z = 0
        · have t : (z != 0) = false := by simp [hz0]
          have HZ0 : Hid (z = 0) := hz0
          clear hz0
          go_wp2_with (first | (go_at_call 30; refine hc.mono ?_; clear hc; rintro e w2 ⟨rfl, hB2⟩))
          have hnx : ∀ j, j < 8 + 1 → clN q j = 0 := fun j hj => by
            by_cases e : j = 8
            · rw [e, ← HE.out]; exact HZ0.out
            · exact HK.out j (by omega)
          first
            | (refine ⟨⟨8 + 1, by omega, by simp, hnx, hBr.trans (hB2.mono hBr.size)⟩, ?_⟩
               simp [intOf])
            | (go_roundw
               case rel => exact ⟨8 + 1, by omega, by go_num, hnx, hBr.trans (hB2.mono hBr.size)⟩
               case measure => simp [intOf])
        · have t : (z != 0) = true := by simp [hz0]
          have HZ0 : Hid (¬ z = 0) := hz0
          clear hz0
          go_wp2_with (first | (go_at_call 30; refine hc.mono ?_; clear hc; rintro e w2 ⟨rfl, hB2⟩))
          try rw [Exit.noGoto_ret]
          go_ret
          exact ⟨by rw [HF.out 8 (by omega) HK.out (HE.out ▸ HZ0.out), ← HE.out]; rfl, HW.out.trans (hB2.mono HW.out.size)⟩
    · obtain rfl : k = 9 := by omega
      go_wp2
      go_ret
      exact ⟨by rw [HZ.out HK.out]; rfl, hw⟩
end Go.Proofs.YtinnhaojmnmliaaGreat
