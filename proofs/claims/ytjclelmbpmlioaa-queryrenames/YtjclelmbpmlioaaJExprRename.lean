/-
  expr.Rename.
-/
import Derived.Test.YtjclelmbpmlioaaJExprCopied
import Derived.Sort.CutIn
import Derived.Lib.MinMax
namespace Go.Proofs.Ytjclelmbpmlioaa
open Go.RowKit Go.Shelf Go.Maps Go.WideMaps
attribute [local go_sem] Oper.semAt_some

theorem xOk_same : ∀ y x : X, ordX y x = 0 → XOk x → XOk y := by
  refine X.ind fun y ih x h hx => ?_
  obtain ⟨h1, h2, h3, h4, h5, h6⟩ := (ordX_zero _ _).1 h
  rw [xOk_eq] at hx ⊢
  exact ⟨h3 ▸ hx.1, h4 ▸ hx.2.1, fun i hi => ih i hi (x.c i) (h6 i hi) (hx.2.2 i (h5 ▸ hi))⟩
theorem lb_set7 {N1 b : Nat} {W : World} {y : X} : Lb N1 b W (set7 W b y) :=
  (((((Lb.set (.inl rfl)).trans (.set (.inl rfl))).trans (.set (.inl rfl))).trans (.set (.inl rfl))).trans (.set (.inl rfl))).trans ((Lb.set (.inl rfl)).trans (.set (.inl rfl)))
set_option maxRecDepth 100000 in
set_option maxHeartbeats 4000000 in
theorem renameN_in (n : Nat) (x : X) (a a' : Option Addr) (m m' cap cap' : Nat) (S T : Nat → ByteArray) (w : World) (hX : IsX w x) (hsm : WdX x) (hok : XOk x)
    (hS : Txs w a m S) (hT : Txs w a' m' T) (hm : m ≤ 9223372036854775807) (hm' : m' ≤ 9223372036854775807) (hc : m ≤ cap) (_ : cap ≤ 9223372036854775807) (zS : ∀ j, j < m → (S j).size ≤ maxLen) :
    CallsIn Fence.wide n Try.prog 36 #[x.val, .slice a m cap, .slice a' m' cap'] w fun e w' => ∃ y : X, e = .returned y.val ∧ XA w' y ∧ ordX y (renX (nameX S T (min m m')) x) = 0 ∧ (∀ k, inX k y → w.heap.size ≤ k) ∧ Below w.heap.size w w' := by
  have hdd : ∀ k : Nat, (Fence.wide.depth.isSome = true → 1 ≤ k) := fun k h => by cases h
  refine callsIn_of_wp_marks Try.func36 rfl trivial ?_ rfl
  simp only [Try.ntmps36, List.size_toArray, List.length_cons, List.length_nil, Nat.reduceAdd, Nat.reduceSub, Array.replicate_succ, Array.replicate_zero, List.push_toArray, List.append_toArray, List.nil_append, List.cons_append]
  obtain ⟨A, hA⟩ : ∃ A, ((w.alloc (.cells x.cells 68)).alloc (.cells #[.slice a' m' cap'] 25)).alloc (.cells X.nil.cells 68) = A := ⟨_, rfl⟩
  have hsz : A.heap.size = w.heap.size + 3 := by rw [← hA]; simp
  have hB : Below w.heap.size w A := by rw [← hA]; exact (((Below.refl _ w).alloc (Nat.le_refl _) _).alloc (by simp) _).alloc (by simp; omega) _
  have hx0 : A.heap[w.heap.size]? = some (.cells x.cells 68 (0, 0)) := by
    rw [← hA]
    exact (alloc_old (by simp; omega)).trans ((alloc_old (by simp)).trans (alloc_new _ _))
  have hx1 : Boxed A (w.heap.size + 1) 25 (.slice a' m' cap') := by
    have := (Boxed.new (w.alloc (.cells x.cells 68)) 25 (.slice a' m' cap')).alloc (.cells X.nil.cells 68)
    rw [World.size_alloc, hA] at this
    exact this
  have hx2 : A.heap[w.heap.size + 2]? = some (.cells X.nil.cells 68 (0, 0)) := by
    have := alloc_new ((w.alloc (.cells x.cells 68)).alloc (.cells #[.slice a' m' cap'] 25)) (.cells X.nil.cells 68)
    rw [World.size_alloc, World.size_alloc, hA] at this
    exact this
  gi_wp2
  rw [show min (m : Int) (m' : Int) = ((min m m' : Nat) : Int) by omega, Int.toNat_natCast]
  have hq1 : min m m' ≤ m := Nat.min_le_left _ _
  have hq2 : min m m' ≤ m' := Nat.min_le_right _ _
  obtain ⟨q, hq⟩ : ∃ q : Nat, q = min m m' := ⟨_, rfl⟩
  rw [← hq] at hq1 hq2 ⊢
  have HQ : Hid (q = min m m') := hq
  clear hq
  have hfir := firsts_in (n - 1) a q cap S A (fun h0 => by obtain ⟨b, o, e, hc⟩ := hS.later hB (by omega); exact ⟨b, o, e, fun j hj => hc j (by omega)⟩) (by omega) (fun j hj => zS j (by omega))
  refine ⟨trivial, hdd _, ?_⟩
  gi_at_call 52
  rw [hsz] at hfir
  refine CallsIn.mono (by rw [← hA] at hfir; exact hfir) ?_
  clear hfir
  rw [hA]
  rintro e W1 ⟨rfl, ⟨D, hown, hF⟩, hB1⟩
  have y0 := (hB1.block w.heap.size (by omega)).trans hx0
  have y1 := Boxed.kept_of hx1 hB1 (by omega)
  have y2 := (hB1.block (w.heap.size + 2) (by omega)).trans hx2
  gi_upto_region 2 with (fail)
  obtain ⟨W2, hW2⟩ : ∃ W2, W1.alloc (.cells #[.map (some (w.heap.size + 3))] 47) = W2 := ⟨_, rfl⟩
  have hs1 : w.heap.size + 4 ≤ W1.heap.size := hown.lt
  have z0 : W2.heap[w.heap.size]? = some (.cells x.cells 68 (0, 0)) := by rw [← hW2]; exact (alloc_old (by omega)).trans y0
  have z1 : Boxed W2 (w.heap.size + 1) 25 (.slice a' m' cap') := hW2 ▸ y1.alloc _
  have z2 : W2.heap[w.heap.size + 2]? = some (.cells X.nil.cells 68 (0, 0)) := by rw [← hW2]; exact (alloc_old (by omega)).trans y2
  have zm : Boxed W2 W1.heap.size 47 (.map (some (w.heap.size + 3))) := hW2 ▸ Boxed.new _ _ _
  have zo : W2.ownsMap Try.prog 9 (plainElem (H := Unit) Try.prog 3) (w.heap.size + 3) q D := hW2 ▸ hown.alloc _
  have hB2 : Below w.heap.size w W2 := by rw [← hW2]; exact (hB.trans (hB1.mono (by omega))).alloc (by omega) _
  have hs2 : W2.heap.size = W1.heap.size + 1 := by rw [← hW2]; simp
  have hX2 : IsX W2 x := hX.later hB2
  rw [hW2]
  clear hW2 hB1 y0 y1 y2 hown hx0 hx1 hx2 hA hsz hB hS hX
  obtain ⟨d0, d1, d2, d3, d4, d5, d6⟩ := (node_box z0).at0
  gi_wp2_with (first
    | (refine ⟨trivial, hdd _, ?_⟩; gi_at_call 53; refine (copied_inW _ x W2 hX2 hsm).mono ?_; rintro e W3 ⟨y, rfl, hXA, hord, hin, hB3⟩; have u0 := (hB3.block w.heap.size (by omega)).trans z0; obtain ⟨e0, e1, e2, e3, e4, e5, e6⟩ := (node_box u0).at0; have ff : ∀ j, W3.frozen? ⟨w.heap.size, j, none⟩ = false := fun j => Free.frozen ⟨_, u0⟩ j; have f0 := ff 0; have f1 := ff 1; have f2 := ff 2; have f3 := ff 3; have f4 := ff 4; have f5 := ff 5; have f6 := ff 6; clear ff)
    | (refine ⟨trivial, hdd _, ?_⟩; gi_at_call 54; refine (nodes_in _ _ _).mono ?_; rintro e w' ⟨rfl, rfl⟩))
  clear d0 d1 d2 d3 d4 d5 d6 e0 e1 e2 e3 e4 e5 e6 f0 f1 f2 f3 f4 f5 f6
  obtain ⟨W4, hW4⟩ : ∃ W4, (set7 W3 w.heap.size y).alloc (.cells #[.pointer (some ⟨w.heap.size, 0, none⟩)] 91) = W4 := ⟨_, rfl⟩
  rw [hW4]
  have hs3 : (set7 W3 w.heap.size y).heap.size = W3.heap.size := by simp
  have hs4 : W4.heap.size = W3.heap.size + 1 := by rw [← hW4]; simp
  have hn4 : W4.heap[w.heap.size]? = some (.cells y.cells 68 (0, 0)) := by
    rw [← hW4]
    exact (alloc_old (by rw [hs3]; have := hB3.size; omega)).trans (heap_set7 u0)
  have hp4 : Boxed W4 W3.heap.size 91 (.pointer (some ⟨w.heap.size, 0, none⟩)) := by
    have := Boxed.new (set7 W3 w.heap.size y) 91 (.pointer (some ⟨w.heap.size, 0, none⟩))
    rw [hs3, hW4] at this
    exact this
  have hl4 : Lb W2.heap.size w.heap.size W2 W4 := by
    rw [← hW4]
    exact ((Lb.of_below hB3).trans lb_set7).trans (.of_below ((Below.refl _ _).alloc (by rw [hs3]; exact hB3.size) _))
  have hx4 : XA W4 y := by
    rw [← hW4]
    refine XA.later ((Below.refl _ _).alloc (Nat.le_refl _) _) (hXA.kept (T := fun k => k ≠ w.heap.size) (fun k o hk _ e => (heap_set7_other hk).trans e) fun k hk => ?_)
    have := hin k hk
    omega
  have hok' := xOk_same y x hord hok
  have lt2 : W1.heap.size < W2.heap.size := by omega
  have lt4 : W3.heap.size < W4.heap.size := by omega
  generalize W1.heap.size = M1 at hs1 lt2 zm ⊢
  generalize W3.heap.size = M3 at hp4 lt4 ⊢
  clear hW4 hs3 u0 hXA hB3 z0 hX2 hs2 hs4 W3 W1
  refine nodes_walk (ι := X) M3 w.heap.size 0 y X.n X.c X.size (RenPre W2.heap.size w.heap.size W2) (RenGo (nameX S T q) W2.heap.size w.heap.size) (RenMid (nameX S T q) W2.heap.size w.heap.size W2) (RenPost (nameX S T q) W2.heap.size w.heap.size)
    rfl rfl hp4.cell X.size_part (fun v b o W B hag h => h.ag hag hl4.size) (fun v b o W B B' W' hag hag' h => h.ag hag hag' hl4.size) (fun v b o W W' B hag h => h.ag hag hl4.size)
    (fun W hW hs => ?_)
    (fun d b o => { tmps := #[x.val, .slice a m cap, .slice a' m' cap', .pointer (some ⟨w.heap.size, 0, none⟩), undef, .pointer (some ⟨w.heap.size + 1, 0, none⟩), .pointer (some ⟨w.heap.size + 1 + 1, 0, none⟩), .pointer (some ⟨M1, 0, none⟩), undef, .pointer (some ⟨b, o, none⟩), undef, undef, .slice a m cap, .slice a m cap, .int .i64 m, .slice a' m' cap', .int .i64 m', .int .i64 q, .slice a q cap, .map (some (w.heap.size + 3)), x.val, y.val, .func (.func 62) #[] #[.pointer (some ⟨M3, 0, none⟩)], .int .i64 d, .pointer (some ⟨b, o, none⟩), undef, undef, undef, undef, undef, undef, undef, undef, undef, undef, undef, undef, undef, undef, undef, undef, undef, undef, undef, undef, undef, undef, undef, undef, undef], defers := [] }) ?_ ?_
    (fun v b o W W' hp hg => hg.mid hp) ?_ (fun v b o W a cap i Wi h hi => h.next hi) (fun v b o W a cap Wi h => h.done) ?_
  · exact ⟨(node_box hn4).below hW (by have := hl4.size; omega), hx4.later hW, fun hk => by have := hin _ hk; omega, ⟨_, (hW.block _ (by have := hl4.size; omega)).trans hn4⟩, .inl rfl, hin, hok', hl4.trans (.of_below (hW.mono hl4.size))⟩
  · intro l d b o W K hK
    gi_wp2
    first | exact hK | simpa using hK
  · rintro l d b o v W ⟨p1, p2, p3, p4, p5, p6, p7, p8⟩ hs ⟨u2, b2⟩ ⟨u3, b3⟩
    have ne2 := p4.ne b2 (by decide)
    have ne3 := p4.ne b3 (by decide)
    have HP := p1
    obtain ⟨d0, d1, d2, d3, d4, d5, d6⟩ := p1
    have fb := p4.frozen (o + 4)
    have k1 := (p8.boxed z1 (by omega) (by omega)).cell
    have km := (p8.boxed zm (by omega) (by omega)).cell
    obtain ⟨c, hrun, hcj⟩ := look_at (p8.map (by omega) (by omega) zo).drew hF ((xOk_eq v).1 p7).1
    have hTW : Txs W a' m' T := hT.later (hB2.trans (p8.below (by have := hB2.size; omega) (Nat.le_refl _)))
    have hmix : Try.prog.follows .mixedOrders = true := by kernel_rfl
    have stay : nameX S T q v.s = v.s ∨ ¬ v.k = 2 → walkPost W4.heap.size (RenGo (nameX S T q) W2.heap.size w.heap.size v b o W) W .normal ⟨#[], []⟩ W.drew := fun h => by
      refine ⟨⟨Nat.le_refl _, fun _ _ _ h _ => h⟩, fun _ _ _ _ e => e, ?_, Kb.of_below _ _ _ (Below.refl _ _).drew, .of_below (Below.refl _ _).drew⟩
      obtain ⟨a1, a2, a3, a4, a5, a6⟩ := renX_parts (nameX S T q) v
      have a3' : (renX (nameX S T q) v).s = v.s := by
        rw [a3]
        rcases h with h | h
        · rw [h]; exact ite_self _
        · exact if_neg h
      unfold Node
      rw [a1, a2, a3', a4, a5, (renX_slice _ v).1, (renX_slice _ v).2]
      exact HP
    cases hf : fstS S v.s q with
    | none =>
      rw [hf] at hrun
      simp only [Option.isSome] at hrun
      have hst := stay (.inl (by simp [nameX, hf]))
      clear stay hcj hf
      gi_wp2
      gi_region_with_o (fail)
      all_goals gi_wp2
      all_goals exact hst
    | some j =>
      rw [hf] at hrun
      simp only [Option.isSome] at hrun
      obtain rfl := hcj j hf
      by_cases hk : v.k = 2
      · have hk' : (v.k == 2) = true := by simpa using hk
        obtain ⟨hj1, -⟩ := fstS_some hf
        have hjm : j < m' := by omega
        obtain ⟨bt, ot, rfl, ht⟩ := hTW (by omega)
        have htj := ht j hjm
        have hst : walkPost W4.heap.size (RenGo (nameX S T q) W2.heap.size w.heap.size v b o W) W .normal ⟨#[], []⟩ (W.drew.setCell ⟨b, o + 4, none⟩ (.string (T j))) := by
          have k0 : KeepsOthers W W.drew := ⟨Nat.le_refl _, fun _ _ h _ => h⟩
          refine ⟨(k0.trans (KeepsOthers.setCell _ _ _)).from _, ?_, ?_, (Kb.of_below _ _ _ (Below.refl _ _).drew).trans (Kb.set _ _ _ _ _), (Lb.of_below (Below.refl _ _).drew).trans (Lb.set p5)⟩
          · refine Kp.trans (B := W.drew) (fun _ _ _ _ e => e) (Kp.set _ ?_)
            rintro (h | h)
            · exact ne2 h
            · exact ne3 h
          · obtain ⟨a1, a2, a3, a4, a5, a6⟩ := renX_parts (nameX S T q) v
            have a3' : (renX (nameX S T q) v).s = T j := by
              rw [a3, if_pos hk]
              simp [nameX, hf]
            unfold Node
            rw [a1, a2, a3', a4, a5, (renX_slice _ v).1, (renX_slice _ v).2]
            refine ⟨?_, ?_, ?_, ?_, World.cell?_setCell_same W.drew _ _ d4, ?_, ?_⟩
            · exact (World.cell?_setCell_other _ _ _ _ (by intro e; injection e with _ e; omega)).trans d0
            · exact (World.cell?_setCell_other _ _ _ _ (by intro e; injection e with _ e; omega)).trans d1
            · exact (World.cell?_setCell_other _ _ _ _ (by intro e; injection e with _ e; omega)).trans d2
            · exact (World.cell?_setCell_other _ _ _ _ (by intro e; injection e with _ e; omega)).trans d3
            · exact (World.cell?_setCell_other _ _ _ _ (by intro e; injection e with _ e; omega)).trans d5
            · exact (World.cell?_setCell_other _ _ _ _ (by intro e; injection e with _ e; omega)).trans d6
        clear stay hcj hTW ht hf hk
        gi_wp2
        gi_region_with_o (fail)
        all_goals gi_wp2
        all_goals first
          | exact hst
          | go_show
      · have hk' : (v.k == 2) = false := by simpa using hk
        have hst := stay (.inr hk)
        clear stay hcj hf hk
        gi_wp2
        gi_region_with_o (fail)
        all_goals gi_wp2
        all_goals exact hst
  · rintro v b o W a cap i Wi ⟨rfl, rfl, m1, m2, mp, -⟩
    have := (xA_eq _ _).1 mp.2.1
    obtain ⟨a1, a2, a3, a4, a5, a6⟩ := renX_parts (nameX S T q) v
    have m26 := m2.2.2.2.2.2.2
    rw [a5, (renX_slice _ v).1, (renX_slice _ v).2] at m26
    exact ⟨by omega, m26⟩
  · rintro D' W5 W hD hW5 hs ⟨h1, h2, h3, h4⟩ hK
    have hBw : Below w.heap.size w W := ((hB2.trans (hl4.below hB2.size (Nat.le_refl _))).trans (hW5.mono (by have := hl4.size; have := hB2.size; omega))).trans (h4.below hB2.size (Nat.le_refl _))
    have hres2 : W.heap[w.heap.size + 2]? = some (.cells X.nil.cells 68 (0, 0)) := (h4.block _ (by omega) (by omega)).trans ((hW5.block _ (by have := hl4.size; omega)).trans ((hl4.block _ (by omega) (by omega)).trans z2))
    obtain ⟨y', hy'⟩ : ∃ y', y' = renX (nameX S T q) y := ⟨_, rfl⟩
    rw [← hy'] at h1 h2
    have hor : ordX y' (renX (nameX S T (min m m')) x) = 0 := by
      rw [hy', ← HQ.out]
      exact renX_same _ y x hord
    have hin' : ∀ k, inX k y' → W2.heap.size ≤ k := fun k hk => hin k ((inX_ren _ k y).1 (hy' ▸ hk))
    clear hy' h3 h4
    obtain ⟨d0, d1, d2, d3, d4, d5, d6⟩ := h1.at0
    have gf : ∀ j, W.frozen? ⟨w.heap.size + 2, j, none⟩ = false := fun j => Free.frozen ⟨_, hres2⟩ j
    obtain ⟨e0, e1, e2, e3, e4, e5, e6⟩ := (node_box hres2).at0
    have f0 := gf 0
    have f1 := gf 1
    have f2 := gf 2
    have f3 := gf 3
    have f4 := gf 4
    have f5 := gf 5
    have f6 := gf 6
    have hblk : (set7 W (w.heap.size + 2) y').heap[w.heap.size + 2]? = some (.cells y'.cells 68 (0, 0)) := heap_set7 hres2
    have hK' : (set7 W (w.heap.size + 2) y').heap[D']? = some (.deferred (some [])) := (heap_set7_other (by have := hl4.size; omega)).trans hK
    have hBf : Below w.heap.size w (set7 W (w.heap.size + 2) y') := below_set7 hBw (by omega)
    have hkp : Kp (fun k => k ≠ w.heap.size + 2) W ((set7 W (w.heap.size + 2) y').putObj D' (.deferred none)) := fun k ob hk ho e => by
      have hne : k ≠ D' := by rintro rfl; rw [hK] at e; cases e; cases ho
      exact (World.putObj_heap_other hne).trans ((heap_set7_other hk).trans e)
    gi_wp2
    refine ⟨by simp, .inl ⟨_, _, rfl, run_takeDeferred hK', ?_⟩⟩
    exact ⟨_, end7 rfl rfl hblk (by have := hl4.size; omega), y', rfl, h2.kept hkp (fun k hk => by have := hin' k hk; omega), hor, fun k hk => by have := hin' k hk; have := hB2.size; omega, hBf.trans (belowK_b (w := w) (Nat.le_refl _) _ D' _ _ (by have := hl4.size; have := hB2.size; omega) hK' rfl rfl)⟩
theorem renameN_wide (x : X) (a a' : Option Addr) (m m' cap cap' : Nat) (S T : Nat → ByteArray) (w : World) (hX : IsX w x) (hsm : WdX x) (hok : XOk x)
    (hS : Txs w a m S) (hT : Txs w a' m' T) (hm : m ≤ 9223372036854775807) (hm' : m' ≤ 9223372036854775807) (hc : m ≤ cap) (hcm : cap ≤ 9223372036854775807) (zS : ∀ j, j < m → (S j).size ≤ maxLen) :
    Calls Try.prog 36 #[x.val, .slice a m cap, .slice a' m' cap'] w fun e w' => ∃ y : X, e = .returned y.val ∧ XA w' y ∧ ordX y (renX (nameX S T (min m m')) x) = 0 ∧ (∀ k, inX k y → w.heap.size ≤ k) ∧ Below w.heap.size w w' :=
  (callsIn_wide (n := 3)).1 (renameN_in 3 x a a' m m' cap cap' S T w hX hsm hok hS hT hm hm' hc hcm zS)
theorem renameN_any (x : X) (a a' : Option Addr) (m m' cap cap' : Nat) (S T : Nat → ByteArray) (w : World) (hX : IsX w x) (hsm : x.size ≤ 1048576) (hok : XOk x)
    (hS : Txs w a m S) (hT : Txs w a' m' T) (hm : m ≤ 1048576) (hm' : m' ≤ 1048576) (hc : m ≤ cap) (hcm : cap ≤ 9223372036854775807) (zS : ∀ j, j < m → (S j).size ≤ maxLen) :
    Calls Try.prog 36 #[x.val, .slice a m cap, .slice a' m' cap'] w fun e w' => ∃ y : X, e = .returned y.val ∧ XA w' y ∧ ordX y (renX (nameX S T (min m m')) x) = 0 ∧ (∀ k, inX k y → w.heap.size ≤ k) ∧ Below w.heap.size w w' := renameN_wide x a a' m m' cap cap' S T w hX (wdX_of x hsm) hok hS hT (by omega) (by omega) hc hcm zS
end Go.Proofs.Ytjclelmbpmlioaa
