/-
  expr.Order: by the first nodes that differ.
-/
import Derived.Test.YtmbinllefkifiaaExprPairs
namespace Go.Proofs.Ytmbinllefkifiaa
open Go.RowKit Go.Shelf
attribute [local go_sem] Oper.semAt_some

/-- What a round of the range over pairs is handed. -/
structure Vis2 where
  b : Nat
  o : Nat
  x : X
  b' : Nat
  o' : Nat
  y : X
theorem alZ_len {x y : X} (h : alZ x y = 0) : x.n = y.n := by
  unfold alZ at h
  rw [orI_zero, orI_zero, orI_zero, orI_zero] at h
  have := cmpI_zero h.2.2.2.2
  omega
theorem orI_not {a b : Int} (h : ¬ a = 0) : orI a b = a := by unfold orI; rw [if_neg h]

set_option maxRecDepth 100000 in
set_option maxHeartbeats 4000000 in
theorem orderX_in (n : Nat) (x y : X) (w : World) (hX : IsX w x) (hY : IsX w y) :
    CallsIn Fence.wide n Try.prog 44 #[x.val, y.val] w fun e w' => e = .returned (.int .i64 (ordX x y)) ∧ Below w.heap.size w w' := by
  have hdd : ∀ k : Nat, (Fence.wide.depth.isSome = true → 1 ≤ k) := fun k h => by cases h
  obtain ⟨A, hA⟩ : ∃ A, ((((w.alloc (.cells x.cells 40)).alloc (.cells y.cells 40)).alloc (.cells #[.int .i64 0] 3)).alloc (.cells #[.pointer (some ⟨w.heap.size, 0, none⟩)] 82)).alloc (.cells #[.pointer (some ⟨w.heap.size + 1, 0, none⟩)] 82) = A := ⟨_, rfl⟩
  have hsz : A.heap.size = w.heap.size + 5 := by rw [← hA]; simp
  have hB : Below w.heap.size w A := by rw [← hA]; exact (((((Below.refl _ w).alloc (Nat.le_refl _) _).alloc (by simp) _).alloc (by first | (simp; done) | (simp; omega)) _).alloc (by first | (simp; done) | (simp; omega)) _).alloc (by first | (simp; done) | (simp; omega)) _
  have hnx : Node A w.heap.size 0 x := by
    rw [← hA]
    exact (node_new w 40 x).later (((((Below.refl _ _).alloc (Nat.le_refl _) _).alloc (by simp) _).alloc (by first | (simp; done) | (simp; omega)) _).alloc (by first | (simp; done) | (simp; omega)) _)
  have hny : Node A (w.heap.size + 1) 0 y := by
    have := (node_new (w.alloc (.cells x.cells 40)) 40 y).later ((((Below.refl _ _).alloc (Nat.le_refl _) (.cells #[.int .i64 0] 3)).alloc (by simp) (.cells #[.pointer (some ⟨w.heap.size, 0, none⟩)] 82)).alloc (by first | (simp; done) | (simp; omega)) (.cells #[.pointer (some ⟨w.heap.size + 1, 0, none⟩)] 82))
    rw [World.size_alloc, hA] at this
    exact this
  have hbr : Boxed A (w.heap.size + 1 + 1) 3 (.int .i64 0) := by
    have := ((Boxed.new ((w.alloc (.cells x.cells 40)).alloc (.cells y.cells 40)) 3 (.int .i64 0)).alloc (.cells #[.pointer (some ⟨w.heap.size, 0, none⟩)] 82)).alloc (.cells #[.pointer (some ⟨w.heap.size + 1, 0, none⟩)] 82)
    rw [World.size_alloc, World.size_alloc, hA] at this
    exact this
  have hbp : Boxed A (w.heap.size + 1 + 1 + 1) 82 (.pointer (some ⟨w.heap.size, 0, none⟩)) := by
    have := (Boxed.new (((w.alloc (.cells x.cells 40)).alloc (.cells y.cells 40)).alloc (.cells #[.int .i64 0] 3)) 82 (.pointer (some ⟨w.heap.size, 0, none⟩))).alloc (.cells #[.pointer (some ⟨w.heap.size + 1, 0, none⟩)] 82)
    rw [World.size_alloc, World.size_alloc, World.size_alloc, hA] at this
    exact this
  have hbq : Boxed A (w.heap.size + 1 + 1 + 1 + 1) 82 (.pointer (some ⟨w.heap.size + 1, 0, none⟩)) := by
    have := Boxed.new ((((w.alloc (.cells x.cells 40)).alloc (.cells y.cells 40)).alloc (.cells #[.int .i64 0] 3)).alloc (.cells #[.pointer (some ⟨w.heap.size, 0, none⟩)] 82)) 82 (.pointer (some ⟨w.heap.size + 1, 0, none⟩))
    rw [World.size_alloc, World.size_alloc, World.size_alloc, World.size_alloc, hA] at this
    exact this
  have cp := hbp.cell
  have cq := hbq.cell
  have lp := hbp.lt
  obtain ⟨T, hT⟩ : ∃ T : Nat → Prop, T = fun k => k < w.heap.size + 2 := ⟨_, rfl⟩
  have hTb : ∀ k, k < w.heap.size + 2 → T k := fun k hk => by rw [hT]; exact hk
  have hTl : ∀ k, T k → k < w.heap.size + 2 := fun k hk => by rw [hT] at hk; exact hk
  have hxt : XT T A x := XIn.xt (n := w.heap.size) (fun k hk => hTb k (by omega)) (hX.inn.below hB)
  have hyt : XT T A y := XIn.xt (n := w.heap.size) (fun k hk => hTb k (by omega)) (hY.inn.below hB)
  obtain ⟨T', hT'⟩ : ∃ T' : Nat → Prop, T' = fun k => T k ∨ k = w.heap.size + 7 ∨ k = w.heap.size + 8 := ⟨_, rfl⟩
  have tT : ∀ k, T k → T' k := fun k hk => by rw [hT']; exact .inl hk
  have tB : T' (A.heap.size + 2) := by rw [hT']; exact .inr (.inl (by omega))
  have tD : T' (A.heap.size + 2 + 1) := by rw [hT']; exact .inr (.inr (by omega))
  refine callsIn_of_wp_marks Try.func44 rfl trivial ?_ rfl
  simp only [Try.ntmps44, List.size_toArray, List.length_cons, List.length_nil, Nat.reduceAdd, Nat.reduceSub, Array.replicate_succ, Array.replicate_zero, List.push_toArray, List.append_toArray, List.nil_append, List.cons_append]
  gi_wp2_with (refine ⟨trivial, hdd _, ?_⟩; gi_at_call 65; refine (pairs_in _ _ _ _).mono ?_; rintro e w' ⟨rfl, rfl⟩)
  refine wpIn_range (α := Vis2) (gf := 86) (lb := #[.pointer (some ⟨w.heap.size + 1 + 1 + 1, 0, none⟩), .pointer (some ⟨w.heap.size + 1 + 1 + 1 + 1, 0, none⟩)]) rfl (enters_of Try.func86 (by kernel_rfl) rfl) (encs := fun v => #[.pointer (some ⟨v.b, v.o, none⟩), .pointer (some ⟨v.b', v.o', none⟩)]) (fun _ => rfl)
    (fun v W => T v.b ∧ Node W v.b v.o v.x ∧ T v.b' ∧ Node W v.b' v.o' v.y ∧ Boxed W (w.heap.size + 1 + 1) 3 (.int .i64 0) ∧ Below w.heap.size w W ∧ A.heap.size + 4 ≤ W.heap.size)
    (fun v W W' => alZ v.x v.y = 0 ∧ Kp T' W W' ∧ Boxed W' (w.heap.size + 1 + 1) 3 (.int .i64 0) ∧ Below w.heap.size w W' ∧ A.heap.size + 4 ≤ W'.heap.size)
    (fun c v _ W' => c = .ret ∧ ¬ alZ v.x v.y = 0 ∧ Boxed W' (w.heap.size + 1 + 1) 3 (.int .i64 (alZ v.x v.y)) ∧ Below w.heap.size w W')
    (fun W' => ordX x y = 0 ∧ Boxed W' (w.heap.size + 1 + 1) 3 (.int .i64 0) ∧ Below w.heap.size w W')
    (fun c W' => c = .ret ∧ ¬ ordX x y = 0 ∧ Boxed W' (w.heap.size + 1 + 1) 3 (.int .i64 (ordX x y)) ∧ Below w.heap.size w W')
    ?_ ?_ ?_ ?_ ?_
    (fun v => { tmps := #[x.val, y.val, .pointer (some ⟨w.heap.size, 0, none⟩), .pointer (some ⟨w.heap.size + 1, 0, none⟩), .pointer (some ⟨w.heap.size + 1 + 1, 0, none⟩), .pointer (some ⟨v.b, v.o, none⟩), .pointer (some ⟨v.b', v.o', none⟩), undef,
        .func (.func 86) #[] #[.pointer (some ⟨w.heap.size + 1 + 1 + 1, 0, none⟩), .pointer (some ⟨w.heap.size + 1 + 1 + 1 + 1, 0, none⟩)], .pointer (some ⟨v.b, v.o, none⟩), .pointer (some ⟨v.b', v.o', none⟩), undef, undef, undef, undef, undef, undef], defers := [] }) ?_ ?_ ?_ ?_ ?_
  · rintro v W B hag ⟨h1, h2, h3, h4, h5, h6, h7⟩
    exact ⟨h1, h2.ag hag, h3, h4.ag hag, hag.boxed h5, hag.below (by omega) h6, by rw [hag.size]; exact h7⟩
  · rintro v W B B' W' hag hag' ⟨h1, h2, h3, h4, h5⟩
    exact ⟨h1, Kp.ag hag hag' h2, hag'.boxed h3, hag'.below (by omega) h4, by rw [hag'.size]; exact h5⟩
  · rintro c v W B B' W' hag hag' ⟨h1, h2, h3, h4⟩
    exact ⟨h1, h2, hag'.boxed h3, hag'.below (by omega) h4⟩
  · rintro W B hag ⟨h1, h2, h3⟩
    exact ⟨h1, hag.boxed h2, hag.below (by omega) h3⟩
  · rintro c W B hag ⟨h1, h2, h3, h4⟩
    exact ⟨h1, h2, hag.boxed h3, hag.below (by omega) h4⟩
  · intro l v W K hK
    gi_wp2
    exact hK
  · rintro l ⟨b, o, x', b', o', y'⟩ W ⟨h1, h2, h3, h4, h5, h6, h7⟩ -
    simp only at h1 h2 h3 h4 ⊢
    have ca := alone_any b o b' o' x' y' W h2 h4
    have HH : Hid (Boxed W (w.heap.size + 1 + 1) 3 (.int .i64 0) ∧ Below w.heap.size w W ∧ A.heap.size + 4 ≤ W.heap.size) := ⟨h5, h6, h7⟩
    have HA : Hid (A.heap.size = w.heap.size + 5) := hsz
    obtain ⟨c, hc⟩ : ∃ c, c = alZ x' y' := ⟨_, rfl⟩
    rw [← hc] at ca
    clear h1 h2 h3 h4 h5 h6 h7 hA hsz hB hnx hny hbr hbp hbq cp cq lp hxt hyt hX hY
    have HC : Hid (c = alZ x' y') := hc
    clear hc
    by_cases hz : c = 0
    · have hz' : (c == 0) = true := by simpa using hz
      have HZ : Hid (c = 0) := hz
      clear hz
      gi_wp2_with (refine ⟨trivial, hdd _, ?_⟩; gi_at_call 66; refine (CallsIn.inRound l (callsIn_wide.2 ca)).mono ?_; rintro e w2 ⟨rfl, hB2⟩)
      obtain ⟨h5, h6, h7⟩ := HH.out
      have hA := HA.out
      exact ⟨⟨hB2.size, fun k o hk ho _ => (hB2.block k (Array.getElem?_eq_some_iff.1 ho).1).trans ho⟩, HC.out ▸ HZ.out, fun k o hk _ ho => (hB2.block k (Array.getElem?_eq_some_iff.1 ho).1).trans ho, Boxed.kept_of h5 hB2 (Boxed.lt h5), h6.trans (hB2.mono h6.size), Nat.le_trans h7 hB2.size⟩
    · have hz' : (c == 0) = false := by simpa using hz
      have HZ : Hid (¬ c = 0) := hz
      clear hz
      gi_wp2_with (refine ⟨trivial, hdd _, ?_⟩; gi_at_call 66; refine (CallsIn.inRound l (callsIn_wide.2 ca)).mono ?_; rintro e w2 ⟨rfl, hB2⟩; have b5 := Boxed.kept_of HH.out.1 hB2 (Boxed.lt HH.out.1); have c5 := b5.cell; have f5 := b5.frozen)
      obtain ⟨h5, h6, h7⟩ := HH.out
      have hA := HA.out
      exact ⟨(KeepsFrom.trans ⟨hB2.size, fun k o hk ho _ => (hB2.block k (Array.getElem?_eq_some_iff.1 ho).1).trans ho⟩ ((KeepsOthers.setCell _ _ _).from _)), rfl, HC.out ▸ HZ.out, by have := b5.set (.int .i64 c); rw [HC.out] at this ⊢; exact this, (h6.trans (hB2.mono h6.size)).setCell (p := ⟨w.heap.size + 1 + 1, 0, none⟩) (by simp; omega) _⟩
  · intro l Rec RecX W1 hB1 hs1 hrec1 hrec hrecx hYd
    have hkT : Kp T A W1 := Kp.of_below hB1 (fun k hk => by have := hTl k hk; omega)
    refine (pairs1_in (n - 1) l (w.heap.size + 1 + 1 + 1) w.heap.size 0 (w.heap.size + 1 + 1 + 1 + 1) (w.heap.size + 1) 0 W1 (fun e W' => (e = .returned (.bool true) ∧ ordX x y = 0 ∧ Boxed W' (w.heap.size + 1 + 1) 3 (.int .i64 0) ∧ Below w.heap.size w W' ∧ Rec W') ∨
      (e = .returned (.bool false) ∧ ¬ ordX x y = 0 ∧ Boxed W' (w.heap.size + 1 + 1) 3 (.int .i64 (ordX x y)) ∧ Below w.heap.size w W' ∧ RecX .ret W')) ((hB1.cell (p := ⟨w.heap.size + 1 + 1 + 1, 0, none⟩) (by simp; omega)).trans cp) ((hB1.cell (p := ⟨w.heap.size + 1 + 1 + 1 + 1, 0, none⟩) (by simp; omega)).trans cq) ?_).mono ?_
    · intro W2 by2 bd2 hB2 hs2
      have key := downTwo_any (ι := X × X) l W1.heap.size (W1.heap.size + 1) (fun v => v.1.n) (fun v i => (v.1.c i, v.2.c i)) (fun v => v.1.size)
        (fun v b o b' o' W => T b ∧ Node W b o v.1 ∧ XT T W v.1 ∧ T b' ∧ Node W b' o' v.2 ∧ XT T W v.2 ∧ Boxed W (w.heap.size + 1 + 1) 3 (.int .i64 0) ∧ Below w.heap.size w W ∧ A.heap.size + 4 ≤ W.heap.size ∧ Rec W ∧
          Boxed W W1.heap.size 105 (.func (.yield l) #[] #[]) ∧ Boxed W (W1.heap.size + 1) 105 (downP W1.heap.size (W1.heap.size + 1)))
        (fun v b o b' o' W a cap a' cap' i Wi => a = v.1.a ∧ cap = v.1.cap ∧ a' = v.2.a ∧ cap' = v.2.cap ∧ alZ v.1 v.2 = 0 ∧ (∀ j, j < i → ordX (v.1.c j) (v.2.c j) = 0) ∧ Kp T' W Wi ∧
          (T b ∧ Node Wi b o v.1 ∧ XT T Wi v.1 ∧ T b' ∧ Node Wi b' o' v.2 ∧ XT T Wi v.2 ∧ Boxed Wi (w.heap.size + 1 + 1) 3 (.int .i64 0) ∧ Below w.heap.size w Wi ∧ A.heap.size + 4 ≤ Wi.heap.size ∧ Rec Wi ∧
            Boxed Wi W1.heap.size 105 (.func (.yield l) #[] #[]) ∧ Boxed Wi (W1.heap.size + 1) 105 (downP W1.heap.size (W1.heap.size + 1))))
        (fun v b o b' o' W W' => ordX v.1 v.2 = 0 ∧ Kp T' W W' ∧ Boxed W' (w.heap.size + 1 + 1) 3 (.int .i64 0) ∧ Below w.heap.size w W' ∧ A.heap.size + 4 ≤ W'.heap.size ∧ Rec W')
        (fun v b o b' o' W W' => ¬ ordX v.1 v.2 = 0 ∧ Boxed W' (w.heap.size + 1 + 1) 3 (.int .i64 (ordX v.1 v.2)) ∧ Below w.heap.size w W' ∧ RecX .ret W')
        (fun v i hi => X.size_part v.1 i hi) (fun v b o b' o' W h => h.2.2.2.2.2.2.2.2.2.2.1.cell) ?_ ?_ ?_ ?_ (x.size + 1) (x, y) (by simp) (n - 1 - 1) w.heap.size 0 (w.heap.size + 1) 0 W2 ?_
      · refine key.mono ?_
        rintro e W' (⟨rfl, h1, h2, h3, h4, h5, h6⟩ | ⟨rfl, h1, h2, h3, h4⟩)
        · exact ⟨true, rfl, .inl ⟨rfl, h1, h3, h4, h6⟩⟩
        · exact ⟨false, rfl, .inr ⟨rfl, h1, h2, h3, h4⟩⟩
      · rintro ⟨x', y'⟩ b o b' o' W ⟨h1, h2, h3, h4, h5, h6, h7, h8, h9, h10, h11, h12⟩
        refine YieldAt.mono (hYd 0 ⟨b, o, x', b', o', y'⟩ W ⟨h1, h2, h4, h5, h7, h8, h9⟩ h10) ?_
        rintro e W' (⟨rfl, ⟨k1, k2, k3, k4, k5⟩, k6, -⟩ | ⟨rfl, c, ⟨rfl, k1, k2, k3⟩, k4⟩)
        · have kT : Kp T W W' := k2.mono tT
          have kd : Kp T W W'.drew := kT
          refine .inl ⟨rfl, x'.a, x'.cap, y'.a, y'.cap, rfl, rfl, rfl, rfl, k1, fun j hj => by omega, k2, h1, h2.kept kd h1, h3.kept kd, h4, h5.kept kd h4, h6.kept kd, k3, k4.drew, k5, hrec W' W'.drew ⟨Nat.le_refl _, fun _ _ _ h _ => h⟩ k6, ?_, ?_⟩
          · exact k2.boxed (hs1 ▸ tB) h11
          · exact k2.boxed (hs1 ▸ tD) h12
        · refine .inr ⟨rfl, ?_, ?_, k3, k4⟩
          · rw [ordX_al, orI_not k1]; exact k1
          · rw [ordX_al, orI_not k1]; exact k2
      · rintro ⟨x', y'⟩ b o b' o' W a cap a' cap' i Wi ⟨rfl, rfl, rfl, rfl, e0, e1, kk, h1, h2, h3, h4, h5, h6, h7, h8, h9, h10, h11, h12⟩
        have := ((xT_eq _ _ _).1 h3)
        have hl := alZ_len e0
        simp only at this hl e0 h2 h5 ⊢
        exact ⟨by omega, h2.2.2.2.2.2.2, by rw [hl]; exact h5.2.2.2.2.2.2, h12.cell⟩
      · rintro ⟨x', y'⟩ b o b' o' W a cap a' cap' i Wi ⟨rfl, rfl, rfl, rfl, e0, e1, kk, h1, h2, h3, h4, h5, h6, h7, h8, h9, h10, h11, h12⟩ hi
        have hl := alZ_len e0
        simp only at hl e0 e1 hi h2 h3 h5 h6 ⊢
        obtain ⟨c, p, ea, hb, hn, hx⟩ := ((xT_eq _ _ _).1 h3).2.2 i hi
        obtain ⟨c', p', ea', hb', hn', hx'⟩ := ((xT_eq _ _ _).1 h6).2.2 i (by omega)
        refine ⟨c, p, c', p', ea, ea', ⟨hb, hn, XT.of (W := Wi) (W' := Wi.drew) (fun _ _ h => h) hx, hb', hn', XT.of (W := Wi) (W' := Wi.drew) (fun _ _ h => h) hx', h7, h8.drew, h9, hrec Wi Wi.drew ⟨Nat.le_refl _, fun _ _ _ h _ => h⟩ h10, h11, h12⟩, ?_, ?_⟩
        · rintro W' ⟨k1, k2, k3, k4, k5, k6⟩
          have k2' : Kp T' Wi W' := k2
          have kT : Kp T Wi W' := k2'.mono tT
          refine ⟨trivial, trivial, trivial, trivial, e0, fun j hj => ?_, kk.trans k2', h1, h2.kept kT h1, h3.kept kT, h4, h5.kept kT h4, h6.kept kT, k3, k4, k5, k6, k2'.boxed (hs1 ▸ tB) h11, k2'.boxed (hs1 ▸ tD) h12⟩
          by_cases e : j = i
          · subst e; exact k1
          · exact e1 j (by omega)
        · rintro W' ⟨k1, k2, k3, k4⟩
          have e : ordX x' y' = ordX (x'.c i) (y'.c i) := by
            rw [ordX_al, e0]
            show lexN _ _ = _
            exact lexN_not (f := fun i => ordX (x'.c i) (y'.c i)) (lexN_zero.2 e1) k1 hi
          rw [e]
          exact ⟨k1, k2, k3, k4⟩
      · rintro ⟨x', y'⟩ b o b' o' W a cap a' cap' Wi ⟨rfl, rfl, rfl, rfl, e0, e1, kk, h1, h2, h3, h4, h5, h6, h7, h8, h9, h10, h11, h12⟩
        refine ⟨?_, kk, h7, h8, h9, h10⟩
        simp only at e0 e1 ⊢
        rw [ordX_al, e0]
        show lexN _ _ = 0
        exact lexN_zero.2 e1
      · have hBA : Below A.heap.size A W2 := hB1.trans (hB2.mono (by omega))
        have kT : Kp T A W2 := Kp.of_below hBA (fun k hk => by have := hTl k hk; omega)
        refine ⟨hTb _ (by omega), hnx.kept kT (hTb _ (by omega)), hxt.kept kT, hTb _ (by omega), hny.kept kT (hTb _ (by omega)), hyt.kept kT, Boxed.kept_of hbr hBA (by omega), hB.trans (hBA.mono (by omega)), by omega, hrec W1 W2 ⟨by omega, fun k o hk ho _ => (hB2.block k (Array.getElem?_eq_some_iff.1 ho).1).trans ho⟩ hrec1, by2, bd2⟩
    · rintro e W' ⟨hv, r, (⟨-, h1, h2, h3, h4⟩ | ⟨-, h1, h2, h3, h4⟩)⟩
      · exact ⟨hv, .inl ⟨⟨h1, h2, h3⟩, h4⟩⟩
      · exact ⟨hv, .inr ⟨.ret, ⟨rfl, h1, h2, h3⟩, h4⟩⟩
  · rintro D W hD ⟨h0, h1, h2⟩ hK
    have c1 := h1.cell
    have f1 := h1.frozen
    have hK' : (W.setCell ⟨w.heap.size + 1 + 1, 0, none⟩ (.int .i64 0)).heap[D]? = some (.deferred (some [])) := (KeepsOthers.setCell _ _ _).same D _ hK rfl
    have hc5 := cell_kept (h1.set (.int .i64 0)).cell (grownBy_putObj' _ D (.deferred none)) (fun r e => by cases e; exact ⟨_, hK', rfl⟩)
    gi_wp2
    refine ⟨by simp, .inl ⟨_, _, rfl, run_takeDeferred hK', ?_⟩⟩
    refine ⟨.int .i64 0, ?_, by rw [h0], (h2.setCell (p := ⟨w.heap.size + 1 + 1, 0, none⟩) (by simp; omega) _).trans (belowK_b (w := w) (Nat.le_refl _) _ D _ _ (by omega) hK' rfl rfl)⟩
    simp [results, Try.f44, go_sem, hc5]
  · rintro D c W hD ⟨rfl, h0, h1, h2⟩ hK
    have hc5 := cell_kept h1.cell (grownBy_putObj' _ D (.deferred none)) (fun r e => by cases e; exact ⟨_, hK, rfl⟩)
    gi_wp2
    refine ⟨by simp, .inl ⟨_, _, rfl, run_takeDeferred hK, ?_⟩⟩
    refine ⟨.int .i64 (ordX x y), ?_, rfl, h2.trans (belowK_b (w := w) (Nat.le_refl _) _ D _ _ (by omega) hK rfl rfl)⟩
    simp [results, Try.f44, go_sem, hc5]
theorem orderX_any (x y : X) (w : World) (hX : IsX w x) (hY : IsX w y) : Calls Try.prog 44 #[x.val, y.val] w fun e w' => e = .returned (.int .i64 (ordX x y)) ∧ Below w.heap.size w w' :=
  (callsIn_wide (n := 3)).1 (orderX_in 3 x y w hX hY)
end Go.Proofs.Ytmbinllefkifiaa
