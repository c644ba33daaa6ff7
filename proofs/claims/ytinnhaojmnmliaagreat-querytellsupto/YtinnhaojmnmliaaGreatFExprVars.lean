/-
  expr.Vars.
  The keys of a map, sorted (slices.Sorted of maps.Keys), as a call owns them.
-/
import Derived.Test.YtinnhaojmnmliaaGreatFExprLight
import Derived.Test.YtinnhaojmnmliaaGreatEExprSort
import Derived.Test.YtinnhaojmnmliaaGreatCIterLays
import Derived.Maps.AppendAt
namespace Go.Proofs.YtinnhaojmnmliaaGreat
open Go.RowKit Go.Shelf Go.Sort
attribute [local go_sem] Oper.semAt_some

/-- The names of the fields among some nodes. -/
def nmL (l : List (Int × X)) : List ByteArray := (l.filter fun v => decide (v.2.k = 2)).map fun v => v.2.s
theorem nmL_hit (l : List (Int × X)) (d : Int) (y : X) (h : y.k = 2) : nmL (l ++ [(d, y)]) = nmL l ++ [y.s] := by simp [nmL, h]
theorem nmL_miss (l : List (Int × X)) (d : Int) (y : X) (h : ¬ y.k = 2) : nmL (l ++ [(d, y)]) = nmL l := by simp [nmL, h]
theorem nmL_len (l : List (Int × X)) : (nmL l).length ≤ l.length := by
  unfold nmL
  rw [List.length_map]
  exact List.length_filter_le _ _
theorem mem_cat {α : Type} (f : Nat → List α) (v : α) : ∀ n, v ∈ catN f n ↔ ∃ i, i < n ∧ v ∈ f i
  | 0 => by simp [catN]
  | n + 1 => by
    simp only [catN, List.mem_append, mem_cat f v n]
    constructor
    · rintro (⟨i, hi, h⟩ | h)
      · exact ⟨i, by omega, h⟩
      · exact ⟨n, by omega, h⟩
    · rintro ⟨i, hi, h⟩
      by_cases e : i = n
      · exact .inr (e ▸ h)
      · exact .inl ⟨i, by omega, h⟩
theorem mem_nm (t : ByteArray) (l : List (Int × X)) : t ∈ nmL l ↔ ∃ v, v ∈ l ∧ v.2.k = 2 ∧ v.2.s = t := by
  simp only [nmL, List.mem_map, List.mem_filter, decide_eq_true_eq]
  constructor
  · rintro ⟨v, ⟨h1, h2⟩, h3⟩
    exact ⟨v, h1, h2, h3⟩
  · rintro ⟨v, h1, h2, h3⟩
    exact ⟨v, ⟨h1, h2⟩, h3⟩
theorem mem_vis (t : ByteArray) : ∀ (x : X) (d : Int), t ∈ nmL (visX d x) ↔ hasVar t x := by
  refine X.ind fun x ih d => ?_
  rw [mem_nm, hasVar_eq, visX_eq]
  constructor
  · rintro ⟨v, hv, h1, h2⟩
    rcases List.mem_cons.1 hv with rfl | hv
    · exact .inl ⟨h1, h2⟩
    · obtain ⟨i, hi, h⟩ := (mem_cat _ _ _).1 hv
      exact .inr ⟨i, hi, (ih i hi _).1 ((mem_nm _ _).2 ⟨v, h, h1, h2⟩)⟩
  · rintro (⟨h1, h2⟩ | ⟨i, hi, h⟩)
    · exact ⟨(d, x), List.mem_cons_self, h1, h2⟩
    · obtain ⟨v, h0, h1, h2⟩ := (mem_nm _ _).1 ((ih i hi (IntKind.i64.wrap (d + 1))).2 h)
      exact ⟨v, List.mem_cons_of_mem _ ((mem_cat _ _ _).2 ⟨i, hi, h0⟩), h1, h2⟩
theorem Ag.owns {B : Nat} {W A : World} (h : Ag B W A) {b e k m : Nat} {v : Value} {xs : List Value} (ho : W.ownsRow b e k v m xs) : A.ownsRow b e k v m xs := by
  refine ⟨ho.1, ?_⟩
  rcases ho.2 with h2 | ⟨g, cap, cur, e1, hg, h3, h4⟩
  · exact .inl h2
  · exact .inr ⟨g, cap, cur, e1, hg, (h.cells _ _ rfl).2 h3, h4⟩
theorem own_low {w : World} {B B' e k n : Nat} {v : Value} {xs : List Value} (h : w.ownsRow B e k v n xs) (hB : B' ≤ B) : w.ownsRow B' e k v n xs := by
  refine ⟨h.1, ?_⟩
  rcases h.2 with h2 | ⟨g, cap, cur, e1, hg, h3⟩
  · exact .inl h2
  · exact .inr ⟨g, cap, cur, e1, Nat.le_trans hB hg, h3⟩
/-- slices.Compact of sorted names. -/
theorem compact_once {W2 : World} {base g n cap : Nat} {x : X} {zs : List (List UInt8)} (ho : W2.ownsRow base 9 1 (.slice (some ⟨g, 0, none⟩) n cap) n ((sortB zs).map encStr)) (hone : (onceB zs).map (fun x => (⟨x.toArray⟩ : ByteArray)) = varsX x) (hl : (sortB zs).length = n) (hnc : n ≤ cap) (hcm : n ≤ 9223372036854775807) :
    Calls Tryz.prog 72 #[.slice (some ⟨g, 0, none⟩) n cap] W2 fun e w' => e = .returned (.slice (some ⟨g, 0, none⟩) (varsX x).length cap) ∧ w'.ownsRow base 9 1 (.slice (some ⟨g, 0, none⟩) (varsX x).length cap) (varsX x).length (cellsS (varsX x)) ∧ W2.grownBy w' (some g) := by
  obtain ⟨g2, cap2, e, hb, hgl, _, _, _, hH⟩ := Lib.holds_of_ownsRow (enc := encStr) (zs := sortB zs) ho (by simp)
  injection e with e1 _ e3
  injection e1 with e1
  injection e1 with e1
  subst e1 e3
  have h := Any.slices_Compact_string Tryz.lays194 g 0 cap (sortB zs) W2 hH (by omega) (by omega)
  rw [hl] at h
  have hvl : (varsX x).length = (onceB zs).length := by rw [← hone, List.length_map]
  have hcl : (onceB zs).length ≤ n := by have := onceB_len zs; rw [sortB_len] at hl; omega
  refine h.mono ?_
  rintro e w' ⟨rfl, q, rfl⟩
  refine ⟨by rw [hvl]; rfl, ?_, ?_⟩
  · have := Lib.ownsRow_putRow (q := q) (k := (onceB zs).length) (ys := onceB zs ++ List.replicate (n - (onceB zs).length) []) ho (by simp; omega) hcl
    rw [List.take_left] at this
    rw [hvl, show cellsS (varsX x) = (onceB zs).map encStr by rw [← hone, cellsS, List.map_map]; rfl]
    exact this
  · have := grownBy_sorted (w := W2) (g := g) (n := q) (os := #[]) (onceB zs ++ List.replicate (n - (onceB zs).length) []).toArray
    rw [grow_empty] at this
    exact this
set_option maxRecDepth 100000 in
set_option maxHeartbeats 4000000 in
theorem vars_in (n : Nat) (x : X) (w : World) (hX : IsX w x) (hsm : x.size ≤ 1048576) :
    CallsIn Fence.wide n Tryz.prog 41 #[x.val] w fun e w' => ∃ v, e = .returned v ∧ w'.ownsRow w.heap.size 9 1 v (varsX x).length (cellsS (varsX x)) ∧ Below w.heap.size w w' := by
  have hdd : ∀ k : Nat, (Fence.wide.depth.isSome = true → 1 ≤ k) := fun k h => by cases h
  obtain ⟨i0, hi, hz0, hz1, hz2⟩ := info_parts infoS
  refine callsIn_of_wp_marks Tryz.func41 rfl trivial ?_ rfl
  simp only [Tryz.ntmps41, List.size_toArray, List.length_cons, List.length_nil, Nat.reduceAdd, Nat.reduceSub, Array.replicate_succ, Array.replicate_zero, List.push_toArray, List.append_toArray, List.nil_append, List.cons_append]
  gi_wp2_with (refine ⟨trivial, hdd _, ?_⟩; gi_at_call 53; refine (nodes_in _ _ _).mono ?_; rintro e w' ⟨rfl, rfl⟩)
  obtain ⟨A, hA⟩ : ∃ A, (((w.alloc (.cells x.cells 32)).alloc (.cells #[.slice none 0 0] 42)).alloc (.cells #[.pointer (some ⟨w.heap.size, 0, none⟩)] 81)) = A := ⟨_, rfl⟩
  have hsz : A.heap.size = w.heap.size + 3 := by rw [← hA]; simp
  have hB : Below w.heap.size w A := by rw [← hA]; exact (((Below.refl _ w).alloc (Nat.le_refl _) _).alloc (by simp) _).alloc (by simp; omega) _
  have hnode : Node A w.heap.size 0 x := by
    rw [← hA]
    exact ((node_new w 32 x).later ((Below.refl _ _).alloc (Nat.le_refl _) _)).later ((Below.refl _ _).alloc (Nat.le_refl _) _)
  have hbn : Boxed A (w.heap.size + 1) 42 (.slice none 0 0) := by
    have := (Boxed.new (w.alloc (.cells x.cells 32)) 42 (.slice none 0 0)).alloc (.cells #[.pointer (some ⟨w.heap.size, 0, none⟩)] 81)
    rw [World.size_alloc, hA] at this
    exact this
  have hbp : Boxed A (w.heap.size + 1 + 1) 81 (.pointer (some ⟨w.heap.size, 0, none⟩)) := by
    have := Boxed.new ((w.alloc (.cells x.cells 32)).alloc (.cells #[.slice none 0 0] 42)) 81 (.pointer (some ⟨w.heap.size, 0, none⟩))
    rw [World.size_alloc, World.size_alloc, hA] at this
    exact this
  rw [hA]
  refine nodes_fold (w.heap.size + 1 + 1) w.heap.size 0 x (fun k => k < w.heap.size + 1)
    (fun pre W => (∃ v, Boxed W (w.heap.size + 1) 42 v ∧ W.ownsRow (w.heap.size + 7) 9 1 v (nmL pre).length (cellsS (nmL pre))) ∧ Below w.heap.size w W) (fun _ _ => False)
    rfl rfl hbp.cell (fun k hk => by omega) (by omega) hnode (XIn.xt (n := w.heap.size) (fun k hk => by omega) (hX.inn.below hB)) ?_ ?_ ?_ ?_
    (fun d b o => { tmps := #[x.val, .pointer (some ⟨w.heap.size, 0, none⟩), .slice none 0 0, .pointer (some ⟨w.heap.size + 1, 0, none⟩), undef, .pointer (some ⟨b, o, none⟩), .func (.func 80) #[] #[.pointer (some ⟨w.heap.size + 1 + 1, 0, none⟩)], .int .i64 d, .pointer (some ⟨b, o, none⟩), undef, undef, undef, undef, undef, undef, undef, undef, undef, undef, undef, undef, undef, undef, undef, undef], defers := [] }) ?_ ?_ ?_ ?_
  · rintro pre W B hag ⟨⟨v, h1, h2⟩, h3⟩
    exact ⟨⟨v, hag.boxed h1, hag.owns h2⟩, hag.below (by omega) h3⟩
  · exact fun pre W h => ⟨h.1, h.2.drew⟩
  · exact fun W h => ⟨⟨_, Boxed.kept_of hbn h (by omega), World.ownsRow_nil _ _ _ _⟩, hB.trans (h.mono (by omega))⟩
  · exact fun _ _ _ _ h => h
  · intro l d b o W K hK
    gi_wp2
    first | exact hK | simpa using hK
  · rintro l d b o y pre W hb hn hx ⟨⟨v, h1, h2⟩, h3⟩ hs hlt
    have c1 := h1.cell
    have f1 := h1.frozen
    obtain ⟨d0, d1, d2, d3, d4, d5, d6⟩ := hn
    have hpl := nmL_len pre
    rw [length_vis] at hlt
    by_cases hk : y.k = 2
    · have hk' : (y.k == 2) = true := by simpa using hk
      have hW2 : W.heap.size ≤ (W.alloc (.cells #[.string y.s] 9)).drew.heap.size := by show W.heap.size ≤ (W.alloc _).heap.size; simp
      have hr0 : (W.alloc (.cells #[.string y.s] 9)).drew.ownsRow (w.heap.size + 7) 9 1 v (nmL pre).length (cellsS (nmL pre)) := (h2.alloc _).drew
      obtain ⟨v', w1, hrun, hown', hgrow, hnil', hblk⟩ := run_append_own_at (P := Tryz.prog) (w := (W.alloc (.cells #[.string y.s] 9)).drew) (w.heap.size + 7) 42 42 9 i0 (.string ⟨#[]⟩) 1 16 Tryz.underlying42 hi hz0 hz1 hz2 rfl (by decide) v _ _ hr0 ⟨W.heap.size, 0, none⟩ 1 1 [.string y.s] rfl
        (cell_one_new W (.string y.s) 9) (by simp [Value.oneCell']) (by unfold maxLen; omega) (by omega) (by omega)
      obtain ⟨g', cap', rfl⟩ := ownsRow_succ hown'
      have hg' : (W.alloc (.cells #[.string y.s] 9)).grownBy w1 v.ownBlock := ⟨hgrow.os, hgrow.tape, hgrow.output, hgrow.size, hgrow.block⟩
      have hv1 : Boxed w1 (w.heap.size + 1) 42 v := (h1.alloc _).kept hg' (h1.not_row (by decide) h2)
      have c1' := (h1.alloc (.cells #[.string y.s] 9)).cell
      have c2 := hv1.cell
      have f2 := hv1.frozen
      have fin : KeepsFrom A.heap.size W (w1.setCell ⟨w.heap.size + 1, 0, none⟩ (.slice (some ⟨g', 0, none⟩) ((nmL pre).length + 1) cap')) ∧ Kp (fun k => k < w.heap.size + 1 ∨ k = A.heap.size + 2 ∨ k = A.heap.size + 3) W (w1.setCell ⟨w.heap.size + 1, 0, none⟩ (.slice (some ⟨g', 0, none⟩) ((nmL pre).length + 1) cap')) ∧
          ((∃ v, Boxed (w1.setCell ⟨w.heap.size + 1, 0, none⟩ (.slice (some ⟨g', 0, none⟩) ((nmL pre).length + 1) cap')) (w.heap.size + 1) 42 v ∧ (w1.setCell ⟨w.heap.size + 1, 0, none⟩ (.slice (some ⟨g', 0, none⟩) ((nmL pre).length + 1) cap')).ownsRow (w.heap.size + 7) 9 1 v (nmL (pre ++ [(d, y)])).length (cellsS (nmL (pre ++ [(d, y)])))) ∧
            Below w.heap.size w (w1.setCell ⟨w.heap.size + 1, 0, none⟩ (.slice (some ⟨g', 0, none⟩) ((nmL pre).length + 1) cap'))) := by
        refine ⟨(((KeepsOthers.alloc W _).trans (KeepsOthers.of_grownBy hg' fun j o ej hj => ?_)).trans (KeepsOthers.setCell _ _ _)).from _, ?_, ⟨_, hv1.set _, ?_⟩, ?_⟩
        · rcases (h2.alloc _).2 with ⟨rfl, _⟩ | ⟨g, cap, cur, rfl, _, hgb, _⟩
          · simp [Value.ownBlock] at ej
          · obtain rfl : g = j := by simpa [Value.ownBlock] using ej
            rw [hgb] at hj; cases hj; rfl
        · intro k o hk _ e
          have hkl : k < w.heap.size + 7 ∧ k ≠ w.heap.size + 1 := by omega
          refine (Below.heap_setCell w1 ⟨w.heap.size + 1, 0, none⟩ _ k hkl.2).trans ((hg'.block k ?_ (row_ne_low h2 hkl.1)).trans ((Below.heap_alloc W _ k (Array.getElem?_eq_some_iff.1 e).1).trans e))
          have := (Array.getElem?_eq_some_iff.1 e).1
          simp
          omega
        · rw [nmL_hit _ _ _ hk, List.length_append, cellsS, List.map_append]
          exact hown'.kept (grownBy_setCell' w1 (w.heap.size + 1) _) (.inr (hv1.not_row (by decide) hown').symm)
        · refine ((h3.alloc h3.size _).grown hg' (by have := h3.size; simp; omega) fun j ej => ?_).setCell (p := ⟨w.heap.size + 1, 0, none⟩) (by simp) _
          have := (h2.lt j ej).1
          omega
      gi_wp2
      refine wpIn_region_any (by kernel_rfl) ?_
      try (change wpAnyIn _ _ _ _ _ _ _ _ _ (World.drew _))
      refine wpAnyIn_ready (rs := [0, 1]) (by kernel_rfl) (by simp) ?_
      refine AllReadyIn.cons rfl (fun K hK => ?_) ?_
      · go_simp
        refine hK _ _ ?_
        clear hK K
        refine wpAnyIn_ready (rs := [1]) (by kernel_rfl) (by simp) ?_
        refine AllReadyIn.cons rfl (fun K hK => ?_) AllReadyIn.nil
        go_simp
        refine hK _ _ ?_
        clear hK K
        refine wpAnyIn_ready (rs := [2]) (by kernel_rfl) (by simp) ?_
        refine AllReadyIn.cons rfl (fun K hK => ?_) AllReadyIn.nil
        go_simp
        refine hK _ _ ?_
        clear hK K
        refine wpAnyIn_ready (rs := [3]) (by kernel_rfl) (by simp) ?_
        refine AllReadyIn.cons rfl (fun K hK => ?_) AllReadyIn.nil
        go_simp
        refine hK _ _ ?_
        clear hK K
        refine wpAnyIn_ready (rs := [4]) (by kernel_rfl) (by simp) ?_
        refine AllReadyIn.cons rfl (fun K hK => ?_) AllReadyIn.nil
        go_simp
        refine hK _ _ ?_
        clear hK K
        refine wpAnyIn_ready (rs := [5]) (by kernel_rfl) (by simp) ?_
        refine AllReadyIn.cons rfl (fun K hK => ?_) AllReadyIn.nil
        go_simp
        refine hK _ _ ?_
        clear hK K
        refine wpAnyIn_ready (rs := [6]) (by kernel_rfl) (by simp) ?_
        refine AllReadyIn.cons rfl (fun K hK => ?_) AllReadyIn.nil
        rw [if_pos (by rfl)]
        refine wpOpIn_append_run (.tmp 14) (.tmp 19) 42 rfl _ _ _ rfl rfl hrun ?_
        refine hK _ _ ?_
        clear hK K
        refine wpAnyIn_ready (rs := [7]) (by kernel_rfl) (by simp) ?_
        refine AllReadyIn.cons rfl (fun K hK => ?_) AllReadyIn.nil
        go_simp
        refine hK _ _ ?_
        clear hK K
        refine wpAnyIn_done (by kernel_rfl) ?_ _
        exact fin
      refine AllReadyIn.cons rfl (fun K hK => ?_) AllReadyIn.nil
      go_simp
      refine hK _ _ ?_
      clear hK K
      refine wpAnyIn_ready (rs := [0, 2]) (by kernel_rfl) (by simp) ?_
      refine AllReadyIn.cons rfl (fun K hK => ?_) ?_
      · go_simp
        refine hK _ _ ?_
        clear hK K
        refine wpAnyIn_ready (rs := [2]) (by kernel_rfl) (by simp) ?_
        refine AllReadyIn.cons rfl (fun K hK => ?_) AllReadyIn.nil
        go_simp
        refine hK _ _ ?_
        clear hK K
        refine wpAnyIn_ready (rs := [3]) (by kernel_rfl) (by simp) ?_
        refine AllReadyIn.cons rfl (fun K hK => ?_) AllReadyIn.nil
        go_simp
        refine hK _ _ ?_
        clear hK K
        refine wpAnyIn_ready (rs := [4]) (by kernel_rfl) (by simp) ?_
        refine AllReadyIn.cons rfl (fun K hK => ?_) AllReadyIn.nil
        go_simp
        refine hK _ _ ?_
        clear hK K
        refine wpAnyIn_ready (rs := [5]) (by kernel_rfl) (by simp) ?_
        refine AllReadyIn.cons rfl (fun K hK => ?_) AllReadyIn.nil
        go_simp
        refine hK _ _ ?_
        clear hK K
        refine wpAnyIn_ready (rs := [6]) (by kernel_rfl) (by simp) ?_
        refine AllReadyIn.cons rfl (fun K hK => ?_) AllReadyIn.nil
        rw [if_pos (by rfl)]
        refine wpOpIn_append_run (.tmp 14) (.tmp 19) 42 rfl _ _ _ rfl rfl hrun ?_
        refine hK _ _ ?_
        clear hK K
        refine wpAnyIn_ready (rs := [7]) (by kernel_rfl) (by simp) ?_
        refine AllReadyIn.cons rfl (fun K hK => ?_) AllReadyIn.nil
        go_simp
        refine hK _ _ ?_
        clear hK K
        refine wpAnyIn_done (by kernel_rfl) ?_ _
        exact fin
      refine AllReadyIn.cons rfl (fun K hK => ?_) AllReadyIn.nil
      go_simp
      refine hK _ _ ?_
      clear hK K
      refine wpAnyIn_ready (rs := [0, 3]) (by kernel_rfl) (by simp) ?_
      refine AllReadyIn.cons rfl (fun K hK => ?_) ?_
      · go_simp
        refine hK _ _ ?_
        clear hK K
        refine wpAnyIn_ready (rs := [3]) (by kernel_rfl) (by simp) ?_
        refine AllReadyIn.cons rfl (fun K hK => ?_) AllReadyIn.nil
        go_simp
        refine hK _ _ ?_
        clear hK K
        refine wpAnyIn_ready (rs := [4]) (by kernel_rfl) (by simp) ?_
        refine AllReadyIn.cons rfl (fun K hK => ?_) AllReadyIn.nil
        go_simp
        refine hK _ _ ?_
        clear hK K
        refine wpAnyIn_ready (rs := [5]) (by kernel_rfl) (by simp) ?_
        refine AllReadyIn.cons rfl (fun K hK => ?_) AllReadyIn.nil
        go_simp
        refine hK _ _ ?_
        clear hK K
        refine wpAnyIn_ready (rs := [6]) (by kernel_rfl) (by simp) ?_
        refine AllReadyIn.cons rfl (fun K hK => ?_) AllReadyIn.nil
        rw [if_pos (by rfl)]
        refine wpOpIn_append_run (.tmp 14) (.tmp 19) 42 rfl _ _ _ rfl rfl hrun ?_
        refine hK _ _ ?_
        clear hK K
        refine wpAnyIn_ready (rs := [7]) (by kernel_rfl) (by simp) ?_
        refine AllReadyIn.cons rfl (fun K hK => ?_) AllReadyIn.nil
        go_simp
        refine hK _ _ ?_
        clear hK K
        refine wpAnyIn_done (by kernel_rfl) ?_ _
        exact fin
      refine AllReadyIn.cons rfl (fun K hK => ?_) AllReadyIn.nil
      go_simp
      refine hK _ _ ?_
      clear hK K
      refine wpAnyIn_ready (rs := [0, 4]) (by kernel_rfl) (by simp) ?_
      refine AllReadyIn.cons rfl (fun K hK => ?_) ?_
      · go_simp
        refine hK _ _ ?_
        clear hK K
        refine wpAnyIn_ready (rs := [4]) (by kernel_rfl) (by simp) ?_
        refine AllReadyIn.cons rfl (fun K hK => ?_) AllReadyIn.nil
        go_simp
        refine hK _ _ ?_
        clear hK K
        refine wpAnyIn_ready (rs := [5]) (by kernel_rfl) (by simp) ?_
        refine AllReadyIn.cons rfl (fun K hK => ?_) AllReadyIn.nil
        go_simp
        refine hK _ _ ?_
        clear hK K
        refine wpAnyIn_ready (rs := [6]) (by kernel_rfl) (by simp) ?_
        refine AllReadyIn.cons rfl (fun K hK => ?_) AllReadyIn.nil
        rw [if_pos (by rfl)]
        refine wpOpIn_append_run (.tmp 14) (.tmp 19) 42 rfl _ _ _ rfl rfl hrun ?_
        refine hK _ _ ?_
        clear hK K
        refine wpAnyIn_ready (rs := [7]) (by kernel_rfl) (by simp) ?_
        refine AllReadyIn.cons rfl (fun K hK => ?_) AllReadyIn.nil
        go_simp
        refine hK _ _ ?_
        clear hK K
        refine wpAnyIn_done (by kernel_rfl) ?_ _
        exact fin
      refine AllReadyIn.cons rfl (fun K hK => ?_) AllReadyIn.nil
      go_simp
      refine hK _ _ ?_
      clear hK K
      refine wpAnyIn_ready (rs := [0, 5]) (by kernel_rfl) (by simp) ?_
      refine AllReadyIn.cons rfl (fun K hK => ?_) ?_
      · go_simp
        refine hK _ _ ?_
        clear hK K
        refine wpAnyIn_ready (rs := [5]) (by kernel_rfl) (by simp) ?_
        refine AllReadyIn.cons rfl (fun K hK => ?_) AllReadyIn.nil
        go_simp
        refine hK _ _ ?_
        clear hK K
        refine wpAnyIn_ready (rs := [6]) (by kernel_rfl) (by simp) ?_
        refine AllReadyIn.cons rfl (fun K hK => ?_) AllReadyIn.nil
        rw [if_pos (by rfl)]
        refine wpOpIn_append_run (.tmp 14) (.tmp 19) 42 rfl _ _ _ rfl rfl hrun ?_
        refine hK _ _ ?_
        clear hK K
        refine wpAnyIn_ready (rs := [7]) (by kernel_rfl) (by simp) ?_
        refine AllReadyIn.cons rfl (fun K hK => ?_) AllReadyIn.nil
        go_simp
        refine hK _ _ ?_
        clear hK K
        refine wpAnyIn_done (by kernel_rfl) ?_ _
        exact fin
      refine AllReadyIn.cons rfl (fun K hK => ?_) AllReadyIn.nil
      go_simp
      refine hK _ _ ?_
      clear hK K
      refine wpAnyIn_ready (rs := [0]) (by kernel_rfl) (by simp) ?_
      refine AllReadyIn.cons rfl (fun K hK => ?_) AllReadyIn.nil
      go_simp
      refine hK _ _ ?_
      clear hK K
      refine wpAnyIn_ready (rs := [6]) (by kernel_rfl) (by simp) ?_
      refine AllReadyIn.cons rfl (fun K hK => ?_) AllReadyIn.nil
      rw [if_pos (by rfl)]
      refine wpOpIn_append_run (.tmp 14) (.tmp 19) 42 rfl _ _ _ rfl rfl hrun ?_
      refine hK _ _ ?_
      clear hK K
      refine wpAnyIn_ready (rs := [7]) (by kernel_rfl) (by simp) ?_
      refine AllReadyIn.cons rfl (fun K hK => ?_) AllReadyIn.nil
      go_simp
      refine hK _ _ ?_
      clear hK K
      refine wpAnyIn_done (by kernel_rfl) ?_ _
      exact fin
    · have hk' : (y.k == 2) = false := by simpa using hk
      gi_wp2
      exact ⟨KeepsFrom.refl _ _, Kp.refl _ _, ⟨v, h1, by rw [nmL_miss _ _ _ hk]; exact h2⟩, h3⟩
  · rintro D W hD ⟨⟨v, h1, h2⟩, h3⟩ hK
    have hone := once_vars x (nmL (visX 1 x)) fun t => mem_vis t x 1
    have hlen : (nmL (visX 1 x)).length ≤ 1048576 := by have := nmL_len (visX 1 x); rw [length_vis] at this; omega
    obtain ⟨L, hL⟩ : ∃ L, L = nmL (visX 1 x) := ⟨_, rfl⟩
    rw [← hL] at h2 hone hlen
    clear hL
    have c1 := h1.cell
    by_cases hv : v = .slice none 0 0
    · subst hv
      have hl0 : L = [] := by
        rcases h2.2 with ⟨_, e⟩ | ⟨g, cap, cur, e, _⟩
        · exact List.eq_nil_of_length_eq_zero e
        · cases e
      subst hl0
      have hone' : varsX x = [] := by
        rw [← hone, List.eq_nil_of_length_eq_zero (Nat.le_zero.1 (onceB_len (List.map bs [])))]
        rfl
      have s1 : Calls Tryz.prog 71 #[.slice none 0 0] W fun e w' => e = .returned (.tuple #[]) ∧ w' = W := Any.slices_Sort_string_none Tryz.lays190 none 0 W
      have s2 : Calls Tryz.prog 72 #[.slice none 0 0] W fun e w' => e = .returned (.slice none 0 0) ∧ w' = W := Any.slices_Compact_string_empty Tryz.lays194 none 0 W
      gi_wp2_with (first
        | (refine ⟨trivial, hdd _, ?_⟩; gi_at_call 71; refine (callsIn_wide.2 s1).mono ?_; rintro e w2 ⟨rfl, hw2⟩; replace hw2 := hw2.symm; subst hw2)
        | (refine ⟨trivial, hdd _, ?_⟩; gi_at_call 72; refine (callsIn_wide.2 s2).mono ?_; rintro e w2 ⟨rfl, hw2⟩; replace hw2 := hw2.symm; subst hw2))
      refine ⟨by simp, .inl ⟨_, _, rfl, run_takeDeferred hK, ?_⟩⟩
      exact ⟨_, results_tmp rfl _ _ _, _, rfl, by rw [hone']; exact World.ownsRow_nil _ _ _ _, h3.trans (belowK_b (w := w) (Nat.le_refl _) W D _ _ (by omega) hK rfl rfl)⟩
    · have hm : (L.map bs).map encStr = cellsS L := by rw [cellsS, ← Lib.map_encStr]; rfl
      have h2' : W.ownsRow (w.heap.size + 7) 9 1 v L.length ((L.map bs).map encStr) := by rw [hm]; exact h2
      obtain ⟨g, cap, rfl, hg, hgl, hnc, hcm, hzl, hH⟩ := Lib.holds_of_ownsRow h2' hv
      have hcur : ∃ cur, W.heap[g]? = some (.cells cur 9 (0, 0)) ∧ cur.size = cap * 1 := by
        rcases h2.2 with ⟨e, _⟩ | ⟨g2, c2, cur, e, _, hc, _, _, hs, _⟩
        · cases e
        · injection e with e1 _ e3
          injection e1 with e1
          injection e1 with e1
          subst e1 e3
          exact ⟨cur, hc, hs⟩
      obtain ⟨cur, hc, hcs⟩ := hcur
      have s1 : Calls Tryz.prog 71 #[.slice (some ⟨g, 0, none⟩) L.length cap] W fun e w' => e = .returned (.tuple #[]) ∧ ∃ n os, w' = grow (putRow encStr (Sort.ahead W n) g 0 (sortB (L.map bs)).toArray) os := by
        have := Any.slices_Sort_string Tryz.lays190 g 0 cap (L.map bs) W hH hgl (by simp; omega)
        rw [List.length_map] at this
        exact this
      have hsl : (sortB (L.map bs)).length = L.length := by rw [sortB_len, List.length_map]
      have key : ∀ n os, ∃ W2, W2 = grow (putRow encStr (Sort.ahead W n) g 0 (sortB (L.map bs)).toArray) os ∧ W.grownBy W2 (some g) ∧ W2.ownsRow (w.heap.size + 7) 9 1 (.slice (some ⟨g, 0, none⟩) L.length cap) L.length ((sortB (L.map bs)).map encStr) := by
        intro n os
        refine ⟨_, rfl, grownBy_sorted _, ?_⟩
        have := ownsRow_sorted (w := W) (n := n) (os := os) (e := 9) (ss := L.map bs) (ts := sortB (L.map bs)) (by rw [sortB_len]) hg hc (by rw [List.length_map]; omega) hcm hcs
        rw [List.length_map] at this
        exact this
      gi_wp2_with (first
        | (refine ⟨trivial, hdd _, ?_⟩; gi_at_call 71; refine (callsIn_wide.2 s1).mono ?_; rintro e w2 ⟨rfl, nn, os, hw2⟩; obtain ⟨W2, hW2, hg2, ho2⟩ := key nn os; rw [← hW2] at hw2; replace hw2 := hw2.symm; subst hw2; clear hW2 key s1; have b2 := h1.kept hg2 (fun e => by injection e with e; omega); have c2 := b2.cell)
        | (refine ⟨trivial, hdd _, ?_⟩; gi_at_call 72; refine (callsIn_wide.2 (compact_once ho2 hone hsl hnc (by unfold maxLen at hcm; omega))).mono ?_; rintro e w3 ⟨rfl, ho3, hg3⟩))
      have hKg : ∀ {V V' : World}, V.heap[D]? = some (.deferred (some [])) → V.grownBy V' (some g) → (∃ cur, V.heap[g]? = some (.cells cur 9 (0, 0))) → V'.heap[D]? = some (.deferred (some [])) := fun {V V'} q1 q2 q3 => by
        refine (q2.block D (Array.getElem?_eq_some_iff.1 q1).1 fun e => ?_).trans q1
        injection e with e
        rw [e] at q1
        obtain ⟨cur, q3⟩ := q3
        rw [q3] at q1
        cases q1
      have hcell : ∀ {V : World} {m k : Nat} {zs : List Value}, V.ownsRow (w.heap.size + 7) 9 1 (.slice (some ⟨g, 0, none⟩) m k) m zs → ∃ cur, V.heap[g]? = some (.cells cur 9 (0, 0)) := fun {V m k zs} h => by
        rcases h.2 with ⟨e, _⟩ | ⟨g2, c2, cur, e, _, hc, _⟩
        · cases e
        · injection e with e1
          injection e1 with e1
          injection e1 with e1
          subst e1
          exact ⟨cur, hc⟩
      have hK2 := hKg hK hg2 ⟨cur, hc⟩
      have hK3 := hKg hK2 hg3 (hcell ho2)
      refine ⟨by simp, .inl ⟨_, _, rfl, run_takeDeferred hK3, ?_⟩⟩
      have hB2 := h3.grown hg2 h3.size (fun k e => by injection e with e; omega)
      have hB3 := hB2.grown hg3 hB2.size (fun k e => by injection e with e; omega)
      refine ⟨_, results_tmp rfl _ _ _, _, rfl, own_low (ownsRow_putObj ho3 _ hK3 rfl) (by omega), hB3.trans (belowK_b (w := w) (Nat.le_refl _) w3 D _ _ (by omega) hK3 rfl rfl)⟩
  · exact fun _ _ _ _ h _ => h.elim
theorem vars_any (x : X) (w : World) (hX : IsX w x) (hsm : x.size ≤ 1048576) : Calls Tryz.prog 41 #[x.val] w fun e w' => ∃ v, e = .returned v ∧ w'.ownsRow w.heap.size 9 1 v (varsX x).length (cellsS (varsX x)) ∧ Below w.heap.size w w' :=
  (callsIn_wide (n := 3)).1 (vars_in 3 x w hX hsm)
end Go.Proofs.YtinnhaojmnmliaaGreat
namespace Go.Proofs.YtinnhaojmnmliaaGreat
open Go.RowKit Go.Maps Go.Sort Go.Shelf

theorem sorts_wide (m : Nat) : AnyZ.SortsIn Tryz.prog Tryz.sorted43_ren Fence.wide m :=
  ⟨fun blk off cap ss W hH hblk hsz => callsIn_wide.2 (AnyM.slices_Sort_string Tryz.sort71 blk off cap ss W hH hblk hsz),
   fun p cap W => callsIn_wide.2 (AnyM.slices_Sort_string_none Tryz.sort71 p cap W)⟩
theorem keysM_any (mb : Option Nat) (W : World) : Calls Tryz.prog 44 #[.map mb] W fun e w' => e = .returned (.func (.func 74) #[] #[.pointer (some ⟨W.heap.size, 0, none⟩)]) ∧ w' = W.alloc (.cells #[.map mb] 60) :=
  (callsIn_wide (n := 5)).1 (AnyZ.keys_in Tryz.keys44 Fence.wide 5 trivial rfl mb W)
set_option maxHeartbeats 1000000 in
theorem sortedM_any {H : Type} (b nn : Nat) (D0 : DataW H) (R : Value → Option (DataW H × List MemPlace)) (w : World) (hown : w.ownsMap Tryz.prog 9 R b nn D0) (hmax : Maps.size D0 ≤ maxLen) (hbytes : Maps.size D0 * 16 ≤ 140737488355328) :
    Calls Tryz.prog 43 #[.func (.func 74) #[] #[.pointer (some ⟨w.heap.size, 0, none⟩)]] (w.alloc (.cells #[.map (some b)] 60)) fun e w' => ∃ (v : Value) (ss : List (List UInt8)), e = .returned v ∧ ss.Perm (strKeys D0) ∧
      w'.ownsRow (w.alloc (.cells #[.map (some b)] 60)).heap.size 9 1 v ss.length ((sortB ss).map encStr) ∧ Below (w.alloc (.cells #[.map (some b)] 60)).heap.size (w.alloc (.cells #[.map (some b)] 60)) w' := by
  have hbl := hown.lt
  have hseq : SeqGives Fence.wide 2 Tryz.prog 74 #[.pointer (some ⟨w.heap.size, 0, none⟩)] encStr (fun ss => ss.Perm (strKeys D0)) (Maps.size D0) (w.alloc (.cells #[.map (some b)] 60)) :=
    AnyZ.keys_gives (ρ := Tryz.keys44_ren) { Tryz.keys44 with } Fence.wide _ trivial rfl (by omega) w.heap.size b nn D0 _ (by simp) (by simp) (by
      obtain ⟨es, clock, hb, Ft, hs, hD⟩ := hown
      exact ⟨es, clock, (Below.heap_alloc _ _ b hbl).trans hb, Ft, hs, hD⟩)
  refine ((callsIn_wide (n := 5)).1 (AnyZ.sorted_in Tryz.sorted43 Fence.wide 5 trivial trivial trivial trivial rfl (by omega) (sorts_wide _) (enters_of Tryz.func71 (by kernel_rfl) rfl) 74 #[.pointer (some ⟨w.heap.size, 0, none⟩)] trivial (enters_of Tryz.func74 (by kernel_rfl) rfl) _ _ hmax hbytes _ hseq)).mono ?_
  rintro e w' ⟨v, ss, rfl, h1, h2, _, h3⟩
  exact ⟨v, ss, rfl, h1, h2, h3⟩
/-- Names that are the keys of a map, in their order. -/
theorem sorted_keys {w : World} {b n : Nat} {R : Value → Option (DataW Unit × List MemPlace)} {D : DataW Unit} (hown : w.ownsMap Tryz.prog 9 R b n D) {L : List ByteArray} (hL : Sorted L) (hm : ∀ s, s ∈ L ↔ Maps.has D (keyS s) = true) {ss : List (List UInt8)} (hp : ss.Perm (strKeys D)) :
    (sortB ss).map encStr = cellsS L ∧ ss.length = L.length := by
  have hnd := sorted_nodup L hL
  have hbs : ∀ x : List UInt8, x ∈ L.map bs ↔ (⟨x.toArray⟩ : ByteArray) ∈ L := fun x => by
    rw [List.mem_map]
    constructor
    · rintro ⟨s, hs, rfl⟩
      rw [bs_mk]; exact hs
    · intro h
      exact ⟨_, h, mk_bs x⟩
  have hc : Collected D (fun _ => false) (L.map bs) := by
    refine ⟨?_, fun x => ?_⟩
    · refine List.pairwise_map.2 (List.Pairwise.imp (fun {a c} h e => h ?_) hnd)
      rw [← bs_mk a, ← bs_mk c, e]
    · rw [hbs, hm]
      simp
  have hp2 : ss.Perm (L.map bs) := hp.trans (hc.perm hown str_law Tryz.underlying9 (fun _ => rfl)).symm
  refine ⟨?_, by rw [hp2.length_eq, List.length_map]⟩
  have e1 : sortB ss = sortB (L.map bs) := mergeSort_of_perm hp2
  have h1 := sortB_le (L.map bs)
  have h2 : (sortB (L.map bs)).Nodup := (List.mergeSort_perm (L.map bs) _).nodup_iff.2 hc.1
  have h3 : (sortB (L.map bs)).Pairwise fun x y => Op.bytesLess x y = true := by
    refine List.Pairwise.imp (fun {x y} h => ?_) (List.pairwise_and_iff.2 ⟨h1, h2⟩)
    obtain ⟨g1, g2⟩ := h
    have hx : x = (⟨x.toArray⟩ : ByteArray).toList := by rw [bs_list, mk_bs]
    have hy : y = (⟨y.toArray⟩ : ByteArray).toList := by rw [bs_list, mk_bs]
    rcases cmpS_cases ⟨x.toArray⟩ ⟨y.toArray⟩ with ⟨_, q, _⟩ | ⟨_, q⟩ | ⟨_, q, _⟩
    · rw [← hx, ← hy] at q; exact q
    · rw [← hx, ← hy] at q; exact absurd q g2
    · rw [← hx, ← hy] at q; rw [q] at g1; cases g1
  have h4 := sorted_of _ h3
  have h5 : (sortB (L.map bs)).map (fun x => (⟨x.toArray⟩ : ByteArray)) = L := by
    refine sorted_one _ _ h4 hL fun s => ?_
    rw [List.mem_map]
    constructor
    · rintro ⟨x, hx, rfl⟩
      exact (hbs x).1 ((sortB_mem _ x).1 hx)
    · intro h
      exact ⟨bs s, (sortB_mem _ _).2 (List.mem_map.2 ⟨s, h, rfl⟩), bs_mk s⟩
  rw [e1, cellsS]
  conv => rhs; rw [← h5]
  rw [List.map_map]
  rfl
end Go.Proofs.YtinnhaojmnmliaaGreat
