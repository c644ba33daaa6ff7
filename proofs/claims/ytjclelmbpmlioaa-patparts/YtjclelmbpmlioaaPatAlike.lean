/-
  pat.alike: has each Var one Type, and is it that of PNots everywhere or nowhere?
-/
import Derived.Test.YtjclelmbpmlioaaPatFirsts
import Derived.Test.YtjclelmbpmlioaaPatRefSame
import Derived.Test.YtjclelmbpmlioaaArgs
namespace Go.Proofs.Ytjclelmbpmlioaa
open Go.RowKit Go.Shelf Go.Maps Go.WideMaps
attribute [local go_sem] Oper.semAt_some

theorem first_one {l : List Pt} {f g : Pt} (hf : f ∈ firstL l) (hg : g ∈ firstL l) (e : f.s = g.s) : f = g := by
  have key : ∀ (l acc : List Pt), (∀ a ∈ acc, ∀ b ∈ acc, a.s = b.s → a = b) → ∀ a ∈ l.foldl addU acc, ∀ b ∈ l.foldl addU acc, a.s = b.s → a = b := by
    intro l
    induction l with
    | nil => intro acc h; exact h
    | cons z l ih =>
      intro acc h
      refine ih (addU acc z) ?_
      unfold addU
      split
      · exact h
      · rename_i hz
        have hz' : ∀ a ∈ acc, a.s ≠ z.s := fun a ha q => hz (List.any_eq_true.2 ⟨a, ha, by simp [q]⟩)
        intro a ha b hb q
        rcases List.mem_append.1 ha with ha' | ha' <;> rcases List.mem_append.1 hb with hb' | hb'
        · exact h a ha' b hb' q
        · rw [List.mem_singleton] at hb'; rw [hb'] at q; exact absurd q (hz' a ha')
        · rw [List.mem_singleton] at ha'; rw [ha'] at q; exact absurd q.symm (hz' b hb')
        · rw [List.mem_singleton] at ha' hb'; rw [ha', hb']
  exact key l [] (fun a ha => by simp at ha) f hf g hg e
theorem row_ptr {w : World} {base n : Nat} {a : Option Addr} {cap : Nat} {A : List (Nat × Nat)} (h : w.ownsRow base 55 1 (.slice a n cap) A.length (ptrs A)) {i : Nat} {p : Nat × Nat} (hp : A[i]? = some p) :
    n = A.length ∧ ∃ g, a = some ⟨g, 0, none⟩ ∧ base ≤ g ∧ g < w.heap.size ∧ w.cell? ⟨g, i, none⟩ = some (.pointer (some ⟨p.1, p.2, none⟩)) := by
  have hi : i < A.length := (List.getElem?_eq_some_iff.1 hp).1
  rcases h.2 with ⟨e, e2⟩ | ⟨g, cap', cur, e, hg, hc, hnc, hcm, hs, ht⟩
  · omega
  · injection e with e1 e2 e3
    subst e1
    refine ⟨e2, g, rfl, hg, (Array.getElem?_eq_some_iff.1 hc).1, ?_⟩
    simp only [World.cell?, hc]
    have h1 : (ptrs A)[i]? = some (.pointer (some ⟨p.1, p.2, none⟩)) := by simp [ptrs, hp]
    rw [← ht, List.getElem?_take_of_lt (by omega)] at h1
    rw [Array.getElem?_toList] at h1
    simpa using h1
set_option maxRecDepth 100000 in
set_option maxHeartbeats 8000000 in
theorem alike_in (n : Nat) (x : Pt) (b0 o0 : Nat) (w : World) (hN : NodeP w b0 o0 x) (hX : IsP w x) (hsm : x.size ≤ 1048576) (hok : POk x) :
    CallsIn Fence.wide n Try.prog 30 #[.pointer (some ⟨b0, o0, none⟩)] w fun e w' => ∃ r : Bool, e = .returned (.bool r) ∧ (r = true ↔ AlikeP x) ∧ Below w.heap.size w w' := by
  have hdd : ∀ k : Nat, (Fence.wide.depth.isSome = true → 1 ≤ k) := fun k h => by cases h
  obtain ⟨A0, hA0⟩ : ∃ A0, w.alloc (.cells #[.bool false] 4) = A0 := ⟨_, rfl⟩
  have hB0 : Below w.heap.size w A0 := by rw [← hA0]; exact (Below.refl _ _).alloc (Nat.le_refl _) _
  have hs0 : A0.heap.size = w.heap.size + 1 := by rw [← hA0]; simp
  have hr0 : Boxed A0 w.heap.size 4 (.bool false) := hA0 ▸ Boxed.new _ _ _
  have hfir := firsts_in12 (n - 1) x b0 o0 A0 (hN.later hB0) (hX.later hB0) hsm hok
  refine callsIn_of_wp_marks Try.func30 rfl trivial ?_ rfl
  simp only [Try.ntmps30, List.size_toArray, List.length_cons, List.length_nil, Nat.reduceAdd, Nat.reduceSub, Array.replicate_succ, Array.replicate_zero, List.push_toArray, List.append_toArray, List.nil_append, List.cons_append]
  gi_wp2_with (first
    | (refine ⟨trivial, hdd _, ?_⟩; gi_at_call 50; refine hfir.mono ?_; clear hfir; rintro e W1 ⟨a, m, cap, A, D, q, M, rfl, hM, hrow, hfa, hmap, hmt, hB1⟩)
    | (refine ⟨trivial, hdd _, ?_⟩; gi_at_call 25; refine (named_in _ _ _).mono ?_; rintro e w' ⟨rfl, rfl⟩))
  obtain ⟨C, hC⟩ : ∃ C, ((W1.alloc (.cells #[.slice a m cap] 83)).alloc (.cells #[.map (some M)] 47)).alloc (.cells #[.pointer (some ⟨b0, o0, none⟩)] 55) = C := ⟨_, rfl⟩
  rw [hC]
  have hCs : C.heap.size = W1.heap.size + 3 := by rw [← hC]; simp
  have hBC : Below W1.heap.size W1 C := by rw [← hC]; exact (((Below.refl _ W1).alloc (Nat.le_refl _) _).alloc (by simp) _).alloc (by simp; omega) _
  have hb0 : Boxed C W1.heap.size 83 (.slice a m cap) := by rw [← hC]; exact ((Boxed.new W1 _ _).alloc _).alloc _
  have hb1 : Boxed C (W1.heap.size + 1) 47 (.map (some M)) := by
    have := (Boxed.new (W1.alloc (.cells #[.slice a m cap] 83)) 47 (.map (some M))).alloc (.cells #[.pointer (some ⟨b0, o0, none⟩)] 55)
    rw [World.size_alloc, hC] at this
    exact this
  have hb2 : Boxed C (W1.heap.size + 1 + 1) 55 (.pointer (some ⟨b0, o0, none⟩)) := by
    have := Boxed.new ((W1.alloc (.cells #[.slice a m cap] 83)).alloc (.cells #[.map (some M)] 47)) 55 (.pointer (some ⟨b0, o0, none⟩))
    rw [World.size_alloc, World.size_alloc, hC] at this
    exact this
  clear hC
  have hs1 := hB1.size
  have hlt0 := hN.lt
  have hwC : Below w.heap.size w C := hB0.trans ((hB1.mono (by omega)).trans (hBC.mono (by omega)))
  have h0C : Below A0.heap.size A0 C := hB1.trans (hBC.mono hs1)
  have hrC : Boxed C w.heap.size 4 (.bool false) := Boxed.kept_of hr0 h0C (by omega)
  have hrowC := own_laterS hrow hBC
  have hmapC := ownsMap_below hBC hmap.lt hmap
  have hML := hmap.lt
  refine named_fold (W1.heap.size + 1 + 1) b0 o0 x (fun k => k < w.heap.size) (fun pre W => Below C.heap.size C W ∧ ∀ u ∈ pre, ∀ f ∈ firstL (usesP x), f.s = u.s → Agree u f) (fun c W => c = .ret ∧ ¬ AlikeP x ∧ Boxed W w.heap.size 4 (.bool false) ∧ Below w.heap.size w W)
    rfl rfl hb2.cell hsm (fun k hk => by omega) hlt0 (hN.later hwC) (PIn.xt (n := w.heap.size) (fun k hk => hk) (hX.inn.below hwC)) ?_ ?_ ?_ ?_
    (fun b o => { tmps := #[.pointer (some ⟨b0, o0, none⟩), undef, .pointer (some ⟨w.heap.size, 0, none⟩), .pointer (some ⟨W1.heap.size, 0, none⟩), .pointer (some ⟨W1.heap.size + 1, 0, none⟩), .pointer (some ⟨b, o, none⟩), undef, .tuple #[.slice a m cap, .map (some M)], .pointer (some ⟨b0, o0, none⟩), .tuple #[.slice a m cap, .map (some M)], .slice a m cap, .map (some M), .pointer (some ⟨b0, o0, none⟩), .func (.func 43) #[] #[.pointer (some ⟨W1.heap.size + 1 + 1, 0, none⟩)], .pointer (some ⟨b, o, none⟩), undef, undef, undef, undef, undef, undef, undef, undef, undef, undef, undef, undef, undef, undef, undef, undef, undef, undef, undef, undef, undef, undef, undef, undef, undef, undef, undef, undef, undef, undef, undef], defers := [] }) ?_ ?_ ?_ ?_
  · rintro pre W B hag ⟨h1, h2⟩
    exact ⟨hag.below (Nat.le_refl _) h1, h2⟩
  · rintro pre W ⟨h1, h2⟩
    exact ⟨h1.drew, h2⟩
  · exact fun W hW => ⟨hW, fun u hu => by simp at hu⟩
  · rintro c W B hag ⟨h1, h2, h3, h4⟩
    exact ⟨h1, h2, hag.boxed h3, hag.below (by omega) h4⟩
  · intro l b o W K hK
    gi_wp2
    first | exact hK | simpa using hK
  · rintro l b o y pre W hb hn hx ⟨hW, hpre⟩ hs ⟨post, hpo⟩ hk
    have hmem : y ∈ usesP x := by rw [← hpo]; simp
    clear hpo
    have hys := (uses_ok hok y hmem).1
    obtain ⟨j, hj⟩ : ∃ j, idxF (firstL (usesP x)) y.s = some j := by
      cases e : idxF (firstL (usesP x)) y.s with
      | some j => exact ⟨j, rfl⟩
      | none =>
        obtain ⟨z, hz, q⟩ := firstL_has hmem
        exact absurd q (idxF_none.1 e z hz)
    obtain ⟨f, hf, hfs⟩ := idxF_some hj
    have hjl : j < (firstL (usesP x)).length := (List.getElem?_eq_some_iff.1 hf).1
    obtain ⟨p, hp⟩ : ∃ p, A[j]? = some p := ⟨A[j]'(by rw [hfa.1]; exact hjl), List.getElem?_eq_getElem _⟩
    obtain ⟨hp1, hpn⟩ := hfa.2 j p f hp hf
    have hfn : NodeP W p.1 p.2 f := (hpn.later h0C).later hW
    obtain ⟨hm, g, rfl, hg1, hg2, hgc⟩ := row_ptr hrowC hp
    have hjm : j < m := by rw [hm, hfa.1]; exact hjl
    have cg := cell_later hgc hW
    have cl := (Boxed.kept_of hb0 hW (by omega)).cell
    have cm := (Boxed.kept_of hb1 hW (by omega)).cell
    have hlk : ∀ nq, (Instr.lookup 47 (.map (some M)) (.string y.s) false).run Try.prog (W.drewN nq) = .ok (.int .i64 (j : Nat)) (W.drewN nq) := fun nq => look1_to (W := W.drewN nq) (ownsMap_below hW (by have := hBC.size; omega) hmapC) hmt hys hj
    obtain ⟨d0, d1, d2, d3, d4, d5⟩ := hn
    obtain ⟨p1, p2⟩ := p
    simp only at hfn cg hp1
    obtain ⟨e0, e1, e2, e3, e4, e5⟩ := hfn
    have rW := Boxed.kept_of hrC hW (by omega)
    have rc := rW.cell
    have rf := rW.frozen
    have hmlen : m ≤ 1048576 := by
      have h1 := length_firstL (usesP x)
      have h2 := length_uses x
      rw [hm, hfa.1]; omega
    have HBW : Hid (Below C.heap.size C W) := hW
    have yes : Agree y f → ∀ n1 n2, foldPost C.heap.size (fun k => k < w.heap.size ∨ (C.heap.size ≤ k ∧ k < C.heap.size + 8)) (fun W => Below C.heap.size C W ∧ ∀ u ∈ pre ++ [y], ∀ f ∈ firstL (usesP x), f.s = u.s → Agree u f) (fun c W => c = .ret ∧ ¬ AlikeP x ∧ Boxed W w.heap.size 4 (.bool false) ∧ Below w.heap.size w W) W .normal ⟨#[], []⟩ ((W.drewN n1).drewN n2) := fun hag n1 n2 => by
      refine ⟨⟨Nat.le_refl _, fun _ _ _ h _ => h⟩, fun _ _ _ _ e => e, hW.trans ⟨rfl, rfl, rfl, Nat.le_refl _, fun _ _ => rfl⟩, fun u hu f' hf' e => ?_⟩
      rcases List.mem_append.1 hu with hu | hu
      · exact hpre u hu f' hf' e
      · rw [List.mem_singleton] at hu
        subst hu
        have : f' = f := first_one hf' (List.mem_of_getElem? hf) (e.trans hfs.symm)
        rw [this]; exact hag
    have no : ¬ Agree y f → ∀ n1, foldPost C.heap.size (fun k => k < w.heap.size ∨ (C.heap.size ≤ k ∧ k < C.heap.size + 8)) (fun W => Below C.heap.size C W ∧ ∀ u ∈ pre ++ [y], ∀ f ∈ firstL (usesP x), f.s = u.s → Agree u f) (fun c W => c = .ret ∧ ¬ AlikeP x ∧ Boxed W w.heap.size 4 (.bool false) ∧ Below w.heap.size w W) W .ret ⟨#[], []⟩ ((W.drewN n1).setCell ⟨w.heap.size, 0, none⟩ (.bool false)) := fun hag n1 => by
      have k0 : KeepsOthers W (W.drewN n1) := ⟨Nat.le_refl _, fun _ _ h _ => h⟩
      have rW2 : Boxed (W.drewN n1) w.heap.size 4 (.bool false) := rW
      refine ⟨(k0.trans (KeepsOthers.setCell _ _ _)).from _, rfl, fun h => hag ((alike_first.1 h) y hmem f (List.mem_of_getElem? hf) hfs), rW2.set _, ?_⟩
      exact ((hwC.trans (hW.mono (by omega))).trans (show Below w.heap.size W (W.drewN n1) from ⟨rfl, rfl, rfl, Nat.le_refl _, fun _ _ => rfl⟩)).setCell (p := ⟨w.heap.size, 0, none⟩) (Nat.le_refl _) _
    clear hpre hj hf hfs hjl hp hfa hpn hgc hrowC hm hW
    by_cases ht : y.t = f.t
    · have t1 := str_yes ht
      by_cases hkk : (y.k = 6 ↔ f.k = 6)
      · have HY := yes ⟨ht, hkk⟩
        have HYES : Hid _ := HY
        obtain ⟨u1, hu1⟩ : ∃ u, (y.k == 6) = u := ⟨_, rfl⟩
        have hu2 : (f.k == 6) = u1 := by rw [← hu1, Bool.eq_iff_iff]; simp [hkk]
        clear yes no HY ht hkk
        gi_wp2
        refine wpIn_region_round (by kernel_rfl) (by kernel_rfl) (by kernel_rfl) ?_
        repeat (gi_big_quiet_step (fail))
        refine wpQuietIn_nil ?_
        intro _ hw'
        obtain ⟨nq, hw''⟩ := hw'
        subst hw''
        gi_wp2
        cases u1
        all_goals (refine wpIn_region_round (by kernel_rfl) (by kernel_rfl) (by kernel_rfl) ?_)
        all_goals (repeat (gi_big_quiet_step (fail)))
        all_goals (refine wpQuietIn_nil ?_)
        all_goals (intro w2 hw2)
        all_goals (obtain ⟨n2, hw3⟩ := hw2)
        all_goals (subst hw3)
        all_goals gi_wp2
        all_goals exact HYES.out _ _
      · have HNO : Hid _ := no (fun h => hkk h.2)
        obtain ⟨u1, hu1⟩ : ∃ u, (y.k == 6) = u := ⟨_, rfl⟩
        have hu2 : (f.k == 6) = !u1 := by
          rw [← hu1, Bool.eq_iff_iff]
          simp only [Bool.not_eq_true', beq_eq_false_iff_ne, beq_iff_eq]
          exact ⟨fun h1 h2 => hkk ⟨fun _ => h1, fun _ => h2⟩, fun h1 => Classical.byContradiction fun h2 => hkk ⟨fun h => absurd h h1, fun h => absurd h h2⟩⟩
        clear yes no ht hkk
        gi_wp2
        refine wpIn_region_round (by kernel_rfl) (by kernel_rfl) (by kernel_rfl) ?_
        repeat (gi_big_quiet_step (fail))
        refine wpQuietIn_nil ?_
        intro _ hw'
        obtain ⟨nq, hw''⟩ := hw'
        subst hw''
        gi_wp2
        cases u1
        all_goals (simp only [Bool.not_false, Bool.not_true] at hu2)
        all_goals (refine wpIn_region_round (by kernel_rfl) (by kernel_rfl) (by kernel_rfl) ?_)
        all_goals (repeat (gi_big_quiet_step (fail)))
        all_goals (refine wpQuietIn_nil ?_)
        all_goals (intro w2 hw2)
        all_goals (obtain ⟨n2, hw3⟩ := hw2)
        all_goals (subst hw3)
        all_goals gi_wp2
        all_goals exact HNO.out _
    · have t1 := str_not ht
      have HNO : Hid _ := no (fun h => ht h.1)
      clear yes no ht
      gi_wp2
      refine wpIn_region_round (by kernel_rfl) (by kernel_rfl) (by kernel_rfl) ?_
      repeat (gi_big_quiet_step (fail))
      refine wpQuietIn_nil ?_
      intro _ hw'
      obtain ⟨nq, hw''⟩ := hw'
      subst hw''
      gi_wp2
      refine wpIn_region_round (by kernel_rfl) (by kernel_rfl) (by kernel_rfl) ?_
      repeat (gi_big_quiet_step (fail))
      refine wpQuietIn_nil ?_
      intro w2 hw2
      obtain ⟨n2, hw3⟩ := hw2
      subst hw3
      gi_wp2
      exact HNO.out _
  · rintro D0 W hD ⟨hW, hall⟩ hK
    have rW := Boxed.kept_of hrC hW (by omega)
    have rc := rW.cell
    have rf := rW.frozen
    have hK' : (W.setCell ⟨w.heap.size, 0, none⟩ (.bool true)).heap[D0]? = some (.deferred (some [])) := (KeepsOthers.setCell _ _ _).same D0 _ hK rfl
    have hc5 := cell_kept (rW.set (.bool true)).cell (grownBy_putObj' _ D0 (.deferred none)) (fun r e => by cases e; exact ⟨_, hK', rfl⟩)
    have hBW : Below w.heap.size w W := hwC.trans (hW.mono (by omega))
    gi_wp2
    refine ⟨by simp, .inl ⟨_, _, rfl, run_takeDeferred hK', ?_⟩⟩
    refine ⟨.bool true, ?_, true, rfl, ⟨fun _ => alike_first.2 hall, fun _ => rfl⟩, (hBW.setCell (p := ⟨w.heap.size, 0, none⟩) (Nat.le_refl _) _).trans (belowK_b (w := w) (Nat.le_refl _) _ D0 _ _ (by omega) hK' rfl rfl)⟩
    simp [results, Try.f30, go_sem, hc5]
  · rintro D0 c W hD ⟨rfl, h0, h1, h2⟩ hK
    have hc5 := cell_kept h1.cell (grownBy_putObj' _ D0 (.deferred none)) (fun r e => by cases e; exact ⟨_, hK, rfl⟩)
    gi_wp2
    refine ⟨by simp, .inl ⟨_, _, rfl, run_takeDeferred hK, ?_⟩⟩
    refine ⟨.bool false, ?_, false, rfl, ⟨fun h => (by cases h), fun h => absurd h h0⟩, h2.trans (belowK_b (w := w) (Nat.le_refl _) _ D0 _ _ (by omega) hK rfl rfl)⟩
    simp [results, Try.f30, go_sem, hc5]
end Go.Proofs.Ytjclelmbpmlioaa
