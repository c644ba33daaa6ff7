/-
  pat.alike: has each Var one Type, and is it that of PNots everywhere or nowhere?
  pat.between: may each PNot among the parts stand where it does?
  slices.ContainsFunc of a pattern's parts: is one of the same kind?
  word.Name and its small functions: a range over a text's runes is a walk over its bytes.
-/
import Derived.Test.YtinnhaojmnmliaaDPatFirsts
import Derived.Test.YtinnhaojmnmliaaDPatTail
import Derived.Test.YtinnhaojmnmliaaDPatFresh
import Derived.Test.YtinnhaojmnmliaaDPatMadeMath
import Derived.Test.YtinnhaojmnmliaaDPatNamed
import Derived.BigQuiet
namespace Go.Proofs.Ytinnhaojmnmliaa
open Go.RowKit Go.Shelf Go.Maps Go.WideMaps
attribute [local go_sem] Oper.semAt_some

theorem first_one {l : List Pt} {f g : Pt} (hf : f ∈ firstL l) (hg : g ∈ firstL l) (e : f.s = g.s) : f = g := by
  have key : ∀ (l acc : List Pt), (∀ a ∈ acc, ∀ b ∈ acc, a.s = b.s → a = b) → ∀ a ∈ l.foldl addU acc, ∀ b ∈ l.foldl addU acc, a.s = b.s → a = b := by
    intro l
    induction l with
    | nil => intro acc h; exact h
    | cons z l ih =>
      intro acc h
      refine ih (addU acc z) ?_
      unfold addU
      split
      · exact h
      · rename_i hz
        have hz' : ∀ a ∈ acc, a.s ≠ z.s := fun a ha q => hz (List.any_eq_true.2 ⟨a, ha, by simp [q]⟩)
        intro a ha b hb q
        rcases List.mem_append.1 ha with ha' | ha' <;> rcases List.mem_append.1 hb with hb' | hb'
        · exact h a ha' b hb' q
        · rw [List.mem_singleton] at hb'; rw [hb'] at q; exact absurd q (hz' a ha')
        · rw [List.mem_singleton] at ha'; rw [ha'] at q; exact absurd q.symm (hz' b hb')
        · rw [List.mem_singleton] at ha' hb'; rw [ha', hb']
  exact key l [] (fun a ha => by simp at ha) f hf g hg e
theorem row_ptr {w : World} {base n : Nat} {a : Option Addr} {cap : Nat} {A : List (Nat × Nat)} (h : w.ownsRow base 52 1 (.slice a n cap) A.length (ptrs A)) {i : Nat} {p : Nat × Nat} (hp : A[i]? = some p) :
    n = A.length ∧ ∃ g, a = some ⟨g, 0, none⟩ ∧ base ≤ g ∧ g < w.heap.size ∧ w.cell? ⟨g, i, none⟩ = some (.pointer (some ⟨p.1, p.2, none⟩)) := by
  have hi : i < A.length := (List.getElem?_eq_some_iff.1 hp).1
  rcases h.2 with ⟨e, e2⟩ | ⟨g, cap', cur, e, hg, hc, hnc, hcm, hs, ht⟩
  · omega
  · injection e with e1 e2 e3
    subst e1
    refine ⟨e2, g, rfl, hg, (Array.getElem?_eq_some_iff.1 hc).1, ?_⟩
    simp only [World.cell?, hc]
    have h1 : (ptrs A)[i]? = some (.pointer (some ⟨p.1, p.2, none⟩)) := by simp [ptrs, hp]
    rw [← ht, List.getElem?_take_of_lt (by omega)] at h1
    rw [Array.getElem?_toList] at h1
    simpa using h1
set_option maxRecDepth 100000 in
set_option maxHeartbeats 8000000 in
theorem alike_in (n : Nat) (x : Pt) (b0 o0 : Nat) (w : World) (hN : NodeP w b0 o0 x) (hX : IsP w x) (hsm : x.size ≤ 1048576) (hok : POk x) :
    CallsIn Fence.wide n Try.prog 35 #[.pointer (some ⟨b0, o0, none⟩)] w fun e w' => ∃ r : Bool, e = .returned (.bool r) ∧ (r = true ↔ AlikeP x) ∧ Below w.heap.size w w' := by
  have hdd : ∀ k : Nat, (Fence.wide.depth.isSome = true → 1 ≤ k) := fun k h => by cases h
  obtain ⟨A0, hA0⟩ : ∃ A0, w.alloc (.cells #[.bool false] 4) = A0 := ⟨_, rfl⟩
  have hB0 : Below w.heap.size w A0 := by rw [← hA0]; exact (Below.refl _ _).alloc (Nat.le_refl _) _
  have hs0 : A0.heap.size = w.heap.size + 1 := by rw [← hA0]; simp
  have hr0 : Boxed A0 w.heap.size 4 (.bool false) := hA0 ▸ Boxed.new _ _ _
  have hfir := firsts_in12 (n - 1) x b0 o0 A0 (hN.later hB0) (hX.later hB0) hsm hok
  refine callsIn_of_wp_marks Try.func35 rfl trivial ?_ rfl
  simp only [Try.ntmps35, List.size_toArray, List.length_cons, List.length_nil, Nat.reduceAdd, Nat.reduceSub, Array.replicate_succ, Array.replicate_zero, List.push_toArray, List.append_toArray, List.nil_append, List.cons_append]
  gi_wp2_with (first
    | (refine ⟨trivial, hdd _, ?_⟩; gi_at_call 29; refine hfir.mono ?_; clear hfir; rintro e W1 ⟨a, m, cap, A, D, q, M, rfl, hM, hrow, hfa, hmap, hmt, hB1⟩)
    | (refine ⟨trivial, hdd _, ?_⟩; gi_at_call 52; refine (named_in _ _ _).mono ?_; rintro e w' ⟨rfl, rfl⟩))
  obtain ⟨C, hC⟩ : ∃ C, ((W1.alloc (.cells #[.slice a m cap] 48)).alloc (.cells #[.map (some M)] 49)).alloc (.cells #[.pointer (some ⟨b0, o0, none⟩)] 52) = C := ⟨_, rfl⟩
  rw [hC]
  have hCs : C.heap.size = W1.heap.size + 3 := by rw [← hC]; simp
  have hBC : Below W1.heap.size W1 C := by rw [← hC]; exact (((Below.refl _ W1).alloc (Nat.le_refl _) _).alloc (by simp) _).alloc (by simp; omega) _
  have hb0 : Boxed C W1.heap.size 48 (.slice a m cap) := by rw [← hC]; exact ((Boxed.new W1 _ _).alloc _).alloc _
  have hb1 : Boxed C (W1.heap.size + 1) 49 (.map (some M)) := by
    have := (Boxed.new (W1.alloc (.cells #[.slice a m cap] 48)) 49 (.map (some M))).alloc (.cells #[.pointer (some ⟨b0, o0, none⟩)] 52)
    rw [World.size_alloc, hC] at this
    exact this
  have hb2 : Boxed C (W1.heap.size + 1 + 1) 52 (.pointer (some ⟨b0, o0, none⟩)) := by
    have := Boxed.new ((W1.alloc (.cells #[.slice a m cap] 48)).alloc (.cells #[.map (some M)] 49)) 52 (.pointer (some ⟨b0, o0, none⟩))
    rw [World.size_alloc, World.size_alloc, hC] at this
    exact this
  clear hC
  have hs1 := hB1.size
  have hlt0 := hN.lt
  have hwC : Below w.heap.size w C := hB0.trans ((hB1.mono (by omega)).trans (hBC.mono (by omega)))
  have h0C : Below A0.heap.size A0 C := hB1.trans (hBC.mono hs1)
  have hrC : Boxed C w.heap.size 4 (.bool false) := Boxed.kept_of hr0 h0C (by omega)
  have hrowC := own_laterS hrow hBC
  have hmapC := ownsMap_below hBC hmap.lt hmap
  have hML := hmap.lt
  refine named_fold (W1.heap.size + 1 + 1) b0 o0 x (fun k => k < w.heap.size) (fun pre W => Below C.heap.size C W ∧ ∀ u ∈ pre, ∀ f ∈ firstL (usesP x), f.s = u.s → Agree u f) (fun c W => c = .ret ∧ ¬ AlikeP x ∧ Boxed W w.heap.size 4 (.bool false) ∧ Below w.heap.size w W)
    rfl rfl hb2.cell hsm (fun k hk => by omega) hlt0 (hN.later hwC) (PIn.xt (n := w.heap.size) (fun k hk => hk) (hX.inn.below hwC)) ?_ ?_ ?_ ?_
    (fun b o => { tmps := #[.pointer (some ⟨b0, o0, none⟩), undef, .pointer (some ⟨w.heap.size, 0, none⟩), .pointer (some ⟨W1.heap.size, 0, none⟩), .pointer (some ⟨W1.heap.size + 1, 0, none⟩), .pointer (some ⟨b, o, none⟩), undef, .tuple #[.slice a m cap, .map (some M)], .pointer (some ⟨b0, o0, none⟩), .tuple #[.slice a m cap, .map (some M)], .slice a m cap, .map (some M), .pointer (some ⟨b0, o0, none⟩), .func (.func 68) #[] #[.pointer (some ⟨W1.heap.size + 1 + 1, 0, none⟩)], .pointer (some ⟨b, o, none⟩), undef, undef, undef, undef, undef, undef, undef, undef, undef, undef, undef, undef, undef, undef, undef, undef, undef, undef, undef, undef, undef, undef, undef, undef, undef, undef, undef, undef, undef, undef, undef], defers := [] }) ?_ ?_ ?_ ?_
  · rintro pre W B hag ⟨h1, h2⟩
    exact ⟨hag.below (Nat.le_refl _) h1, h2⟩
  · rintro pre W ⟨h1, h2⟩
    exact ⟨h1.drew, h2⟩
  · exact fun W hW => ⟨hW, fun u hu => by simp at hu⟩
  · rintro c W B hag ⟨h1, h2, h3, h4⟩
    exact ⟨h1, h2, hag.boxed h3, hag.below (by omega) h4⟩
  · intro l b o W K hK
    gi_wp2
    first | exact hK | simpa using hK
  · rintro l b o y pre W hb hn hx ⟨hW, hpre⟩ hs ⟨post, hpo⟩ hk
    have hmem : y ∈ usesP x := by rw [← hpo]; simp
    clear hpo
    have hys := (uses_ok hok y hmem).1
    obtain ⟨j, hj⟩ : ∃ j, idxF (firstL (usesP x)) y.s = some j := by
      cases e : idxF (firstL (usesP x)) y.s with
      | some j => exact ⟨j, rfl⟩
      | none =>
        obtain ⟨z, hz, q⟩ := firstL_has hmem
        exact absurd q (idxF_none.1 e z hz)
    obtain ⟨f, hf, hfs⟩ := idxF_some hj
    have hjl : j < (firstL (usesP x)).length := (List.getElem?_eq_some_iff.1 hf).1
    obtain ⟨p, hp⟩ : ∃ p, A[j]? = some p := ⟨A[j]'(by rw [hfa.1]; exact hjl), List.getElem?_eq_getElem _⟩
    obtain ⟨hp1, hpn⟩ := hfa.2 j p f hp hf
    have hfn : NodeP W p.1 p.2 f := (hpn.later h0C).later hW
    obtain ⟨hm, g, rfl, hg1, hg2, hgc⟩ := row_ptr hrowC hp
    have hjm : j < m := by rw [hm, hfa.1]; exact hjl
    have cg := cell_later hgc hW
    have cl := (Boxed.kept_of hb0 hW (by omega)).cell
    have cm := (Boxed.kept_of hb1 hW (by omega)).cell
    have hlk : ∀ nq, (Instr.lookup 49 (.map (some M)) (.string y.s) false).run Try.prog (W.drewN nq) = .ok (.int .i64 (j : Nat)) (W.drewN nq) := fun nq => look1_to (W := W.drewN nq) (ownsMap_below hW (by have := hBC.size; omega) hmapC) hmt hys hj
    obtain ⟨d0, d1, d2, d3, d4, d5⟩ := hn
    obtain ⟨p1, p2⟩ := p
    simp only at hfn cg hp1
    obtain ⟨e0, e1, e2, e3, e4, e5⟩ := hfn
    have rW := Boxed.kept_of hrC hW (by omega)
    have rc := rW.cell
    have rf := rW.frozen
    have hmlen : m ≤ 1048576 := by
      have h1 := length_firstL (usesP x)
      have h2 := length_uses x
      rw [hm, hfa.1]; omega
    have HBW : Hid (Below C.heap.size C W) := hW
    have yes : Agree y f → ∀ n1 n2, foldPost C.heap.size (fun k => k < w.heap.size ∨ (C.heap.size ≤ k ∧ k < C.heap.size + 8)) (fun W => Below C.heap.size C W ∧ ∀ u ∈ pre ++ [y], ∀ f ∈ firstL (usesP x), f.s = u.s → Agree u f) (fun c W => c = .ret ∧ ¬ AlikeP x ∧ Boxed W w.heap.size 4 (.bool false) ∧ Below w.heap.size w W) W .normal ⟨#[], []⟩ ((W.drewN n1).drewN n2) := fun hag n1 n2 => by
      refine ⟨⟨Nat.le_refl _, fun _ _ _ h _ => h⟩, fun _ _ _ _ e => e, hW.trans ⟨rfl, rfl, rfl, Nat.le_refl _, fun _ _ => rfl⟩, fun u hu f' hf' e => ?_⟩
      rcases List.mem_append.1 hu with hu | hu
      · exact hpre u hu f' hf' e
      · rw [List.mem_singleton] at hu
        subst hu
        have : f' = f := first_one hf' (List.mem_of_getElem? hf) (e.trans hfs.symm)
        rw [this]; exact hag
    have no : ¬ Agree y f → ∀ n1, foldPost C.heap.size (fun k => k < w.heap.size ∨ (C.heap.size ≤ k ∧ k < C.heap.size + 8)) (fun W => Below C.heap.size C W ∧ ∀ u ∈ pre ++ [y], ∀ f ∈ firstL (usesP x), f.s = u.s → Agree u f) (fun c W => c = .ret ∧ ¬ AlikeP x ∧ Boxed W w.heap.size 4 (.bool false) ∧ Below w.heap.size w W) W .ret ⟨#[], []⟩ ((W.drewN n1).setCell ⟨w.heap.size, 0, none⟩ (.bool false)) := fun hag n1 => by
      have k0 : KeepsOthers W (W.drewN n1) := ⟨Nat.le_refl _, fun _ _ h _ => h⟩
      have rW2 : Boxed (W.drewN n1) w.heap.size 4 (.bool false) := rW
      refine ⟨(k0.trans (KeepsOthers.setCell _ _ _)).from _, rfl, fun h => hag ((alike_first.1 h) y hmem f (List.mem_of_getElem? hf) hfs), rW2.set _, ?_⟩
      exact ((hwC.trans (hW.mono (by omega))).trans (show Below w.heap.size W (W.drewN n1) from ⟨rfl, rfl, rfl, Nat.le_refl _, fun _ _ => rfl⟩)).setCell (p := ⟨w.heap.size, 0, none⟩) (Nat.le_refl _) _
    clear hpre hj hf hfs hjl hp hfa hpn hgc hrowC hm hW
    by_cases ht : y.t = f.t
    · have t1 := str_yes ht
      by_cases hkk : (y.k = 6 ↔ f.k = 6)
      · have HY := yes ⟨ht, hkk⟩
        have HYES : Hid _ := HY
        obtain ⟨u1, hu1⟩ : ∃ u, (y.k == 6) = u := ⟨_, rfl⟩
        have hu2 : (f.k == 6) = u1 := by rw [← hu1, Bool.eq_iff_iff]; simp [hkk]
        clear yes no HY ht hkk
        gi_wp2
        refine wpIn_region_round (by kernel_rfl) (by kernel_rfl) (by kernel_rfl) ?_
        repeat (gi_big_quiet_step (fail))
        refine wpQuietIn_nil ?_
        intro _ hw'
        obtain ⟨nq, hw''⟩ := hw'
        subst hw''
        gi_wp2
        cases u1
        all_goals (refine wpIn_region_round (by kernel_rfl) (by kernel_rfl) (by kernel_rfl) ?_)
        all_goals (repeat (gi_big_quiet_step (fail)))
        all_goals (refine wpQuietIn_nil ?_)
        all_goals (intro w2 hw2)
        all_goals (obtain ⟨n2, hw3⟩ := hw2)
        all_goals (subst hw3)
        all_goals gi_wp2
        all_goals exact HYES.out _ _
      · have HNO : Hid _ := no (fun h => hkk h.2)
        obtain ⟨u1, hu1⟩ : ∃ u, (y.k == 6) = u := ⟨_, rfl⟩
        have hu2 : (f.k == 6) = !u1 := by
          rw [← hu1, Bool.eq_iff_iff]
          simp only [Bool.not_eq_true', beq_eq_false_iff_ne, beq_iff_eq]
          exact ⟨fun h1 h2 => hkk ⟨fun _ => h1, fun _ => h2⟩, fun h1 => Classical.byContradiction fun h2 => hkk ⟨fun h => absurd h h1, fun h => absurd h h2⟩⟩
        clear yes no ht hkk
        gi_wp2
        refine wpIn_region_round (by kernel_rfl) (by kernel_rfl) (by kernel_rfl) ?_
        repeat (gi_big_quiet_step (fail))
        refine wpQuietIn_nil ?_
        intro _ hw'
        obtain ⟨nq, hw''⟩ := hw'
        subst hw''
        gi_wp2
        cases u1
        all_goals (simp only [Bool.not_false, Bool.not_true] at hu2)
        all_goals (refine wpIn_region_round (by kernel_rfl) (by kernel_rfl) (by kernel_rfl) ?_)
        all_goals (repeat (gi_big_quiet_step (fail)))
        all_goals (refine wpQuietIn_nil ?_)
        all_goals (intro w2 hw2)
        all_goals (obtain ⟨n2, hw3⟩ := hw2)
        all_goals (subst hw3)
        all_goals gi_wp2
        all_goals exact HNO.out _
    · have t1 := str_not ht
      have HNO : Hid _ := no (fun h => ht h.1)
      clear yes no ht
      gi_wp2
      refine wpIn_region_round (by kernel_rfl) (by kernel_rfl) (by kernel_rfl) ?_
      repeat (gi_big_quiet_step (fail))
      refine wpQuietIn_nil ?_
      intro _ hw'
      obtain ⟨nq, hw''⟩ := hw'
      subst hw''
      gi_wp2
      refine wpIn_region_round (by kernel_rfl) (by kernel_rfl) (by kernel_rfl) ?_
      repeat (gi_big_quiet_step (fail))
      refine wpQuietIn_nil ?_
      intro w2 hw2
      obtain ⟨n2, hw3⟩ := hw2
      subst hw3
      gi_wp2
      exact HNO.out _
  · rintro D0 W hD ⟨hW, hall⟩ hK
    have rW := Boxed.kept_of hrC hW (by omega)
    have rc := rW.cell
    have rf := rW.frozen
    have hK' : (W.setCell ⟨w.heap.size, 0, none⟩ (.bool true)).heap[D0]? = some (.deferred (some [])) := (KeepsOthers.setCell _ _ _).same D0 _ hK rfl
    have hc5 := cell_kept (rW.set (.bool true)).cell (grownBy_putObj' _ D0 (.deferred none)) (fun r e => by cases e; exact ⟨_, hK', rfl⟩)
    have hBW : Below w.heap.size w W := hwC.trans (hW.mono (by omega))
    gi_wp2
    refine ⟨by simp, .inl ⟨_, _, rfl, run_takeDeferred hK', ?_⟩⟩
    refine ⟨.bool true, ?_, true, rfl, ⟨fun _ => alike_first.2 hall, fun _ => rfl⟩, (hBW.setCell (p := ⟨w.heap.size, 0, none⟩) (Nat.le_refl _) _).trans (belowK_b (w := w) (Nat.le_refl _) _ D0 _ _ (by omega) hK' rfl rfl)⟩
    simp [results, Try.f35, go_sem, hc5]
  · rintro D0 c W hD ⟨rfl, h0, h1, h2⟩ hK
    have hc5 := cell_kept h1.cell (grownBy_putObj' _ D0 (.deferred none)) (fun r e => by cases e; exact ⟨_, hK, rfl⟩)
    gi_wp2
    refine ⟨by simp, .inl ⟨_, _, rfl, run_takeDeferred hK, ?_⟩⟩
    refine ⟨.bool false, ?_, false, rfl, ⟨fun h => (by cases h), fun h => absurd h h0⟩, h2.trans (belowK_b (w := w) (Nat.le_refl _) _ D0 _ _ (by omega) hK rfl rfl)⟩
    simp [results, Try.f35, go_sem, hc5]
end Go.Proofs.Ytinnhaojmnmliaa
namespace Go.Proofs.Ytinnhaojmnmliaa
open Go.RowKit

set_option maxRecDepth 100000 in
set_option maxHeartbeats 8000000 in
theorem between_any (x : Pt) (whole : Bool) (b o : Nat) (w : World) (hN : NodeP w b o x) (hX : IsP w x) :
    Calls Try.prog 36 #[.pointer (some ⟨b, o, none⟩), .bool whole] w fun e w' => e = .returned (.bool (betweenB x whole)) ∧ Below w.heap.size w w' := by
  obtain ⟨r, hr⟩ : ∃ r, r = betweenB x whole := ⟨_, rfl⟩
  have HF : Hid (∀ i, i < x.n → notB x whole i = false → r = false) := fun i hi h => hr.trans (allN_false hi h)
  have HT : Hid ((∀ i, i < x.n → notB x whole i = true) → r = true) := fun h => hr.trans (allN_true.2 h)
  rw [← hr]
  have HN : Hid (NodeP w b o x) := hN
  have HX : Hid (IsP w x) := hX
  have hlen := hX.len
  obtain ⟨d0, d1, d2, d3, d4, d5⟩ := hN
  clear hr hX
  go_enter Try.func36, Try.ntmps36
  go_wp2
  clear d0 d1 d2 d3 d4 d5
  go_loopw [13] (fun u wr => ∃ k : Nat, k ≤ x.n ∧ u = .int .i64 k ∧ Hid (∀ i, i < k → notB x whole i = true) ∧ Below w.heap.size w wr) (fun u _ => x.n - (intOf u).toNat)
  case atStart => exact ⟨0, Nat.zero_le _, rfl, fun i hi => absurd hi (Nat.not_lt_zero _), Below.refl _ _⟩
  case round =>
    obtain ⟨k, hk, rfl, HK, hB⟩ := hrel
    by_cases hkn : k < x.n
    · obtain ⟨A, hA, hB2, hs, hm⟩ := boxP_one (x.c k) wr
      have HB : Hid (Below w.heap.size w A) := hB.trans (hB2.mono hB.size)
      obtain ⟨b1, o1, ea, hn1, -⟩ := (HX.out.later hB).part hkn
      obtain ⟨e0, e1, e2, e3, e4, e5⟩ := HN.out.later HB.out
      obtain ⟨c0, c1, c2, c3, c4, c5⟩ := hn1
      obtain ⟨g0, g1, g2, g3, g4, g5⟩ := hm.at0
      have HKN : Hid (k < x.n) := hkn
      rw [ea] at e5 ⊢
      have next : (notB x whole k = true) → ∀ i, i < k + 1 → notB x whole i = true := fun h i hi => by
        by_cases e : i = k
        · rw [e]; exact h
        · exact HK.out i (by omega)
      by_cases h6 : (x.c k).k = 6
      · have t1 := ne_yes h6
        by_cases h2 : x.k = 2
        · have t2 := ne_yes h2
          by_cases h0 : k = 0
          · have t3 : (((k : Nat) : Int) == 0) = true := by simp [h0]
            have HE : Hid (notB x whole k = false) := by show _ = _; rw [h0] at h6 ⊢; simp [notB, h6]
            clear h6 h2 h0 next ea hm hB2 hs hB
            go_wp2
            all_goals first
              | (go_ret; exact ⟨by rw [HF.out k HKN.out HE.out]; rfl, HB.out⟩)
          · obtain ⟨j, hj⟩ : ∃ j, k = j + 1 := ⟨k - 1, by omega⟩
            have hq : ((k : Nat) : Int) - 1 = (j : Int) := by omega
            have hjn : j < x.n := by omega
            have t3 : (((k : Nat) : Int) == 0) = false := by simp; omega
            obtain ⟨b2, o2, ea2, hn2, -⟩ := (HX.out.later HB.out).part hjn
            rw [ea] at ea2
            cases ea2
            obtain ⟨f0, f1, f2, f3, f4, f5⟩ := hn2
            have hkj : x.c (k - 1) = x.c j := by rw [hj]; rfl
            by_cases h5 : (x.c j).k = 6
            · have t4 : ((x.c j).k == 6) = true := by simp [h5]
              have HE : Hid (notB x whole k = false) := by show _ = _; simp [notB, h6, hkj, h5]
              clear h6 h2 h0 next ea hm hB2 hs hB hj hkj h5
              go_wp2
              all_goals first
                | (go_ret; exact ⟨by rw [HF.out k HKN.out HE.out]; rfl, HB.out⟩)
            · have t4 : ((x.c j).k == 6) = false := by simp [h5]
              by_cases hl : k + 1 = x.n
              · have t5 : (((k : Nat) : Int) == ((x.n : Nat) : Int) - 1) = true := by simp; omega
                cases whole with
                | false =>
                  have HE : Hid (notB x false k = false) := by show _ = _; simp [notB, h6, hl]
                  clear h6 h2 h0 next ea hm hB2 hs hB hj hkj h5 hl
                  go_wp2
                  all_goals first
                    | (go_ret; exact ⟨by rw [HF.out k HKN.out HE.out]; rfl, HB.out⟩)
                | true =>
                  have HE : Hid (∀ i, i < k + 1 → notB x true i = true) := next (by simp [notB, h2, h0, hkj, h5])
                  clear h6 h2 h0 next ea hm hB2 hs hB hj hkj h5 hl
                  go_wp2
                  go_roundw
                  case rel => exact ⟨k + 1, HKN.out, by go_num, HE, HB.out⟩
                  case measure => have := HKN.out; simp [intOf]; omega
              · have t5 : (((k : Nat) : Int) == ((x.n : Nat) : Int) - 1) = false := by simp; omega
                have HE : Hid (∀ i, i < k + 1 → notB x whole i = true) := next (by simp [notB, h2, h0, hkj, h5, hl])
                clear h6 h2 h0 next ea hm hB2 hs hB hj hkj h5 hl
                go_wp2
                go_roundw
                case rel => exact ⟨k + 1, HKN.out, by go_num, HE, HB.out⟩
                case measure => have := HKN.out; simp [intOf]; omega
        · have t2 := ne_no h2
          have HE : Hid (notB x whole k = false) := by show _ = _; simp [notB, h6, h2]
          clear h6 h2 next ea hm hB2 hs hB
          go_wp2
          all_goals first
            | (go_ret; exact ⟨by rw [HF.out k HKN.out HE.out]; rfl, HB.out⟩)
      · have t1 := ne_no h6
        have HE : Hid (∀ i, i < k + 1 → notB x whole i = true) := next (by simp [notB, h6])
        clear h6 next ea hm hB2 hs hB
        go_wp2
        go_roundw
        case rel => exact ⟨k + 1, HKN.out, by go_num, HE, HB.out⟩
        case measure => have := HKN.out; simp [intOf]; omega
    · obtain rfl : k = x.n := by omega
      go_wp2
      go_ret
      exact ⟨by rw [HT.out HK.out]; rfl, hB⟩
end Go.Proofs.Ytinnhaojmnmliaa
namespace Go.Proofs.Ytinnhaojmnmliaa
open Go.RowKit

theorem NodeP.at00 {w : World} {B : Nat} {x : Pt} (h : NodeP w B 0 x) : w.cell? ⟨B, 0, none⟩ = some (.int .i64 x.k) := h.1
set_option maxRecDepth 100000 in
set_option maxHeartbeats 1000000 in
theorem kindP_any (z : Pt) (Bx b o : Nat) (k : Int) (w : World) (hb : w.cell? ⟨Bx, 0, none⟩ = some (.pointer (some ⟨b, o, none⟩))) (hk : w.cell? ⟨b, o, none⟩ = some (.int .i64 k)) :
    Calls Try.prog 59 #[z.val, .pointer (some ⟨Bx, 0, none⟩)] w fun e w' => e = .returned (.bool (z.k == k)) ∧ Below w.heap.size w w' := by
  obtain ⟨A, hA⟩ : ∃ A, w.alloc (.cells z.cells 24) = A := ⟨_, rfl⟩
  have hB : Below w.heap.size w A := by rw [← hA]; exact (Below.refl _ w).alloc (Nat.le_refl _) _
  have n0 : A.cell? ⟨w.heap.size, 0, none⟩ = some (.int .i64 z.k) := by rw [← hA]; exact (nodeP_new w _ z).1
  have c1 := cell_later hb hB
  have c2 := cell_later hk hB
  have HB : Hid (Below w.heap.size w A) := hB
  clear hb hk hB
  go_enter Try.func59, Try.ntmps59
  go_wp2_with fail
  go_quiet (fail)
  go_wp2
  go_ret
  exact ⟨rfl, bd HB.out _⟩
set_option maxRecDepth 100000 in
set_option maxHeartbeats 1000000 in
theorem kindsP_index (y : Pt) (Bx b o : Nat) (k : Int) (w : World) (hY : IsP w y) (hb : w.cell? ⟨Bx, 0, none⟩ = some (.pointer (some ⟨b, o, none⟩))) (hk : w.cell? ⟨b, o, none⟩ = some (.int .i64 k)) :
    Calls Try.prog 71 #[.slice y.a y.n y.cap, .func (.func 59) #[] #[.pointer (some ⟨Bx, 0, none⟩)]] w fun e w' => ∃ r : Int, e = .returned (.int .i64 r) ∧ (0 ≤ r ↔ ∃ i, i < y.n ∧ (y.c i).k = k) ∧ Below w.heap.size w w' := by
  have HY : Hid (IsP w y) := hY
  have hlen := hY.len
  obtain ⟨a, ha⟩ : ∃ a, a = y.a := ⟨_, rfl⟩
  rw [← ha]
  have HA : Hid (a = y.a) := ha
  clear ha
  have Hb : Hid (w.cell? ⟨Bx, 0, none⟩ = some (.pointer (some ⟨b, o, none⟩))) := hb
  have Hk : Hid (w.cell? ⟨b, o, none⟩ = some (.int .i64 k)) := hk
  clear hY hb hk
  go_enter Try.func71, Try.ntmps71
  go_wp2
  go_loopw [8] (fun u wr => ∃ i : Nat, i ≤ y.n ∧ u = .int .i64 i ∧ Hid (∀ j, j < i → (y.c j).k ≠ k) ∧ Below w.heap.size w wr) (fun u _ => y.n - (intOf u).toNat)
  case atStart => exact ⟨0, Nat.zero_le _, rfl, fun j hj => by omega, Below.refl _ _⟩
  case round =>
    obtain ⟨i, hi, rfl, HI, hB⟩ := hrel
    by_cases hin : i < y.n
    · obtain ⟨b2, o2, ea, hn, hx⟩ := (HY.out.later hB).part hin
      rw [← HA.out] at ea
      subst ea
      obtain ⟨d0, d1, d2, d3, d4, d5⟩ := hn
      have hc := kindP_any (y.c i) Bx b o k wr (cell_later Hb.out hB) (cell_later Hk.out hB)
      have HK : Hid (i < y.n) := hin
      clear hx
      by_cases hv : (y.c i).k = k
      · have hv' : ((y.c i).k == k) = true := by simpa using hv
        have HV : Hid ((y.c i).k = k) := hv
        rw [hv'] at hc
        clear hv hv'
        go_wp2_with (go_at_call 59; refine hc.mono ?_; rintro e w2 ⟨rfl, hB2⟩)
        try rw [Exit.noGoto_ret]
        go_ret
        exact ⟨_, rfl, ⟨fun _ => ⟨i, HK.out, HV.out⟩, fun _ => by omega⟩, hB.trans (hB2.mono hB.size)⟩
      · have hv' : ((y.c i).k == k) = false := by simpa using hv
        have HV : Hid (¬ (y.c i).k = k) := hv
        rw [hv'] at hc
        clear hv hv'
        go_wp2_with (go_at_call 59; refine hc.mono ?_; rintro e w2 ⟨rfl, hB2⟩)
        go_roundw
        case rel => exact ⟨i + 1, HK.out, by go_num, fun j hj => by by_cases e : j = i; (· rw [e]; exact HV.out); exact HI.out j (by omega), hB.trans (hB2.mono hB.size)⟩
        case measure => have := HK.out; simp [intOf]; omega
    · obtain rfl : i = y.n := by omega
      go_wp2
      go_ret
      refine ⟨_, rfl, ⟨fun h => by omega, fun ⟨j, hj, e⟩ => absurd e (HI.out j hj)⟩, hB⟩
set_option maxRecDepth 100000 in
set_option maxHeartbeats 1000000 in
theorem kindsP_any (y : Pt) (Bx b o : Nat) (k : Int) (w : World) (hY : IsP w y) (hb : w.cell? ⟨Bx, 0, none⟩ = some (.pointer (some ⟨b, o, none⟩))) (hk : w.cell? ⟨b, o, none⟩ = some (.int .i64 k)) :
    Calls Try.prog 58 #[.slice y.a y.n y.cap, .func (.func 59) #[] #[.pointer (some ⟨Bx, 0, none⟩)]] w fun e w' => ∃ r : Bool, e = .returned (.bool r) ∧ (r = true ↔ ∃ i, i < y.n ∧ (y.c i).k = k) ∧ Below w.heap.size w w' := by
  have hc := kindsP_index y Bx b o k w hY hb hk
  clear hY hb hk
  go_enter Try.func58, Try.ntmps58
  go_wp2_with (go_at_call 71; refine hc.mono ?_; rintro e w2 ⟨r, rfl, hr, hB2⟩; have HR : Hid (0 ≤ r ↔ ∃ i, i < y.n ∧ (y.c i).k = k) := hr; clear hr)
  go_ret
  exact ⟨decide (0 ≤ r), rfl, by rw [← HR.out]; simp, hB2⟩
theorem ownB_iff (x : Pt) : ownB x = true ↔ ∃ i, i < x.n ∧ (x.c i).k = x.k := by
  unfold ownB
  rw [Bool.not_eq_true']
  constructor
  · intro h
    refine Classical.byContradiction fun hn => ?_
    have : allN (fun i => !((x.c i).k == x.k)) x.n = true := allN_true.2 fun i hi => by
      simp only [Bool.not_eq_true', beq_eq_false_iff_ne]
      exact fun e => hn ⟨i, hi, e⟩
    rw [this] at h
    cases h
  · rintro ⟨i, hi, e⟩
    exact allN_false hi (by simp [e])
theorem ownP_any (x : Pt) (Bx b o : Nat) (w : World) (hX : IsP w x) (hb : w.cell? ⟨Bx, 0, none⟩ = some (.pointer (some ⟨b, o, none⟩))) (hk : w.cell? ⟨b, o, none⟩ = some (.int .i64 x.k)) :
    Calls Try.prog 58 #[.slice x.a x.n x.cap, .func (.func 59) #[] #[.pointer (some ⟨Bx, 0, none⟩)]] w fun e w' => e = .returned (.bool (ownB x)) ∧ Below w.heap.size w w' := by
  refine (kindsP_any x Bx b o x.k w hX hb hk).mono ?_
  rintro e w' ⟨r, rfl, hr, hB⟩
  have : r = ownB x := by rw [Bool.eq_iff_iff, hr, ownB_iff]
  rw [this]
  exact ⟨rfl, hB⟩
end Go.Proofs.Ytinnhaojmnmliaa
namespace Go.Proofs.Ytinnhaojmnmliaa
open Go.RowKit

set_option maxHeartbeats 400000 in
theorem small_any (r : Int) (w : World) : Calls Try.prog 69 #[.int .i32 r] w fun e w' => e = .returned (.bool (smallB r)) ∧ w' = w := by
  go_enter Try.func69, Try.ntmps69
  go_wp2
  all_goals go_ret
  all_goals refine ⟨ret_bool ?_, rfl⟩
  all_goals (unfold smallB; rw [Bool.eq_iff_iff]; simp <;> omega)
set_option maxHeartbeats 400000 in
theorem fits_any (s : ByteArray) (w : World) : Calls Try.prog 70 #[.string s] w fun e w' => e = .returned (.bool (fitsB s)) ∧ w' = w := by
  go_enter Try.func70, Try.ntmps70
  go_wp2
  all_goals go_ret
  all_goals refine ⟨ret_bool ?_, rfl⟩
  all_goals (unfold fitsB; rw [Bool.eq_iff_iff]; simp <;> omega)

theorem below_iter (w : World) (s : ByteArray) (p : Nat) : Below w.heap.size w (w.iter s p) := (Below.refl _ _).alloc (Nat.le_refl _) _

set_option maxRecDepth 100000 in
set_option maxHeartbeats 4000000 in
theorem name_any (s : ByteArray) (w : World) : Calls Try.prog 56 #[.string s] w fun e w' => e = .returned (.bool (nameB s)) ∧ Below w.heap.size w w' := by
  obtain ⟨B, hB⟩ : ∃ B, B = nameB s := ⟨_, rfl⟩
  rw [← hB]
  have HB : Hid (B = nameB s) := hB
  clear hB
  have hfit := fun w' => fits_any s w'
  have HF : Hid (∀ w', Calls Try.prog 70 _ w' _) := hfit
  clear hfit
  go_enter Try.func56, Try.ntmps56
  go_wp2
  go_loopw [] (fun w' => ∃ p : Nat, w' = w.iter s p ∧ Hid (∀ j, j < p → j < s.size → okB (byteAt s j) j = true)) (fun w' => s.size - w'.iterPos w.heap.size)
  case atStart => exact ⟨0, rfl, fun j hj => by omega⟩
  case round =>
    obtain ⟨p, rfl, HP⟩ := hrel
    by_cases hp : p < s.size
    · have hbd := byteAt_bd s p
      by_cases ha : byteAt s p < 128
      · have hnx : ∀ ty, (Instr.next (.pointer (some ⟨w.heap.size, 0, none⟩)) true ty).run Try.prog (w.iter s p) = .ok (.tuple #[.bool true, .int .i64 p, .int .i32 (byteAt s p)]) (w.iter s (p + 1)) := fun ty => by
          have e := run_next_any (P := Try.prog) w s p ty hp
          rw [rune_byte s p hp ha] at e
          rw [e, Int.toNat_of_nonneg hbd.1]
        obtain ⟨c, hc⟩ : ∃ c, c = byteAt s p := ⟨_, rfl⟩
        have HC : Hid (c = byteAt s p) := hc
        rw [← hc] at hnx hbd ha
        clear hc
        by_cases h1 : 97 ≤ c ∧ c ≤ 122
        · have hs : smallB c = true := decide_eq_true h1
          have HO : Hid (okB c p = true) := by show okB c p = true; unfold okB; rw [hs]; rfl
          have HS : Hid (∀ w', Calls Try.prog 69 #[.int .i32 c] w' fun e w'' => e = .returned (.bool true) ∧ w'' = w') := fun w' => by have := small_any c w'; rwa [hs] at this
          obtain ⟨h1a, h1b⟩ := h1
          clear hs
          go_wp2_with (first | (go_at_call 69; refine (HS.out _).mono ?_; rintro e w1 ⟨rfl, hw1⟩; replace hw1 := hw1.symm; subst hw1))
          go_roundw
          case rel => exact ⟨p + 1, rfl, fun j hj hjs => if h : j = p then by rw [h, ← HC.out]; exact HO.out else HP.out j (by omega) hjs⟩
          case measure => simp; omega
        · have hs : smallB c = false := decide_eq_false h1
          have HS : Hid (∀ w', Calls Try.prog 69 #[.int .i32 c] w' fun e w'' => e = .returned (.bool false) ∧ w'' = w') := fun w' => by have := small_any c w'; rwa [hs] at this
          by_cases h2 : 48 ≤ c ∧ c ≤ 57 ∨ c = 95
          · have hl : laterB c = true := decide_eq_true h2
            by_cases hp0 : p = 0
            · have HO : Hid (okB c p = false) := by show okB c p = false; unfold okB; rw [hs, hl, hp0]; rfl
              subst hp0
              clear hs hl h1
              rcases h2 with ⟨h2a, h2b⟩ | h2
              · go_wp2_with (first | (go_at_call 69; refine (HS.out _).mono ?_; rintro e w1 ⟨rfl, hw1⟩; replace hw1 := hw1.symm; subst hw1))
                try rw [Exit.noGoto_ret]
                go_ret
                exact ⟨ret_bool (by rw [HB.out, nameB_not _ hp (by rw [← HC.out]; exact HO.out)]), below_iter w s _⟩
              · subst h2
                go_wp2_with (first | (go_at_call 69; refine (HS.out _).mono ?_; rintro e w1 ⟨rfl, hw1⟩; replace hw1 := hw1.symm; subst hw1))
                try rw [Exit.noGoto_ret]
                go_ret
                exact ⟨ret_bool (by rw [HB.out, nameB_not _ hp (by rw [← HC.out]; exact HO.out)]), below_iter w s _⟩
            · have HO : Hid (okB c p = true) := by show okB c p = true; unfold okB; rw [hs, hl]; simp [hp0]
              have hp1 : ¬ (p : Int) = 0 := by omega
              clear hs hl h1
              rcases h2 with ⟨h2a, h2b⟩ | h2
              · go_wp2_with (first | (go_at_call 69; refine (HS.out _).mono ?_; rintro e w1 ⟨rfl, hw1⟩; replace hw1 := hw1.symm; subst hw1))
                go_roundw
                case rel => exact ⟨p + 1, rfl, fun j hj hjs => if h : j = p then by rw [h, ← HC.out]; exact HO.out else HP.out j (by omega) hjs⟩
                case measure => simp; omega
              · subst h2
                go_wp2_with (first | (go_at_call 69; refine (HS.out _).mono ?_; rintro e w1 ⟨rfl, hw1⟩; replace hw1 := hw1.symm; subst hw1))
                go_roundw
                case rel => exact ⟨p + 1, rfl, fun j hj hjs => if h : j = p then by rw [h, ← HC.out]; exact HO.out else HP.out j (by omega) hjs⟩
                case measure => simp; omega
          · have hl : laterB c = false := decide_eq_false h2
            have HO : Hid (okB c p = false) := by show okB c p = false; unfold okB; rw [hs, hl]; rfl
            have h95 : ¬ c = 95 := fun h => h2 (.inr h)
            have h95' : (c == (95 : Int)) = false := by simp [h95]
            clear hs hl h1
            by_cases h48 : 48 ≤ c
            · have h57 : ¬ c ≤ 57 := fun h => h2 (.inl ⟨h48, h⟩)
              clear h2
              by_cases hp0 : p = 0
              · subst hp0
                go_wp2_with (first | (go_at_call 69; refine (HS.out _).mono ?_; rintro e w1 ⟨rfl, hw1⟩; replace hw1 := hw1.symm; subst hw1))
                try rw [Exit.noGoto_ret]
                go_ret
                exact ⟨ret_bool (by rw [HB.out, nameB_not _ hp (by rw [← HC.out]; exact HO.out)]), below_iter w s _⟩
              · have hp1 : ¬ (p : Int) = 0 := by omega
                go_wp2_with (first | (go_at_call 69; refine (HS.out _).mono ?_; rintro e w1 ⟨rfl, hw1⟩; replace hw1 := hw1.symm; subst hw1))
                try rw [Exit.noGoto_ret]
                go_ret
                exact ⟨ret_bool (by rw [HB.out, nameB_not _ hp (by rw [← HC.out]; exact HO.out)]), below_iter w s _⟩
            · clear h2
              by_cases hp0 : p = 0
              · subst hp0
                go_wp2_with (first | (go_at_call 69; refine (HS.out _).mono ?_; rintro e w1 ⟨rfl, hw1⟩; replace hw1 := hw1.symm; subst hw1))
                try rw [Exit.noGoto_ret]
                go_ret
                exact ⟨ret_bool (by rw [HB.out, nameB_not _ hp (by rw [← HC.out]; exact HO.out)]), below_iter w s _⟩
              · have hp1 : ¬ (p : Int) = 0 := by omega
                go_wp2_with (first | (go_at_call 69; refine (HS.out _).mono ?_; rintro e w1 ⟨rfl, hw1⟩; replace hw1 := hw1.symm; subst hw1))
                try rw [Exit.noGoto_ret]
                go_ret
                exact ⟨ret_bool (by rw [HB.out, nameB_not _ hp (by rw [← HC.out]; exact HO.out)]), below_iter w s _⟩
      · obtain ⟨r1, r2, _, _⟩ := rune_over s p hp (by omega)
        have hnx : ∀ ty, (Instr.next (.pointer (some ⟨w.heap.size, 0, none⟩)) true ty).run Try.prog (w.iter s p) = _ := fun ty => run_next_any (P := Try.prog) w s p ty hp
        have HO : Hid (okB (byteAt s p) p = false) := by
          show okB (byteAt s p) p = false
          unfold okB smallB laterB
          rw [decide_eq_false (by omega), decide_eq_false (by omega)]; rfl
        obtain ⟨c, hc⟩ : ∃ c : Int, c = ((Utf8.decode s p).1 : Int) := ⟨_, rfl⟩
        have hc1 : 128 ≤ c := by omega
        rw [← hc] at hnx
        generalize (Utf8.decode s p).2 = q at hnx
        have hs : smallB c = false := decide_eq_false (by omega)
        have HS : Hid (∀ w', Calls Try.prog 69 #[.int .i32 c] w' fun e w'' => e = .returned (.bool false) ∧ w'' = w') := fun w' => by have := small_any c w'; rwa [hs] at this
        have h57 : ¬ c ≤ 57 := by omega
        have h48 : 48 ≤ c := by omega
        have h95 : ¬ c = 95 := by omega
        have h95' : (c == (95 : Int)) = false := by simp [h95]
        clear hs ha r1 r2 hbd hc
        by_cases hp0 : p = 0
        · subst hp0
          go_wp2_with (first | (go_at_call 69; refine (HS.out _).mono ?_; rintro e w1 ⟨rfl, hw1⟩; replace hw1 := hw1.symm; subst hw1))
          try rw [Exit.noGoto_ret]
          go_ret
          exact ⟨ret_bool (by rw [HB.out, nameB_not 0 hp HO.out]), below_iter w s _⟩
        · have hp1 : ¬ (p : Int) = 0 := by omega
          go_wp2_with (first | (go_at_call 69; refine (HS.out _).mono ?_; rintro e w1 ⟨rfl, hw1⟩; replace hw1 := hw1.symm; subst hw1))
          try rw [Exit.noGoto_ret]
          go_ret
          exact ⟨ret_bool (by rw [HB.out, nameB_not p hp HO.out]), below_iter w s _⟩
    · have hnx : ∀ ty, (Instr.next (.pointer (some ⟨w.heap.size, 0, none⟩)) true ty).run Try.prog (w.iter s p) = _ := fun ty => run_next_end w s p ty hp
      go_wp2_with (first | (go_at_call 70; refine (HF.out _).mono ?_; rintro e w1 ⟨rfl, hw1⟩; replace hw1 := hw1.symm; subst hw1))
      go_ret
      refine ⟨ret_bool ?_, below_iter w s p⟩
      rw [HB.out, nameB_all (fun j hj => HP.out j (by omega) hj)]
end Go.Proofs.Ytinnhaojmnmliaa
