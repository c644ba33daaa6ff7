/-
  pat.Made.
-/
import Derived.Test.YtjclelmbpmlioaaPatApart
import Derived.Test.YtjclelmbpmlioaaPatAlike
import Derived.Test.YtjclelmbpmlioaaPatBetween
import Derived.Test.YtjclelmbpmlioaaPatCheck
namespace Go.Proofs.Ytjclelmbpmlioaa
open Go.RowKit Go.Shelf
attribute [local go_sem] Oper.semAt_some

/-- What Made answers. -/
def MadeZ (x : Pt) (z : Int) : Prop := (chkP x ≠ 0 ∧ z = chkP x) ∨ (chkP x = 0 ∧ MadeP x ∧ z = 0) ∨ (chkP x = 0 ∧ ¬ MadeP x ∧ z = 4)
theorem between_no {x y : Pt} {d : Nat} (hv : (d, y) ∈ visP 1 x) (h : betweenB y (d == 1) = false) : ¬ MadeP x := fun hm => by
  have := (hm.2.2 (d, y) hv).1
  rw [h] at this
  cases this
theorem apart_no {x y : Pt} {d : Nat} (hv : (d, y) ∈ visP 1 x) (h4 : y.k ≠ 4) (h : ¬ Apart y) : ¬ MadeP x := fun hm => by
  rcases (hm.2.2 (d, y) hv).2 with e | e
  · exact h4 e
  · exact h e
set_option maxRecDepth 100000 in
set_option maxHeartbeats 8000000 in
theorem madeP_in (n : Nat) (x : Pt) (w : World) (hX : IsP w x) (hsm : x.size ≤ 1048576) (hok : POk x) :
    CallsIn Fence.wide n Try.prog 15 #[x.val] w fun e w' => ∃ z : Int, e = .returned (.int .i64 z) ∧ MadeZ x z ∧ Below w.heap.size w w' := by
  have hdd : ∀ k : Nat, (Fence.wide.depth.isSome = true → 1 ≤ k) := fun k h => by cases h
  obtain ⟨A, hA⟩ : ∃ A, (w.alloc (.cells x.cells 24)).alloc (.cells #[.int .i64 0] 34) = A := ⟨_, rfl⟩
  have hAs : A.heap.size = w.heap.size + 2 := by rw [← hA]; simp
  have hB : Below w.heap.size w A := by rw [← hA]; exact ((Below.refl _ w).alloc (Nat.le_refl _) _).alloc (by simp) _
  have hnode : NodeP A w.heap.size 0 x := by
    rw [← hA]
    exact (nodeP_new w 24 x).later ((Below.refl _ _).alloc (Nat.le_refl _) _)
  have hb1 : Boxed A (w.heap.size + 1) 34 (.int .i64 0) := by
    have := Boxed.new (w.alloc (.cells x.cells 24)) 34 (.int .i64 0)
    rw [World.size_alloc, hA] at this
    exact this
  obtain ⟨d0, d1, d2, d3, d4, d5⟩ := hnode.at0
  have hchk := checkP_any x A (hX.later hB) hsm
  refine callsIn_of_wp_marks Try.func15 rfl trivial ?_ rfl
  simp only [Try.ntmps15, List.size_toArray, List.length_cons, List.length_nil, Nat.reduceAdd, Nat.reduceSub, Array.replicate_succ, Array.replicate_zero, List.push_toArray, List.append_toArray, List.nil_append, List.cons_append]
  by_cases hc : chkP x = 0
  · rw [hc] at hchk
    by_cases h6 : x.k = 6
    · have hk6 : (x.k == 6) = true := by simp [h6]
      have hno : MadeZ x 4 := .inr (.inr ⟨hc, fun h => h.1 h6, rfl⟩)
      clear h6 hc
      gi_wp2_with (refine ⟨trivial, hdd _, ?_⟩; gi_at_call 12; refine (callsIn_wide.2 hchk).mono ?_; rintro e w2 ⟨rfl, hB2⟩; have q1 := Boxed.kept_of hb1 hB2 (by omega); have c1 := q1.cell; have f1 := q1.frozen; obtain ⟨g0, g1, g2, g3, g4, g5⟩ := (hnode.later hB2).at0)
      refine ⟨trivial, ?_⟩
      gi_wp2
      refine leaves_marks (base := A.heap.size) (ds := []) trivial fun W' hW' => ⟨.int .i64 4, ?_, 4, rfl, hno, hW'.below (by omega) ((hB.trans (hB2.mono (by omega))).setCell (p := ⟨w.heap.size + 1, 0, none⟩) (by simp) _)⟩
      have := (hW'.boxed (q1.set (.int .i64 4))).cell
      simp [results, Try.f15, go_sem, this]
    · have hk6 : (x.k == 6) = false := by simp [h6]
      gi_wp2_with (first
        | (refine ⟨trivial, hdd _, ?_⟩; gi_at_call 12; refine (callsIn_wide.2 hchk).mono ?_; rintro e w2 ⟨rfl, hB2⟩; clear hchk; have q1 := Boxed.kept_of hb1 hB2 (by omega); have n2 := hnode.later hB2; have x2 := hX.later (hB.trans (hB2.mono (by omega))); obtain ⟨g0, g1, g2, g3, g4, g5⟩ := n2.at0)
        | (refine ⟨trivial, hdd _, ?_⟩; gi_at_call 30; refine (alike_in _ x _ 0 _ n2 x2 hsm hok).mono ?_; rintro e w3 ⟨r, rfl, hr, hB3⟩; have HR : Hid _ := hr; clear hr; have q3 := Boxed.kept_of q1 hB3 (by have := hB2.size; omega); have c3 := q3.cell; have f3 := q3.frozen; cases r)
        | (refine ⟨trivial, hdd _, ?_⟩; gi_at_call 27; refine (nodesP_in _ _ _).mono ?_; rintro e w' ⟨rfl, rfl⟩))
      · refine leaves_marks (base := A.heap.size) (ds := []) trivial fun W' hW' => ⟨.int .i64 4, ?_, 4, rfl, .inr (.inr ⟨hc, fun h => (by have := HR.out.2 h.2.1; cases this), rfl⟩), hW'.below (by omega) (((hB.trans (hB2.mono (by omega))).trans (hB3.mono (by have := hB2.size; omega))).setCell (p := ⟨w.heap.size + 1, 0, none⟩) (by simp) _)⟩
        have := (hW'.boxed (q3.set (.int .i64 4))).cell
        simp [results, Try.f15, go_sem, this]
      · have hal : AlikeP x := HR.out.1 trivial
        have s2 := hB2.size
        have s3 := hB3.size
        obtain ⟨E, hE⟩ : ∃ E, w3.alloc (.cells #[.pointer (some ⟨w.heap.size, 0, none⟩)] 55) = E := ⟨_, rfl⟩
        have hEs : E.heap.size = w3.heap.size + 1 := by rw [← hE]; simp
        have h3E : Below w3.heap.size w3 E := by rw [← hE]; exact (Below.refl _ _).alloc (Nat.le_refl _) _
        have hpE : Boxed E w3.heap.size 55 (.pointer (some ⟨w.heap.size, 0, none⟩)) := by rw [← hE]; exact Boxed.new _ _ _
        have h2E : Below w2.heap.size w2 E := hB3.trans (h3E.mono s3)
        have hwE : Below w.heap.size w E := (hB.trans (hB2.mono (by omega))).trans (h2E.mono (by omega))
        have nE : NodeP E w.heap.size 0 x := n2.later h2E
        have hbE : Boxed E (w.heap.size + 1) 34 (.int .i64 0) := Boxed.kept_of q3 h3E (by omega)
        rw [hE]
        clear hE HR q3 c3 f3 q1 g0 g1 g2 g3 g4 g5 d0 d1 d2 d3 d4 d5 hA
        refine nodesP_fold w3.heap.size w.heap.size 0 x (fun k => k < w.heap.size + 1) (fun pre W => Below E.heap.size E W ∧ ∀ v ∈ pre, betweenB v.2 (v.1 == 1) = true ∧ (v.2.k = 4 ∨ Apart v.2))
          (fun c W => c = .ret ∧ ¬ MadeP x ∧ Boxed W (w.heap.size + 1) 34 (.int .i64 4) ∧ Below w.heap.size w W)
          rfl rfl hpE.cell hsm (fun k hk => by omega) (by omega) nE (PIn.xt (n := w.heap.size) (fun k hk => by omega) (hX.inn.below hwE)) ?_ ?_ ?_ ?_
          (fun d b o => { tmps := #[x.val, .pointer (some ⟨w.heap.size, 0, none⟩), .pointer (some ⟨w.heap.size + 1, 0, none⟩), .int .i64 0, .int .i64 d, .pointer (some ⟨b, o, none⟩), .agg #[.int .i64 x.k, .string x.s, .string x.t, .int .i64 x.lo, .int .i64 x.hi, .slice x.a x.n x.cap], .int .i64 0, .int .i64 0, .bool false, undef, .pointer (some ⟨w.heap.size, 0, none⟩), .int .i64 x.k, .bool false, .bool false, .bool true, .bool false, .bool false, .func (.func 44) #[] #[.pointer (some ⟨w3.heap.size, 0, none⟩)], .int .i64 d, .pointer (some ⟨b, o, none⟩), undef, undef, undef, undef, undef, undef, undef, undef, undef, undef, undef, undef, undef, undef, undef, undef, undef], defers := [] }) ?_ ?_ ?_ ?_
        · rintro pre W B hag ⟨h1, h2⟩
          exact ⟨hag.below (Nat.le_refl _) h1, h2⟩
        · rintro pre W ⟨h1, h2⟩
          exact ⟨h1.drew, h2⟩
        · exact fun W hW => ⟨hW, fun v hv => by simp at hv⟩
        · rintro c W B hag ⟨h1, h2, h3, h4⟩
          exact ⟨h1, h2, hag.boxed h3, hag.below (by omega) h4⟩
        · intro l d b o W K hK
          gi_wp2
          first | exact hK | simpa using hK
        · rintro l d b o y pre W hb hn hx ⟨hW, hpre⟩ hs ⟨post, hpo⟩
          have hv : (d, y) ∈ visP 1 x := by rw [← hpo]; simp
          clear hpo
          have hyk := visP_all (P := fun _ z => POk z ∧ z.size ≤ 1048576) (fun _ z hz i hi => ⟨((pOk_eq z).1 hz.1).2.2 i hi, by have := z.size_part i hi; omega⟩) x 1 ⟨hok, hsm⟩ (d, y) hv
          have hbt := between_any y (d == 1) b o W hn hx.is
          have hd1 : ((d : Int) == 1) = (d == 1) := by rw [Bool.eq_iff_iff]; simp; omega
          have HP : Hid (∀ W', Below W.heap.size W W' → betweenB y (d == 1) = true → (y.k = 4 ∨ Apart y) → foldPost E.heap.size (fun k => k < w.heap.size + 1 ∨ k = E.heap.size + 2 ∨ k = E.heap.size + 3) (fun W => Below E.heap.size E W ∧ ∀ v ∈ pre ++ [(d, y)], betweenB v.2 (v.1 == 1) = true ∧ (v.2.k = 4 ∨ Apart v.2)) (fun c W => c = .ret ∧ ¬ MadeP x ∧ Boxed W (w.heap.size + 1) 34 (.int .i64 4) ∧ Below w.heap.size w W) W .normal ⟨#[], []⟩ W') := fun W' hB' h1 h2 => by
            refine ⟨⟨hB'.size, fun k ob _ ho _ => (hB'.block k (Array.getElem?_eq_some_iff.1 ho).1).trans ho⟩, fun k ob _ _ ho => (hB'.block k (Array.getElem?_eq_some_iff.1 ho).1).trans ho, hW.trans (hB'.mono hW.size), fun v hv => ?_⟩
            rcases List.mem_append.1 hv with hv | hv
            · exact hpre v hv
            · rw [List.mem_singleton] at hv; rw [hv]; exact ⟨h1, h2⟩
          have HX : Hid (∀ W', Below W.heap.size W W' → ¬ MadeP x → foldPost E.heap.size (fun k => k < w.heap.size + 1 ∨ k = E.heap.size + 2 ∨ k = E.heap.size + 3) (fun W => Below E.heap.size E W ∧ ∀ v ∈ pre ++ [(d, y)], betweenB v.2 (v.1 == 1) = true ∧ (v.2.k = 4 ∨ Apart v.2)) (fun c W => c = .ret ∧ ¬ MadeP x ∧ Boxed W (w.heap.size + 1) 34 (.int .i64 4) ∧ Below w.heap.size w W) W .ret ⟨#[], []⟩ (W'.setCell ⟨w.heap.size + 1, 0, none⟩ (.int .i64 4))) := fun W' hB' h1 => by
            have r1 : Boxed W' (w.heap.size + 1) 34 (.int .i64 0) := Boxed.kept_of (Boxed.kept_of hbE hW (by omega)) hB' (by have := hW.size; omega)
            have k0 : KeepsOthers W W' := ⟨hB'.size, fun k ob ho _ => (hB'.block k (Array.getElem?_eq_some_iff.1 ho).1).trans ho⟩
            exact ⟨(k0.trans (KeepsOthers.setCell _ _ _)).from _, rfl, h1, r1.set _, ((hwE.trans (hW.mono (by omega))).trans (hB'.mono (by have := hW.size; omega))).setCell (p := ⟨w.heap.size + 1, 0, none⟩) (by simp) _⟩
          have HC : Hid (∀ W', Below W.heap.size W W' → W'.cell? ⟨w.heap.size + 1, 0, none⟩ = some (.int .i64 0) ∧ W'.frozen? ⟨w.heap.size + 1, 0, none⟩ = false ∧ W'.cell? ⟨b, o, none⟩ = some (.int .i64 y.k)) := fun W' hB' => by
            have r1 : Boxed W' (w.heap.size + 1) 34 (.int .i64 0) := Boxed.kept_of (Boxed.kept_of hbE hW (by omega)) hB' (by have := hW.size; omega)
            exact ⟨r1.cell, r1.frozen, (hn.later hB').1⟩
          clear hpre hbE hW
          obtain ⟨t, ht⟩ : ∃ t, t = betweenB y (d == 1) := ⟨_, rfl⟩
          rw [← ht] at hbt
          cases t with
          | false =>
            have HNM : Hid (¬ MadeP x) := between_no hv ht.symm
            clear hv ht hyk hn hx
            gi_wp2_with (refine ⟨trivial, hdd _, ?_⟩; gi_at_call 31; refine (CallsIn.inRound l (callsIn_wide.2 hbt)).mono ?_; rintro e v2 ⟨rfl, hC2⟩; obtain ⟨r1, r2, r3⟩ := HC.out v2 hC2)
            all_goals first
              | (rename_i h1 h2; cases h1; done)
              | (refine ⟨trivial, ?_⟩; gi_wp2; exact HX.out _ hC2 HNM.out)
          | true =>
            by_cases h4 : y.k = 4
            · have t4 : (y.k != 4) = false := by simp [h4]
              have HGO : Hid _ := fun W' hB' => HP.out W' hB' ht.symm (.inl h4)
              clear hv ht hyk hn hx HX HP h4
              gi_wp2_with (refine ⟨trivial, hdd _, ?_⟩; gi_at_call 31; refine (CallsIn.inRound l (callsIn_wide.2 hbt)).mono ?_; rintro e v2 ⟨rfl, hC2⟩; obtain ⟨r1, r2, r3⟩ := HC.out v2 hC2)
              refine ⟨trivial, ?_⟩
              gi_wp2
              exact HGO.out _ hC2
            · have t4 : (y.k != 4) = true := by simp [h4]
              have hap := fun W' hB' => apart_any y b o W' (hn.later hB') (hx.is.later hB') hyk.2 hyk.1
              have HV : Hid ((d, y) ∈ visP 1 x) := hv
              have H4 : Hid (y.k ≠ 4) := h4
              have HT : Hid (true = betweenB y (d == 1)) := ht
              clear hv ht hyk hn hx h4
              gi_wp2_with (first
                | (refine ⟨trivial, hdd _, ?_⟩; gi_at_call 31; refine (CallsIn.inRound l (callsIn_wide.2 hbt)).mono ?_; rintro e v2 ⟨rfl, hC2⟩; clear hbt; obtain ⟨r1, r2, r3⟩ := HC.out v2 hC2)
                | (refine ⟨trivial, hdd _, ?_⟩; gi_at_call 32; refine (CallsIn.inRound l (callsIn_wide.2 (hap v2 hC2))).mono ?_; clear hap; rintro e v3 ⟨r, rfl, hr, hC3⟩; have HR : Hid _ := hr; clear hr; have hC4 := hC2.trans (hC3.mono hC2.size); obtain ⟨s1, s2, s3⟩ := HC.out v3 hC4; cases r))
              · exact HX.out _ hC4 (apart_no HV.out H4.out (fun h => (by have := HR.out.2 h; cases this)))
              · exact HP.out _ hC4 HT.out.symm (.inr (HR.out.1 trivial))
        · rintro D0 W hD ⟨hW, hall⟩ hK
          have rW := Boxed.kept_of hbE hW (by omega)
          have rc := rW.cell
          have rf := rW.frozen
          have hK' : (W.setCell ⟨w.heap.size + 1, 0, none⟩ (.int .i64 0)).heap[D0]? = some (.deferred (some [])) := (KeepsOthers.setCell _ _ _).same D0 _ hK rfl
          have hmade : MadeZ x 0 := .inr (.inl ⟨hc, ⟨h6, hal, hall⟩, rfl⟩)
          clear hall hal
          gi_wp2
          refine leaves_marks (base := E.heap.size) ⟨D0, rfl, hD, hK', fun d' hd' => (by simp at hd'), trivial⟩ fun W' hW' => ⟨.int .i64 0, ?_, 0, rfl, hmade, hW'.below (by omega) ((hwE.trans (hW.mono (by omega))).setCell (p := ⟨w.heap.size + 1, 0, none⟩) (by simp) _)⟩
          have := (hW'.boxed (rW.set (.int .i64 0))).cell
          simp [results, Try.f15, go_sem, this]
        · rintro D0 c W hD ⟨rfl, h2, h3, h4⟩ hK
          gi_wp2
          refine leaves_marks (base := E.heap.size) ⟨D0, rfl, hD, hK, fun d' hd' => (by simp at hd'), trivial⟩ fun W' hW' => ⟨.int .i64 4, ?_, 4, rfl, .inr (.inr ⟨hc, h2, rfl⟩), hW'.below (by omega) h4⟩
          have := (hW'.boxed h3).cell
          simp [results, Try.f15, go_sem, this]
  · have HNZ : Hid (MadeZ x (chkP x)) := .inl ⟨hc, rfl⟩
    obtain ⟨z, hz⟩ : ∃ z, z = chkP x := ⟨_, rfl⟩
    have hne : (z != 0) = true := by simp [hz, hc]
    rw [← hz] at hchk HNZ
    clear hz hc
    gi_wp2_with (refine ⟨trivial, hdd _, ?_⟩; gi_at_call 12; refine (callsIn_wide.2 hchk).mono ?_; rintro e w2 ⟨rfl, hB2⟩; have q1 := Boxed.kept_of hb1 hB2 (by omega); have c1 := q1.cell; have f1 := q1.frozen)
    refine leaves_marks (base := A.heap.size) (ds := []) trivial fun W' hW' => ⟨.int .i64 z, ?_, z, rfl, HNZ.out, hW'.below (by omega) ((hB.trans (hB2.mono (by omega))).setCell (p := ⟨w.heap.size + 1, 0, none⟩) (by simp) _)⟩
    have := (hW'.boxed (q1.set (.int .i64 z))).cell
    simp [results, Try.f15, go_sem, this]
theorem madeP_any (x : Pt) (w : World) (hX : IsP w x) (hsm : x.size ≤ 1048576) (hok : POk x) :
    Calls Try.prog 15 #[x.val] w fun e w' => ∃ z : Int, e = .returned (.int .i64 z) ∧ MadeZ x z ∧ Below w.heap.size w w' :=
  (callsIn_wide (n := 3)).1 (madeP_in 3 x w hX hsm hok)
end Go.Proofs.Ytjclelmbpmlioaa
