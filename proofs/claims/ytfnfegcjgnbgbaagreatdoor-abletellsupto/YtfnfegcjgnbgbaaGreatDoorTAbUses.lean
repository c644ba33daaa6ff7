/-
  able.Uses.
  able.Notes.
  The document's Lacks and Word; Same of two rows that hold the same notes.
  haruspexref22.Same of two rows that hold the same notes.
  What the document's nodes notes is what the program's notes; plain facts, of no function.
-/
import Derived.Test.YtfnfegcjgnbgbaaGreatDoorTQryCheckF
import Derived.Test.YtfnfegcjgnbgbaaGreatDoorTPatApart
import Derived.Test.YtfnfegcjgnbgbaaGreatDoorTAbOwn
import Derived.Test.YtfnfegcjgnbgbaaGreatDoorTAbNote
import Derived.Deep.DeepCutAuto
import Derived.BigQuiet
namespace Go.Proofs.YtfnfegcjgnbgbaaGreatDoor
open Go.RowKit Go.Shelf
attribute [local go_sem] Oper.semAt_some

/-- Is it right, its pattern well made? -/
def FineQ (q : Qy) : Prop := chkQ q = 0 ∧ MadeP q.p
def clauseL (q : Qy) : List Nt := (if (!q.key.toList.isEmpty) = true then [([], 8)] else []) ++ ([([], q.mode + 9)] ++ ((if (q.win != 0) = true then [([], 12)] else []) ++ (if (decide (0 < q.m)) = true then [([], 13)] else [])))
def usesL (q : Qy) : List Nt := (visW [] 0 q.p).flatMap (ntsOf (tlP q.p)) ++ clauseL q
/-- What Uses answers. -/
def UsesAll (q : Qy) (w : World) (e : Ending) (w' : World) : Prop :=
  (¬ FineQ q ∧ e = .returned (.tuple #[.slice none 0 0, .int .i64 1]) ∧ Below w.heap.size w w') ∨
  (FineQ q ∧ ∃ a cap K us, e = .returned (.tuple #[.slice a (usesL q).length cap, .int .i64 0]) ∧ Nts w' w.heap.size K (.slice a (usesL q).length cap) (usesL q) us ∧ Below w.heap.size w w')
theorem qyMode {q : Qy} (h : chkQ q = 0) : 0 ≤ q.mode ∧ q.mode ≤ 2 := by
  have h1 : cl7 q = 0 := lexN_zero.1 h 6 (by omega)
  unfold cl7 argB at h1
  by_cases hc : (decide (0 ≤ q.mode) && decide (q.mode ≤ 2)) = true
  · simpa using hc
  · rw [Bool.not_eq_true] at hc
    rw [hc] at h1
    cases h1
theorem qySmall {q : Qy} (h : chkQ q = 0) : q.p.size ≤ 64 ∧ q.p.deep ≤ 8 := by
  have h1 : chkP q.p = 0 := lexN_zero.1 h 0 (by omega)
  exact ⟨(chkP_zero.1 h1).1, (chkP_zero.1 h1).2.1⟩
abbrev noteV (lb : Nat) : Value := .func (.func 26) #[] #[.pointer (some ⟨lb, 0, none⟩)]
/-- What stays told of memory while notes are taken: the list so far, the closure, the Tail, the query. -/
structure UJ (q : Qy) (y : Pt) (B0 lb tb : Nat) (w : World) (L : List Nt) (K : Nat → Prop) (W : World) : Prop where
  row : ∃ v us, Boxed W lb 31 v ∧ Nts W B0 K v L us
  lt : ∀ k, K k → k < W.heap.size
  note : Boxed W (lb + 1) 57 (noteV lb)
  tail : W.heap[tb]? = some (.cells y.cells 24 (0, 0))
  q : QB W B0 q
  low : Below B0 w W
  lb : B0 < lb
variable {q : Qy} {y : Pt} {B0 lb tb : Nat} {w : World} {L : List Nt} {K : Nat → Prop} {W W' : World}
theorem UJ.moved (h : UJ q y B0 lb tb w L K W) (hc : ∀ (k : Nat) (c : Array Value) (t : TypeId), (t ≠ 3 ∨ K k) → W.heap[k]? = some (.cells c t (0, 0)) → W'.heap[k]? = some (.cells c t (0, 0))) (hs : W.heap.size ≤ W'.heap.size) (hl : Below B0 w W') : UJ q y B0 lb tb w L K W' := by
  obtain ⟨v, us, h1, h2⟩ := h.row
  exact ⟨⟨v, us, hc _ _ _ (.inl (by decide)) h1, h2.same (fun k c _ q => hc k c _ (.inl (by decide)) q) (fun k c hk q => hc k c _ (.inr hk) q) (fun _ h => h)⟩, fun k hk => Nat.lt_of_lt_of_le (h.lt k hk) hs, hc _ _ _ (.inl (by decide)) h.note, hc _ _ _ (.inl (by decide)) h.tail, hc _ _ _ (.inl (by decide)) h.q, hl, h.lb⟩
theorem UJ.grown (h : UJ q y B0 lb tb w L K W) {r : Option Nat} (hg : W.grownBy W' r) (hr : ∀ k, r = some k → IntB W k ∧ ¬ K k ∧ B0 ≤ k) : UJ q y B0 lb tb w L K W' := by
  refine h.moved (fun k c t ht hc => (hg.block k (heap_lt hc) (fun e => ?_)).trans hc) hg.size ⟨hg.os.trans h.low.os, hg.tape.trans h.low.tape, hg.output.trans h.low.output, Nat.le_trans h.low.size hg.size, fun k hk => (hg.block k ?_ (fun e => ?_)).trans (h.low.block k hk)⟩
  · obtain ⟨⟨cur, h1⟩, h2, -⟩ := hr k e.symm
    rcases ht with ht | ht
    · rw [hc] at h1
      injection h1 with h1
      injection h1 with _ q
      exact ht q
    · exact h2 ht
  · have h3 : B0 < W.heap.size := heap_lt h.q
    omega
  · have := (hr k e.symm).2.2
    omega
theorem UJ.later (h : UJ q y B0 lb tb w L K W) (hB : Below W.heap.size W W') : UJ q y B0 lb tb w L K W' := h.grown (r := none) ⟨hB.os, hB.tape, hB.output, hB.size, fun k hk _ => hB.block k hk⟩ (fun k e => by cases e)
theorem UJ.ag {B : Nat} (h : UJ q y B0 lb tb w L K W) (hag : Ag B W W') (hb : B0 ≤ B) : UJ q y B0 lb tb w L K W' :=
  h.moved (fun _ _ _ _ hc => (hag.cells _ _ rfl).2 hc) (Nat.le_of_eq hag.size.symm) (hag.below hb h.low)
/-- One call of the closure that notes. -/
theorem UJ.call (h : UJ q y B0 lb tb w L K W) {T : Nat → Prop} (hT : ∀ k, T k → k < B0) (va : Option Addr) (m cap : Nat) (way : List Int) (wb : Nat) (z : Int) (b : Bool) (hw : Wy W wb (.slice va m cap) way) (hm : m = way.length) (hL : L.length ≤ 1048576) (hwl : way.length ≤ 1048576) :
    Calls Tryz.prog 26 #[.slice va m cap, .int .i64 z, .bool b, .pointer (some ⟨lb, 0, none⟩)] W fun e W' => e = .returned (.tuple #[]) ∧ ∃ K' : Nat → Prop, (∀ k, K' k → K k ∨ W.heap.size ≤ k) ∧ UJ q y B0 lb tb w (L ++ if b = true then [(way, z)] else []) K' W' ∧ Ks T W W' ∧ KeepsOthers W W' := by
  obtain ⟨v, us, h1, h2⟩ := h.row
  have hq : B0 < W.heap.size := heap_lt h.q
  refine (note_any va m cap way wb z b lb B0 K v L us W hw hm h1 h2 (by omega) hL hwl).mono ?_
  rintro e W' ⟨rfl, v1, K1, us1, h3, h4, h5, h6⟩
  have vne : ∀ (k : Nat) (c : Array Value) (t : TypeId) (f : Nat × Nat), t ≠ 56 → W.heap[k]? = some (.cells c t f) → v.ownBlock ≠ some k := fun k c t f ht hc hk => by
    rcases h2.row.2 with ⟨e, -⟩ | ⟨g, cap', cur, e, -, q2, -⟩
    · rw [e] at hk; cases hk
    · rw [e] at hk; cases hk; rw [hc] at q2; injection q2 with q2; injection q2 with _ q3; exact ht q3
  have lne : ∀ (k : Nat) (c : Array Value) (t : TypeId) (f : Nat × Nat), t ≠ 31 → W.heap[k]? = some (.cells c t f) → k ≠ lb := fun k c t f ht hc hk => by
    have h1' : W.heap[lb]? = some (.cells #[v] 31 (0, 0)) := h1
    rw [hk] at hc
    rw [hc] at h1'
    injection h1' with h1'
    injection h1' with _ q3
    exact ht q3
  have keep : ∀ (k : Nat) (c : Array Value) (t : TypeId) (f : Nat × Nat), NoNote t → W.heap[k]? = some (.cells c t f) → W'.heap[k]? = some (.cells c t f) := fun k c t f ht hc =>
    (h6.block k (heap_lt hc) (lne k c t f ht.2 hc) (vne k c t f ht.1 hc)).trans hc
  have keepT : ∀ (k : Nat), k < B0 → W'.heap[k]? = W.heap[k]? := fun k hk => h6.block k (by omega) (by have := h.lb; omega) (fun e => by have := (h2.row.lt k e).1; omega)
  have hks : Ks T W W' := ⟨h6.size, fun k c t f ht hc => by
    rcases ht with ht | ht
    · exact (keepT k (hT k ht)).trans hc
    · exact keep k c t f ht hc⟩
  have hko : KeepsOthers W W' := ⟨h6.size, fun k o ho hcell => by
    refine (h6.block k (heap_lt ho) (fun e => ?_) (fun e => ?_)).trans ho
    · have h1' : W.heap[lb]? = some (.cells #[v] 31 (0, 0)) := h1
      rw [e, h1'] at ho
      injection ho with ho
      subst ho
      cases hcell
    · rcases h2.row.2 with ⟨e', -⟩ | ⟨g, cap', cur, e', -, q2, -⟩
      · rw [e'] at e; cases e
      · rw [e'] at e; cases e; rw [ho] at q2; injection q2 with q2; subst q2; cases hcell⟩
  refine ⟨rfl, fun k => K1 k ∧ k < W'.heap.size, fun k hk => h5 k hk.1, ⟨⟨v1, us1, h3, ?_⟩, fun k hk => hk.2, keep _ _ _ _ (by decide) h.note, keep _ _ _ _ (by decide) h.tail, keep _ _ _ _ (by decide) h.q, ⟨h6.os.trans h.low.os, h6.tape.trans h.low.tape, h6.output.trans h.low.output, Nat.le_trans h.low.size h6.size, fun k hk => (keepT k hk).trans (h.low.block k hk)⟩, h.lb⟩, hks, hko⟩
  exact ⟨h4.len, h4.row, fun j u n hu hn => ⟨(h4.way j u n hu hn).1, fun k hk => ⟨(h4.way j u n hu hn).2 k hk, ((h4.way j u n hu hn).1.lt k hk).2⟩⟩⟩
/-- The Tail of a right pattern has no parts. -/
theorem tlP_n {x : Pt} (h : rightP x = true) : (tlP x).n = 0 := by
  unfold tlP
  split
  · rename_i hh
    have h1 := (right_vis x 1).1 h (2, x.c (x.n - 1)) (by
      rw [visP_eq]
      refine List.mem_cons_of_mem _ (mem_catN.2 ⟨x.n - 1, by omega, ?_⟩)
      rw [visP_eq]
      exact List.mem_cons_self ..)
    simp only at h1
    unfold rightN at h1
    rw [if_neg (by rw [hh.2.2]; decide), if_neg (by rw [hh.2.2]; decide), if_pos (.inr hh.2.2)] at h1
    unfold leafB at h1
    simp at h1
    omega
  · rfl
set_option maxRecDepth 100000 in
set_option maxHeartbeats 16000000 in
theorem uses_in (n : Nat) (q : Qy) (w : World) (hQ : IsQ w q) (hok : QOk q) (hT : AbT w) : CallsIn Fence.wide n Tryz.prog 7 #[q.val] w (UsesAll q w) := by
  have hdd : ∀ k : Nat, (Fence.wide.depth.isSome = true → 1 ≤ k) := fun k h => by cases h
  obtain ⟨A, hA⟩ : ∃ A, w.alloc (.cells q.cells 28) = A := ⟨_, rfl⟩
  have hB : Below w.heap.size w A := by rw [← hA]; exact (Below.refl _ w).alloc (Nat.le_refl _) _
  have hs : A.heap.size = w.heap.size + 1 := by rw [← hA]; simp
  have qA : QB A w.heap.size q := by rw [← hA]; exact QB.new w q
  obtain ⟨⟨a0, a1, a2, a3, a4, a5⟩, a6, a7, a8, a9, a10⟩ := qA.at0
  have hchk := checkQF_any q A (hQ.later hB) hok
  by_cases hc : ¬ chkQ q = 0
  · have HN : Hid (¬ FineQ q) := fun h => hc h.1
    obtain ⟨z, hz⟩ : ∃ z, z = chkQ q := ⟨_, rfl⟩
    have hne : (z != 0) = true := by simp [hz, hc]
    rw [← hz] at hchk
    have HB : Hid (Below w.heap.size w A) := hB
    clear hz hc hQ hok hT qA hs hB
    subst hA
    refine callsIn_of_wp_marks Tryz.func7 rfl trivial ?_ rfl
    simp only [Tryz.ntmps7, List.size_toArray, List.length_cons, List.length_nil, Nat.reduceAdd, Nat.reduceSub, Array.replicate_succ, Array.replicate_zero, List.push_toArray, List.append_toArray, List.nil_append, List.cons_append]
    gi_wp2_with (refine ⟨trivial, hdd _, ?_⟩; gi_at_call 24; refine (callsIn_wide.2 hchk).mono ?_; clear hchk; rintro e w2 ⟨rfl, hB2⟩)
    refine ⟨trivial, ?_⟩
    gi_wp2
    refine leaves_marks (base := w.heap.size) (ds := []) trivial fun W' hW' => ⟨.tuple #[.slice none 0 0, .int .i64 1], ?_, (show UsesAll q w _ W' from Or.inl ⟨HN.out, rfl, hW'.below (Nat.le_refl _) (HB.out.trans (hB2.mono HB.out.size))⟩)⟩
    simp [results, Tryz.f7, go_sem]
  have hc : chkQ q = 0 := Classical.not_not.1 hc
  have hsm := bulk_of fun j hj => lexN_zero.1 hc j (by omega)
  have hpsm : q.p.size ≤ 1048576 := by have := qySmall hc; omega
  rw [hc] at hchk
  have hmade : ∀ d, Below A.heap.size A d → Calls Tryz.prog 25 #[q.p.val] d fun e w' => ∃ z : Int, e = .returned (.int .i64 z) ∧ MadeZ q.p z ∧ Below d.heap.size d w' := fun d h => madeP_any q.p d ((hQ.p.later hB).later h) hpsm hok.p
  have HM : Hid (∀ d, Below A.heap.size A d → Calls Tryz.prog 25 #[q.p.val] d fun e w' => ∃ z : Int, e = .returned (.int .i64 z) ∧ MadeZ q.p z ∧ Below d.heap.size d w') := hmade
  have HB : Hid (Below w.heap.size w A ∧ A.heap.size = w.heap.size + 1) := ⟨hB, hs⟩
  have HQ : Hid (IsQ w q ∧ QOk q ∧ AbT w ∧ chkQ q = 0 ∧ q.p.size ≤ 1048576) := ⟨hQ, hok, hT, hc, hpsm⟩
  have hcp : chkP q.p = 0 := lexN_zero.1 hc 0 (by omega)
  have HQA : Hid (QB A w.heap.size q) := qA
  have HCP : Hid (chkP q.p = 0) := hcp
  clear hmade hQ hok hT hc hpsm hcp qA hs hB hsm
  by_cases hm : ¬ MadeP q.p
  · have HN : Hid (¬ FineQ q) := fun h => hm h.2
    subst hA
    refine callsIn_of_wp_marks Tryz.func7 rfl trivial ?_ rfl
    simp only [Tryz.ntmps7, List.size_toArray, List.length_cons, List.length_nil, Nat.reduceAdd, Nat.reduceSub, Array.replicate_succ, Array.replicate_zero, List.push_toArray, List.append_toArray, List.nil_append, List.cons_append]
    gi_wp2_with (first
      | (refine ⟨trivial, hdd _, ?_⟩; gi_at_call 24; refine (callsIn_wide.2 hchk).mono ?_; clear hchk; rintro e w2 ⟨rfl, hB2⟩; clear a0 a1 a2 a3 a4 a5 a6 a7 a8 a9 a10; obtain ⟨⟨a0, a1, a2, a3, a4, a5⟩, a6, a7, a8, a9, a10⟩ := (HQA.out.later hB2).at0)
      | (refine ⟨trivial, hdd _, ?_⟩; gi_at_call 25; refine (callsIn_wide.2 (HM.out _ hB2)).mono ?_; clear HM; rintro e w3 ⟨z, rfl, hz, hB3⟩; obtain rfl : z = 4 := (by rcases hz with h | h | h; exact absurd HCP.out h.1; exact absurd h.2.1 hm; exact h.2.2); clear hz))
    refine leaves_marks (base := w.heap.size) (ds := []) trivial fun W' hW' => ⟨.tuple #[.slice none 0 0, .int .i64 1], ?_, (show UsesAll q w _ W' from Or.inl ⟨HN.out, rfl, hW'.below (Nat.le_refl _) ((HB.out.1.trans (hB2.mono HB.out.1.size)).trans (hB3.mono (Nat.le_trans HB.out.1.size hB2.size)))⟩)⟩
    simp [results, Tryz.f7, go_sem]
  have hm : MadeP q.p := Classical.not_not.1 hm
  have HMD : Hid (MadeP q.p) := hm
  clear hm
  subst hA
  refine callsIn_of_wp_marks Tryz.func7 rfl trivial ?_ rfl
  simp only [Tryz.ntmps7, List.size_toArray, List.length_cons, List.length_nil, Nat.reduceAdd, Nat.reduceSub, Array.replicate_succ, Array.replicate_zero, List.push_toArray, List.append_toArray, List.nil_append, List.cons_append]
  have NX : Hid (∀ w2, Below (w.alloc (.cells q.cells 28)).heap.size (w.alloc (.cells q.cells 28)) w2 → ∀ w3, Below w2.heap.size w2 w3 → ∃ E, ((w3.alloc (.cells #[.slice none 0 0] 31)).alloc (.cells #[.func (.func 26) #[] #[.pointer (some ⟨w3.heap.size, 0, none⟩)]] 57)) = E ∧ Below w3.heap.size w3 E ∧ E.heap.size = w3.heap.size + 2 ∧ QB E w.heap.size q ∧ Boxed E w3.heap.size 31 (.slice none 0 0) ∧ Boxed E (w3.heap.size + 1) 57 (.func (.func 26) #[] #[.pointer (some ⟨w3.heap.size, 0, none⟩)]) ∧
      Calls Tryz.prog 28 #[q.p.val] E (fun e w' => ∃ (y : Pt) (b : Bool), e = .returned (.tuple #[y.val, .bool b]) ∧ IsP w' y ∧ Sm y (tlP q.p) ∧ Below E.heap.size E w')) := by
    intro w2 hB2 w3 hB3
    have g1 : Below w3.heap.size w3 ((w3.alloc (.cells #[.slice none 0 0] 31)).alloc (.cells #[.func (.func 26) #[] #[.pointer (some ⟨w3.heap.size, 0, none⟩)]] 57)) := ((Below.refl _ _).alloc (Nat.le_refl _) _).alloc (by simp) _
    refine ⟨_, rfl, g1, by simp, ((HQA.out.later hB2).later hB3).later g1, (Boxed.new _ _ _).alloc _, ?_, ?_⟩
    · have := Boxed.new (w3.alloc (.cells #[.slice none 0 0] 31)) 57 (.func (.func 26) #[] #[.pointer (some ⟨w3.heap.size, 0, none⟩)])
      rwa [World.size_alloc] at this
    · exact tail_one q.p _ ((((HQ.out.1.p.later HB.out.1).later hB2).later hB3).later g1) HQ.out.2.2.2.2
  gi_wp2_with (first
      | (refine ⟨trivial, hdd _, ?_⟩; gi_at_call 24; refine (callsIn_wide.2 hchk).mono ?_; clear hchk; rintro e w2 ⟨rfl, hB2⟩; clear a0 a1 a2 a3 a4 a5 a6 a7 a8 a9 a10; obtain ⟨⟨a0, a1, a2, a3, a4, a5⟩, a6, a7, a8, a9, a10⟩ := (HQA.out.later hB2).at0)
      | (refine ⟨trivial, hdd _, ?_⟩; gi_at_call 25; refine (callsIn_wide.2 (HM.out _ hB2)).mono ?_; clear HM; rintro e w3 ⟨z, rfl, hz, hB3⟩; obtain rfl : z = 0 := (by rcases hz with h | h | h; exact absurd HCP.out h.1; exact h.2.2; exact absurd HMD.out h.2.1); clear hz; clear a0 a1 a2 a3 a4 a5 a6 a7 a8 a9 a10; obtain ⟨E, hE, hBE, hsE, qE, lE, nE, htl⟩ := NX.out w2 hB2 w3 hB3; clear NX; subst hE; obtain ⟨⟨a0, a1, a2, a3, a4, a5⟩, a6, a7, a8, a9, a10⟩ := qE.at0)
      | (refine ⟨trivial, hdd _, ?_⟩; gi_at_call 28; refine (callsIn_wide.2 htl).mono ?_; clear htl; rintro e w4 ⟨y, tb, rfl, hy1, hy2, hB4⟩; clear a0 a1 a2 a3 a4 a5 a6 a7 a8 a9 a10; have hB5 : Below w4.heap.size w4 (w4.alloc (.cells y.cells 24)) := (Below.refl _ _).alloc (Nat.le_refl _) _; have q5 := (qE.later hB4).later hB5; obtain ⟨⟨a0, a1, a2, a3, a4, a5⟩, a6, a7, a8, a9, a10⟩ := q5.at0)
      | (refine ⟨trivial, hdd _, ?_⟩; gi_at_call 29; refine (nodesW_in _ _ _).mono ?_; rintro e w' ⟨rfl, rfl⟩))
  have hG : ((w4.alloc (.cells y.cells 24)).alloc (.cells q.p.cells 24)).heap.size = w4.heap.size + 2 := by simp
  obtain ⟨G, hGe⟩ : ∃ G, (w4.alloc (.cells y.cells 24)).alloc (.cells q.p.cells 24) = G := ⟨_, rfl⟩
  have hB6 : Below w4.heap.size w4 G := by rw [← hGe]; exact hB5.alloc (by simp) _
  have pG : NodeP G (w4.heap.size + 1) 0 q.p := by
    rw [← hGe]
    have := nodeP_new (w4.alloc (.cells y.cells 24)) 24 q.p
    rwa [World.size_alloc] at this
  have tG : G.heap[w4.heap.size]? = some (.cells y.cells 24 (0, 0)) := by
    rw [← hGe]
    exact (alloc_old (by simp)).trans (alloc_new _ _)
  rw [hGe] at hG
  have s3 := HB.out.2
  have s2 := hB2.size
  have s33 := hB3.size
  have s4 := hB4.size
  have hw3 : Below w.heap.size w w3 := (HB.out.1.trans (hB2.mono HB.out.1.size)).trans (hB3.mono (by omega))
  have hwE := hw3.trans (hBE.mono hw3.size)
  have hw4 := hwE.trans (hB4.mono hwE.size)
  have hwG : Below w.heap.size w G := hw4.trans (hB6.mono hw4.size)
  have lG : Boxed G w3.heap.size 31 (.slice none 0 0) := (hB6.block _ (by omega)).trans ((hB4.block _ (by omega)).trans lE)
  have nG : Boxed G (w3.heap.size + 1) 57 (noteV w3.heap.size) := (hB6.block _ (by omega)).trans ((hB4.block _ (by omega)).trans nE)
  have qG : QB G w.heap.size q := (hB6.block _ (by omega)).trans ((hB4.block _ (by omega)).trans qE)
  have HJ0 : Hid (UJ q y w.heap.size w3.heap.size w4.heap.size w [] (fun _ => False) G) := ⟨⟨_, [], lG, Nts.nil _ _⟩, fun _ h => h.elim, nG, tG, qG, hwG, by omega⟩
  have hyn : y.n = 0 := by
    have h1 := ((sm_iff _ _).1 hy2).2.2.2.2.2.1
    rw [h1]
    exact tlP_n (chkP_zero.1 HCP.out).2.2
  have HY : Hid (∀ W, IsP W y) := fun W => by
    have h1 := (isP_eq _ _).1 hy1
    exact (isP_eq _ _).2 ⟨h1.1, h1.2.1, fun i hi => by omega⟩
  have HS : Hid (Sm y (tlP q.p)) := hy2
  have HG : Hid (G.heap.size = w4.heap.size + 2 ∧ w.heap.size < G.heap.size ∧ w.heap.size ≤ w3.heap.size) := ⟨hG, by omega, by omega⟩
  have hsm8 := qySmall HQ.out.2.2.2.1
  have HV : Hid (∀ v ∈ visW [] 0 q.p, v.1.length ≤ 8) := fun v hv => by
    have := visW_way q.p [] 0 v hv
    simp at this
    omega
  have HL : Hid (∀ pre post, pre ++ post = visW [] 0 q.p → (pre.flatMap (ntsOf (tlP q.p))).length ≤ 200) := fun pre post he => by
    have h1 := congrArg List.length he
    rw [length_visW, List.length_append] at h1
    have h2 := ntsAll_len (tlP q.p) pre
    omega
  rw [hGe]
  clear hy1 hy2 hyn lG nG qG tG hB5 hB6 hwE hw4 hw3 lE nE qE q5 a0 a1 a2 a3 a4 a5 a6 a7 a8 a9 a10 hBE hsE hB4 hB3 hB2 s2 s3 s33 s4 hGe
  refine nodesW_fold (w4.heap.size + 1) q.p (fun k => k < w.heap.size) (fun pre K W => UJ q y w.heap.size w3.heap.size w4.heap.size w (pre.flatMap (ntsOf (tlP q.p))) K W)
    rfl rfl pG (fun k hk => by have := HG.out.2.1; omega) (PIn.xt (n := w.heap.size) (fun k hk => hk) (HQ.out.1.p.inn.below hwG)) (by omega) ?_ ?_ (fun pre K W h => h.lt) ?_
    (fun y' v ink B => { tmps := #[q.val, .pointer (some ⟨w.heap.size, 0, none⟩), .slice none 0 0, .int .i64 0, .pointer (some ⟨w3.heap.size, 0, none⟩), .pointer (some ⟨w3.heap.size + 1, 0, none⟩), .pointer (some ⟨w4.heap.size, 0, none⟩), .bool tb, .pointer (some ⟨B, 0, none⟩), undef, q.val, .int .i64 0, .bool false, .bool false, .pointer (some ⟨w.heap.size, 0, none⟩), q.p.val, .int .i64 0, .bool false, .bool false, noteV w3.heap.size, .tuple #[y.val, .bool tb], .pointer (some ⟨w.heap.size, 0, none⟩), q.p.val, .tuple #[y.val, .bool tb], y.val, .bool tb, .pointer (some ⟨w.heap.size, 0, none⟩), q.p.val, .func (.func 56) #[] #[.pointer (some ⟨w4.heap.size + 1, 0, none⟩)], ndVal y' v ink, undef, undef, undef, undef, undef, undef, undef, undef, undef, undef, undef, undef, undef, undef, undef, undef, undef, undef, undef, undef, undef, undef, undef, undef, undef, undef, undef, undef, undef, undef, undef, undef, undef, undef, undef, undef, undef, undef, undef, undef, undef, undef, undef, undef, undef, undef, undef], defers := [] }) ?_ ?_ ?_
  · exact fun pre K W A hag h => h.ag hag (by have := HG.out.2.1; omega)
  · exact fun pre K W W' r hg hr h => h.grown hg (fun k hk => ⟨(hr k hk).1, (hr k hk).2.1, by have := (hr k hk).2.2; have := HG.out.2.1; omega⟩)
  · exact fun W hB => HJ0.out.later hB
  · intro l y' va m cap ink W K hK
    gi_wp2
    first | exact hK | simpa using hK
  · intro l y' v way ink pre K B A hwy hpt hj hbx hsz hpo
    obtain ⟨va, cap, hv, -⟩ := hwy.shape
    subst hv
    obtain ⟨post, hpo⟩ := hpo
    have hwl : way.length ≤ 8 := HV.out (way, ink, y') (by rw [← hpo]; simp)
    have hll := HL.out pre _ hpo
    have hown := own_any y' y A hpt.is (HY.out A)
    rw [ownZ_sm HS.out] at hown
    obtain ⟨o, ho⟩ : ∃ o, o = ownZ y' (tlP q.p) := ⟨_, rfl⟩
    have HO : Hid (o = ownZ y' (tlP q.p)) := ho
    rw [← ho] at hown
    obtain ⟨x0, x1, x2, x3, x4, x5, x6, x7⟩ := nd_cells hbx
    obtain ⟨t0, t1, t2, t3, t4, t5⟩ := (nodeP_box hj.tail).at0
    have HJ : Hid (UJ q y w.heap.size w3.heap.size w4.heap.size w (pre.flatMap (ntsOf (tlP q.p))) K A ∧ A.heap[B]? = some (.cells (ndCells y' (.slice va way.length cap) ink) 64 (0, 0)) ∧ Wy A G.heap.size (.slice va way.length cap) way) := ⟨hj, hbx, hwy⟩
    clear hj hbx hwy hpt ho hpo hsz pG
    gi_wp2_with (refine ⟨trivial, hdd _, ?_⟩; gi_at_call 30; refine (CallsIn.inRound l (callsIn_wide.2 hown)).mono ?_; clear hown; rintro e A2 ⟨rfl, hB2⟩)
    obtain ⟨hj, hbx, hwy⟩ := HJ.out
    have hj2 := hj.later hB2
    have bx2 : A2.heap[B]? = some (.cells (ndCells y' (.slice va way.length cap) ink) 64 (0, 0)) := (hB2.block B (heap_lt hbx)).trans hbx
    have wy2 : Wy A2 G.heap.size (.slice va way.length cap) way := hwy.same fun k c _ hc => (hB2.block k (heap_lt hc)).trans hc
    have ko2 : KeepsOthers A A2 := ⟨hB2.size, fun k o ho _ => (hB2.block k (heap_lt ho)).trans ho⟩
    have ks2 : Ks (fun k => k < w.heap.size) A A2 := ⟨hB2.size, fun k c t f _ hc => (hB2.block k (heap_lt hc)).trans hc⟩
    clear x0 x1 x2 x3 x4 x5 x6 x7 t0 t1 t2 t3 t4 t5 hj hbx hwy
    refine bgr (fun w' => Boxed w' (w3.heap.size + 1) 57 (noteV w3.heap.size) ∧ w'.heap[B]? = some (.cells (ndCells y' (.slice va way.length cap) ink) 64 (0, 0))) ⟨hj2.note, bx2⟩ (fun hHeld => ?_)
    obtain ⟨D, hD⟩ : ∃ D, A2.drew = D := ⟨_, rfl⟩
    have jD : UJ q y w.heap.size w3.heap.size w4.heap.size w (pre.flatMap (ntsOf (tlP q.p))) K D := by rw [← hD]; exact hj2.later (Below.refl _ _).drew
    have wD : Wy D G.heap.size (.slice va way.length cap) way := by rw [← hD]; exact wy2
    have koD : KeepsOthers A D := by rw [← hD]; exact ⟨ko2.size, ko2.same⟩
    have ksD : Ks (fun k => k < w.heap.size) A D := by rw [← hD]; exact ⟨ks2.size, ks2.block⟩
    have hc1 := jD.call (T := fun k => k < w.heap.size) (fun k hk => hk) va way.length cap way _ o (thingB o) wD rfl (by omega) (by omega)
    rw [hD] at hHeld ⊢
    clear hD hj2 bx2 wy2 ko2 ks2 hB2
    refine tki 0 ?_ (hy := by intro w9 hSw; obtain ⟨h1, -⟩ := hSw; have c := h1.cell; clear h1; go_simp; (try with_reducible rfl))
    refine tki 1 ?_
    refine tki 2 ?_ (hy := by intro w9 hSw; obtain ⟨-, h1⟩ := hSw; obtain ⟨x0, x1, x2, x3, x4, x5, x6, x7⟩ := nd_cells h1; clear h1; go_simp; (try with_reducible rfl))
    refine tki 3 ?_
    refine tki 4 ?_
    refine rdi 5 (fun K1 hK1 => ?_)
    go_simp
    refine ⟨trivial, hdd _, ?_⟩
    refine (callsIn_wide.2 (thing_any o D)).mono ?_
    rintro e X ⟨rfl, hX⟩
    replace hX := hX.symm
    subst hX
    go_simp
    refine hK1.out _ _ hHeld (fun hHeld => ?_)
    clear hK1 K1
    refine rdi 6 (fun K1 hK1 => ?_)
    go_simp
    refine ⟨trivial, hdd _, ?_⟩
    refine (callsIn_wide.2 hc1).mono ?_
    clear hc1
    rintro e X ⟨rfl, K2, hk2, jX, ksX, koX⟩
    have bxX := ksX.block _ _ _ _ (.inr (by decide)) hHeld.2
    have wX : Wy X G.heap.size (.slice va way.length cap) way := wD.same fun k c _ hc => ksX.block _ _ _ _ (.inr (by decide)) hc
    have hl2 : (pre.flatMap (ntsOf (tlP q.p)) ++ if thingB o = true then [(way, o)] else []).length ≤ 1048576 := by
      have h9 : (if thingB o = true then [((way, o) : Nt)] else []).length ≤ 1 := by split <;> simp
      rw [List.length_append]
      omega
    go_simp
    refine hK1.out _ _ ⟨jX.note, bxX⟩ (fun hHeld => ?_)
    clear hK1 K1
    refine dni ?_
    obtain ⟨x0, x1, x2, x3, x4, x5, x6, x7⟩ := nd_cells bxX
    have cn := jX.note.cell
    have fin : ∀ (b : Bool), (ink == 3 && y'.k != 1) = b → Hid (Calls Tryz.prog 26 #[.slice va way.length cap, .int .i64 14, .bool b, .pointer (some ⟨w3.heap.size, 0, none⟩)] X fun e W' => e = .returned (.tuple #[]) ∧ ndPost G.heap.size (fun k => k < w.heap.size) (fun pre K W => UJ q y w.heap.size w3.heap.size w4.heap.size w (pre.flatMap (ntsOf (tlP q.p))) K W) (pre ++ [(way, ink, y')]) K A .normal ⟨#[], []⟩ W') := fun b hb => by
      refine (jX.call (T := fun k => k < w.heap.size) (fun k hk => hk) va way.length cap way _ 14 b wX rfl hl2 (by omega)).mono ?_
      rintro e W' ⟨rfl, K3, hk3, jW, ksW, koW⟩
      refine ⟨rfl, ((koD.trans koX).trans koW).from _, ⟨Nat.le_trans ksD.size (Nat.le_trans ksX.size ksW.size), fun k c t f ht hc => ksW.block k c t f ht (ksX.block k c t f ht (ksD.block k c t f ht hc))⟩, K3, fun k hk => ?_, ?_⟩
      · rcases hk3 k hk with h | h
        · rcases hk2 k h with h | h
          · exact .inl h
          · exact .inr (Nat.le_trans ksD.size h)
        · exact .inr (Nat.le_trans ksD.size (Nat.le_trans ksX.size h))
      · show UJ q y w.heap.size w3.heap.size w4.heap.size w ((pre ++ [(way, ink, y')]).flatMap (ntsOf (tlP q.p))) K3 W'
        rw [List.flatMap_append, List.flatMap_cons, List.flatMap_nil, List.append_nil]
        unfold ntsOf
        rw [hb, ← HO.out, ← List.append_assoc]
        exact jW
    clear jX ksX koX wX hl2 bxX wD jD koD ksD hk2 hHeld
    cases hi : ink == 3 with
    | false =>
      have hc2 := fin false (by rw [hi]; rfl)
      clear fin
      gi_wp2_with (refine ⟨trivial, hdd _, ?_⟩; gi_at_call 26; refine (CallsIn.inRound l (callsIn_wide.2 hc2.out)).mono ?_; clear hc2; rintro e W' ⟨rfl, hpost⟩)
      exact hpost
    | true =>
      cases hk1 : y'.k != 1 with
      | false =>
        have hc2 := fin false (by rw [hi, hk1]; rfl)
        clear fin
        gi_wp2_with (refine ⟨trivial, hdd _, ?_⟩; gi_at_call 26; refine (CallsIn.inRound l (callsIn_wide.2 hc2.out)).mono ?_; clear hc2; rintro e W' ⟨rfl, hpost⟩)
        exact hpost
      | true =>
        have hc2 := fin true (by rw [hi, hk1]; rfl)
        clear fin
        gi_wp2_with (refine ⟨trivial, hdd _, ?_⟩; gi_at_call 26; refine (CallsIn.inRound l (callsIn_wide.2 hc2.out)).mono ?_; clear hc2; rintro e W' ⟨rfl, hpost⟩)
        exact hpost
  · rintro D W hD ⟨K, hJ⟩ hK
    have hm2 := qyMode HQ.out.2.2.2.1
    obtain ⟨md, hmd⟩ := Int.eq_ofNat_of_zero_le hm2.1
    have hmd3 : md < 3 := by omega
    have hn1 : (Value.slice none 0 0 : Value) = .slice none 0 0 := rfl
    have hL0 := HL.out (visW [] 0 q.p) [] (by simp)
    have step : ∀ {L : List Nt} {K : Nat → Prop} {X : World}, UJ q y w.heap.size w3.heap.size w4.heap.size w L K X → L.length ≤ 300 → ∀ (z : Int) (b : Bool), Calls Tryz.prog 26 #[.slice none 0 0, .int .i64 z, .bool b, .pointer (some ⟨w3.heap.size, 0, none⟩)] X fun e W' => e = .returned (.tuple #[]) ∧ ∃ K' : Nat → Prop, Hid (UJ q y w.heap.size w3.heap.size w4.heap.size w (L ++ if b = true then [([], z)] else []) K' W') ∧ KeepsOthers X W' := fun {L K X} hJ hl z b => by
      refine (hJ.call (T := fun k => k < w.heap.size) (fun k hk => hk) none 0 0 [] 0 z b (World.ownsRow_nil _ _ _ _) rfl (by omega) (by simp)).mono ?_
      rintro e W' ⟨rfl, K', -, h1, -, h2⟩
      exact ⟨rfl, K', h1, h2⟩
    have HStep : Hid (∀ {L : List Nt} {K : Nat → Prop} {X : World}, UJ q y w.heap.size w3.heap.size w4.heap.size w L K X → L.length ≤ 300 → ∀ (z : Int) (b : Bool), Calls Tryz.prog 26 #[.slice none 0 0, .int .i64 z, .bool b, .pointer (some ⟨w3.heap.size, 0, none⟩)] X fun e W' => e = .returned (.tuple #[]) ∧ ∃ K' : Nat → Prop, Hid (UJ q y w.heap.size w3.heap.size w4.heap.size w (L ++ if b = true then [([], z)] else []) K' W') ∧ KeepsOthers X W') := step
    clear step hm2 hn1
    obtain ⟨LV, hLV⟩ : ∃ LV, LV = (visW [] 0 q.p).flatMap (ntsOf (tlP q.p)) := ⟨_, rfl⟩
    have HLV : Hid (LV = (visW [] 0 q.p).flatMap (ntsOf (tlP q.p))) := hLV
    have hJ' : UJ q y w.heap.size w3.heap.size w4.heap.size w LV K W := by rw [hLV]; exact hJ
    rw [← hLV] at hL0
    have hc1 := HStep.out hJ' (by omega) 8
    obtain ⟨⟨a0, a1, a2, a3, a4, a5⟩, a6, a7, a8, a9, a10⟩ := hJ'.q.at0
    have cn := hJ'.note.cell
    have HK : Hid (W.heap[D]? = some (.deferred (some []))) := hK
    have HLL : Hid (LV.length ≤ 200) := hL0
    clear hJ hJ' hK hLV hL0 pG
    gi_wp2_with (refine ⟨trivial, hdd _, ?_⟩; gi_at_call 26; refine (callsIn_wide.2 (hc1 _)).mono ?_; clear hc1; rintro e W1 ⟨rfl, K1, jW1, ko1⟩)
    obtain ⟨L1, hL1⟩ : ∃ L1, L1 = LV ++ if (!q.key.toList.isEmpty) = true then [([], 8)] else [] := ⟨_, rfl⟩
    have HL1 : Hid (L1 = LV ++ if (!q.key.toList.isEmpty) = true then [([], 8)] else []) := hL1
    have hl1 : L1.length ≤ 201 := by
      have := HLL.out
      have h9 : (if (!q.key.toList.isEmpty) = true then [(([], 8) : Nt)] else []).length ≤ 1 := by split <;> simp
      rw [hL1, List.length_append]
      omega
    rw [← hL1] at jW1
    clear hL1 a0 a1 a2 a3 a4 a5 a6 a7 a8 a9 a10 cn
    have tab : ∀ {L : List Nt} {K : Nat → Prop} {X : World}, UJ q y w.heap.size w3.heap.size w4.heap.size w L K X → AbT X := fun h => HQ.out.2.2.1.later h.low
    obtain ⟨X, hX⟩ : ∃ X, X = W1.drew := ⟨_, rfl⟩
    have jX : UJ q y w.heap.size w3.heap.size w4.heap.size w L1 K1 X := by rw [hX]; exact jW1.out.later (Below.refl _ _).drew
    have koX : KeepsOthers W X := by rw [hX]; exact ⟨ko1.size, ko1.same⟩
    have hc2 := HStep.out jX (by omega) ((md : Int) + 9) true
    have tX := tab jX
    have hmdI : (md : Int) < 3 := by omega
    refine bgp (fun w' => Boxed w' (w3.heap.size + 1) 57 (noteV w3.heap.size) ∧ QB w' w.heap.size q ∧ AbT w') (by rw [← hX]; exact ⟨jX.note, jX.q, tX⟩) (fun hHeld => ?_)
    rw [← hX] at hHeld ⊢
    clear hX jW1 ko1 tX
    refine tki 0 ?_ (hy := by intro w9 hSw; obtain ⟨h1, -, -⟩ := hSw; have c := h1.cell; clear h1; go_simp; (try with_reducible rfl))
    refine tki 1 ?_
    refine tki 2 ?_ (hy := by intro w9 hSw; obtain ⟨-, h1, -⟩ := hSw; obtain ⟨⟨a0, a1, a2, a3, a4, a5⟩, a6, a7, a8, a9, a10⟩ := h1.at0; clear h1; go_simp; (try with_reducible rfl))
    refine tki 3 ?_
    refine tki 4 ?_ (hy := by intro w9 hSw; obtain ⟨-, -, h1⟩ := hSw; have c := cell_mode h1 md hmd3; clear h1; go_simp; (try with_reducible rfl))
    refine rdi 5 (fun K9 hK9 => ?_)
    go_simp
    refine ⟨trivial, hdd _, ?_⟩
    refine (callsIn_wide.2 hc2).mono ?_
    clear hc2
    rintro e W2 ⟨rfl, K2, jW2, ko2⟩
    rw [if_pos rfl] at jW2
    obtain ⟨L2, hL2⟩ : ∃ L2, L2 = L1 ++ [(([], (md : Int) + 9) : Nt)] := ⟨_, rfl⟩
    have HL2 : Hid (L2 = L1 ++ [(([], (md : Int) + 9) : Nt)]) := hL2
    have hl2 : L2.length ≤ 202 := by rw [hL2, List.length_append]; simp; omega
    rw [← hL2] at jW2
    clear hL2
    go_simp
    refine hK9.out _ _ ⟨jW2.out.note, jW2.out.q, tab jW2.out⟩ (fun hHeld => ?_)
    clear hK9 K9
    refine dni ?_
    refine NoPanic.normal ?_
    have hc3 := HStep.out jW2.out (by omega) 12
    obtain ⟨⟨a0, a1, a2, a3, a4, a5⟩, a6, a7, a8, a9, a10⟩ := jW2.out.q.at0
    have cn := jW2.out.note.cell
    have HL3 : Hid (∀ b : Bool, (L2 ++ if b = true then [(([], 12) : Nt)] else []).length ≤ 300) := fun b => by
      have h9 : (if b = true then [(([], 12) : Nt)] else []).length ≤ 1 := by split <;> simp
      rw [List.length_append]
      omega
    clear hHeld hl1 hl2
    gi_wp2_with (first
      | (refine ⟨trivial, hdd _, ?_⟩; gi_at_call 26; refine (callsIn_wide.2 (hc4 _)).mono ?_; clear hc4; rintro e W4 ⟨rfl, K4, jW4, ko4⟩; obtain ⟨lv, us, clv, hnts⟩ := jW4.out.row; have cl4 := clv.cell)
      | (refine ⟨trivial, hdd _, ?_⟩; gi_at_call 26; refine (callsIn_wide.2 (hc3 _)).mono ?_; clear hc3; rintro e W3 ⟨rfl, K3, jW3, ko3⟩; have hc4 := HStep.out jW3.out (HL3.out _) 13; clear a0 a1 a2 a3 a4 a5 a6 a7 a8 a9 a10 cn; obtain ⟨⟨a0, a1, a2, a3, a4, a5⟩, a6, a7, a8, a9, a10⟩ := jW3.out.q.at0; have cn := jW3.out.note.cell))
    have hK4 : W4.heap[D]? = some (.deferred (some [])) := ko4.same D _ (ko3.same D _ (ko2.same D _ (koX.same D _ HK.out rfl) rfl) rfl) rfl
    have hlist : (L2 ++ if (q.win != 0) = true then [(([], 12) : Nt)] else []) ++ (if decide (0 < q.m) = true then [(([], 13) : Nt)] else []) = usesL q := by
      unfold usesL clauseL
      rw [HL2.out, HL1.out, HLV.out, hmd]
      simp only [List.append_assoc]
    rw [hlist] at hnts
    obtain ⟨la, lc, rfl⟩ : ∃ la lc, lv = .slice la (usesL q).length lc := by
      rcases hnts.row.2 with ⟨rfl, e⟩ | ⟨g, cap, cur, rfl, -⟩
      · exact ⟨none, 0, by rw [e]⟩
      · exact ⟨_, _, rfl⟩
    have hlow := jW4.out.low
    refine leaves_marks (base := w.heap.size) ⟨D, rfl, by have := HG.out.2.1; omega, hK4, fun d' hd' => (by simp at hd'), trivial⟩ fun W' hW' => ⟨.tuple #[.slice la (usesL q).length lc, .int .i64 0], ?_, (show UsesAll q w _ W' from Or.inr ⟨⟨HQ.out.2.2.2.1, HMD.out⟩, la, lc, K4, us, rfl, hnts.same (fun _ _ _ hc => (hW'.cells _ _ rfl).2 hc) (fun _ _ _ hc => (hW'.cells _ _ rfl).2 hc) (fun _ h => h), hW'.below (Nat.le_refl _) hlow⟩)⟩
    simp [results, Tryz.f7, go_sem]
theorem uses_any (q : Qy) (w : World) (hQ : IsQ w q) (hok : QOk q) (hT : AbT w) : Calls Tryz.prog 7 #[q.val] w (UsesAll q w) := (callsIn_wide (n := 3)).1 (uses_in 3 q w hQ hok hT)
end Go.Proofs.YtfnfegcjgnbgbaaGreatDoor
namespace Go.Proofs.YtfnfegcjgnbgbaaGreatDoor
open Go.RowKit

theorem own_low22 {w : World} {B B' e k n : Nat} {v : Value} {xs : List Value} (h : w.ownsRow B e k v n xs) (hB : B' ≤ B) : w.ownsRow B' e k v n xs := by
  refine ⟨h.1, ?_⟩
  rcases h.2 with h2 | ⟨g, cap, cur, e1, hg, h3⟩
  · exact .inl h2
  · exact .inr ⟨g, cap, cur, e1, Nat.le_trans hB hg, h3⟩
theorem Nts.low {W : World} {B B' : Nat} {K : Nat → Prop} {v : Value} {L : List Nt} {us : List Value} (h : Nts W B K v L us) (hB : B' ≤ B) : Nts W B' K v L us :=
  ⟨h.len, own_low22 h.row hB, fun j u n hu hn => ⟨own_low22 (h.way j u n hu hn).1 hB, (h.way j u n hu hn).2⟩⟩
/-- What a dialect lacks of a query. -/
def notesL (d : Int) (q : Qy) : List Nt := (usesL q).filter fun n => lacksB d n.2
def NotesAns (d : Int) (q : Qy) (w : World) (e : Ending) (w' : World) : Prop :=
  (¬ (dialB d = true ∧ FineQ q) ∧ e = .returned (.tuple #[.slice none 0 0, .int .i64 1]) ∧ Below w.heap.size w w') ∨
  (dialB d = true ∧ FineQ q ∧ ∃ a cap K us, e = .returned (.tuple #[.slice a (notesL d q).length cap, .int .i64 0]) ∧ Nts w' w.heap.size K (.slice a (notesL d q).length cap) (notesL d q) us ∧ Below w.heap.size w w')
theorem boxQ_d (d : Int) (q : Qy) (w : World) : ∃ A, (w.alloc (.cells #[.int .i64 d] 3)).alloc (.cells q.cells 28) = A ∧ Below w.heap.size w A ∧ A.heap.size = w.heap.size + 2 ∧ Boxed A w.heap.size 3 (.int .i64 d) ∧ QB A (w.heap.size + 1) q := by
  refine ⟨_, rfl, ((Below.refl _ w).alloc (Nat.le_refl _) _).alloc (by simp) _, by simp, (Boxed.new _ _ _).alloc _, ?_⟩
  have := QB.new (w.alloc (.cells #[.int .i64 d] 3)) q
  rwa [World.size_alloc] at this
set_option maxRecDepth 100000 in
set_option maxHeartbeats 4000000 in
theorem notes_any (d : Int) (q : Qy) (w : World) (hQ : IsQ w q) (hok : QOk q) (hT : AbT w) : Calls Tryz.prog 9 #[.int .i64 d, q.val] w (NotesAns d q w) := by
  obtain ⟨A, hA, hB, hs, hd, hq⟩ := boxQ_d d q w
  have hc1 := dialect_any d A
  have hc2 := uses_any q A (hQ.later hB) hok (hT.later hB)
  obtain ⟨⟨a0, a1, a2, a3, a4, a5⟩, a6, a7, a8, a9, a10⟩ := hq.at0
  have cd := hd.cell
  have HB : Hid (Below w.heap.size w A ∧ A.heap.size = w.heap.size + 2 ∧ Boxed A w.heap.size 3 (.int .i64 d) ∧ AbT A) := ⟨hB, hs, hd, hT.later hB⟩
  clear hQ hok hT hB hs hd hq
  by_cases hdi : dialB d = true
  · rw [hdi] at hc1
    have HDI : Hid (dialB d = true) := hdi
    clear hdi
    have fin : ∀ (e : Ending) (W' : World), UsesAll q A e W' → ∃ (a : Option Addr) (n cap : Nat) (z : Int), e = .returned (.tuple #[.slice a n cap, .int .i64 z]) ∧ Hid (Calls Tryz.prog 34 #[.slice a n cap, delV w.heap.size] W' fun e2 W2 => ∃ v, e2 = .returned v ∧ NotesAns d q w (.returned (.tuple #[v, .int .i64 z])) W2) := by
      intro e W' h
      have main : ∀ (a : Option Addr) (n cap : Nat) (P : List Pn) (K : Nat → Prop), NtP W' A.heap.size K (.slice a n cap) P → Below A.heap.size A W' → Calls Tryz.prog 34 #[.slice a n cap, delV w.heap.size] W' fun e W2 => ∃ cap', e = .returned (.slice a (P.filter (keepN d)).length cap') ∧ NtP W2 A.heap.size K (.slice a (P.filter (keepN d)).length cap') (P.filter (keepN d)) ∧ Below A.heap.size W' W2 := fun a n cap P K hP hbel =>
        delete_any a n cap P A.heap.size K d w.heap.size W' hP (Boxed.kept_of HB.out.2.2.1 hbel HB.out.2.2.1.lt) (HB.out.2.2.2.later hbel) hbel.size HB.out.2.2.1.lt (fun D hD => HB.out.2.2.2.later (hbel.trans hD))
      rcases h with ⟨hn, rfl, hbel⟩ | ⟨hf, a, cap, K, us, rfl, hN, hbel⟩
      · refine ⟨none, 0, 0, 1, rfl, (main none 0 0 [] (fun _ => False) ⟨World.ownsRow_nil _ _ _ _, fun p hp => by cases hp⟩ hbel).mono ?_⟩
        rintro e W2 ⟨cap', rfl, h1, h2⟩
        have hcap : cap' = 0 := by
          rcases h1.row.2 with ⟨e, -⟩ | ⟨g, cc, cur, e, -⟩
          · cases e; rfl
          · cases e
        subst hcap
        exact ⟨_, rfl, .inl ⟨fun h => hn h.2, rfl, HB.out.1.trans ((hbel.trans h2).mono HB.out.1.size)⟩⟩
      · obtain ⟨P, hPL, hP⟩ := hN.pairs
        refine ⟨a, _, cap, 0, rfl, (main a _ cap P K hP hbel).mono ?_⟩
        rintro e W2 ⟨cap', rfl, h1, h2⟩
        have e1 : (P.filter (keepN d)).map (·.2) = notesL d q := by
          unfold notesL
          rw [← hPL, List.filter_map]
          rfl
        have e2 : (P.filter (keepN d)).length = (notesL d q).length := by rw [← e1, List.length_map]
        have h3 := h1.nts
        rw [e1, e2] at h3
        refine ⟨_, rfl, .inr ⟨HDI.out, hf, a, cap', K, _, by rw [e2], h3.low (by rw [HB.out.2.1]; omega), HB.out.1.trans ((hbel.trans h2).mono HB.out.1.size)⟩⟩
    have FIN : Hid (∀ (e : Ending) (W' : World), UsesAll q A e W' → ∃ (a : Option Addr) (n cap : Nat) (z : Int), e = .returned (.tuple #[.slice a n cap, .int .i64 z]) ∧ Hid (Calls Tryz.prog 34 #[.slice a n cap, delV w.heap.size] W' fun e2 W2 => ∃ v, e2 = .returned v ∧ NotesAns d q w (.returned (.tuple #[v, .int .i64 z])) W2)) := fin
    clear fin HB HDI
    go_enter Tryz.func9, Tryz.ntmps9
    go_upto_region 1 with fail
    clear hA
    go_wp2_with (first
      | (go_at_call 33; refine hc1.mono ?_; clear hc1; rintro e w1 ⟨rfl, rfl⟩)
      | (go_at_call 7; refine hc2.mono ?_; clear hc2; rintro e w2 hu; obtain ⟨a, n, cap, z, rfl, hdel⟩ := FIN.out _ _ hu; clear FIN hu)
      | (go_at_call 34; refine hdel.out.mono ?_; clear hdel; rintro e w3 ⟨v, rfl, hans⟩))
    refine bodyPost_ret (results_tmp2 rfl _ _ _) rfl ?_
    exact hans
  · have hdf : dialB d = false := by simpa using hdi
    rw [hdf] at hc1
    have HN : Hid (¬ (dialB d = true ∧ FineQ q)) := fun h => hdi h.1
    clear hdi hdf hc2
    go_enter Tryz.func9, Tryz.ntmps9
    go_wp2_with (go_at_call 33; refine hc1.mono ?_; clear hc1; rintro e w1 ⟨rfl, rfl⟩)
    refine bodyPost_ret (results_tmp2 rfl _ _ _) rfl ?_
    exact .inl ⟨HN.out, rfl, HB.out.1⟩
end Go.Proofs.YtfnfegcjgnbgbaaGreatDoor
namespace Go.Proofs.YtfnfegcjgnbgbaaGreatDoor
open Go.RowKit

set_option maxHeartbeats 4000000 in
theorem refLacks_any (d z : Int) (w : World) : Calls Tryz.prog 15 #[.int .i64 d, .int .i64 z] w fun e w' => e = .returned (.bool (lacksB d z)) ∧ w' = w := by
  by_cases h1 : d = 1
  · subst h1
    have e : lacksB 1 z = (z == 2) := by simp [lacksB]
    rw [e]
    clear e
    go_enter Tryz.func15, Tryz.ntmps15
    go_wp2
    all_goals go_ret
    all_goals exact ⟨rfl, rfl⟩
  by_cases h2 : d = 2
  · subst h2
    have e : lacksB 2 z = (z == 4 || z == 8 || z == 10 || z == 11 || z == 13) := by simp [lacksB]
    rw [e]
    clear e h1
    cases t1 : (z == 4) <;> cases t2 : (z == 8) <;> cases t3 : (z == 10) <;> cases t4 : (z == 11) <;> cases t5 : (z == 13)
    all_goals
      go_enter Tryz.func15, Tryz.ntmps15
      go_wp2
      go_ret
      exact ⟨rfl, rfl⟩
  by_cases h3 : d = 3
  · subst h3
    have e : lacksB 3 z = (z == 6 || z == 7 || z == 9 || z == 14) := by simp [lacksB]
    rw [e]
    clear e h1 h2
    cases t1 : (z == 6) <;> cases t2 : (z == 7) <;> cases t3 : (z == 9) <;> cases t4 : (z == 14)
    all_goals
      go_enter Tryz.func15, Tryz.ntmps15
      go_wp2
      go_ret
      exact ⟨rfl, rfl⟩
  have e : lacksB d z = false := by simp [lacksB, h1, h2, h3]
  have t1 : (d == 1) = false := by simp [h1]
  have t2 : (d == 2) = false := by simp [h2]
  have t3 : (d == 3) = false := by simp [h3]
  rw [e]
  clear e h1 h2 h3
  go_enter Tryz.func15, Tryz.ntmps15
  go_wp2
  go_ret
  exact ⟨rfl, rfl⟩
theorem word_new (w : World) (k : Nat) (hk : k < 15) : (w.alloc (.cells wordC 9)).cell? ⟨w.heap.size, k, none⟩ = some (.string (wordS k)) := by
  have hh : (w.alloc (.cells wordC 9)).heap[w.heap.size]? = some (.cells wordC 9 (0, 0)) := alloc_new _ _
  rw [cell_heap hh]
  match k, hk with
  | 0, _ => rfl | 1, _ => rfl | 2, _ => rfl | 3, _ => rfl | 4, _ => rfl | 5, _ => rfl | 6, _ => rfl | 7, _ => rfl | 8, _ => rfl | 9, _ => rfl | 10, _ => rfl | 11, _ => rfl | 12, _ => rfl | 13, _ => rfl | 14, _ => rfl
  | k + 15, h => exact absurd h (by omega)
set_option maxRecDepth 100000 in
set_option maxHeartbeats 4000000 in
theorem refWord_any (z : Int) (w : World) : Calls Tryz.prog 17 #[.int .i64 z] w fun e w' => e = .returned (.string (wordZ z)) ∧ Below w.heap.size w w' := by
  obtain ⟨A, hA⟩ : ∃ A, w.alloc (.cells wordC 9) = A := ⟨_, rfl⟩
  have HB : Hid (Below w.heap.size w A) := by show Below _ _ _; rw [← hA]; exact (Below.refl _ w).alloc (Nat.le_refl _) _
  unfold wordZ
  by_cases hz : thingB z = true
  · rw [if_pos hz]
    simp only [thingB, Bool.and_eq_true, decide_eq_true_eq] at hz
    obtain ⟨q, rfl⟩ := Int.eq_ofNat_of_zero_le (show 0 ≤ z by omega)
    have hq : q < 15 := by omega
    have h1 : decide ((q : Int) < 1) = false := decide_eq_false (by omega)
    have h2 : decide ((15 : Int) ≤ (q : Int)) = false := decide_eq_false (by omega)
    have hc : A.cell? ⟨w.heap.size, q, none⟩ = some (.string (wordS q)) := by rw [← hA]; exact word_new w q hq
    rw [show ((q : Int)).toNat = q from rfl]
    clear hz
    unfold wordC at hA
    go_enter Tryz.func17, Tryz.ntmps17
    go_upto_region 2 with fail
    clear hA
    go_wp2
    go_ret
    exact ⟨rfl, HB.out⟩
  · rw [if_neg hz]
    have hz' : decide (z < 1) = true ∨ (decide (z < 1) = false ∧ decide ((15 : Int) ≤ z) = true) := by
      simp only [thingB, Bool.and_eq_true, decide_eq_true_eq] at hz
      simp only [decide_eq_true_eq, decide_eq_false_iff_not]
      omega
    clear hz
    unfold wordC at hA
    rcases hz' with h1 | ⟨h1, h2⟩
    all_goals
      go_enter Tryz.func17, Tryz.ntmps17
      go_upto_region 2 with fail
      clear hA
      go_wp2
      go_ret
      exact ⟨rfl, HB.out⟩
/-- Where a number of a way lies. -/
theorem Wy.at {W : World} {base : Nat} {a : Option Addr} {m cap : Nat} {l : List Int} (h : Wy W base (.slice a m cap) l) {k : Nat} (hk : k < l.length) :
    ∃ g, a = some ⟨g, 0, none⟩ ∧ W.cell? ⟨g, k, none⟩ = some (.int .i64 (l.getD k 0)) := by
  rcases h.2 with ⟨e, e0⟩ | ⟨g, cap', cur, e, h1, h2, h3, h4, h5, h6⟩
  · omega
  · cases e
    have e1 : (waysI l)[k]? = some (.int .i64 (l.getD k 0)) := by simp [waysI, List.getElem?_eq_getElem hk]
    refine ⟨g, rfl, ?_⟩
    rw [cell_heap h2]
    rw [← h6, List.getElem?_take] at e1
    split at e1
    · simpa using e1
    · cases e1
theorem NtP.len {W : World} {base : Nat} {K : Nat → Prop} {a : Option Addr} {n cap : Nat} {P : List Pn} (h : NtP W base K (.slice a n cap) P) : n = P.length ∧ n ≤ maxLen := by
  rcases h.row.2 with ⟨e, e0⟩ | ⟨g, cap', cur, e, h1, h2, h3, h4, -⟩
  · cases e
    exact ⟨e0.symm, by decide⟩
  · cases e
    exact ⟨rfl, by omega⟩
end Go.Proofs.YtfnfegcjgnbgbaaGreatDoor
namespace Go.Proofs.YtfnfegcjgnbgbaaGreatDoor
open Go.RowKit

/-- What is read of the i-th note of a row. -/
structure NtAt (W : World) (a : Option Addr) (i : Nat) (n : Nt) (g : Nat) (va : Option Addr) (vc : Nat) : Prop where
  a : a = some ⟨g, 0, none⟩
  c0 : W.cell? ⟨g, i * 2, none⟩ = some (.slice va n.1.length vc)
  c1 : W.cell? ⟨g, i * 2 + 1, none⟩ = some (.int .i64 n.2)
  way : ∀ k, k < n.1.length → ∃ b, va = some ⟨b, 0, none⟩ ∧ W.cell? ⟨b, k, none⟩ = some (.int .i64 (n.1.getD k 0))
  len : n.1.length ≤ maxLen
theorem NtP.ntAt {W : World} {base : Nat} {K : Nat → Prop} {a : Option Addr} {n cap : Nat} {P : List Pn} (h : NtP W base K (.slice a n cap) P) {k : Nat} {p : Pn} (hk : P[k]? = some p) : ∃ g va vc, NtAt W a k p.2 g va vc := by
  obtain ⟨g, va, vm, vc, ea, -, -, -, -, hv, c0, c1⟩ := h.at hk
  have hw := (h.way p (List.mem_of_getElem? hk)).1
  rw [hv] at hw
  obtain ⟨a', cap', e, -, h1, h2⟩ := hw.shape
  cases e
  exact ⟨g, va, vc, ea, c0, c1, fun k hk => hw.at hk, Nat.le_trans h1 h2⟩
theorem NtAt.later {W W' : World} {a : Option Addr} {i : Nat} {n : Nt} {g : Nat} {va : Option Addr} {vc : Nat} (h : NtAt W a i n g va vc) (hB : Below W.heap.size W W') : NtAt W' a i n g va vc :=
  ⟨h.a, cell_later h.c0 hB, cell_later h.c1 hB, fun k hk => by
    obtain ⟨b, e, c⟩ := h.way k hk
    exact ⟨b, e, cell_later c hB⟩, h.len⟩
set_option maxRecDepth 100000 in
set_option maxHeartbeats 8000000 in
theorem refSameN_any (a1 a2 : Option Addr) (n c1 c2 : Nat) (L : List Nt) (W : World) (hL : L.length = n) (hn : n ≤ 1048576)
    (H1 : ∀ i p, L[i]? = some p → ∃ g va vc, NtAt W a1 i p g va vc) (H2 : ∀ i p, L[i]? = some p → ∃ g va vc, NtAt W a2 i p g va vc) :
    Calls Tryz.prog 13 #[.slice a1 n c1, .slice a2 n c2] W fun e W' => e = .returned (.bool true) ∧ Below W.heap.size W W' := by
  have HH : Hid (∀ i, i < n → ∃ p : Nt, (∃ g va vc, NtAt W a1 i p g va vc) ∧ (∃ g va vc, NtAt W a2 i p g va vc)) := fun i hi => by
    obtain ⟨p, hp⟩ : ∃ p, L[i]? = some p := ⟨_, List.getElem?_eq_getElem (by rw [hL]; exact hi)⟩
    exact ⟨p, H1 i p hp, H2 i p hp⟩
  clear H1 H2 hL
  go_enter Tryz.func13, Tryz.ntmps13
  go_wp2
  go_loopw [5] (fun u wr => ∃ i : Nat, i ≤ n ∧ u = .int .i64 i ∧ Below W.heap.size W wr) (fun u _ => n - (intOf u).toNat)
  case atStart => exact ⟨0, Nat.zero_le _, rfl, Below.refl _ _⟩
  case round =>
    obtain ⟨i, hi, rfl, hB⟩ := hrel
    by_cases hin : i < n
    · obtain ⟨p, ⟨g1, va1, vc1, q1⟩, ⟨g2, va2, vc2, q2⟩⟩ := HH.out i hin
      have HIN : Hid (i < n) := hin
      have Q1 : Hid (NtAt W a1 i p g1 va1 vc1) := q1
      have Q2 : Hid (NtAt W a2 i p g2 va2 vc2) := q2
      obtain ⟨e1, x0, x1, -, hpl⟩ := q1.later hB
      obtain ⟨e2, y0, y1, -, -⟩ := q2.later hB
      subst e1 e2
      obtain ⟨m, hm⟩ : ∃ m, m = p.1.length := ⟨_, rfl⟩
      obtain ⟨z, hz⟩ : ∃ z, z = p.2 := ⟨_, rfl⟩
      rw [← hm] at x0 y0 hpl
      rw [← hz] at x1 y1
      have HM : Hid (m = p.1.length) := hm
      replace hpl : m ≤ 9223372036854775807 := by unfold maxLen at hpl; omega
      clear hm hz
      go_wp2_with fail
      go_quiet (fail)
      go_wp2_with fail
      go_loopw [6] (fun u wr' => ∃ k : Nat, k ≤ m ∧ u = .int .i64 k ∧ Below W.heap.size W wr') (fun u _ => m - (intOf u).toNat)
      case atStart => exact ⟨0, Nat.zero_le _, rfl, bd hB _⟩
      case round =>
        obtain ⟨k, hk, rfl, hB2⟩ := hrel
        obtain ⟨-, x0, x1, xw, -⟩ := Q1.out.later hB2
        obtain ⟨-, y0, y1, yw, -⟩ := Q2.out.later hB2
        rw [← HM.out] at x0 y0
        by_cases hkm : k < m
        · obtain ⟨b1, rfl, f1⟩ := xw k (by rw [← HM.out]; exact hkm)
          obtain ⟨b2, rfl, f2⟩ := yw k (by rw [← HM.out]; exact hkm)
          obtain ⟨z', hz'⟩ : ∃ z', z' = p.1.getD k 0 := ⟨_, rfl⟩
          rw [← hz'] at f1 f2
          have HK : Hid (k < m) := hkm
          clear hz' xw yw
          go_wp2_with fail
          go_quiet (fail)
          go_wp2
          go_roundw
          case rel => exact ⟨k + 1, HK.out, by go_num, bd hB2 _⟩
          case measure => have := HK.out; simp [intOf]; omega
        · obtain rfl : k = m := by omega
          clear xw yw
          go_wp2
          refine ⟨⟨i + 1, HIN.out, by simp, hB2⟩, ?_⟩
          have := HIN.out
          simp [intOf]
          omega
    · obtain rfl : i = n := by omega
      go_wp2
      go_ret
      exact ⟨rfl, hB⟩
end Go.Proofs.YtfnfegcjgnbgbaaGreatDoor
namespace Go.Proofs.YtfnfegcjgnbgbaaGreatDoor
open Go.RowKit

/-- What a node has, as the document has it; b: is it the Tail? -/
def whatR (x : Pt) (b : Bool) : Int := if x.k = 2 then 1 else if x.k = 3 then 2 else if x.k = 4 then 3 else if x.k = 6 then (if b = true then 7 else 6) else if x.k = 5 then (if x.lo = x.hi then 5 else 4) else 0
def ownR (b u : Bool) (way : List Int) (x : Pt) : List Nt := (if (whatR x b != 0) = true then [(way, whatR x b)] else []) ++ (if (u && x.k != 1) = true then [(way, 14)] else [])
/-- The document's nodes; u: under a PAnd; b: the Tail? -/
def nodesL (u b : Bool) (way : List Int) : Pt → List Nt
  | .nil => ownR b u way .nil
  | .mk k s t lo hi a n cap c => ownR b u way (.mk k s t lo hi a n cap c) ++ catN (fun i => nodesL (k == 3) (k == 2 && (decide (way.length = 0) && decide (i + 1 = n))) (way ++ [(i : Int)]) (c i)) n
theorem nodesL_eq (u b : Bool) (way : List Int) (x : Pt) : nodesL u b way x = ownR b u way x ++ catN (fun i => nodesL (x.k == 3) (x.k == 2 && (decide (way.length = 0) && decide (i + 1 = x.n))) (way ++ [(i : Int)]) (x.c i)) x.n := by
  cases x with
  | nil => show ownR b u way .nil = ownR b u way .nil ++ []; simp
  | mk => rfl
theorem catN_flat {α β : Type} (f : Nat → List α) (g : α → List β) : ∀ n, (catN f n).flatMap g = catN (fun i => (f i).flatMap g) n
  | 0 => rfl
  | n + 1 => by rw [catN, catN, List.flatMap_append, catN_flat f g n]
theorem flatMap_congr22 {α β : Type} {l : List α} {f g : α → List β} (h : ∀ x ∈ l, f x = g x) : l.flatMap f = l.flatMap g := by
  induction l with
  | nil => rfl
  | cons a l ih => rw [List.flatMap_cons, List.flatMap_cons, h a (List.mem_cons_self ..), ih fun x hx => h x (List.mem_cons_of_mem _ hx)]
theorem visW_uses : ∀ {x : Pt} {way : List Int} {ink : Int} {v : VN}, v ∈ visW way ink x → nmd v.2.2.k = true → v.2.2 ∈ usesP x := by
  refine @(Pt.ind fun x ih way ink v hv hk => ?_)
  rw [visW_eq] at hv
  rw [usesP_eq]
  rcases List.mem_cons.1 hv with rfl | hv
  · rw [if_pos hk]
    simp
  · obtain ⟨i, hi, hv⟩ := mem_catN.1 hv
    exact List.mem_append_right _ (mem_catN.2 ⟨i, hi, ih i hi hv hk⟩)
theorem visW_long : ∀ (x : Pt) (way : List Int) (ink : Int), ∀ v ∈ visW way ink x, (v = (way, ink, x)) ∨ way.length < v.1.length := by
  refine Pt.ind fun x ih way ink v hv => ?_
  rw [visW_eq] at hv
  rcases List.mem_cons.1 hv with rfl | hv
  · exact .inl rfl
  · obtain ⟨i, hi, hv⟩ := mem_catN.1 hv
    rcases ih i hi _ _ v hv with rfl | h
    · right; simp
    · right; simp at h; omega
/-- Behind the root no node but the first is the Tail. -/
theorem nodesL_flat : ∀ (x : Pt) (way : List Int) (ink : Int) (b : Bool), 0 < way.length → nodesL (ink == 3) b way x = (visW way ink x).flatMap (fun v => ownR (b && decide (v.1.length = way.length)) (v.2.1 == 3) v.1 v.2.2) := by
  refine Pt.ind fun x ih way ink b hw => ?_
  rw [nodesL_eq, visW_eq, List.flatMap_cons, catN_flat]
  congr 1
  · simp
  · refine catN_congr fun i hi => ?_
    rw [ih i hi (way ++ [(i : Int)]) x.k _ (by simp)]
    refine flatMap_congr22 fun v hv => ?_
    have hl := visW_long (x.c i) _ _ v hv
    have h1 : decide (v.1.length = way.length) = false := by
      rcases hl with rfl | h
      · simp
      · simp at h; simp; omega
    have h2 : decide (way.length = 0) = false := decide_eq_false (by omega)
    rw [h1, h2]
    simp
theorem ownR_ntsOf {t : Pt} {v : VN} {b : Bool} (h : v.2.2.k = 6 → sameP v.2.2 t = b) : ownR b (v.2.1 == 3) v.1 v.2.2 = ntsOf t v := by
  have e : whatR v.2.2 b = ownZ v.2.2 t := by
    unfold whatR ownZ
    by_cases k6 : v.2.2.k = 6
    · rw [h k6]
      simp [k6]
    · by_cases k5 : v.2.2.k = 5
      · simp [k5]
      · simp [k5, k6]
  have e2 : (ownZ v.2.2 t != 0) = thingB (ownZ v.2.2 t) := by
    unfold ownZ thingB
    repeat' split
    all_goals decide
  unfold ownR ntsOf
  rw [e, e2]
/-- What the document's nodes has of a pattern that is well made. -/
theorem nodesL_made {x : Pt} (hc : chkP x = 0) (hm : MadeP x) : nodesL false false [] x = (visW [] 0 x).flatMap (ntsOf (tlP x)) := by
  have hr := (chkP_zero.1 hc).2.2
  rw [nodesL_eq, visW_eq, List.flatMap_cons, catN_flat]
  have hroot : ownR false false [] x = ntsOf (tlP x) ([], 0, x) := ownR_ntsOf (v := ([], 0, x)) fun h => absurd h hm.1
  rw [hroot]
  congr 1
  refine catN_congr fun i hi => ?_
  rw [show ([] : List Int) ++ [(i : Int)] = [(i : Int)] from rfl, nodesL_flat (x.c i) [(i : Int)] x.k _ (by simp)]
  refine flatMap_congr22 fun v hv => ownR_ntsOf fun k6 => ?_
  have hl := visW_long (x.c i) _ _ v hv
  have hap := (hm.2.2 (1, x) (by rw [visP_eq]; simp)).2
  rw [Bool.eq_iff_iff]
  constructor
  · intro hs
    have hsm := (sm_iff _ _).1 hs
    have hk : (tlP x).k = 6 := by rw [← hsm.1]; exact k6
    have hh : x.k = 2 ∧ 0 < x.n ∧ (x.c (x.n - 1)).k = 6 := by
      by_cases e : x.k = 2 ∧ 0 < x.n ∧ (x.c (x.n - 1)).k = 6
      · exact e
      · unfold tlP at hk; rw [if_neg e] at hk; cases hk
    have ht : tlP x = x.c (x.n - 1) := by unfold tlP; rw [if_pos hh]
    have hin : i = x.n - 1 := by
      apply Classical.byContradiction
      intro hne
      rcases hap with h4 | hap
      · simp only at h4; omega
      · refine hap i (x.n - 1) (by omega) (by have := hh.2.1; show x.n - 1 < x.n; omega) v.2.2 ?_ (x.c (x.n - 1)) ?_ ?_
        · exact visW_uses hv (by simp [nmd, k6])
        · rw [usesP_eq, if_pos (by simp [nmd, hh.2.2])]
          simp
        · rw [hsm.2.1, ht]
    have h0 : (x.c i).n = 0 := by rw [hin, ← ht]; exact tlP_n hr
    have hv1 : v = ([(i : Int)], x.k, x.c i) := by
      rw [visW_eq, h0] at hv
      simpa [catN] using hv
    rw [hv1, hh.1]
    simp
    omega
  · intro hs
    simp only [Bool.and_eq_true, beq_iff_eq, decide_eq_true_eq, List.length_nil, true_and] at hs
    obtain ⟨⟨h2, hin⟩, h3⟩ := hs
    rcases hl with rfl | h
    · have hh : x.k = 2 ∧ 0 < x.n ∧ (x.c (x.n - 1)).k = 6 := ⟨h2, by omega, by rw [show x.n - 1 = i by omega]; exact k6⟩
      have ht : tlP x = x.c i := by unfold tlP; rw [if_pos hh, show x.n - 1 = i by omega]
      rw [ht]
      exact Sm.refl _
    · simp at h
      simp at h3
      omega
end Go.Proofs.YtfnfegcjgnbgbaaGreatDoor
