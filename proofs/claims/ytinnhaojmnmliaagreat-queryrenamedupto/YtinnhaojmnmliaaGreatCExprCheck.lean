/-
  expr.Check.
  When a pattern is right: plain facts, of no function.
  slices.ContainsFunc of a pattern's parts: is one of the same kind?
-/
import Derived.Test.YtinnhaojmnmliaaGreatCExprRightPartsD
import Derived.Test.YtinnhaojmnmliaaGreatCRefVar
import Derived.Test.YtinnhaojmnmliaaGreatCPatBase
import Derived.Test.YtinnhaojmnmliaaGreatCWordMath
import Derived.Test.YtinnhaojmnmliaaGreatCTxt
import Derived.BigQuiet
namespace Go.Proofs.YtinnhaojmnmliaaGreat
open Go.RowKit Go.Shelf
attribute [local go_sem] Oper.semAt_some

theorem XT.is {T : Nat → Prop} {w : World} : ∀ {x : X}, XT T w x → IsX w x := by
  refine @(X.ind fun x ih hx => ?_)
  rw [xT_eq] at hx
  rw [isX_eq]
  refine ⟨hx.1, hx.2.1, fun i hi => ?_⟩
  obtain ⟨b, o, e, hb, hn, hc⟩ := hx.2.2 i hi
  exact ⟨b, o, e, hn, ih i hi hc⟩
/-- What Check answers. -/
def ChkX (x : X) (r : Int) : Prop := (100 < x.size ∧ r = 2) ∨ (x.size ≤ 100 ∧ TreeR x ∧ r = 0) ∨ (x.size ≤ 100 ∧ ¬ TreeR x ∧ r = 1)
theorem ChkX.one {x : X} {r s : Int} (h : ChkX x r) (g : ChkX x s) : r = s := by
  rcases h with ⟨h1, h2⟩ | ⟨h1, h2, h3⟩ | ⟨h1, h2, h3⟩ <;> rcases g with ⟨g1, g2⟩ | ⟨g1, g2, g3⟩ | ⟨g1, g2, g3⟩ <;> first | omega | exact absurd ‹TreeR x› ‹¬ TreeR x› | skip
/-- How far Check has come. -/
def SaidAt (pre : List (Int × X)) (sd : Int) : Prop := (sd = 0 ∧ ∀ v ∈ pre, NodeR v.2) ∨ (sd = 1 ∧ ¬ ∀ v ∈ pre, NodeR v.2)
theorem SaidAt.yes {pre : List (Int × X)} {sd : Int} {v : Int × X} (h : SaidAt pre sd) (hv : NodeR v.2) : SaidAt (pre ++ [v]) sd := by
  rcases h with ⟨h1, h2⟩ | ⟨h1, h2⟩
  · refine .inl ⟨h1, fun u hu => ?_⟩
    rcases List.mem_append.1 hu with hu | hu
    · exact h2 u hu
    · rw [List.mem_singleton] at hu; rw [hu]; exact hv
  · exact .inr ⟨h1, fun h => h2 fun u hu => h u (List.mem_append_left _ hu)⟩
theorem SaidAt.no {pre : List (Int × X)} {v : Int × X} (hv : ¬ NodeR v.2) : SaidAt (pre ++ [v]) 1 := .inr ⟨rfl, fun h => hv (h v (by simp))⟩
set_option maxRecDepth 100000 in
set_option maxHeartbeats 4000000 in
theorem check_in (n : Nat) (x : X) (w : World) (hX : IsX w x) :
    CallsIn Fence.wide n Tryz.prog 56 #[x.val] w fun e w' => ∃ r : Int, e = .returned (.int .i64 r) ∧ ChkX x r ∧ Below w.heap.size w w' := by
  have hdd : ∀ k : Nat, (Fence.wide.depth.isSome = true → 1 ≤ k) := fun k h => by cases h
  refine callsIn_of_wp_marks Tryz.func56 rfl trivial ?_ rfl
  simp only [Tryz.ntmps56, List.size_toArray, List.length_cons, List.length_nil, Nat.reduceAdd, Nat.reduceSub, Array.replicate_succ, Array.replicate_zero, List.push_toArray, List.append_toArray, List.nil_append, List.cons_append]
  gi_wp2_with (refine ⟨trivial, hdd _, ?_⟩; gi_at_call 53; refine (nodes_in _ _ _).mono ?_; rintro e w' ⟨rfl, rfl⟩)
  obtain ⟨A, hA⟩ : ∃ A, (((((w.alloc (.cells x.cells 32)).alloc (.cells #[.int .i64 0] 37)).alloc (.cells #[.int .i64 0] 3)).alloc (.cells #[.int .i64 0] 37)).alloc (.cells #[.pointer (some ⟨w.heap.size, 0, none⟩)] 81)) = A := ⟨_, rfl⟩
  have hsz : A.heap.size = w.heap.size + 5 := by rw [← hA]; simp
  have hB : Below w.heap.size w A := by rw [← hA]; exact (((((Below.refl _ w).alloc (Nat.le_refl _) _).alloc (by simp) _).alloc (by first | (simp; done) | (simp; omega)) _).alloc (by first | (simp; done) | (simp; omega)) _).alloc (by first | (simp; done) | (simp; omega)) _
  have hnode : Node A w.heap.size 0 x := by
    rw [← hA]
    exact (node_new w 32 x).later (((((Below.refl _ _).alloc (Nat.le_refl _) _).alloc (by simp) _).alloc (by first | (simp; done) | (simp; omega)) _).alloc (by first | (simp; done) | (simp; omega)) _)
  have hb1 : Boxed A (w.heap.size + 1) 37 (.int .i64 0) := by
    have := (((Boxed.new (w.alloc (.cells x.cells 32)) 37 (.int .i64 0)).alloc (.cells #[.int .i64 0] 3)).alloc (.cells #[.int .i64 0] 37)).alloc (.cells #[.pointer (some ⟨w.heap.size, 0, none⟩)] 81)
    rw [World.size_alloc, hA] at this
    exact this
  have hb2 : Boxed A (w.heap.size + 1 + 1) 3 (.int .i64 0) := by
    have := ((Boxed.new ((w.alloc (.cells x.cells 32)).alloc (.cells #[.int .i64 0] 37)) 3 (.int .i64 0)).alloc (.cells #[.int .i64 0] 37)).alloc (.cells #[.pointer (some ⟨w.heap.size, 0, none⟩)] 81)
    rw [World.size_alloc, World.size_alloc, hA] at this
    exact this
  have hb3 : Boxed A (w.heap.size + 1 + 1 + 1) 37 (.int .i64 0) := by
    have := (Boxed.new (((w.alloc (.cells x.cells 32)).alloc (.cells #[.int .i64 0] 37)).alloc (.cells #[.int .i64 0] 3)) 37 (.int .i64 0)).alloc (.cells #[.pointer (some ⟨w.heap.size, 0, none⟩)] 81)
    rw [World.size_alloc, World.size_alloc, World.size_alloc, hA] at this
    exact this
  have hbp : Boxed A (w.heap.size + 1 + 1 + 1 + 1) 81 (.pointer (some ⟨w.heap.size, 0, none⟩)) := by
    have := Boxed.new ((((w.alloc (.cells x.cells 32)).alloc (.cells #[.int .i64 0] 37)).alloc (.cells #[.int .i64 0] 3)).alloc (.cells #[.int .i64 0] 37)) 81 (.pointer (some ⟨w.heap.size, 0, none⟩))
    rw [World.size_alloc, World.size_alloc, World.size_alloc, World.size_alloc, hA] at this
    exact this
  rw [hA]
  refine nodes_fold (w.heap.size + 1 + 1 + 1 + 1) w.heap.size 0 x (fun k => k < w.heap.size + 1)
    (fun pre W => Boxed W (w.heap.size + 1) 37 (.int .i64 0) ∧ Boxed W (w.heap.size + 1 + 1) 3 (.int .i64 (pre.length : Int)) ∧ (∃ sd, Boxed W (w.heap.size + 1 + 1 + 1) 37 (.int .i64 sd) ∧ SaidAt pre sd) ∧ pre.length ≤ 100 ∧ Below w.heap.size w W)
    (fun c W => c = .ret ∧ 100 < x.size ∧ Boxed W (w.heap.size + 1) 37 (.int .i64 2) ∧ Below w.heap.size w W)
    rfl rfl hbp.cell (fun k hk => by omega) (by omega) hnode (XIn.xt (n := w.heap.size) (fun k hk => by omega) (hX.inn.below hB)) ?_ ?_ ?_ ?_
    (fun d b o => { tmps := #[x.val, .pointer (some ⟨w.heap.size, 0, none⟩), .pointer (some ⟨w.heap.size + 1, 0, none⟩), .pointer (some ⟨w.heap.size + 1 + 1, 0, none⟩), .pointer (some ⟨w.heap.size + 1 + 1 + 1, 0, none⟩), undef, .pointer (some ⟨b, o, none⟩), .func (.func 80) #[] #[.pointer (some ⟨w.heap.size + 1 + 1 + 1 + 1, 0, none⟩)], .int .i64 d, .pointer (some ⟨b, o, none⟩), undef, undef, undef, undef, undef, undef, undef, undef], defers := [] }) ?_ ?_ ?_ ?_
  · rintro pre W B hag ⟨h1, h2, ⟨sd, h3, h4⟩, h5, h6⟩
    exact ⟨hag.boxed h1, hag.boxed h2, ⟨sd, hag.boxed h3, h4⟩, h5, hag.below (by omega) h6⟩
  · exact fun pre W h => ⟨h.1, h.2.1, h.2.2.1, h.2.2.2.1, h.2.2.2.2.drew⟩
  · exact fun W h => ⟨Boxed.kept_of hb1 h (by omega), Boxed.kept_of hb2 h (by omega), ⟨0, Boxed.kept_of hb3 h (by omega), .inl ⟨rfl, by simp⟩⟩, by simp, hB.trans (h.mono (by omega))⟩
  · rintro c W B hag ⟨h1, h2, h3, h4⟩
    exact ⟨h1, h2, hag.boxed h3, hag.below (by omega) h4⟩
  · intro l d b o W K hK
    gi_wp2
    first | exact hK | simpa using hK
  · rintro l d b o y pre W hb hn hx ⟨h1, h2, ⟨sd, h3, h4⟩, h5, h6⟩ hs hlt
    rw [length_vis] at hlt
    have c2 := h2.cell
    have f2 := h2.frozen
    obtain ⟨m, hm⟩ : ∃ m, m = pre.length := ⟨_, rfl⟩
    have HM : Hid (m = pre.length) := hm
    rw [← hm] at c2 h2 h5 hlt
    have e1 := h1.other (show w.heap.size + 1 ≠ w.heap.size + 1 + 1 by omega) (.int .i64 ((m : Int) + 1))
    have e2 := h2.set (.int .i64 ((m : Int) + 1))
    have e3 := h3.other (show w.heap.size + 1 + 1 + 1 ≠ w.heap.size + 1 + 1 by omega) (.int .i64 ((m : Int) + 1))
    have kp1 : Kp (fun k => k < w.heap.size + 1 ∨ k = A.heap.size + 2 ∨ k = A.heap.size + 3) W (W.setCell ⟨w.heap.size + 1 + 1, 0, none⟩ (.int .i64 ((m : Int) + 1))) := Kp.set _ (by simp; omega)
    have n1 : Node (W.setCell ⟨w.heap.size + 1 + 1, 0, none⟩ (.int .i64 ((m : Int) + 1))) b o y := hn.kept kp1 (.inl hb)
    have x1 : IsX (W.setCell ⟨w.heap.size + 1 + 1, 0, none⟩ (.int .i64 ((m : Int) + 1))) y := (hx.kept (kp1.mono fun k hk => .inl hk)).is
    have b1 : Below w.heap.size w (W.setCell ⟨w.heap.size + 1 + 1, 0, none⟩ (.int .i64 ((m : Int) + 1))) := h6.setCell (p := ⟨w.heap.size + 1 + 1, 0, none⟩) (by simp; omega) _
    have k1 : KeepsOthers W (W.setCell ⟨w.heap.size + 1 + 1, 0, none⟩ (.int .i64 ((m : Int) + 1))) := KeepsOthers.setCell _ _ _
    have g1 := e1.cell
    have g2 := e2.cell
    have i1 := e1.frozen
    by_cases hm100 : 100 < m + 1
    · have hm' : (100 : Int) < (m : Int) + 1 := by omega
      clear hm
      gi_wp2
      exact ⟨(k1.trans (KeepsOthers.setCell _ _ _)).from _, rfl, by omega, e1.set _, b1.setCell (p := ⟨w.heap.size + 1, 0, none⟩) (by simp) _⟩
    · have hm' : ¬ (100 : Int) < (m : Int) + 1 := by omega
      have hr := rightX_any b o y _ n1 x1
      have hl1 : (pre ++ [(d, y)]).length = m + 1 := by simp [hm]
      clear hm
      gi_wp2_with (refine ⟨trivial, hdd _, ?_⟩; gi_at_call 87; refine (CallsIn.inRound l (callsIn_wide.2 hr)).mono ?_; rintro e w2 ⟨r, rfl, hrr, hB2⟩; have q3 := Boxed.kept_of e3 hB2 (Boxed.lt e3); have gq3 := q3.cell; have fq3 := q3.frozen; have HRR : Hid (r = true ↔ NodeR y) := hrr; clear hrr; cases r)
      · have hno : ¬ NodeR y := fun h => by have := HRR.out.2 h; cases this
        refine ⟨((k1.trans ⟨hB2.size, fun k o ho _ => (hB2.block k (Array.getElem?_eq_some_iff.1 ho).1).trans ho⟩).trans (KeepsOthers.setCell _ _ _)).from _, ?_, ?_, ?_, ⟨1, q3.set _, SaidAt.no hno⟩, by rw [hl1]; omega, ?_⟩
        · exact (kp1.trans (fun k o _ _ ho => (hB2.block k (Array.getElem?_eq_some_iff.1 ho).1).trans ho)).trans (Kp.set _ (by simp; omega))
        · exact (Boxed.kept_of e1 hB2 (Boxed.lt e1)).other (by omega) _
        · rw [hl1]; exact (Boxed.kept_of e2 hB2 (Boxed.lt e2)).other (by omega) _
        · exact (b1.trans (hB2.mono b1.size)).setCell (p := ⟨w.heap.size + 1 + 1 + 1, 0, none⟩) (by simp; omega) _
      · have hyes : NodeR y := HRR.out.1 (by first | rfl | trivial)
        refine ⟨(k1.trans ⟨hB2.size, fun k o ho _ => (hB2.block k (Array.getElem?_eq_some_iff.1 ho).1).trans ho⟩).from _, ?_, ?_, ?_, ⟨sd, q3, h4.yes hyes⟩, by rw [hl1]; omega, ?_⟩
        · exact kp1.trans (fun k o _ _ ho => (hB2.block k (Array.getElem?_eq_some_iff.1 ho).1).trans ho)
        · exact Boxed.kept_of e1 hB2 (Boxed.lt e1)
        · rw [hl1]; exact Boxed.kept_of e2 hB2 (Boxed.lt e2)
        · exact b1.trans (hB2.mono b1.size)
  · rintro D W hD ⟨h1, h2, ⟨sd, h3, h4⟩, h5, h6⟩ hK
    rw [length_vis] at h5
    have c1 := h1.cell
    have f1 := h1.frozen
    have c3 := h3.cell
    have hK' : (W.setCell ⟨w.heap.size + 1, 0, none⟩ (.int .i64 sd)).heap[D]? = some (.deferred (some [])) := (KeepsOthers.setCell _ _ _).same D _ hK rfl
    have hc5 := cell_kept (h1.set (.int .i64 sd)).cell (grownBy_putObj' _ D (.deferred none)) (fun r e => by cases e; exact ⟨_, hK', rfl⟩)
    gi_wp2
    refine ⟨by simp, .inl ⟨_, _, rfl, run_takeDeferred hK', ?_⟩⟩
    refine ⟨.int .i64 sd, ?_, sd, rfl, ?_, (h6.setCell (p := ⟨w.heap.size + 1, 0, none⟩) (by simp) _).trans (belowK_b (w := w) (Nat.le_refl _) _ D _ _ (by omega) hK' rfl rfl)⟩
    · simp [results, Tryz.f56, go_sem, hc5]
    · rcases h4 with ⟨e, h⟩ | ⟨e, h⟩
      · exact .inr (.inl ⟨h5, (treeR_vis x 1).2 h, e⟩)
      · exact .inr (.inr ⟨h5, fun t => h ((treeR_vis x 1).1 t), e⟩)
  · rintro D c W hD ⟨rfl, h0, h1, h2⟩ hK
    have hc5 := cell_kept h1.cell (grownBy_putObj' _ D (.deferred none)) (fun r e => by cases e; exact ⟨_, hK, rfl⟩)
    gi_wp2
    refine ⟨by simp, .inl ⟨_, _, rfl, run_takeDeferred hK, ?_⟩⟩
    refine ⟨.int .i64 2, ?_, 2, rfl, .inl ⟨h0, rfl⟩, h2.trans (belowK_b (w := w) (Nat.le_refl _) _ D _ _ (by omega) hK rfl rfl)⟩
    simp [results, Tryz.f56, go_sem, hc5]
theorem checkX_any (x : X) (w : World) (hX : IsX w x) : Calls Tryz.prog 56 #[x.val] w fun e w' => ∃ r : Int, e = .returned (.int .i64 r) ∧ ChkX x r ∧ Below w.heap.size w w' :=
  (callsIn_wide (n := 3)).1 (check_in 3 x w hX)
end Go.Proofs.YtinnhaojmnmliaaGreat
namespace Go.Proofs.YtinnhaojmnmliaaGreat
open Go.RowKit

/-- May a PMany have these? -/
def cntB (lo hi : Int) : Bool := decide (1 ≤ lo) && (decide (lo ≤ 1000) && ((hi == 0 || (decide (lo ≤ hi) && decide (hi ≤ 1000))) && !(lo == 1 && hi == 1)))
def emptyB (s : ByteArray) : Bool := s.toList == []
/-- Is one of the parts of the same kind? -/
def ownB (x : Pt) : Bool := !allN (fun i => !((x.c i).k == x.k)) x.n
/-- Is a node right, its parts aside? -/
def leafB (x : Pt) : Bool := nameB x.s && (nameB x.t && (x.lo == 0 && (x.hi == 0 && x.n == 0)))
def manyB (x : Pt) : Bool := nameB x.s && (nameB x.t && (cntB x.lo x.hi && x.n == 0))
def rowB (x : Pt) : Bool := emptyB x.s && (emptyB x.t && (x.lo == 0 && (x.hi == 0 && (decide (2 ≤ x.n) && !ownB x))))
def isRow (k : Int) : Bool := k == 2 || k == 3 || k == 4
def rightN (x : Pt) : Bool := if isRow x.k = true then rowB x else if x.k = 5 then manyB x else if x.k = 1 ∨ x.k = 6 then leafB x else false
/-- Is all of it right? -/
def rightP : Pt → Bool
  | .nil => rightN .nil
  | .mk k s t lo hi a n cap c => rightN (.mk k s t lo hi a n cap c) && allN (fun i => rightP (c i)) n
theorem rightP_eq (x : Pt) : rightP x = (rightN x && allN (fun i => rightP (x.c i)) x.n) := by
  cases x with
  | nil => show rightN .nil = (rightN .nil && true); simp
  | mk => rfl
theorem right_vis : ∀ (x : Pt) (d : Nat), rightP x = true ↔ ∀ v ∈ visP d x, rightN v.2 = true := by
  refine Pt.ind fun x ih d => ?_
  rw [rightP_eq, Bool.and_eq_true, allN_true, visP_eq]
  constructor
  · rintro ⟨h1, h2⟩ v hv
    rcases List.mem_cons.1 hv with rfl | hv
    · exact h1
    · obtain ⟨i, hi, hv⟩ := mem_catN.1 hv
      exact (ih i hi (d + 1)).1 (h2 i hi) v hv
  · intro h
    exact ⟨h (d, x) (by simp), fun i hi => (ih i hi (d + 1)).2 fun v hv => h v (List.mem_cons_of_mem _ (mem_catN.2 ⟨i, hi, hv⟩))⟩
/-- What Check answers. -/
def chkP (x : Pt) : Int := if 64 < x.size ∨ 8 < x.deep then 2 else if rightP x = true then 0 else 1
theorem chkP_zero {x : Pt} : chkP x = 0 ↔ x.size ≤ 64 ∧ x.deep ≤ 8 ∧ rightP x = true := by
  unfold chkP
  by_cases h : 64 < x.size ∨ 8 < x.deep
  · rw [if_pos h]
    constructor
    · intro e; omega
    · rintro ⟨h1, h2, _⟩; omega
  · rw [if_neg h]
    by_cases hr : rightP x = true
    · rw [if_pos hr]
      exact ⟨fun _ => ⟨by omega, by omega, hr⟩, fun _ => rfl⟩
    · rw [if_neg hr]
      exact ⟨fun e => by omega, fun e => absurd e.2.2 hr⟩
/-- A part of a right one is right. -/
theorem chkP_part {x : Pt} (h : chkP x = 0) {i : Nat} (hi : i < x.n) : chkP (x.c i) = 0 := by
  rw [chkP_zero] at h ⊢
  have h1 := x.size_part i hi
  have h2 := x.deep_part i hi
  have h3 := h.2.2
  rw [rightP_eq, Bool.and_eq_true, allN_true] at h3
  exact ⟨by omega, by omega, h3.2 i hi⟩
theorem ownB_sm {x y : Pt} (h : Sm x y) : ownB x = ownB y := by
  obtain ⟨h1, h2, h3, h4, h5, h6, h7⟩ := (sm_iff _ _).1 h
  unfold ownB
  rw [← h6, ← h1]
  congr 1
  rw [Bool.eq_iff_iff, allN_true, allN_true]
  constructor
  · intro q i hi; have := q i hi; rwa [((sm_iff _ _).1 (h7 i hi)).1] at this
  · intro q i hi; have := q i hi; rwa [← ((sm_iff _ _).1 (h7 i hi)).1] at this
theorem rightN_sm {x y : Pt} (h : Sm x y) : rightN x = rightN y := by
  have ho := ownB_sm h
  obtain ⟨h1, h2, h3, h4, h5, h6, h7⟩ := (sm_iff _ _).1 h
  unfold rightN rowB manyB leafB
  rw [ho, h1, h2, h3, h4, h5, h6]
theorem rightP_sm : ∀ {x y : Pt}, Sm x y → rightP x = rightP y := by
  refine @(Pt.ind fun x ih y h => ?_)
  have hn := rightN_sm h
  obtain ⟨h1, h2, h3, h4, h5, h6, h7⟩ := (sm_iff _ _).1 h
  rw [rightP_eq, rightP_eq y, hn, ← h6]
  congr 1
  rw [Bool.eq_iff_iff, allN_true, allN_true]
  exact ⟨fun q i hi => by rw [← ih i hi (h7 i hi)]; exact q i hi, fun q i hi => by rw [ih i hi (h7 i hi)]; exact q i hi⟩
theorem chkP_sm {x y : Pt} (h : Sm x y) : chkP x = chkP y := by
  unfold chkP
  rw [size_sm h, deep_sm h, rightP_sm h]
/-- A right node that has a Var has no parts. -/
theorem named_leaf {x : Pt} (h : rightN x = true) (hk : nmd x.k = true) : x.n = 0 := by
  unfold rightN at h
  unfold nmd at hk
  simp only [Bool.or_eq_true, beq_iff_eq] at hk
  have hr : ¬ isRow x.k = true := by
    unfold isRow
    simp only [Bool.or_eq_true, beq_iff_eq]
    omega
  rw [if_neg hr] at h
  by_cases h5 : x.k = 5
  · rw [if_pos h5] at h
    unfold manyB at h
    simp at h
    exact h.2.2.2
  · rw [if_neg h5] at h
    by_cases h1 : x.k = 1 ∨ x.k = 6
    · rw [if_pos h1] at h
      unfold leafB at h
      simp at h
      exact h.2.2.2.2
    · rw [if_neg h1] at h; cases h
end Go.Proofs.YtinnhaojmnmliaaGreat
namespace Go.Proofs.YtinnhaojmnmliaaGreat
open Go.RowKit

theorem NodeP.at00 {w : World} {B : Nat} {x : Pt} (h : NodeP w B 0 x) : w.cell? ⟨B, 0, none⟩ = some (.int .i64 x.k) := h.1
set_option maxRecDepth 100000 in
set_option maxHeartbeats 1000000 in
theorem kindP_any (z : Pt) (Bx b o : Nat) (k : Int) (w : World) (hb : w.cell? ⟨Bx, 0, none⟩ = some (.pointer (some ⟨b, o, none⟩))) (hk : w.cell? ⟨b, o, none⟩ = some (.int .i64 k)) :
    Calls Tryz.prog 106 #[z.val, .pointer (some ⟨Bx, 0, none⟩)] w fun e w' => e = .returned (.bool (z.k == k)) ∧ Below w.heap.size w w' := by
  obtain ⟨A, hA⟩ : ∃ A, w.alloc (.cells z.cells 24) = A := ⟨_, rfl⟩
  have hB : Below w.heap.size w A := by rw [← hA]; exact (Below.refl _ w).alloc (Nat.le_refl _) _
  have n0 : A.cell? ⟨w.heap.size, 0, none⟩ = some (.int .i64 z.k) := by rw [← hA]; exact (nodeP_new w _ z).1
  have c1 := cell_later hb hB
  have c2 := cell_later hk hB
  have HB : Hid (Below w.heap.size w A) := hB
  clear hb hk hB
  go_enter Tryz.func106, Tryz.ntmps106
  go_wp2_with fail
  go_quiet (fail)
  go_wp2
  go_ret
  exact ⟨rfl, bd HB.out _⟩
set_option maxRecDepth 100000 in
set_option maxHeartbeats 1000000 in
theorem kindsP_index (y : Pt) (Bx b o : Nat) (k : Int) (w : World) (hY : IsP w y) (hb : w.cell? ⟨Bx, 0, none⟩ = some (.pointer (some ⟨b, o, none⟩))) (hk : w.cell? ⟨b, o, none⟩ = some (.int .i64 k)) :
    Calls Tryz.prog 126 #[.slice y.a y.n y.cap, .func (.func 106) #[] #[.pointer (some ⟨Bx, 0, none⟩)]] w fun e w' => ∃ r : Int, e = .returned (.int .i64 r) ∧ (0 ≤ r ↔ ∃ i, i < y.n ∧ (y.c i).k = k) ∧ Below w.heap.size w w' := by
  have HY : Hid (IsP w y) := hY
  have hlen := hY.len
  obtain ⟨a, ha⟩ : ∃ a, a = y.a := ⟨_, rfl⟩
  rw [← ha]
  have HA : Hid (a = y.a) := ha
  clear ha
  have Hb : Hid (w.cell? ⟨Bx, 0, none⟩ = some (.pointer (some ⟨b, o, none⟩))) := hb
  have Hk : Hid (w.cell? ⟨b, o, none⟩ = some (.int .i64 k)) := hk
  clear hY hb hk
  go_enter Tryz.func126, Tryz.ntmps126
  go_wp2
  go_loopw [8] (fun u wr => ∃ i : Nat, i ≤ y.n ∧ u = .int .i64 i ∧ Hid (∀ j, j < i → (y.c j).k ≠ k) ∧ Below w.heap.size w wr) (fun u _ => y.n - (intOf u).toNat)
  case atStart => exact ⟨0, Nat.zero_le _, rfl, fun j hj => by omega, Below.refl _ _⟩
  case round =>
    obtain ⟨i, hi, rfl, HI, hB⟩ := hrel
    by_cases hin : i < y.n
    · obtain ⟨b2, o2, ea, hn, hx⟩ := (HY.out.later hB).part hin
      rw [← HA.out] at ea
      subst ea
      obtain ⟨d0, d1, d2, d3, d4, d5⟩ := hn
      have hc := kindP_any (y.c i) Bx b o k wr (cell_later Hb.out hB) (cell_later Hk.out hB)
      have HK : Hid (i < y.n) := hin
      clear hx
      by_cases hv : (y.c i).k = k
      · have hv' : ((y.c i).k == k) = true := by simpa using hv
        have HV : Hid ((y.c i).k = k) := hv
        rw [hv'] at hc
        clear hv hv'
        go_wp2_with (go_at_call 106; refine hc.mono ?_; rintro e w2 ⟨rfl, hB2⟩)
        try rw [Exit.noGoto_ret]
        go_ret
        exact ⟨_, rfl, ⟨fun _ => ⟨i, HK.out, HV.out⟩, fun _ => by omega⟩, hB.trans (hB2.mono hB.size)⟩
      · have hv' : ((y.c i).k == k) = false := by simpa using hv
        have HV : Hid (¬ (y.c i).k = k) := hv
        rw [hv'] at hc
        clear hv hv'
        go_wp2_with (go_at_call 106; refine hc.mono ?_; rintro e w2 ⟨rfl, hB2⟩)
        go_roundw
        case rel => exact ⟨i + 1, HK.out, by go_num, fun j hj => by by_cases e : j = i; (· rw [e]; exact HV.out); exact HI.out j (by omega), hB.trans (hB2.mono hB.size)⟩
        case measure => have := HK.out; simp [intOf]; omega
    · obtain rfl : i = y.n := by omega
      go_wp2
      go_ret
      refine ⟨_, rfl, ⟨fun h => by omega, fun ⟨j, hj, e⟩ => absurd e (HI.out j hj)⟩, hB⟩
set_option maxRecDepth 100000 in
set_option maxHeartbeats 1000000 in
theorem kindsP_any (y : Pt) (Bx b o : Nat) (k : Int) (w : World) (hY : IsP w y) (hb : w.cell? ⟨Bx, 0, none⟩ = some (.pointer (some ⟨b, o, none⟩))) (hk : w.cell? ⟨b, o, none⟩ = some (.int .i64 k)) :
    Calls Tryz.prog 105 #[.slice y.a y.n y.cap, .func (.func 106) #[] #[.pointer (some ⟨Bx, 0, none⟩)]] w fun e w' => ∃ r : Bool, e = .returned (.bool r) ∧ (r = true ↔ ∃ i, i < y.n ∧ (y.c i).k = k) ∧ Below w.heap.size w w' := by
  have hc := kindsP_index y Bx b o k w hY hb hk
  clear hY hb hk
  go_enter Tryz.func105, Tryz.ntmps105
  go_wp2_with (go_at_call 126; refine hc.mono ?_; rintro e w2 ⟨r, rfl, hr, hB2⟩; have HR : Hid (0 ≤ r ↔ ∃ i, i < y.n ∧ (y.c i).k = k) := hr; clear hr)
  go_ret
  exact ⟨decide (0 ≤ r), rfl, by rw [← HR.out]; simp, hB2⟩
theorem ownB_iff (x : Pt) : ownB x = true ↔ ∃ i, i < x.n ∧ (x.c i).k = x.k := by
  unfold ownB
  rw [Bool.not_eq_true']
  constructor
  · intro h
    refine Classical.byContradiction fun hn => ?_
    have : allN (fun i => !((x.c i).k == x.k)) x.n = true := allN_true.2 fun i hi => by
      simp only [Bool.not_eq_true', beq_eq_false_iff_ne]
      exact fun e => hn ⟨i, hi, e⟩
    rw [this] at h
    cases h
  · rintro ⟨i, hi, e⟩
    exact allN_false hi (by simp [e])
theorem ownP_any (x : Pt) (Bx b o : Nat) (w : World) (hX : IsP w x) (hb : w.cell? ⟨Bx, 0, none⟩ = some (.pointer (some ⟨b, o, none⟩))) (hk : w.cell? ⟨b, o, none⟩ = some (.int .i64 x.k)) :
    Calls Tryz.prog 105 #[.slice x.a x.n x.cap, .func (.func 106) #[] #[.pointer (some ⟨Bx, 0, none⟩)]] w fun e w' => e = .returned (.bool (ownB x)) ∧ Below w.heap.size w w' := by
  refine (kindsP_any x Bx b o x.k w hX hb hk).mono ?_
  rintro e w' ⟨r, rfl, hr, hB⟩
  have : r = ownB x := by rw [Bool.eq_iff_iff, hr, ownB_iff]
  rw [this]
  exact ⟨rfl, hB⟩
end Go.Proofs.YtinnhaojmnmliaaGreat
