/-
  expr.Check.
  Conditions that lie apart: each row of parts in a block of its own, that may be written; of no function.
-/
import Derived.Test.YtfnfegcjgnbgbaaGreatDoorTExprRightPartsD
import Derived.Test.YtfnfegcjgnbgbaaGreatDoorTExprKinds
import Derived.Test.YtfnfegcjgnbgbaaGreatDoorTExprMath
import Derived.Test.YtfnfegcjgnbgbaaGreatDoorTValOrder
namespace Go.Proofs.YtfnfegcjgnbgbaaGreatDoor
open Go.RowKit Go.Shelf
attribute [local go_sem] Oper.semAt_some

theorem XT.is {T : Nat → Prop} {w : World} : ∀ {x : X}, XT T w x → IsX w x := by
  refine @(X.ind fun x ih hx => ?_)
  rw [xT_eq] at hx
  rw [isX_eq]
  refine ⟨hx.1, hx.2.1, fun i hi => ?_⟩
  obtain ⟨b, o, e, hb, hn, hc⟩ := hx.2.2 i hi
  exact ⟨b, o, e, hn, ih i hi hc⟩
/-- What Check answers. -/
def ChkX (x : X) (r : Int) : Prop := (100 < x.size ∧ r = 2) ∨ (x.size ≤ 100 ∧ TreeR x ∧ r = 0) ∨ (x.size ≤ 100 ∧ ¬ TreeR x ∧ r = 1)
/-- How far Check has come. -/
def SaidAt (pre : List (Int × X)) (sd : Int) : Prop := (sd = 0 ∧ ∀ v ∈ pre, NodeR v.2) ∨ (sd = 1 ∧ ¬ ∀ v ∈ pre, NodeR v.2)
theorem SaidAt.yes {pre : List (Int × X)} {sd : Int} {v : Int × X} (h : SaidAt pre sd) (hv : NodeR v.2) : SaidAt (pre ++ [v]) sd := by
  rcases h with ⟨h1, h2⟩ | ⟨h1, h2⟩
  · refine .inl ⟨h1, fun u hu => ?_⟩
    rcases List.mem_append.1 hu with hu | hu
    · exact h2 u hu
    · rw [List.mem_singleton] at hu; rw [hu]; exact hv
  · exact .inr ⟨h1, fun h => h2 fun u hu => h u (List.mem_append_left _ hu)⟩
theorem SaidAt.no {pre : List (Int × X)} {v : Int × X} (hv : ¬ NodeR v.2) : SaidAt (pre ++ [v]) 1 := .inr ⟨rfl, fun h => hv (h v (by simp))⟩
set_option maxRecDepth 100000 in
set_option maxHeartbeats 4000000 in
theorem check_in (n : Nat) (x : X) (w : World) (hX : IsX w x) :
    CallsIn Fence.wide n Tryz.prog 66 #[x.val] w fun e w' => ∃ r : Int, e = .returned (.int .i64 r) ∧ ChkX x r ∧ Below w.heap.size w w' := by
  have hdd : ∀ k : Nat, (Fence.wide.depth.isSome = true → 1 ≤ k) := fun k h => by cases h
  refine callsIn_of_wp_marks Tryz.func66 rfl trivial ?_ rfl
  simp only [Tryz.ntmps66, List.size_toArray, List.length_cons, List.length_nil, Nat.reduceAdd, Nat.reduceSub, Array.replicate_succ, Array.replicate_zero, List.push_toArray, List.append_toArray, List.nil_append, List.cons_append]
  gi_wp2_with (refine ⟨trivial, hdd _, ?_⟩; gi_at_call 88; refine (nodes_in _ _ _).mono ?_; rintro e w' ⟨rfl, rfl⟩)
  obtain ⟨A, hA⟩ : ∃ A, (((((w.alloc (.cells x.cells 51)).alloc (.cells #[.int .i64 0] 32)).alloc (.cells #[.int .i64 0] 3)).alloc (.cells #[.int .i64 0] 32)).alloc (.cells #[.pointer (some ⟨w.heap.size, 0, none⟩)] 123)) = A := ⟨_, rfl⟩
  have hsz : A.heap.size = w.heap.size + 5 := by rw [← hA]; simp
  have hB : Below w.heap.size w A := by rw [← hA]; exact (((((Below.refl _ w).alloc (Nat.le_refl _) _).alloc (by simp) _).alloc (by first | (simp; done) | (simp; omega)) _).alloc (by first | (simp; done) | (simp; omega)) _).alloc (by first | (simp; done) | (simp; omega)) _
  have hnode : Node A w.heap.size 0 x := by
    rw [← hA]
    exact (node_new w 51 x).later (((((Below.refl _ _).alloc (Nat.le_refl _) _).alloc (by simp) _).alloc (by first | (simp; done) | (simp; omega)) _).alloc (by first | (simp; done) | (simp; omega)) _)
  have hb1 : Boxed A (w.heap.size + 1) 32 (.int .i64 0) := by
    have := (((Boxed.new (w.alloc (.cells x.cells 51)) 32 (.int .i64 0)).alloc (.cells #[.int .i64 0] 3)).alloc (.cells #[.int .i64 0] 32)).alloc (.cells #[.pointer (some ⟨w.heap.size, 0, none⟩)] 123)
    rw [World.size_alloc, hA] at this
    exact this
  have hb2 : Boxed A (w.heap.size + 1 + 1) 3 (.int .i64 0) := by
    have := ((Boxed.new ((w.alloc (.cells x.cells 51)).alloc (.cells #[.int .i64 0] 32)) 3 (.int .i64 0)).alloc (.cells #[.int .i64 0] 32)).alloc (.cells #[.pointer (some ⟨w.heap.size, 0, none⟩)] 123)
    rw [World.size_alloc, World.size_alloc, hA] at this
    exact this
  have hb3 : Boxed A (w.heap.size + 1 + 1 + 1) 32 (.int .i64 0) := by
    have := (Boxed.new (((w.alloc (.cells x.cells 51)).alloc (.cells #[.int .i64 0] 32)).alloc (.cells #[.int .i64 0] 3)) 32 (.int .i64 0)).alloc (.cells #[.pointer (some ⟨w.heap.size, 0, none⟩)] 123)
    rw [World.size_alloc, World.size_alloc, World.size_alloc, hA] at this
    exact this
  have hbp : Boxed A (w.heap.size + 1 + 1 + 1 + 1) 123 (.pointer (some ⟨w.heap.size, 0, none⟩)) := by
    have := Boxed.new ((((w.alloc (.cells x.cells 51)).alloc (.cells #[.int .i64 0] 32)).alloc (.cells #[.int .i64 0] 3)).alloc (.cells #[.int .i64 0] 32)) 123 (.pointer (some ⟨w.heap.size, 0, none⟩))
    rw [World.size_alloc, World.size_alloc, World.size_alloc, World.size_alloc, hA] at this
    exact this
  rw [hA]
  refine nodes_fold (w.heap.size + 1 + 1 + 1 + 1) w.heap.size 0 x (fun k => k < w.heap.size + 1)
    (fun pre W => Boxed W (w.heap.size + 1) 32 (.int .i64 0) ∧ Boxed W (w.heap.size + 1 + 1) 3 (.int .i64 (pre.length : Int)) ∧ (∃ sd, Boxed W (w.heap.size + 1 + 1 + 1) 32 (.int .i64 sd) ∧ SaidAt pre sd) ∧ pre.length ≤ 100 ∧ Below w.heap.size w W)
    (fun c W => c = .ret ∧ 100 < x.size ∧ Boxed W (w.heap.size + 1) 32 (.int .i64 2) ∧ Below w.heap.size w W)
    rfl rfl hbp.cell (fun k hk => by omega) (by omega) hnode (XIn.xt (n := w.heap.size) (fun k hk => by omega) (hX.inn.below hB)) ?_ ?_ ?_ ?_
    (fun d b o => { tmps := #[x.val, .pointer (some ⟨w.heap.size, 0, none⟩), .pointer (some ⟨w.heap.size + 1, 0, none⟩), .pointer (some ⟨w.heap.size + 1 + 1, 0, none⟩), .pointer (some ⟨w.heap.size + 1 + 1 + 1, 0, none⟩), undef, .pointer (some ⟨b, o, none⟩), .func (.func 100) #[] #[.pointer (some ⟨w.heap.size + 1 + 1 + 1 + 1, 0, none⟩)], .int .i64 d, .pointer (some ⟨b, o, none⟩), undef, undef, undef, undef, undef, undef, undef, undef], defers := [] }) ?_ ?_ ?_ ?_
  · rintro pre W B hag ⟨h1, h2, ⟨sd, h3, h4⟩, h5, h6⟩
    exact ⟨hag.boxed h1, hag.boxed h2, ⟨sd, hag.boxed h3, h4⟩, h5, hag.below (by omega) h6⟩
  · exact fun pre W h => ⟨h.1, h.2.1, h.2.2.1, h.2.2.2.1, h.2.2.2.2.drew⟩
  · exact fun W h => ⟨Boxed.kept_of hb1 h (by omega), Boxed.kept_of hb2 h (by omega), ⟨0, Boxed.kept_of hb3 h (by omega), .inl ⟨rfl, by simp⟩⟩, by simp, hB.trans (h.mono (by omega))⟩
  · rintro c W B hag ⟨h1, h2, h3, h4⟩
    exact ⟨h1, h2, hag.boxed h3, hag.below (by omega) h4⟩
  · intro l d b o W K hK
    gi_wp2
    first | exact hK | simpa using hK
  · rintro l d b o y pre W hb hn hx ⟨h1, h2, ⟨sd, h3, h4⟩, h5, h6⟩ hs hlt
    rw [length_vis] at hlt
    have c2 := h2.cell
    have f2 := h2.frozen
    obtain ⟨m, hm⟩ : ∃ m, m = pre.length := ⟨_, rfl⟩
    have HM : Hid (m = pre.length) := hm
    rw [← hm] at c2 h2 h5 hlt
    have e1 := h1.other (show w.heap.size + 1 ≠ w.heap.size + 1 + 1 by omega) (.int .i64 ((m : Int) + 1))
    have e2 := h2.set (.int .i64 ((m : Int) + 1))
    have e3 := h3.other (show w.heap.size + 1 + 1 + 1 ≠ w.heap.size + 1 + 1 by omega) (.int .i64 ((m : Int) + 1))
    have kp1 : Kp (fun k => k < w.heap.size + 1 ∨ k = A.heap.size + 2 ∨ k = A.heap.size + 3) W (W.setCell ⟨w.heap.size + 1 + 1, 0, none⟩ (.int .i64 ((m : Int) + 1))) := Kp.set _ (by simp; omega)
    have n1 : Node (W.setCell ⟨w.heap.size + 1 + 1, 0, none⟩ (.int .i64 ((m : Int) + 1))) b o y := hn.kept kp1 (.inl hb)
    have x1 : IsX (W.setCell ⟨w.heap.size + 1 + 1, 0, none⟩ (.int .i64 ((m : Int) + 1))) y := (hx.kept (kp1.mono fun k hk => .inl hk)).is
    have b1 : Below w.heap.size w (W.setCell ⟨w.heap.size + 1 + 1, 0, none⟩ (.int .i64 ((m : Int) + 1))) := h6.setCell (p := ⟨w.heap.size + 1 + 1, 0, none⟩) (by simp; omega) _
    have k1 : KeepsOthers W (W.setCell ⟨w.heap.size + 1 + 1, 0, none⟩ (.int .i64 ((m : Int) + 1))) := KeepsOthers.setCell _ _ _
    have g1 := e1.cell
    have g2 := e2.cell
    have i1 := e1.frozen
    by_cases hm100 : 100 < m + 1
    · have hm' : (100 : Int) < (m : Int) + 1 := by omega
      clear hm
      gi_wp2
      exact ⟨(k1.trans (KeepsOthers.setCell _ _ _)).from _, rfl, by omega, e1.set _, b1.setCell (p := ⟨w.heap.size + 1, 0, none⟩) (by simp) _⟩
    · have hm' : ¬ (100 : Int) < (m : Int) + 1 := by omega
      have hr := rightX_any b o y _ n1 x1
      have hl1 : (pre ++ [(d, y)]).length = m + 1 := by simp [hm]
      clear hm
      gi_wp2_with (refine ⟨trivial, hdd _, ?_⟩; gi_at_call 89; refine (CallsIn.inRound l (callsIn_wide.2 hr)).mono ?_; rintro e w2 ⟨r, rfl, hrr, hB2⟩; have q3 := Boxed.kept_of e3 hB2 (Boxed.lt e3); have gq3 := q3.cell; have fq3 := q3.frozen; have HRR : Hid (r = true ↔ NodeR y) := hrr; clear hrr; cases r)
      · have hno : ¬ NodeR y := fun h => by have := HRR.out.2 h; cases this
        refine ⟨((k1.trans ⟨hB2.size, fun k o ho _ => (hB2.block k (Array.getElem?_eq_some_iff.1 ho).1).trans ho⟩).trans (KeepsOthers.setCell _ _ _)).from _, ?_, ?_, ?_, ⟨1, q3.set _, SaidAt.no hno⟩, by rw [hl1]; omega, ?_⟩
        · exact (kp1.trans (fun k o _ _ ho => (hB2.block k (Array.getElem?_eq_some_iff.1 ho).1).trans ho)).trans (Kp.set _ (by simp; omega))
        · exact (Boxed.kept_of e1 hB2 (Boxed.lt e1)).other (by omega) _
        · rw [hl1]; exact (Boxed.kept_of e2 hB2 (Boxed.lt e2)).other (by omega) _
        · exact (b1.trans (hB2.mono b1.size)).setCell (p := ⟨w.heap.size + 1 + 1 + 1, 0, none⟩) (by simp; omega) _
      · have hyes : NodeR y := HRR.out.1 (by first | rfl | trivial)
        refine ⟨(k1.trans ⟨hB2.size, fun k o ho _ => (hB2.block k (Array.getElem?_eq_some_iff.1 ho).1).trans ho⟩).from _, ?_, ?_, ?_, ⟨sd, q3, h4.yes hyes⟩, by rw [hl1]; omega, ?_⟩
        · exact kp1.trans (fun k o _ _ ho => (hB2.block k (Array.getElem?_eq_some_iff.1 ho).1).trans ho)
        · exact Boxed.kept_of e1 hB2 (Boxed.lt e1)
        · rw [hl1]; exact Boxed.kept_of e2 hB2 (Boxed.lt e2)
        · exact b1.trans (hB2.mono b1.size)
  · rintro D W hD ⟨h1, h2, ⟨sd, h3, h4⟩, h5, h6⟩ hK
    rw [length_vis] at h5
    have c1 := h1.cell
    have f1 := h1.frozen
    have c3 := h3.cell
    have hK' : (W.setCell ⟨w.heap.size + 1, 0, none⟩ (.int .i64 sd)).heap[D]? = some (.deferred (some [])) := (KeepsOthers.setCell _ _ _).same D _ hK rfl
    have hc5 := cell_kept (h1.set (.int .i64 sd)).cell (grownBy_putObj' _ D (.deferred none)) (fun r e => by cases e; exact ⟨_, hK', rfl⟩)
    gi_wp2
    refine ⟨by simp, .inl ⟨_, _, rfl, run_takeDeferred hK', ?_⟩⟩
    refine ⟨.int .i64 sd, ?_, sd, rfl, ?_, (h6.setCell (p := ⟨w.heap.size + 1, 0, none⟩) (by simp) _).trans (belowK_b (w := w) (Nat.le_refl _) _ D _ _ (by omega) hK' rfl rfl)⟩
    · simp [results, Tryz.f66, go_sem, hc5]
    · rcases h4 with ⟨e, h⟩ | ⟨e, h⟩
      · exact .inr (.inl ⟨h5, (treeR_vis x 1).2 h, e⟩)
      · exact .inr (.inr ⟨h5, fun t => h ((treeR_vis x 1).1 t), e⟩)
  · rintro D c W hD ⟨rfl, h0, h1, h2⟩ hK
    have hc5 := cell_kept h1.cell (grownBy_putObj' _ D (.deferred none)) (fun r e => by cases e; exact ⟨_, hK, rfl⟩)
    gi_wp2
    refine ⟨by simp, .inl ⟨_, _, rfl, run_takeDeferred hK, ?_⟩⟩
    refine ⟨.int .i64 2, ?_, 2, rfl, .inl ⟨h0, rfl⟩, h2.trans (belowK_b (w := w) (Nat.le_refl _) _ D _ _ (by omega) hK rfl rfl)⟩
    simp [results, Tryz.f66, go_sem, hc5]
theorem checkX_any (x : X) (w : World) (hX : IsX w x) : Calls Tryz.prog 66 #[x.val] w fun e w' => ∃ r : Int, e = .returned (.int .i64 r) ∧ ChkX x r ∧ Below w.heap.size w w' :=
  (callsIn_wide (n := 3)).1 (check_in 3 x w hX)
end Go.Proofs.YtfnfegcjgnbgbaaGreatDoor
namespace Go.Proofs.YtfnfegcjgnbgbaaGreatDoor
open Go.RowKit

/-- The same node with its parts elsewhere. -/
abbrev X.at (v : X) (a : Option Addr) (cap : Nat) (c : Nat → X) : X := .mk v.k v.v v.s v.f a v.n cap c
theorem Node.at {w : World} {b o : Nat} {v : X} {a : Option Addr} {cap : Nat} {c c' : Nat → X} (h : Node w b o (v.at a cap c)) : Node w b o (v.at a cap c') := h
end Go.Proofs.YtfnfegcjgnbgbaaGreatDoor
