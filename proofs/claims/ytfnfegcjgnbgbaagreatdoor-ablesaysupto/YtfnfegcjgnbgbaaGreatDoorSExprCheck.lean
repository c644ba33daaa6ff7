/-
  expr.Check.
  Conditions that came in.
  Texts, lists of texts and lists of conditions that came in.
-/
import Derived.Test.YtfnfegcjgnbgbaaGreatDoorSExprRightPartsD
import Derived.Test.YtfnfegcjgnbgbaaGreatDoorSExprKinds
import Derived.Test.YtfnfegcjgnbgbaaGreatDoorSExprMath
import Derived.Test.YtfnfegcjgnbgbaaGreatDoorSArgsBase
import Derived.Test.YtfnfegcjgnbgbaaGreatDoorSTxt
import Derived.Deep.Strs
namespace Go.Proofs.YtfnfegcjgnbgbaaGreatDoor
open Go.RowKit Go.Shelf
attribute [local go_sem] Oper.semAt_some

theorem XT.is {T : Nat → Prop} {w : World} : ∀ {x : X}, XT T w x → IsX w x := by
  refine @(X.ind fun x ih hx => ?_)
  rw [xT_eq] at hx
  rw [isX_eq]
  refine ⟨hx.1, hx.2.1, fun i hi => ?_⟩
  obtain ⟨b, o, e, hb, hn, hc⟩ := hx.2.2 i hi
  exact ⟨b, o, e, hn, ih i hi hc⟩
/-- What Check answers. -/
def ChkX (x : X) (r : Int) : Prop := (100 < x.size ∧ r = 2) ∨ (x.size ≤ 100 ∧ TreeR x ∧ r = 0) ∨ (x.size ≤ 100 ∧ ¬ TreeR x ∧ r = 1)
/-- How far Check has come. -/
def SaidAt (pre : List (Int × X)) (sd : Int) : Prop := (sd = 0 ∧ ∀ v ∈ pre, NodeR v.2) ∨ (sd = 1 ∧ ¬ ∀ v ∈ pre, NodeR v.2)
theorem SaidAt.yes {pre : List (Int × X)} {sd : Int} {v : Int × X} (h : SaidAt pre sd) (hv : NodeR v.2) : SaidAt (pre ++ [v]) sd := by
  rcases h with ⟨h1, h2⟩ | ⟨h1, h2⟩
  · refine .inl ⟨h1, fun u hu => ?_⟩
    rcases List.mem_append.1 hu with hu | hu
    · exact h2 u hu
    · rw [List.mem_singleton] at hu; rw [hu]; exact hv
  · exact .inr ⟨h1, fun h => h2 fun u hu => h u (List.mem_append_left _ hu)⟩
theorem SaidAt.no {pre : List (Int × X)} {v : Int × X} (hv : ¬ NodeR v.2) : SaidAt (pre ++ [v]) 1 := .inr ⟨rfl, fun h => hv (h v (by simp))⟩
set_option maxRecDepth 100000 in
set_option maxHeartbeats 4000000 in
theorem check_in (n : Nat) (x : X) (w : World) (hX : IsX w x) :
    CallsIn Fence.wide n Tryz.prog 66 #[x.val] w fun e w' => ∃ r : Int, e = .returned (.int .i64 r) ∧ ChkX x r ∧ Below w.heap.size w w' := by
  have hdd : ∀ k : Nat, (Fence.wide.depth.isSome = true → 1 ≤ k) := fun k h => by cases h
  refine callsIn_of_wp_marks Tryz.func66 rfl trivial ?_ rfl
  simp only [Tryz.ntmps66, List.size_toArray, List.length_cons, List.length_nil, Nat.reduceAdd, Nat.reduceSub, Array.replicate_succ, Array.replicate_zero, List.push_toArray, List.append_toArray, List.nil_append, List.cons_append]
  gi_wp2_with (refine ⟨trivial, hdd _, ?_⟩; gi_at_call 88; refine (nodes_in _ _ _).mono ?_; rintro e w' ⟨rfl, rfl⟩)
  obtain ⟨A, hA⟩ : ∃ A, (((((w.alloc (.cells x.cells 51)).alloc (.cells #[.int .i64 0] 32)).alloc (.cells #[.int .i64 0] 3)).alloc (.cells #[.int .i64 0] 32)).alloc (.cells #[.pointer (some ⟨w.heap.size, 0, none⟩)] 123)) = A := ⟨_, rfl⟩
  have hsz : A.heap.size = w.heap.size + 5 := by rw [← hA]; simp
  have hB : Below w.heap.size w A := by rw [← hA]; exact (((((Below.refl _ w).alloc (Nat.le_refl _) _).alloc (by simp) _).alloc (by first | (simp; done) | (simp; omega)) _).alloc (by first | (simp; done) | (simp; omega)) _).alloc (by first | (simp; done) | (simp; omega)) _
  have hnode : Node A w.heap.size 0 x := by
    rw [← hA]
    exact (node_new w 51 x).later (((((Below.refl _ _).alloc (Nat.le_refl _) _).alloc (by simp) _).alloc (by first | (simp; done) | (simp; omega)) _).alloc (by first | (simp; done) | (simp; omega)) _)
  have hb1 : Boxed A (w.heap.size + 1) 32 (.int .i64 0) := by
    have := (((Boxed.new (w.alloc (.cells x.cells 51)) 32 (.int .i64 0)).alloc (.cells #[.int .i64 0] 3)).alloc (.cells #[.int .i64 0] 32)).alloc (.cells #[.pointer (some ⟨w.heap.size, 0, none⟩)] 123)
    rw [World.size_alloc, hA] at this
    exact this
  have hb2 : Boxed A (w.heap.size + 1 + 1) 3 (.int .i64 0) := by
    have := ((Boxed.new ((w.alloc (.cells x.cells 51)).alloc (.cells #[.int .i64 0] 32)) 3 (.int .i64 0)).alloc (.cells #[.int .i64 0] 32)).alloc (.cells #[.pointer (some ⟨w.heap.size, 0, none⟩)] 123)
    rw [World.size_alloc, World.size_alloc, hA] at this
    exact this
  have hb3 : Boxed A (w.heap.size + 1 + 1 + 1) 32 (.int .i64 0) := by
    have := (Boxed.new (((w.alloc (.cells x.cells 51)).alloc (.cells #[.int .i64 0] 32)).alloc (.cells #[.int .i64 0] 3)) 32 (.int .i64 0)).alloc (.cells #[.pointer (some ⟨w.heap.size, 0, none⟩)] 123)
    rw [World.size_alloc, World.size_alloc, World.size_alloc, hA] at this
    exact this
  have hbp : Boxed A (w.heap.size + 1 + 1 + 1 + 1) 123 (.pointer (some ⟨w.heap.size, 0, none⟩)) := by
    have := Boxed.new ((((w.alloc (.cells x.cells 51)).alloc (.cells #[.int .i64 0] 32)).alloc (.cells #[.int .i64 0] 3)).alloc (.cells #[.int .i64 0] 32)) 123 (.pointer (some ⟨w.heap.size, 0, none⟩))
    rw [World.size_alloc, World.size_alloc, World.size_alloc, World.size_alloc, hA] at this
    exact this
  rw [hA]
  refine nodes_fold (w.heap.size + 1 + 1 + 1 + 1) w.heap.size 0 x (fun k => k < w.heap.size + 1)
    (fun pre W => Boxed W (w.heap.size + 1) 32 (.int .i64 0) ∧ Boxed W (w.heap.size + 1 + 1) 3 (.int .i64 (pre.length : Int)) ∧ (∃ sd, Boxed W (w.heap.size + 1 + 1 + 1) 32 (.int .i64 sd) ∧ SaidAt pre sd) ∧ pre.length ≤ 100 ∧ Below w.heap.size w W)
    (fun c W => c = .ret ∧ 100 < x.size ∧ Boxed W (w.heap.size + 1) 32 (.int .i64 2) ∧ Below w.heap.size w W)
    rfl rfl hbp.cell (fun k hk => by omega) (by omega) hnode (XIn.xt (n := w.heap.size) (fun k hk => by omega) (hX.inn.below hB)) ?_ ?_ ?_ ?_
    (fun d b o => { tmps := #[x.val, .pointer (some ⟨w.heap.size, 0, none⟩), .pointer (some ⟨w.heap.size + 1, 0, none⟩), .pointer (some ⟨w.heap.size + 1 + 1, 0, none⟩), .pointer (some ⟨w.heap.size + 1 + 1 + 1, 0, none⟩), undef, .pointer (some ⟨b, o, none⟩), .func (.func 100) #[] #[.pointer (some ⟨w.heap.size + 1 + 1 + 1 + 1, 0, none⟩)], .int .i64 d, .pointer (some ⟨b, o, none⟩), undef, undef, undef, undef, undef, undef, undef, undef], defers := [] }) ?_ ?_ ?_ ?_
  · rintro pre W B hag ⟨h1, h2, ⟨sd, h3, h4⟩, h5, h6⟩
    exact ⟨hag.boxed h1, hag.boxed h2, ⟨sd, hag.boxed h3, h4⟩, h5, hag.below (by omega) h6⟩
  · exact fun pre W h => ⟨h.1, h.2.1, h.2.2.1, h.2.2.2.1, h.2.2.2.2.drew⟩
  · exact fun W h => ⟨Boxed.kept_of hb1 h (by omega), Boxed.kept_of hb2 h (by omega), ⟨0, Boxed.kept_of hb3 h (by omega), .inl ⟨rfl, by simp⟩⟩, by simp, hB.trans (h.mono (by omega))⟩
  · rintro c W B hag ⟨h1, h2, h3, h4⟩
    exact ⟨h1, h2, hag.boxed h3, hag.below (by omega) h4⟩
  · intro l d b o W K hK
    gi_wp2
    first | exact hK | simpa using hK
  · rintro l d b o y pre W hb hn hx ⟨h1, h2, ⟨sd, h3, h4⟩, h5, h6⟩ hs hlt
    rw [length_vis] at hlt
    have c2 := h2.cell
    have f2 := h2.frozen
    obtain ⟨m, hm⟩ : ∃ m, m = pre.length := ⟨_, rfl⟩
    have HM : Hid (m = pre.length) := hm
    rw [← hm] at c2 h2 h5 hlt
    have e1 := h1.other (show w.heap.size + 1 ≠ w.heap.size + 1 + 1 by omega) (.int .i64 ((m : Int) + 1))
    have e2 := h2.set (.int .i64 ((m : Int) + 1))
    have e3 := h3.other (show w.heap.size + 1 + 1 + 1 ≠ w.heap.size + 1 + 1 by omega) (.int .i64 ((m : Int) + 1))
    have kp1 : Kp (fun k => k < w.heap.size + 1 ∨ k = A.heap.size + 2 ∨ k = A.heap.size + 3) W (W.setCell ⟨w.heap.size + 1 + 1, 0, none⟩ (.int .i64 ((m : Int) + 1))) := Kp.set _ (by simp; omega)
    have n1 : Node (W.setCell ⟨w.heap.size + 1 + 1, 0, none⟩ (.int .i64 ((m : Int) + 1))) b o y := hn.kept kp1 (.inl hb)
    have x1 : IsX (W.setCell ⟨w.heap.size + 1 + 1, 0, none⟩ (.int .i64 ((m : Int) + 1))) y := (hx.kept (kp1.mono fun k hk => .inl hk)).is
    have b1 : Below w.heap.size w (W.setCell ⟨w.heap.size + 1 + 1, 0, none⟩ (.int .i64 ((m : Int) + 1))) := h6.setCell (p := ⟨w.heap.size + 1 + 1, 0, none⟩) (by simp; omega) _
    have k1 : KeepsOthers W (W.setCell ⟨w.heap.size + 1 + 1, 0, none⟩ (.int .i64 ((m : Int) + 1))) := KeepsOthers.setCell _ _ _
    have g1 := e1.cell
    have g2 := e2.cell
    have i1 := e1.frozen
    by_cases hm100 : 100 < m + 1
    · have hm' : (100 : Int) < (m : Int) + 1 := by omega
      clear hm
      gi_wp2
      exact ⟨(k1.trans (KeepsOthers.setCell _ _ _)).from _, rfl, by omega, e1.set _, b1.setCell (p := ⟨w.heap.size + 1, 0, none⟩) (by simp) _⟩
    · have hm' : ¬ (100 : Int) < (m : Int) + 1 := by omega
      have hr := rightX_any b o y _ n1 x1
      have hl1 : (pre ++ [(d, y)]).length = m + 1 := by simp [hm]
      clear hm
      gi_wp2_with (refine ⟨trivial, hdd _, ?_⟩; gi_at_call 89; refine (CallsIn.inRound l (callsIn_wide.2 hr)).mono ?_; rintro e w2 ⟨r, rfl, hrr, hB2⟩; have q3 := Boxed.kept_of e3 hB2 (Boxed.lt e3); have gq3 := q3.cell; have fq3 := q3.frozen; have HRR : Hid (r = true ↔ NodeR y) := hrr; clear hrr; cases r)
      · have hno : ¬ NodeR y := fun h => by have := HRR.out.2 h; cases this
        refine ⟨((k1.trans ⟨hB2.size, fun k o ho _ => (hB2.block k (Array.getElem?_eq_some_iff.1 ho).1).trans ho⟩).trans (KeepsOthers.setCell _ _ _)).from _, ?_, ?_, ?_, ⟨1, q3.set _, SaidAt.no hno⟩, by rw [hl1]; omega, ?_⟩
        · exact (kp1.trans (fun k o _ _ ho => (hB2.block k (Array.getElem?_eq_some_iff.1 ho).1).trans ho)).trans (Kp.set _ (by simp; omega))
        · exact (Boxed.kept_of e1 hB2 (Boxed.lt e1)).other (by omega) _
        · rw [hl1]; exact (Boxed.kept_of e2 hB2 (Boxed.lt e2)).other (by omega) _
        · exact (b1.trans (hB2.mono b1.size)).setCell (p := ⟨w.heap.size + 1 + 1 + 1, 0, none⟩) (by simp; omega) _
      · have hyes : NodeR y := HRR.out.1 (by first | rfl | trivial)
        refine ⟨(k1.trans ⟨hB2.size, fun k o ho _ => (hB2.block k (Array.getElem?_eq_some_iff.1 ho).1).trans ho⟩).from _, ?_, ?_, ?_, ⟨sd, q3, h4.yes hyes⟩, by rw [hl1]; omega, ?_⟩
        · exact kp1.trans (fun k o _ _ ho => (hB2.block k (Array.getElem?_eq_some_iff.1 ho).1).trans ho)
        · exact Boxed.kept_of e1 hB2 (Boxed.lt e1)
        · rw [hl1]; exact Boxed.kept_of e2 hB2 (Boxed.lt e2)
        · exact b1.trans (hB2.mono b1.size)
  · rintro D W hD ⟨h1, h2, ⟨sd, h3, h4⟩, h5, h6⟩ hK
    rw [length_vis] at h5
    have c1 := h1.cell
    have f1 := h1.frozen
    have c3 := h3.cell
    have hK' : (W.setCell ⟨w.heap.size + 1, 0, none⟩ (.int .i64 sd)).heap[D]? = some (.deferred (some [])) := (KeepsOthers.setCell _ _ _).same D _ hK rfl
    have hc5 := cell_kept (h1.set (.int .i64 sd)).cell (grownBy_putObj' _ D (.deferred none)) (fun r e => by cases e; exact ⟨_, hK', rfl⟩)
    gi_wp2
    refine ⟨by simp, .inl ⟨_, _, rfl, run_takeDeferred hK', ?_⟩⟩
    refine ⟨.int .i64 sd, ?_, sd, rfl, ?_, (h6.setCell (p := ⟨w.heap.size + 1, 0, none⟩) (by simp) _).trans (belowK_b (w := w) (Nat.le_refl _) _ D _ _ (by omega) hK' rfl rfl)⟩
    · simp [results, Tryz.f66, go_sem, hc5]
    · rcases h4 with ⟨e, h⟩ | ⟨e, h⟩
      · exact .inr (.inl ⟨h5, (treeR_vis x 1).2 h, e⟩)
      · exact .inr (.inr ⟨h5, fun t => h ((treeR_vis x 1).1 t), e⟩)
  · rintro D c W hD ⟨rfl, h0, h1, h2⟩ hK
    have hc5 := cell_kept h1.cell (grownBy_putObj' _ D (.deferred none)) (fun r e => by cases e; exact ⟨_, hK, rfl⟩)
    gi_wp2
    refine ⟨by simp, .inl ⟨_, _, rfl, run_takeDeferred hK, ?_⟩⟩
    refine ⟨.int .i64 2, ?_, 2, rfl, .inl ⟨h0, rfl⟩, h2.trans (belowK_b (w := w) (Nat.le_refl _) _ D _ _ (by omega) hK rfl rfl)⟩
    simp [results, Tryz.f66, go_sem, hc5]
theorem checkX_any (x : X) (w : World) (hX : IsX w x) : Calls Tryz.prog 66 #[x.val] w fun e w' => ∃ r : Int, e = .returned (.int .i64 r) ∧ ChkX x r ∧ Below w.heap.size w w' :=
  (callsIn_wide (n := 3)).1 (check_in 3 x w hX)
end Go.Proofs.YtfnfegcjgnbgbaaGreatDoor
namespace Go.Proofs.YtfnfegcjgnbgbaaGreatDoor
open Go.RowKit Go.ChangeShapes Go.WideShapes

section
variable {H : Type} {enc : TypeId × Value → H} {w : World} {base : Nat} {spare : Nat → Bool} {held : Bool}
theorem expr_under : ∃ f0 f1 f2 f3 f4 : Field, Tryz.prog.underlying 51 = some (.struct #[f0, f1, f2, f3, f4]) ∧ f0.offset = 0 ∧ f1.offset = 1 ∧ f2.offset = 4 ∧ f3.offset = 5 ∧ f4.offset = 6 ∧ f0.type = 3 ∧ f1.type = 49 ∧ f2.type = 9 ∧ f3.type = 9 ∧ f4.type = 25 := ⟨_, _, _, _, _, Tryz.underlying51, rfl, rfl, rfl, rfl, rfl, rfl, rfl, rfl, rfl, rfl⟩
theorem cells_x : Tryz.prog.cellsOf 51 = 7 := by kernel_rfl
theorem cells_xl : Tryz.prog.cellsOf 25 = 1 := by kernel_rfl
set_option maxRecDepth 100000 in
/-- A condition's cells, read: as a tree, of no more nodes than the reading's bulk. -/
theorem trod_x : ∀ (m fuel : Nat) (cs : List Value) (x : DataW H × List MemPlace), DataW.trod enc Tryz.prog w base spare held fuel 51 cs = some x → Rows.uptoBulk x.1 ≤ m →
    ∃ q : X, cs = [.int .i64 q.k, .int .i64 q.v.k, .int .i64 q.v.n, .string q.v.s, .string q.s, .string q.f, .slice q.a q.n q.cap] ∧ IsX w q ∧ q.size ≤ Rows.uptoBulk x.1 ∧ XOk q := by
  intro m
  induction m with
  | zero =>
    intro fuel cs x h hm
    obtain ⟨f0, f1, f2, f3, f4, hu, -⟩ := expr_under
    obtain ⟨xs, n, rfl, rfl, -⟩ := DataW.trod_struct hu h
    simp [Rows.uptoBulk] at hm
  | succ m ih =>
    intro fuel cs x h hm
    obtain ⟨f0, f1, f2, f3, f4, hu, o0, o1, o2, o3, o4, t0, t1, t2, t3, t4⟩ := expr_under
    obtain ⟨xs, n, rfl, rfl, hl, hlen, hf⟩ := DataW.trod_struct hu h
    rw [cells_x] at hl
    match xs, hlen, cs, hl with
    | [y0, y1, y2, y3, y4], _, [c0, c1, c2, c3, c4, c5, c6], _ =>
      have hb : Rows.uptoBulk y4.1 + 1 ≤ Rows.uptoBulk (DataW.agg (H := H) ([y0, y1, y2, y3, y4].map (·.1))) := by
        simp only [List.map_cons, List.map_nil, Rows.uptoBulk, Rows.uptoBulkAll]
        omega
      dsimp only at hm ⊢
      clear h
      generalize Rows.uptoBulk (DataW.agg (H := H) ([y0, y1, y2, y3, y4].map (·.1))) = M at hb hm ⊢
      have g0 := hf 0 f0 rfl
      have g1 := hf 1 f1 rfl
      have g2 := hf 2 f2 rfl
      have g3 := hf 3 f3 rfl
      have g4 := hf 4 f4 rfl
      rw [o0, t0, cells_i] at g0
      rw [o1, t1, cells_v] at g1
      rw [o2, t2, cells_s] at g2
      rw [o3, t3, cells_s] at g3
      rw [o4, t4, cells_xl] at g4
      simp at g0 g1 g2 g3 g4
      obtain ⟨k, e0, rfl, w0⟩ := DataW.trod_int Tryz.underlying3 g0
      obtain ⟨v, e1⟩ := trod_val g1
      obtain ⟨s, e2, rfl, w2⟩ := DataW.trod_string Tryz.underlying9 g2
      obtain ⟨f, e3, rfl, w3⟩ := DataW.trod_string Tryz.underlying9 g3
      simp at e0 e1 e2 e3
      obtain ⟨e1, e1', e1''⟩ := e1
      subst e0 e1 e1' e1'' e2 e3
      rcases Deep.open_slice Tryz.underlying25 g4 with ⟨e4, _⟩ | ⟨a, len, cap, mm, nn, D, Pl, e4, _, hl4, hcm, hmm, rfl, hx⟩
      · simp at e4
        subst e4
        exact ⟨.mk k v s f none 0 0 (fun _ => .nil), rfl, ⟨by omega, by omega, fun i hi => by omega⟩, by simp only [X.size, sumN]; omega, w2, w3, fun i hi => by omega⟩
      · simp at e4
        subst e4
        have hlm : len ≤ mm := by rw [hmm]; split <;> omega
        have hB : sumN (fun i => Rows.uptoBulk (D i)) len + 1 ≤ Rows.uptoBulk (DataW.slice (H := H) ((List.range len).map D) ((List.range (mm - len)).map fun j => D (len + j))) := by
          simp only [Rows.uptoBulk, bulk_range]
          omega
        simp only at hb
        have each : ∀ i, i < len → ∃ q : X, w.cell? (a.add (i * 7)) = some (.int .i64 q.k) ∧ w.cell? (a.add (i * 7 + 1)) = some (.int .i64 q.v.k) ∧ w.cell? (a.add (i * 7 + 2)) = some (.int .i64 q.v.n) ∧ w.cell? (a.add (i * 7 + 3)) = some (.string q.v.s) ∧
            w.cell? (a.add (i * 7 + 4)) = some (.string q.s) ∧ w.cell? (a.add (i * 7 + 5)) = some (.string q.f) ∧ w.cell? (a.add (i * 7 + 6)) = some (.slice q.a q.n q.cap) ∧ IsX w q ∧ q.size ≤ Rows.uptoBulk (D i) ∧ XOk q := by
          intro i hi
          obtain ⟨cs', h1, h2⟩ := hx i (by omega)
          rw [cells_x] at h1
          obtain ⟨_, hlen, hcell⟩ := World.cells?_some h1
          have hle := sumN_le (f := fun i => Rows.uptoBulk (D i)) hi
          obtain ⟨q, rfl, hq, hqs, hqo⟩ := ih _ _ _ h2 (by simp only; omega)
          have d0 := hcell 0 (by omega)
          have d1 := hcell 1 (by omega)
          have d2 := hcell 2 (by omega)
          have d3 := hcell 3 (by omega)
          have d4 := hcell 4 (by omega)
          have d5 := hcell 5 (by omega)
          have d6 := hcell 6 (by omega)
          rw [Deep.add_add] at d0 d1 d2 d3 d4 d5 d6
          exact ⟨q, by simpa using d0, by simpa using d1, by simpa using d2, by simpa using d3, by simpa using d4, by simpa using d5, by simpa using d6, hq, hqs, hqo⟩
        have : Inhabited X := ⟨.nil⟩
        obtain ⟨q, hq⟩ := Deep.choose_lt each
        refine ⟨.mk k v s f (some a) len cap q, rfl, ⟨hl4, by unfold maxLen at hcm; omega, fun i hi => ?_⟩, ?_, w2, w3, fun i hi => (hq i hi).2.2.2.2.2.2.2.2.2⟩
        · obtain ⟨b, off, spot⟩ := a
          obtain ⟨d0, d1, d2, d3, d4, d5, d6, hi1, hi2, -⟩ := hq i hi
          have hspot : spot = none := by simpa [Addr.add] using World.cell?_spot (hq 0 (by omega)).1
          subst hspot
          rw [add_none] at d0 d1 d2 d3 d4 d5 d6
          refine ⟨b, off, rfl, ⟨?_, ?_, ?_, ?_, ?_, ?_, ?_⟩, hi1⟩
          · exact d0
          · rw [Nat.add_assoc]; exact d1
          · rw [Nat.add_assoc]; exact d2
          · rw [Nat.add_assoc]; exact d3
          · rw [Nat.add_assoc]; exact d4
          · rw [Nat.add_assoc]; exact d5
          · rw [Nat.add_assoc]; exact d6
        · have h1 := sumN_mono (f := fun i => (q i).size) (g := fun i => Rows.uptoBulk (D i)) (n := len) fun i hi => (hq i hi).2.2.2.2.2.2.2.2.1
          show 1 + sumN (fun i => (q i).size) len ≤ _
          omega
end
end Go.Proofs.YtfnfegcjgnbgbaaGreatDoor
namespace Go.Proofs.YtfnfegcjgnbgbaaGreatDoor
open Go.RowKit Go.ChangeShapes Go.WideShapes

section
variable {H : Type} {enc : TypeId × Value → H} {w : World} {base : Nat} {spare : Nat → Bool} {held : Bool}
/-- Conditions that came in: as the parts of one. -/
abbrev X.all (a : Option Addr) (n cap : Nat) (c : Nat → X) : X := .mk 0 val0 ⟨#[]⟩ ⟨#[]⟩ a n cap c
set_option maxRecDepth 100000 in
theorem open_xs {a : Option Addr} {len cap : Nat} {d : DataW H} {p : List MemPlace} (h : DataW.Trod enc Tryz.prog w base spare held 25 (.slice a len cap) d p) :
    ∃ c : Nat → X, IsX w (X.all a len cap c) ∧ (X.all a len cap c).size ≤ Rows.uptoBulk d + 1 ∧ XOk (X.all a len cap c) := by
  obtain ⟨fuel, hf⟩ := h
  rcases Deep.open_slice Tryz.underlying25 hf with ⟨e4, _⟩ | ⟨a', len', cap', mm, nn, D, Pl, e4, _, hl4, hcm, hmm, hdp, hx⟩
  · have e' : [Value.slice a len cap] = [.slice none 0 0] := e4
    injection e' with e' _
    injection e' with e1 e2 e3
    subst e1 e2 e3
    exact ⟨fun _ => .nil, ⟨by omega, by omega, fun i hi => by omega⟩, by simp [X.size, sumN], Nat.zero_le _, Nat.zero_le _, fun i hi => by omega⟩
  · cases hdp
    have e' : [Value.slice a len cap] = [.slice (some a') len' cap'] := e4
    injection e' with e' _
    injection e' with e1 e2 e3
    subst e1 e2 e3
    have hlm : len ≤ mm := by rw [hmm]; split <;> omega
    have each : ∀ i, i < len → ∃ q : X, w.cell? (a'.add (i * 7)) = some (.int .i64 q.k) ∧ w.cell? (a'.add (i * 7 + 1)) = some (.int .i64 q.v.k) ∧ w.cell? (a'.add (i * 7 + 2)) = some (.int .i64 q.v.n) ∧ w.cell? (a'.add (i * 7 + 3)) = some (.string q.v.s) ∧
        w.cell? (a'.add (i * 7 + 4)) = some (.string q.s) ∧ w.cell? (a'.add (i * 7 + 5)) = some (.string q.f) ∧ w.cell? (a'.add (i * 7 + 6)) = some (.slice q.a q.n q.cap) ∧ IsX w q ∧ q.size ≤ Rows.uptoBulk (D i) ∧ XOk q := by
      intro i hi
      obtain ⟨cs', h1, h2⟩ := hx i (by omega)
      rw [cells_x] at h1
      obtain ⟨_, hlen, hcell⟩ := World.cells?_some h1
      obtain ⟨q, rfl, hq, hqs, hqo⟩ := trod_x _ _ _ _ h2 (Nat.le_refl _)
      have d0 := hcell 0 (by omega)
      have d1 := hcell 1 (by omega)
      have d2 := hcell 2 (by omega)
      have d3 := hcell 3 (by omega)
      have d4 := hcell 4 (by omega)
      have d5 := hcell 5 (by omega)
      have d6 := hcell 6 (by omega)
      rw [Deep.add_add] at d0 d1 d2 d3 d4 d5 d6
      exact ⟨q, by simpa using d0, by simpa using d1, by simpa using d2, by simpa using d3, by simpa using d4, by simpa using d5, by simpa using d6, hq, hqs, hqo⟩
    have : Inhabited X := ⟨.nil⟩
    obtain ⟨q, hq⟩ := Deep.choose_lt each
    refine ⟨q, ⟨hl4, by unfold maxLen at hcm; omega, fun i hi => ?_⟩, ?_, Nat.zero_le _, Nat.zero_le _, fun i hi => (hq i hi).2.2.2.2.2.2.2.2.2⟩
    · obtain ⟨b, off, spot⟩ := a'
      obtain ⟨d0, d1, d2, d3, d4, d5, d6, hi1, hi2, -⟩ := hq i hi
      have hspot : spot = none := by simpa [Addr.add] using World.cell?_spot (hq 0 (by omega)).1
      subst hspot
      rw [add_none] at d0 d1 d2 d3 d4 d5 d6
      refine ⟨b, off, rfl, ⟨?_, ?_, ?_, ?_, ?_, ?_, ?_⟩, hi1⟩
      · exact d0
      · rw [Nat.add_assoc]; exact d1
      · rw [Nat.add_assoc]; exact d2
      · rw [Nat.add_assoc]; exact d3
      · rw [Nat.add_assoc]; exact d4
      · rw [Nat.add_assoc]; exact d5
      · rw [Nat.add_assoc]; exact d6
    · have h1 := sumN_mono (f := fun i => (q i).size) (g := fun i => Rows.uptoBulk (D i)) (n := len) fun i hi => (hq i hi).2.2.2.2.2.2.2.2.1
      show 1 + sumN (fun i => (q i).size) len ≤ _
      simp only [Rows.uptoBulk, bulk_range]
      omega
end
end Go.Proofs.YtfnfegcjgnbgbaaGreatDoor
