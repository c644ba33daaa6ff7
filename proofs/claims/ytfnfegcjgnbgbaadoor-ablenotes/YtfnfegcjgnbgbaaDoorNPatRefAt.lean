/-
  The document's At of patterns.
-/
import Derived.Test.YtfnfegcjgnbgbaaDoorNBrief
import Derived.Test.YtfnfegcjgnbgbaaDoorNPatFresh
import Derived.Deep.RegionWith
import Derived.Deep.DeepCutAuto
namespace Go.Proofs.YtfnfegcjgnbgbaaDoor
open Go.RowKit

theorem boxP_three (x : Pt) (w : World) : ∃ A, ((w.alloc (.cells x.cells 24)).alloc (.cells zeroP 24)).alloc (.cells x.cells 24) = A ∧ Below w.heap.size w A ∧ A.heap.size = w.heap.size + 3 ∧ A.heap[w.heap.size + 1]? = some (.cells zeroP 24 (0, 0)) ∧ A.heap[w.heap.size + 2]? = some (.cells x.cells 24 (0, 0)) := by
  refine ⟨_, rfl, (((Below.refl _ w).alloc (Nat.le_refl _) _).alloc (by simp) _).alloc (by simp; omega) _, by simp, ?_, ?_⟩
  · rw [alloc_old (by simp)]
    exact alloc2_new _ _ _
  · have := alloc_new ((w.alloc (.cells x.cells 24)).alloc (.cells zeroP 24)) (.cells x.cells 24)
    rw [World.size_alloc, World.size_alloc] at this
    exact this
/-- The six cells of a box that may be written. -/
theorem box_cells {w : World} {B : Nat} {z : Pt} (h : w.heap[B]? = some (.cells z.cells 24 (0, 0))) : (w.cell? ⟨B, 0, none⟩ = some (.int .i64 z.k) ∧ w.cell? ⟨B, 1, none⟩ = some (.string z.s) ∧ w.cell? ⟨B, 2, none⟩ = some (.string z.t) ∧ w.cell? ⟨B, 3, none⟩ = some (.int .i64 z.lo) ∧ w.cell? ⟨B, 4, none⟩ = some (.int .i64 z.hi) ∧ w.cell? ⟨B, 5, none⟩ = some (.slice z.a z.n z.cap)) ∧
    w.frozen? ⟨B, 0, none⟩ = false ∧ w.frozen? ⟨B, 1, none⟩ = false ∧ w.frozen? ⟨B, 2, none⟩ = false ∧ w.frozen? ⟨B, 3, none⟩ = false ∧ w.frozen? ⟨B, 4, none⟩ = false ∧ w.frozen? ⟨B, 5, none⟩ = false := by
  refine ⟨nodeP_box h |>.at0, ?_, ?_, ?_, ?_, ?_, ?_⟩ <;> exact FreeP.frozen ⟨_, h⟩ _
/-- How far the document's At has come. -/
def AtR (x : Pt) (Z : Nat → Int) (m : Nat) (w A : World) (v : Value) (wr : World) : Prop :=
  ∃ (k : Nat) (z : Pt), k ≤ m ∧ v = .int .i64 k ∧ Hid (atK x Z k = some z) ∧ Hid (wr.heap[w.heap.size + 2]? = some (.cells z.cells 24 (0, 0))) ∧ Hid (IsP w z) ∧ Hid (Below (w.heap.size + 2) A wr)
set_option maxRecDepth 100000 in
set_option maxHeartbeats 4000000 in
theorem refAt_yes (x y : Pt) (a : Option Addr) (m cap : Nat) (Z : Nat → Int) (w : World) (hX : IsP w x) (hZ : Ints .i64 w a m Z) (hm : m ≤ 9223372036854775807) (hy : atK x Z m = some y) :
    Calls Tryd.prog 21 #[x.val, .slice a m cap] w fun e w' => e = .returned (.tuple #[y.val, .bool true]) ∧ IsP w y ∧ Below w.heap.size w w' := by
  obtain ⟨A, hA, hB, hs, hr, hx⟩ := boxP_three x w
  have HB : Hid (Below w.heap.size w A) := hB
  have HX0 : Hid (A.heap[w.heap.size + 2]? = some (.cells x.cells 24 (0, 0))) := hx
  have HX : Hid (IsP w x) := hX
  have HR : Hid (A.heap[w.heap.size + 1]? = some (.cells zeroP 24 (0, 0))) := hr
  have HZ : Hid (Ints .i64 w a m Z) := hZ
  have HY : Hid (atK x Z m = some y) := hy
  clear hB hX hr hZ hy hs hx
  go_enter Tryd.func21, Tryd.ntmps21
  go_wp2
  go_loopw [7] (AtR x Z m w A) (fun v _ => m - (intOf v).toNat)
  case atStart => exact ⟨0, x, Nat.zero_le _, rfl, rfl, HX0, HX, Below.refl _ _⟩
  case round =>
    obtain ⟨k, z, hk, rfl, HK, HW, HXZ, HA⟩ := hrel
    have hw : Below w.heap.size w wr := HB.out.trans (HA.out.mono (by omega))
    by_cases hkm : k < m
    · obtain ⟨b1, o1, rfl, hc⟩ := HZ.out (by omega)
      have ck := cell_later (hc k hkm).1 hw
      have hin : 0 ≤ Z k ∧ Z k < z.n := Classical.byContradiction fun h => by
        have := atK_none (atK_no HK.out h) m hkm
        rw [HY.out] at this
        cases this
      obtain ⟨i, hi⟩ : ∃ i : Nat, Z k = i := ⟨(Z k).toNat, by omega⟩
      rw [hi] at ck hin
      have hin2 : i < z.n := by omega
      have HK1 : Hid (atK x Z (k + 1) = some (z.c i)) := atK_yes HK.out hi hin2
      obtain ⟨⟨g0, g1, g2, g3, g4, g5⟩, f0, f1, f2, f3, f4, f5⟩ := box_cells HW.out
      obtain ⟨b2, o2, ea, hn2, -⟩ := (HXZ.out.later hw).part hin2
      have hlt : b2 < w.heap.size := by obtain ⟨b', o', ea', hn', _⟩ := HXZ.out.part hin2; rw [ea] at ea'; cases ea'; exact hn'.lt
      obtain ⟨_, _, _, _, hx2⟩ := HXZ.out.part hin2
      have hzl := HXZ.out.len
      rw [ea] at g5
      obtain ⟨d0, d1, d2, d3, d4, d5⟩ := hn2
      have HX2 : Hid (IsP w (z.c i)) := hx2
      have HKM : Hid (k < m) := hkm
      have CK : Hid (wr.cell? ⟨b1, o1 + k, none⟩ = some (.int .i64 i)) := ck
      have C5 : Hid (wr.cell? ⟨w.heap.size + 2, 5, none⟩ = some (.slice (some ⟨b2, o2, none⟩) z.n z.cap)) := g5
      have CN : Hid (NodeP wr b2 (o2 + i * 6) (z.c i)) := ⟨d0, d1, d2, d3, d4, d5⟩
      have HL1 : Hid (b1 < w.heap.size) := World.block_lt_of_cell? w _ (hc k hkm).1
      clear hc hin hi ea hx2 hw d0 d1 d2 d3 d4 d5
      have hi0 : ¬ ((i : Nat) : Int) < 0 := by omega
      have hi1 : ¬ z.n ≤ i := by omega
      go_wp2
      go_quiet (fail)
      go_upto_region 7 with (fail)
      obtain ⟨V, hV⟩ : ∃ V, V = wr.drewN nq := ⟨_, rfl⟩
      have CV : Below wr.heap.size wr V := by rw [hV]; exact ⟨rfl, rfl, rfl, Nat.le_refl _, fun _ _ => rfl⟩
      rw [← hV]
      have hVs : V.heap.size = wr.heap.size := by rw [hV]; rfl
      have hlw : w.heap.size + 2 < wr.heap.size := (Array.getElem?_eq_some_iff.1 HW.out).1
      have HV : Hid (V.heap[w.heap.size + 2]? = some (.cells z.cells 24 (0, 0))) := (CV.block _ hlw).trans HW.out
      replace CK : Hid (V.cell? ⟨b1, o1 + k, none⟩ = some (.int .i64 i)) := cell_later CK.out CV
      replace C5 : Hid (V.cell? ⟨w.heap.size + 2, 5, none⟩ = some (.slice (some ⟨b2, o2, none⟩) z.n z.cap)) := cell_later C5.out CV
      replace CN : Hid (NodeP V b2 (o2 + i * 6) (z.c i)) := CN.out.later CV
      have hb1 := HL1.out
      clear hV g0 g1 g2 g3 g4 g5 f0 f1 f2 f3 f4 f5 ck
      refine wp_region_noPanic ?_
      refine wp_region_held_drew (S := fun w' => Below (w.heap.size + 2) V w') (by kernel_rfl) ((Below.refl _ _).drew) (fun hHeld => ?_)
      obtain ⟨d, hdw⟩ : ∃ d, d = V.drew := ⟨_, rfl⟩
      have hT : Below V.heap.size V d := by rw [hdw]; exact (Below.refl _ _).drew
      rw [← hdw] at hHeld ⊢
      clear hdw
      refine wpAnyH_take (i := 0) (oi := ⟨some 31, .fieldAddr 24 (.tmp 6) 5, 0, _, _, _⟩) (v := ?v0) rfl (by kernel_rfl) (by kernel_rfl) (by kernel_rfl) (fun _ _ _ h => h) (Or.inl ⟨by rfl, ?hy0⟩) hHeld ?rest0
      case hy0 => intro w9 hSw; go_simp; (try with_reducible rfl)
      try simp only [Act.put, s_put, s_0, s_1]
      refine wpAnyH_take (i := 2) (oi := ⟨some 33, .move (.tmp 1), 36, _, _, _⟩) (v := ?v2) rfl (by kernel_rfl) (by kernel_rfl) (by kernel_rfl) (fun _ _ _ h => h) (Or.inl ⟨by rfl, ?hy2⟩) hHeld ?rest2
      case hy2 => intro w9 hSw; go_simp; (try with_reducible rfl)
      try simp only [Act.put, s_put, s_0, s_1]
      refine wpAnyH_take (i := 3) (oi := ⟨some 34, .move (.tmp 7), 3, _, _, _⟩) (v := ?v3) rfl (by kernel_rfl) (by kernel_rfl) (by kernel_rfl) (fun _ _ _ h => h) (Or.inl ⟨by rfl, ?hy3⟩) hHeld ?rest3
      case hy3 => intro w9 hSw; go_simp; (try with_reducible rfl)
      try simp only [Act.put, s_put, s_0, s_1]
      refine wpAnyH_take (i := 4) (oi := ⟨some 35, .indexAddr 36 (.tmp 33) (.tmp 34), 0, _, _, _⟩) (v := ?v4) rfl (by kernel_rfl) (by kernel_rfl) (by kernel_rfl) (fun _ _ _ h => h) (Or.inl ⟨by rfl, ?hy4⟩) hHeld ?rest4
      case hy4 => intro w9 hSw; go_simp; (try with_reducible rfl)
      try simp only [Act.put, s_put, s_0, s_1]
      refine wpAnyH_take (i := 5) (oi := ⟨some 36, .load 3 (.tmp 35), 3, _, _, _⟩) (v := ?v5) rfl (by kernel_rfl) (by kernel_rfl) (by kernel_rfl) (fun _ _ _ h => h) (Or.inl ⟨by rfl, ?hy5⟩) hHeld ?rest5
      case hy5 => intro w9 hSw; have cc := (hSw.cell (p := ⟨b1, o1 + k, none⟩) (by simp; omega)).trans CK.out; go_simp; (try with_reducible rfl)
      try simp only [Act.put, s_put, s_0, s_1]
      refine wpAnyH_ready (rs := [1]) (by kernel_rfl) (by simp) ?_
      refine AllReadyH.cons (o := ⟨some 32, .load 22 (.tmp 31), 22, _, _, _⟩) rfl (fun K hK => ?_) AllReadyH.nil
      have cc := (hT.cell (p := ⟨w.heap.size + 2, 5, none⟩) (by simp; omega)).trans C5.out
      go_simp
      clear cc
      refine hK.out _ _ hHeld (fun _ => ?_)
      clear hK K
      try simp only [Act.put, s_put, s_0, s_1]
      refine wpAnyH_take (i := 6) (oi := ⟨some 37, .indexAddr 22 (.tmp 32) (.tmp 36), 0, _, _, _⟩) (v := ?v6) rfl (by kernel_rfl) (by kernel_rfl) (by kernel_rfl) (fun _ _ _ h => h) (Or.inl ⟨by rfl, ?hy6⟩) hHeld ?rest6
      case hy6 => intro w9 hSw; go_simp; (try with_reducible rfl)
      try simp only [Act.put, s_put, s_0, s_1]
      refine wpAnyH_take (i := 7) (oi := ⟨some 38, .load 24 (.tmp 37), 24, _, _, _⟩) (v := ?v7) rfl (by kernel_rfl) (by kernel_rfl) (by kernel_rfl) (fun _ _ _ h => h) (Or.inl ⟨by rfl, ?hy7⟩) hHeld ?rest7
      case hy7 => intro w9 hSw; obtain ⟨d0, d1, d2, d3, d4, d5⟩ := CN.out.below hSw (by omega); go_simp; (try with_reducible rfl)
      try simp only [Act.put, s_put, s_0, s_1]
      refine wpAnyH_ready (rs := [8]) (by kernel_rfl) (by simp) ?_
      refine AllReadyH.cons (o := ⟨none, Op.store 24 (Operand.tmp 6) (Operand.tmp 38), 0, _, _, _⟩) rfl (fun K hK => ?_) AllReadyH.nil
      obtain ⟨⟨g0, g1, g2, g3, g4, g5⟩, f0, f1, f2, f3, f4, f5⟩ := box_cells ((hT.block (w.heap.size + 2) (by omega)).trans HV.out)
      go_simp
      clear g0 g1 g2 g3 g4 g5 f0 f1 f2 f3 f4 f5
      refine hK.out _ _ (below_set6 hHeld (Nat.le_refl _)) (fun _ => ?_)
      clear hK K
      try simp only [Act.put, s_put, s_0, s_1]
      refine wpAnyH_done (by kernel_rfl) ?_ _
      refine NoPanic.normal ?_
      have HW2 : Hid ((set6 d (w.heap.size + 2) (z.c i)).heap[w.heap.size + 2]? = some (.cells (z.c i).cells 24 (0, 0))) := heap_set6 ((hT.block _ (by omega)).trans HV.out)
      have HA2 : Hid (Below (w.heap.size + 2) A (set6 d (w.heap.size + 2) (z.c i))) := below_set6 ((HA.out.trans (CV.mono (by omega))).trans hHeld) (Nat.le_refl _)
      go_wp2
      go_roundw
      case rel => exact ⟨k + 1, z.c i, HKM.out, by go_num, HK1, HW2, HX2, HA2⟩
      case measure => have := HKM.out; simp [intOf]; omega
    · obtain rfl : k = m := by omega
      have hzy : z = y := by have := HK.out.symm.trans HY.out; injection this
      subst hzy
      obtain ⟨⟨d0, d1, d2, d3, d4, d5⟩, -⟩ := box_cells HW.out
      have hr2 := (HA.out.block (w.heap.size + 1) (by omega)).trans HR.out
      obtain ⟨⟨g0, g1, g2, g3, g4, g5⟩, f0, f1, f2, f3, f4, f5⟩ := zero_cells hr2
      have hblk : (set6 wr (w.heap.size + 1) z).heap[w.heap.size + 1]? = some (.cells z.cells 24 (0, 0)) := heap_set6 (z := .nil) hr2
      have hbel : Below w.heap.size w (set6 wr (w.heap.size + 1) z) := below_set6 hw (by omega)
      go_wp2
      refine bodyPost_ret (results_row_tmp rfl _ _ (w.heap.size + 1) 24 _ (0, 0) _ rfl hblk Tryd.underlying24 rfl (by kernel_rfl)) rfl ?_
      exact ⟨rfl, HXZ.out, hbel⟩
end Go.Proofs.YtfnfegcjgnbgbaaDoor
