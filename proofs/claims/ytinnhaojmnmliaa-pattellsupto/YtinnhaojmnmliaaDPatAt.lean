/-
  pat.At and pat.Tail, and the document's.
  The document's At of patterns.
-/
import Derived.Test.YtinnhaojmnmliaaDPatFresh
import Derived.Laws.ResultCell
import Derived.Deep.RegionWith
import Derived.Deep.DeepCutAuto
namespace Go.Proofs.Ytinnhaojmnmliaa
open Go.RowKit

/-- The part that is reached by the first places of a way. -/
def atK (x : Pt) (Z : Nat → Int) : Nat → Option Pt
  | 0 => some x
  | k + 1 => match atK x Z k with
    | none => none
    | some y => if 0 ≤ Z k ∧ Z k < y.n then some (y.c (Z k).toNat) else none
theorem atK_yes {x y : Pt} {Z : Nat → Int} {k i : Nat} (h : atK x Z k = some y) (hi : Z k = i) (hn : i < y.n) : atK x Z (k + 1) = some (y.c i) := by
  simp only [atK, h]
  rw [if_pos ⟨by omega, by omega⟩, hi]
  rfl
theorem atK_no {x y : Pt} {Z : Nat → Int} {k : Nat} (h : atK x Z k = some y) (hn : ¬ (0 ≤ Z k ∧ Z k < y.n)) : atK x Z (k + 1) = none := by
  simp only [atK, h]
  rw [if_neg hn]
theorem atK_none {x : Pt} {Z : Nat → Int} {k : Nat} (h : atK x Z k = none) : ∀ m, k ≤ m → atK x Z m = none
  | 0, hm => by obtain rfl : k = 0 := by omega
                exact h
  | m + 1, hm => by
    by_cases e : k = m + 1
    · exact e ▸ h
    · simp only [atK, atK_none h m (by omega)]
/-- What is at the end of a way lies where parts lie, and is no greater. -/
theorem atK_part {x y : Pt} {Z : Nat → Int} : ∀ {k : Nat}, atK x Z k = some y → y.size ≤ x.size
  | 0, h => by simp only [atK] at h; cases h; exact Nat.le_refl _
  | k + 1, h => by
    simp only [atK] at h
    cases e : atK x Z k with
    | none => rw [e] at h; cases h
    | some z =>
      rw [e] at h
      simp only at h
      by_cases hc : 0 ≤ Z k ∧ Z k < z.n
      · rw [if_pos hc] at h
        cases h
        have := z.size_part (Z k).toNat (by omega)
        have := atK_part e
        omega
      · rw [if_neg hc] at h; cases h
theorem results_row_tmp {P : Program} {fn : Func} {p u : Tmp} {ty : TypeId} (h : fn.results = #[.cell p ty, .tmp u]) (tmps : Array Value) (w : World) (g : Nat) (t : TypeId) (cs : Array Value) (fr : Nat × Nat) (d : TypeDesc)
    (hp : tmps.getD p undef = .pointer (some ⟨g, 0, none⟩)) (hg : w.heap[g]? = some (.cells cs t fr))
    (hu : P.underlying ty = some d) (hd : (match d with | .struct _ | .array _ _ => true | _ => false) = true) (hi : (P.info? ty).map (·.size) = some cs.size) :
    (results fn tmps).run P w = .ok (.tuple #[.agg cs, tmps.getD u undef]) w := by
  rw [results_cell_tmp h, hp]
  simp [asAddr, run_loadVar_row w g t ty cs fr d hg hu hd hi]
/-- The zero pattern's cells. -/
abbrev zeroP : Array Value := #[.int .i64 0, .string ⟨#[]⟩, .string ⟨#[]⟩, .int .i64 0, .int .i64 0, .slice none 0 0]
theorem boxP_res (x : Pt) (w : World) : ∃ A, (w.alloc (.cells x.cells 24)).alloc (.cells zeroP 24) = A ∧ Below w.heap.size w A ∧ A.heap.size = w.heap.size + 2 ∧ NodeP A w.heap.size 0 x ∧ A.heap[w.heap.size + 1]? = some (.cells zeroP 24 (0, 0)) :=
  ⟨_, rfl, ((Below.refl _ w).alloc (Nat.le_refl _) _).alloc (by simp) _, by simp, (nodeP_new w _ x).later ((Below.refl _ _).alloc (Nat.le_refl _) _), alloc2_new _ _ _⟩
/-- The six cells of the box for the answer. -/
theorem zero_cells {w : World} {B : Nat} (h : w.heap[B]? = some (.cells zeroP 24 (0, 0))) : (w.cell? ⟨B, 0, none⟩ = some (.int .i64 0) ∧ w.cell? ⟨B, 1, none⟩ = some (.string ⟨#[]⟩) ∧ w.cell? ⟨B, 2, none⟩ = some (.string ⟨#[]⟩) ∧ w.cell? ⟨B, 3, none⟩ = some (.int .i64 0) ∧ w.cell? ⟨B, 4, none⟩ = some (.int .i64 0) ∧ w.cell? ⟨B, 5, none⟩ = some (.slice none 0 0)) ∧
    w.frozen? ⟨B, 0, none⟩ = false ∧ w.frozen? ⟨B, 1, none⟩ = false ∧ w.frozen? ⟨B, 2, none⟩ = false ∧ w.frozen? ⟨B, 3, none⟩ = false ∧ w.frozen? ⟨B, 4, none⟩ = false ∧ w.frozen? ⟨B, 5, none⟩ = false := by
  refine ⟨nodeP_box (x := .nil) h |>.at0, ?_, ?_, ?_, ?_, ?_, ?_⟩ <;> exact FreeP.frozen ⟨_, h⟩ _
set_option maxRecDepth 100000 in
set_option maxHeartbeats 4000000 in
theorem at_yes (x y : Pt) (a : Option Addr) (m cap : Nat) (Z : Nat → Int) (w : World) (hX : IsP w x) (hsm : x.size ≤ 1048576) (hZ : Ints .i64 w a m Z) (hm : m ≤ 9223372036854775807) (hy : atK x Z m = some y) :
    Calls Try.prog 9 #[x.val, .slice a m cap] w fun e w' => ∃ q : Pt, e = .returned (.tuple #[q.val, .bool true]) ∧ PA w' q ∧ Sm q y ∧ (∀ k, inP k q → w.heap.size ≤ k) ∧ Below w.heap.size w w' := by
  obtain ⟨A, hA, hB, hs, hn, hr⟩ := boxP_res x w
  have HB : Hid (Below w.heap.size w A) := hB
  have HN : Hid (NodeP A w.heap.size 0 x) := hn
  have HX : Hid (IsP A x) := hX.later hB
  have HR : Hid (A.heap[w.heap.size + 1]? = some (.cells zeroP 24 (0, 0))) := hr
  have HZ : Hid (Ints .i64 A a m Z) := fun h0 => by
    obtain ⟨b, o, e, hc⟩ := hZ h0
    exact ⟨b, o, e, fun j hj => ⟨cell_later (hc j hj).1 hB, (hc j hj).2⟩⟩
  have HY : Hid (atK x Z m = some y) := hy
  have HS : Hid (A.heap.size = w.heap.size + 2) := hs
  clear hB hn hX hr hZ hy
  go_enter Try.func9, Try.ntmps9
  go_wp2
  go_loopw [6, 11] (fun u v wr => ∃ (k b o : Nat) (z : Pt), k ≤ m ∧ u = .pointer (some ⟨b, o, none⟩) ∧ v = .int .i64 k ∧ Hid (atK x Z k = some z) ∧ Hid (NodeP A b o z) ∧ Hid (IsP A z) ∧ wr = A) (fun _ v _ => m - (intOf v).toNat)
  case atStart => exact ⟨0, _, _, x, Nat.zero_le _, rfl, rfl, rfl, HN, HX, rfl⟩
  case round =>
    obtain ⟨k, b, o, z, hk, rfl, rfl, HK, HNZ, HXZ, hwr⟩ := hrel
    subst hwr
    by_cases hkm : k < m
    · obtain ⟨b1, o1, rfl, hc⟩ := HZ.out (by omega)
      have ck := (hc k hkm).1
      have hin : 0 ≤ Z k ∧ Z k < z.n := Classical.byContradiction fun h => by
        have := atK_none (atK_no HK.out h) m hkm
        rw [HY.out] at this
        cases this
      obtain ⟨i, hi⟩ : ∃ i : Nat, Z k = i := ⟨(Z k).toNat, by omega⟩
      rw [hi] at ck hin
      have hin2 : i < z.n := by omega
      have HK1 : Hid (atK x Z (k + 1) = some (z.c i)) := atK_yes HK.out hi hin2
      obtain ⟨d0, d1, d2, d3, d4, d5⟩ := HNZ.out
      obtain ⟨b2, o2, ea, hn2, hx2⟩ := HXZ.out.part hin2
      have hzl := HXZ.out.len
      rw [ea] at d5
      have HN2 : Hid (NodeP wr b2 (o2 + i * 6) (z.c i)) := hn2
      have HX2 : Hid (IsP wr (z.c i)) := hx2
      have HKM : Hid (k < m) := hkm
      clear hc hin hi ea hn2 hx2 d0 d1 d2 d3 d4
      go_wp2
      go_roundw
      case rel => exact ⟨k + 1, b2, o2 + i * 6, z.c i, HKM.out, by simp, by go_num, HK1, HN2, HX2, by first | trivial | rfl⟩
      case measure => have := HKM.out; simp [intOf]; omega
    · obtain rfl : k = m := by omega
      have hzy : z = y := by have := HK.out.symm.trans HY.out; injection this
      subst hzy
      obtain ⟨d0, d1, d2, d3, d4, d5⟩ := HNZ.out
      have hc := copiedP_any z wr HXZ.out (Nat.le_trans (atK_part HY.out) hsm)
      go_wp2_with (go_at_call 31; refine hc.mono ?_; clear hc; rintro e w2 ⟨q, rfl, hPA, hSm, hin, hB2⟩; have hr2 := (hB2.block (w.heap.size + 1) (by have := HS.out; omega)).trans HR.out; obtain ⟨⟨g0, g1, g2, g3, g4, g5⟩, f0, f1, f2, f3, f4, f5⟩ := zero_cells hr2)
      have hblk : (set6 w2 (w.heap.size + 1) q).heap[w.heap.size + 1]? = some (.cells q.cells 24 (0, 0)) := heap_set6 (z := .nil) hr2
      refine bodyPost_ret (results_row_tmp rfl _ _ (w.heap.size + 1) 24 _ (0, 0) _ rfl hblk Try.underlying24 rfl (by kernel_rfl)) rfl ?_
      refine ⟨q, rfl, hPA.kept (T := fun k => k ≠ w.heap.size + 1) (fun k o hk _ e => (heap_set6_other hk).trans e) (fun k hk => by have := hin k hk; have := HS.out; omega), hSm, fun k hk => by have := hin k hk; have := HS.out; omega, below_set6 (HB.out.trans (hB2.mono (by have := HS.out; omega))) (by omega)⟩
set_option maxRecDepth 100000 in
set_option maxHeartbeats 4000000 in
theorem at_no (x : Pt) (a : Option Addr) (m cap : Nat) (Z : Nat → Int) (w : World) (hX : IsP w x) (hZ : Ints .i64 w a m Z) (hm : m ≤ 9223372036854775807) (hy : atK x Z m = none) :
    Calls Try.prog 9 #[x.val, .slice a m cap] w fun e w' => e = .returned (.tuple #[.agg zeroP, .bool false]) ∧ Below w.heap.size w w' := by
  obtain ⟨A, hA, hB, hs, hn, hr⟩ := boxP_res x w
  have HB : Hid (Below w.heap.size w A) := hB
  have HN : Hid (NodeP A w.heap.size 0 x) := hn
  have HX : Hid (IsP A x) := hX.later hB
  have HR : Hid (A.heap[w.heap.size + 1]? = some (.cells zeroP 24 (0, 0))) := hr
  have HZ : Hid (Ints .i64 A a m Z) := fun h0 => by
    obtain ⟨b, o, e, hc⟩ := hZ h0
    exact ⟨b, o, e, fun j hj => ⟨cell_later (hc j hj).1 hB, (hc j hj).2⟩⟩
  have HY : Hid (atK x Z m = none) := hy
  clear hB hn hX hr hZ hy hs
  go_enter Try.func9, Try.ntmps9
  go_wp2
  go_loopw [6, 11] (fun u v wr => ∃ (k b o : Nat) (z : Pt), k ≤ m ∧ u = .pointer (some ⟨b, o, none⟩) ∧ v = .int .i64 k ∧ Hid (atK x Z k = some z) ∧ Hid (NodeP A b o z) ∧ Hid (IsP A z) ∧ wr = A) (fun _ v _ => m - (intOf v).toNat)
  case atStart => exact ⟨0, _, _, x, Nat.zero_le _, rfl, rfl, rfl, HN, HX, rfl⟩
  case round =>
    obtain ⟨k, b, o, z, hk, rfl, rfl, HK, HNZ, HXZ, hwr⟩ := hrel
    subst hwr
    have hkm : k < m := Classical.byContradiction fun h => by
      have := HK.out
      rw [show k = m by omega, HY.out] at this
      cases this
    obtain ⟨b1, o1, rfl, hc⟩ := HZ.out (by omega)
    have ck := (hc k hkm).1
    have HKM : Hid (k < m) := hkm
    obtain ⟨d0, d1, d2, d3, d4, d5⟩ := HNZ.out
    have hzl := HXZ.out.len
    clear hc d0 d1 d2 d3 d4
    obtain ⟨⟨g0, g1, g2, g3, g4, g5⟩, f0, f1, f2, f3, f4, f5⟩ := zero_cells HR.out
    have hblk : (set6 wr (w.heap.size + 1) .nil).heap[w.heap.size + 1]? = some (.cells zeroP 24 (0, 0)) := heap_set6 (z := .nil) HR.out
    have hbel : Below w.heap.size w (set6 wr (w.heap.size + 1) .nil) := below_set6 HB.out (by omega)
    by_cases hneg : Z k < 0
    · go_wp2
      refine bodyPost_ret (results_row_tmp rfl _ _ (w.heap.size + 1) 24 _ (0, 0) _ rfl hblk Try.underlying24 rfl (by kernel_rfl)) rfl ?_
      exact ⟨rfl, hbel⟩
    · obtain ⟨i, hi⟩ : ∃ i : Nat, Z k = i := ⟨(Z k).toNat, by omega⟩
      have HI : Hid (Z k = i) := hi
      rw [hi] at ck
      clear hi hneg
      by_cases hin : i < z.n
      · have HK1 : Hid (atK x Z (k + 1) = some (z.c i)) := atK_yes HK.out HI.out hin
        obtain ⟨b2, o2, ea, hn2, hx2⟩ := HXZ.out.part hin
        rw [ea] at d5
        have HN2 : Hid (NodeP wr b2 (o2 + i * 6) (z.c i)) := hn2
        have HX2 : Hid (IsP wr (z.c i)) := hx2
        clear ea hn2 hx2 hblk hbel g0 g1 g2 g3 g4 g5 f0 f1 f2 f3 f4 f5
        go_wp2
        go_roundw
        case rel => exact ⟨k + 1, b2, o2 + i * 6, z.c i, HKM.out, by simp, by go_num, HK1, HN2, HX2, by first | trivial | rfl⟩
        case measure => have := HKM.out; simp [intOf]; omega
      · have hin' : ((z.n : Nat) : Int) ≤ (i : Int) := by omega
        go_wp2
        refine bodyPost_ret (results_row_tmp rfl _ _ (w.heap.size + 1) 24 _ (0, 0) _ rfl hblk Try.underlying24 rfl (by kernel_rfl)) rfl ?_
        exact ⟨rfl, hbel⟩
end Go.Proofs.Ytinnhaojmnmliaa
namespace Go.Proofs.Ytinnhaojmnmliaa
open Go.RowKit

theorem boxP_three (x : Pt) (w : World) : ∃ A, ((w.alloc (.cells x.cells 24)).alloc (.cells zeroP 24)).alloc (.cells x.cells 24) = A ∧ Below w.heap.size w A ∧ A.heap.size = w.heap.size + 3 ∧ A.heap[w.heap.size + 1]? = some (.cells zeroP 24 (0, 0)) ∧ A.heap[w.heap.size + 2]? = some (.cells x.cells 24 (0, 0)) := by
  refine ⟨_, rfl, (((Below.refl _ w).alloc (Nat.le_refl _) _).alloc (by simp) _).alloc (by simp; omega) _, by simp, ?_, ?_⟩
  · rw [alloc_old (by simp)]
    exact alloc2_new _ _ _
  · have := alloc_new ((w.alloc (.cells x.cells 24)).alloc (.cells zeroP 24)) (.cells x.cells 24)
    rw [World.size_alloc, World.size_alloc] at this
    exact this
/-- The six cells of a box that may be written. -/
theorem box_cells {w : World} {B : Nat} {z : Pt} (h : w.heap[B]? = some (.cells z.cells 24 (0, 0))) : (w.cell? ⟨B, 0, none⟩ = some (.int .i64 z.k) ∧ w.cell? ⟨B, 1, none⟩ = some (.string z.s) ∧ w.cell? ⟨B, 2, none⟩ = some (.string z.t) ∧ w.cell? ⟨B, 3, none⟩ = some (.int .i64 z.lo) ∧ w.cell? ⟨B, 4, none⟩ = some (.int .i64 z.hi) ∧ w.cell? ⟨B, 5, none⟩ = some (.slice z.a z.n z.cap)) ∧
    w.frozen? ⟨B, 0, none⟩ = false ∧ w.frozen? ⟨B, 1, none⟩ = false ∧ w.frozen? ⟨B, 2, none⟩ = false ∧ w.frozen? ⟨B, 3, none⟩ = false ∧ w.frozen? ⟨B, 4, none⟩ = false ∧ w.frozen? ⟨B, 5, none⟩ = false := by
  refine ⟨nodeP_box h |>.at0, ?_, ?_, ?_, ?_, ?_, ?_⟩ <;> exact FreeP.frozen ⟨_, h⟩ _
/-- How far the document's At has come. -/
def AtR (x : Pt) (Z : Nat → Int) (m : Nat) (w A : World) (v : Value) (wr : World) : Prop :=
  ∃ (k : Nat) (z : Pt), k ≤ m ∧ v = .int .i64 k ∧ Hid (atK x Z k = some z) ∧ Hid (wr.heap[w.heap.size + 2]? = some (.cells z.cells 24 (0, 0))) ∧ Hid (IsP w z) ∧ Hid (Below (w.heap.size + 2) A wr)
set_option maxRecDepth 100000 in
set_option maxHeartbeats 4000000 in
theorem refAt_yes (x y : Pt) (a : Option Addr) (m cap : Nat) (Z : Nat → Int) (w : World) (hX : IsP w x) (hZ : Ints .i64 w a m Z) (hm : m ≤ 9223372036854775807) (hy : atK x Z m = some y) :
    Calls Try.prog 10 #[x.val, .slice a m cap] w fun e w' => e = .returned (.tuple #[y.val, .bool true]) ∧ IsP w y ∧ Below w.heap.size w w' := by
  obtain ⟨A, hA, hB, hs, hr, hx⟩ := boxP_three x w
  have HB : Hid (Below w.heap.size w A) := hB
  have HX0 : Hid (A.heap[w.heap.size + 2]? = some (.cells x.cells 24 (0, 0))) := hx
  have HX : Hid (IsP w x) := hX
  have HR : Hid (A.heap[w.heap.size + 1]? = some (.cells zeroP 24 (0, 0))) := hr
  have HZ : Hid (Ints .i64 w a m Z) := hZ
  have HY : Hid (atK x Z m = some y) := hy
  clear hB hX hr hZ hy hs hx
  go_enter Try.func10, Try.ntmps10
  go_wp2
  go_loopw [7] (AtR x Z m w A) (fun v _ => m - (intOf v).toNat)
  case atStart => exact ⟨0, x, Nat.zero_le _, rfl, rfl, HX0, HX, Below.refl _ _⟩
  case round =>
    obtain ⟨k, z, hk, rfl, HK, HW, HXZ, HA⟩ := hrel
    have hw : Below w.heap.size w wr := HB.out.trans (HA.out.mono (by omega))
    by_cases hkm : k < m
    · obtain ⟨b1, o1, rfl, hc⟩ := HZ.out (by omega)
      have ck := cell_later (hc k hkm).1 hw
      have hin : 0 ≤ Z k ∧ Z k < z.n := Classical.byContradiction fun h => by
        have := atK_none (atK_no HK.out h) m hkm
        rw [HY.out] at this
        cases this
      obtain ⟨i, hi⟩ : ∃ i : Nat, Z k = i := ⟨(Z k).toNat, by omega⟩
      rw [hi] at ck hin
      have hin2 : i < z.n := by omega
      have HK1 : Hid (atK x Z (k + 1) = some (z.c i)) := atK_yes HK.out hi hin2
      obtain ⟨⟨g0, g1, g2, g3, g4, g5⟩, f0, f1, f2, f3, f4, f5⟩ := box_cells HW.out
      obtain ⟨b2, o2, ea, hn2, -⟩ := (HXZ.out.later hw).part hin2
      have hlt : b2 < w.heap.size := by obtain ⟨b', o', ea', hn', _⟩ := HXZ.out.part hin2; rw [ea] at ea'; cases ea'; exact hn'.lt
      obtain ⟨_, _, _, _, hx2⟩ := HXZ.out.part hin2
      have hzl := HXZ.out.len
      rw [ea] at g5
      obtain ⟨d0, d1, d2, d3, d4, d5⟩ := hn2
      have HX2 : Hid (IsP w (z.c i)) := hx2
      have HKM : Hid (k < m) := hkm
      have CK : Hid (wr.cell? ⟨b1, o1 + k, none⟩ = some (.int .i64 i)) := ck
      have C5 : Hid (wr.cell? ⟨w.heap.size + 2, 5, none⟩ = some (.slice (some ⟨b2, o2, none⟩) z.n z.cap)) := g5
      have CN : Hid (NodeP wr b2 (o2 + i * 6) (z.c i)) := ⟨d0, d1, d2, d3, d4, d5⟩
      have HL1 : Hid (b1 < w.heap.size) := World.block_lt_of_cell? w _ (hc k hkm).1
      clear hc hin hi ea hx2 hw d0 d1 d2 d3 d4 d5
      have hi0 : ¬ ((i : Nat) : Int) < 0 := by omega
      have hi1 : ¬ z.n ≤ i := by omega
      go_wp2
      go_quiet (fail)
      go_upto_region 7 with (fail)
      obtain ⟨V, hV⟩ : ∃ V, V = wr.drewN nq := ⟨_, rfl⟩
      have CV : Below wr.heap.size wr V := by rw [hV]; exact ⟨rfl, rfl, rfl, Nat.le_refl _, fun _ _ => rfl⟩
      rw [← hV]
      have hVs : V.heap.size = wr.heap.size := by rw [hV]; rfl
      have hlw : w.heap.size + 2 < wr.heap.size := (Array.getElem?_eq_some_iff.1 HW.out).1
      have HV : Hid (V.heap[w.heap.size + 2]? = some (.cells z.cells 24 (0, 0))) := (CV.block _ hlw).trans HW.out
      replace CK : Hid (V.cell? ⟨b1, o1 + k, none⟩ = some (.int .i64 i)) := cell_later CK.out CV
      replace C5 : Hid (V.cell? ⟨w.heap.size + 2, 5, none⟩ = some (.slice (some ⟨b2, o2, none⟩) z.n z.cap)) := cell_later C5.out CV
      replace CN : Hid (NodeP V b2 (o2 + i * 6) (z.c i)) := CN.out.later CV
      have hb1 := HL1.out
      clear hV g0 g1 g2 g3 g4 g5 f0 f1 f2 f3 f4 f5 ck
      refine wp_region_noPanic ?_
      refine wp_region_held_drew (S := fun w' => Below (w.heap.size + 2) V w') (by kernel_rfl) ((Below.refl _ _).drew) (fun hHeld => ?_)
      obtain ⟨d, hdw⟩ : ∃ d, d = V.drew := ⟨_, rfl⟩
      have hT : Below V.heap.size V d := by rw [hdw]; exact (Below.refl _ _).drew
      rw [← hdw] at hHeld ⊢
      clear hdw
      refine wpAnyH_take (i := 0) (oi := ⟨some 31, Op.fieldAddr 24 (Operand.tmp 6) 5, 0, _, _, _⟩) (v := ?v0) rfl (by kernel_rfl) (by kernel_rfl) (by kernel_rfl) (fun _ _ _ h => h) (Or.inl ⟨by rfl, ?hy0⟩) hHeld ?rest0
      case hy0 => intro w9 hSw; go_simp; (try with_reducible rfl)
      try simp only [Act.put, List.setIfInBounds_toArray, List.set_cons_zero, List.set_cons_succ]
      refine wpAnyH_take (i := 2) (oi := ⟨some 33, Op.move (Operand.tmp 1), 25, _, _, _⟩) (v := ?v2) rfl (by kernel_rfl) (by kernel_rfl) (by kernel_rfl) (fun _ _ _ h => h) (Or.inl ⟨by rfl, ?hy2⟩) hHeld ?rest2
      case hy2 => intro w9 hSw; go_simp; (try with_reducible rfl)
      try simp only [Act.put, List.setIfInBounds_toArray, List.set_cons_zero, List.set_cons_succ]
      refine wpAnyH_take (i := 3) (oi := ⟨some 34, Op.move (Operand.tmp 7), 3, _, _, _⟩) (v := ?v3) rfl (by kernel_rfl) (by kernel_rfl) (by kernel_rfl) (fun _ _ _ h => h) (Or.inl ⟨by rfl, ?hy3⟩) hHeld ?rest3
      case hy3 => intro w9 hSw; go_simp; (try with_reducible rfl)
      try simp only [Act.put, List.setIfInBounds_toArray, List.set_cons_zero, List.set_cons_succ]
      refine wpAnyH_take (i := 4) (oi := ⟨some 35, Op.indexAddr 25 (Operand.tmp 33) (Operand.tmp 34), 0, _, _, _⟩) (v := ?v4) rfl (by kernel_rfl) (by kernel_rfl) (by kernel_rfl) (fun _ _ _ h => h) (Or.inl ⟨by rfl, ?hy4⟩) hHeld ?rest4
      case hy4 => intro w9 hSw; go_simp; (try with_reducible rfl)
      try simp only [Act.put, List.setIfInBounds_toArray, List.set_cons_zero, List.set_cons_succ]
      refine wpAnyH_take (i := 5) (oi := ⟨some 36, Op.load 3 (Operand.tmp 35), 3, _, _, _⟩) (v := ?v5) rfl (by kernel_rfl) (by kernel_rfl) (by kernel_rfl) (fun _ _ _ h => h) (Or.inl ⟨by rfl, ?hy5⟩) hHeld ?rest5
      case hy5 => intro w9 hSw; have cc := (hSw.cell (p := ⟨b1, o1 + k, none⟩) (by simp; omega)).trans CK.out; go_simp; (try with_reducible rfl)
      try simp only [Act.put, List.setIfInBounds_toArray, List.set_cons_zero, List.set_cons_succ]
      refine wpAnyH_ready (rs := [1]) (by kernel_rfl) (by simp) ?_
      refine AllReadyH.cons (o := ⟨some 32, Op.load 22 (Operand.tmp 31), 22, _, _, _⟩) rfl (fun K hK => ?_) AllReadyH.nil
      have cc := (hT.cell (p := ⟨w.heap.size + 2, 5, none⟩) (by simp; omega)).trans C5.out
      go_simp
      clear cc
      refine hK.out _ _ hHeld (fun _ => ?_)
      clear hK K
      try simp only [Act.put, List.setIfInBounds_toArray, List.set_cons_zero, List.set_cons_succ]
      refine wpAnyH_take (i := 6) (oi := ⟨some 37, Op.indexAddr 22 (Operand.tmp 32) (Operand.tmp 36), 0, _, _, _⟩) (v := ?v6) rfl (by kernel_rfl) (by kernel_rfl) (by kernel_rfl) (fun _ _ _ h => h) (Or.inl ⟨by rfl, ?hy6⟩) hHeld ?rest6
      case hy6 => intro w9 hSw; go_simp; (try with_reducible rfl)
      try simp only [Act.put, List.setIfInBounds_toArray, List.set_cons_zero, List.set_cons_succ]
      refine wpAnyH_take (i := 7) (oi := ⟨some 38, Op.load 24 (Operand.tmp 37), 24, _, _, _⟩) (v := ?v7) rfl (by kernel_rfl) (by kernel_rfl) (by kernel_rfl) (fun _ _ _ h => h) (Or.inl ⟨by rfl, ?hy7⟩) hHeld ?rest7
      case hy7 => intro w9 hSw; obtain ⟨d0, d1, d2, d3, d4, d5⟩ := CN.out.below hSw (by omega); go_simp; (try with_reducible rfl)
      try simp only [Act.put, List.setIfInBounds_toArray, List.set_cons_zero, List.set_cons_succ]
      refine wpAnyH_ready (rs := [8]) (by kernel_rfl) (by simp) ?_
      refine AllReadyH.cons (o := ⟨none, Op.store 24 (Operand.tmp 6) (Operand.tmp 38), 0, _, _, _⟩) rfl (fun K hK => ?_) AllReadyH.nil
      obtain ⟨⟨g0, g1, g2, g3, g4, g5⟩, f0, f1, f2, f3, f4, f5⟩ := box_cells ((hT.block (w.heap.size + 2) (by omega)).trans HV.out)
      go_simp
      clear g0 g1 g2 g3 g4 g5 f0 f1 f2 f3 f4 f5
      refine hK.out _ _ (below_set6 hHeld (Nat.le_refl _)) (fun _ => ?_)
      clear hK K
      try simp only [Act.put, List.setIfInBounds_toArray, List.set_cons_zero, List.set_cons_succ]
      refine wpAnyH_done (by kernel_rfl) ?_ _
      refine NoPanic.normal ?_
      have HW2 : Hid ((set6 d (w.heap.size + 2) (z.c i)).heap[w.heap.size + 2]? = some (.cells (z.c i).cells 24 (0, 0))) := heap_set6 ((hT.block _ (by omega)).trans HV.out)
      have HA2 : Hid (Below (w.heap.size + 2) A (set6 d (w.heap.size + 2) (z.c i))) := below_set6 ((HA.out.trans (CV.mono (by omega))).trans hHeld) (Nat.le_refl _)
      go_wp2
      go_roundw
      case rel => exact ⟨k + 1, z.c i, HKM.out, by go_num, HK1, HW2, HX2, HA2⟩
      case measure => have := HKM.out; simp [intOf]; omega
    · obtain rfl : k = m := by omega
      have hzy : z = y := by have := HK.out.symm.trans HY.out; injection this
      subst hzy
      obtain ⟨⟨d0, d1, d2, d3, d4, d5⟩, -⟩ := box_cells HW.out
      have hr2 := (HA.out.block (w.heap.size + 1) (by omega)).trans HR.out
      obtain ⟨⟨g0, g1, g2, g3, g4, g5⟩, f0, f1, f2, f3, f4, f5⟩ := zero_cells hr2
      have hblk : (set6 wr (w.heap.size + 1) z).heap[w.heap.size + 1]? = some (.cells z.cells 24 (0, 0)) := heap_set6 (z := .nil) hr2
      have hbel : Below w.heap.size w (set6 wr (w.heap.size + 1) z) := below_set6 hw (by omega)
      go_wp2
      refine bodyPost_ret (results_row_tmp rfl _ _ (w.heap.size + 1) 24 _ (0, 0) _ rfl hblk Try.underlying24 rfl (by kernel_rfl)) rfl ?_
      exact ⟨rfl, HXZ.out, hbel⟩
set_option maxRecDepth 100000 in
set_option maxHeartbeats 4000000 in
theorem refAt_no (x : Pt) (a : Option Addr) (m cap : Nat) (Z : Nat → Int) (w : World) (hX : IsP w x) (hZ : Ints .i64 w a m Z) (hm : m ≤ 9223372036854775807) (hy : atK x Z m = none) :
    Calls Try.prog 10 #[x.val, .slice a m cap] w fun e w' => e = .returned (.tuple #[.agg zeroP, .bool false]) ∧ Below w.heap.size w w' := by
  obtain ⟨A, hA, hB, hs, hr, hx⟩ := boxP_three x w
  have HB : Hid (Below w.heap.size w A) := hB
  have HX0 : Hid (A.heap[w.heap.size + 2]? = some (.cells x.cells 24 (0, 0))) := hx
  have HX : Hid (IsP w x) := hX
  have HR : Hid (A.heap[w.heap.size + 1]? = some (.cells zeroP 24 (0, 0))) := hr
  have HZ : Hid (Ints .i64 w a m Z) := hZ
  have HY : Hid (atK x Z m = none) := hy
  clear hB hX hr hZ hy hs hx
  go_enter Try.func10, Try.ntmps10
  go_wp2
  go_loopw [7] (AtR x Z m w A) (fun v _ => m - (intOf v).toNat)
  case atStart => exact ⟨0, x, Nat.zero_le _, rfl, rfl, HX0, HX, Below.refl _ _⟩
  case round =>
    obtain ⟨k, z, hk, rfl, HK, HW, HXZ, HA⟩ := hrel
    have hw : Below w.heap.size w wr := HB.out.trans (HA.out.mono (by omega))
    have hkm : k < m := Classical.byContradiction fun h => by
      have := HK.out
      rw [show k = m by omega, HY.out] at this
      cases this
    obtain ⟨b1, o1, rfl, hc⟩ := HZ.out (by omega)
    have ck := cell_later (hc k hkm).1 hw
    have HKM : Hid (k < m) := hkm
    have hzl := HXZ.out.len
    obtain ⟨⟨g0, g1, g2, g3, g4, g5⟩, f0, f1, f2, f3, f4, f5⟩ := box_cells HW.out
    by_cases hneg : Z k < 0
    · have hr2 := (HA.out.block (w.heap.size + 1) (by omega)).trans HR.out
      obtain ⟨⟨h0, h1, h2, h3, h4, h5⟩, i0, i1, i2, i3, i4, i5⟩ := zero_cells hr2
      have hblk : ∀ n, (set6 (wr.drewN n) (w.heap.size + 1) .nil).heap[w.heap.size + 1]? = some (.cells zeroP 24 (0, 0)) := fun n => heap_set6 (W := wr.drewN n) (z := .nil) hr2
      have hbel : ∀ n, Below w.heap.size w (set6 (wr.drewN n) (w.heap.size + 1) .nil) := fun n => below_set6 (bd hw n) (by omega)
      go_wp2
      go_quiet (fail)
      go_wp2
      refine bodyPost_ret (results_row_tmp rfl _ _ (w.heap.size + 1) 24 _ (0, 0) _ rfl (hblk _) Try.underlying24 rfl (by kernel_rfl)) rfl ?_
      exact ⟨rfl, hbel _⟩
    · obtain ⟨i, hi⟩ : ∃ i : Nat, Z k = i := ⟨(Z k).toNat, by omega⟩
      have HI : Hid (Z k = i) := hi
      rw [hi] at ck
      clear hi hneg
      by_cases hin : i < z.n
      · have HK1 : Hid (atK x Z (k + 1) = some (z.c i)) := atK_yes HK.out HI.out hin
        obtain ⟨b2, o2, ea, hn2, -⟩ := (HXZ.out.later hw).part hin
        have hlt : b2 < w.heap.size := by obtain ⟨b', o', ea', hn', _⟩ := HXZ.out.part hin; rw [ea] at ea'; cases ea'; exact hn'.lt
        obtain ⟨_, _, _, _, hx2⟩ := HXZ.out.part hin
        rw [ea] at g5
        obtain ⟨d0, d1, d2, d3, d4, d5⟩ := hn2
        have HX2 : Hid (IsP w (z.c i)) := hx2
        have CK : Hid (wr.cell? ⟨b1, o1 + k, none⟩ = some (.int .i64 i)) := ck
        have C5 : Hid (wr.cell? ⟨w.heap.size + 2, 5, none⟩ = some (.slice (some ⟨b2, o2, none⟩) z.n z.cap)) := g5
        have CN : Hid (NodeP wr b2 (o2 + i * 6) (z.c i)) := ⟨d0, d1, d2, d3, d4, d5⟩
        have HL1 : Hid (b1 < w.heap.size) := World.block_lt_of_cell? w _ (hc k hkm).1
        clear hc ea hx2 hw d0 d1 d2 d3 d4 d5
        have hi0 : ¬ ((i : Nat) : Int) < 0 := by omega
        have hi1 : ¬ z.n ≤ i := by omega
        go_wp2
        go_quiet (fail)
        go_upto_region 7 with (fail)
        obtain ⟨V, hV⟩ : ∃ V, V = wr.drewN nq := ⟨_, rfl⟩
        have CV : Below wr.heap.size wr V := by rw [hV]; exact ⟨rfl, rfl, rfl, Nat.le_refl _, fun _ _ => rfl⟩
        rw [← hV]
        have hVs : V.heap.size = wr.heap.size := by rw [hV]; rfl
        have hlw : w.heap.size + 2 < wr.heap.size := (Array.getElem?_eq_some_iff.1 HW.out).1
        have HV : Hid (V.heap[w.heap.size + 2]? = some (.cells z.cells 24 (0, 0))) := (CV.block _ hlw).trans HW.out
        replace CK : Hid (V.cell? ⟨b1, o1 + k, none⟩ = some (.int .i64 i)) := cell_later CK.out CV
        replace C5 : Hid (V.cell? ⟨w.heap.size + 2, 5, none⟩ = some (.slice (some ⟨b2, o2, none⟩) z.n z.cap)) := cell_later C5.out CV
        replace CN : Hid (NodeP V b2 (o2 + i * 6) (z.c i)) := CN.out.later CV
        have hb1 := HL1.out
        clear hV g0 g1 g2 g3 g4 g5 f0 f1 f2 f3 f4 f5 ck
        refine wp_region_noPanic ?_
        refine wp_region_held_drew (S := fun w' => Below (w.heap.size + 2) V w') (by kernel_rfl) ((Below.refl _ _).drew) (fun hHeld => ?_)
        obtain ⟨d, hdw⟩ : ∃ d, d = V.drew := ⟨_, rfl⟩
        have hT : Below V.heap.size V d := by rw [hdw]; exact (Below.refl _ _).drew
        rw [← hdw] at hHeld ⊢
        clear hdw
        refine wpAnyH_take (i := 0) (oi := ⟨some 31, Op.fieldAddr 24 (Operand.tmp 6) 5, 0, _, _, _⟩) (v := ?v0b) rfl (by kernel_rfl) (by kernel_rfl) (by kernel_rfl) (fun _ _ _ h => h) (Or.inl ⟨by rfl, ?hy0b⟩) hHeld ?rest0b
        case hy0b => intro w9 hSw; go_simp; (try with_reducible rfl)
        try simp only [Act.put, List.setIfInBounds_toArray, List.set_cons_zero, List.set_cons_succ]
        refine wpAnyH_take (i := 2) (oi := ⟨some 33, Op.move (Operand.tmp 1), 25, _, _, _⟩) (v := ?v2b) rfl (by kernel_rfl) (by kernel_rfl) (by kernel_rfl) (fun _ _ _ h => h) (Or.inl ⟨by rfl, ?hy2b⟩) hHeld ?rest2b
        case hy2b => intro w9 hSw; go_simp; (try with_reducible rfl)
        try simp only [Act.put, List.setIfInBounds_toArray, List.set_cons_zero, List.set_cons_succ]
        refine wpAnyH_take (i := 3) (oi := ⟨some 34, Op.move (Operand.tmp 7), 3, _, _, _⟩) (v := ?v3b) rfl (by kernel_rfl) (by kernel_rfl) (by kernel_rfl) (fun _ _ _ h => h) (Or.inl ⟨by rfl, ?hy3b⟩) hHeld ?rest3b
        case hy3b => intro w9 hSw; go_simp; (try with_reducible rfl)
        try simp only [Act.put, List.setIfInBounds_toArray, List.set_cons_zero, List.set_cons_succ]
        refine wpAnyH_take (i := 4) (oi := ⟨some 35, Op.indexAddr 25 (Operand.tmp 33) (Operand.tmp 34), 0, _, _, _⟩) (v := ?v4b) rfl (by kernel_rfl) (by kernel_rfl) (by kernel_rfl) (fun _ _ _ h => h) (Or.inl ⟨by rfl, ?hy4b⟩) hHeld ?rest4b
        case hy4b => intro w9 hSw; go_simp; (try with_reducible rfl)
        try simp only [Act.put, List.setIfInBounds_toArray, List.set_cons_zero, List.set_cons_succ]
        refine wpAnyH_take (i := 5) (oi := ⟨some 36, Op.load 3 (Operand.tmp 35), 3, _, _, _⟩) (v := ?v5b) rfl (by kernel_rfl) (by kernel_rfl) (by kernel_rfl) (fun _ _ _ h => h) (Or.inl ⟨by rfl, ?hy5b⟩) hHeld ?rest5b
        case hy5b => intro w9 hSw; have cc := (hSw.cell (p := ⟨b1, o1 + k, none⟩) (by simp; omega)).trans CK.out; go_simp; (try with_reducible rfl)
        try simp only [Act.put, List.setIfInBounds_toArray, List.set_cons_zero, List.set_cons_succ]
        refine wpAnyH_ready (rs := [1]) (by kernel_rfl) (by simp) ?_
        refine AllReadyH.cons (o := ⟨some 32, Op.load 22 (Operand.tmp 31), 22, _, _, _⟩) rfl (fun K hK => ?_) AllReadyH.nil
        have cc := (hT.cell (p := ⟨w.heap.size + 2, 5, none⟩) (by simp; omega)).trans C5.out
        go_simp
        clear cc
        refine hK.out _ _ hHeld (fun _ => ?_)
        clear hK K
        try simp only [Act.put, List.setIfInBounds_toArray, List.set_cons_zero, List.set_cons_succ]
        refine wpAnyH_take (i := 6) (oi := ⟨some 37, Op.indexAddr 22 (Operand.tmp 32) (Operand.tmp 36), 0, _, _, _⟩) (v := ?v6b) rfl (by kernel_rfl) (by kernel_rfl) (by kernel_rfl) (fun _ _ _ h => h) (Or.inl ⟨by rfl, ?hy6b⟩) hHeld ?rest6b
        case hy6b => intro w9 hSw; go_simp; (try with_reducible rfl)
        try simp only [Act.put, List.setIfInBounds_toArray, List.set_cons_zero, List.set_cons_succ]
        refine wpAnyH_take (i := 7) (oi := ⟨some 38, Op.load 24 (Operand.tmp 37), 24, _, _, _⟩) (v := ?v7b) rfl (by kernel_rfl) (by kernel_rfl) (by kernel_rfl) (fun _ _ _ h => h) (Or.inl ⟨by rfl, ?hy7b⟩) hHeld ?rest7b
        case hy7b => intro w9 hSw; obtain ⟨d0, d1, d2, d3, d4, d5⟩ := CN.out.below hSw (by omega); go_simp; (try with_reducible rfl)
        try simp only [Act.put, List.setIfInBounds_toArray, List.set_cons_zero, List.set_cons_succ]
        refine wpAnyH_ready (rs := [8]) (by kernel_rfl) (by simp) ?_
        refine AllReadyH.cons (o := ⟨none, Op.store 24 (Operand.tmp 6) (Operand.tmp 38), 0, _, _, _⟩) rfl (fun K hK => ?_) AllReadyH.nil
        obtain ⟨⟨g0, g1, g2, g3, g4, g5⟩, f0, f1, f2, f3, f4, f5⟩ := box_cells ((hT.block (w.heap.size + 2) (by omega)).trans HV.out)
        go_simp
        clear g0 g1 g2 g3 g4 g5 f0 f1 f2 f3 f4 f5
        refine hK.out _ _ (below_set6 hHeld (Nat.le_refl _)) (fun _ => ?_)
        clear hK K
        try simp only [Act.put, List.setIfInBounds_toArray, List.set_cons_zero, List.set_cons_succ]
        refine wpAnyH_done (by kernel_rfl) ?_ _
        refine NoPanic.normal ?_
        have HW2 : Hid ((set6 d (w.heap.size + 2) (z.c i)).heap[w.heap.size + 2]? = some (.cells (z.c i).cells 24 (0, 0))) := heap_set6 ((hT.block _ (by omega)).trans HV.out)
        have HA2 : Hid (Below (w.heap.size + 2) A (set6 d (w.heap.size + 2) (z.c i))) := below_set6 ((HA.out.trans (CV.mono (by omega))).trans hHeld) (Nat.le_refl _)
        go_wp2
        go_roundw
        case rel => exact ⟨k + 1, z.c i, HKM.out, by go_num, HK1, HW2, HX2, HA2⟩
        case measure => have := HKM.out; simp [intOf]; omega
      · have hin' : z.n ≤ i := by omega
        have hi0 : ¬ ((i : Nat) : Int) < 0 := by omega
        have hr2 := (HA.out.block (w.heap.size + 1) (by omega)).trans HR.out
        obtain ⟨⟨h0, h1, h2, h3, h4, h5⟩, i0, i1, i2, i3, i4, i5⟩ := zero_cells hr2
        have hblk : ∀ n, (set6 (wr.drewN n) (w.heap.size + 1) .nil).heap[w.heap.size + 1]? = some (.cells zeroP 24 (0, 0)) := fun n => heap_set6 (W := wr.drewN n) (z := .nil) hr2
        have hbel : ∀ n, Below w.heap.size w (set6 (wr.drewN n) (w.heap.size + 1) .nil) := fun n => below_set6 (bd hw n) (by omega)
        go_wp2
        go_quiet (fail)
        go_wp2
        refine bodyPost_ret (results_row_tmp rfl _ _ (w.heap.size + 1) 24 _ (0, 0) _ rfl (hblk _) Try.underlying24 rfl (by kernel_rfl)) rfl ?_
        exact ⟨rfl, hbel _⟩
end Go.Proofs.Ytinnhaojmnmliaa
