/-
  pat.At and pat.Tail, and the document's.
-/
import Derived.Test.YtjclelmbpmlioaaPatCopied
import Derived.Test.YtjclelmbpmlioaaArgs
import Derived.Laws.ResultCell
namespace Go.Proofs.Ytjclelmbpmlioaa
open Go.RowKit

/-- The part that is reached by the first places of a way. -/
def atK (x : Pt) (Z : Nat → Int) : Nat → Option Pt
  | 0 => some x
  | k + 1 => match atK x Z k with
    | none => none
    | some y => if 0 ≤ Z k ∧ Z k < y.n then some (y.c (Z k).toNat) else none
theorem atK_yes {x y : Pt} {Z : Nat → Int} {k i : Nat} (h : atK x Z k = some y) (hi : Z k = i) (hn : i < y.n) : atK x Z (k + 1) = some (y.c i) := by
  simp only [atK, h]
  rw [if_pos ⟨by omega, by omega⟩, hi]
  rfl
theorem atK_no {x y : Pt} {Z : Nat → Int} {k : Nat} (h : atK x Z k = some y) (hn : ¬ (0 ≤ Z k ∧ Z k < y.n)) : atK x Z (k + 1) = none := by
  simp only [atK, h]
  rw [if_neg hn]
theorem atK_none {x : Pt} {Z : Nat → Int} {k : Nat} (h : atK x Z k = none) : ∀ m, k ≤ m → atK x Z m = none
  | 0, hm => by obtain rfl : k = 0 := by omega
                exact h
  | m + 1, hm => by
    by_cases e : k = m + 1
    · exact e ▸ h
    · simp only [atK, atK_none h m (by omega)]
/-- What is at the end of a way lies where parts lie, and is no greater. -/
theorem atK_part {x y : Pt} {Z : Nat → Int} : ∀ {k : Nat}, atK x Z k = some y → y.size ≤ x.size
  | 0, h => by simp only [atK] at h; cases h; exact Nat.le_refl _
  | k + 1, h => by
    simp only [atK] at h
    cases e : atK x Z k with
    | none => rw [e] at h; cases h
    | some z =>
      rw [e] at h
      simp only at h
      by_cases hc : 0 ≤ Z k ∧ Z k < z.n
      · rw [if_pos hc] at h
        cases h
        have := z.size_part (Z k).toNat (by omega)
        have := atK_part e
        omega
      · rw [if_neg hc] at h; cases h
theorem results_row_tmp {P : Program} {fn : Func} {p u : Tmp} {ty : TypeId} (h : fn.results = #[.cell p ty, .tmp u]) (tmps : Array Value) (w : World) (g : Nat) (t : TypeId) (cs : Array Value) (fr : Nat × Nat) (d : TypeDesc)
    (hp : tmps.getD p undef = .pointer (some ⟨g, 0, none⟩)) (hg : w.heap[g]? = some (.cells cs t fr))
    (hu : P.underlying ty = some d) (hd : (match d with | .struct _ | .array _ _ => true | _ => false) = true) (hi : (P.info? ty).map (·.size) = some cs.size) :
    (results fn tmps).run P w = .ok (.tuple #[.agg cs, tmps.getD u undef]) w := by
  rw [results_cell_tmp h, hp]
  simp [asAddr, run_loadVar_row w g t ty cs fr d hg hu hd hi]
/-- The zero pattern's cells. -/
abbrev zeroP : Array Value := #[.int .i64 0, .string ⟨#[]⟩, .string ⟨#[]⟩, .int .i64 0, .int .i64 0, .slice none 0 0]
theorem boxP_res (x : Pt) (w : World) : ∃ A, (w.alloc (.cells x.cells 24)).alloc (.cells zeroP 24) = A ∧ Below w.heap.size w A ∧ A.heap.size = w.heap.size + 2 ∧ NodeP A w.heap.size 0 x ∧ A.heap[w.heap.size + 1]? = some (.cells zeroP 24 (0, 0)) :=
  ⟨_, rfl, ((Below.refl _ w).alloc (Nat.le_refl _) _).alloc (by simp) _, by simp, (nodeP_new w _ x).later ((Below.refl _ _).alloc (Nat.le_refl _) _), alloc2_new _ _ _⟩
/-- The six cells of the box for the answer. -/
theorem zero_cells {w : World} {B : Nat} (h : w.heap[B]? = some (.cells zeroP 24 (0, 0))) : (w.cell? ⟨B, 0, none⟩ = some (.int .i64 0) ∧ w.cell? ⟨B, 1, none⟩ = some (.string ⟨#[]⟩) ∧ w.cell? ⟨B, 2, none⟩ = some (.string ⟨#[]⟩) ∧ w.cell? ⟨B, 3, none⟩ = some (.int .i64 0) ∧ w.cell? ⟨B, 4, none⟩ = some (.int .i64 0) ∧ w.cell? ⟨B, 5, none⟩ = some (.slice none 0 0)) ∧
    w.frozen? ⟨B, 0, none⟩ = false ∧ w.frozen? ⟨B, 1, none⟩ = false ∧ w.frozen? ⟨B, 2, none⟩ = false ∧ w.frozen? ⟨B, 3, none⟩ = false ∧ w.frozen? ⟨B, 4, none⟩ = false ∧ w.frozen? ⟨B, 5, none⟩ = false := by
  refine ⟨nodeP_box (x := .nil) h |>.at0, ?_, ?_, ?_, ?_, ?_, ?_⟩ <;> exact FreeP.frozen ⟨_, h⟩ _
theorem atK_wd {x y : Pt} {Z : Nat → Int} (hx : WdP x) : ∀ {k : Nat}, atK x Z k = some y → WdP y
  | 0, h => by simp only [atK] at h; cases h; exact hx
  | k + 1, h => by
    simp only [atK] at h
    cases e : atK x Z k with
    | none => rw [e] at h; cases h
    | some z =>
      rw [e] at h
      simp only at h
      by_cases hc : 0 ≤ Z k ∧ Z k < z.n
      · rw [if_pos hc] at h
        cases h
        exact ((wdP_eq z).1 (atK_wd hx e)).2 _ (by omega)
      · rw [if_neg hc] at h; cases h
set_option maxRecDepth 100000 in
set_option maxHeartbeats 4000000 in
theorem at_yesW (x y : Pt) (a : Option Addr) (m cap : Nat) (Z : Nat → Int) (w : World) (hX : IsP w x) (hsm : WdP x) (hZ : Ints .i64 w a m Z) (hm : m ≤ 9223372036854775807) (hy : atK x Z m = some y) :
    Calls Try.prog 11 #[x.val, .slice a m cap] w fun e w' => ∃ q : Pt, e = .returned (.tuple #[q.val, .bool true]) ∧ PA w' q ∧ Sm q y ∧ (∀ k, inP k q → w.heap.size ≤ k) ∧ Below w.heap.size w w' := by
  obtain ⟨A, hA, hB, hs, hn, hr⟩ := boxP_res x w
  have HB : Hid (Below w.heap.size w A) := hB
  have HN : Hid (NodeP A w.heap.size 0 x) := hn
  have HX : Hid (IsP A x) := hX.later hB
  have HR : Hid (A.heap[w.heap.size + 1]? = some (.cells zeroP 24 (0, 0))) := hr
  have HZ : Hid (Ints .i64 A a m Z) := fun h0 => by
    obtain ⟨b, o, e, hc⟩ := hZ h0
    exact ⟨b, o, e, fun j hj => ⟨cell_later (hc j hj).1 hB, (hc j hj).2⟩⟩
  have HY : Hid (atK x Z m = some y) := hy
  have HS : Hid (A.heap.size = w.heap.size + 2) := hs
  clear hB hn hX hr hZ hy
  go_enter Try.func11, Try.ntmps11
  go_wp2
  go_loopw [6, 11] (fun u v wr => ∃ (k b o : Nat) (z : Pt), k ≤ m ∧ u = .pointer (some ⟨b, o, none⟩) ∧ v = .int .i64 k ∧ Hid (atK x Z k = some z) ∧ Hid (NodeP A b o z) ∧ Hid (IsP A z) ∧ wr = A) (fun _ v _ => m - (intOf v).toNat)
  case atStart => exact ⟨0, _, _, x, Nat.zero_le _, rfl, rfl, rfl, HN, HX, rfl⟩
  case round =>
    obtain ⟨k, b, o, z, hk, rfl, rfl, HK, HNZ, HXZ, hwr⟩ := hrel
    subst hwr
    by_cases hkm : k < m
    · obtain ⟨b1, o1, rfl, hc⟩ := HZ.out (by omega)
      have ck := (hc k hkm).1
      have hin : 0 ≤ Z k ∧ Z k < z.n := Classical.byContradiction fun h => by
        have := atK_none (atK_no HK.out h) m hkm
        rw [HY.out] at this
        cases this
      obtain ⟨i, hi⟩ : ∃ i : Nat, Z k = i := ⟨(Z k).toNat, by omega⟩
      rw [hi] at ck hin
      have hin2 : i < z.n := by omega
      have HK1 : Hid (atK x Z (k + 1) = some (z.c i)) := atK_yes HK.out hi hin2
      obtain ⟨d0, d1, d2, d3, d4, d5⟩ := HNZ.out
      obtain ⟨b2, o2, ea, hn2, hx2⟩ := HXZ.out.part hin2
      have hzl := HXZ.out.len
      rw [ea] at d5
      have HN2 : Hid (NodeP wr b2 (o2 + i * 6) (z.c i)) := hn2
      have HX2 : Hid (IsP wr (z.c i)) := hx2
      have HKM : Hid (k < m) := hkm
      clear hc hin hi ea hn2 hx2 d0 d1 d2 d3 d4
      go_wp2
      go_roundw
      case rel => exact ⟨k + 1, b2, o2 + i * 6, z.c i, HKM.out, by simp, by go_num, HK1, HN2, HX2, by first | trivial | rfl⟩
      case measure => have := HKM.out; simp [intOf]; omega
    · obtain rfl : k = m := by omega
      have hzy : z = y := by have := HK.out.symm.trans HY.out; injection this
      subst hzy
      obtain ⟨d0, d1, d2, d3, d4, d5⟩ := HNZ.out
      have hc := copiedP_wide z wr HXZ.out (atK_wd hsm HY.out)
      go_wp2_with (go_at_call 24; refine hc.mono ?_; clear hc; rintro e w2 ⟨q, rfl, hPA, hSm, hin, hB2⟩; have hr2 := (hB2.block (w.heap.size + 1) (by have := HS.out; omega)).trans HR.out; obtain ⟨⟨g0, g1, g2, g3, g4, g5⟩, f0, f1, f2, f3, f4, f5⟩ := zero_cells hr2)
      have hblk : (set6 w2 (w.heap.size + 1) q).heap[w.heap.size + 1]? = some (.cells q.cells 24 (0, 0)) := heap_set6 (z := .nil) hr2
      refine bodyPost_ret (results_row_tmp rfl _ _ (w.heap.size + 1) 24 _ (0, 0) _ rfl hblk Try.underlying24 rfl (by kernel_rfl)) rfl ?_
      refine ⟨q, rfl, hPA.kept (T := fun k => k ≠ w.heap.size + 1) (fun k o hk _ e => (heap_set6_other hk).trans e) (fun k hk => by have := hin k hk; have := HS.out; omega), hSm, fun k hk => by have := hin k hk; have := HS.out; omega, below_set6 (HB.out.trans (hB2.mono (by have := HS.out; omega))) (by omega)⟩
theorem at_yes (x y : Pt) (a : Option Addr) (m cap : Nat) (Z : Nat → Int) (w : World) (hX : IsP w x) (hsm : x.size ≤ 1048576) (hZ : Ints .i64 w a m Z) (hm : m ≤ 9223372036854775807) (hy : atK x Z m = some y) :
    Calls Try.prog 11 #[x.val, .slice a m cap] w fun e w' => ∃ q : Pt, e = .returned (.tuple #[q.val, .bool true]) ∧ PA w' q ∧ Sm q y ∧ (∀ k, inP k q → w.heap.size ≤ k) ∧ Below w.heap.size w w' := at_yesW x y a m cap Z w hX (wdP_of x hsm) hZ hm hy
set_option maxRecDepth 100000 in
set_option maxHeartbeats 4000000 in
theorem at_no (x : Pt) (a : Option Addr) (m cap : Nat) (Z : Nat → Int) (w : World) (hX : IsP w x) (hZ : Ints .i64 w a m Z) (hm : m ≤ 9223372036854775807) (hy : atK x Z m = none) :
    Calls Try.prog 11 #[x.val, .slice a m cap] w fun e w' => e = .returned (.tuple #[.agg zeroP, .bool false]) ∧ Below w.heap.size w w' := by
  obtain ⟨A, hA, hB, hs, hn, hr⟩ := boxP_res x w
  have HB : Hid (Below w.heap.size w A) := hB
  have HN : Hid (NodeP A w.heap.size 0 x) := hn
  have HX : Hid (IsP A x) := hX.later hB
  have HR : Hid (A.heap[w.heap.size + 1]? = some (.cells zeroP 24 (0, 0))) := hr
  have HZ : Hid (Ints .i64 A a m Z) := fun h0 => by
    obtain ⟨b, o, e, hc⟩ := hZ h0
    exact ⟨b, o, e, fun j hj => ⟨cell_later (hc j hj).1 hB, (hc j hj).2⟩⟩
  have HY : Hid (atK x Z m = none) := hy
  clear hB hn hX hr hZ hy hs
  go_enter Try.func11, Try.ntmps11
  go_wp2
  go_loopw [6, 11] (fun u v wr => ∃ (k b o : Nat) (z : Pt), k ≤ m ∧ u = .pointer (some ⟨b, o, none⟩) ∧ v = .int .i64 k ∧ Hid (atK x Z k = some z) ∧ Hid (NodeP A b o z) ∧ Hid (IsP A z) ∧ wr = A) (fun _ v _ => m - (intOf v).toNat)
  case atStart => exact ⟨0, _, _, x, Nat.zero_le _, rfl, rfl, rfl, HN, HX, rfl⟩
  case round =>
    obtain ⟨k, b, o, z, hk, rfl, rfl, HK, HNZ, HXZ, hwr⟩ := hrel
    subst hwr
    have hkm : k < m := Classical.byContradiction fun h => by
      have := HK.out
      rw [show k = m by omega, HY.out] at this
      cases this
    obtain ⟨b1, o1, rfl, hc⟩ := HZ.out (by omega)
    have ck := (hc k hkm).1
    have HKM : Hid (k < m) := hkm
    obtain ⟨d0, d1, d2, d3, d4, d5⟩ := HNZ.out
    have hzl := HXZ.out.len
    clear hc d0 d1 d2 d3 d4
    obtain ⟨⟨g0, g1, g2, g3, g4, g5⟩, f0, f1, f2, f3, f4, f5⟩ := zero_cells HR.out
    have hblk : (set6 wr (w.heap.size + 1) .nil).heap[w.heap.size + 1]? = some (.cells zeroP 24 (0, 0)) := heap_set6 (z := .nil) HR.out
    have hbel : Below w.heap.size w (set6 wr (w.heap.size + 1) .nil) := below_set6 HB.out (by omega)
    by_cases hneg : Z k < 0
    · go_wp2
      refine bodyPost_ret (results_row_tmp rfl _ _ (w.heap.size + 1) 24 _ (0, 0) _ rfl hblk Try.underlying24 rfl (by kernel_rfl)) rfl ?_
      exact ⟨rfl, hbel⟩
    · obtain ⟨i, hi⟩ : ∃ i : Nat, Z k = i := ⟨(Z k).toNat, by omega⟩
      have HI : Hid (Z k = i) := hi
      rw [hi] at ck
      clear hi hneg
      by_cases hin : i < z.n
      · have HK1 : Hid (atK x Z (k + 1) = some (z.c i)) := atK_yes HK.out HI.out hin
        obtain ⟨b2, o2, ea, hn2, hx2⟩ := HXZ.out.part hin
        rw [ea] at d5
        have HN2 : Hid (NodeP wr b2 (o2 + i * 6) (z.c i)) := hn2
        have HX2 : Hid (IsP wr (z.c i)) := hx2
        clear ea hn2 hx2 hblk hbel g0 g1 g2 g3 g4 g5 f0 f1 f2 f3 f4 f5
        go_wp2
        go_roundw
        case rel => exact ⟨k + 1, b2, o2 + i * 6, z.c i, HKM.out, by simp, by go_num, HK1, HN2, HX2, by first | trivial | rfl⟩
        case measure => have := HKM.out; simp [intOf]; omega
      · have hin' : ((z.n : Nat) : Int) ≤ (i : Int) := by omega
        go_wp2
        refine bodyPost_ret (results_row_tmp rfl _ _ (w.heap.size + 1) 24 _ (0, 0) _ rfl hblk Try.underlying24 rfl (by kernel_rfl)) rfl ?_
        exact ⟨rfl, hbel⟩
end Go.Proofs.Ytjclelmbpmlioaa
