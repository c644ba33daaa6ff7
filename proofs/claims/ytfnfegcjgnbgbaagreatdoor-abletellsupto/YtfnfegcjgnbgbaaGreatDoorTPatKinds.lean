/-
  slices.ContainsFunc of a pattern's parts: is one of the same kind?
  pat.Size.
-/
import Derived.Test.YtfnfegcjgnbgbaaGreatDoorTPatRightMath
import Derived.Test.YtfnfegcjgnbgbaaGreatDoorTAbNote
import Derived.Test.YtfnfegcjgnbgbaaGreatDoorTPatMath
import Derived.BigQuiet
namespace Go.Proofs.YtfnfegcjgnbgbaaGreatDoor
open Go.RowKit

set_option maxRecDepth 100000 in
set_option maxHeartbeats 1000000 in
theorem kindP_any (z : Pt) (Bx b o : Nat) (k : Int) (w : World) (hb : w.cell? ⟨Bx, 0, none⟩ = some (.pointer (some ⟨b, o, none⟩))) (hk : w.cell? ⟨b, o, none⟩ = some (.int .i64 k)) :
    Calls Tryz.prog 95 #[z.val, .pointer (some ⟨Bx, 0, none⟩)] w fun e w' => e = .returned (.bool (z.k == k)) ∧ Below w.heap.size w w' := by
  obtain ⟨A, hA⟩ : ∃ A, w.alloc (.cells z.cells 24) = A := ⟨_, rfl⟩
  have hB : Below w.heap.size w A := by rw [← hA]; exact (Below.refl _ w).alloc (Nat.le_refl _) _
  have n0 : A.cell? ⟨w.heap.size, 0, none⟩ = some (.int .i64 z.k) := by rw [← hA]; exact (nodeP_new w _ z).1
  have c1 := cell_later hb hB
  have c2 := cell_later hk hB
  have HB : Hid (Below w.heap.size w A) := hB
  clear hb hk hB
  go_enter Tryz.func95, Tryz.ntmps95
  go_wp2_with fail
  go_quiet (fail)
  go_wp2
  go_ret
  exact ⟨rfl, bd HB.out _⟩
set_option maxRecDepth 100000 in
set_option maxHeartbeats 1000000 in
theorem kindsP_index (y : Pt) (Bx b o : Nat) (k : Int) (w : World) (hY : IsP w y) (hb : w.cell? ⟨Bx, 0, none⟩ = some (.pointer (some ⟨b, o, none⟩))) (hk : w.cell? ⟨b, o, none⟩ = some (.int .i64 k)) :
    Calls Tryz.prog 105 #[.slice y.a y.n y.cap, .func (.func 95) #[] #[.pointer (some ⟨Bx, 0, none⟩)]] w fun e w' => ∃ r : Int, e = .returned (.int .i64 r) ∧ (0 ≤ r ↔ ∃ i, i < y.n ∧ (y.c i).k = k) ∧ Below w.heap.size w w' := by
  have HY : Hid (IsP w y) := hY
  have hlen := hY.len
  obtain ⟨a, ha⟩ : ∃ a, a = y.a := ⟨_, rfl⟩
  rw [← ha]
  have HA : Hid (a = y.a) := ha
  clear ha
  have Hb : Hid (w.cell? ⟨Bx, 0, none⟩ = some (.pointer (some ⟨b, o, none⟩))) := hb
  have Hk : Hid (w.cell? ⟨b, o, none⟩ = some (.int .i64 k)) := hk
  clear hY hb hk
  go_enter Tryz.func105, Tryz.ntmps105
  go_wp2
  go_loopw [8] (fun u wr => ∃ i : Nat, i ≤ y.n ∧ u = .int .i64 i ∧ Hid (∀ j, j < i → (y.c j).k ≠ k) ∧ Below w.heap.size w wr) (fun u _ => y.n - (intOf u).toNat)
  case atStart => exact ⟨0, Nat.zero_le _, rfl, fun j hj => by omega, Below.refl _ _⟩
  case round =>
    obtain ⟨i, hi, rfl, HI, hB⟩ := hrel
    by_cases hin : i < y.n
    · obtain ⟨b2, o2, ea, hn, hx⟩ := (HY.out.later hB).part hin
      rw [← HA.out] at ea
      subst ea
      obtain ⟨d0, d1, d2, d3, d4, d5⟩ := hn
      have hc := kindP_any (y.c i) Bx b o k wr (cell_later Hb.out hB) (cell_later Hk.out hB)
      have HK : Hid (i < y.n) := hin
      clear hx
      by_cases hv : (y.c i).k = k
      · have hv' : ((y.c i).k == k) = true := by simpa using hv
        have HV : Hid ((y.c i).k = k) := hv
        rw [hv'] at hc
        clear hv hv'
        go_wp2_with (go_at_call 95; refine hc.mono ?_; rintro e w2 ⟨rfl, hB2⟩)
        try rw [Exit.noGoto_ret]
        go_ret
        exact ⟨_, rfl, ⟨fun _ => ⟨i, HK.out, HV.out⟩, fun _ => by omega⟩, hB.trans (hB2.mono hB.size)⟩
      · have hv' : ((y.c i).k == k) = false := by simpa using hv
        have HV : Hid (¬ (y.c i).k = k) := hv
        rw [hv'] at hc
        clear hv hv'
        go_wp2_with (go_at_call 95; refine hc.mono ?_; rintro e w2 ⟨rfl, hB2⟩)
        go_roundw
        case rel => exact ⟨i + 1, HK.out, by go_num, fun j hj => by by_cases e : j = i; (· rw [e]; exact HV.out); exact HI.out j (by omega), hB.trans (hB2.mono hB.size)⟩
        case measure => have := HK.out; simp [intOf]; omega
    · obtain rfl : i = y.n := by omega
      go_wp2
      go_ret
      refine ⟨_, rfl, ⟨fun h => by omega, fun ⟨j, hj, e⟩ => absurd e (HI.out j hj)⟩, hB⟩
set_option maxRecDepth 100000 in
set_option maxHeartbeats 1000000 in
theorem kindsP_any (y : Pt) (Bx b o : Nat) (k : Int) (w : World) (hY : IsP w y) (hb : w.cell? ⟨Bx, 0, none⟩ = some (.pointer (some ⟨b, o, none⟩))) (hk : w.cell? ⟨b, o, none⟩ = some (.int .i64 k)) :
    Calls Tryz.prog 94 #[.slice y.a y.n y.cap, .func (.func 95) #[] #[.pointer (some ⟨Bx, 0, none⟩)]] w fun e w' => ∃ r : Bool, e = .returned (.bool r) ∧ (r = true ↔ ∃ i, i < y.n ∧ (y.c i).k = k) ∧ Below w.heap.size w w' := by
  have hc := kindsP_index y Bx b o k w hY hb hk
  clear hY hb hk
  go_enter Tryz.func94, Tryz.ntmps94
  go_wp2_with (go_at_call 105; refine hc.mono ?_; rintro e w2 ⟨r, rfl, hr, hB2⟩; have HR : Hid (0 ≤ r ↔ ∃ i, i < y.n ∧ (y.c i).k = k) := hr; clear hr)
  go_ret
  exact ⟨decide (0 ≤ r), rfl, by rw [← HR.out]; simp, hB2⟩
theorem ownB_iff (x : Pt) : ownB x = true ↔ ∃ i, i < x.n ∧ (x.c i).k = x.k := by
  unfold ownB
  rw [Bool.not_eq_true']
  constructor
  · intro h
    refine Classical.byContradiction fun hn => ?_
    have : allN (fun i => !((x.c i).k == x.k)) x.n = true := allN_true.2 fun i hi => by
      simp only [Bool.not_eq_true', beq_eq_false_iff_ne]
      exact fun e => hn ⟨i, hi, e⟩
    rw [this] at h
    cases h
  · rintro ⟨i, hi, e⟩
    exact allN_false hi (by simp [e])
theorem ownP_any (x : Pt) (Bx b o : Nat) (w : World) (hX : IsP w x) (hb : w.cell? ⟨Bx, 0, none⟩ = some (.pointer (some ⟨b, o, none⟩))) (hk : w.cell? ⟨b, o, none⟩ = some (.int .i64 x.k)) :
    Calls Tryz.prog 94 #[.slice x.a x.n x.cap, .func (.func 95) #[] #[.pointer (some ⟨Bx, 0, none⟩)]] w fun e w' => e = .returned (.bool (ownB x)) ∧ Below w.heap.size w w' := by
  refine (kindsP_any x Bx b o x.k w hX hb hk).mono ?_
  rintro e w' ⟨r, rfl, hr, hB⟩
  have : r = ownB x := by rw [Bool.eq_iff_iff, hr, ownB_iff]
  rw [this]
  exact ⟨rfl, hB⟩
end Go.Proofs.YtfnfegcjgnbgbaaGreatDoor
namespace Go.Proofs.YtfnfegcjgnbgbaaGreatDoor
open Go.RowKit Go.Shelf
attribute [local go_sem] Oper.semAt_some

set_option maxRecDepth 100000 in
set_option maxHeartbeats 4000000 in
theorem refSizeP_any : ∀ (x : Pt) (w : World), IsP w x → x.size ≤ 1048576 → Calls Tryz.prog 22 #[x.val] w fun e w' => e = .returned (.int .i64 x.size) ∧ Below w.heap.size w w' := by
  refine Pt.ind fun x ih w hX hsm => ?_
  obtain ⟨r, hr⟩ : ∃ r : Int, r = x.size := ⟨_, rfl⟩
  have HR : Hid (r = ((1 + sumN (fun i => (x.c i).size) x.n : Nat) : Int)) := by show r = _; rw [hr, x.size_eq]
  rw [← hr]
  have HI : Hid (∀ i, i < x.n → ∀ w, IsP w (x.c i) → Calls Tryz.prog 22 #[(x.c i).val] w fun e w' => e = .returned (.int .i64 (x.c i).size) ∧ Below w.heap.size w w') := fun i hi w h => ih i hi w h (by have := x.size_part i hi; omega)
  have HX : Hid (IsP w x) := hX
  have hlen := hX.len
  have HS : Hid (∀ k, k < x.n → 1 + sumN (fun i => (x.c i).size) k + (x.c k).size ≤ 1048576) := fun k hk => by have := sumN_part (f := fun i => (x.c i).size) hk; have := x.size_eq; omega
  obtain ⟨A, hA, hB0, hs, hN⟩ := boxP_one x w
  have HB : Hid (Below w.heap.size w A) := hB0
  have HN : Hid (NodeP A w.heap.size 0 x) := hN
  clear ih hX hr hB0 hN hsm
  go_enter Tryz.func22, Tryz.ntmps22
  go_wp2_with fail
  go_loopw [3, 4] (fun u v wr => ∃ k : Nat, k ≤ x.n ∧ u = .int .i64 ((1 + sumN (fun i => (x.c i).size) k : Nat) : Int) ∧ v = .int .i64 k ∧ Below A.heap.size A wr) (fun _ v _ => x.n - (intOf v).toNat)
  case atStart => exact ⟨0, Nat.zero_le _, rfl, rfl, Below.refl _ _⟩
  case round =>
    obtain ⟨k, hk, rfl, rfl, hB⟩ := hrel
    obtain ⟨-, -, -, -, -, c6⟩ := (nodeP_on HN.out (hB.mono (by omega))).at0
    have hw := HB.out.trans (hB.mono (by omega))
    by_cases hkn : k < x.n
    · obtain ⟨b, o, ea, hn, hx⟩ := (HX.out.later hw).part hkn
      rw [ea] at c6
      obtain ⟨d0, d1, d2, d3, d4, d5⟩ := hn
      have hc := HI.out k hkn wr hx
      have HK : Hid (k < x.n) := hkn
      have HQ : Hid (Below w.heap.size w wr) := hw
      have hb := HS.out k hkn
      have HE : Hid (1 + sumN (fun i => (x.c i).size) (k + 1) = 1 + sumN (fun i => (x.c i).size) k + (x.c k).size) := by show _ = _; simp only [sumN]; omega
      generalize 1 + sumN (fun i => (x.c i).size) k = p at hb HE ⊢
      generalize (x.c k).size = q at hc hb HE
      clear hx hw
      go_wp2_with (go_at_call 22; refine hc.mono ?_; rintro e w2 ⟨rfl, hB2⟩)
      exact ⟨⟨k + 1, HK.out, by rw [HE.out]; simp, by simp, hB.trans (hB2.mono hB.size)⟩, by have := HK.out; simp [intOf]; omega⟩
    · have hk' : k = x.n := by omega
      subst hk'
      go_wp2
      go_ret
      exact ⟨ret_int HR.out.symm, hw⟩
def szP : Pt → Int
  | .nil => 1
  | .mk _ _ _ _ _ _ n _ c => accZ (fun i => szP (c i)) n
theorem szP_eq (x : Pt) : szP x = accZ (fun i => szP (x.c i)) x.n := by cases x <;> rfl
set_option maxRecDepth 100000 in
set_option maxHeartbeats 4000000 in
theorem refSizeP_wide : ∀ (x : Pt) (w : World), IsP w x → Calls Tryz.prog 22 #[x.val] w fun e w' => e = .returned (.int .i64 (szP x)) ∧ Below w.heap.size w w' := by
  refine Pt.ind fun x ih w hX => ?_
  obtain ⟨r, hr⟩ : ∃ r, r = szP x := ⟨_, rfl⟩
  have HR : Hid (r = accZ (fun i => szP (x.c i)) x.n) := by show r = _; rw [hr, szP_eq]
  rw [← hr]
  have HI : Hid (∀ i, i < x.n → ∀ w, IsP w (x.c i) → Calls Tryz.prog 22 #[(x.c i).val] w fun e w' => e = .returned (.int .i64 (szP (x.c i))) ∧ Below w.heap.size w w') := ih
  have HX : Hid (IsP w x) := hX
  have hlen := hX.len
  obtain ⟨A, hA, hB0, hs, hN⟩ := boxP_one x w
  have HB : Hid (Below w.heap.size w A) := hB0
  have HN : Hid (NodeP A w.heap.size 0 x) := hN
  clear ih hX hr hB0 hN
  go_enter Tryz.func22, Tryz.ntmps22
  go_wp2_with fail
  go_loopw [3, 4] (fun u v wr => ∃ k : Nat, k ≤ x.n ∧ u = .int .i64 (accZ (fun i => szP (x.c i)) k) ∧ v = .int .i64 k ∧ Below A.heap.size A wr) (fun _ v _ => x.n - (intOf v).toNat)
  case atStart => exact ⟨0, Nat.zero_le _, rfl, rfl, Below.refl _ _⟩
  case round =>
    obtain ⟨k, hk, rfl, rfl, hB⟩ := hrel
    obtain ⟨-, -, -, -, -, c6⟩ := (nodeP_on HN.out (hB.mono (by omega))).at0
    have hw := HB.out.trans (hB.mono (by omega))
    by_cases hkn : k < x.n
    · obtain ⟨b, o, ea, hn, hx⟩ := (HX.out.later hw).part hkn
      rw [ea] at c6
      obtain ⟨d0, d1, d2, d3, d4, d5⟩ := hn
      have hc := HI.out k hkn wr hx
      have HK : Hid (k < x.n) := hkn
      have HQ : Hid (Below w.heap.size w wr) := hw
      clear hx hw
      go_wp2_with (go_at_call 22; refine hc.mono ?_; rintro e w2 ⟨rfl, hB2⟩)
      exact ⟨⟨k + 1, HK.out, rfl, by simp, hB.trans (hB2.mono hB.size)⟩, by have := HK.out; simp [intOf]; omega⟩
    · have hk' : k = x.n := by omega
      subst hk'
      go_wp2
      go_ret
      exact ⟨ret_int HR.out.symm, hw⟩
end Go.Proofs.YtfnfegcjgnbgbaaGreatDoor
