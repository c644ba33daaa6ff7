/-
  slices.ContainsFunc of a pattern's parts: is one of the same kind?
  pat.right at a node: PAtom and PNot.
-/
import Derived.Test.YtkfpgkohkhhlhaaGreatDoorRExprRightPartsD
import Derived.Test.YtkfpgkohkhhlhaaGreatDoorRWlAs
import Derived.Test.YtkfpgkohkhhlhaaGreatDoorRExprAlone
import Derived.BigQuiet
namespace Go.Proofs.YtkfpgkohkhhlhaaGreatDoor
open Go.RowKit

set_option maxRecDepth 100000 in
set_option maxHeartbeats 1000000 in
theorem kindP_any (z : Pt) (Bx b o : Nat) (k : Int) (w : World) (hb : w.cell? ⟨Bx, 0, none⟩ = some (.pointer (some ⟨b, o, none⟩))) (hk : w.cell? ⟨b, o, none⟩ = some (.int .i64 k)) :
    Calls Tryz.prog 144 #[z.val, .pointer (some ⟨Bx, 0, none⟩)] w fun e w' => e = .returned (.bool (z.k == k)) ∧ Below w.heap.size w w' := by
  obtain ⟨A, hA⟩ : ∃ A, w.alloc (.cells z.cells 25) = A := ⟨_, rfl⟩
  have hB : Below w.heap.size w A := by rw [← hA]; exact (Below.refl _ w).alloc (Nat.le_refl _) _
  have n0 : A.cell? ⟨w.heap.size, 0, none⟩ = some (.int .i64 z.k) := by rw [← hA]; exact (nodeP_new w _ z).1
  have c1 := cell_later hb hB
  have c2 := cell_later hk hB
  have HB : Hid (Below w.heap.size w A) := hB
  clear hb hk hB
  go_enter Tryz.func144, Tryz.ntmps144
  go_wp2_with fail
  go_quiet (fail)
  go_wp2
  go_ret
  exact ⟨rfl, bd HB.out _⟩
set_option maxRecDepth 100000 in
set_option maxHeartbeats 1000000 in
theorem kindsP_index (y : Pt) (Bx b o : Nat) (k : Int) (w : World) (hY : IsP w y) (hb : w.cell? ⟨Bx, 0, none⟩ = some (.pointer (some ⟨b, o, none⟩))) (hk : w.cell? ⟨b, o, none⟩ = some (.int .i64 k)) :
    Calls Tryz.prog 174 #[.slice y.a y.n y.cap, .func (.func 144) #[] #[.pointer (some ⟨Bx, 0, none⟩)]] w fun e w' => ∃ r : Int, e = .returned (.int .i64 r) ∧ (0 ≤ r ↔ ∃ i, i < y.n ∧ (y.c i).k = k) ∧ Below w.heap.size w w' := by
  have HY : Hid (IsP w y) := hY
  have hlen := hY.len
  obtain ⟨a, ha⟩ : ∃ a, a = y.a := ⟨_, rfl⟩
  rw [← ha]
  have HA : Hid (a = y.a) := ha
  clear ha
  have Hb : Hid (w.cell? ⟨Bx, 0, none⟩ = some (.pointer (some ⟨b, o, none⟩))) := hb
  have Hk : Hid (w.cell? ⟨b, o, none⟩ = some (.int .i64 k)) := hk
  clear hY hb hk
  go_enter Tryz.func174, Tryz.ntmps174
  go_wp2
  go_loopw [8] (fun u wr => ∃ i : Nat, i ≤ y.n ∧ u = .int .i64 i ∧ Hid (∀ j, j < i → (y.c j).k ≠ k) ∧ Below w.heap.size w wr) (fun u _ => y.n - (intOf u).toNat)
  case atStart => exact ⟨0, Nat.zero_le _, rfl, fun j hj => by omega, Below.refl _ _⟩
  case round =>
    obtain ⟨i, hi, rfl, HI, hB⟩ := hrel
    by_cases hin : i < y.n
    · obtain ⟨b2, o2, ea, hn, hx⟩ := (HY.out.later hB).part hin
      rw [← HA.out] at ea
      subst ea
      obtain ⟨d0, d1, d2, d3, d4, d5⟩ := hn
      have hc := kindP_any (y.c i) Bx b o k wr (cell_later Hb.out hB) (cell_later Hk.out hB)
      have HK : Hid (i < y.n) := hin
      clear hx
      by_cases hv : (y.c i).k = k
      · have hv' : ((y.c i).k == k) = true := by simpa using hv
        have HV : Hid ((y.c i).k = k) := hv
        rw [hv'] at hc
        clear hv hv'
        go_wp2_with (go_at_call 144; refine hc.mono ?_; rintro e w2 ⟨rfl, hB2⟩)
        try rw [Exit.noGoto_ret]
        go_ret
        exact ⟨_, rfl, ⟨fun _ => ⟨i, HK.out, HV.out⟩, fun _ => by omega⟩, hB.trans (hB2.mono hB.size)⟩
      · have hv' : ((y.c i).k == k) = false := by simpa using hv
        have HV : Hid (¬ (y.c i).k = k) := hv
        rw [hv'] at hc
        clear hv hv'
        go_wp2_with (go_at_call 144; refine hc.mono ?_; rintro e w2 ⟨rfl, hB2⟩)
        go_roundw
        case rel => exact ⟨i + 1, HK.out, by go_num, fun j hj => by by_cases e : j = i; (· rw [e]; exact HV.out); exact HI.out j (by omega), hB.trans (hB2.mono hB.size)⟩
        case measure => have := HK.out; simp [intOf]; omega
    · obtain rfl : i = y.n := by omega
      go_wp2
      go_ret
      refine ⟨_, rfl, ⟨fun h => by omega, fun ⟨j, hj, e⟩ => absurd e (HI.out j hj)⟩, hB⟩
set_option maxRecDepth 100000 in
set_option maxHeartbeats 1000000 in
theorem kindsP_any (y : Pt) (Bx b o : Nat) (k : Int) (w : World) (hY : IsP w y) (hb : w.cell? ⟨Bx, 0, none⟩ = some (.pointer (some ⟨b, o, none⟩))) (hk : w.cell? ⟨b, o, none⟩ = some (.int .i64 k)) :
    Calls Tryz.prog 143 #[.slice y.a y.n y.cap, .func (.func 144) #[] #[.pointer (some ⟨Bx, 0, none⟩)]] w fun e w' => ∃ r : Bool, e = .returned (.bool r) ∧ (r = true ↔ ∃ i, i < y.n ∧ (y.c i).k = k) ∧ Below w.heap.size w w' := by
  have hc := kindsP_index y Bx b o k w hY hb hk
  clear hY hb hk
  go_enter Tryz.func143, Tryz.ntmps143
  go_wp2_with (go_at_call 174; refine hc.mono ?_; rintro e w2 ⟨r, rfl, hr, hB2⟩; have HR : Hid (0 ≤ r ↔ ∃ i, i < y.n ∧ (y.c i).k = k) := hr; clear hr)
  go_ret
  exact ⟨decide (0 ≤ r), rfl, by rw [← HR.out]; simp, hB2⟩
theorem ownB_iff (x : Pt) : ownB x = true ↔ ∃ i, i < x.n ∧ (x.c i).k = x.k := by
  unfold ownB
  rw [Bool.not_eq_true']
  constructor
  · intro h
    refine Classical.byContradiction fun hn => ?_
    have : allN (fun i => !((x.c i).k == x.k)) x.n = true := allN_true.2 fun i hi => by
      simp only [Bool.not_eq_true', beq_eq_false_iff_ne]
      exact fun e => hn ⟨i, hi, e⟩
    rw [this] at h
    cases h
  · rintro ⟨i, hi, e⟩
    exact allN_false hi (by simp [e])
theorem ownP_any (x : Pt) (Bx b o : Nat) (w : World) (hX : IsP w x) (hb : w.cell? ⟨Bx, 0, none⟩ = some (.pointer (some ⟨b, o, none⟩))) (hk : w.cell? ⟨b, o, none⟩ = some (.int .i64 x.k)) :
    Calls Tryz.prog 143 #[.slice x.a x.n x.cap, .func (.func 144) #[] #[.pointer (some ⟨Bx, 0, none⟩)]] w fun e w' => e = .returned (.bool (ownB x)) ∧ Below w.heap.size w w' := by
  refine (kindsP_any x Bx b o x.k w hX hb hk).mono ?_
  rintro e w' ⟨r, rfl, hr, hB⟩
  have : r = ownB x := by rw [Bool.eq_iff_iff, hr, ownB_iff]
  rw [this]
  exact ⟨rfl, hB⟩
end Go.Proofs.YtkfpgkohkhhlhaaGreatDoor
namespace Go.Proofs.YtkfpgkohkhhlhaaGreatDoor
open Go.RowKit

set_option maxRecDepth 100000 in
set_option maxHeartbeats 2000000 in
theorem rP1_0 (x : Pt) (b o : Nat) (w : World) (hN : NodeP w b o x) (k1 : (x.k == 1) = true) (h1 : nameB x.s = false) : Calls Tryz.prog 105 #[.pointer (some ⟨b, o, none⟩)] w fun e w' => e = .returned (.bool false) ∧ Below w.heap.size w w' := by
  obtain ⟨A, hA⟩ : ∃ A, w.alloc (.cells #[.pointer (some ⟨b, o, none⟩)] 84) = A := ⟨_, rfl⟩
  have hB : Below w.heap.size w A := by rw [← hA]; exact (Below.refl _ w).alloc (Nat.le_refl _) _
  have hs : A.heap.size = w.heap.size + 1 := by rw [← hA]; simp
  have HN : Hid (NodeP A b o x) := hN.later hB
  have HP : Hid (Boxed A w.heap.size 84 (.pointer (some ⟨b, o, none⟩))) := by show Boxed _ _ _ _; rw [← hA]; exact Boxed.new _ _ _
  have cp := HP.out.cell
  obtain ⟨d0, d1, d2, d3, d4, d5⟩ := HN.out
  have HB : Hid (Below w.heap.size w A) := hB
  have N1 : Hid (∀ d, Calls Tryz.prog 103 #[.string x.s] d fun e w' => e = .returned (.bool false) ∧ Below d.heap.size d w') := fun d => by have := name_any x.s d; rw [h1] at this; exact this
  clear hB hN h1
  go_enter Tryz.func105, Tryz.ntmps105
  go_wp2_with (first
    | (go_at_call 103; refine (N1.out _).mono ?_; clear N1; rintro e w1 ⟨rfl, hB1⟩; have cp1 := (Boxed.kept_of HP.out hB1 (by omega)).cell; obtain ⟨e0, e1, e2, e3, e4, e5⟩ := HN.out.later hB1))
  go_ret
  exact ⟨rfl, HB.out.trans (hB1.mono (by omega))⟩
set_option maxRecDepth 100000 in
set_option maxHeartbeats 2000000 in
theorem rP1_1 (x : Pt) (b o : Nat) (w : World) (hN : NodeP w b o x) (k1 : (x.k == 1) = true) (h1 : nameB x.s = true) (h2 : nameB x.t = false) : Calls Tryz.prog 105 #[.pointer (some ⟨b, o, none⟩)] w fun e w' => e = .returned (.bool false) ∧ Below w.heap.size w w' := by
  obtain ⟨A, hA⟩ : ∃ A, w.alloc (.cells #[.pointer (some ⟨b, o, none⟩)] 84) = A := ⟨_, rfl⟩
  have hB : Below w.heap.size w A := by rw [← hA]; exact (Below.refl _ w).alloc (Nat.le_refl _) _
  have hs : A.heap.size = w.heap.size + 1 := by rw [← hA]; simp
  have HN : Hid (NodeP A b o x) := hN.later hB
  have HP : Hid (Boxed A w.heap.size 84 (.pointer (some ⟨b, o, none⟩))) := by show Boxed _ _ _ _; rw [← hA]; exact Boxed.new _ _ _
  have cp := HP.out.cell
  obtain ⟨d0, d1, d2, d3, d4, d5⟩ := HN.out
  have HB : Hid (Below w.heap.size w A) := hB
  have N1 : Hid (∀ d, Calls Tryz.prog 103 #[.string x.s] d fun e w' => e = .returned (.bool true) ∧ Below d.heap.size d w') := fun d => by have := name_any x.s d; rw [h1] at this; exact this
  have N2 : Hid (∀ d, Calls Tryz.prog 103 #[.string x.t] d fun e w' => e = .returned (.bool false) ∧ Below d.heap.size d w') := fun d => by have := name_any x.t d; rw [h2] at this; exact this
  clear hB hN h1 h2
  go_enter Tryz.func105, Tryz.ntmps105
  go_wp2_with (first
    | (go_at_call 103; refine (N1.out _).mono ?_; clear N1; rintro e w1 ⟨rfl, hB1⟩; have cp1 := (Boxed.kept_of HP.out hB1 (by omega)).cell; obtain ⟨e0, e1, e2, e3, e4, e5⟩ := HN.out.later hB1)
    | (go_at_call 103; refine (N2.out _).mono ?_; clear N2; rintro e w2 ⟨rfl, hB2⟩; have hB12 := hB1.trans (hB2.mono hB1.size); have cp2 := (Boxed.kept_of HP.out hB12 (by omega)).cell; obtain ⟨g0, g1, g2, g3, g4, g5⟩ := HN.out.later hB12))
  go_ret
  exact ⟨rfl, HB.out.trans (hB12.mono (by omega))⟩
set_option maxRecDepth 100000 in
set_option maxHeartbeats 2000000 in
theorem rP1_2 (x : Pt) (b o : Nat) (w : World) (hN : NodeP w b o x) (k1 : (x.k == 1) = true) (h1 : nameB x.s = true) (h2 : nameB x.t = true) (h3 : (x.lo == 0) = false) : Calls Tryz.prog 105 #[.pointer (some ⟨b, o, none⟩)] w fun e w' => e = .returned (.bool false) ∧ Below w.heap.size w w' := by
  obtain ⟨A, hA⟩ : ∃ A, w.alloc (.cells #[.pointer (some ⟨b, o, none⟩)] 84) = A := ⟨_, rfl⟩
  have hB : Below w.heap.size w A := by rw [← hA]; exact (Below.refl _ w).alloc (Nat.le_refl _) _
  have hs : A.heap.size = w.heap.size + 1 := by rw [← hA]; simp
  have HN : Hid (NodeP A b o x) := hN.later hB
  have HP : Hid (Boxed A w.heap.size 84 (.pointer (some ⟨b, o, none⟩))) := by show Boxed _ _ _ _; rw [← hA]; exact Boxed.new _ _ _
  have cp := HP.out.cell
  obtain ⟨d0, d1, d2, d3, d4, d5⟩ := HN.out
  have HB : Hid (Below w.heap.size w A) := hB
  have N1 : Hid (∀ d, Calls Tryz.prog 103 #[.string x.s] d fun e w' => e = .returned (.bool true) ∧ Below d.heap.size d w') := fun d => by have := name_any x.s d; rw [h1] at this; exact this
  have N2 : Hid (∀ d, Calls Tryz.prog 103 #[.string x.t] d fun e w' => e = .returned (.bool true) ∧ Below d.heap.size d w') := fun d => by have := name_any x.t d; rw [h2] at this; exact this
  clear hB hN h1 h2
  go_enter Tryz.func105, Tryz.ntmps105
  go_wp2_with (first
    | (go_at_call 103; refine (N1.out _).mono ?_; clear N1; rintro e w1 ⟨rfl, hB1⟩; have cp1 := (Boxed.kept_of HP.out hB1 (by omega)).cell; obtain ⟨e0, e1, e2, e3, e4, e5⟩ := HN.out.later hB1)
    | (go_at_call 103; refine (N2.out _).mono ?_; clear N2; rintro e w2 ⟨rfl, hB2⟩; have hB12 := hB1.trans (hB2.mono hB1.size); have cp2 := (Boxed.kept_of HP.out hB12 (by omega)).cell; obtain ⟨g0, g1, g2, g3, g4, g5⟩ := HN.out.later hB12))
  go_ret
  exact ⟨rfl, HB.out.trans (hB12.mono (by omega))⟩
set_option maxRecDepth 100000 in
set_option maxHeartbeats 2000000 in
theorem rP1_3 (x : Pt) (b o : Nat) (w : World) (hN : NodeP w b o x) (k1 : (x.k == 1) = true) (h1 : nameB x.s = true) (h2 : nameB x.t = true) (h3 : (x.lo == 0) = true) (h4 : (x.hi == 0) = false) : Calls Tryz.prog 105 #[.pointer (some ⟨b, o, none⟩)] w fun e w' => e = .returned (.bool false) ∧ Below w.heap.size w w' := by
  obtain ⟨A, hA⟩ : ∃ A, w.alloc (.cells #[.pointer (some ⟨b, o, none⟩)] 84) = A := ⟨_, rfl⟩
  have hB : Below w.heap.size w A := by rw [← hA]; exact (Below.refl _ w).alloc (Nat.le_refl _) _
  have hs : A.heap.size = w.heap.size + 1 := by rw [← hA]; simp
  have HN : Hid (NodeP A b o x) := hN.later hB
  have HP : Hid (Boxed A w.heap.size 84 (.pointer (some ⟨b, o, none⟩))) := by show Boxed _ _ _ _; rw [← hA]; exact Boxed.new _ _ _
  have cp := HP.out.cell
  obtain ⟨d0, d1, d2, d3, d4, d5⟩ := HN.out
  have HB : Hid (Below w.heap.size w A) := hB
  have N1 : Hid (∀ d, Calls Tryz.prog 103 #[.string x.s] d fun e w' => e = .returned (.bool true) ∧ Below d.heap.size d w') := fun d => by have := name_any x.s d; rw [h1] at this; exact this
  have N2 : Hid (∀ d, Calls Tryz.prog 103 #[.string x.t] d fun e w' => e = .returned (.bool true) ∧ Below d.heap.size d w') := fun d => by have := name_any x.t d; rw [h2] at this; exact this
  clear hB hN h1 h2
  go_enter Tryz.func105, Tryz.ntmps105
  go_wp2_with (first
    | (go_at_call 103; refine (N1.out _).mono ?_; clear N1; rintro e w1 ⟨rfl, hB1⟩; have cp1 := (Boxed.kept_of HP.out hB1 (by omega)).cell; obtain ⟨e0, e1, e2, e3, e4, e5⟩ := HN.out.later hB1)
    | (go_at_call 103; refine (N2.out _).mono ?_; clear N2; rintro e w2 ⟨rfl, hB2⟩; have hB12 := hB1.trans (hB2.mono hB1.size); have cp2 := (Boxed.kept_of HP.out hB12 (by omega)).cell; obtain ⟨g0, g1, g2, g3, g4, g5⟩ := HN.out.later hB12))
  go_ret
  exact ⟨rfl, HB.out.trans (hB12.mono (by omega))⟩
set_option maxRecDepth 100000 in
set_option maxHeartbeats 2000000 in
theorem rP1_4 (x : Pt) (b o : Nat) (w : World) (hN : NodeP w b o x) (k1 : (x.k == 1) = true) (h1 : nameB x.s = true) (h2 : nameB x.t = true) (h3 : (x.lo == 0) = true) (h4 : (x.hi == 0) = true) (h5 : (((x.n : Nat) : Int) == 0) = false) : Calls Tryz.prog 105 #[.pointer (some ⟨b, o, none⟩)] w fun e w' => e = .returned (.bool false) ∧ Below w.heap.size w w' := by
  obtain ⟨A, hA⟩ : ∃ A, w.alloc (.cells #[.pointer (some ⟨b, o, none⟩)] 84) = A := ⟨_, rfl⟩
  have hB : Below w.heap.size w A := by rw [← hA]; exact (Below.refl _ w).alloc (Nat.le_refl _) _
  have hs : A.heap.size = w.heap.size + 1 := by rw [← hA]; simp
  have HN : Hid (NodeP A b o x) := hN.later hB
  have HP : Hid (Boxed A w.heap.size 84 (.pointer (some ⟨b, o, none⟩))) := by show Boxed _ _ _ _; rw [← hA]; exact Boxed.new _ _ _
  have cp := HP.out.cell
  obtain ⟨d0, d1, d2, d3, d4, d5⟩ := HN.out
  have HB : Hid (Below w.heap.size w A) := hB
  have N1 : Hid (∀ d, Calls Tryz.prog 103 #[.string x.s] d fun e w' => e = .returned (.bool true) ∧ Below d.heap.size d w') := fun d => by have := name_any x.s d; rw [h1] at this; exact this
  have N2 : Hid (∀ d, Calls Tryz.prog 103 #[.string x.t] d fun e w' => e = .returned (.bool true) ∧ Below d.heap.size d w') := fun d => by have := name_any x.t d; rw [h2] at this; exact this
  clear hB hN h1 h2
  go_enter Tryz.func105, Tryz.ntmps105
  go_wp2_with (first
    | (go_at_call 103; refine (N1.out _).mono ?_; clear N1; rintro e w1 ⟨rfl, hB1⟩; have cp1 := (Boxed.kept_of HP.out hB1 (by omega)).cell; obtain ⟨e0, e1, e2, e3, e4, e5⟩ := HN.out.later hB1)
    | (go_at_call 103; refine (N2.out _).mono ?_; clear N2; rintro e w2 ⟨rfl, hB2⟩; have hB12 := hB1.trans (hB2.mono hB1.size); have cp2 := (Boxed.kept_of HP.out hB12 (by omega)).cell; obtain ⟨g0, g1, g2, g3, g4, g5⟩ := HN.out.later hB12))
  go_ret
  exact ⟨rfl, HB.out.trans (hB12.mono (by omega))⟩
set_option maxRecDepth 100000 in
set_option maxHeartbeats 2000000 in
theorem rP1_5 (x : Pt) (b o : Nat) (w : World) (hN : NodeP w b o x) (k1 : (x.k == 1) = true) (h1 : nameB x.s = true) (h2 : nameB x.t = true) (h3 : (x.lo == 0) = true) (h4 : (x.hi == 0) = true) (h5 : (((x.n : Nat) : Int) == 0) = true) : Calls Tryz.prog 105 #[.pointer (some ⟨b, o, none⟩)] w fun e w' => e = .returned (.bool true) ∧ Below w.heap.size w w' := by
  obtain ⟨A, hA⟩ : ∃ A, w.alloc (.cells #[.pointer (some ⟨b, o, none⟩)] 84) = A := ⟨_, rfl⟩
  have hB : Below w.heap.size w A := by rw [← hA]; exact (Below.refl _ w).alloc (Nat.le_refl _) _
  have hs : A.heap.size = w.heap.size + 1 := by rw [← hA]; simp
  have HN : Hid (NodeP A b o x) := hN.later hB
  have HP : Hid (Boxed A w.heap.size 84 (.pointer (some ⟨b, o, none⟩))) := by show Boxed _ _ _ _; rw [← hA]; exact Boxed.new _ _ _
  have cp := HP.out.cell
  obtain ⟨d0, d1, d2, d3, d4, d5⟩ := HN.out
  have HB : Hid (Below w.heap.size w A) := hB
  have N1 : Hid (∀ d, Calls Tryz.prog 103 #[.string x.s] d fun e w' => e = .returned (.bool true) ∧ Below d.heap.size d w') := fun d => by have := name_any x.s d; rw [h1] at this; exact this
  have N2 : Hid (∀ d, Calls Tryz.prog 103 #[.string x.t] d fun e w' => e = .returned (.bool true) ∧ Below d.heap.size d w') := fun d => by have := name_any x.t d; rw [h2] at this; exact this
  clear hB hN h1 h2
  go_enter Tryz.func105, Tryz.ntmps105
  go_wp2_with (first
    | (go_at_call 103; refine (N1.out _).mono ?_; clear N1; rintro e w1 ⟨rfl, hB1⟩; have cp1 := (Boxed.kept_of HP.out hB1 (by omega)).cell; obtain ⟨e0, e1, e2, e3, e4, e5⟩ := HN.out.later hB1)
    | (go_at_call 103; refine (N2.out _).mono ?_; clear N2; rintro e w2 ⟨rfl, hB2⟩; have hB12 := hB1.trans (hB2.mono hB1.size); have cp2 := (Boxed.kept_of HP.out hB12 (by omega)).cell; obtain ⟨g0, g1, g2, g3, g4, g5⟩ := HN.out.later hB12))
  go_ret
  exact ⟨rfl, HB.out.trans (hB12.mono (by omega))⟩
theorem rP1_any (x : Pt) (b o : Nat) (w : World) (hN : NodeP w b o x) (k1 : (x.k == 1) = true) : Calls Tryz.prog 105 #[.pointer (some ⟨b, o, none⟩)] w fun e w' => e = .returned (.bool (leafB x)) ∧ Below w.heap.size w w' := by
  cases h1 : nameB x.s with
  | false => rw [show leafB x = false by simp [leafB, h1]]; exact rP1_0 x b o w hN k1 h1
  | true =>
    cases h2 : nameB x.t with
    | false => rw [show leafB x = false by simp [leafB, h2]]; exact rP1_1 x b o w hN k1 h1 h2
    | true =>
      cases h3 : (x.lo == 0) with
      | false => rw [show leafB x = false by simp [leafB, h3]]; exact rP1_2 x b o w hN k1 h1 h2 h3
      | true =>
        cases h4 : (x.hi == 0) with
        | false => rw [show leafB x = false by simp [leafB, h4]]; exact rP1_3 x b o w hN k1 h1 h2 h3 h4
        | true =>
          cases h5 : (x.n == 0) with
          | false => rw [show leafB x = false by simp [leafB, h5]]; exact rP1_4 x b o w hN k1 h1 h2 h3 h4 (by simp at h5 ⊢; omega)
          | true => rw [show leafB x = true by simp [leafB, h1, h2, h3, h4, h5]]; exact rP1_5 x b o w hN k1 h1 h2 h3 h4 (by simp at h5 ⊢; omega)
set_option maxRecDepth 100000 in
set_option maxHeartbeats 2000000 in
theorem rP6_0 (x : Pt) (b o : Nat) (w : World) (hN : NodeP w b o x) (k1 : (x.k == 1) = false) (k6 : (x.k == 6) = true) (h1 : nameB x.s = false) : Calls Tryz.prog 105 #[.pointer (some ⟨b, o, none⟩)] w fun e w' => e = .returned (.bool false) ∧ Below w.heap.size w w' := by
  obtain ⟨A, hA⟩ : ∃ A, w.alloc (.cells #[.pointer (some ⟨b, o, none⟩)] 84) = A := ⟨_, rfl⟩
  have hB : Below w.heap.size w A := by rw [← hA]; exact (Below.refl _ w).alloc (Nat.le_refl _) _
  have hs : A.heap.size = w.heap.size + 1 := by rw [← hA]; simp
  have HN : Hid (NodeP A b o x) := hN.later hB
  have HP : Hid (Boxed A w.heap.size 84 (.pointer (some ⟨b, o, none⟩))) := by show Boxed _ _ _ _; rw [← hA]; exact Boxed.new _ _ _
  have cp := HP.out.cell
  obtain ⟨d0, d1, d2, d3, d4, d5⟩ := HN.out
  have HB : Hid (Below w.heap.size w A) := hB
  have N1 : Hid (∀ d, Calls Tryz.prog 103 #[.string x.s] d fun e w' => e = .returned (.bool false) ∧ Below d.heap.size d w') := fun d => by have := name_any x.s d; rw [h1] at this; exact this
  clear hB hN h1
  go_enter Tryz.func105, Tryz.ntmps105
  go_wp2_with (first
    | (go_at_call 103; refine (N1.out _).mono ?_; clear N1; rintro e w1 ⟨rfl, hB1⟩; have cp1 := (Boxed.kept_of HP.out hB1 (by omega)).cell; obtain ⟨e0, e1, e2, e3, e4, e5⟩ := HN.out.later hB1))
  go_ret
  exact ⟨rfl, HB.out.trans (hB1.mono (by omega))⟩
set_option maxRecDepth 100000 in
set_option maxHeartbeats 2000000 in
theorem rP6_1 (x : Pt) (b o : Nat) (w : World) (hN : NodeP w b o x) (k1 : (x.k == 1) = false) (k6 : (x.k == 6) = true) (h1 : nameB x.s = true) (h2 : nameB x.t = false) : Calls Tryz.prog 105 #[.pointer (some ⟨b, o, none⟩)] w fun e w' => e = .returned (.bool false) ∧ Below w.heap.size w w' := by
  obtain ⟨A, hA⟩ : ∃ A, w.alloc (.cells #[.pointer (some ⟨b, o, none⟩)] 84) = A := ⟨_, rfl⟩
  have hB : Below w.heap.size w A := by rw [← hA]; exact (Below.refl _ w).alloc (Nat.le_refl _) _
  have hs : A.heap.size = w.heap.size + 1 := by rw [← hA]; simp
  have HN : Hid (NodeP A b o x) := hN.later hB
  have HP : Hid (Boxed A w.heap.size 84 (.pointer (some ⟨b, o, none⟩))) := by show Boxed _ _ _ _; rw [← hA]; exact Boxed.new _ _ _
  have cp := HP.out.cell
  obtain ⟨d0, d1, d2, d3, d4, d5⟩ := HN.out
  have HB : Hid (Below w.heap.size w A) := hB
  have N1 : Hid (∀ d, Calls Tryz.prog 103 #[.string x.s] d fun e w' => e = .returned (.bool true) ∧ Below d.heap.size d w') := fun d => by have := name_any x.s d; rw [h1] at this; exact this
  have N2 : Hid (∀ d, Calls Tryz.prog 103 #[.string x.t] d fun e w' => e = .returned (.bool false) ∧ Below d.heap.size d w') := fun d => by have := name_any x.t d; rw [h2] at this; exact this
  clear hB hN h1 h2
  go_enter Tryz.func105, Tryz.ntmps105
  go_wp2_with (first
    | (go_at_call 103; refine (N1.out _).mono ?_; clear N1; rintro e w1 ⟨rfl, hB1⟩; have cp1 := (Boxed.kept_of HP.out hB1 (by omega)).cell; obtain ⟨e0, e1, e2, e3, e4, e5⟩ := HN.out.later hB1)
    | (go_at_call 103; refine (N2.out _).mono ?_; clear N2; rintro e w2 ⟨rfl, hB2⟩; have hB12 := hB1.trans (hB2.mono hB1.size); have cp2 := (Boxed.kept_of HP.out hB12 (by omega)).cell; obtain ⟨g0, g1, g2, g3, g4, g5⟩ := HN.out.later hB12))
  go_ret
  exact ⟨rfl, HB.out.trans (hB12.mono (by omega))⟩
set_option maxRecDepth 100000 in
set_option maxHeartbeats 2000000 in
theorem rP6_2 (x : Pt) (b o : Nat) (w : World) (hN : NodeP w b o x) (k1 : (x.k == 1) = false) (k6 : (x.k == 6) = true) (h1 : nameB x.s = true) (h2 : nameB x.t = true) (h3 : (x.lo == 0) = false) : Calls Tryz.prog 105 #[.pointer (some ⟨b, o, none⟩)] w fun e w' => e = .returned (.bool false) ∧ Below w.heap.size w w' := by
  obtain ⟨A, hA⟩ : ∃ A, w.alloc (.cells #[.pointer (some ⟨b, o, none⟩)] 84) = A := ⟨_, rfl⟩
  have hB : Below w.heap.size w A := by rw [← hA]; exact (Below.refl _ w).alloc (Nat.le_refl _) _
  have hs : A.heap.size = w.heap.size + 1 := by rw [← hA]; simp
  have HN : Hid (NodeP A b o x) := hN.later hB
  have HP : Hid (Boxed A w.heap.size 84 (.pointer (some ⟨b, o, none⟩))) := by show Boxed _ _ _ _; rw [← hA]; exact Boxed.new _ _ _
  have cp := HP.out.cell
  obtain ⟨d0, d1, d2, d3, d4, d5⟩ := HN.out
  have HB : Hid (Below w.heap.size w A) := hB
  have N1 : Hid (∀ d, Calls Tryz.prog 103 #[.string x.s] d fun e w' => e = .returned (.bool true) ∧ Below d.heap.size d w') := fun d => by have := name_any x.s d; rw [h1] at this; exact this
  have N2 : Hid (∀ d, Calls Tryz.prog 103 #[.string x.t] d fun e w' => e = .returned (.bool true) ∧ Below d.heap.size d w') := fun d => by have := name_any x.t d; rw [h2] at this; exact this
  clear hB hN h1 h2
  go_enter Tryz.func105, Tryz.ntmps105
  go_wp2_with (first
    | (go_at_call 103; refine (N1.out _).mono ?_; clear N1; rintro e w1 ⟨rfl, hB1⟩; have cp1 := (Boxed.kept_of HP.out hB1 (by omega)).cell; obtain ⟨e0, e1, e2, e3, e4, e5⟩ := HN.out.later hB1)
    | (go_at_call 103; refine (N2.out _).mono ?_; clear N2; rintro e w2 ⟨rfl, hB2⟩; have hB12 := hB1.trans (hB2.mono hB1.size); have cp2 := (Boxed.kept_of HP.out hB12 (by omega)).cell; obtain ⟨g0, g1, g2, g3, g4, g5⟩ := HN.out.later hB12))
  go_ret
  exact ⟨rfl, HB.out.trans (hB12.mono (by omega))⟩
set_option maxRecDepth 100000 in
set_option maxHeartbeats 2000000 in
theorem rP6_3 (x : Pt) (b o : Nat) (w : World) (hN : NodeP w b o x) (k1 : (x.k == 1) = false) (k6 : (x.k == 6) = true) (h1 : nameB x.s = true) (h2 : nameB x.t = true) (h3 : (x.lo == 0) = true) (h4 : (x.hi == 0) = false) : Calls Tryz.prog 105 #[.pointer (some ⟨b, o, none⟩)] w fun e w' => e = .returned (.bool false) ∧ Below w.heap.size w w' := by
  obtain ⟨A, hA⟩ : ∃ A, w.alloc (.cells #[.pointer (some ⟨b, o, none⟩)] 84) = A := ⟨_, rfl⟩
  have hB : Below w.heap.size w A := by rw [← hA]; exact (Below.refl _ w).alloc (Nat.le_refl _) _
  have hs : A.heap.size = w.heap.size + 1 := by rw [← hA]; simp
  have HN : Hid (NodeP A b o x) := hN.later hB
  have HP : Hid (Boxed A w.heap.size 84 (.pointer (some ⟨b, o, none⟩))) := by show Boxed _ _ _ _; rw [← hA]; exact Boxed.new _ _ _
  have cp := HP.out.cell
  obtain ⟨d0, d1, d2, d3, d4, d5⟩ := HN.out
  have HB : Hid (Below w.heap.size w A) := hB
  have N1 : Hid (∀ d, Calls Tryz.prog 103 #[.string x.s] d fun e w' => e = .returned (.bool true) ∧ Below d.heap.size d w') := fun d => by have := name_any x.s d; rw [h1] at this; exact this
  have N2 : Hid (∀ d, Calls Tryz.prog 103 #[.string x.t] d fun e w' => e = .returned (.bool true) ∧ Below d.heap.size d w') := fun d => by have := name_any x.t d; rw [h2] at this; exact this
  clear hB hN h1 h2
  go_enter Tryz.func105, Tryz.ntmps105
  go_wp2_with (first
    | (go_at_call 103; refine (N1.out _).mono ?_; clear N1; rintro e w1 ⟨rfl, hB1⟩; have cp1 := (Boxed.kept_of HP.out hB1 (by omega)).cell; obtain ⟨e0, e1, e2, e3, e4, e5⟩ := HN.out.later hB1)
    | (go_at_call 103; refine (N2.out _).mono ?_; clear N2; rintro e w2 ⟨rfl, hB2⟩; have hB12 := hB1.trans (hB2.mono hB1.size); have cp2 := (Boxed.kept_of HP.out hB12 (by omega)).cell; obtain ⟨g0, g1, g2, g3, g4, g5⟩ := HN.out.later hB12))
  go_ret
  exact ⟨rfl, HB.out.trans (hB12.mono (by omega))⟩
set_option maxRecDepth 100000 in
set_option maxHeartbeats 2000000 in
theorem rP6_4 (x : Pt) (b o : Nat) (w : World) (hN : NodeP w b o x) (k1 : (x.k == 1) = false) (k6 : (x.k == 6) = true) (h1 : nameB x.s = true) (h2 : nameB x.t = true) (h3 : (x.lo == 0) = true) (h4 : (x.hi == 0) = true) (h5 : (((x.n : Nat) : Int) == 0) = false) : Calls Tryz.prog 105 #[.pointer (some ⟨b, o, none⟩)] w fun e w' => e = .returned (.bool false) ∧ Below w.heap.size w w' := by
  obtain ⟨A, hA⟩ : ∃ A, w.alloc (.cells #[.pointer (some ⟨b, o, none⟩)] 84) = A := ⟨_, rfl⟩
  have hB : Below w.heap.size w A := by rw [← hA]; exact (Below.refl _ w).alloc (Nat.le_refl _) _
  have hs : A.heap.size = w.heap.size + 1 := by rw [← hA]; simp
  have HN : Hid (NodeP A b o x) := hN.later hB
  have HP : Hid (Boxed A w.heap.size 84 (.pointer (some ⟨b, o, none⟩))) := by show Boxed _ _ _ _; rw [← hA]; exact Boxed.new _ _ _
  have cp := HP.out.cell
  obtain ⟨d0, d1, d2, d3, d4, d5⟩ := HN.out
  have HB : Hid (Below w.heap.size w A) := hB
  have N1 : Hid (∀ d, Calls Tryz.prog 103 #[.string x.s] d fun e w' => e = .returned (.bool true) ∧ Below d.heap.size d w') := fun d => by have := name_any x.s d; rw [h1] at this; exact this
  have N2 : Hid (∀ d, Calls Tryz.prog 103 #[.string x.t] d fun e w' => e = .returned (.bool true) ∧ Below d.heap.size d w') := fun d => by have := name_any x.t d; rw [h2] at this; exact this
  clear hB hN h1 h2
  go_enter Tryz.func105, Tryz.ntmps105
  go_wp2_with (first
    | (go_at_call 103; refine (N1.out _).mono ?_; clear N1; rintro e w1 ⟨rfl, hB1⟩; have cp1 := (Boxed.kept_of HP.out hB1 (by omega)).cell; obtain ⟨e0, e1, e2, e3, e4, e5⟩ := HN.out.later hB1)
    | (go_at_call 103; refine (N2.out _).mono ?_; clear N2; rintro e w2 ⟨rfl, hB2⟩; have hB12 := hB1.trans (hB2.mono hB1.size); have cp2 := (Boxed.kept_of HP.out hB12 (by omega)).cell; obtain ⟨g0, g1, g2, g3, g4, g5⟩ := HN.out.later hB12))
  go_ret
  exact ⟨rfl, HB.out.trans (hB12.mono (by omega))⟩
set_option maxRecDepth 100000 in
set_option maxHeartbeats 2000000 in
theorem rP6_5 (x : Pt) (b o : Nat) (w : World) (hN : NodeP w b o x) (k1 : (x.k == 1) = false) (k6 : (x.k == 6) = true) (h1 : nameB x.s = true) (h2 : nameB x.t = true) (h3 : (x.lo == 0) = true) (h4 : (x.hi == 0) = true) (h5 : (((x.n : Nat) : Int) == 0) = true) : Calls Tryz.prog 105 #[.pointer (some ⟨b, o, none⟩)] w fun e w' => e = .returned (.bool true) ∧ Below w.heap.size w w' := by
  obtain ⟨A, hA⟩ : ∃ A, w.alloc (.cells #[.pointer (some ⟨b, o, none⟩)] 84) = A := ⟨_, rfl⟩
  have hB : Below w.heap.size w A := by rw [← hA]; exact (Below.refl _ w).alloc (Nat.le_refl _) _
  have hs : A.heap.size = w.heap.size + 1 := by rw [← hA]; simp
  have HN : Hid (NodeP A b o x) := hN.later hB
  have HP : Hid (Boxed A w.heap.size 84 (.pointer (some ⟨b, o, none⟩))) := by show Boxed _ _ _ _; rw [← hA]; exact Boxed.new _ _ _
  have cp := HP.out.cell
  obtain ⟨d0, d1, d2, d3, d4, d5⟩ := HN.out
  have HB : Hid (Below w.heap.size w A) := hB
  have N1 : Hid (∀ d, Calls Tryz.prog 103 #[.string x.s] d fun e w' => e = .returned (.bool true) ∧ Below d.heap.size d w') := fun d => by have := name_any x.s d; rw [h1] at this; exact this
  have N2 : Hid (∀ d, Calls Tryz.prog 103 #[.string x.t] d fun e w' => e = .returned (.bool true) ∧ Below d.heap.size d w') := fun d => by have := name_any x.t d; rw [h2] at this; exact this
  clear hB hN h1 h2
  go_enter Tryz.func105, Tryz.ntmps105
  go_wp2_with (first
    | (go_at_call 103; refine (N1.out _).mono ?_; clear N1; rintro e w1 ⟨rfl, hB1⟩; have cp1 := (Boxed.kept_of HP.out hB1 (by omega)).cell; obtain ⟨e0, e1, e2, e3, e4, e5⟩ := HN.out.later hB1)
    | (go_at_call 103; refine (N2.out _).mono ?_; clear N2; rintro e w2 ⟨rfl, hB2⟩; have hB12 := hB1.trans (hB2.mono hB1.size); have cp2 := (Boxed.kept_of HP.out hB12 (by omega)).cell; obtain ⟨g0, g1, g2, g3, g4, g5⟩ := HN.out.later hB12))
  go_ret
  exact ⟨rfl, HB.out.trans (hB12.mono (by omega))⟩
theorem rP6_any (x : Pt) (b o : Nat) (w : World) (hN : NodeP w b o x) (k1 : (x.k == 1) = false) (k6 : (x.k == 6) = true) : Calls Tryz.prog 105 #[.pointer (some ⟨b, o, none⟩)] w fun e w' => e = .returned (.bool (leafB x)) ∧ Below w.heap.size w w' := by
  cases h1 : nameB x.s with
  | false => rw [show leafB x = false by simp [leafB, h1]]; exact rP6_0 x b o w hN k1 k6 h1
  | true =>
    cases h2 : nameB x.t with
    | false => rw [show leafB x = false by simp [leafB, h2]]; exact rP6_1 x b o w hN k1 k6 h1 h2
    | true =>
      cases h3 : (x.lo == 0) with
      | false => rw [show leafB x = false by simp [leafB, h3]]; exact rP6_2 x b o w hN k1 k6 h1 h2 h3
      | true =>
        cases h4 : (x.hi == 0) with
        | false => rw [show leafB x = false by simp [leafB, h4]]; exact rP6_3 x b o w hN k1 k6 h1 h2 h3 h4
        | true =>
          cases h5 : (x.n == 0) with
          | false => rw [show leafB x = false by simp [leafB, h5]]; exact rP6_4 x b o w hN k1 k6 h1 h2 h3 h4 (by simp at h5 ⊢; omega)
          | true => rw [show leafB x = true by simp [leafB, h1, h2, h3, h4, h5]]; exact rP6_5 x b o w hN k1 k6 h1 h2 h3 h4 (by simp at h5 ⊢; omega)
end Go.Proofs.YtkfpgkohkhhlhaaGreatDoor
