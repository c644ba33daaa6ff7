/-
  pat.right at a node: PSeq, PAnd, POr.
  pat.right at a node: any kind.
-/
import Derived.Test.YtfnfegcjgnbgbaaGreatDoorTPatKinds
import Derived.Test.YtfnfegcjgnbgbaaGreatDoorTPatRightA
import Derived.Test.YtfnfegcjgnbgbaaGreatDoorTPatRightB
namespace Go.Proofs.YtfnfegcjgnbgbaaGreatDoor
open Go.RowKit

set_option maxRecDepth 100000 in
set_option maxHeartbeats 2000000 in
theorem rP2_0 (x : Pt) (b o : Nat) (w : World) (hN : NodeP w b o x) (hX : IsP w x) (r : Bool) (hr : ownB x = r) (k1 : (x.k == 1) = false) (k6 : (x.k == 6) = false) (k5 : (x.k == 5) = false) (k2 : (x.k == 2) = true) (h1 : (x.s.toList == []) = false) : Calls Tryz.prog 74 #[.pointer (some ⟨b, o, none⟩)] w fun e w' => e = .returned (.bool false) ∧ Below w.heap.size w w' := by
  obtain ⟨A, hA⟩ : ∃ A, w.alloc (.cells #[.pointer (some ⟨b, o, none⟩)] 81) = A := ⟨_, rfl⟩
  have hB : Below w.heap.size w A := by rw [← hA]; exact (Below.refl _ w).alloc (Nat.le_refl _) _
  have hs : A.heap.size = w.heap.size + 1 := by rw [← hA]; simp
  have HN : Hid (NodeP A b o x) := hN.later hB
  have HP : Hid (Boxed A w.heap.size 81 (.pointer (some ⟨b, o, none⟩))) := by show Boxed _ _ _ _; rw [← hA]; exact Boxed.new _ _ _
  have cp := HP.out.cell
  obtain ⟨d0, d1, d2, d3, d4, d5⟩ := HN.out
  have HB : Hid (Below w.heap.size w A) := hB
  have OW : Hid (Calls Tryz.prog 94 #[.slice x.a x.n x.cap, .func (.func 95) #[] #[.pointer (some ⟨w.heap.size, 0, none⟩)]] A fun e w' => e = .returned (.bool r) ∧ Below A.heap.size A w') := by show Calls _ _ _ _ _; rw [← hr]; exact ownP_any x w.heap.size b o A (hX.later hB) cp HN.out.1
  clear hB hN hX hr
  go_enter Tryz.func74, Tryz.ntmps74
  go_wp2_with (first
    | (go_at_call 94; refine OW.out.mono ?_; clear OW; rintro e w1 ⟨rfl, hB1⟩; have cp1 := (Boxed.kept_of HP.out hB1 (by omega)).cell; obtain ⟨e0, e1, e2, e3, e4, e5⟩ := HN.out.later hB1))
  go_ret
  exact ⟨rfl, HB.out.trans (hB1.mono (by omega))⟩
set_option maxRecDepth 100000 in
set_option maxHeartbeats 2000000 in
theorem rP2_1 (x : Pt) (b o : Nat) (w : World) (hN : NodeP w b o x) (hX : IsP w x) (r : Bool) (hr : ownB x = r) (k1 : (x.k == 1) = false) (k6 : (x.k == 6) = false) (k5 : (x.k == 5) = false) (k2 : (x.k == 2) = true) (h1 : (x.s.toList == []) = true) (h2 : (x.t.toList == []) = false) : Calls Tryz.prog 74 #[.pointer (some ⟨b, o, none⟩)] w fun e w' => e = .returned (.bool false) ∧ Below w.heap.size w w' := by
  obtain ⟨A, hA⟩ : ∃ A, w.alloc (.cells #[.pointer (some ⟨b, o, none⟩)] 81) = A := ⟨_, rfl⟩
  have hB : Below w.heap.size w A := by rw [← hA]; exact (Below.refl _ w).alloc (Nat.le_refl _) _
  have hs : A.heap.size = w.heap.size + 1 := by rw [← hA]; simp
  have HN : Hid (NodeP A b o x) := hN.later hB
  have HP : Hid (Boxed A w.heap.size 81 (.pointer (some ⟨b, o, none⟩))) := by show Boxed _ _ _ _; rw [← hA]; exact Boxed.new _ _ _
  have cp := HP.out.cell
  obtain ⟨d0, d1, d2, d3, d4, d5⟩ := HN.out
  have HB : Hid (Below w.heap.size w A) := hB
  have OW : Hid (Calls Tryz.prog 94 #[.slice x.a x.n x.cap, .func (.func 95) #[] #[.pointer (some ⟨w.heap.size, 0, none⟩)]] A fun e w' => e = .returned (.bool r) ∧ Below A.heap.size A w') := by show Calls _ _ _ _ _; rw [← hr]; exact ownP_any x w.heap.size b o A (hX.later hB) cp HN.out.1
  clear hB hN hX hr
  go_enter Tryz.func74, Tryz.ntmps74
  go_wp2_with (first
    | (go_at_call 94; refine OW.out.mono ?_; clear OW; rintro e w1 ⟨rfl, hB1⟩; have cp1 := (Boxed.kept_of HP.out hB1 (by omega)).cell; obtain ⟨e0, e1, e2, e3, e4, e5⟩ := HN.out.later hB1))
  go_ret
  exact ⟨rfl, HB.out.trans (hB1.mono (by omega))⟩
set_option maxRecDepth 100000 in
set_option maxHeartbeats 2000000 in
theorem rP2_2 (x : Pt) (b o : Nat) (w : World) (hN : NodeP w b o x) (hX : IsP w x) (r : Bool) (hr : ownB x = r) (k1 : (x.k == 1) = false) (k6 : (x.k == 6) = false) (k5 : (x.k == 5) = false) (k2 : (x.k == 2) = true) (h1 : (x.s.toList == []) = true) (h2 : (x.t.toList == []) = true) (h3 : (x.lo == 0) = false) : Calls Tryz.prog 74 #[.pointer (some ⟨b, o, none⟩)] w fun e w' => e = .returned (.bool false) ∧ Below w.heap.size w w' := by
  obtain ⟨A, hA⟩ : ∃ A, w.alloc (.cells #[.pointer (some ⟨b, o, none⟩)] 81) = A := ⟨_, rfl⟩
  have hB : Below w.heap.size w A := by rw [← hA]; exact (Below.refl _ w).alloc (Nat.le_refl _) _
  have hs : A.heap.size = w.heap.size + 1 := by rw [← hA]; simp
  have HN : Hid (NodeP A b o x) := hN.later hB
  have HP : Hid (Boxed A w.heap.size 81 (.pointer (some ⟨b, o, none⟩))) := by show Boxed _ _ _ _; rw [← hA]; exact Boxed.new _ _ _
  have cp := HP.out.cell
  obtain ⟨d0, d1, d2, d3, d4, d5⟩ := HN.out
  have HB : Hid (Below w.heap.size w A) := hB
  have OW : Hid (Calls Tryz.prog 94 #[.slice x.a x.n x.cap, .func (.func 95) #[] #[.pointer (some ⟨w.heap.size, 0, none⟩)]] A fun e w' => e = .returned (.bool r) ∧ Below A.heap.size A w') := by show Calls _ _ _ _ _; rw [← hr]; exact ownP_any x w.heap.size b o A (hX.later hB) cp HN.out.1
  clear hB hN hX hr
  go_enter Tryz.func74, Tryz.ntmps74
  go_wp2_with (first
    | (go_at_call 94; refine OW.out.mono ?_; clear OW; rintro e w1 ⟨rfl, hB1⟩; have cp1 := (Boxed.kept_of HP.out hB1 (by omega)).cell; obtain ⟨e0, e1, e2, e3, e4, e5⟩ := HN.out.later hB1))
  go_ret
  exact ⟨rfl, HB.out.trans (hB1.mono (by omega))⟩
set_option maxRecDepth 100000 in
set_option maxHeartbeats 2000000 in
theorem rP2_3 (x : Pt) (b o : Nat) (w : World) (hN : NodeP w b o x) (hX : IsP w x) (r : Bool) (hr : ownB x = r) (k1 : (x.k == 1) = false) (k6 : (x.k == 6) = false) (k5 : (x.k == 5) = false) (k2 : (x.k == 2) = true) (h1 : (x.s.toList == []) = true) (h2 : (x.t.toList == []) = true) (h3 : (x.lo == 0) = true) (h4 : (x.hi == 0) = false) : Calls Tryz.prog 74 #[.pointer (some ⟨b, o, none⟩)] w fun e w' => e = .returned (.bool false) ∧ Below w.heap.size w w' := by
  obtain ⟨A, hA⟩ : ∃ A, w.alloc (.cells #[.pointer (some ⟨b, o, none⟩)] 81) = A := ⟨_, rfl⟩
  have hB : Below w.heap.size w A := by rw [← hA]; exact (Below.refl _ w).alloc (Nat.le_refl _) _
  have hs : A.heap.size = w.heap.size + 1 := by rw [← hA]; simp
  have HN : Hid (NodeP A b o x) := hN.later hB
  have HP : Hid (Boxed A w.heap.size 81 (.pointer (some ⟨b, o, none⟩))) := by show Boxed _ _ _ _; rw [← hA]; exact Boxed.new _ _ _
  have cp := HP.out.cell
  obtain ⟨d0, d1, d2, d3, d4, d5⟩ := HN.out
  have HB : Hid (Below w.heap.size w A) := hB
  have OW : Hid (Calls Tryz.prog 94 #[.slice x.a x.n x.cap, .func (.func 95) #[] #[.pointer (some ⟨w.heap.size, 0, none⟩)]] A fun e w' => e = .returned (.bool r) ∧ Below A.heap.size A w') := by show Calls _ _ _ _ _; rw [← hr]; exact ownP_any x w.heap.size b o A (hX.later hB) cp HN.out.1
  clear hB hN hX hr
  go_enter Tryz.func74, Tryz.ntmps74
  go_wp2_with (first
    | (go_at_call 94; refine OW.out.mono ?_; clear OW; rintro e w1 ⟨rfl, hB1⟩; have cp1 := (Boxed.kept_of HP.out hB1 (by omega)).cell; obtain ⟨e0, e1, e2, e3, e4, e5⟩ := HN.out.later hB1))
  go_ret
  exact ⟨rfl, HB.out.trans (hB1.mono (by omega))⟩
set_option maxRecDepth 100000 in
set_option maxHeartbeats 2000000 in
theorem rP2_4 (x : Pt) (b o : Nat) (w : World) (hN : NodeP w b o x) (hX : IsP w x) (r : Bool) (hr : ownB x = r) (k1 : (x.k == 1) = false) (k6 : (x.k == 6) = false) (k5 : (x.k == 5) = false) (k2 : (x.k == 2) = true) (h1 : (x.s.toList == []) = true) (h2 : (x.t.toList == []) = true) (h3 : (x.lo == 0) = true) (h4 : (x.hi == 0) = true) (h5 : ¬ 2 ≤ x.n) : Calls Tryz.prog 74 #[.pointer (some ⟨b, o, none⟩)] w fun e w' => e = .returned (.bool false) ∧ Below w.heap.size w w' := by
  obtain ⟨A, hA⟩ : ∃ A, w.alloc (.cells #[.pointer (some ⟨b, o, none⟩)] 81) = A := ⟨_, rfl⟩
  have hB : Below w.heap.size w A := by rw [← hA]; exact (Below.refl _ w).alloc (Nat.le_refl _) _
  have hs : A.heap.size = w.heap.size + 1 := by rw [← hA]; simp
  have HN : Hid (NodeP A b o x) := hN.later hB
  have HP : Hid (Boxed A w.heap.size 81 (.pointer (some ⟨b, o, none⟩))) := by show Boxed _ _ _ _; rw [← hA]; exact Boxed.new _ _ _
  have cp := HP.out.cell
  obtain ⟨d0, d1, d2, d3, d4, d5⟩ := HN.out
  have HB : Hid (Below w.heap.size w A) := hB
  have OW : Hid (Calls Tryz.prog 94 #[.slice x.a x.n x.cap, .func (.func 95) #[] #[.pointer (some ⟨w.heap.size, 0, none⟩)]] A fun e w' => e = .returned (.bool r) ∧ Below A.heap.size A w') := by show Calls _ _ _ _ _; rw [← hr]; exact ownP_any x w.heap.size b o A (hX.later hB) cp HN.out.1
  clear hB hN hX hr
  go_enter Tryz.func74, Tryz.ntmps74
  go_wp2_with (first
    | (go_at_call 94; refine OW.out.mono ?_; clear OW; rintro e w1 ⟨rfl, hB1⟩; have cp1 := (Boxed.kept_of HP.out hB1 (by omega)).cell; obtain ⟨e0, e1, e2, e3, e4, e5⟩ := HN.out.later hB1))
  go_ret
  exact ⟨rfl, HB.out.trans (hB1.mono (by omega))⟩
set_option maxRecDepth 100000 in
set_option maxHeartbeats 2000000 in
theorem rP2_5 (x : Pt) (b o : Nat) (w : World) (hN : NodeP w b o x) (hX : IsP w x) (r : Bool) (hr : ownB x = r) (k1 : (x.k == 1) = false) (k6 : (x.k == 6) = false) (k5 : (x.k == 5) = false) (k2 : (x.k == 2) = true) (h1 : (x.s.toList == []) = true) (h2 : (x.t.toList == []) = true) (h3 : (x.lo == 0) = true) (h4 : (x.hi == 0) = true) (h5 : 2 ≤ x.n) : Calls Tryz.prog 74 #[.pointer (some ⟨b, o, none⟩)] w fun e w' => e = .returned (.bool (!r)) ∧ Below w.heap.size w w' := by
  obtain ⟨A, hA⟩ : ∃ A, w.alloc (.cells #[.pointer (some ⟨b, o, none⟩)] 81) = A := ⟨_, rfl⟩
  have hB : Below w.heap.size w A := by rw [← hA]; exact (Below.refl _ w).alloc (Nat.le_refl _) _
  have hs : A.heap.size = w.heap.size + 1 := by rw [← hA]; simp
  have HN : Hid (NodeP A b o x) := hN.later hB
  have HP : Hid (Boxed A w.heap.size 81 (.pointer (some ⟨b, o, none⟩))) := by show Boxed _ _ _ _; rw [← hA]; exact Boxed.new _ _ _
  have cp := HP.out.cell
  obtain ⟨d0, d1, d2, d3, d4, d5⟩ := HN.out
  have HB : Hid (Below w.heap.size w A) := hB
  have OW : Hid (Calls Tryz.prog 94 #[.slice x.a x.n x.cap, .func (.func 95) #[] #[.pointer (some ⟨w.heap.size, 0, none⟩)]] A fun e w' => e = .returned (.bool r) ∧ Below A.heap.size A w') := by show Calls _ _ _ _ _; rw [← hr]; exact ownP_any x w.heap.size b o A (hX.later hB) cp HN.out.1
  clear hB hN hX hr
  go_enter Tryz.func74, Tryz.ntmps74
  go_wp2_with (first
    | (go_at_call 94; refine OW.out.mono ?_; clear OW; rintro e w1 ⟨rfl, hB1⟩; have cp1 := (Boxed.kept_of HP.out hB1 (by omega)).cell; obtain ⟨e0, e1, e2, e3, e4, e5⟩ := HN.out.later hB1))
  go_ret
  exact ⟨rfl, HB.out.trans (hB1.mono (by omega))⟩
theorem rP2_any (x : Pt) (b o : Nat) (w : World) (hN : NodeP w b o x) (hX : IsP w x) (k1 : (x.k == 1) = false) (k6 : (x.k == 6) = false) (k5 : (x.k == 5) = false) (k2 : (x.k == 2) = true) : Calls Tryz.prog 74 #[.pointer (some ⟨b, o, none⟩)] w fun e w' => e = .returned (.bool (rowB x)) ∧ Below w.heap.size w w' := by
  cases h1 : emptyB x.s with
  | false => rw [show rowB x = false by simp [rowB, h1]]; exact rP2_0 x b o w hN hX _ rfl k1 k6 k5 k2 h1
  | true =>
    cases h2 : emptyB x.t with
    | false => rw [show rowB x = false by simp [rowB, h2]]; exact rP2_1 x b o w hN hX _ rfl k1 k6 k5 k2 h1 h2
    | true =>
      cases h3 : (x.lo == 0) with
      | false => rw [show rowB x = false by simp [rowB, h3]]; exact rP2_2 x b o w hN hX _ rfl k1 k6 k5 k2 h1 h2 h3
      | true =>
        cases h4 : (x.hi == 0) with
        | false => rw [show rowB x = false by simp [rowB, h4]]; exact rP2_3 x b o w hN hX _ rfl k1 k6 k5 k2 h1 h2 h3 h4
        | true =>
          by_cases h5 : 2 ≤ x.n
          · rw [show rowB x = !ownB x by simp [rowB, h1, h2, h3, h4, h5]]; exact rP2_5 x b o w hN hX _ rfl k1 k6 k5 k2 h1 h2 h3 h4 h5
          · rw [show rowB x = false by simp [rowB, h5]]; exact rP2_4 x b o w hN hX _ rfl k1 k6 k5 k2 h1 h2 h3 h4 h5
set_option maxRecDepth 100000 in
set_option maxHeartbeats 2000000 in
theorem rP3_0 (x : Pt) (b o : Nat) (w : World) (hN : NodeP w b o x) (hX : IsP w x) (r : Bool) (hr : ownB x = r) (k1 : (x.k == 1) = false) (k6 : (x.k == 6) = false) (k5 : (x.k == 5) = false) (k2 : (x.k == 2) = false) (k3 : (x.k == 3) = true) (h1 : (x.s.toList == []) = false) : Calls Tryz.prog 74 #[.pointer (some ⟨b, o, none⟩)] w fun e w' => e = .returned (.bool false) ∧ Below w.heap.size w w' := by
  obtain ⟨A, hA⟩ : ∃ A, w.alloc (.cells #[.pointer (some ⟨b, o, none⟩)] 81) = A := ⟨_, rfl⟩
  have hB : Below w.heap.size w A := by rw [← hA]; exact (Below.refl _ w).alloc (Nat.le_refl _) _
  have hs : A.heap.size = w.heap.size + 1 := by rw [← hA]; simp
  have HN : Hid (NodeP A b o x) := hN.later hB
  have HP : Hid (Boxed A w.heap.size 81 (.pointer (some ⟨b, o, none⟩))) := by show Boxed _ _ _ _; rw [← hA]; exact Boxed.new _ _ _
  have cp := HP.out.cell
  obtain ⟨d0, d1, d2, d3, d4, d5⟩ := HN.out
  have HB : Hid (Below w.heap.size w A) := hB
  have OW : Hid (Calls Tryz.prog 94 #[.slice x.a x.n x.cap, .func (.func 95) #[] #[.pointer (some ⟨w.heap.size, 0, none⟩)]] A fun e w' => e = .returned (.bool r) ∧ Below A.heap.size A w') := by show Calls _ _ _ _ _; rw [← hr]; exact ownP_any x w.heap.size b o A (hX.later hB) cp HN.out.1
  clear hB hN hX hr
  go_enter Tryz.func74, Tryz.ntmps74
  go_wp2_with (first
    | (go_at_call 94; refine OW.out.mono ?_; clear OW; rintro e w1 ⟨rfl, hB1⟩; have cp1 := (Boxed.kept_of HP.out hB1 (by omega)).cell; obtain ⟨e0, e1, e2, e3, e4, e5⟩ := HN.out.later hB1))
  go_ret
  exact ⟨rfl, HB.out.trans (hB1.mono (by omega))⟩
set_option maxRecDepth 100000 in
set_option maxHeartbeats 2000000 in
theorem rP3_1 (x : Pt) (b o : Nat) (w : World) (hN : NodeP w b o x) (hX : IsP w x) (r : Bool) (hr : ownB x = r) (k1 : (x.k == 1) = false) (k6 : (x.k == 6) = false) (k5 : (x.k == 5) = false) (k2 : (x.k == 2) = false) (k3 : (x.k == 3) = true) (h1 : (x.s.toList == []) = true) (h2 : (x.t.toList == []) = false) : Calls Tryz.prog 74 #[.pointer (some ⟨b, o, none⟩)] w fun e w' => e = .returned (.bool false) ∧ Below w.heap.size w w' := by
  obtain ⟨A, hA⟩ : ∃ A, w.alloc (.cells #[.pointer (some ⟨b, o, none⟩)] 81) = A := ⟨_, rfl⟩
  have hB : Below w.heap.size w A := by rw [← hA]; exact (Below.refl _ w).alloc (Nat.le_refl _) _
  have hs : A.heap.size = w.heap.size + 1 := by rw [← hA]; simp
  have HN : Hid (NodeP A b o x) := hN.later hB
  have HP : Hid (Boxed A w.heap.size 81 (.pointer (some ⟨b, o, none⟩))) := by show Boxed _ _ _ _; rw [← hA]; exact Boxed.new _ _ _
  have cp := HP.out.cell
  obtain ⟨d0, d1, d2, d3, d4, d5⟩ := HN.out
  have HB : Hid (Below w.heap.size w A) := hB
  have OW : Hid (Calls Tryz.prog 94 #[.slice x.a x.n x.cap, .func (.func 95) #[] #[.pointer (some ⟨w.heap.size, 0, none⟩)]] A fun e w' => e = .returned (.bool r) ∧ Below A.heap.size A w') := by show Calls _ _ _ _ _; rw [← hr]; exact ownP_any x w.heap.size b o A (hX.later hB) cp HN.out.1
  clear hB hN hX hr
  go_enter Tryz.func74, Tryz.ntmps74
  go_wp2_with (first
    | (go_at_call 94; refine OW.out.mono ?_; clear OW; rintro e w1 ⟨rfl, hB1⟩; have cp1 := (Boxed.kept_of HP.out hB1 (by omega)).cell; obtain ⟨e0, e1, e2, e3, e4, e5⟩ := HN.out.later hB1))
  go_ret
  exact ⟨rfl, HB.out.trans (hB1.mono (by omega))⟩
set_option maxRecDepth 100000 in
set_option maxHeartbeats 2000000 in
theorem rP3_2 (x : Pt) (b o : Nat) (w : World) (hN : NodeP w b o x) (hX : IsP w x) (r : Bool) (hr : ownB x = r) (k1 : (x.k == 1) = false) (k6 : (x.k == 6) = false) (k5 : (x.k == 5) = false) (k2 : (x.k == 2) = false) (k3 : (x.k == 3) = true) (h1 : (x.s.toList == []) = true) (h2 : (x.t.toList == []) = true) (h3 : (x.lo == 0) = false) : Calls Tryz.prog 74 #[.pointer (some ⟨b, o, none⟩)] w fun e w' => e = .returned (.bool false) ∧ Below w.heap.size w w' := by
  obtain ⟨A, hA⟩ : ∃ A, w.alloc (.cells #[.pointer (some ⟨b, o, none⟩)] 81) = A := ⟨_, rfl⟩
  have hB : Below w.heap.size w A := by rw [← hA]; exact (Below.refl _ w).alloc (Nat.le_refl _) _
  have hs : A.heap.size = w.heap.size + 1 := by rw [← hA]; simp
  have HN : Hid (NodeP A b o x) := hN.later hB
  have HP : Hid (Boxed A w.heap.size 81 (.pointer (some ⟨b, o, none⟩))) := by show Boxed _ _ _ _; rw [← hA]; exact Boxed.new _ _ _
  have cp := HP.out.cell
  obtain ⟨d0, d1, d2, d3, d4, d5⟩ := HN.out
  have HB : Hid (Below w.heap.size w A) := hB
  have OW : Hid (Calls Tryz.prog 94 #[.slice x.a x.n x.cap, .func (.func 95) #[] #[.pointer (some ⟨w.heap.size, 0, none⟩)]] A fun e w' => e = .returned (.bool r) ∧ Below A.heap.size A w') := by show Calls _ _ _ _ _; rw [← hr]; exact ownP_any x w.heap.size b o A (hX.later hB) cp HN.out.1
  clear hB hN hX hr
  go_enter Tryz.func74, Tryz.ntmps74
  go_wp2_with (first
    | (go_at_call 94; refine OW.out.mono ?_; clear OW; rintro e w1 ⟨rfl, hB1⟩; have cp1 := (Boxed.kept_of HP.out hB1 (by omega)).cell; obtain ⟨e0, e1, e2, e3, e4, e5⟩ := HN.out.later hB1))
  go_ret
  exact ⟨rfl, HB.out.trans (hB1.mono (by omega))⟩
set_option maxRecDepth 100000 in
set_option maxHeartbeats 2000000 in
theorem rP3_3 (x : Pt) (b o : Nat) (w : World) (hN : NodeP w b o x) (hX : IsP w x) (r : Bool) (hr : ownB x = r) (k1 : (x.k == 1) = false) (k6 : (x.k == 6) = false) (k5 : (x.k == 5) = false) (k2 : (x.k == 2) = false) (k3 : (x.k == 3) = true) (h1 : (x.s.toList == []) = true) (h2 : (x.t.toList == []) = true) (h3 : (x.lo == 0) = true) (h4 : (x.hi == 0) = false) : Calls Tryz.prog 74 #[.pointer (some ⟨b, o, none⟩)] w fun e w' => e = .returned (.bool false) ∧ Below w.heap.size w w' := by
  obtain ⟨A, hA⟩ : ∃ A, w.alloc (.cells #[.pointer (some ⟨b, o, none⟩)] 81) = A := ⟨_, rfl⟩
  have hB : Below w.heap.size w A := by rw [← hA]; exact (Below.refl _ w).alloc (Nat.le_refl _) _
  have hs : A.heap.size = w.heap.size + 1 := by rw [← hA]; simp
  have HN : Hid (NodeP A b o x) := hN.later hB
  have HP : Hid (Boxed A w.heap.size 81 (.pointer (some ⟨b, o, none⟩))) := by show Boxed _ _ _ _; rw [← hA]; exact Boxed.new _ _ _
  have cp := HP.out.cell
  obtain ⟨d0, d1, d2, d3, d4, d5⟩ := HN.out
  have HB : Hid (Below w.heap.size w A) := hB
  have OW : Hid (Calls Tryz.prog 94 #[.slice x.a x.n x.cap, .func (.func 95) #[] #[.pointer (some ⟨w.heap.size, 0, none⟩)]] A fun e w' => e = .returned (.bool r) ∧ Below A.heap.size A w') := by show Calls _ _ _ _ _; rw [← hr]; exact ownP_any x w.heap.size b o A (hX.later hB) cp HN.out.1
  clear hB hN hX hr
  go_enter Tryz.func74, Tryz.ntmps74
  go_wp2_with (first
    | (go_at_call 94; refine OW.out.mono ?_; clear OW; rintro e w1 ⟨rfl, hB1⟩; have cp1 := (Boxed.kept_of HP.out hB1 (by omega)).cell; obtain ⟨e0, e1, e2, e3, e4, e5⟩ := HN.out.later hB1))
  go_ret
  exact ⟨rfl, HB.out.trans (hB1.mono (by omega))⟩
set_option maxRecDepth 100000 in
set_option maxHeartbeats 2000000 in
theorem rP3_4 (x : Pt) (b o : Nat) (w : World) (hN : NodeP w b o x) (hX : IsP w x) (r : Bool) (hr : ownB x = r) (k1 : (x.k == 1) = false) (k6 : (x.k == 6) = false) (k5 : (x.k == 5) = false) (k2 : (x.k == 2) = false) (k3 : (x.k == 3) = true) (h1 : (x.s.toList == []) = true) (h2 : (x.t.toList == []) = true) (h3 : (x.lo == 0) = true) (h4 : (x.hi == 0) = true) (h5 : ¬ 2 ≤ x.n) : Calls Tryz.prog 74 #[.pointer (some ⟨b, o, none⟩)] w fun e w' => e = .returned (.bool false) ∧ Below w.heap.size w w' := by
  obtain ⟨A, hA⟩ : ∃ A, w.alloc (.cells #[.pointer (some ⟨b, o, none⟩)] 81) = A := ⟨_, rfl⟩
  have hB : Below w.heap.size w A := by rw [← hA]; exact (Below.refl _ w).alloc (Nat.le_refl _) _
  have hs : A.heap.size = w.heap.size + 1 := by rw [← hA]; simp
  have HN : Hid (NodeP A b o x) := hN.later hB
  have HP : Hid (Boxed A w.heap.size 81 (.pointer (some ⟨b, o, none⟩))) := by show Boxed _ _ _ _; rw [← hA]; exact Boxed.new _ _ _
  have cp := HP.out.cell
  obtain ⟨d0, d1, d2, d3, d4, d5⟩ := HN.out
  have HB : Hid (Below w.heap.size w A) := hB
  have OW : Hid (Calls Tryz.prog 94 #[.slice x.a x.n x.cap, .func (.func 95) #[] #[.pointer (some ⟨w.heap.size, 0, none⟩)]] A fun e w' => e = .returned (.bool r) ∧ Below A.heap.size A w') := by show Calls _ _ _ _ _; rw [← hr]; exact ownP_any x w.heap.size b o A (hX.later hB) cp HN.out.1
  clear hB hN hX hr
  go_enter Tryz.func74, Tryz.ntmps74
  go_wp2_with (first
    | (go_at_call 94; refine OW.out.mono ?_; clear OW; rintro e w1 ⟨rfl, hB1⟩; have cp1 := (Boxed.kept_of HP.out hB1 (by omega)).cell; obtain ⟨e0, e1, e2, e3, e4, e5⟩ := HN.out.later hB1))
  go_ret
  exact ⟨rfl, HB.out.trans (hB1.mono (by omega))⟩
set_option maxRecDepth 100000 in
set_option maxHeartbeats 2000000 in
theorem rP3_5 (x : Pt) (b o : Nat) (w : World) (hN : NodeP w b o x) (hX : IsP w x) (r : Bool) (hr : ownB x = r) (k1 : (x.k == 1) = false) (k6 : (x.k == 6) = false) (k5 : (x.k == 5) = false) (k2 : (x.k == 2) = false) (k3 : (x.k == 3) = true) (h1 : (x.s.toList == []) = true) (h2 : (x.t.toList == []) = true) (h3 : (x.lo == 0) = true) (h4 : (x.hi == 0) = true) (h5 : 2 ≤ x.n) : Calls Tryz.prog 74 #[.pointer (some ⟨b, o, none⟩)] w fun e w' => e = .returned (.bool (!r)) ∧ Below w.heap.size w w' := by
  obtain ⟨A, hA⟩ : ∃ A, w.alloc (.cells #[.pointer (some ⟨b, o, none⟩)] 81) = A := ⟨_, rfl⟩
  have hB : Below w.heap.size w A := by rw [← hA]; exact (Below.refl _ w).alloc (Nat.le_refl _) _
  have hs : A.heap.size = w.heap.size + 1 := by rw [← hA]; simp
  have HN : Hid (NodeP A b o x) := hN.later hB
  have HP : Hid (Boxed A w.heap.size 81 (.pointer (some ⟨b, o, none⟩))) := by show Boxed _ _ _ _; rw [← hA]; exact Boxed.new _ _ _
  have cp := HP.out.cell
  obtain ⟨d0, d1, d2, d3, d4, d5⟩ := HN.out
  have HB : Hid (Below w.heap.size w A) := hB
  have OW : Hid (Calls Tryz.prog 94 #[.slice x.a x.n x.cap, .func (.func 95) #[] #[.pointer (some ⟨w.heap.size, 0, none⟩)]] A fun e w' => e = .returned (.bool r) ∧ Below A.heap.size A w') := by show Calls _ _ _ _ _; rw [← hr]; exact ownP_any x w.heap.size b o A (hX.later hB) cp HN.out.1
  clear hB hN hX hr
  go_enter Tryz.func74, Tryz.ntmps74
  go_wp2_with (first
    | (go_at_call 94; refine OW.out.mono ?_; clear OW; rintro e w1 ⟨rfl, hB1⟩; have cp1 := (Boxed.kept_of HP.out hB1 (by omega)).cell; obtain ⟨e0, e1, e2, e3, e4, e5⟩ := HN.out.later hB1))
  go_ret
  exact ⟨rfl, HB.out.trans (hB1.mono (by omega))⟩
theorem rP3_any (x : Pt) (b o : Nat) (w : World) (hN : NodeP w b o x) (hX : IsP w x) (k1 : (x.k == 1) = false) (k6 : (x.k == 6) = false) (k5 : (x.k == 5) = false) (k2 : (x.k == 2) = false) (k3 : (x.k == 3) = true) : Calls Tryz.prog 74 #[.pointer (some ⟨b, o, none⟩)] w fun e w' => e = .returned (.bool (rowB x)) ∧ Below w.heap.size w w' := by
  cases h1 : emptyB x.s with
  | false => rw [show rowB x = false by simp [rowB, h1]]; exact rP3_0 x b o w hN hX _ rfl k1 k6 k5 k2 k3 h1
  | true =>
    cases h2 : emptyB x.t with
    | false => rw [show rowB x = false by simp [rowB, h2]]; exact rP3_1 x b o w hN hX _ rfl k1 k6 k5 k2 k3 h1 h2
    | true =>
      cases h3 : (x.lo == 0) with
      | false => rw [show rowB x = false by simp [rowB, h3]]; exact rP3_2 x b o w hN hX _ rfl k1 k6 k5 k2 k3 h1 h2 h3
      | true =>
        cases h4 : (x.hi == 0) with
        | false => rw [show rowB x = false by simp [rowB, h4]]; exact rP3_3 x b o w hN hX _ rfl k1 k6 k5 k2 k3 h1 h2 h3 h4
        | true =>
          by_cases h5 : 2 ≤ x.n
          · rw [show rowB x = !ownB x by simp [rowB, h1, h2, h3, h4, h5]]; exact rP3_5 x b o w hN hX _ rfl k1 k6 k5 k2 k3 h1 h2 h3 h4 h5
          · rw [show rowB x = false by simp [rowB, h5]]; exact rP3_4 x b o w hN hX _ rfl k1 k6 k5 k2 k3 h1 h2 h3 h4 h5
set_option maxRecDepth 100000 in
set_option maxHeartbeats 2000000 in
theorem rP4_0 (x : Pt) (b o : Nat) (w : World) (hN : NodeP w b o x) (hX : IsP w x) (r : Bool) (hr : ownB x = r) (k1 : (x.k == 1) = false) (k6 : (x.k == 6) = false) (k5 : (x.k == 5) = false) (k2 : (x.k == 2) = false) (k3 : (x.k == 3) = false) (k4 : (x.k == 4) = true) (h1 : (x.s.toList == []) = false) : Calls Tryz.prog 74 #[.pointer (some ⟨b, o, none⟩)] w fun e w' => e = .returned (.bool false) ∧ Below w.heap.size w w' := by
  obtain ⟨A, hA⟩ : ∃ A, w.alloc (.cells #[.pointer (some ⟨b, o, none⟩)] 81) = A := ⟨_, rfl⟩
  have hB : Below w.heap.size w A := by rw [← hA]; exact (Below.refl _ w).alloc (Nat.le_refl _) _
  have hs : A.heap.size = w.heap.size + 1 := by rw [← hA]; simp
  have HN : Hid (NodeP A b o x) := hN.later hB
  have HP : Hid (Boxed A w.heap.size 81 (.pointer (some ⟨b, o, none⟩))) := by show Boxed _ _ _ _; rw [← hA]; exact Boxed.new _ _ _
  have cp := HP.out.cell
  obtain ⟨d0, d1, d2, d3, d4, d5⟩ := HN.out
  have HB : Hid (Below w.heap.size w A) := hB
  have OW : Hid (Calls Tryz.prog 94 #[.slice x.a x.n x.cap, .func (.func 95) #[] #[.pointer (some ⟨w.heap.size, 0, none⟩)]] A fun e w' => e = .returned (.bool r) ∧ Below A.heap.size A w') := by show Calls _ _ _ _ _; rw [← hr]; exact ownP_any x w.heap.size b o A (hX.later hB) cp HN.out.1
  clear hB hN hX hr
  go_enter Tryz.func74, Tryz.ntmps74
  go_wp2_with (first
    | (go_at_call 94; refine OW.out.mono ?_; clear OW; rintro e w1 ⟨rfl, hB1⟩; have cp1 := (Boxed.kept_of HP.out hB1 (by omega)).cell; obtain ⟨e0, e1, e2, e3, e4, e5⟩ := HN.out.later hB1))
  go_ret
  exact ⟨rfl, HB.out.trans (hB1.mono (by omega))⟩
set_option maxRecDepth 100000 in
set_option maxHeartbeats 2000000 in
theorem rP4_1 (x : Pt) (b o : Nat) (w : World) (hN : NodeP w b o x) (hX : IsP w x) (r : Bool) (hr : ownB x = r) (k1 : (x.k == 1) = false) (k6 : (x.k == 6) = false) (k5 : (x.k == 5) = false) (k2 : (x.k == 2) = false) (k3 : (x.k == 3) = false) (k4 : (x.k == 4) = true) (h1 : (x.s.toList == []) = true) (h2 : (x.t.toList == []) = false) : Calls Tryz.prog 74 #[.pointer (some ⟨b, o, none⟩)] w fun e w' => e = .returned (.bool false) ∧ Below w.heap.size w w' := by
  obtain ⟨A, hA⟩ : ∃ A, w.alloc (.cells #[.pointer (some ⟨b, o, none⟩)] 81) = A := ⟨_, rfl⟩
  have hB : Below w.heap.size w A := by rw [← hA]; exact (Below.refl _ w).alloc (Nat.le_refl _) _
  have hs : A.heap.size = w.heap.size + 1 := by rw [← hA]; simp
  have HN : Hid (NodeP A b o x) := hN.later hB
  have HP : Hid (Boxed A w.heap.size 81 (.pointer (some ⟨b, o, none⟩))) := by show Boxed _ _ _ _; rw [← hA]; exact Boxed.new _ _ _
  have cp := HP.out.cell
  obtain ⟨d0, d1, d2, d3, d4, d5⟩ := HN.out
  have HB : Hid (Below w.heap.size w A) := hB
  have OW : Hid (Calls Tryz.prog 94 #[.slice x.a x.n x.cap, .func (.func 95) #[] #[.pointer (some ⟨w.heap.size, 0, none⟩)]] A fun e w' => e = .returned (.bool r) ∧ Below A.heap.size A w') := by show Calls _ _ _ _ _; rw [← hr]; exact ownP_any x w.heap.size b o A (hX.later hB) cp HN.out.1
  clear hB hN hX hr
  go_enter Tryz.func74, Tryz.ntmps74
  go_wp2_with (first
    | (go_at_call 94; refine OW.out.mono ?_; clear OW; rintro e w1 ⟨rfl, hB1⟩; have cp1 := (Boxed.kept_of HP.out hB1 (by omega)).cell; obtain ⟨e0, e1, e2, e3, e4, e5⟩ := HN.out.later hB1))
  go_ret
  exact ⟨rfl, HB.out.trans (hB1.mono (by omega))⟩
set_option maxRecDepth 100000 in
set_option maxHeartbeats 2000000 in
theorem rP4_2 (x : Pt) (b o : Nat) (w : World) (hN : NodeP w b o x) (hX : IsP w x) (r : Bool) (hr : ownB x = r) (k1 : (x.k == 1) = false) (k6 : (x.k == 6) = false) (k5 : (x.k == 5) = false) (k2 : (x.k == 2) = false) (k3 : (x.k == 3) = false) (k4 : (x.k == 4) = true) (h1 : (x.s.toList == []) = true) (h2 : (x.t.toList == []) = true) (h3 : (x.lo == 0) = false) : Calls Tryz.prog 74 #[.pointer (some ⟨b, o, none⟩)] w fun e w' => e = .returned (.bool false) ∧ Below w.heap.size w w' := by
  obtain ⟨A, hA⟩ : ∃ A, w.alloc (.cells #[.pointer (some ⟨b, o, none⟩)] 81) = A := ⟨_, rfl⟩
  have hB : Below w.heap.size w A := by rw [← hA]; exact (Below.refl _ w).alloc (Nat.le_refl _) _
  have hs : A.heap.size = w.heap.size + 1 := by rw [← hA]; simp
  have HN : Hid (NodeP A b o x) := hN.later hB
  have HP : Hid (Boxed A w.heap.size 81 (.pointer (some ⟨b, o, none⟩))) := by show Boxed _ _ _ _; rw [← hA]; exact Boxed.new _ _ _
  have cp := HP.out.cell
  obtain ⟨d0, d1, d2, d3, d4, d5⟩ := HN.out
  have HB : Hid (Below w.heap.size w A) := hB
  have OW : Hid (Calls Tryz.prog 94 #[.slice x.a x.n x.cap, .func (.func 95) #[] #[.pointer (some ⟨w.heap.size, 0, none⟩)]] A fun e w' => e = .returned (.bool r) ∧ Below A.heap.size A w') := by show Calls _ _ _ _ _; rw [← hr]; exact ownP_any x w.heap.size b o A (hX.later hB) cp HN.out.1
  clear hB hN hX hr
  go_enter Tryz.func74, Tryz.ntmps74
  go_wp2_with (first
    | (go_at_call 94; refine OW.out.mono ?_; clear OW; rintro e w1 ⟨rfl, hB1⟩; have cp1 := (Boxed.kept_of HP.out hB1 (by omega)).cell; obtain ⟨e0, e1, e2, e3, e4, e5⟩ := HN.out.later hB1))
  go_ret
  exact ⟨rfl, HB.out.trans (hB1.mono (by omega))⟩
set_option maxRecDepth 100000 in
set_option maxHeartbeats 2000000 in
theorem rP4_3 (x : Pt) (b o : Nat) (w : World) (hN : NodeP w b o x) (hX : IsP w x) (r : Bool) (hr : ownB x = r) (k1 : (x.k == 1) = false) (k6 : (x.k == 6) = false) (k5 : (x.k == 5) = false) (k2 : (x.k == 2) = false) (k3 : (x.k == 3) = false) (k4 : (x.k == 4) = true) (h1 : (x.s.toList == []) = true) (h2 : (x.t.toList == []) = true) (h3 : (x.lo == 0) = true) (h4 : (x.hi == 0) = false) : Calls Tryz.prog 74 #[.pointer (some ⟨b, o, none⟩)] w fun e w' => e = .returned (.bool false) ∧ Below w.heap.size w w' := by
  obtain ⟨A, hA⟩ : ∃ A, w.alloc (.cells #[.pointer (some ⟨b, o, none⟩)] 81) = A := ⟨_, rfl⟩
  have hB : Below w.heap.size w A := by rw [← hA]; exact (Below.refl _ w).alloc (Nat.le_refl _) _
  have hs : A.heap.size = w.heap.size + 1 := by rw [← hA]; simp
  have HN : Hid (NodeP A b o x) := hN.later hB
  have HP : Hid (Boxed A w.heap.size 81 (.pointer (some ⟨b, o, none⟩))) := by show Boxed _ _ _ _; rw [← hA]; exact Boxed.new _ _ _
  have cp := HP.out.cell
  obtain ⟨d0, d1, d2, d3, d4, d5⟩ := HN.out
  have HB : Hid (Below w.heap.size w A) := hB
  have OW : Hid (Calls Tryz.prog 94 #[.slice x.a x.n x.cap, .func (.func 95) #[] #[.pointer (some ⟨w.heap.size, 0, none⟩)]] A fun e w' => e = .returned (.bool r) ∧ Below A.heap.size A w') := by show Calls _ _ _ _ _; rw [← hr]; exact ownP_any x w.heap.size b o A (hX.later hB) cp HN.out.1
  clear hB hN hX hr
  go_enter Tryz.func74, Tryz.ntmps74
  go_wp2_with (first
    | (go_at_call 94; refine OW.out.mono ?_; clear OW; rintro e w1 ⟨rfl, hB1⟩; have cp1 := (Boxed.kept_of HP.out hB1 (by omega)).cell; obtain ⟨e0, e1, e2, e3, e4, e5⟩ := HN.out.later hB1))
  go_ret
  exact ⟨rfl, HB.out.trans (hB1.mono (by omega))⟩
set_option maxRecDepth 100000 in
set_option maxHeartbeats 2000000 in
theorem rP4_4 (x : Pt) (b o : Nat) (w : World) (hN : NodeP w b o x) (hX : IsP w x) (r : Bool) (hr : ownB x = r) (k1 : (x.k == 1) = false) (k6 : (x.k == 6) = false) (k5 : (x.k == 5) = false) (k2 : (x.k == 2) = false) (k3 : (x.k == 3) = false) (k4 : (x.k == 4) = true) (h1 : (x.s.toList == []) = true) (h2 : (x.t.toList == []) = true) (h3 : (x.lo == 0) = true) (h4 : (x.hi == 0) = true) (h5 : ¬ 2 ≤ x.n) : Calls Tryz.prog 74 #[.pointer (some ⟨b, o, none⟩)] w fun e w' => e = .returned (.bool false) ∧ Below w.heap.size w w' := by
  obtain ⟨A, hA⟩ : ∃ A, w.alloc (.cells #[.pointer (some ⟨b, o, none⟩)] 81) = A := ⟨_, rfl⟩
  have hB : Below w.heap.size w A := by rw [← hA]; exact (Below.refl _ w).alloc (Nat.le_refl _) _
  have hs : A.heap.size = w.heap.size + 1 := by rw [← hA]; simp
  have HN : Hid (NodeP A b o x) := hN.later hB
  have HP : Hid (Boxed A w.heap.size 81 (.pointer (some ⟨b, o, none⟩))) := by show Boxed _ _ _ _; rw [← hA]; exact Boxed.new _ _ _
  have cp := HP.out.cell
  obtain ⟨d0, d1, d2, d3, d4, d5⟩ := HN.out
  have HB : Hid (Below w.heap.size w A) := hB
  have OW : Hid (Calls Tryz.prog 94 #[.slice x.a x.n x.cap, .func (.func 95) #[] #[.pointer (some ⟨w.heap.size, 0, none⟩)]] A fun e w' => e = .returned (.bool r) ∧ Below A.heap.size A w') := by show Calls _ _ _ _ _; rw [← hr]; exact ownP_any x w.heap.size b o A (hX.later hB) cp HN.out.1
  clear hB hN hX hr
  go_enter Tryz.func74, Tryz.ntmps74
  go_wp2_with (first
    | (go_at_call 94; refine OW.out.mono ?_; clear OW; rintro e w1 ⟨rfl, hB1⟩; have cp1 := (Boxed.kept_of HP.out hB1 (by omega)).cell; obtain ⟨e0, e1, e2, e3, e4, e5⟩ := HN.out.later hB1))
  go_ret
  exact ⟨rfl, HB.out.trans (hB1.mono (by omega))⟩
set_option maxRecDepth 100000 in
set_option maxHeartbeats 2000000 in
theorem rP4_5 (x : Pt) (b o : Nat) (w : World) (hN : NodeP w b o x) (hX : IsP w x) (r : Bool) (hr : ownB x = r) (k1 : (x.k == 1) = false) (k6 : (x.k == 6) = false) (k5 : (x.k == 5) = false) (k2 : (x.k == 2) = false) (k3 : (x.k == 3) = false) (k4 : (x.k == 4) = true) (h1 : (x.s.toList == []) = true) (h2 : (x.t.toList == []) = true) (h3 : (x.lo == 0) = true) (h4 : (x.hi == 0) = true) (h5 : 2 ≤ x.n) : Calls Tryz.prog 74 #[.pointer (some ⟨b, o, none⟩)] w fun e w' => e = .returned (.bool (!r)) ∧ Below w.heap.size w w' := by
  obtain ⟨A, hA⟩ : ∃ A, w.alloc (.cells #[.pointer (some ⟨b, o, none⟩)] 81) = A := ⟨_, rfl⟩
  have hB : Below w.heap.size w A := by rw [← hA]; exact (Below.refl _ w).alloc (Nat.le_refl _) _
  have hs : A.heap.size = w.heap.size + 1 := by rw [← hA]; simp
  have HN : Hid (NodeP A b o x) := hN.later hB
  have HP : Hid (Boxed A w.heap.size 81 (.pointer (some ⟨b, o, none⟩))) := by show Boxed _ _ _ _; rw [← hA]; exact Boxed.new _ _ _
  have cp := HP.out.cell
  obtain ⟨d0, d1, d2, d3, d4, d5⟩ := HN.out
  have HB : Hid (Below w.heap.size w A) := hB
  have OW : Hid (Calls Tryz.prog 94 #[.slice x.a x.n x.cap, .func (.func 95) #[] #[.pointer (some ⟨w.heap.size, 0, none⟩)]] A fun e w' => e = .returned (.bool r) ∧ Below A.heap.size A w') := by show Calls _ _ _ _ _; rw [← hr]; exact ownP_any x w.heap.size b o A (hX.later hB) cp HN.out.1
  clear hB hN hX hr
  go_enter Tryz.func74, Tryz.ntmps74
  go_wp2_with (first
    | (go_at_call 94; refine OW.out.mono ?_; clear OW; rintro e w1 ⟨rfl, hB1⟩; have cp1 := (Boxed.kept_of HP.out hB1 (by omega)).cell; obtain ⟨e0, e1, e2, e3, e4, e5⟩ := HN.out.later hB1))
  go_ret
  exact ⟨rfl, HB.out.trans (hB1.mono (by omega))⟩
theorem rP4_any (x : Pt) (b o : Nat) (w : World) (hN : NodeP w b o x) (hX : IsP w x) (k1 : (x.k == 1) = false) (k6 : (x.k == 6) = false) (k5 : (x.k == 5) = false) (k2 : (x.k == 2) = false) (k3 : (x.k == 3) = false) (k4 : (x.k == 4) = true) : Calls Tryz.prog 74 #[.pointer (some ⟨b, o, none⟩)] w fun e w' => e = .returned (.bool (rowB x)) ∧ Below w.heap.size w w' := by
  cases h1 : emptyB x.s with
  | false => rw [show rowB x = false by simp [rowB, h1]]; exact rP4_0 x b o w hN hX _ rfl k1 k6 k5 k2 k3 k4 h1
  | true =>
    cases h2 : emptyB x.t with
    | false => rw [show rowB x = false by simp [rowB, h2]]; exact rP4_1 x b o w hN hX _ rfl k1 k6 k5 k2 k3 k4 h1 h2
    | true =>
      cases h3 : (x.lo == 0) with
      | false => rw [show rowB x = false by simp [rowB, h3]]; exact rP4_2 x b o w hN hX _ rfl k1 k6 k5 k2 k3 k4 h1 h2 h3
      | true =>
        cases h4 : (x.hi == 0) with
        | false => rw [show rowB x = false by simp [rowB, h4]]; exact rP4_3 x b o w hN hX _ rfl k1 k6 k5 k2 k3 k4 h1 h2 h3 h4
        | true =>
          by_cases h5 : 2 ≤ x.n
          · rw [show rowB x = !ownB x by simp [rowB, h1, h2, h3, h4, h5]]; exact rP4_5 x b o w hN hX _ rfl k1 k6 k5 k2 k3 k4 h1 h2 h3 h4 h5
          · rw [show rowB x = false by simp [rowB, h5]]; exact rP4_4 x b o w hN hX _ rfl k1 k6 k5 k2 k3 k4 h1 h2 h3 h4 h5
end Go.Proofs.YtfnfegcjgnbgbaaGreatDoor
namespace Go.Proofs.YtfnfegcjgnbgbaaGreatDoor
open Go.RowKit

set_option maxRecDepth 100000 in
set_option maxHeartbeats 2000000 in
theorem rP0_0 (x : Pt) (b o : Nat) (w : World) (hN : NodeP w b o x) (k1 : (x.k == 1) = false) (k6 : (x.k == 6) = false) (k5 : (x.k == 5) = false) (k2 : (x.k == 2) = false) (k3 : (x.k == 3) = false) (k4 : (x.k == 4) = false) : Calls Tryz.prog 74 #[.pointer (some ⟨b, o, none⟩)] w fun e w' => e = .returned (.bool false) ∧ Below w.heap.size w w' := by
  obtain ⟨A, hA⟩ : ∃ A, w.alloc (.cells #[.pointer (some ⟨b, o, none⟩)] 81) = A := ⟨_, rfl⟩
  have hB : Below w.heap.size w A := by rw [← hA]; exact (Below.refl _ w).alloc (Nat.le_refl _) _
  have hs : A.heap.size = w.heap.size + 1 := by rw [← hA]; simp
  have HN : Hid (NodeP A b o x) := hN.later hB
  have HP : Hid (Boxed A w.heap.size 81 (.pointer (some ⟨b, o, none⟩))) := by show Boxed _ _ _ _; rw [← hA]; exact Boxed.new _ _ _
  have cp := HP.out.cell
  obtain ⟨d0, d1, d2, d3, d4, d5⟩ := HN.out
  have HB : Hid (Below w.heap.size w A) := hB
  clear hB hN 
  go_enter Tryz.func74, Tryz.ntmps74
  go_wp2
  go_ret
  exact ⟨rfl, HB.out⟩
theorem rightP_any (x : Pt) (b o : Nat) (w : World) (hN : NodeP w b o x) (hX : IsP w x) : Calls Tryz.prog 74 #[.pointer (some ⟨b, o, none⟩)] w fun e w' => e = .returned (.bool (rightN x)) ∧ Below w.heap.size w w' := by
  cases k1 : (x.k == 1) with
  | true =>
    have e : x.k = 1 := by simpa using k1
    rw [show rightN x = leafB x by simp [rightN, isRow, e]]
    exact rP1_any x b o w hN k1
  | false =>
    cases k6 : (x.k == 6) with
    | true =>
      have e : x.k = 6 := by simpa using k6
      rw [show rightN x = leafB x by simp [rightN, isRow, e]]
      exact rP6_any x b o w hN k1 k6
    | false =>
      cases k5 : (x.k == 5) with
      | true =>
        have e : x.k = 5 := by simpa using k5
        rw [show rightN x = manyB x by simp [rightN, isRow, e]]
        exact rP5_any x b o w hN k1 k6 k5
      | false =>
        cases k2 : (x.k == 2) with
        | true =>
          have e : x.k = 2 := by simpa using k2
          rw [show rightN x = rowB x by simp [rightN, isRow, e]]
          exact rP2_any x b o w hN hX k1 k6 k5 k2
        | false =>
          cases k3 : (x.k == 3) with
          | true =>
            have e : x.k = 3 := by simpa using k3
            rw [show rightN x = rowB x by simp [rightN, isRow, e]]
            exact rP3_any x b o w hN hX k1 k6 k5 k2 k3
          | false =>
            cases k4 : (x.k == 4) with
            | true =>
              have e : x.k = 4 := by simpa using k4
              rw [show rightN x = rowB x by simp [rightN, isRow, e]]
              exact rP4_any x b o w hN hX k1 k6 k5 k2 k3 k4
            | false =>
              have e : rightN x = false := by
                simp only [beq_eq_false_iff_ne] at k1 k6 k5 k2 k3 k4
                simp [rightN, isRow, k1, k2, k3, k4, k5, k6]
              rw [e]
              exact rP0_0 x b o w hN k1 k6 k5 k2 k3 k4
end Go.Proofs.YtfnfegcjgnbgbaaGreatDoor
