/-
  pat.right at a node: PAtom and PNot.
-/
import Derived.Test.YtfnfegcjgnbgbaaGreatDoorTPatKinds
import Derived.Test.YtfnfegcjgnbgbaaGreatDoorTValOrder
namespace Go.Proofs.YtfnfegcjgnbgbaaGreatDoor
open Go.RowKit

set_option maxRecDepth 100000 in
set_option maxHeartbeats 2000000 in
theorem rP1_0 (x : Pt) (b o : Nat) (w : World) (hN : NodeP w b o x) (k1 : (x.k == 1) = true) (h1 : nameB x.s = false) : Calls Tryz.prog 74 #[.pointer (some ⟨b, o, none⟩)] w fun e w' => e = .returned (.bool false) ∧ Below w.heap.size w w' := by
  obtain ⟨A, hA⟩ : ∃ A, w.alloc (.cells #[.pointer (some ⟨b, o, none⟩)] 81) = A := ⟨_, rfl⟩
  have hB : Below w.heap.size w A := by rw [← hA]; exact (Below.refl _ w).alloc (Nat.le_refl _) _
  have hs : A.heap.size = w.heap.size + 1 := by rw [← hA]; simp
  have HN : Hid (NodeP A b o x) := hN.later hB
  have HP : Hid (Boxed A w.heap.size 81 (.pointer (some ⟨b, o, none⟩))) := by show Boxed _ _ _ _; rw [← hA]; exact Boxed.new _ _ _
  have cp := HP.out.cell
  obtain ⟨d0, d1, d2, d3, d4, d5⟩ := HN.out
  have HB : Hid (Below w.heap.size w A) := hB
  have N1 : Hid (∀ d, Calls Tryz.prog 72 #[.string x.s] d fun e w' => e = .returned (.bool false) ∧ Below d.heap.size d w') := fun d => by have := name_any x.s d; rw [h1] at this; exact this
  clear hB hN h1
  go_enter Tryz.func74, Tryz.ntmps74
  go_wp2_with (first
    | (go_at_call 72; refine (N1.out _).mono ?_; clear N1; rintro e w1 ⟨rfl, hB1⟩; have cp1 := (Boxed.kept_of HP.out hB1 (by omega)).cell; obtain ⟨e0, e1, e2, e3, e4, e5⟩ := HN.out.later hB1))
  go_ret
  exact ⟨rfl, HB.out.trans (hB1.mono (by omega))⟩
set_option maxRecDepth 100000 in
set_option maxHeartbeats 2000000 in
theorem rP1_1 (x : Pt) (b o : Nat) (w : World) (hN : NodeP w b o x) (k1 : (x.k == 1) = true) (h1 : nameB x.s = true) (h2 : nameB x.t = false) : Calls Tryz.prog 74 #[.pointer (some ⟨b, o, none⟩)] w fun e w' => e = .returned (.bool false) ∧ Below w.heap.size w w' := by
  obtain ⟨A, hA⟩ : ∃ A, w.alloc (.cells #[.pointer (some ⟨b, o, none⟩)] 81) = A := ⟨_, rfl⟩
  have hB : Below w.heap.size w A := by rw [← hA]; exact (Below.refl _ w).alloc (Nat.le_refl _) _
  have hs : A.heap.size = w.heap.size + 1 := by rw [← hA]; simp
  have HN : Hid (NodeP A b o x) := hN.later hB
  have HP : Hid (Boxed A w.heap.size 81 (.pointer (some ⟨b, o, none⟩))) := by show Boxed _ _ _ _; rw [← hA]; exact Boxed.new _ _ _
  have cp := HP.out.cell
  obtain ⟨d0, d1, d2, d3, d4, d5⟩ := HN.out
  have HB : Hid (Below w.heap.size w A) := hB
  have N1 : Hid (∀ d, Calls Tryz.prog 72 #[.string x.s] d fun e w' => e = .returned (.bool true) ∧ Below d.heap.size d w') := fun d => by have := name_any x.s d; rw [h1] at this; exact this
  have N2 : Hid (∀ d, Calls Tryz.prog 72 #[.string x.t] d fun e w' => e = .returned (.bool false) ∧ Below d.heap.size d w') := fun d => by have := name_any x.t d; rw [h2] at this; exact this
  clear hB hN h1 h2
  go_enter Tryz.func74, Tryz.ntmps74
  go_wp2_with (first
    | (go_at_call 72; refine (N1.out _).mono ?_; clear N1; rintro e w1 ⟨rfl, hB1⟩; have cp1 := (Boxed.kept_of HP.out hB1 (by omega)).cell; obtain ⟨e0, e1, e2, e3, e4, e5⟩ := HN.out.later hB1)
    | (go_at_call 72; refine (N2.out _).mono ?_; clear N2; rintro e w2 ⟨rfl, hB2⟩; have hB12 := hB1.trans (hB2.mono hB1.size); have cp2 := (Boxed.kept_of HP.out hB12 (by omega)).cell; obtain ⟨g0, g1, g2, g3, g4, g5⟩ := HN.out.later hB12))
  go_ret
  exact ⟨rfl, HB.out.trans (hB12.mono (by omega))⟩
set_option maxRecDepth 100000 in
set_option maxHeartbeats 2000000 in
theorem rP1_2 (x : Pt) (b o : Nat) (w : World) (hN : NodeP w b o x) (k1 : (x.k == 1) = true) (h1 : nameB x.s = true) (h2 : nameB x.t = true) (h3 : (x.lo == 0) = false) : Calls Tryz.prog 74 #[.pointer (some ⟨b, o, none⟩)] w fun e w' => e = .returned (.bool false) ∧ Below w.heap.size w w' := by
  obtain ⟨A, hA⟩ : ∃ A, w.alloc (.cells #[.pointer (some ⟨b, o, none⟩)] 81) = A := ⟨_, rfl⟩
  have hB : Below w.heap.size w A := by rw [← hA]; exact (Below.refl _ w).alloc (Nat.le_refl _) _
  have hs : A.heap.size = w.heap.size + 1 := by rw [← hA]; simp
  have HN : Hid (NodeP A b o x) := hN.later hB
  have HP : Hid (Boxed A w.heap.size 81 (.pointer (some ⟨b, o, none⟩))) := by show Boxed _ _ _ _; rw [← hA]; exact Boxed.new _ _ _
  have cp := HP.out.cell
  obtain ⟨d0, d1, d2, d3, d4, d5⟩ := HN.out
  have HB : Hid (Below w.heap.size w A) := hB
  have N1 : Hid (∀ d, Calls Tryz.prog 72 #[.string x.s] d fun e w' => e = .returned (.bool true) ∧ Below d.heap.size d w') := fun d => by have := name_any x.s d; rw [h1] at this; exact this
  have N2 : Hid (∀ d, Calls Tryz.prog 72 #[.string x.t] d fun e w' => e = .returned (.bool true) ∧ Below d.heap.size d w') := fun d => by have := name_any x.t d; rw [h2] at this; exact this
  clear hB hN h1 h2
  go_enter Tryz.func74, Tryz.ntmps74
  go_wp2_with (first
    | (go_at_call 72; refine (N1.out _).mono ?_; clear N1; rintro e w1 ⟨rfl, hB1⟩; have cp1 := (Boxed.kept_of HP.out hB1 (by omega)).cell; obtain ⟨e0, e1, e2, e3, e4, e5⟩ := HN.out.later hB1)
    | (go_at_call 72; refine (N2.out _).mono ?_; clear N2; rintro e w2 ⟨rfl, hB2⟩; have hB12 := hB1.trans (hB2.mono hB1.size); have cp2 := (Boxed.kept_of HP.out hB12 (by omega)).cell; obtain ⟨g0, g1, g2, g3, g4, g5⟩ := HN.out.later hB12))
  go_ret
  exact ⟨rfl, HB.out.trans (hB12.mono (by omega))⟩
set_option maxRecDepth 100000 in
set_option maxHeartbeats 2000000 in
theorem rP1_3 (x : Pt) (b o : Nat) (w : World) (hN : NodeP w b o x) (k1 : (x.k == 1) = true) (h1 : nameB x.s = true) (h2 : nameB x.t = true) (h3 : (x.lo == 0) = true) (h4 : (x.hi == 0) = false) : Calls Tryz.prog 74 #[.pointer (some ⟨b, o, none⟩)] w fun e w' => e = .returned (.bool false) ∧ Below w.heap.size w w' := by
  obtain ⟨A, hA⟩ : ∃ A, w.alloc (.cells #[.pointer (some ⟨b, o, none⟩)] 81) = A := ⟨_, rfl⟩
  have hB : Below w.heap.size w A := by rw [← hA]; exact (Below.refl _ w).alloc (Nat.le_refl _) _
  have hs : A.heap.size = w.heap.size + 1 := by rw [← hA]; simp
  have HN : Hid (NodeP A b o x) := hN.later hB
  have HP : Hid (Boxed A w.heap.size 81 (.pointer (some ⟨b, o, none⟩))) := by show Boxed _ _ _ _; rw [← hA]; exact Boxed.new _ _ _
  have cp := HP.out.cell
  obtain ⟨d0, d1, d2, d3, d4, d5⟩ := HN.out
  have HB : Hid (Below w.heap.size w A) := hB
  have N1 : Hid (∀ d, Calls Tryz.prog 72 #[.string x.s] d fun e w' => e = .returned (.bool true) ∧ Below d.heap.size d w') := fun d => by have := name_any x.s d; rw [h1] at this; exact this
  have N2 : Hid (∀ d, Calls Tryz.prog 72 #[.string x.t] d fun e w' => e = .returned (.bool true) ∧ Below d.heap.size d w') := fun d => by have := name_any x.t d; rw [h2] at this; exact this
  clear hB hN h1 h2
  go_enter Tryz.func74, Tryz.ntmps74
  go_wp2_with (first
    | (go_at_call 72; refine (N1.out _).mono ?_; clear N1; rintro e w1 ⟨rfl, hB1⟩; have cp1 := (Boxed.kept_of HP.out hB1 (by omega)).cell; obtain ⟨e0, e1, e2, e3, e4, e5⟩ := HN.out.later hB1)
    | (go_at_call 72; refine (N2.out _).mono ?_; clear N2; rintro e w2 ⟨rfl, hB2⟩; have hB12 := hB1.trans (hB2.mono hB1.size); have cp2 := (Boxed.kept_of HP.out hB12 (by omega)).cell; obtain ⟨g0, g1, g2, g3, g4, g5⟩ := HN.out.later hB12))
  go_ret
  exact ⟨rfl, HB.out.trans (hB12.mono (by omega))⟩
set_option maxRecDepth 100000 in
set_option maxHeartbeats 2000000 in
theorem rP1_4 (x : Pt) (b o : Nat) (w : World) (hN : NodeP w b o x) (k1 : (x.k == 1) = true) (h1 : nameB x.s = true) (h2 : nameB x.t = true) (h3 : (x.lo == 0) = true) (h4 : (x.hi == 0) = true) (h5 : (((x.n : Nat) : Int) == 0) = false) : Calls Tryz.prog 74 #[.pointer (some ⟨b, o, none⟩)] w fun e w' => e = .returned (.bool false) ∧ Below w.heap.size w w' := by
  obtain ⟨A, hA⟩ : ∃ A, w.alloc (.cells #[.pointer (some ⟨b, o, none⟩)] 81) = A := ⟨_, rfl⟩
  have hB : Below w.heap.size w A := by rw [← hA]; exact (Below.refl _ w).alloc (Nat.le_refl _) _
  have hs : A.heap.size = w.heap.size + 1 := by rw [← hA]; simp
  have HN : Hid (NodeP A b o x) := hN.later hB
  have HP : Hid (Boxed A w.heap.size 81 (.pointer (some ⟨b, o, none⟩))) := by show Boxed _ _ _ _; rw [← hA]; exact Boxed.new _ _ _
  have cp := HP.out.cell
  obtain ⟨d0, d1, d2, d3, d4, d5⟩ := HN.out
  have HB : Hid (Below w.heap.size w A) := hB
  have N1 : Hid (∀ d, Calls Tryz.prog 72 #[.string x.s] d fun e w' => e = .returned (.bool true) ∧ Below d.heap.size d w') := fun d => by have := name_any x.s d; rw [h1] at this; exact this
  have N2 : Hid (∀ d, Calls Tryz.prog 72 #[.string x.t] d fun e w' => e = .returned (.bool true) ∧ Below d.heap.size d w') := fun d => by have := name_any x.t d; rw [h2] at this; exact this
  clear hB hN h1 h2
  go_enter Tryz.func74, Tryz.ntmps74
  go_wp2_with (first
    | (go_at_call 72; refine (N1.out _).mono ?_; clear N1; rintro e w1 ⟨rfl, hB1⟩; have cp1 := (Boxed.kept_of HP.out hB1 (by omega)).cell; obtain ⟨e0, e1, e2, e3, e4, e5⟩ := HN.out.later hB1)
    | (go_at_call 72; refine (N2.out _).mono ?_; clear N2; rintro e w2 ⟨rfl, hB2⟩; have hB12 := hB1.trans (hB2.mono hB1.size); have cp2 := (Boxed.kept_of HP.out hB12 (by omega)).cell; obtain ⟨g0, g1, g2, g3, g4, g5⟩ := HN.out.later hB12))
  go_ret
  exact ⟨rfl, HB.out.trans (hB12.mono (by omega))⟩
set_option maxRecDepth 100000 in
set_option maxHeartbeats 2000000 in
theorem rP1_5 (x : Pt) (b o : Nat) (w : World) (hN : NodeP w b o x) (k1 : (x.k == 1) = true) (h1 : nameB x.s = true) (h2 : nameB x.t = true) (h3 : (x.lo == 0) = true) (h4 : (x.hi == 0) = true) (h5 : (((x.n : Nat) : Int) == 0) = true) : Calls Tryz.prog 74 #[.pointer (some ⟨b, o, none⟩)] w fun e w' => e = .returned (.bool true) ∧ Below w.heap.size w w' := by
  obtain ⟨A, hA⟩ : ∃ A, w.alloc (.cells #[.pointer (some ⟨b, o, none⟩)] 81) = A := ⟨_, rfl⟩
  have hB : Below w.heap.size w A := by rw [← hA]; exact (Below.refl _ w).alloc (Nat.le_refl _) _
  have hs : A.heap.size = w.heap.size + 1 := by rw [← hA]; simp
  have HN : Hid (NodeP A b o x) := hN.later hB
  have HP : Hid (Boxed A w.heap.size 81 (.pointer (some ⟨b, o, none⟩))) := by show Boxed _ _ _ _; rw [← hA]; exact Boxed.new _ _ _
  have cp := HP.out.cell
  obtain ⟨d0, d1, d2, d3, d4, d5⟩ := HN.out
  have HB : Hid (Below w.heap.size w A) := hB
  have N1 : Hid (∀ d, Calls Tryz.prog 72 #[.string x.s] d fun e w' => e = .returned (.bool true) ∧ Below d.heap.size d w') := fun d => by have := name_any x.s d; rw [h1] at this; exact this
  have N2 : Hid (∀ d, Calls Tryz.prog 72 #[.string x.t] d fun e w' => e = .returned (.bool true) ∧ Below d.heap.size d w') := fun d => by have := name_any x.t d; rw [h2] at this; exact this
  clear hB hN h1 h2
  go_enter Tryz.func74, Tryz.ntmps74
  go_wp2_with (first
    | (go_at_call 72; refine (N1.out _).mono ?_; clear N1; rintro e w1 ⟨rfl, hB1⟩; have cp1 := (Boxed.kept_of HP.out hB1 (by omega)).cell; obtain ⟨e0, e1, e2, e3, e4, e5⟩ := HN.out.later hB1)
    | (go_at_call 72; refine (N2.out _).mono ?_; clear N2; rintro e w2 ⟨rfl, hB2⟩; have hB12 := hB1.trans (hB2.mono hB1.size); have cp2 := (Boxed.kept_of HP.out hB12 (by omega)).cell; obtain ⟨g0, g1, g2, g3, g4, g5⟩ := HN.out.later hB12))
  go_ret
  exact ⟨rfl, HB.out.trans (hB12.mono (by omega))⟩
theorem rP1_any (x : Pt) (b o : Nat) (w : World) (hN : NodeP w b o x) (k1 : (x.k == 1) = true) : Calls Tryz.prog 74 #[.pointer (some ⟨b, o, none⟩)] w fun e w' => e = .returned (.bool (leafB x)) ∧ Below w.heap.size w w' := by
  cases h1 : nameB x.s with
  | false => rw [show leafB x = false by simp [leafB, h1]]; exact rP1_0 x b o w hN k1 h1
  | true =>
    cases h2 : nameB x.t with
    | false => rw [show leafB x = false by simp [leafB, h2]]; exact rP1_1 x b o w hN k1 h1 h2
    | true =>
      cases h3 : (x.lo == 0) with
      | false => rw [show leafB x = false by simp [leafB, h3]]; exact rP1_2 x b o w hN k1 h1 h2 h3
      | true =>
        cases h4 : (x.hi == 0) with
        | false => rw [show leafB x = false by simp [leafB, h4]]; exact rP1_3 x b o w hN k1 h1 h2 h3 h4
        | true =>
          cases h5 : (x.n == 0) with
          | false => rw [show leafB x = false by simp [leafB, h5]]; exact rP1_4 x b o w hN k1 h1 h2 h3 h4 (by simp at h5 ⊢; omega)
          | true => rw [show leafB x = true by simp [leafB, h1, h2, h3, h4, h5]]; exact rP1_5 x b o w hN k1 h1 h2 h3 h4 (by simp at h5 ⊢; omega)
set_option maxRecDepth 100000 in
set_option maxHeartbeats 2000000 in
theorem rP6_0 (x : Pt) (b o : Nat) (w : World) (hN : NodeP w b o x) (k1 : (x.k == 1) = false) (k6 : (x.k == 6) = true) (h1 : nameB x.s = false) : Calls Tryz.prog 74 #[.pointer (some ⟨b, o, none⟩)] w fun e w' => e = .returned (.bool false) ∧ Below w.heap.size w w' := by
  obtain ⟨A, hA⟩ : ∃ A, w.alloc (.cells #[.pointer (some ⟨b, o, none⟩)] 81) = A := ⟨_, rfl⟩
  have hB : Below w.heap.size w A := by rw [← hA]; exact (Below.refl _ w).alloc (Nat.le_refl _) _
  have hs : A.heap.size = w.heap.size + 1 := by rw [← hA]; simp
  have HN : Hid (NodeP A b o x) := hN.later hB
  have HP : Hid (Boxed A w.heap.size 81 (.pointer (some ⟨b, o, none⟩))) := by show Boxed _ _ _ _; rw [← hA]; exact Boxed.new _ _ _
  have cp := HP.out.cell
  obtain ⟨d0, d1, d2, d3, d4, d5⟩ := HN.out
  have HB : Hid (Below w.heap.size w A) := hB
  have N1 : Hid (∀ d, Calls Tryz.prog 72 #[.string x.s] d fun e w' => e = .returned (.bool false) ∧ Below d.heap.size d w') := fun d => by have := name_any x.s d; rw [h1] at this; exact this
  clear hB hN h1
  go_enter Tryz.func74, Tryz.ntmps74
  go_wp2_with (first
    | (go_at_call 72; refine (N1.out _).mono ?_; clear N1; rintro e w1 ⟨rfl, hB1⟩; have cp1 := (Boxed.kept_of HP.out hB1 (by omega)).cell; obtain ⟨e0, e1, e2, e3, e4, e5⟩ := HN.out.later hB1))
  go_ret
  exact ⟨rfl, HB.out.trans (hB1.mono (by omega))⟩
set_option maxRecDepth 100000 in
set_option maxHeartbeats 2000000 in
theorem rP6_1 (x : Pt) (b o : Nat) (w : World) (hN : NodeP w b o x) (k1 : (x.k == 1) = false) (k6 : (x.k == 6) = true) (h1 : nameB x.s = true) (h2 : nameB x.t = false) : Calls Tryz.prog 74 #[.pointer (some ⟨b, o, none⟩)] w fun e w' => e = .returned (.bool false) ∧ Below w.heap.size w w' := by
  obtain ⟨A, hA⟩ : ∃ A, w.alloc (.cells #[.pointer (some ⟨b, o, none⟩)] 81) = A := ⟨_, rfl⟩
  have hB : Below w.heap.size w A := by rw [← hA]; exact (Below.refl _ w).alloc (Nat.le_refl _) _
  have hs : A.heap.size = w.heap.size + 1 := by rw [← hA]; simp
  have HN : Hid (NodeP A b o x) := hN.later hB
  have HP : Hid (Boxed A w.heap.size 81 (.pointer (some ⟨b, o, none⟩))) := by show Boxed _ _ _ _; rw [← hA]; exact Boxed.new _ _ _
  have cp := HP.out.cell
  obtain ⟨d0, d1, d2, d3, d4, d5⟩ := HN.out
  have HB : Hid (Below w.heap.size w A) := hB
  have N1 : Hid (∀ d, Calls Tryz.prog 72 #[.string x.s] d fun e w' => e = .returned (.bool true) ∧ Below d.heap.size d w') := fun d => by have := name_any x.s d; rw [h1] at this; exact this
  have N2 : Hid (∀ d, Calls Tryz.prog 72 #[.string x.t] d fun e w' => e = .returned (.bool false) ∧ Below d.heap.size d w') := fun d => by have := name_any x.t d; rw [h2] at this; exact this
  clear hB hN h1 h2
  go_enter Tryz.func74, Tryz.ntmps74
  go_wp2_with (first
    | (go_at_call 72; refine (N1.out _).mono ?_; clear N1; rintro e w1 ⟨rfl, hB1⟩; have cp1 := (Boxed.kept_of HP.out hB1 (by omega)).cell; obtain ⟨e0, e1, e2, e3, e4, e5⟩ := HN.out.later hB1)
    | (go_at_call 72; refine (N2.out _).mono ?_; clear N2; rintro e w2 ⟨rfl, hB2⟩; have hB12 := hB1.trans (hB2.mono hB1.size); have cp2 := (Boxed.kept_of HP.out hB12 (by omega)).cell; obtain ⟨g0, g1, g2, g3, g4, g5⟩ := HN.out.later hB12))
  go_ret
  exact ⟨rfl, HB.out.trans (hB12.mono (by omega))⟩
set_option maxRecDepth 100000 in
set_option maxHeartbeats 2000000 in
theorem rP6_2 (x : Pt) (b o : Nat) (w : World) (hN : NodeP w b o x) (k1 : (x.k == 1) = false) (k6 : (x.k == 6) = true) (h1 : nameB x.s = true) (h2 : nameB x.t = true) (h3 : (x.lo == 0) = false) : Calls Tryz.prog 74 #[.pointer (some ⟨b, o, none⟩)] w fun e w' => e = .returned (.bool false) ∧ Below w.heap.size w w' := by
  obtain ⟨A, hA⟩ : ∃ A, w.alloc (.cells #[.pointer (some ⟨b, o, none⟩)] 81) = A := ⟨_, rfl⟩
  have hB : Below w.heap.size w A := by rw [← hA]; exact (Below.refl _ w).alloc (Nat.le_refl _) _
  have hs : A.heap.size = w.heap.size + 1 := by rw [← hA]; simp
  have HN : Hid (NodeP A b o x) := hN.later hB
  have HP : Hid (Boxed A w.heap.size 81 (.pointer (some ⟨b, o, none⟩))) := by show Boxed _ _ _ _; rw [← hA]; exact Boxed.new _ _ _
  have cp := HP.out.cell
  obtain ⟨d0, d1, d2, d3, d4, d5⟩ := HN.out
  have HB : Hid (Below w.heap.size w A) := hB
  have N1 : Hid (∀ d, Calls Tryz.prog 72 #[.string x.s] d fun e w' => e = .returned (.bool true) ∧ Below d.heap.size d w') := fun d => by have := name_any x.s d; rw [h1] at this; exact this
  have N2 : Hid (∀ d, Calls Tryz.prog 72 #[.string x.t] d fun e w' => e = .returned (.bool true) ∧ Below d.heap.size d w') := fun d => by have := name_any x.t d; rw [h2] at this; exact this
  clear hB hN h1 h2
  go_enter Tryz.func74, Tryz.ntmps74
  go_wp2_with (first
    | (go_at_call 72; refine (N1.out _).mono ?_; clear N1; rintro e w1 ⟨rfl, hB1⟩; have cp1 := (Boxed.kept_of HP.out hB1 (by omega)).cell; obtain ⟨e0, e1, e2, e3, e4, e5⟩ := HN.out.later hB1)
    | (go_at_call 72; refine (N2.out _).mono ?_; clear N2; rintro e w2 ⟨rfl, hB2⟩; have hB12 := hB1.trans (hB2.mono hB1.size); have cp2 := (Boxed.kept_of HP.out hB12 (by omega)).cell; obtain ⟨g0, g1, g2, g3, g4, g5⟩ := HN.out.later hB12))
  go_ret
  exact ⟨rfl, HB.out.trans (hB12.mono (by omega))⟩
set_option maxRecDepth 100000 in
set_option maxHeartbeats 2000000 in
theorem rP6_3 (x : Pt) (b o : Nat) (w : World) (hN : NodeP w b o x) (k1 : (x.k == 1) = false) (k6 : (x.k == 6) = true) (h1 : nameB x.s = true) (h2 : nameB x.t = true) (h3 : (x.lo == 0) = true) (h4 : (x.hi == 0) = false) : Calls Tryz.prog 74 #[.pointer (some ⟨b, o, none⟩)] w fun e w' => e = .returned (.bool false) ∧ Below w.heap.size w w' := by
  obtain ⟨A, hA⟩ : ∃ A, w.alloc (.cells #[.pointer (some ⟨b, o, none⟩)] 81) = A := ⟨_, rfl⟩
  have hB : Below w.heap.size w A := by rw [← hA]; exact (Below.refl _ w).alloc (Nat.le_refl _) _
  have hs : A.heap.size = w.heap.size + 1 := by rw [← hA]; simp
  have HN : Hid (NodeP A b o x) := hN.later hB
  have HP : Hid (Boxed A w.heap.size 81 (.pointer (some ⟨b, o, none⟩))) := by show Boxed _ _ _ _; rw [← hA]; exact Boxed.new _ _ _
  have cp := HP.out.cell
  obtain ⟨d0, d1, d2, d3, d4, d5⟩ := HN.out
  have HB : Hid (Below w.heap.size w A) := hB
  have N1 : Hid (∀ d, Calls Tryz.prog 72 #[.string x.s] d fun e w' => e = .returned (.bool true) ∧ Below d.heap.size d w') := fun d => by have := name_any x.s d; rw [h1] at this; exact this
  have N2 : Hid (∀ d, Calls Tryz.prog 72 #[.string x.t] d fun e w' => e = .returned (.bool true) ∧ Below d.heap.size d w') := fun d => by have := name_any x.t d; rw [h2] at this; exact this
  clear hB hN h1 h2
  go_enter Tryz.func74, Tryz.ntmps74
  go_wp2_with (first
    | (go_at_call 72; refine (N1.out _).mono ?_; clear N1; rintro e w1 ⟨rfl, hB1⟩; have cp1 := (Boxed.kept_of HP.out hB1 (by omega)).cell; obtain ⟨e0, e1, e2, e3, e4, e5⟩ := HN.out.later hB1)
    | (go_at_call 72; refine (N2.out _).mono ?_; clear N2; rintro e w2 ⟨rfl, hB2⟩; have hB12 := hB1.trans (hB2.mono hB1.size); have cp2 := (Boxed.kept_of HP.out hB12 (by omega)).cell; obtain ⟨g0, g1, g2, g3, g4, g5⟩ := HN.out.later hB12))
  go_ret
  exact ⟨rfl, HB.out.trans (hB12.mono (by omega))⟩
set_option maxRecDepth 100000 in
set_option maxHeartbeats 2000000 in
theorem rP6_4 (x : Pt) (b o : Nat) (w : World) (hN : NodeP w b o x) (k1 : (x.k == 1) = false) (k6 : (x.k == 6) = true) (h1 : nameB x.s = true) (h2 : nameB x.t = true) (h3 : (x.lo == 0) = true) (h4 : (x.hi == 0) = true) (h5 : (((x.n : Nat) : Int) == 0) = false) : Calls Tryz.prog 74 #[.pointer (some ⟨b, o, none⟩)] w fun e w' => e = .returned (.bool false) ∧ Below w.heap.size w w' := by
  obtain ⟨A, hA⟩ : ∃ A, w.alloc (.cells #[.pointer (some ⟨b, o, none⟩)] 81) = A := ⟨_, rfl⟩
  have hB : Below w.heap.size w A := by rw [← hA]; exact (Below.refl _ w).alloc (Nat.le_refl _) _
  have hs : A.heap.size = w.heap.size + 1 := by rw [← hA]; simp
  have HN : Hid (NodeP A b o x) := hN.later hB
  have HP : Hid (Boxed A w.heap.size 81 (.pointer (some ⟨b, o, none⟩))) := by show Boxed _ _ _ _; rw [← hA]; exact Boxed.new _ _ _
  have cp := HP.out.cell
  obtain ⟨d0, d1, d2, d3, d4, d5⟩ := HN.out
  have HB : Hid (Below w.heap.size w A) := hB
  have N1 : Hid (∀ d, Calls Tryz.prog 72 #[.string x.s] d fun e w' => e = .returned (.bool true) ∧ Below d.heap.size d w') := fun d => by have := name_any x.s d; rw [h1] at this; exact this
  have N2 : Hid (∀ d, Calls Tryz.prog 72 #[.string x.t] d fun e w' => e = .returned (.bool true) ∧ Below d.heap.size d w') := fun d => by have := name_any x.t d; rw [h2] at this; exact this
  clear hB hN h1 h2
  go_enter Tryz.func74, Tryz.ntmps74
  go_wp2_with (first
    | (go_at_call 72; refine (N1.out _).mono ?_; clear N1; rintro e w1 ⟨rfl, hB1⟩; have cp1 := (Boxed.kept_of HP.out hB1 (by omega)).cell; obtain ⟨e0, e1, e2, e3, e4, e5⟩ := HN.out.later hB1)
    | (go_at_call 72; refine (N2.out _).mono ?_; clear N2; rintro e w2 ⟨rfl, hB2⟩; have hB12 := hB1.trans (hB2.mono hB1.size); have cp2 := (Boxed.kept_of HP.out hB12 (by omega)).cell; obtain ⟨g0, g1, g2, g3, g4, g5⟩ := HN.out.later hB12))
  go_ret
  exact ⟨rfl, HB.out.trans (hB12.mono (by omega))⟩
set_option maxRecDepth 100000 in
set_option maxHeartbeats 2000000 in
theorem rP6_5 (x : Pt) (b o : Nat) (w : World) (hN : NodeP w b o x) (k1 : (x.k == 1) = false) (k6 : (x.k == 6) = true) (h1 : nameB x.s = true) (h2 : nameB x.t = true) (h3 : (x.lo == 0) = true) (h4 : (x.hi == 0) = true) (h5 : (((x.n : Nat) : Int) == 0) = true) : Calls Tryz.prog 74 #[.pointer (some ⟨b, o, none⟩)] w fun e w' => e = .returned (.bool true) ∧ Below w.heap.size w w' := by
  obtain ⟨A, hA⟩ : ∃ A, w.alloc (.cells #[.pointer (some ⟨b, o, none⟩)] 81) = A := ⟨_, rfl⟩
  have hB : Below w.heap.size w A := by rw [← hA]; exact (Below.refl _ w).alloc (Nat.le_refl _) _
  have hs : A.heap.size = w.heap.size + 1 := by rw [← hA]; simp
  have HN : Hid (NodeP A b o x) := hN.later hB
  have HP : Hid (Boxed A w.heap.size 81 (.pointer (some ⟨b, o, none⟩))) := by show Boxed _ _ _ _; rw [← hA]; exact Boxed.new _ _ _
  have cp := HP.out.cell
  obtain ⟨d0, d1, d2, d3, d4, d5⟩ := HN.out
  have HB : Hid (Below w.heap.size w A) := hB
  have N1 : Hid (∀ d, Calls Tryz.prog 72 #[.string x.s] d fun e w' => e = .returned (.bool true) ∧ Below d.heap.size d w') := fun d => by have := name_any x.s d; rw [h1] at this; exact this
  have N2 : Hid (∀ d, Calls Tryz.prog 72 #[.string x.t] d fun e w' => e = .returned (.bool true) ∧ Below d.heap.size d w') := fun d => by have := name_any x.t d; rw [h2] at this; exact this
  clear hB hN h1 h2
  go_enter Tryz.func74, Tryz.ntmps74
  go_wp2_with (first
    | (go_at_call 72; refine (N1.out _).mono ?_; clear N1; rintro e w1 ⟨rfl, hB1⟩; have cp1 := (Boxed.kept_of HP.out hB1 (by omega)).cell; obtain ⟨e0, e1, e2, e3, e4, e5⟩ := HN.out.later hB1)
    | (go_at_call 72; refine (N2.out _).mono ?_; clear N2; rintro e w2 ⟨rfl, hB2⟩; have hB12 := hB1.trans (hB2.mono hB1.size); have cp2 := (Boxed.kept_of HP.out hB12 (by omega)).cell; obtain ⟨g0, g1, g2, g3, g4, g5⟩ := HN.out.later hB12))
  go_ret
  exact ⟨rfl, HB.out.trans (hB12.mono (by omega))⟩
theorem rP6_any (x : Pt) (b o : Nat) (w : World) (hN : NodeP w b o x) (k1 : (x.k == 1) = false) (k6 : (x.k == 6) = true) : Calls Tryz.prog 74 #[.pointer (some ⟨b, o, none⟩)] w fun e w' => e = .returned (.bool (leafB x)) ∧ Below w.heap.size w w' := by
  cases h1 : nameB x.s with
  | false => rw [show leafB x = false by simp [leafB, h1]]; exact rP6_0 x b o w hN k1 k6 h1
  | true =>
    cases h2 : nameB x.t with
    | false => rw [show leafB x = false by simp [leafB, h2]]; exact rP6_1 x b o w hN k1 k6 h1 h2
    | true =>
      cases h3 : (x.lo == 0) with
      | false => rw [show leafB x = false by simp [leafB, h3]]; exact rP6_2 x b o w hN k1 k6 h1 h2 h3
      | true =>
        cases h4 : (x.hi == 0) with
        | false => rw [show leafB x = false by simp [leafB, h4]]; exact rP6_3 x b o w hN k1 k6 h1 h2 h3 h4
        | true =>
          cases h5 : (x.n == 0) with
          | false => rw [show leafB x = false by simp [leafB, h5]]; exact rP6_4 x b o w hN k1 k6 h1 h2 h3 h4 (by simp at h5 ⊢; omega)
          | true => rw [show leafB x = true by simp [leafB, h1, h2, h3, h4, h5]]; exact rP6_5 x b o w hN k1 k6 h1 h2 h3 h4 (by simp at h5 ⊢; omega)
end Go.Proofs.YtfnfegcjgnbgbaaGreatDoor
