/-
  The document's right of conditions: where it is told by the node alone.
-/
import Derived.Test.YtfnfegcjgnbgbaaGreatDoorTExprRightMath
import Derived.Test.YtfnfegcjgnbgbaaGreatDoorTAbRefRow
import Derived.Test.YtfnfegcjgnbgbaaGreatDoorTExprKinds
import Derived.BigQuiet
namespace Go.Proofs.YtfnfegcjgnbgbaaGreatDoor
open Go.RowKit

/-- A condition in a box of its own. -/
theorem one_box (x : X) (w : World) : ∃ A, w.alloc (.cells x.cells 51) = A ∧ Below w.heap.size w A ∧ A.heap.size = w.heap.size + 1 ∧ Node A w.heap.size 0 x :=
  ⟨_, rfl, (Below.refl _ w).alloc (Nat.le_refl _) _, by simp, node_new w _ x⟩
theorem emp_not {s : ByteArray} (h : ¬ s = ⟨#[]⟩) : (s.toList == []) = false := by
  have := str_not h
  rw [show (⟨#[]⟩ : ByteArray).toList = [] by rw [ByteArray.toList_eq]] at this
  exact this
theorem emp_ne {s : ByteArray} (h : ¬ s = ⟨#[]⟩) : ¬ s.toList = [] := fun e => by have := emp_not h; rw [e] at this; cases this
theorem emp_is {s : ByteArray} (h : ¬ s = ⟨#[]⟩) : s.toList.isEmpty = false := by
  cases e : s.toList with
  | nil => exact absurd e (emp_ne h)
  | cons a l => rfl
set_option maxRecDepth 100000 in
set_option maxHeartbeats 2000000 in
theorem refR_va (x : X) (w : World) (hk : ¬ x.k = 1) (hv : ¬ x.v.k = 0) :
    Calls Tryz.prog 85 #[x.val] w fun e w' => e = .returned (.bool false) ∧ Below w.heap.size w w' := by
  obtain ⟨A, hA, hB, hs, hn⟩ := one_box x w
  obtain ⟨a0, a1, a2, a3, a4, a5, a6⟩ := hn.at0
  have HB : Hid (Below w.heap.size w A) := hB
  have HN : Hid (Node A w.heap.size 0 x) := hn
  have k1 : (x.k == 1) = false := by simpa using hk
  have t1 : (x.v.k == 0) = false := by simpa using hv
  clear hB hn
  go_enter Tryz.func85, Tryz.ntmps85
  go_wp2
  go_ret
  exact ⟨rfl, HB.out⟩
set_option maxRecDepth 100000 in
set_option maxHeartbeats 2000000 in
theorem refR_vb (x : X) (w : World) (hk : ¬ x.k = 1) (h0 : x.v.k = 0) (hv : ¬ x.v.n = 0) :
    Calls Tryz.prog 85 #[x.val] w fun e w' => e = .returned (.bool false) ∧ Below w.heap.size w w' := by
  obtain ⟨A, hA, hB, hs, hn⟩ := one_box x w
  obtain ⟨a0, a1, a2, a3, a4, a5, a6⟩ := hn.at0
  have HB : Hid (Below w.heap.size w A) := hB
  have HN : Hid (Node A w.heap.size 0 x) := hn
  have k1 : (x.k == 1) = false := by simpa using hk
  have t1 : (x.v.n == 0) = false := by simpa using hv
  rw [h0] at a1
  clear h0
  clear hB hn
  go_enter Tryz.func85, Tryz.ntmps85
  go_wp2
  go_ret
  exact ⟨rfl, HB.out⟩
set_option maxRecDepth 100000 in
set_option maxHeartbeats 2000000 in
theorem refR_vc (x : X) (w : World) (hk : ¬ x.k = 1) (h0 : x.v.k = 0) (h1 : x.v.n = 0) (hv : ¬ x.v.s = ⟨#[]⟩) :
    Calls Tryz.prog 85 #[x.val] w fun e w' => e = .returned (.bool false) ∧ Below w.heap.size w w' := by
  obtain ⟨A, hA, hB, hs, hn⟩ := one_box x w
  obtain ⟨a0, a1, a2, a3, a4, a5, a6⟩ := hn.at0
  have HB : Hid (Below w.heap.size w A) := hB
  have HN : Hid (Node A w.heap.size 0 x) := hn
  have k1 : (x.k == 1) = false := by simpa using hk
  have t1 := emp_not hv
  clear hv
  rw [h0] at a1
  clear h0
  rw [h1] at a2
  clear h1
  clear hB hn
  go_enter Tryz.func85, Tryz.ntmps85
  go_wp2
  go_ret
  exact ⟨rfl, HB.out⟩
set_option maxRecDepth 100000 in
set_option maxHeartbeats 2000000 in
theorem refR_1s (x : X) (w : World) (hk : x.k = 1) (ht : ¬ x.s = ⟨#[]⟩) :
    Calls Tryz.prog 85 #[x.val] w fun e w' => e = .returned (.bool false) ∧ Below w.heap.size w w' := by
  obtain ⟨A, hA, hB, hs, hn⟩ := one_box x w
  obtain ⟨a0, a1, a2, a3, a4, a5, a6⟩ := hn.at0
  have HB : Hid (Below w.heap.size w A) := hB
  have HN : Hid (Node A w.heap.size 0 x) := hn
  have t1 := emp_not ht
  have t2 := emp_is ht
  have t3 := emp_ne ht
  clear ht
  rw [hk] at a0
  clear hk
  clear hB hn
  go_enter Tryz.func85, Tryz.ntmps85
  go_wp2
  go_ret
  exact ⟨rfl, HB.out⟩
set_option maxRecDepth 100000 in
set_option maxHeartbeats 2000000 in
theorem refR_ns (x : X) (w : World) (hk : ¬ x.k = 1) (hk2 : ¬ x.k = 2) (hv : x.v = val0) (ht : ¬ x.s = ⟨#[]⟩) :
    Calls Tryz.prog 85 #[x.val] w fun e w' => e = .returned (.bool false) ∧ Below w.heap.size w w' := by
  obtain ⟨A, hA, hB, hs, hn⟩ := one_box x w
  obtain ⟨a0, a1, a2, a3, a4, a5, a6⟩ := hn.at0
  have HB : Hid (Below w.heap.size w A) := hB
  have HN : Hid (Node A w.heap.size 0 x) := hn
  have k1 : (x.k == 1) = false := by simpa using hk
  have k2 : (x.k == 2) = false := by simpa using hk2
  have t1 := emp_not ht
  have t2 := emp_is ht
  have t3 := emp_ne ht
  clear ht
  rw [hv] at a1 a2 a3
  have v1 : val0.k = 0 := rfl
  have v2 : val0.n = 0 := rfl
  have v3 : val0.s = ⟨#[]⟩ := rfl
  rw [v1] at a1
  rw [v2] at a2
  rw [v3] at a3
  clear v1 v2 v3 hv
  clear hB hn
  go_enter Tryz.func85, Tryz.ntmps85
  go_wp2
  go_ret
  exact ⟨rfl, HB.out⟩
set_option maxRecDepth 100000 in
set_option maxHeartbeats 2000000 in
theorem refR_1f (x : X) (w : World) (hk : x.k = 1) (h0 : x.s = ⟨#[]⟩) (ht : ¬ x.f = ⟨#[]⟩) :
    Calls Tryz.prog 85 #[x.val] w fun e w' => e = .returned (.bool false) ∧ Below w.heap.size w w' := by
  obtain ⟨A, hA, hB, hs, hn⟩ := one_box x w
  obtain ⟨a0, a1, a2, a3, a4, a5, a6⟩ := hn.at0
  have HB : Hid (Below w.heap.size w A) := hB
  have HN : Hid (Node A w.heap.size 0 x) := hn
  have t1 := emp_not ht
  have t2 := emp_is ht
  have t3 := emp_ne ht
  clear ht
  rw [hk] at a0
  clear hk
  rw [h0] at a4
  clear h0
  clear hB hn
  go_enter Tryz.func85, Tryz.ntmps85
  go_wp2
  go_ret
  exact ⟨rfl, HB.out⟩
set_option maxRecDepth 100000 in
set_option maxHeartbeats 2000000 in
theorem refR_nf (x : X) (w : World) (hk : ¬ x.k = 1) (hk2 : ¬ x.k = 2) (hv : x.v = val0) (h0 : x.s = ⟨#[]⟩) (ht : ¬ x.f = ⟨#[]⟩) :
    Calls Tryz.prog 85 #[x.val] w fun e w' => e = .returned (.bool false) ∧ Below w.heap.size w w' := by
  obtain ⟨A, hA, hB, hs, hn⟩ := one_box x w
  obtain ⟨a0, a1, a2, a3, a4, a5, a6⟩ := hn.at0
  have HB : Hid (Below w.heap.size w A) := hB
  have HN : Hid (Node A w.heap.size 0 x) := hn
  have k1 : (x.k == 1) = false := by simpa using hk
  have k2 : (x.k == 2) = false := by simpa using hk2
  have t1 := emp_not ht
  have t2 := emp_is ht
  have t3 := emp_ne ht
  clear ht
  rw [hv] at a1 a2 a3
  have v1 : val0.k = 0 := rfl
  have v2 : val0.n = 0 := rfl
  have v3 : val0.s = ⟨#[]⟩ := rfl
  rw [v1] at a1
  rw [v2] at a2
  rw [v3] at a3
  clear v1 v2 v3 hv
  rw [h0] at a4
  clear h0
  clear hB hn
  go_enter Tryz.func85, Tryz.ntmps85
  go_wp2
  go_ret
  exact ⟨rfl, HB.out⟩
set_option maxRecDepth 100000 in
set_option maxHeartbeats 2000000 in
theorem refR_1n (x : X) (w : World) (hk : x.k = 1) (hsf : x.s = ⟨#[]⟩ ∧ x.f = ⟨#[]⟩) (hn0 : ¬ x.n = 0) :
    Calls Tryz.prog 85 #[x.val] w fun e w' => e = .returned (.bool false) ∧ Below w.heap.size w w' := by
  obtain ⟨A, hA, hB, hs, hn⟩ := one_box x w
  obtain ⟨a0, a1, a2, a3, a4, a5, a6⟩ := hn.at0
  have HB : Hid (Below w.heap.size w A) := hB
  have HN : Hid (Node A w.heap.size 0 x) := hn
  have t1 : ((x.n : Int) == 0) = false := by simp; omega
  have t2 : ¬ (x.n : Int) = 0 := by omega
  clear hn0
  rw [hk] at a0
  clear hk
  rw [hsf.1] at a4
  rw [hsf.2] at a5
  clear hsf
  clear hB hn
  go_enter Tryz.func85, Tryz.ntmps85
  go_wp2
  go_ret
  exact ⟨rfl, HB.out⟩
set_option maxRecDepth 100000 in
set_option maxHeartbeats 2000000 in
theorem refR_1 (x : X) (w : World) (hk : x.k = 1) (hsf : x.s = ⟨#[]⟩ ∧ x.f = ⟨#[]⟩) (hn0 : x.n = 0) :
    Calls Tryz.prog 85 #[x.val] w fun e w' => e = .returned (.bool (rightB x.v.k x.v.n x.v.s)) ∧ Below w.heap.size w w' := by
  obtain ⟨A, hA, hB, hs, hn⟩ := one_box x w
  obtain ⟨a0, a1, a2, a3, a4, a5, a6⟩ := hn.at0
  have HB : Hid (Below w.heap.size w A) := hB
  have HN : Hid (Node A w.heap.size 0 x) := hn
  have t1 : ((x.n : Int) == 0) = true := by simp; omega
  clear hn0
  obtain ⟨r, hr⟩ : ∃ r, r = rightB x.v.k x.v.n x.v.s := ⟨_, rfl⟩
  rw [← hr]
  have hR : Hid (∀ d, Calls Tryz.prog 99 #[valV x.v.k x.v.n x.v.s] d fun e w' => e = .returned (.bool r) ∧ Below d.heap.size d w') := fun d => by rw [hr]; exact refRight_any x.v.k x.v.n x.v.s d
  clear hr
  rw [hk] at a0
  clear hk
  rw [hsf.1] at a4
  rw [hsf.2] at a5
  clear hsf
  clear hB hn
  go_enter Tryz.func85, Tryz.ntmps85
  go_wp2_with (go_at_call 99; refine (hR.out _).mono ?_; rintro e w2 ⟨rfl, hB2⟩)
  go_ret
  exact ⟨rfl, HB.out.trans (hB2.mono (by omega))⟩
set_option maxRecDepth 100000 in
set_option maxHeartbeats 2000000 in
theorem refR_2n (x : X) (w : World) (hk : x.k = 2) (hv : x.v = val0) (hn0 : ¬ x.n = 0) :
    Calls Tryz.prog 85 #[x.val] w fun e w' => e = .returned (.bool false) ∧ Below w.heap.size w w' := by
  obtain ⟨A, hA, hB, hs, hn⟩ := one_box x w
  obtain ⟨a0, a1, a2, a3, a4, a5, a6⟩ := hn.at0
  have HB : Hid (Below w.heap.size w A) := hB
  have HN : Hid (Node A w.heap.size 0 x) := hn
  have t1 : ((x.n : Int) == 0) = false := by simp; omega
  have t2 : ¬ (x.n : Int) = 0 := by omega
  clear hn0
  rw [hk] at a0
  clear hk
  rw [hv] at a1 a2 a3
  have v1 : val0.k = 0 := rfl
  have v2 : val0.n = 0 := rfl
  have v3 : val0.s = ⟨#[]⟩ := rfl
  rw [v1] at a1
  rw [v2] at a2
  rw [v3] at a3
  clear v1 v2 v3 hv
  clear hB hn
  go_enter Tryz.func85, Tryz.ntmps85
  go_wp2
  go_ret
  exact ⟨rfl, HB.out⟩
set_option maxRecDepth 100000 in
set_option maxHeartbeats 2000000 in
theorem refR_2_truetrue (x : X) (w : World) (hk : x.k = 2) (hv : x.v = val0) (hn0 : x.n = 0) (ok : XOk x) (h1 : nameB x.s = true) (h2 : nameB x.f = true) :
    Calls Tryz.prog 85 #[x.val] w fun e w' => e = .returned (.bool true) ∧ Below w.heap.size w w' := by
  obtain ⟨A, hA, hB, hs, hn⟩ := one_box x w
  obtain ⟨a0, a1, a2, a3, a4, a5, a6⟩ := hn.at0
  have HB : Hid (Below w.heap.size w A) := hB
  have HN : Hid (Node A w.heap.size 0 x) := hn
  have t1 : ((x.n : Int) == 0) = true := by simp; omega
  have os := ((xOk_eq x).1 ok).1
  have of := ((xOk_eq x).1 ok).2.1
  have hR1 : Hid (∀ d, Calls Tryz.prog 61 #[.string x.s] d fun e w' => e = .returned (.bool true) ∧ w' = d) := fun d => by have := refName_any x.s d os; rw [h1] at this; exact this
  have hR2 : Hid (∀ d, Calls Tryz.prog 61 #[.string x.f] d fun e w' => e = .returned (.bool true) ∧ w' = d) := fun d => by have := refName_any x.f d of; rw [h2] at this; exact this
  clear hn0 os of ok h1 h2
  rw [hk] at a0
  clear hk
  rw [hv] at a1 a2 a3
  have v1 : val0.k = 0 := rfl
  have v2 : val0.n = 0 := rfl
  have v3 : val0.s = ⟨#[]⟩ := rfl
  rw [v1] at a1
  rw [v2] at a2
  rw [v3] at a3
  clear v1 v2 v3 hv
  clear hB hn
  go_enter Tryz.func85, Tryz.ntmps85
  go_wp2_with (first
    | (go_at_call 61; refine (hR1.out _).mono ?_; clear hR1; rintro e w2 ⟨rfl, hw2⟩; replace hw2 := hw2.symm; subst hw2)
    | (go_at_call 61; refine (hR2.out _).mono ?_; clear hR2; rintro e w2 ⟨rfl, hw2⟩; replace hw2 := hw2.symm; subst hw2))
  go_ret
  exact ⟨rfl, HB.out⟩
set_option maxRecDepth 100000 in
set_option maxHeartbeats 2000000 in
theorem refR_2_truefalse (x : X) (w : World) (hk : x.k = 2) (hv : x.v = val0) (hn0 : x.n = 0) (ok : XOk x) (h1 : nameB x.s = true) (h2 : nameB x.f = false) :
    Calls Tryz.prog 85 #[x.val] w fun e w' => e = .returned (.bool false) ∧ Below w.heap.size w w' := by
  obtain ⟨A, hA, hB, hs, hn⟩ := one_box x w
  obtain ⟨a0, a1, a2, a3, a4, a5, a6⟩ := hn.at0
  have HB : Hid (Below w.heap.size w A) := hB
  have HN : Hid (Node A w.heap.size 0 x) := hn
  have t1 : ((x.n : Int) == 0) = true := by simp; omega
  have os := ((xOk_eq x).1 ok).1
  have of := ((xOk_eq x).1 ok).2.1
  have hR1 : Hid (∀ d, Calls Tryz.prog 61 #[.string x.s] d fun e w' => e = .returned (.bool true) ∧ w' = d) := fun d => by have := refName_any x.s d os; rw [h1] at this; exact this
  have hR2 : Hid (∀ d, Calls Tryz.prog 61 #[.string x.f] d fun e w' => e = .returned (.bool false) ∧ w' = d) := fun d => by have := refName_any x.f d of; rw [h2] at this; exact this
  clear hn0 os of ok h1 h2
  rw [hk] at a0
  clear hk
  rw [hv] at a1 a2 a3
  have v1 : val0.k = 0 := rfl
  have v2 : val0.n = 0 := rfl
  have v3 : val0.s = ⟨#[]⟩ := rfl
  rw [v1] at a1
  rw [v2] at a2
  rw [v3] at a3
  clear v1 v2 v3 hv
  clear hB hn
  go_enter Tryz.func85, Tryz.ntmps85
  go_wp2_with (first
    | (go_at_call 61; refine (hR1.out _).mono ?_; clear hR1; rintro e w2 ⟨rfl, hw2⟩; replace hw2 := hw2.symm; subst hw2)
    | (go_at_call 61; refine (hR2.out _).mono ?_; clear hR2; rintro e w2 ⟨rfl, hw2⟩; replace hw2 := hw2.symm; subst hw2))
  go_ret
  exact ⟨rfl, HB.out⟩
set_option maxRecDepth 100000 in
set_option maxHeartbeats 2000000 in
theorem refR_2_false (x : X) (w : World) (hk : x.k = 2) (hv : x.v = val0) (hn0 : x.n = 0) (ok : XOk x) (h1 : nameB x.s = false) :
    Calls Tryz.prog 85 #[x.val] w fun e w' => e = .returned (.bool false) ∧ Below w.heap.size w w' := by
  obtain ⟨A, hA, hB, hs, hn⟩ := one_box x w
  obtain ⟨a0, a1, a2, a3, a4, a5, a6⟩ := hn.at0
  have HB : Hid (Below w.heap.size w A) := hB
  have HN : Hid (Node A w.heap.size 0 x) := hn
  have t1 : ((x.n : Int) == 0) = true := by simp; omega
  have os := ((xOk_eq x).1 ok).1
  have of := ((xOk_eq x).1 ok).2.1
  have hR1 : Hid (∀ d, Calls Tryz.prog 61 #[.string x.s] d fun e w' => e = .returned (.bool false) ∧ w' = d) := fun d => by have := refName_any x.s d os; rw [h1] at this; exact this
  clear hn0 os of ok h1
  rw [hk] at a0
  clear hk
  rw [hv] at a1 a2 a3
  have v1 : val0.k = 0 := rfl
  have v2 : val0.n = 0 := rfl
  have v3 : val0.s = ⟨#[]⟩ := rfl
  rw [v1] at a1
  rw [v2] at a2
  rw [v3] at a3
  clear v1 v2 v3 hv
  clear hB hn
  go_enter Tryz.func85, Tryz.ntmps85
  go_wp2_with (first
    | (go_at_call 61; refine (hR1.out _).mono ?_; clear hR1; rintro e w2 ⟨rfl, hw2⟩; replace hw2 := hw2.symm; subst hw2))
  go_ret
  exact ⟨rfl, HB.out⟩
set_option maxRecDepth 100000 in
set_option maxHeartbeats 2000000 in
theorem refR_3n (x : X) (w : World) (hk : x.k = 3) (hv : x.v = val0) (hsf : x.s = ⟨#[]⟩ ∧ x.f = ⟨#[]⟩) (hn0 : ¬ x.n = 1) :
    Calls Tryz.prog 85 #[x.val] w fun e w' => e = .returned (.bool false) ∧ Below w.heap.size w w' := by
  obtain ⟨A, hA, hB, hs, hn⟩ := one_box x w
  obtain ⟨a0, a1, a2, a3, a4, a5, a6⟩ := hn.at0
  have HB : Hid (Below w.heap.size w A) := hB
  have HN : Hid (Node A w.heap.size 0 x) := hn
  have t1 : ((x.n : Int) == 1) = false := by simp; omega
  have t2 : ¬ (x.n : Int) = 1 := by omega
  clear hn0
  rw [hk] at a0
  clear hk
  rw [hv] at a1 a2 a3
  have v1 : val0.k = 0 := rfl
  have v2 : val0.n = 0 := rfl
  have v3 : val0.s = ⟨#[]⟩ := rfl
  rw [v1] at a1
  rw [v2] at a2
  rw [v3] at a3
  clear v1 v2 v3 hv
  rw [hsf.1] at a4
  rw [hsf.2] at a5
  clear hsf
  clear hB hn
  go_enter Tryz.func85, Tryz.ntmps85
  go_wp2
  go_ret
  exact ⟨rfl, HB.out⟩
set_option maxRecDepth 100000 in
set_option maxHeartbeats 2000000 in
theorem refR_15n (x : X) (w : World) (hk : x.k = 15) (hv : x.v = val0) (hsf : x.s = ⟨#[]⟩ ∧ x.f = ⟨#[]⟩) (hn0 : ¬ x.n = 1) :
    Calls Tryz.prog 85 #[x.val] w fun e w' => e = .returned (.bool false) ∧ Below w.heap.size w w' := by
  obtain ⟨A, hA, hB, hs, hn⟩ := one_box x w
  obtain ⟨a0, a1, a2, a3, a4, a5, a6⟩ := hn.at0
  have HB : Hid (Below w.heap.size w A) := hB
  have HN : Hid (Node A w.heap.size 0 x) := hn
  have t1 : ((x.n : Int) == 1) = false := by simp; omega
  have t2 : ¬ (x.n : Int) = 1 := by omega
  clear hn0
  rw [hk] at a0
  clear hk
  rw [hv] at a1 a2 a3
  have v1 : val0.k = 0 := rfl
  have v2 : val0.n = 0 := rfl
  have v3 : val0.s = ⟨#[]⟩ := rfl
  rw [v1] at a1
  rw [v2] at a2
  rw [v3] at a3
  clear v1 v2 v3 hv
  rw [hsf.1] at a4
  rw [hsf.2] at a5
  clear hsf
  clear hB hn
  go_enter Tryz.func85, Tryz.ntmps85
  go_wp2
  go_ret
  exact ⟨rfl, HB.out⟩
set_option maxRecDepth 100000 in
set_option maxHeartbeats 2000000 in
theorem refR_16n (x : X) (w : World) (hk : x.k = 16) (hv : x.v = val0) (hsf : x.s = ⟨#[]⟩ ∧ x.f = ⟨#[]⟩) (hn0 : ¬ 2 ≤ x.n) :
    Calls Tryz.prog 85 #[x.val] w fun e w' => e = .returned (.bool false) ∧ Below w.heap.size w w' := by
  obtain ⟨A, hA, hB, hs, hn⟩ := one_box x w
  obtain ⟨a0, a1, a2, a3, a4, a5, a6⟩ := hn.at0
  have HB : Hid (Below w.heap.size w A) := hB
  have HN : Hid (Node A w.heap.size 0 x) := hn
  have t1 : (x.n : Int) < 2 := by omega
  clear hn0
  rw [hk] at a0
  clear hk
  rw [hv] at a1 a2 a3
  have v1 : val0.k = 0 := rfl
  have v2 : val0.n = 0 := rfl
  have v3 : val0.s = ⟨#[]⟩ := rfl
  rw [v1] at a1
  rw [v2] at a2
  rw [v3] at a3
  clear v1 v2 v3 hv
  rw [hsf.1] at a4
  rw [hsf.2] at a5
  clear hsf
  clear hB hn
  go_enter Tryz.func85, Tryz.ntmps85
  go_wp2
  go_ret
  exact ⟨rfl, HB.out⟩
set_option maxRecDepth 100000 in
set_option maxHeartbeats 2000000 in
theorem refR_17n (x : X) (w : World) (hk : x.k = 17) (hv : x.v = val0) (hsf : x.s = ⟨#[]⟩ ∧ x.f = ⟨#[]⟩) (hn0 : ¬ 2 ≤ x.n) :
    Calls Tryz.prog 85 #[x.val] w fun e w' => e = .returned (.bool false) ∧ Below w.heap.size w w' := by
  obtain ⟨A, hA, hB, hs, hn⟩ := one_box x w
  obtain ⟨a0, a1, a2, a3, a4, a5, a6⟩ := hn.at0
  have HB : Hid (Below w.heap.size w A) := hB
  have HN : Hid (Node A w.heap.size 0 x) := hn
  have t1 : (x.n : Int) < 2 := by omega
  clear hn0
  rw [hk] at a0
  clear hk
  rw [hv] at a1 a2 a3
  have v1 : val0.k = 0 := rfl
  have v2 : val0.n = 0 := rfl
  have v3 : val0.s = ⟨#[]⟩ := rfl
  rw [v1] at a1
  rw [v2] at a2
  rw [v3] at a3
  clear v1 v2 v3 hv
  rw [hsf.1] at a4
  rw [hsf.2] at a5
  clear hsf
  clear hB hn
  go_enter Tryz.func85, Tryz.ntmps85
  go_wp2
  go_ret
  exact ⟨rfl, HB.out⟩
set_option maxRecDepth 100000 in
set_option maxHeartbeats 2000000 in
theorem refR_4n (x : X) (w : World) (hk : 4 ≤ x.k ∧ x.k ≤ 14) (hv : x.v = val0) (hsf : x.s = ⟨#[]⟩ ∧ x.f = ⟨#[]⟩) (hn0 : ¬ x.n = 2) :
    Calls Tryz.prog 85 #[x.val] w fun e w' => e = .returned (.bool false) ∧ Below w.heap.size w w' := by
  obtain ⟨A, hA, hB, hs, hn⟩ := one_box x w
  obtain ⟨a0, a1, a2, a3, a4, a5, a6⟩ := hn.at0
  have HB : Hid (Below w.heap.size w A) := hB
  have HN : Hid (Node A w.heap.size 0 x) := hn
  have p1 : ¬ x.k = 1 := by omega
  have p2 : ¬ x.k = 2 := by omega
  have k1 : (x.k == 1) = false := by simp; omega
  have k2 : (x.k == 2) = false := by simp; omega
  have p3 : ¬ x.k = 3 := by omega
  have p15 : ¬ x.k = 15 := by omega
  have k3 : (x.k == 3) = false := by simp; omega
  have k15 : (x.k == 15) = false := by simp; omega
  have k4 : 4 ≤ x.k := hk.1
  have k14 : x.k ≤ 14 := hk.2
  have t1 : ((x.n : Int) == 2) = false := by simp; omega
  have t2 : ¬ (x.n : Int) = 2 := by omega
  clear hn0 hk
  rw [hv] at a1 a2 a3
  have v1 : val0.k = 0 := rfl
  have v2 : val0.n = 0 := rfl
  have v3 : val0.s = ⟨#[]⟩ := rfl
  rw [v1] at a1
  rw [v2] at a2
  rw [v3] at a3
  clear v1 v2 v3 hv
  rw [hsf.1] at a4
  rw [hsf.2] at a5
  clear hsf
  clear hB hn
  go_enter Tryz.func85, Tryz.ntmps85
  go_wp2
  go_ret
  exact ⟨rfl, HB.out⟩
set_option maxRecDepth 100000 in
set_option maxHeartbeats 2000000 in
theorem refR_lo (x : X) (w : World) (hk : x.k < 1) (hv : x.v = val0) (hsf : x.s = ⟨#[]⟩ ∧ x.f = ⟨#[]⟩) :
    Calls Tryz.prog 85 #[x.val] w fun e w' => e = .returned (.bool false) ∧ Below w.heap.size w w' := by
  obtain ⟨A, hA, hB, hs, hn⟩ := one_box x w
  obtain ⟨a0, a1, a2, a3, a4, a5, a6⟩ := hn.at0
  have HB : Hid (Below w.heap.size w A) := hB
  have HN : Hid (Node A w.heap.size 0 x) := hn
  have p1 : ¬ x.k = 1 := by omega
  have p2 : ¬ x.k = 2 := by omega
  have k1 : (x.k == 1) = false := by simp; omega
  have k2 : (x.k == 2) = false := by simp; omega
  have p3 : ¬ x.k = 3 := by omega
  have p15 : ¬ x.k = 15 := by omega
  have p16 : ¬ x.k = 16 := by omega
  have p17 : ¬ x.k = 17 := by omega
  have k3 : (x.k == 3) = false := by simp; omega
  have k15 : (x.k == 15) = false := by simp; omega
  have k16 : (x.k == 16) = false := by simp; omega
  have k17 : (x.k == 17) = false := by simp; omega
  have k4 : ¬ 4 ≤ x.k := by omega
  clear hk
  rw [hv] at a1 a2 a3
  have v1 : val0.k = 0 := rfl
  have v2 : val0.n = 0 := rfl
  have v3 : val0.s = ⟨#[]⟩ := rfl
  rw [v1] at a1
  rw [v2] at a2
  rw [v3] at a3
  clear v1 v2 v3 hv
  rw [hsf.1] at a4
  rw [hsf.2] at a5
  clear hsf
  clear hB hn
  go_enter Tryz.func85, Tryz.ntmps85
  go_wp2
  go_ret
  exact ⟨rfl, HB.out⟩
set_option maxRecDepth 100000 in
set_option maxHeartbeats 2000000 in
theorem refR_hi (x : X) (w : World) (hk : 17 < x.k) (hv : x.v = val0) (hsf : x.s = ⟨#[]⟩ ∧ x.f = ⟨#[]⟩) :
    Calls Tryz.prog 85 #[x.val] w fun e w' => e = .returned (.bool false) ∧ Below w.heap.size w w' := by
  obtain ⟨A, hA, hB, hs, hn⟩ := one_box x w
  obtain ⟨a0, a1, a2, a3, a4, a5, a6⟩ := hn.at0
  have HB : Hid (Below w.heap.size w A) := hB
  have HN : Hid (Node A w.heap.size 0 x) := hn
  have p1 : ¬ x.k = 1 := by omega
  have p2 : ¬ x.k = 2 := by omega
  have k1 : (x.k == 1) = false := by simp; omega
  have k2 : (x.k == 2) = false := by simp; omega
  have p3 : ¬ x.k = 3 := by omega
  have p15 : ¬ x.k = 15 := by omega
  have p16 : ¬ x.k = 16 := by omega
  have p17 : ¬ x.k = 17 := by omega
  have k3 : (x.k == 3) = false := by simp; omega
  have k15 : (x.k == 15) = false := by simp; omega
  have k16 : (x.k == 16) = false := by simp; omega
  have k17 : (x.k == 17) = false := by simp; omega
  have k4 : 4 ≤ x.k := by omega
  have k14 : ¬ x.k ≤ 14 := by omega
  clear hk
  rw [hv] at a1 a2 a3
  have v1 : val0.k = 0 := rfl
  have v2 : val0.n = 0 := rfl
  have v3 : val0.s = ⟨#[]⟩ := rfl
  rw [v1] at a1
  rw [v2] at a2
  rw [v3] at a3
  clear v1 v2 v3 hv
  rw [hsf.1] at a4
  rw [hsf.2] at a5
  clear hsf
  clear hB hn
  go_enter Tryz.func85, Tryz.ntmps85
  go_wp2
  go_ret
  exact ⟨rfl, HB.out⟩
end Go.Proofs.YtfnfegcjgnbgbaaGreatDoor
