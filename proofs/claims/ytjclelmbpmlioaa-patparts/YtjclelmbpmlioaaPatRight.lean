/-
  pat.right at a node: any kind.
-/
import Derived.Test.YtjclelmbpmlioaaPatRightA
import Derived.Test.YtjclelmbpmlioaaPatRightB
import Derived.Test.YtjclelmbpmlioaaPatRightC
namespace Go.Proofs.Ytjclelmbpmlioaa
open Go.RowKit

set_option maxRecDepth 100000 in
set_option maxHeartbeats 2000000 in
theorem rP0_0 (x : Pt) (b o : Nat) (w : World) (hN : NodeP w b o x) (k1 : (x.k == 1) = false) (k6 : (x.k == 6) = false) (k5 : (x.k == 5) = false) (k2 : (x.k == 2) = false) (k3 : (x.k == 3) = false) (k4 : (x.k == 4) = false) : Calls Try.prog 28 #[.pointer (some ⟨b, o, none⟩)] w fun e w' => e = .returned (.bool false) ∧ Below w.heap.size w w' := by
  obtain ⟨A, hA⟩ : ∃ A, w.alloc (.cells #[.pointer (some ⟨b, o, none⟩)] 55) = A := ⟨_, rfl⟩
  have hB : Below w.heap.size w A := by rw [← hA]; exact (Below.refl _ w).alloc (Nat.le_refl _) _
  have hs : A.heap.size = w.heap.size + 1 := by rw [← hA]; simp
  have HN : Hid (NodeP A b o x) := hN.later hB
  have HP : Hid (Boxed A w.heap.size 55 (.pointer (some ⟨b, o, none⟩))) := by show Boxed _ _ _ _; rw [← hA]; exact Boxed.new _ _ _
  have cp := HP.out.cell
  obtain ⟨d0, d1, d2, d3, d4, d5⟩ := HN.out
  have HB : Hid (Below w.heap.size w A) := hB
  clear hB hN 
  go_enter Try.func28, Try.ntmps28
  go_wp2
  go_ret
  exact ⟨rfl, HB.out⟩
theorem rightP_any (x : Pt) (b o : Nat) (w : World) (hN : NodeP w b o x) (hX : IsP w x) : Calls Try.prog 28 #[.pointer (some ⟨b, o, none⟩)] w fun e w' => e = .returned (.bool (rightN x)) ∧ Below w.heap.size w w' := by
  cases k1 : (x.k == 1) with
  | true =>
    have e : x.k = 1 := by simpa using k1
    rw [show rightN x = leafB x by simp [rightN, isRow, e]]
    exact rP1_any x b o w hN k1
  | false =>
    cases k6 : (x.k == 6) with
    | true =>
      have e : x.k = 6 := by simpa using k6
      rw [show rightN x = leafB x by simp [rightN, isRow, e]]
      exact rP6_any x b o w hN k1 k6
    | false =>
      cases k5 : (x.k == 5) with
      | true =>
        have e : x.k = 5 := by simpa using k5
        rw [show rightN x = manyB x by simp [rightN, isRow, e]]
        exact rP5_any x b o w hN k1 k6 k5
      | false =>
        cases k2 : (x.k == 2) with
        | true =>
          have e : x.k = 2 := by simpa using k2
          rw [show rightN x = rowB x by simp [rightN, isRow, e]]
          exact rP2_any x b o w hN hX k1 k6 k5 k2
        | false =>
          cases k3 : (x.k == 3) with
          | true =>
            have e : x.k = 3 := by simpa using k3
            rw [show rightN x = rowB x by simp [rightN, isRow, e]]
            exact rP3_any x b o w hN hX k1 k6 k5 k2 k3
          | false =>
            cases k4 : (x.k == 4) with
            | true =>
              have e : x.k = 4 := by simpa using k4
              rw [show rightN x = rowB x by simp [rightN, isRow, e]]
              exact rP4_any x b o w hN hX k1 k6 k5 k2 k3 k4
            | false =>
              have e : rightN x = false := by
                simp only [beq_eq_false_iff_ne] at k1 k6 k5 k2 k3 k4
                simp [rightN, isRow, k1, k2, k3, k4, k5, k6]
              rw [e]
              exact rP0_0 x b o w hN k1 k6 k5 k2 k3 k4
end Go.Proofs.Ytjclelmbpmlioaa
