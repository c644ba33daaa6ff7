/-
  The document's Same of patterns.
  The document's own Row and agree.
-/
import Derived.Test.YtfnfegcjgnbgbaaGreatDoorTPatMath
import Derived.Test.YtfnfegcjgnbgbaaGreatDoorTTrees
import Derived.Test.YtfnfegcjgnbgbaaGreatDoorTPatCheck
import Derived.Deep.RegionWith
namespace Go.Proofs.YtfnfegcjgnbgbaaGreatDoor
open Go.RowKit

theorem ne_yes {a b : Int} (h : a = b) : (a != b) = false := by simp [h]
theorem ne_no {a b : Int} (h : ¬ a = b) : (a != b) = true := by simp [h]
end Go.Proofs.YtfnfegcjgnbgbaaGreatDoor
namespace Go.Proofs.YtfnfegcjgnbgbaaGreatDoor
open Go.RowKit

set_option maxRecDepth 100000 in
set_option maxHeartbeats 2000000 in
theorem refRow_any (x : Pt) (w : World) : Calls Tryz.prog 97 #[x.val] w fun e w' => e = .returned (.bool (isRow x.k)) ∧ Below w.heap.size w w' := by
  obtain ⟨A, hA, hB, hs, hn⟩ := boxP_one x w
  obtain ⟨a0, a1, a2, a3, a4, a5⟩ := hn.at0
  have HB : Hid (Below w.heap.size w A) := hB
  have hr : isRow x.k = (x.k == 2 || x.k == 3 || x.k == 4) := rfl
  rw [hr]
  clear hB hn hr
  cases h2 : x.k == 2
  · cases h3 : x.k == 3
    · cases h4 : x.k == 4
      all_goals (go_enter Tryz.func97, Tryz.ntmps97)
      all_goals go_wp2
      all_goals go_ret
      all_goals exact ⟨rfl, HB.out⟩
    · go_enter Tryz.func97, Tryz.ntmps97
      go_wp2
      go_ret
      exact ⟨rfl, HB.out⟩
  · go_enter Tryz.func97, Tryz.ntmps97
    go_wp2
    go_ret
    exact ⟨rfl, HB.out⟩
end Go.Proofs.YtfnfegcjgnbgbaaGreatDoor
