/-
  Short names for what the scripts say over and over; of no function.
-/
import Derived.Below
namespace Go.Proofs.YtfnfegcjgnbgbaaGreatDoor

theorem s_put {α : Type} (l : List α) (i : Nat) (a : α) : l.toArray.setIfInBounds i a = (l.set i a).toArray := List.setIfInBounds_toArray ..
theorem s_0 {α : Type} (x y : α) (l : List α) : (x :: l).set 0 y = y :: l := List.set_cons_zero
theorem s_1 {α : Type} (x y : α) (l : List α) (n : Nat) : (x :: l).set (n + 1) y = x :: l.set n y := List.set_cons_succ
end Go.Proofs.YtfnfegcjgnbgbaaGreatDoor
