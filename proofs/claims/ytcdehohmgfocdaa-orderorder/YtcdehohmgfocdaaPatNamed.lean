/-
  pat.named: a range over the nodes that have a Var.
-/
import Derived.Test.YtcdehohmgfocdaaPatWalk
namespace Go.Proofs.Ytcdehohmgfocdaa
open Go.RowKit Go.Shelf
attribute [local go_sem] Oper.semAt_some

theorem Ag.mono {B B' : Nat} {W A : World} (h : Ag B' W A) (hB : B ≤ B') : Ag B W A := ⟨h.os, h.tape, h.output, h.size, fun k hk => h.low k (by omega), h.cells⟩
theorem keepsFrom_mono {B B' : Nat} {W W' : World} (h : KeepsFrom B W W') (hB : B ≤ B') : KeepsFrom B' W W' := ⟨h.size, fun k o hk => h.same k o (by omega)⟩
theorem KeepsTo.drew (B B' : Nat) (W : World) : KeepsTo B B' W W.drew := fun _ _ _ _ h _ => h
theorem round_in {m : Nat} {P : Program} {l : Nat} {f : FuncId} {tmps : Array Value} {assign body : Code} {w : World} {R : Ending → World → Prop} (l' : Nat)
    (h : RoundIn Fence.wide m P l f tmps assign body w R) : RoundIn (Fence.wide.inRound l') m P l f tmps assign body w R := h
theorem nmd_cases (k : Int) : (nmd k = true ∧ ((k == 1) = true ∨ ((k == 1) = false ∧ (k == 5) = true) ∨ ((k == 1) = false ∧ (k == 5) = false ∧ (k == 6) = true))) ∨ (nmd k = false ∧ (k == 1) = false ∧ (k == 5) = false ∧ (k == 6) = false) := by
  unfold nmd
  cases (k == 1) <;> cases (k == 5) <;> cases (k == 6) <;> simp
/-- What a round of the range is handed. -/
structure NamP where
  b : Nat
  o : Nat
  y : Pt
  pre : List Pt
/-- The nodes with a Var among some. -/
def usesOf (l : List (Nat × Pt)) : List Pt := (l.filter fun v => nmd v.2.k).map (·.2)
theorem usesOf_app (l m : List (Nat × Pt)) : usesOf (l ++ m) = usesOf l ++ usesOf m := by simp [usesOf]
theorem usesOf_yes {d : Nat} {y : Pt} (h : nmd y.k = true) (l : List (Nat × Pt)) : usesOf ((d, y) :: l) = y :: usesOf l := by simp [usesOf, h]
theorem usesOf_no {d : Nat} {y : Pt} (h : nmd y.k = false) (l : List (Nat × Pt)) : usesOf ((d, y) :: l) = usesOf l := by simp [usesOf, h]
theorem usesOf_vis (x : Pt) : usesOf (visP 1 x) = usesP x := uses_visP x 1

/-- How a body that does what it does to a node with a Var may be left. -/
def namedPost (B : Nat) (G : World → Prop) (W : World) : Exit → Act → World → Prop
  | .normal, _, W' => KeepsFrom B W W' ∧ Kp (fun k => k = B + 2 ∨ k = B + 6 ∨ k = B + 7) W W' ∧ G W'
  | _, _, _ => False
/-- What a round is handed. -/
structure NamG (ι : Type) where
  b : Nat
  o : Nat
  v : ι
end Go.Proofs.Ytcdehohmgfocdaa
