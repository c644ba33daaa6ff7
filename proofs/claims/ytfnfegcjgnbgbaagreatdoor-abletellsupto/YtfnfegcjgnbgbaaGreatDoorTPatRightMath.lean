/-
  When a pattern is right: plain facts, of no function.
-/
import Derived.Test.YtfnfegcjgnbgbaaGreatDoorTPatMath
import Derived.Test.YtfnfegcjgnbgbaaGreatDoorTValOrder
namespace Go.Proofs.YtfnfegcjgnbgbaaGreatDoor
open Go.RowKit

/-- May a PMany have these? -/
def cntB (lo hi : Int) : Bool := decide (1 ≤ lo) && (decide (lo ≤ 1000) && ((hi == 0 || (decide (lo ≤ hi) && decide (hi ≤ 1000))) && !(lo == 1 && hi == 1)))
def emptyB (s : ByteArray) : Bool := s.toList == []
/-- Is one of the parts of the same kind? -/
def ownB (x : Pt) : Bool := !allN (fun i => !((x.c i).k == x.k)) x.n
/-- Is a node right, its parts aside? -/
def leafB (x : Pt) : Bool := nameB x.s && (nameB x.t && (x.lo == 0 && (x.hi == 0 && x.n == 0)))
def manyB (x : Pt) : Bool := nameB x.s && (nameB x.t && (cntB x.lo x.hi && x.n == 0))
def rowB (x : Pt) : Bool := emptyB x.s && (emptyB x.t && (x.lo == 0 && (x.hi == 0 && (decide (2 ≤ x.n) && !ownB x))))
def isRow (k : Int) : Bool := k == 2 || k == 3 || k == 4
def rightN (x : Pt) : Bool := if isRow x.k = true then rowB x else if x.k = 5 then manyB x else if x.k = 1 ∨ x.k = 6 then leafB x else false
/-- Is all of it right? -/
def rightP : Pt → Bool
  | .nil => rightN .nil
  | .mk k s t lo hi a n cap c => rightN (.mk k s t lo hi a n cap c) && allN (fun i => rightP (c i)) n
theorem rightP_eq (x : Pt) : rightP x = (rightN x && allN (fun i => rightP (x.c i)) x.n) := by
  cases x with
  | nil => show rightN .nil = (rightN .nil && true); simp
  | mk => rfl
theorem right_vis : ∀ (x : Pt) (d : Nat), rightP x = true ↔ ∀ v ∈ visP d x, rightN v.2 = true := by
  refine Pt.ind fun x ih d => ?_
  rw [rightP_eq, Bool.and_eq_true, allN_true, visP_eq]
  constructor
  · rintro ⟨h1, h2⟩ v hv
    rcases List.mem_cons.1 hv with rfl | hv
    · exact h1
    · obtain ⟨i, hi, hv⟩ := mem_catN.1 hv
      exact (ih i hi (d + 1)).1 (h2 i hi) v hv
  · intro h
    exact ⟨h (d, x) (by simp), fun i hi => (ih i hi (d + 1)).2 fun v hv => h v (List.mem_cons_of_mem _ (mem_catN.2 ⟨i, hi, hv⟩))⟩
/-- What Check answers. -/
def chkP (x : Pt) : Int := if 64 < x.size ∨ 8 < x.deep then 2 else if rightP x = true then 0 else 1
theorem chkP_zero {x : Pt} : chkP x = 0 ↔ x.size ≤ 64 ∧ x.deep ≤ 8 ∧ rightP x = true := by
  unfold chkP
  by_cases h : 64 < x.size ∨ 8 < x.deep
  · rw [if_pos h]
    constructor
    · intro e; omega
    · rintro ⟨h1, h2, _⟩; omega
  · rw [if_neg h]
    by_cases hr : rightP x = true
    · rw [if_pos hr]
      exact ⟨fun _ => ⟨by omega, by omega, hr⟩, fun _ => rfl⟩
    · rw [if_neg hr]
      exact ⟨fun e => by omega, fun e => absurd e.2.2 hr⟩
/-- A right node that has a Var has no parts. -/
theorem named_leaf {x : Pt} (h : rightN x = true) (hk : nmd x.k = true) : x.n = 0 := by
  unfold rightN at h
  unfold nmd at hk
  simp only [Bool.or_eq_true, beq_iff_eq] at hk
  have hr : ¬ isRow x.k = true := by
    unfold isRow
    simp only [Bool.or_eq_true, beq_iff_eq]
    omega
  rw [if_neg hr] at h
  by_cases h5 : x.k = 5
  · rw [if_pos h5] at h
    unfold manyB at h
    simp at h
    exact h.2.2.2
  · rw [if_neg h5] at h
    by_cases h1 : x.k = 1 ∨ x.k = 6
    · rw [if_pos h1] at h
      unfold leafB at h
      simp at h
      exact h.2.2.2.2
    · rw [if_neg h1] at h; cases h
end Go.Proofs.YtfnfegcjgnbgbaaGreatDoor
