/-
  One name for another, and back: plain facts, of no function.
-/
import Derived.Test.YtbmbdiimbhfeaaaExprRename
namespace Go.Proofs.Ytbmbdiimbhfeaaa
open Go.RowKit

theorem box_one (x : X) (w : World) : ∃ A, w.alloc (.cells x.cells 26) = A ∧ Below w.heap.size w A ∧ A.heap.size = w.heap.size + 1 ∧ Node A w.heap.size 0 x :=
  ⟨_, rfl, (Below.refl _ w).alloc (Nat.le_refl _) _, by simp, node_new w _ x⟩
theorem nameX_one (v w s : ByteArray) : nameX (fun _ => v) (fun _ => w) 1 s = if v = s then w else s := by
  unfold nameX
  simp only [fstS]
  by_cases h : v = s
  · simp [h]
  · simp [h]
theorem ordX_zsymm {x y : X} (h : ordX x y = 0) : ordX y x = 0 := by rw [ordX_turn, h]; rfl
theorem ordX_ztrans {x y z : X} (h : ordX x y = 0) (g : ordX y z = 0) : ordX x z = 0 := (ordX_comp x y z).1 h g
section
variable {x y z : X} {v w : ByteArray} (hy : ordX y (renX (nameX (fun _ => v) (fun _ => w) 1) x) = 0) (hw : ¬ hasVar w x)
include hy hw
theorem ren_back (hz : ordX z (renX (nameX (fun _ => w) (fun _ => v) 1) y) = 0) : ordX x z = 0 := by
  have h1 := renX_back (nameX (fun _ => v) (fun _ => w) 1) (nameX (fun _ => w) (fun _ => v) 1) x fun s hs => by
    rw [nameX_one, nameX_one]
    by_cases e : v = s
    · rw [if_pos e, if_pos rfl]; exact e
    · rw [if_neg e, if_neg (show ¬ w = s from fun q => hw (q ▸ hs))]
  exact ordX_ztrans h1 (ordX_zsymm (ordX_ztrans hz (renX_same _ _ _ hy)))
theorem ren_has : hasVar w y ↔ hasVar v x := by
  have h1 : hasVar w y ↔ hasVar w (renX (nameX (fun _ => v) (fun _ => w) 1) x) := ⟨hasVar_same w _ _ hy, hasVar_same w _ _ (ordX_zsymm hy)⟩
  rw [h1, hasVar_ren]
  constructor
  · rintro ⟨s, hs, e⟩
    rw [nameX_one] at e
    by_cases q : v = s
    · rw [q]; exact hs
    · rw [if_neg q] at e; exact absurd (e ▸ hs) hw
  · intro h
    exact ⟨v, h, by rw [nameX_one, if_pos rfl]⟩
theorem ren_len : (varsX y).length = (varsX x).length := by
  refine sorted_map_length (nameX (fun _ => v) (fun _ => w) 1) (varsX x) (varsX y) (sorted_vars x) (sorted_vars y) (fun s hs t ht e => ?_) fun t => ?_
  · rw [mem_vars] at hs ht
    rw [nameX_one, nameX_one] at e
    by_cases q1 : v = s
    · by_cases q2 : v = t
      · rw [← q1, ← q2]
      · rw [if_pos q1, if_neg q2] at e; exact absurd (e ▸ ht) hw
    · by_cases q2 : v = t
      · rw [if_neg q1, if_pos q2] at e; exact absurd (e ▸ hs) hw
      · rwa [if_neg q1, if_neg q2] at e
  · rw [mem_vars]
    have h1 : hasVar t y ↔ hasVar t (renX (nameX (fun _ => v) (fun _ => w) 1) x) := ⟨hasVar_same t _ _ hy, hasVar_same t _ _ (ordX_zsymm hy)⟩
    rw [h1, hasVar_ren]
    constructor
    · rintro ⟨s, hs, e⟩
      exact ⟨s, (mem_vars _ _).2 hs, e⟩
    · rintro ⟨s, hs, e⟩
      exact ⟨s, (mem_vars _ _).1 hs, e⟩
omit hw in
theorem ren_size : y.size = x.size := (size_same _ _ hy).trans (size_ren _ x)
end
theorem bytes_eq {a b : ByteArray} (h : a.toList = b.toList) : a = b := by
  rw [ByteArray.toList_eq, ByteArray.toList_eq] at h
  exact ByteArray.ext (Array.ext' h)
/-- Is a name among the first? -/
def hasB (S : Nat → ByteArray) (v : ByteArray) : Nat → Bool
  | 0 => false
  | n + 1 => hasB S v n || (S n).toList == v.toList
theorem hasB_true {S : Nat → ByteArray} {v : ByteArray} : ∀ {n : Nat}, hasB S v n = true ↔ v ∈ lstS S n
  | 0 => by simp [hasB, lstS]
  | n + 1 => by
    rw [hasB, Bool.or_eq_true, hasB_true, lstS, List.mem_append, List.mem_singleton]
    refine or_congr Iff.rfl ?_
    rw [beq_iff_eq]
    constructor
    · intro h
      exact (bytes_eq h).symm
    · rintro rfl; rfl
theorem hasB_eq {x y : X} {v w : ByteArray} (h : hasVar w y ↔ hasVar v x) : hasB (atS (varsX y)) w (varsX y).length = hasB (atS (varsX x)) v (varsX x).length := by
  rw [Bool.eq_iff_iff, hasB_true, hasB_true, lstS_all, lstS_all, mem_vars, mem_vars]
  exact h
theorem xOk_ren {g : ByteArray → ByteArray} (hg : ∀ s, s.size ≤ maxLen → (g s).size ≤ maxLen) : ∀ x : X, XOk x → XOk (renX g x) := by
  refine X.ind fun x ih hx => ?_
  obtain ⟨a1, a2, a3, a4, a5, a6⟩ := renX_parts g x
  rw [xOk_eq] at hx
  rw [xOk_eq, a3, a4, a5]
  refine ⟨?_, hx.2.1, fun i hi => ?_⟩
  · split
    · exact hg _ hx.1
    · exact hx.1
  · rw [a6]; exact ih i hi (hx.2.2 i hi)
theorem xOk_one {x y : X} {v u : ByteArray} (hy : ordX y (renX (nameX (fun _ => v) (fun _ => u) 1) x) = 0) (zu : u.size ≤ maxLen) (hok : XOk x) : XOk y :=
  xOk_same _ _ hy (xOk_ren (fun s hs => by rw [nameX_one]; split <;> assumption) x hok)
/-- expr.Rename of one name. -/
theorem rename_one (x : X) (v u : ByteArray) (d : World) (hX : IsX d x) (hok : XOk x) (hsm : x.size ≤ 1048576) (zv : v.size ≤ maxLen) :
    Calls Try.prog 22 #[x.val, .slice (some ⟨d.heap.size, 0, none⟩) 1 1, .slice (some ⟨d.heap.size + 1, 0, none⟩) 1 1] ((d.alloc (.cells #[.string v] 9)).alloc (.cells #[.string u] 9)) fun e w' =>
      ∃ y : X, e = .returned y.val ∧ Hid (ordX y (renX (nameX (fun _ => v) (fun _ => u) 1) x) = 0) ∧ Hid (XA w' y) ∧ Below d.heap.size d w' := by
  have hB : Below d.heap.size d ((d.alloc (.cells #[.string v] 9)).alloc (.cells #[.string u] 9)) := ((Below.refl _ _).alloc (Nat.le_refl _) _).alloc (by simp) _
  have h1 : Txs ((d.alloc (.cells #[.string v] 9)).alloc (.cells #[.string u] 9)) (some ⟨d.heap.size, 0, none⟩) 1 (fun _ => v) := fun _ => ⟨_, _, rfl, fun j hj => by
    obtain rfl : j = 0 := by omega
    exact ((Boxed.new d 9 (.string v)).alloc _).cell⟩
  have h2 : Txs ((d.alloc (.cells #[.string v] 9)).alloc (.cells #[.string u] 9)) (some ⟨d.heap.size + 1, 0, none⟩) 1 (fun _ => u) := fun _ => ⟨_, _, rfl, fun j hj => by
    obtain rfl : j = 0 := by omega
    have := (Boxed.new (d.alloc (.cells #[.string v] 9)) 9 (.string u)).cell
    rw [World.size_alloc] at this
    exact this⟩
  refine (rename_any x _ _ 1 1 1 1 _ _ _ (hX.later hB) hsm hok h1 h2 (by omega) (by omega) (by omega) (by omega) (fun _ _ => zv)).mono ?_
  rintro e w' ⟨y, rfl, q1, q2, q3⟩
  exact ⟨y, rfl, q2, q1, hB.trans (q3.mono hB.size)⟩
/-- A condition in a box of its own, behind the world in which it lies. -/
theorem boxed_x (y : X) (d : World) (hy : IsX d y) : ∃ D p, d.alloc (.cells y.cells 26) = D ∧ p = d.heap.size ∧ Below d.heap.size d D ∧ Node D p 0 y ∧ IsX D y :=
  ⟨_, _, rfl, rfl, (Below.refl _ _).alloc (Nat.le_refl _) _, node_new d _ y, hy.later ((Below.refl _ _).alloc (Nat.le_refl _) _)⟩
end Go.Proofs.Ytbmbdiimbhfeaaa
