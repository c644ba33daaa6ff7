/-
  expr.Same.
-/
import Derived.Test.YtmbinllefkifiaaExprOrd
namespace Go.Proofs.Ytmbinllefkifiaa
open Go.RowKit

/-- Two conditions in boxes of their own. -/
theorem two_boxes (x y : X) (w : World) : ∃ A, (w.alloc (.cells x.cells 40)).alloc (.cells y.cells 40) = A ∧ Below w.heap.size w A ∧ A.heap.size = w.heap.size + 2 ∧ Node A w.heap.size 0 x ∧ Node A (w.heap.size + 1) 0 y := by
  refine ⟨_, rfl, ((Below.refl _ w).alloc (Nat.le_refl _) _).alloc (by simp) _, by simp, (node_new w _ x).later ((Below.refl _ _).alloc (Nat.le_refl _) _), ?_⟩
  have := node_new (w.alloc (.cells x.cells 40)) 40 y
  rwa [World.size_alloc] at this
set_option maxRecDepth 100000 in
set_option maxHeartbeats 2000000 in
theorem sameX_any (x y : X) (w : World) (hX : IsX w x) (hY : IsX w y) : Calls Try.prog 45 #[x.val, y.val] w fun e w' => e = .returned (.bool (ordX x y == 0)) ∧ Below w.heap.size w w' := by
  obtain ⟨A, hA, hB, hs, hn, hm⟩ := two_boxes x y w
  obtain ⟨a0, a1, a2, a3, a4, a5, a6⟩ := hn.at0
  obtain ⟨b0, b1, b2, b3, b4, b5, b6⟩ := hm.at0
  have hc := orderX_any x y A (hX.later hB) (hY.later hB)
  have HB : Hid (Below w.heap.size w A) := hB
  clear hB hn hm hX hY
  go_enter Try.func45, Try.ntmps45
  go_wp2_with (go_at_call 44; refine hc.mono ?_; rintro e w2 ⟨rfl, hB2⟩)
  go_ret
  exact ⟨rfl, HB.out.trans (hB2.mono (by omega))⟩
theorem ordX_one : ∀ x y : X, ordX x y = -1 ∨ ordX x y = 0 ∨ ordX x y = 1 := by
  have o : ∀ {a b : Int}, (a = -1 ∨ a = 0 ∨ a = 1) → (b = -1 ∨ b = 0 ∨ b = 1) → (orI a b = -1 ∨ orI a b = 0 ∨ orI a b = 1) := by
    intro a b ha hb
    unfold orI
    split
    · exact hb
    · exact ha
  have ci : ∀ a b : Int, cmpI a b = -1 ∨ cmpI a b = 0 ∨ cmpI a b = 1 := fun a b => by rcases cmpI_cases a b with h | h | h <;> simp [h.1]
  have cs : ∀ a b : ByteArray, cmpS a b = -1 ∨ cmpS a b = 0 ∨ cmpS a b = 1 := fun a b => by rcases cmpS_cases a b with h | h | h <;> simp [h.1]
  have l : ∀ (f : Nat → Int) (n : Nat), (∀ i, i < n → f i = -1 ∨ f i = 0 ∨ f i = 1) → (lexN f n = -1 ∨ lexN f n = 0 ∨ lexN f n = 1) := by
    intro f n
    induction n with
    | zero => intro _; exact .inr (.inl rfl)
    | succ n ih => intro h; exact o (ih fun i hi => h i (by omega)) (h n (by omega))
  refine X.ind fun x ih y => ?_
  rw [ordX_eq, ordV_eq]
  exact o (ci _ _) (o (o (ci _ _) (o (ci _ _) (cs _ _))) (o (cs _ _) (o (cs _ _) (o (ci _ _) (l _ _ fun i hi => ih i hi _)))))
end Go.Proofs.Ytmbinllefkifiaa
