/-
  typing's two sentinels, and errno.
-/
import Derived.Test.YtahlmlbfgijcpaaDoorTypIs
import Derived.Test.YtahlmlbfgijcpaaDoorHeld
import Derived.Test.YtahlmlbfgijcpaaDoorArgs
import Derived.Below
namespace Go.Proofs.YtahlmlbfgijcpaaDoor
open Go.RowKit

/-- What typing's two variables hold: two sentinels, one here, one there. -/
structure Sens (w : World) (N T : Addr) : Prop where
  vN : w.cell? ⟨1, 0, none⟩ = some (senV N)
  vT : w.cell? ⟨0, 0, none⟩ = some (senV T)
  bN : ∃ c t, w.heap[N.block]? = some (.cells c t (0, 0))
  bT : ∃ c t, w.heap[T.block]? = some (.cells c t (0, 0))
  ne : N ≠ T
theorem Sens.later {w w' : World} {N T : Addr} (h : Sens w N T) (hB : Below w.heap.size w w') : Sens w' N T := by
  refine ⟨cell_later h.vN hB, cell_later h.vT hB, ?_, ?_, h.ne⟩
  · obtain ⟨c, t, e⟩ := h.bN
    exact ⟨c, t, (hB.block _ (Array.getElem?_eq_some_iff.1 e).1).trans e⟩
  · obtain ⟨c, t, e⟩ := h.bT
    exact ⟨c, t, (hB.block _ (Array.getElem?_eq_some_iff.1 e).1).trans e⟩
/-- An error and its number. -/
def ErrIs (N T : Addr) (e : Int) (v : Value) : Prop :=
  (e = 0 ∧ v = .nilIface) ∨ (e = 6 ∧ ∃ y : Why, y.root = N ∧ v = y.val) ∨ (e = 5 ∧ ∃ y : Why, y.root = T ∧ v = y.val)
theorem ErrIs.nil {N T : Addr} {e : Int} {v : Value} (h : ErrIs N T e v) (h0 : e = 0) : v = .nilIface := by
  rcases h with ⟨_, h⟩ | ⟨h, _⟩ | ⟨h, _⟩
  · exact h
  · omega
  · omega
/-- An error that is one has a value of some type. -/
theorem ErrIs.some {N T : Addr} {e : Int} {v : Value} (h : ErrIs N T e v) (h0 : ¬ e = 0) : ∃ t u, v = .iface t u := by
  have key : ∀ y : Why, ∃ t u, y.val = .iface t u := fun y => by cases y <;> exact ⟨_, _, rfl⟩
  rcases h with ⟨h, _⟩ | ⟨_, y, _, rfl⟩ | ⟨_, y, _, rfl⟩
  · exact absurd h h0
  · exact key y
  · exact key y
/-- ... of a part. -/
theorem ErrIs.part {N T : Addr} {e : Int} {v : Value} (h : ErrIs N T e v) (h0 : ¬ e = 0) (i : Int) : ErrIs N T e (.iface 71 (.agg #[.int .i64 i, v])) := by
  rcases h with ⟨h, _⟩ | ⟨h, y, hr, rfl⟩ | ⟨h, y, hr, rfl⟩
  · exact absurd h h0
  · exact .inr (.inl ⟨h, .part i y, hr, rfl⟩)
  · exact .inr (.inr ⟨h, .part i y, hr, rfl⟩)
set_option maxHeartbeats 1000000 in
theorem errno_any (N T : Addr) (e : Int) (v : Value) (w : World) (hS : Sens w N T) (h : ErrIs N T e v) : Calls Tryd.prog 10 #[v] w fun r w' => r = .returned (.int .i64 e) ∧ Below w.heap.size w w' := by
  have HS : Hid (Sens w N T) := hS
  have gN := hS.vN
  have gT := hS.vT
  rcases h with ⟨rfl, rfl⟩ | ⟨rfl, y, hr, rfl⟩ | ⟨rfl, y, hr, rfl⟩
  · clear hS
    go_enter Tryd.func10, Tryd.ntmps10
    go_wp2_with (first | (go_at_call 16; refine (is_nil _ _).mono ?_; rintro e w2 ⟨rfl, rfl⟩))
    go_ret
    exact ⟨rfl, Below.refl _ _⟩
  · obtain ⟨c1, t1, b1⟩ := hS.bN
    have C : Hid (Calls Tryd.prog 16 #[y.val, senV N] w fun e w' => e = .returned (.bool true) ∧ Below w.heap.size w w') := by
      show Calls _ _ _ _ _
      have := is_any y N w (by rw [hr]; exact b1) b1
      simpa [hr] using this
    have HR : Hid (y.root = N) := hr
    clear hr b1 hS
    obtain ⟨v, hv⟩ : ∃ v, v = y.val := ⟨_, rfl⟩
    rw [← hv] at C ⊢
    clear hv
    go_enter Tryd.func10, Tryd.ntmps10
    go_wp2_with (first | (go_at_call 16; refine C.out.mono ?_; rintro e w2 ⟨rfl, hB2⟩))
    go_ret
    exact ⟨rfl, hB2⟩
  · obtain ⟨c1, t1, b1⟩ := hS.bN
    obtain ⟨c2, t2, b2⟩ := hS.bT
    have C : Hid (Calls Tryd.prog 16 #[y.val, senV N] w fun e w' => e = .returned (.bool false) ∧ Below w.heap.size w w') := by
      show Calls _ _ _ _ _
      have := is_any y N w (by rw [hr]; exact b2) b1
      simpa [hr, hS.ne.symm] using this
    have C2 : Hid (∀ d, Below w.heap.size w d → Calls Tryd.prog 16 #[y.val, senV T] d fun e w' => e = .returned (.bool true) ∧ Below d.heap.size d w') := fun d hd => by
      obtain ⟨c2, t2, b2⟩ := (HS.out.later hd).bT
      have := is_any y T d (by rw [hr]; exact b2) b2
      simpa [hr] using this
    clear hr b1 b2 hS
    obtain ⟨v, hv⟩ : ∃ v, v = y.val := ⟨_, rfl⟩
    rw [← hv] at C C2 ⊢
    clear hv
    go_enter Tryd.func10, Tryd.ntmps10
    go_wp2_with (first
      | (go_at_call 16; refine (C2.out _ hB2).mono ?_; rintro e w3 ⟨rfl, hB3⟩)
      | (go_at_call 16; refine C.out.mono ?_; rintro e w2 ⟨rfl, hB2⟩; have gT2 := cell_later gT hB2))
    go_ret
    exact ⟨rfl, hB2.trans (hB3.mono hB2.size)⟩
end Go.Proofs.YtahlmlbfgijcpaaDoor
