/-
  haruspexlaw15's awake; rows of patterns.
-/
import Derived.Test.YtcdehohmgfocdaaOrdForm
import Derived.Deep.DeepCutAuto
namespace Go.Proofs.Ytcdehohmgfocdaa
open Go.RowKit

/-- A row of patterns. -/
def Ps (w : World) (a : Option Addr) (n : Nat) (c : Nat → Pt) : Prop := ∀ i, i < n → ∃ b o, a = some ⟨b, o, none⟩ ∧ NodeP w b (o + i * 6) (c i) ∧ IsP w (c i)
theorem Ps.later {w w' : World} {a : Option Addr} {n : Nat} {c : Nat → Pt} (h : Ps w a n c) (hB : Below w.heap.size w w') : Ps w' a n c := fun i hi => by
  obtain ⟨b, o, e, h1, h2⟩ := h i hi
  exact ⟨b, o, e, h1.later hB, h2.later hB⟩
def leafO (k : Int) : Pt := .mk k ⟨#[]⟩ ⟨#[]⟩ 0 0 none 0 0 (fun _ => .nil)
set_option maxRecDepth 100000 in
set_option maxHeartbeats 1000000 in
theorem awake15_any (w : World) : Calls Try.prog 8 #[] w fun e w' => e = .returned (.bool true) ∧ Below w.heap.size w w' := by
  have hc : Calls Try.prog 19 #[.agg #[.int .i64 1, .string ⟨#[]⟩, .string ⟨#[]⟩, .int .i64 0, .int .i64 0, .slice none 0 0], .agg #[.int .i64 2, .string ⟨#[]⟩, .string ⟨#[]⟩, .int .i64 0, .int .i64 0, .slice none 0 0]] w fun e w' => e = .returned (.int .i64 (-1)) ∧ Below w.heap.size w w' := by
    have := formP_any (leafO 1) (leafO 2) w ⟨by omega, by omega, fun i hi => by omega⟩ ⟨by omega, by omega, fun i hi => by omega⟩
    rw [show formP (leafO 1) (leafO 2) = -1 by simp [formP, leafO, alP, orI, cmpI, Pt.k]] at this
    exact this
  go_enter Try.func8, Try.ntmps8
  go_wp2_with (go_at_call 19; refine hc.mono ?_; rintro e w2 ⟨rfl, hB2⟩)
  go_ret
  exact ⟨rfl, hB2⟩
end Go.Proofs.Ytcdehohmgfocdaa
