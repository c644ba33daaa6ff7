/-
  Numbers that came in.
-/
import Derived.Test.YtjnkplmcopihbaaArgs
import Derived.Test.YtjnkplmcopihbaaBulk
namespace Go.Proofs.Ytjnkplmcopihbaa
open Go.RowKit Go.ChangeShapes Go.WideShapes

section
variable {H : Type} {enc : TypeId × Value → H} {w : World} {base : Nat} {spare : Nat → Bool} {held : Bool}
set_option maxRecDepth 100000 in
/-- Numbers that came in. -/
theorem open_way {a : Option Addr} {len cap : Nat} {d : DataW H} {p : List MemPlace} (h : DataW.Trod enc Try.prog w base spare held 23 (.slice a len cap) d p) :
    ∃ Z : Nat → Int, Ints .i64 w a len Z ∧ len ≤ cap ∧ cap ≤ 9223372036854775807 := by
  obtain ⟨fuel, hf⟩ := h
  rcases open_ints Try.underlying23 Try.underlying3 (by kernel_rfl) hf with ⟨hcs, _⟩ | ⟨x, l, c, zs, hcs, _, hl, hm, hz, hx, hcell, hwz⟩
  · have e' : [Value.slice a len cap] = [.slice none 0 0] := hcs
    injection e' with e' _
    injection e' with e1 e2 e3
    subst e1 e2 e3
    exact ⟨fun _ => 0, fun h => by omega, by omega, by omega⟩
  · have e' : [Value.slice a len cap] = [.slice (some x) l c] := hcs
    injection e' with e' _
    injection e' with e1 e2 e3
    subst e1 e2 e3
    have hlz : len ≤ zs.length := by rw [hz]; split <;> omega
    refine ⟨fun j => zs.getD j 0, fun h0 => ?_, hl, by unfold maxLen at hm; omega⟩
    obtain ⟨b, off, spot⟩ := x
    have hspot : spot = none := by simpa [Addr.add] using World.cell?_spot (hcell 0 (by omega))
    subst hspot
    refine ⟨b, off, rfl, fun j hj => ⟨?_, ?_⟩⟩
    · rw [← add_none]
      exact hcell j (by omega)
    · have hj' : j < zs.length := by omega
      have := hwz zs[j] (List.getElem_mem hj')
      simpa [List.getD_eq_getElem?_getD, hj'] using this
end
end Go.Proofs.Ytjnkplmcopihbaa
