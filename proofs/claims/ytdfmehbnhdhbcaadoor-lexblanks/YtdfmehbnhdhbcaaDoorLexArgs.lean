/-
  Texts and bytes that came in, by index.
-/
import Derived.Test.YtdfmehbnhdhbcaaDoorArgs
import Derived.Deep.Strs
import Derived.OpenShut
namespace Go.Proofs.YtdfmehbnhdhbcaaDoor
open Go.RowKit Go.ChangeShapes Go.WideShapes

section
variable {H : Type} {enc : TypeId × Value → H} {w : World} {base : Nat} {spare : Nat → Bool} {held : Bool}
theorem one_cell : Tryd.prog.cellsOf 9 = 1 := by kernel_rfl
theorem add_flat (b o j : Nat) : (Addr.mk b o none).add j = ⟨b, o + j, none⟩ := by
  unfold Addr.add
  split
  · simp
  · rfl
set_option maxRecDepth 100000 in
/-- Texts that came in. -/
theorem open_texts {a : Option Addr} {len cap : Nat} {d : DataW H} {p : List MemPlace} (h : DataW.Trod enc Tryd.prog w base spare held 32 (.slice a len cap) d p) :
    ∃ S : Nat → ByteArray, Strs maxLen w a len S ∧ len ≤ cap ∧ cap ≤ 9223372036854775807 := by
  obtain ⟨fuel, hf⟩ := h
  rcases Deep.open_slice Tryd.underlying32 hf with ⟨e4, _⟩ | ⟨a', len', cap', mm, nn, D, Pl, e4, _, hl4, hcm, hmm, hdp, hx⟩
  · have e' : [Value.slice a len cap] = [.slice none 0 0] := e4
    injection e' with e' _
    injection e' with e1 e2 e3
    subst e1 e2 e3
    exact ⟨fun _ => ⟨#[]⟩, fun h => by omega, by omega, by omega⟩
  · have e' : [Value.slice a len cap] = [.slice (some a') len' cap'] := e4
    injection e' with e' _
    injection e' with e1 e2 e3
    subst e1 e2 e3
    have hlm : len ≤ mm := by rw [hmm]; split <;> omega
    have each : ∀ i, i < len → ∃ s : ByteArray, w.cell? (a'.add i) = some (.string s) ∧ s.size ≤ maxLen := by
      intro i hi
      obtain ⟨cs', h1, h2⟩ := hx i (by omega)
      rw [one_cell] at h1
      obtain ⟨_, hlen, hcell⟩ := World.cells?_some h1
      obtain ⟨s, e, _, hw⟩ := DataW.trod_string Tryd.underlying9 h2
      subst e
      have d0 := hcell 0 (by omega)
      rw [Deep.add_add] at d0
      exact ⟨s, by simpa using d0, hw⟩
    have : Inhabited ByteArray := ⟨⟨#[]⟩⟩
    obtain ⟨S, hS⟩ := Deep.choose_lt each
    refine ⟨S, fun h0 => ?_, hl4, by unfold maxLen at hcm; omega⟩
    obtain ⟨b, off, spot⟩ := a'
    have hspot : spot = none := by simpa [Addr.add] using World.cell?_spot (hS 0 h0).1
    subst hspot
    exact ⟨b, off, rfl, fun j hj => by have := hS j hj; rw [add_flat] at this; exact this⟩
set_option maxRecDepth 100000 in
/-- Bytes that came in. -/
theorem open_u8s {a : Option Addr} {len cap : Nat} {d : DataW H} {p : List MemPlace} (h : DataW.Trod enc Tryd.prog w base spare held 33 (.slice a len cap) d p) :
    ∃ Z : Nat → Int, Ints .u8 w a len Z ∧ len ≤ cap ∧ cap ≤ 9223372036854775807 := by
  obtain ⟨fuel, hf⟩ := h
  rcases open_ints Tryd.underlying33 Tryd.underlying5 (by kernel_rfl) hf with ⟨hcs, _⟩ | ⟨x, l, c, zs, hcs, _, hl, hm, hz, hx, hcell, hwz⟩
  · have e' : [Value.slice a len cap] = [.slice none 0 0] := hcs
    injection e' with e' _
    injection e' with e1 e2 e3
    subst e1 e2 e3
    exact ⟨fun _ => 0, fun h => by omega, by omega, by omega⟩
  · have e' : [Value.slice a len cap] = [.slice (some x) l c] := hcs
    injection e' with e' _
    injection e' with e1 e2 e3
    subst e1 e2 e3
    have hlz : len ≤ zs.length := by rw [hz]; split <;> omega
    refine ⟨fun j => zs.getD j 0, fun h0 => ?_, hl, by unfold maxLen at hm; omega⟩
    obtain ⟨b, off, spot⟩ := x
    have hspot : spot = none := by simpa [Addr.add] using World.cell?_spot (hcell 0 (by omega))
    subst hspot
    refine ⟨b, off, rfl, fun j hj => ⟨?_, ?_⟩⟩
    · rw [← add_flat]
      exact hcell j (by omega)
    · have hj' : j < zs.length := by omega
      have := hwz zs[j] (List.getElem_mem hj')
      simpa [List.getD_eq_getElem?_getD, hj'] using this
end
end Go.Proofs.YtdfmehbnhdhbcaaDoor
