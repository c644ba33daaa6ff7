/-
  Texts and lists of texts that came in.
-/
import Derived.Test.YtjnkplmcopihbaaBulk
import Derived.Test.YtjnkplmcopihbaaTxs
namespace Go.Proofs.Ytjnkplmcopihbaa
open Go.RowKit Go.ChangeShapes Go.WideShapes

section
variable {H : Type} {enc : TypeId × Value → H} {w : World} {base : Nat} {spare : Nat → Bool} {held : Bool}
set_option maxRecDepth 100000 in
/-- A text that came in. -/
theorem open_str {v : Value} {d : DataW H} {p : List MemPlace} {r : Reach} {b0 : Nat} (hv : Value.okWide Try.prog w r b0 9 v) (h : DataW.Trod enc Try.prog w base spare held 9 v d p) :
    ∃ s : ByteArray, v = .string s ∧ s.size ≤ maxLen := by
  obtain ⟨s, rfl⟩ := okWide_string Try.underlying9 hv
  obtain ⟨fuel, hf⟩ := h
  obtain ⟨s', e, _, hw⟩ := DataW.trod_string Try.underlying9 hf
  have e' : [Value.string s] = [Value.string s'] := e
  injection e' with e' _
  injection e' with e'
  exact ⟨s, rfl, e' ▸ hw⟩
set_option maxRecDepth 100000 in
/-- Texts that came in. -/
theorem open_strs {a : Option Addr} {len cap : Nat} {d : DataW H} {p : List MemPlace} (h : DataW.Trod enc Try.prog w base spare held 22 (.slice a len cap) d p) :
    ∃ S : Nat → ByteArray, Txs w a len S ∧ len ≤ cap ∧ cap ≤ 9223372036854775807 ∧ (∀ j, j < len → (S j).size ≤ maxLen) ∧ len ≤ Rows.uptoBulk d := by
  obtain ⟨fuel, hf⟩ := h
  rcases Deep.open_slice Try.underlying22 hf with ⟨e4, _⟩ | ⟨a', len', cap', mm, nn, D, Pl, e4, _, hl4, hcm, hmm, hdp, hx⟩
  · have e' : [Value.slice a len cap] = [.slice none 0 0] := e4
    injection e' with e' _
    injection e' with e1 e2 e3
    subst e1 e2 e3
    exact ⟨fun _ => ⟨#[]⟩, fun h => by omega, by omega, by omega, fun j hj => by omega, Nat.zero_le _⟩
  · cases hdp
    have e' : [Value.slice a len cap] = [.slice (some a') len' cap'] := e4
    injection e' with e' _
    injection e' with e1 e2 e3
    subst e1 e2 e3
    have hlm : len ≤ mm := by rw [hmm]; split <;> omega
    have each : ∀ i, i < len → ∃ s : ByteArray, w.cell? (a'.add i) = some (.string s) ∧ s.size ≤ maxLen := by
      intro i hi
      obtain ⟨cs', h1, h2⟩ := hx i (by omega)
      rw [cells_s] at h1
      obtain ⟨_, hlen, hcell⟩ := World.cells?_some h1
      obtain ⟨s, e, _, hw⟩ := DataW.trod_string Try.underlying9 h2
      subst e
      have d0 := hcell 0 (by omega)
      rw [Deep.add_add] at d0
      exact ⟨s, by simpa using d0, hw⟩
    have : Inhabited ByteArray := ⟨⟨#[]⟩⟩
    obtain ⟨S, hS⟩ := Deep.choose_lt each
    refine ⟨S, fun h0 => ?_, hl4, by unfold maxLen at hcm; omega, fun j hj => (hS j hj).2, ?_⟩
    · obtain ⟨b, off, spot⟩ := a'
      have hspot : spot = none := by simpa [Addr.add] using World.cell?_spot (hS 0 h0).1
      subst hspot
      exact ⟨b, off, rfl, fun j hj => by have := (hS j hj).1; rw [add_none] at this; exact this⟩
    · have hone : ∀ x : DataW H, 1 ≤ Rows.uptoBulk x := fun x => by rw [Rows.uptoBulk.eq_def]; split <;> omega
      have hsum : ∀ m, m ≤ sumN (fun i => Rows.uptoBulk (D i)) m := by
        intro m
        induction m with
        | zero => exact Nat.le_refl _
        | succ m ih => have := hone (D m); simp only [sumN]; omega
      have := hsum len
      simp only [Rows.uptoBulk, bulk_range]
      omega
end
end Go.Proofs.Ytjnkplmcopihbaa
