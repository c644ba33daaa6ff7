/-
  Lists of patterns that came in.
-/
import Derived.Test.YtmbinllefkifiaaPatArgs
import Derived.Test.YtmbinllefkifiaaArgsTexts
namespace Go.Proofs.Ytmbinllefkifiaa
open Go.RowKit Go.ChangeShapes Go.WideShapes

section
variable {H : Type} {enc : TypeId × Value → H} {w : World} {base : Nat} {spare : Nat → Bool} {held : Bool}
/-- Patterns that came in: as the parts of one. -/
abbrev Pt.all (a : Option Addr) (n cap : Nat) (c : Nat → Pt) : Pt := .mk 0 ⟨#[]⟩ ⟨#[]⟩ 0 0 a n cap c
set_option maxRecDepth 100000 in
theorem open_ps {a : Option Addr} {len cap : Nat} {d : DataW H} {p : List MemPlace} (h : DataW.Trod enc Try.prog w base spare held 22 (.slice a len cap) d p) :
    ∃ c : Nat → Pt, IsP w (Pt.all a len cap c) ∧ (Pt.all a len cap c).size ≤ Rows.uptoBulk d + 1 ∧ POk (Pt.all a len cap c) := by
  obtain ⟨fuel, hf⟩ := h
  rcases Deep.open_slice Try.underlying22 hf with ⟨e4, _⟩ | ⟨a', len', cap', mm, nn, D, Pl, e4, _, hl4, hcm, hmm, hdp, hx⟩
  · have e' : [Value.slice a len cap] = [.slice none 0 0] := e4
    injection e' with e' _
    injection e' with e1 e2 e3
    subst e1 e2 e3
    exact ⟨fun _ => .nil, ⟨by omega, by omega, fun i hi => by omega⟩, by simp [Pt.size, sumN], Nat.zero_le _, Nat.zero_le _, fun i hi => by omega⟩
  · cases hdp
    have e' : [Value.slice a len cap] = [.slice (some a') len' cap'] := e4
    injection e' with e' _
    injection e' with e1 e2 e3
    subst e1 e2 e3
    have hlm : len ≤ mm := by rw [hmm]; split <;> omega
    have each : ∀ i, i < len → ∃ q : Pt, w.cell? (a'.add (i * 6)) = some (.int .i64 q.k) ∧ w.cell? (a'.add (i * 6 + 1)) = some (.string q.s) ∧ w.cell? (a'.add (i * 6 + 2)) = some (.string q.t) ∧ w.cell? (a'.add (i * 6 + 3)) = some (.int .i64 q.lo) ∧
        w.cell? (a'.add (i * 6 + 4)) = some (.int .i64 q.hi) ∧ w.cell? (a'.add (i * 6 + 5)) = some (.slice q.a q.n q.cap) ∧ IsP w q ∧ q.size ≤ Rows.uptoBulk (D i) ∧ POk q := by
      intro i hi
      obtain ⟨cs', h1, h2⟩ := hx i (by omega)
      rw [cells_p] at h1
      obtain ⟨_, hlen, hcell⟩ := World.cells?_some h1
      obtain ⟨q, rfl, hq, hqs, hqo⟩ := trod_p _ _ _ _ h2 (Nat.le_refl _)
      have d0 := hcell 0 (by omega)
      have d1 := hcell 1 (by omega)
      have d2 := hcell 2 (by omega)
      have d3 := hcell 3 (by omega)
      have d4 := hcell 4 (by omega)
      have d5 := hcell 5 (by omega)
      rw [Deep.add_add] at d0 d1 d2 d3 d4 d5
      exact ⟨q, by simpa using d0, by simpa using d1, by simpa using d2, by simpa using d3, by simpa using d4, by simpa using d5, hq, hqs, hqo⟩
    have : Inhabited Pt := ⟨.nil⟩
    obtain ⟨q, hq⟩ := Deep.choose_lt each
    refine ⟨q, ⟨hl4, by unfold maxLen at hcm; omega, fun i hi => ?_⟩, ?_, Nat.zero_le _, Nat.zero_le _, fun i hi => (hq i hi).2.2.2.2.2.2.2.2⟩
    · obtain ⟨b, off, spot⟩ := a'
      obtain ⟨d0, d1, d2, d3, d4, d5, hi1, hi2, -⟩ := hq i hi
      have hspot : spot = none := by simpa [Addr.add] using World.cell?_spot (hq 0 (by omega)).1
      subst hspot
      rw [add_none] at d0 d1 d2 d3 d4 d5
      refine ⟨b, off, rfl, ⟨?_, ?_, ?_, ?_, ?_, ?_⟩, hi1⟩
      · exact d0
      · rw [Nat.add_assoc]; exact d1
      · rw [Nat.add_assoc]; exact d2
      · rw [Nat.add_assoc]; exact d3
      · rw [Nat.add_assoc]; exact d4
      · rw [Nat.add_assoc]; exact d5
    · have h1 := sumN_mono (f := fun i => (q i).size) (g := fun i => Rows.uptoBulk (D i)) (n := len) fun i hi => (hq i hi).2.2.2.2.2.2.2.1
      show 1 + sumN (fun i => (q i).size) len ≤ _
      simp only [Rows.uptoBulk, bulk_range]
      omega
end
end Go.Proofs.Ytmbinllefkifiaa
