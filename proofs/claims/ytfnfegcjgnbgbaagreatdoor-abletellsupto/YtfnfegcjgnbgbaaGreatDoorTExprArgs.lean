/-
  Conditions that came in.
  Texts, lists of texts and lists of conditions that came in.
-/
import Derived.Test.YtfnfegcjgnbgbaaGreatDoorTExprMath
import Derived.Test.YtfnfegcjgnbgbaaGreatDoorTAbSaysWalk
import Derived.Test.YtfnfegcjgnbgbaaGreatDoorTValOrder
import Derived.Test.YtfnfegcjgnbgbaaGreatDoorTTrees
import Derived.Test.YtfnfegcjgnbgbaaGreatDoorTAbNote
import Derived.Deep.Strs
namespace Go.Proofs.YtfnfegcjgnbgbaaGreatDoor
open Go.RowKit Go.ChangeShapes Go.WideShapes

section
variable {H : Type} {enc : TypeId × Value → H} {w : World} {base : Nat} {spare : Nat → Bool} {held : Bool}
theorem expr_under : ∃ f0 f1 f2 f3 f4 : Field, Tryz.prog.underlying 51 = some (.struct #[f0, f1, f2, f3, f4]) ∧ f0.offset = 0 ∧ f1.offset = 1 ∧ f2.offset = 4 ∧ f3.offset = 5 ∧ f4.offset = 6 ∧ f0.type = 3 ∧ f1.type = 49 ∧ f2.type = 9 ∧ f3.type = 9 ∧ f4.type = 25 := ⟨_, _, _, _, _, Tryz.underlying51, rfl, rfl, rfl, rfl, rfl, rfl, rfl, rfl, rfl, rfl⟩
theorem cells_x : Tryz.prog.cellsOf 51 = 7 := by kernel_rfl
theorem cells_xl : Tryz.prog.cellsOf 25 = 1 := by kernel_rfl
set_option maxRecDepth 100000 in
/-- A condition's cells, read: as a tree, of no more nodes than the reading's bulk. -/
theorem trod_x : ∀ (m fuel : Nat) (cs : List Value) (x : DataW H × List MemPlace), DataW.trod enc Tryz.prog w base spare held fuel 51 cs = some x → Rows.uptoBulk x.1 ≤ m →
    ∃ q : X, cs = [.int .i64 q.k, .int .i64 q.v.k, .int .i64 q.v.n, .string q.v.s, .string q.s, .string q.f, .slice q.a q.n q.cap] ∧ IsX w q ∧ q.size ≤ Rows.uptoBulk x.1 ∧ XOk q := by
  intro m
  induction m with
  | zero =>
    intro fuel cs x h hm
    obtain ⟨f0, f1, f2, f3, f4, hu, -⟩ := expr_under
    obtain ⟨xs, n, rfl, rfl, -⟩ := DataW.trod_struct hu h
    simp [Rows.uptoBulk] at hm
  | succ m ih =>
    intro fuel cs x h hm
    obtain ⟨f0, f1, f2, f3, f4, hu, o0, o1, o2, o3, o4, t0, t1, t2, t3, t4⟩ := expr_under
    obtain ⟨xs, n, rfl, rfl, hl, hlen, hf⟩ := DataW.trod_struct hu h
    rw [cells_x] at hl
    match xs, hlen, cs, hl with
    | [y0, y1, y2, y3, y4], _, [c0, c1, c2, c3, c4, c5, c6], _ =>
      have hb : Rows.uptoBulk y4.1 + 1 ≤ Rows.uptoBulk (DataW.agg (H := H) ([y0, y1, y2, y3, y4].map (·.1))) := by
        simp only [List.map_cons, List.map_nil, Rows.uptoBulk, Rows.uptoBulkAll]
        omega
      dsimp only at hm ⊢
      clear h
      generalize Rows.uptoBulk (DataW.agg (H := H) ([y0, y1, y2, y3, y4].map (·.1))) = M at hb hm ⊢
      have g0 := hf 0 f0 rfl
      have g1 := hf 1 f1 rfl
      have g2 := hf 2 f2 rfl
      have g3 := hf 3 f3 rfl
      have g4 := hf 4 f4 rfl
      rw [o0, t0, cells_i] at g0
      rw [o1, t1, cells_v] at g1
      rw [o2, t2, cells_s] at g2
      rw [o3, t3, cells_s] at g3
      rw [o4, t4, cells_xl] at g4
      simp at g0 g1 g2 g3 g4
      obtain ⟨k, e0, rfl, w0⟩ := DataW.trod_int Tryz.underlying3 g0
      obtain ⟨v, e1⟩ := trod_val g1
      obtain ⟨s, e2, rfl, w2⟩ := DataW.trod_string Tryz.underlying9 g2
      obtain ⟨f, e3, rfl, w3⟩ := DataW.trod_string Tryz.underlying9 g3
      simp at e0 e1 e2 e3
      obtain ⟨e1, e1', e1''⟩ := e1
      subst e0 e1 e1' e1'' e2 e3
      rcases Deep.open_slice Tryz.underlying25 g4 with ⟨e4, _⟩ | ⟨a, len, cap, mm, nn, D, Pl, e4, _, hl4, hcm, hmm, rfl, hx⟩
      · simp at e4
        subst e4
        exact ⟨.mk k v s f none 0 0 (fun _ => .nil), rfl, ⟨by omega, by omega, fun i hi => by omega⟩, by simp only [X.size, sumN]; omega, w2, w3, fun i hi => by omega⟩
      · simp at e4
        subst e4
        have hlm : len ≤ mm := by rw [hmm]; split <;> omega
        have hB : sumN (fun i => Rows.uptoBulk (D i)) len + 1 ≤ Rows.uptoBulk (DataW.slice (H := H) ((List.range len).map D) ((List.range (mm - len)).map fun j => D (len + j))) := by
          simp only [Rows.uptoBulk, bulk_range]
          omega
        simp only at hb
        have each : ∀ i, i < len → ∃ q : X, w.cell? (a.add (i * 7)) = some (.int .i64 q.k) ∧ w.cell? (a.add (i * 7 + 1)) = some (.int .i64 q.v.k) ∧ w.cell? (a.add (i * 7 + 2)) = some (.int .i64 q.v.n) ∧ w.cell? (a.add (i * 7 + 3)) = some (.string q.v.s) ∧
            w.cell? (a.add (i * 7 + 4)) = some (.string q.s) ∧ w.cell? (a.add (i * 7 + 5)) = some (.string q.f) ∧ w.cell? (a.add (i * 7 + 6)) = some (.slice q.a q.n q.cap) ∧ IsX w q ∧ q.size ≤ Rows.uptoBulk (D i) ∧ XOk q := by
          intro i hi
          obtain ⟨cs', h1, h2⟩ := hx i (by omega)
          rw [cells_x] at h1
          obtain ⟨_, hlen, hcell⟩ := World.cells?_some h1
          have hle := sumN_le (f := fun i => Rows.uptoBulk (D i)) hi
          obtain ⟨q, rfl, hq, hqs, hqo⟩ := ih _ _ _ h2 (by simp only; omega)
          have d0 := hcell 0 (by omega)
          have d1 := hcell 1 (by omega)
          have d2 := hcell 2 (by omega)
          have d3 := hcell 3 (by omega)
          have d4 := hcell 4 (by omega)
          have d5 := hcell 5 (by omega)
          have d6 := hcell 6 (by omega)
          rw [Deep.add_add] at d0 d1 d2 d3 d4 d5 d6
          exact ⟨q, by simpa using d0, by simpa using d1, by simpa using d2, by simpa using d3, by simpa using d4, by simpa using d5, by simpa using d6, hq, hqs, hqo⟩
        have : Inhabited X := ⟨.nil⟩
        obtain ⟨q, hq⟩ := Deep.choose_lt each
        refine ⟨.mk k v s f (some a) len cap q, rfl, ⟨hl4, by unfold maxLen at hcm; omega, fun i hi => ?_⟩, ?_, w2, w3, fun i hi => (hq i hi).2.2.2.2.2.2.2.2.2⟩
        · obtain ⟨b, off, spot⟩ := a
          obtain ⟨d0, d1, d2, d3, d4, d5, d6, hi1, hi2, -⟩ := hq i hi
          have hspot : spot = none := by simpa [Addr.add] using World.cell?_spot (hq 0 (by omega)).1
          subst hspot
          rw [add_none] at d0 d1 d2 d3 d4 d5 d6
          refine ⟨b, off, rfl, ⟨?_, ?_, ?_, ?_, ?_, ?_, ?_⟩, hi1⟩
          · exact d0
          · rw [Nat.add_assoc]; exact d1
          · rw [Nat.add_assoc]; exact d2
          · rw [Nat.add_assoc]; exact d3
          · rw [Nat.add_assoc]; exact d4
          · rw [Nat.add_assoc]; exact d5
          · rw [Nat.add_assoc]; exact d6
        · have h1 := sumN_mono (f := fun i => (q i).size) (g := fun i => Rows.uptoBulk (D i)) (n := len) fun i hi => (hq i hi).2.2.2.2.2.2.2.2.1
          show 1 + sumN (fun i => (q i).size) len ≤ _
          omega
end
end Go.Proofs.YtfnfegcjgnbgbaaGreatDoor
namespace Go.Proofs.YtfnfegcjgnbgbaaGreatDoor
open Go.RowKit Go.ChangeShapes Go.WideShapes

section
variable {H : Type} {enc : TypeId × Value → H} {w : World} {base : Nat} {spare : Nat → Bool} {held : Bool}
/-- Conditions that came in: as the parts of one. -/
abbrev X.all (a : Option Addr) (n cap : Nat) (c : Nat → X) : X := .mk 0 val0 ⟨#[]⟩ ⟨#[]⟩ a n cap c
set_option maxRecDepth 100000 in
theorem open_xs {a : Option Addr} {len cap : Nat} {d : DataW H} {p : List MemPlace} (h : DataW.Trod enc Tryz.prog w base spare held 25 (.slice a len cap) d p) :
    ∃ c : Nat → X, IsX w (X.all a len cap c) ∧ (X.all a len cap c).size ≤ Rows.uptoBulk d + 1 ∧ XOk (X.all a len cap c) := by
  obtain ⟨fuel, hf⟩ := h
  rcases Deep.open_slice Tryz.underlying25 hf with ⟨e4, _⟩ | ⟨a', len', cap', mm, nn, D, Pl, e4, _, hl4, hcm, hmm, hdp, hx⟩
  · have e' : [Value.slice a len cap] = [.slice none 0 0] := e4
    injection e' with e' _
    injection e' with e1 e2 e3
    subst e1 e2 e3
    exact ⟨fun _ => .nil, ⟨by omega, by omega, fun i hi => by omega⟩, by simp [X.size, sumN], Nat.zero_le _, Nat.zero_le _, fun i hi => by omega⟩
  · cases hdp
    have e' : [Value.slice a len cap] = [.slice (some a') len' cap'] := e4
    injection e' with e' _
    injection e' with e1 e2 e3
    subst e1 e2 e3
    have hlm : len ≤ mm := by rw [hmm]; split <;> omega
    have each : ∀ i, i < len → ∃ q : X, w.cell? (a'.add (i * 7)) = some (.int .i64 q.k) ∧ w.cell? (a'.add (i * 7 + 1)) = some (.int .i64 q.v.k) ∧ w.cell? (a'.add (i * 7 + 2)) = some (.int .i64 q.v.n) ∧ w.cell? (a'.add (i * 7 + 3)) = some (.string q.v.s) ∧
        w.cell? (a'.add (i * 7 + 4)) = some (.string q.s) ∧ w.cell? (a'.add (i * 7 + 5)) = some (.string q.f) ∧ w.cell? (a'.add (i * 7 + 6)) = some (.slice q.a q.n q.cap) ∧ IsX w q ∧ q.size ≤ Rows.uptoBulk (D i) ∧ XOk q := by
      intro i hi
      obtain ⟨cs', h1, h2⟩ := hx i (by omega)
      rw [cells_x] at h1
      obtain ⟨_, hlen, hcell⟩ := World.cells?_some h1
      obtain ⟨q, rfl, hq, hqs, hqo⟩ := trod_x _ _ _ _ h2 (Nat.le_refl _)
      have d0 := hcell 0 (by omega)
      have d1 := hcell 1 (by omega)
      have d2 := hcell 2 (by omega)
      have d3 := hcell 3 (by omega)
      have d4 := hcell 4 (by omega)
      have d5 := hcell 5 (by omega)
      have d6 := hcell 6 (by omega)
      rw [Deep.add_add] at d0 d1 d2 d3 d4 d5 d6
      exact ⟨q, by simpa using d0, by simpa using d1, by simpa using d2, by simpa using d3, by simpa using d4, by simpa using d5, by simpa using d6, hq, hqs, hqo⟩
    have : Inhabited X := ⟨.nil⟩
    obtain ⟨q, hq⟩ := Deep.choose_lt each
    refine ⟨q, ⟨hl4, by unfold maxLen at hcm; omega, fun i hi => ?_⟩, ?_, Nat.zero_le _, Nat.zero_le _, fun i hi => (hq i hi).2.2.2.2.2.2.2.2.2⟩
    · obtain ⟨b, off, spot⟩ := a'
      obtain ⟨d0, d1, d2, d3, d4, d5, d6, hi1, hi2, -⟩ := hq i hi
      have hspot : spot = none := by simpa [Addr.add] using World.cell?_spot (hq 0 (by omega)).1
      subst hspot
      rw [add_none] at d0 d1 d2 d3 d4 d5 d6
      refine ⟨b, off, rfl, ⟨?_, ?_, ?_, ?_, ?_, ?_, ?_⟩, hi1⟩
      · exact d0
      · rw [Nat.add_assoc]; exact d1
      · rw [Nat.add_assoc]; exact d2
      · rw [Nat.add_assoc]; exact d3
      · rw [Nat.add_assoc]; exact d4
      · rw [Nat.add_assoc]; exact d5
      · rw [Nat.add_assoc]; exact d6
    · have h1 := sumN_mono (f := fun i => (q i).size) (g := fun i => Rows.uptoBulk (D i)) (n := len) fun i hi => (hq i hi).2.2.2.2.2.2.2.2.1
      show 1 + sumN (fun i => (q i).size) len ≤ _
      simp only [Rows.uptoBulk, bulk_range]
      omega
end
end Go.Proofs.YtfnfegcjgnbgbaaGreatDoor
