/-
  Queries that came in.
-/
import Derived.Test.YtfnfegcjgnbgbaaGreatDoorTQryBase
import Derived.Test.YtfnfegcjgnbgbaaGreatDoorTPatUses
import Derived.Test.YtfnfegcjgnbgbaaGreatDoorTExprArgs
namespace Go.Proofs.YtfnfegcjgnbgbaaGreatDoor
open Go.RowKit Go.ChangeShapes Go.WideShapes

section
variable {H : Type} {enc : TypeId × Value → H} {w : World} {base : Nat} {spare : Nat → Bool} {held : Bool}
theorem item_under : ∃ f0 f1 f2 f3 : Field, Tryz.prog.underlying 93 = some (.struct #[f0, f1, f2, f3]) ∧ f0.offset = 0 ∧ f1.offset = 1 ∧ f2.offset = 2 ∧ f3.offset = 3 ∧ f0.type = 9 ∧ f1.type = 3 ∧ f2.type = 9 ∧ f3.type = 9 := ⟨_, _, _, _, Tryz.underlying93, rfl, rfl, rfl, rfl, rfl, rfl, rfl, rfl⟩
theorem cells_item : Tryz.prog.cellsOf 93 = 4 := by kernel_rfl
set_option maxRecDepth 100000 in
theorem trod_item {fuel : Nat} {cs : List Value} {x : DataW H × List MemPlace} (h : DataW.trod enc Tryz.prog w base spare held fuel 93 cs = some x) :
    ∃ q : It, cs = [.string q.nm, .int .i64 q.k, .string q.s, .string q.f] ∧ q.nm.size ≤ maxLen ∧ q.s.size ≤ maxLen ∧ q.f.size ≤ maxLen := by
  obtain ⟨f0, f1, f2, f3, hu, o0, o1, o2, o3, t0, t1, t2, t3⟩ := item_under
  obtain ⟨xs, n, rfl, rfl, hl, hlen, hf⟩ := DataW.trod_struct hu h
  rw [cells_item] at hl
  match xs, hlen, cs, hl with
  | [y0, y1, y2, y3], _, [c0, c1, c2, c3], _ =>
    have g0 := hf 0 f0 rfl
    have g1 := hf 1 f1 rfl
    have g2 := hf 2 f2 rfl
    have g3 := hf 3 f3 rfl
    rw [o0, t0, cells_s] at g0
    rw [o1, t1, cells_i] at g1
    rw [o2, t2, cells_s] at g2
    rw [o3, t3, cells_s] at g3
    simp at g0 g1 g2 g3
    obtain ⟨nm, e0, -, w0⟩ := DataW.trod_string Tryz.underlying9 g0
    obtain ⟨k, e1, -, -⟩ := DataW.trod_int Tryz.underlying3 g1
    obtain ⟨s, e2, -, w2⟩ := DataW.trod_string Tryz.underlying9 g2
    obtain ⟨f, e3, -, w3⟩ := DataW.trod_string Tryz.underlying9 g3
    simp at e0 e1 e2 e3
    subst e0 e1 e2 e3
    exact ⟨⟨nm, k, s, f⟩, rfl, w0, w2, w3⟩
set_option maxRecDepth 100000 in
theorem open_its {fuel : Nat} {cs : List Value} {d : DataW H} {p : List MemPlace} (hf : DataW.trod enc Tryz.prog w base spare held fuel 26 cs = some (d, p)) :
    ∃ (a : Option Addr) (len cap : Nat) (I : Nat → It), cs = [.slice a len cap] ∧ Its w a len I ∧ len ≤ cap ∧ cap ≤ 9223372036854775807 ∧ (∀ j, j < len → (I j).nm.size ≤ maxLen ∧ (I j).s.size ≤ maxLen ∧ (I j).f.size ≤ maxLen) ∧ len ≤ Rows.uptoBulk d := by
  rcases Deep.open_slice Tryz.underlying26 hf with ⟨e4, _⟩ | ⟨a', len, cap, mm, nn, D, Pl, e4, _, hl4, hcm, hmm, hdp, hx⟩
  · exact ⟨none, 0, 0, fun _ => ⟨⟨#[]⟩, 0, ⟨#[]⟩, ⟨#[]⟩⟩, e4, fun i h => by omega, by omega, by omega, fun j hj => by omega, Nat.zero_le _⟩
  · cases hdp
    have hlm : len ≤ mm := by rw [hmm]; split <;> omega
    have each : ∀ i, i < len → ∃ q : It, w.cell? (a'.add (i * 4)) = some (.string q.nm) ∧ w.cell? (a'.add (i * 4 + 1)) = some (.int .i64 q.k) ∧ w.cell? (a'.add (i * 4 + 2)) = some (.string q.s) ∧ w.cell? (a'.add (i * 4 + 3)) = some (.string q.f) ∧ q.nm.size ≤ maxLen ∧ q.s.size ≤ maxLen ∧ q.f.size ≤ maxLen := by
      intro i hi
      obtain ⟨cs', h1, h2⟩ := hx i (by omega)
      rw [cells_item] at h1
      obtain ⟨_, hlen, hcell⟩ := World.cells?_some h1
      obtain ⟨q, rfl, w1, w2, w3⟩ := trod_item h2
      have d0 := hcell 0 (by omega)
      have d1 := hcell 1 (by omega)
      have d2 := hcell 2 (by omega)
      have d3 := hcell 3 (by omega)
      rw [Deep.add_add] at d0 d1 d2 d3
      exact ⟨q, by simpa using d0, by simpa using d1, by simpa using d2, by simpa using d3, w1, w2, w3⟩
    have : Inhabited It := ⟨⟨⟨#[]⟩, 0, ⟨#[]⟩, ⟨#[]⟩⟩⟩
    obtain ⟨q, hq⟩ := Deep.choose_lt each
    refine ⟨some a', len, cap, q, e4, fun i hi => ?_, hl4, by unfold maxLen at hcm; omega, fun j hj => (hq j hj).2.2.2.2, ?_⟩
    · obtain ⟨b, off, spot⟩ := a'
      obtain ⟨d0, d1, d2, d3, -⟩ := hq i hi
      have hspot : spot = none := by simpa [Addr.add] using World.cell?_spot (hq 0 (by omega)).1
      subst hspot
      rw [add_none] at d0 d1 d2 d3
      refine ⟨b, off, rfl, ?_, ?_, ?_, ?_⟩
      · exact d0
      · rw [Nat.add_assoc]; exact d1
      · rw [Nat.add_assoc]; exact d2
      · rw [Nat.add_assoc]; exact d3
    · have hone : ∀ x : DataW H, 1 ≤ Rows.uptoBulk x := fun x => by rw [Rows.uptoBulk.eq_def]; split <;> omega
      have hsum : ∀ m, m ≤ sumN (fun i => Rows.uptoBulk (D i)) m := by
        intro m
        induction m with
        | zero => exact Nat.le_refl _
        | succ m ih => have := hone (D m); simp only [sumN]; omega
      have := hsum len
      simp only [Rows.uptoBulk, bulk_range]
      omega
theorem query_under : ∃ f0 f1 f2 f3 f4 f5 : Field, Tryz.prog.underlying 28 = some (.struct #[f0, f1, f2, f3, f4, f5]) ∧ f0.offset = 0 ∧ f1.offset = 6 ∧ f2.offset = 7 ∧ f3.offset = 8 ∧ f4.offset = 9 ∧ f5.offset = 10 ∧ f0.type = 24 ∧ f1.type = 25 ∧ f2.type = 9 ∧ f3.type = 3 ∧ f4.type = 2 ∧ f5.type = 26 := ⟨_, _, _, _, _, _, Tryz.underlying28, rfl, rfl, rfl, rfl, rfl, rfl, rfl, rfl, rfl, rfl, rfl, rfl⟩
theorem cells_q : Tryz.prog.cellsOf 28 = 11 := by kernel_rfl
theorem cells_il : Tryz.prog.cellsOf 26 = 1 := by kernel_rfl
theorem cells_64 : Tryz.prog.cellsOf 2 = 1 := by kernel_rfl
set_option maxRecDepth 100000 in
theorem trod_q {fuel : Nat} {cs : List Value} {x : DataW H × List MemPlace} (h : DataW.trod enc Tryz.prog w base spare held fuel 28 cs = some x) :
    ∃ q : Qy, cs = q.cells.toList ∧ IsQ w q ∧ q.bulk ≤ Rows.uptoBulk x.1 ∧ QOk q := by
  obtain ⟨f0, f1, f2, f3, f4, f5, hu, o0, o1, o2, o3, o4, o5, t0, t1, t2, t3, t4, t5⟩ := query_under
  obtain ⟨xs, n, rfl, rfl, hl, hlen, hf⟩ := DataW.trod_struct hu h
  rw [cells_q] at hl
  match xs, hlen, cs, hl with
  | [y0, y1, y2, y3, y4, y5], _, [c0, c1, c2, c3, c4, c5, c6, c7, c8, c9, c10], _ =>
    have hb : Rows.uptoBulk y0.1 + Rows.uptoBulk y1.1 + Rows.uptoBulk y5.1 + 1 ≤ Rows.uptoBulk (DataW.agg (H := H) ([y0, y1, y2, y3, y4, y5].map (·.1))) := by
      simp only [List.map_cons, List.map_nil, Rows.uptoBulk, Rows.uptoBulkAll]
      omega
    have g0 := hf 0 f0 rfl
    have g1 := hf 1 f1 rfl
    have g2 := hf 2 f2 rfl
    have g3 := hf 3 f3 rfl
    have g4 := hf 4 f4 rfl
    have g5 := hf 5 f5 rfl
    rw [o0, t0, cells_p] at g0
    rw [o1, t1, cells_xl] at g1
    rw [o2, t2, cells_s] at g2
    rw [o3, t3, cells_i] at g3
    rw [o4, t4, cells_64] at g4
    rw [o5, t5, cells_il] at g5
    simp at g0 g1 g2 g3 g4 g5
    obtain ⟨pt, e0, hP, hps, hpo⟩ := trod_p _ _ _ _ g0 (Nat.le_refl _)
    obtain ⟨ky, e2, -, w2⟩ := DataW.trod_string Tryz.underlying9 g2
    obtain ⟨md, e3, -, -⟩ := DataW.trod_int Tryz.underlying3 g3
    obtain ⟨wi, e4, -, -⟩ := DataW.trod_int Tryz.underlying2 g4
    obtain ⟨ia, im, icap, I, e5, hI, hi1, hi2, hi3, hi4⟩ := open_its g5
    have hxs : ∃ (a : Option Addr) (len cap : Nat), c6 = .slice a len cap := by
      rcases Deep.open_slice Tryz.underlying25 g1 with ⟨e, _⟩ | ⟨a', len', cap', _, _, _, _, e, _⟩
      · simp at e; exact ⟨_, _, _, e⟩
      · simp at e; exact ⟨_, _, _, e⟩
    obtain ⟨a, len, cap, rfl⟩ := hxs
    obtain ⟨c, hX, hxsz, hxo⟩ := open_xs (a := a) (len := len) (cap := cap) ⟨_, g1⟩
    simp at e0 e2 e3 e4 e5
    obtain ⟨rfl, rfl, rfl, rfl, rfl, rfl⟩ := e0
    subst e2 e3 e4 e5
    refine ⟨⟨pt, a, len, cap, c, ky, md, wi, ia, im, icap, I⟩, rfl, ⟨hP, ?_, hI, hi1, hi2⟩, ?_, ⟨hpo, ?_, w2, hi3⟩⟩
    · rw [isX_eq] at hX ⊢
      exact hX
    · unfold Qy.bulk
      have e : (Qy.x ⟨pt, a, len, cap, c, ky, md, wi, ia, im, icap, I⟩).size = (X.all a len cap c).size := rfl
      rw [e]
      dsimp only at hb ⊢
      omega
    · rw [xOk_eq] at hxo ⊢
      exact hxo
set_option maxRecDepth 100000 in
/-- A query that came in. -/
theorem open_q {v : Value} {d : DataW H} {p : List MemPlace} {r : Reach} {b0 : Nat} (hv : Value.okWide Tryz.prog w r b0 28 v) (h : DataW.Trod enc Tryz.prog w base spare held 28 v d p) :
    ∃ q : Qy, v = q.val ∧ IsQ w q ∧ q.bulk ≤ Rows.uptoBulk d ∧ QOk q := by
  obtain ⟨f0, f1, f2, f3, f4, f5, hu, -⟩ := query_under
  obtain ⟨cs, rfl, hc⟩ := okWide_struct hu hv
  obtain ⟨fuel, hf⟩ := h
  obtain ⟨q, e, hq, hs, ho⟩ := trod_q hf
  simp only [Value.cells] at e
  refine ⟨q, ?_, hq, hs, ho⟩
  have : cs = q.cells := by
    apply Array.ext'
    simpa using e
  rw [this]
end
end Go.Proofs.YtfnfegcjgnbgbaaGreatDoor
