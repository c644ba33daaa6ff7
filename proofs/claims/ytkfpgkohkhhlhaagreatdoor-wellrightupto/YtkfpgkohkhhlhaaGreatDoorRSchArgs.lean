/-
  Schemas that came in: one by itself, a slice of them by index.
  Patterns that came in.
  Conditions that came in.
  Texts, lists of texts and lists of conditions that came in.
  Queries that came in.
  What the rows' condition on the three laid variables gives the walks: typing's two sentinels, and errors' own handle of 'error'.
-/
import Derived.Test.YtkfpgkohkhhlhaaGreatDoorRSchTwice
import Derived.Test.YtkfpgkohkhhlhaaGreatDoorRWlRightMath
import Derived.Test.YtkfpgkohkhhlhaaGreatDoorRPatBase
import Derived.Test.YtkfpgkohkhhlhaaGreatDoorRValOrder
import Derived.Test.YtkfpgkohkhhlhaaGreatDoorRTypPush
import Derived.Test.YtkfpgkohkhhlhaaGreatDoorRWlAs
import Derived.Deep.Strs
import Derived.OpenShut
import Derived.ProofKit
import Derived.LaidMore
import Derived.LaidHandle
import Derived.Stop.Joined
import Derived.Stop.LaidErr
import Derived.Stop.LaidTwo
namespace Go.Proofs.YtkfpgkohkhhlhaaGreatDoor
open Go.RowKit Go.ChangeShapes Go.WideShapes

section
variable {H : Type} {enc : TypeId × Value → H} {w : World} {base : Nat} {spare : Nat → Bool} {held : Bool}
theorem fld_under : ∃ f0 f1 : Field, Tryz.prog.underlying 112 = some (.struct #[f0, f1]) ∧ f0.offset = 0 ∧ f1.offset = 1 ∧ f0.type = 9 ∧ f1.type = 3 := ⟨_, _, Tryz.underlying112, rfl, rfl, rfl, rfl⟩
theorem sch_under : ∃ f0 f1 : Field, Tryz.prog.underlying 115 = some (.struct #[f0, f1]) ∧ f0.offset = 0 ∧ f1.offset = 1 ∧ f0.type = 9 ∧ f1.type = 113 := ⟨_, _, Tryz.underlying115, rfl, rfl, rfl, rfl⟩
theorem cells_f : Tryz.prog.cellsOf 112 = 2 := by kernel_rfl
theorem cells_h : Tryz.prog.cellsOf 115 = 2 := by kernel_rfl
theorem cells_l : Tryz.prog.cellsOf 113 = 1 := by kernel_rfl
/-- The cells of a field, read. -/
theorem trod_fld {fuel : Nat} {cs : List Value} {x : DataW H × List MemPlace} (h : DataW.trod enc Tryz.prog w base spare held fuel 112 cs = some x) :
    ∃ s k, cs = [.string s, .int .i64 k] ∧ s.size ≤ maxLen := by
  obtain ⟨f0, f1, hu, o0, o1, t0, t1⟩ := fld_under
  obtain ⟨y0, y1, m, rfl, hl, g0, g1⟩ := trod_struct2 hu h
  rw [cells_f] at hl
  rw [o0, t0, cells_s] at g0
  rw [o1, t1, cells_i] at g1
  match cs, hl with
  | [c0, c1], _ =>
    obtain ⟨s, e0, rfl, w0⟩ := DataW.trod_string Tryz.underlying9 g0
    obtain ⟨k, e1, rfl, _⟩ := DataW.trod_int Tryz.underlying3 g1
    simp at e0 e1
    subst e0 e1
    exact ⟨s, k, rfl, w0⟩
theorem addr_two (b off i : Nat) : (⟨b, off, none⟩ : Addr).add i = ⟨b, off + i, none⟩ := by unfold Addr.add; split <;> simp_all
/-- A slice of fields, read. -/
theorem trod_flds {fuel : Nat} {cs : List Value} {x : DataW H × List MemPlace} (h : DataW.trod enc Tryz.prog w base spare held fuel 113 cs = some x) :
    ∃ a len cap Nm K, cs = [.slice a len cap] ∧ Flds w a len Nm K ∧ len ≤ 9223372036854775807 := by
  rcases Deep.open_slice Tryz.underlying113 h with ⟨rfl, _⟩ | ⟨x, len, cap, m, n, D, Pl, rfl, _, hl, hcm, hmm, _, hx⟩
  · exact ⟨none, 0, 0, fun _ => ⟨#[]⟩, fun _ => 0, rfl, fun h => by omega, by omega⟩
  · have hlm : len ≤ m := by rw [hmm]; split <;> omega
    have each : ∀ i, i < m → ∃ q : ByteArray × Int, w.cell? (x.add (i * 2)) = some (.string q.1) ∧ w.cell? (x.add (i * 2 + 1)) = some (.int .i64 q.2) ∧ q.1.size ≤ maxLen := by
      intro i hi
      obtain ⟨cs', h1, h2⟩ := hx i hi
      rw [cells_f] at h1
      obtain ⟨_, hlen, hcell⟩ := World.cells?_some h1
      obtain ⟨s, k, rfl, w0⟩ := trod_fld h2
      have e0 := hcell 0 (by omega)
      have e1 := hcell 1 (by omega)
      rw [Deep.add_add] at e0 e1
      exact ⟨(s, k), by simpa using e0, by simpa using e1, w0⟩
    obtain ⟨q, hq⟩ := Deep.choose_lt each
    refine ⟨some x, len, cap, fun i => (q i).1, fun i => (q i).2, rfl, fun h0 => ?_, by unfold maxLen at hcm; omega⟩
    obtain ⟨b, off, spot⟩ := x
    have hspot : spot = none := by simpa [Addr.add] using World.cell?_spot (hq 0 (by omega)).1
    subst hspot
    refine ⟨b, off, rfl, fun j hj => ?_⟩
    obtain ⟨c0, c1, c2⟩ := hq j (by omega)
    rw [addr_two] at c0 c1
    exact ⟨⟨c0, by rw [Nat.add_assoc]; exact c1⟩, c2⟩
/-- A schema whose fields lie in memory. -/
def IsSch (w : World) (x : Sch) : Prop := Flds w x.a x.l x.fn x.fk ∧ x.l ≤ 9223372036854775807 ∧ x.nm.size ≤ maxLen
theorem IsSch.later {w w' : World} {x : Sch} (h : IsSch w x) (hB : Below w.heap.size w w') : IsSch w' x := ⟨h.1.later hB, h.2⟩
/-- The cells of a schema, read. -/
theorem trod_sch {fuel : Nat} {cs : List Value} {x : DataW H × List MemPlace} (h : DataW.trod enc Tryz.prog w base spare held fuel 115 cs = some x) :
    ∃ q : Sch, cs = [.string q.nm, q.v] ∧ IsSch w q := by
  obtain ⟨f0, f1, hu, o0, o1, t0, t1⟩ := sch_under
  obtain ⟨y0, y1, m, rfl, hl, g0, g1⟩ := trod_struct2 hu h
  rw [cells_h] at hl
  rw [o0, t0, cells_s] at g0
  rw [o1, t1, cells_l] at g1
  match cs, hl with
  | [c0, c1], _ =>
    obtain ⟨s, e0, rfl, w0⟩ := DataW.trod_string Tryz.underlying9 g0
    obtain ⟨a, len, cap, Nm, K, e1, hf, hl⟩ := trod_flds g1
    simp at e0 e1
    subst e0 e1
    exact ⟨⟨s, a, len, cap, Nm, K⟩, rfl, hf, hl, w0⟩
def sch0 : Sch := ⟨⟨#[]⟩, none, 0, 0, fun _ => ⟨#[]⟩, fun _ => 0⟩
/-- A slice of schemas that came in, by index. -/
theorem open_schs {a : Option Addr} {len cap : Nat} {d : DataW H} {p : List MemPlace} (h : DataW.Trod enc Tryz.prog w base spare held 22 (.slice a len cap) d p) : ∃ Q : Nat → Sch, Schs w a len Q ∧ len ≤ 9223372036854775807 := by
  obtain ⟨fuel, hf⟩ := h
  rcases Deep.open_slice Tryz.underlying22 hf with ⟨hcs, _⟩ | ⟨x, l, c, m, n, D, Pl, hcs, _, hl, hcm, hmm, _, hx⟩
  · simp [Value.cells] at hcs
    obtain ⟨rfl, rfl, rfl⟩ := hcs
    exact ⟨fun _ => sch0, ⟨fun h => by omega, fun j hj => by omega⟩, by omega⟩
  · simp [Value.cells] at hcs
    obtain ⟨rfl, rfl, rfl⟩ := hcs
    have hlm : len ≤ m := by rw [hmm]; split <;> omega
    have each : ∀ i, i < m → ∃ q : Sch, w.cell? (x.add (i * 2)) = some (.string q.nm) ∧ w.cell? (x.add (i * 2 + 1)) = some q.v ∧ IsSch w q := by
      intro i hi
      obtain ⟨cs', h1, h2⟩ := hx i hi
      rw [cells_h] at h1
      obtain ⟨_, hlen, hcell⟩ := World.cells?_some h1
      obtain ⟨q, rfl, hq⟩ := trod_sch h2
      have e0 := hcell 0 (by omega)
      have e1 := hcell 1 (by omega)
      rw [Deep.add_add] at e0 e1
      exact ⟨q, by simpa using e0, by simpa using e1, hq⟩
    have : Inhabited Sch := ⟨sch0⟩
    obtain ⟨q, hq⟩ := Deep.choose_lt each
    refine ⟨q, ⟨fun h0 => ?_, fun j hj => ⟨(hq j (by omega)).2.2.1, (hq j (by omega)).2.2.2.1⟩⟩, by unfold maxLen at hcm; omega⟩
    obtain ⟨b, off, spot⟩ := x
    have hspot : spot = none := by simpa [Addr.add] using World.cell?_spot (hq 0 (by omega)).1
    subst hspot
    refine ⟨b, off, rfl, fun j hj => ?_⟩
    obtain ⟨c0, c1, c2⟩ := hq j (by omega)
    rw [addr_two] at c0 c1
    exact ⟨⟨c0, by rw [Nat.add_assoc]; exact c1⟩, c2.2.2⟩
end
end Go.Proofs.YtkfpgkohkhhlhaaGreatDoor
namespace Go.Proofs.YtkfpgkohkhhlhaaGreatDoor
open Go.RowKit Go.ChangeShapes Go.WideShapes

section
variable {H : Type} {enc : TypeId × Value → H} {w : World} {base : Nat} {spare : Nat → Bool} {held : Bool}
theorem pat_under : ∃ f0 f1 f2 f3 f4 f5 : Field, Tryz.prog.underlying 25 = some (.struct #[f0, f1, f2, f3, f4, f5]) ∧ f0.offset = 0 ∧ f1.offset = 1 ∧ f2.offset = 2 ∧ f3.offset = 3 ∧ f4.offset = 4 ∧ f5.offset = 5 ∧ f0.type = 3 ∧ f1.type = 9 ∧ f2.type = 9 ∧ f3.type = 3 ∧ f4.type = 3 ∧ f5.type = 23 := ⟨_, _, _, _, _, _, Tryz.underlying25, rfl, rfl, rfl, rfl, rfl, rfl, rfl, rfl, rfl, rfl, rfl, rfl⟩
theorem cells_p : Tryz.prog.cellsOf 25 = 6 := by kernel_rfl
theorem cells_pl : Tryz.prog.cellsOf 23 = 1 := by kernel_rfl
set_option maxRecDepth 100000 in
/-- A pattern's cells, read: as a tree, of no more nodes than the reading's bulk. -/
theorem trod_p : ∀ (m fuel : Nat) (cs : List Value) (x : DataW H × List MemPlace), DataW.trod enc Tryz.prog w base spare held fuel 25 cs = some x → Rows.uptoBulk x.1 ≤ m →
    ∃ q : Pt, cs = [.int .i64 q.k, .string q.s, .string q.t, .int .i64 q.lo, .int .i64 q.hi, .slice q.a q.n q.cap] ∧ IsP w q ∧ q.size ≤ Rows.uptoBulk x.1 ∧ POk q := by
  intro m
  induction m with
  | zero =>
    intro fuel cs x h hm
    obtain ⟨f0, f1, f2, f3, f4, f5, hu, -⟩ := pat_under
    obtain ⟨xs, n, rfl, rfl, -⟩ := DataW.trod_struct hu h
    simp [Rows.uptoBulk] at hm
  | succ m ih =>
    intro fuel cs x h hm
    obtain ⟨f0, f1, f2, f3, f4, f5, hu, o0, o1, o2, o3, o4, o5, t0, t1, t2, t3, t4, t5⟩ := pat_under
    obtain ⟨xs, n, rfl, rfl, hl, hlen, hf⟩ := DataW.trod_struct hu h
    rw [cells_p] at hl
    match xs, hlen, cs, hl with
    | [y0, y1, y2, y3, y4, y5], _, [c0, c1, c2, c3, c4, c5], _ =>
      have hb : Rows.uptoBulk y5.1 + 1 ≤ Rows.uptoBulk (DataW.agg (H := H) ([y0, y1, y2, y3, y4, y5].map (·.1))) := by
        simp only [List.map_cons, List.map_nil, Rows.uptoBulk, Rows.uptoBulkAll]
        omega
      dsimp only at hm ⊢
      clear h
      generalize Rows.uptoBulk (DataW.agg (H := H) ([y0, y1, y2, y3, y4, y5].map (·.1))) = M at hb hm ⊢
      have g0 := hf 0 f0 rfl
      have g1 := hf 1 f1 rfl
      have g2 := hf 2 f2 rfl
      have g3 := hf 3 f3 rfl
      have g4 := hf 4 f4 rfl
      have g5 := hf 5 f5 rfl
      rw [o0, t0, cells_i] at g0
      rw [o1, t1, cells_s] at g1
      rw [o2, t2, cells_s] at g2
      rw [o3, t3, cells_i] at g3
      rw [o4, t4, cells_i] at g4
      rw [o5, t5, cells_pl] at g5
      simp at g0 g1 g2 g3 g4 g5
      obtain ⟨k, e0, rfl, w0⟩ := DataW.trod_int Tryz.underlying3 g0
      obtain ⟨s, e1, rfl, w2⟩ := DataW.trod_string Tryz.underlying9 g1
      obtain ⟨t, e2, rfl, w3⟩ := DataW.trod_string Tryz.underlying9 g2
      obtain ⟨lo, e3, rfl, _⟩ := DataW.trod_int Tryz.underlying3 g3
      obtain ⟨hi, e5, rfl, _⟩ := DataW.trod_int Tryz.underlying3 g4
      simp at e0 e1 e2 e3 e5
      subst e0 e1 e2 e3 e5
      rcases Deep.open_slice Tryz.underlying23 g5 with ⟨e4, _⟩ | ⟨a, len, cap, mm, nn, D, Pl, e4, _, hl4, hcm, hmm, rfl, hx⟩
      · simp at e4
        subst e4
        exact ⟨.mk k s t lo hi none 0 0 (fun _ => .nil), rfl, ⟨by omega, by omega, fun i hi => by omega⟩, by simp only [Pt.size, sumN]; omega, w2, w3, fun i hi => by omega⟩
      · simp at e4
        subst e4
        have hlm : len ≤ mm := by rw [hmm]; split <;> omega
        have hB : sumN (fun i => Rows.uptoBulk (D i)) len + 1 ≤ Rows.uptoBulk (DataW.slice (H := H) ((List.range len).map D) ((List.range (mm - len)).map fun j => D (len + j))) := by
          simp only [Rows.uptoBulk, bulk_range]
          omega
        simp only at hb
        have each : ∀ i, i < len → ∃ q : Pt, w.cell? (a.add (i * 6)) = some (.int .i64 q.k) ∧ w.cell? (a.add (i * 6 + 1)) = some (.string q.s) ∧ w.cell? (a.add (i * 6 + 2)) = some (.string q.t) ∧ w.cell? (a.add (i * 6 + 3)) = some (.int .i64 q.lo) ∧
            w.cell? (a.add (i * 6 + 4)) = some (.int .i64 q.hi) ∧ w.cell? (a.add (i * 6 + 5)) = some (.slice q.a q.n q.cap) ∧ IsP w q ∧ q.size ≤ Rows.uptoBulk (D i) ∧ POk q := by
          intro i hi
          obtain ⟨cs', h1, h2⟩ := hx i (by omega)
          rw [cells_p] at h1
          obtain ⟨_, hlen, hcell⟩ := World.cells?_some h1
          have hle := sumN_le (f := fun i => Rows.uptoBulk (D i)) hi
          obtain ⟨q, rfl, hq, hqs, hqo⟩ := ih _ _ _ h2 (by simp only; omega)
          have d0 := hcell 0 (by omega)
          have d1 := hcell 1 (by omega)
          have d2 := hcell 2 (by omega)
          have d3 := hcell 3 (by omega)
          have d4 := hcell 4 (by omega)
          have d5 := hcell 5 (by omega)
          rw [Deep.add_add] at d0 d1 d2 d3 d4 d5
          exact ⟨q, by simpa using d0, by simpa using d1, by simpa using d2, by simpa using d3, by simpa using d4, by simpa using d5, hq, hqs, hqo⟩
        have : Inhabited Pt := ⟨.nil⟩
        obtain ⟨q, hq⟩ := Deep.choose_lt each
        refine ⟨.mk k s t lo hi (some a) len cap q, rfl, ⟨hl4, by unfold maxLen at hcm; omega, fun i hi => ?_⟩, ?_, w2, w3, fun i hi => (hq i hi).2.2.2.2.2.2.2.2⟩
        · obtain ⟨b, off, spot⟩ := a
          obtain ⟨d0, d1, d2, d3, d4, d5, hi1, hi2, -⟩ := hq i hi
          have hspot : spot = none := by simpa [Addr.add] using World.cell?_spot (hq 0 (by omega)).1
          subst hspot
          rw [add_none] at d0 d1 d2 d3 d4 d5
          refine ⟨b, off, rfl, ⟨?_, ?_, ?_, ?_, ?_, ?_⟩, hi1⟩
          · exact d0
          · rw [Nat.add_assoc]; exact d1
          · rw [Nat.add_assoc]; exact d2
          · rw [Nat.add_assoc]; exact d3
          · rw [Nat.add_assoc]; exact d4
          · rw [Nat.add_assoc]; exact d5
        · have h1 := sumN_mono (f := fun i => (q i).size) (g := fun i => Rows.uptoBulk (D i)) (n := len) fun i hi => (hq i hi).2.2.2.2.2.2.2.1
          show 1 + sumN (fun i => (q i).size) len ≤ _
          omega
end
end Go.Proofs.YtkfpgkohkhhlhaaGreatDoor
namespace Go.Proofs.YtkfpgkohkhhlhaaGreatDoor
open Go.RowKit Go.ChangeShapes Go.WideShapes

section
variable {H : Type} {enc : TypeId × Value → H} {w : World} {base : Nat} {spare : Nat → Bool} {held : Bool}
theorem expr_under : ∃ f0 f1 f2 f3 f4 : Field, Tryz.prog.underlying 54 = some (.struct #[f0, f1, f2, f3, f4]) ∧ f0.offset = 0 ∧ f1.offset = 1 ∧ f2.offset = 4 ∧ f3.offset = 5 ∧ f4.offset = 6 ∧ f0.type = 3 ∧ f1.type = 52 ∧ f2.type = 9 ∧ f3.type = 9 ∧ f4.type = 26 := ⟨_, _, _, _, _, Tryz.underlying54, rfl, rfl, rfl, rfl, rfl, rfl, rfl, rfl, rfl, rfl⟩
theorem cells_x : Tryz.prog.cellsOf 54 = 7 := by kernel_rfl
theorem cells_xl : Tryz.prog.cellsOf 26 = 1 := by kernel_rfl
set_option maxRecDepth 100000 in
/-- A condition's cells, read: as a tree, of no more nodes than the reading's bulk. -/
theorem trod_x : ∀ (m fuel : Nat) (cs : List Value) (x : DataW H × List MemPlace), DataW.trod enc Tryz.prog w base spare held fuel 54 cs = some x → Rows.uptoBulk x.1 ≤ m →
    ∃ q : X, cs = [.int .i64 q.k, .int .i64 q.v.k, .int .i64 q.v.n, .string q.v.s, .string q.s, .string q.f, .slice q.a q.n q.cap] ∧ IsX w q ∧ q.size ≤ Rows.uptoBulk x.1 ∧ XOk q := by
  intro m
  induction m with
  | zero =>
    intro fuel cs x h hm
    obtain ⟨f0, f1, f2, f3, f4, hu, -⟩ := expr_under
    obtain ⟨xs, n, rfl, rfl, -⟩ := DataW.trod_struct hu h
    simp [Rows.uptoBulk] at hm
  | succ m ih =>
    intro fuel cs x h hm
    obtain ⟨f0, f1, f2, f3, f4, hu, o0, o1, o2, o3, o4, t0, t1, t2, t3, t4⟩ := expr_under
    obtain ⟨xs, n, rfl, rfl, hl, hlen, hf⟩ := DataW.trod_struct hu h
    rw [cells_x] at hl
    match xs, hlen, cs, hl with
    | [y0, y1, y2, y3, y4], _, [c0, c1, c2, c3, c4, c5, c6], _ =>
      have hb : Rows.uptoBulk y4.1 + 1 ≤ Rows.uptoBulk (DataW.agg (H := H) ([y0, y1, y2, y3, y4].map (·.1))) := by
        simp only [List.map_cons, List.map_nil, Rows.uptoBulk, Rows.uptoBulkAll]
        omega
      dsimp only at hm ⊢
      clear h
      generalize Rows.uptoBulk (DataW.agg (H := H) ([y0, y1, y2, y3, y4].map (·.1))) = M at hb hm ⊢
      have g0 := hf 0 f0 rfl
      have g1 := hf 1 f1 rfl
      have g2 := hf 2 f2 rfl
      have g3 := hf 3 f3 rfl
      have g4 := hf 4 f4 rfl
      rw [o0, t0, cells_i] at g0
      rw [o1, t1, cells_v] at g1
      rw [o2, t2, cells_s] at g2
      rw [o3, t3, cells_s] at g3
      rw [o4, t4, cells_xl] at g4
      simp at g0 g1 g2 g3 g4
      obtain ⟨k, e0, rfl, w0⟩ := DataW.trod_int Tryz.underlying3 g0
      obtain ⟨v, e1⟩ := trod_val g1
      obtain ⟨s, e2, rfl, w2⟩ := DataW.trod_string Tryz.underlying9 g2
      obtain ⟨f, e3, rfl, w3⟩ := DataW.trod_string Tryz.underlying9 g3
      simp at e0 e1 e2 e3
      obtain ⟨e1, e1', e1''⟩ := e1
      subst e0 e1 e1' e1'' e2 e3
      rcases Deep.open_slice Tryz.underlying26 g4 with ⟨e4, _⟩ | ⟨a, len, cap, mm, nn, D, Pl, e4, _, hl4, hcm, hmm, rfl, hx⟩
      · simp at e4
        subst e4
        exact ⟨.mk k v s f none 0 0 (fun _ => .nil), rfl, ⟨by omega, by omega, fun i hi => by omega⟩, by simp only [X.size, sumN]; omega, w2, w3, fun i hi => by omega⟩
      · simp at e4
        subst e4
        have hlm : len ≤ mm := by rw [hmm]; split <;> omega
        have hB : sumN (fun i => Rows.uptoBulk (D i)) len + 1 ≤ Rows.uptoBulk (DataW.slice (H := H) ((List.range len).map D) ((List.range (mm - len)).map fun j => D (len + j))) := by
          simp only [Rows.uptoBulk, bulk_range]
          omega
        simp only at hb
        have each : ∀ i, i < len → ∃ q : X, w.cell? (a.add (i * 7)) = some (.int .i64 q.k) ∧ w.cell? (a.add (i * 7 + 1)) = some (.int .i64 q.v.k) ∧ w.cell? (a.add (i * 7 + 2)) = some (.int .i64 q.v.n) ∧ w.cell? (a.add (i * 7 + 3)) = some (.string q.v.s) ∧
            w.cell? (a.add (i * 7 + 4)) = some (.string q.s) ∧ w.cell? (a.add (i * 7 + 5)) = some (.string q.f) ∧ w.cell? (a.add (i * 7 + 6)) = some (.slice q.a q.n q.cap) ∧ IsX w q ∧ q.size ≤ Rows.uptoBulk (D i) ∧ XOk q := by
          intro i hi
          obtain ⟨cs', h1, h2⟩ := hx i (by omega)
          rw [cells_x] at h1
          obtain ⟨_, hlen, hcell⟩ := World.cells?_some h1
          have hle := sumN_le (f := fun i => Rows.uptoBulk (D i)) hi
          obtain ⟨q, rfl, hq, hqs, hqo⟩ := ih _ _ _ h2 (by simp only; omega)
          have d0 := hcell 0 (by omega)
          have d1 := hcell 1 (by omega)
          have d2 := hcell 2 (by omega)
          have d3 := hcell 3 (by omega)
          have d4 := hcell 4 (by omega)
          have d5 := hcell 5 (by omega)
          have d6 := hcell 6 (by omega)
          rw [Deep.add_add] at d0 d1 d2 d3 d4 d5 d6
          exact ⟨q, by simpa using d0, by simpa using d1, by simpa using d2, by simpa using d3, by simpa using d4, by simpa using d5, by simpa using d6, hq, hqs, hqo⟩
        have : Inhabited X := ⟨.nil⟩
        obtain ⟨q, hq⟩ := Deep.choose_lt each
        refine ⟨.mk k v s f (some a) len cap q, rfl, ⟨hl4, by unfold maxLen at hcm; omega, fun i hi => ?_⟩, ?_, w2, w3, fun i hi => (hq i hi).2.2.2.2.2.2.2.2.2⟩
        · obtain ⟨b, off, spot⟩ := a
          obtain ⟨d0, d1, d2, d3, d4, d5, d6, hi1, hi2, -⟩ := hq i hi
          have hspot : spot = none := by simpa [Addr.add] using World.cell?_spot (hq 0 (by omega)).1
          subst hspot
          rw [add_none] at d0 d1 d2 d3 d4 d5 d6
          refine ⟨b, off, rfl, ⟨?_, ?_, ?_, ?_, ?_, ?_, ?_⟩, hi1⟩
          · exact d0
          · rw [Nat.add_assoc]; exact d1
          · rw [Nat.add_assoc]; exact d2
          · rw [Nat.add_assoc]; exact d3
          · rw [Nat.add_assoc]; exact d4
          · rw [Nat.add_assoc]; exact d5
          · rw [Nat.add_assoc]; exact d6
        · have h1 := sumN_mono (f := fun i => (q i).size) (g := fun i => Rows.uptoBulk (D i)) (n := len) fun i hi => (hq i hi).2.2.2.2.2.2.2.2.1
          show 1 + sumN (fun i => (q i).size) len ≤ _
          omega
end
end Go.Proofs.YtkfpgkohkhhlhaaGreatDoor
namespace Go.Proofs.YtkfpgkohkhhlhaaGreatDoor
open Go.RowKit Go.ChangeShapes Go.WideShapes

section
variable {H : Type} {enc : TypeId × Value → H} {w : World} {base : Nat} {spare : Nat → Bool} {held : Bool}
/-- Conditions that came in: as the parts of one. -/
abbrev X.all (a : Option Addr) (n cap : Nat) (c : Nat → X) : X := .mk 0 val0 ⟨#[]⟩ ⟨#[]⟩ a n cap c
set_option maxRecDepth 100000 in
theorem open_xs {a : Option Addr} {len cap : Nat} {d : DataW H} {p : List MemPlace} (h : DataW.Trod enc Tryz.prog w base spare held 26 (.slice a len cap) d p) :
    ∃ c : Nat → X, IsX w (X.all a len cap c) ∧ (X.all a len cap c).size ≤ Rows.uptoBulk d + 1 ∧ XOk (X.all a len cap c) := by
  obtain ⟨fuel, hf⟩ := h
  rcases Deep.open_slice Tryz.underlying26 hf with ⟨e4, _⟩ | ⟨a', len', cap', mm, nn, D, Pl, e4, _, hl4, hcm, hmm, hdp, hx⟩
  · have e' : [Value.slice a len cap] = [.slice none 0 0] := e4
    injection e' with e' _
    injection e' with e1 e2 e3
    subst e1 e2 e3
    exact ⟨fun _ => .nil, ⟨by omega, by omega, fun i hi => by omega⟩, by simp [X.size, sumN], Nat.zero_le _, Nat.zero_le _, fun i hi => by omega⟩
  · cases hdp
    have e' : [Value.slice a len cap] = [.slice (some a') len' cap'] := e4
    injection e' with e' _
    injection e' with e1 e2 e3
    subst e1 e2 e3
    have hlm : len ≤ mm := by rw [hmm]; split <;> omega
    have each : ∀ i, i < len → ∃ q : X, w.cell? (a'.add (i * 7)) = some (.int .i64 q.k) ∧ w.cell? (a'.add (i * 7 + 1)) = some (.int .i64 q.v.k) ∧ w.cell? (a'.add (i * 7 + 2)) = some (.int .i64 q.v.n) ∧ w.cell? (a'.add (i * 7 + 3)) = some (.string q.v.s) ∧
        w.cell? (a'.add (i * 7 + 4)) = some (.string q.s) ∧ w.cell? (a'.add (i * 7 + 5)) = some (.string q.f) ∧ w.cell? (a'.add (i * 7 + 6)) = some (.slice q.a q.n q.cap) ∧ IsX w q ∧ q.size ≤ Rows.uptoBulk (D i) ∧ XOk q := by
      intro i hi
      obtain ⟨cs', h1, h2⟩ := hx i (by omega)
      rw [cells_x] at h1
      obtain ⟨_, hlen, hcell⟩ := World.cells?_some h1
      obtain ⟨q, rfl, hq, hqs, hqo⟩ := trod_x _ _ _ _ h2 (Nat.le_refl _)
      have d0 := hcell 0 (by omega)
      have d1 := hcell 1 (by omega)
      have d2 := hcell 2 (by omega)
      have d3 := hcell 3 (by omega)
      have d4 := hcell 4 (by omega)
      have d5 := hcell 5 (by omega)
      have d6 := hcell 6 (by omega)
      rw [Deep.add_add] at d0 d1 d2 d3 d4 d5 d6
      exact ⟨q, by simpa using d0, by simpa using d1, by simpa using d2, by simpa using d3, by simpa using d4, by simpa using d5, by simpa using d6, hq, hqs, hqo⟩
    have : Inhabited X := ⟨.nil⟩
    obtain ⟨q, hq⟩ := Deep.choose_lt each
    refine ⟨q, ⟨hl4, by unfold maxLen at hcm; omega, fun i hi => ?_⟩, ?_, Nat.zero_le _, Nat.zero_le _, fun i hi => (hq i hi).2.2.2.2.2.2.2.2.2⟩
    · obtain ⟨b, off, spot⟩ := a'
      obtain ⟨d0, d1, d2, d3, d4, d5, d6, hi1, hi2, -⟩ := hq i hi
      have hspot : spot = none := by simpa [Addr.add] using World.cell?_spot (hq 0 (by omega)).1
      subst hspot
      rw [add_none] at d0 d1 d2 d3 d4 d5 d6
      refine ⟨b, off, rfl, ⟨?_, ?_, ?_, ?_, ?_, ?_, ?_⟩, hi1⟩
      · exact d0
      · rw [Nat.add_assoc]; exact d1
      · rw [Nat.add_assoc]; exact d2
      · rw [Nat.add_assoc]; exact d3
      · rw [Nat.add_assoc]; exact d4
      · rw [Nat.add_assoc]; exact d5
      · rw [Nat.add_assoc]; exact d6
    · have h1 := sumN_mono (f := fun i => (q i).size) (g := fun i => Rows.uptoBulk (D i)) (n := len) fun i hi => (hq i hi).2.2.2.2.2.2.2.2.1
      show 1 + sumN (fun i => (q i).size) len ≤ _
      simp only [Rows.uptoBulk, bulk_range]
      omega
end
end Go.Proofs.YtkfpgkohkhhlhaaGreatDoor
namespace Go.Proofs.YtkfpgkohkhhlhaaGreatDoor
open Go.RowKit Go.ChangeShapes Go.WideShapes

section
variable {H : Type} {enc : TypeId × Value → H} {w : World} {base : Nat} {spare : Nat → Bool} {held : Bool}
theorem item_under : ∃ f0 f1 f2 f3 : Field, Tryz.prog.underlying 77 = some (.struct #[f0, f1, f2, f3]) ∧ f0.offset = 0 ∧ f1.offset = 1 ∧ f2.offset = 2 ∧ f3.offset = 3 ∧ f0.type = 9 ∧ f1.type = 3 ∧ f2.type = 9 ∧ f3.type = 9 := ⟨_, _, _, _, Tryz.underlying77, rfl, rfl, rfl, rfl, rfl, rfl, rfl, rfl⟩
theorem cells_item : Tryz.prog.cellsOf 77 = 4 := by kernel_rfl
set_option maxRecDepth 100000 in
theorem trod_item {fuel : Nat} {cs : List Value} {x : DataW H × List MemPlace} (h : DataW.trod enc Tryz.prog w base spare held fuel 77 cs = some x) :
    ∃ q : It, cs = [.string q.nm, .int .i64 q.k, .string q.s, .string q.f] ∧ q.nm.size ≤ maxLen ∧ q.s.size ≤ maxLen ∧ q.f.size ≤ maxLen := by
  obtain ⟨f0, f1, f2, f3, hu, o0, o1, o2, o3, t0, t1, t2, t3⟩ := item_under
  obtain ⟨xs, n, rfl, rfl, hl, hlen, hf⟩ := DataW.trod_struct hu h
  rw [cells_item] at hl
  match xs, hlen, cs, hl with
  | [y0, y1, y2, y3], _, [c0, c1, c2, c3], _ =>
    have g0 := hf 0 f0 rfl
    have g1 := hf 1 f1 rfl
    have g2 := hf 2 f2 rfl
    have g3 := hf 3 f3 rfl
    rw [o0, t0, cells_s] at g0
    rw [o1, t1, cells_i] at g1
    rw [o2, t2, cells_s] at g2
    rw [o3, t3, cells_s] at g3
    simp at g0 g1 g2 g3
    obtain ⟨nm, e0, -, w0⟩ := DataW.trod_string Tryz.underlying9 g0
    obtain ⟨k, e1, -, -⟩ := DataW.trod_int Tryz.underlying3 g1
    obtain ⟨s, e2, -, w2⟩ := DataW.trod_string Tryz.underlying9 g2
    obtain ⟨f, e3, -, w3⟩ := DataW.trod_string Tryz.underlying9 g3
    simp at e0 e1 e2 e3
    subst e0 e1 e2 e3
    exact ⟨⟨nm, k, s, f⟩, rfl, w0, w2, w3⟩
set_option maxRecDepth 100000 in
theorem open_its {fuel : Nat} {cs : List Value} {d : DataW H} {p : List MemPlace} (hf : DataW.trod enc Tryz.prog w base spare held fuel 27 cs = some (d, p)) :
    ∃ (a : Option Addr) (len cap : Nat) (I : Nat → It), cs = [.slice a len cap] ∧ Its w a len I ∧ len ≤ cap ∧ cap ≤ 9223372036854775807 ∧ (∀ j, j < len → (I j).nm.size ≤ maxLen ∧ (I j).s.size ≤ maxLen ∧ (I j).f.size ≤ maxLen) ∧ len ≤ Rows.uptoBulk d := by
  rcases Deep.open_slice Tryz.underlying27 hf with ⟨e4, _⟩ | ⟨a', len, cap, mm, nn, D, Pl, e4, _, hl4, hcm, hmm, hdp, hx⟩
  · exact ⟨none, 0, 0, fun _ => ⟨⟨#[]⟩, 0, ⟨#[]⟩, ⟨#[]⟩⟩, e4, fun i h => by omega, by omega, by omega, fun j hj => by omega, Nat.zero_le _⟩
  · cases hdp
    have hlm : len ≤ mm := by rw [hmm]; split <;> omega
    have each : ∀ i, i < len → ∃ q : It, w.cell? (a'.add (i * 4)) = some (.string q.nm) ∧ w.cell? (a'.add (i * 4 + 1)) = some (.int .i64 q.k) ∧ w.cell? (a'.add (i * 4 + 2)) = some (.string q.s) ∧ w.cell? (a'.add (i * 4 + 3)) = some (.string q.f) ∧ q.nm.size ≤ maxLen ∧ q.s.size ≤ maxLen ∧ q.f.size ≤ maxLen := by
      intro i hi
      obtain ⟨cs', h1, h2⟩ := hx i (by omega)
      rw [cells_item] at h1
      obtain ⟨_, hlen, hcell⟩ := World.cells?_some h1
      obtain ⟨q, rfl, w1, w2, w3⟩ := trod_item h2
      have d0 := hcell 0 (by omega)
      have d1 := hcell 1 (by omega)
      have d2 := hcell 2 (by omega)
      have d3 := hcell 3 (by omega)
      rw [Deep.add_add] at d0 d1 d2 d3
      exact ⟨q, by simpa using d0, by simpa using d1, by simpa using d2, by simpa using d3, w1, w2, w3⟩
    have : Inhabited It := ⟨⟨⟨#[]⟩, 0, ⟨#[]⟩, ⟨#[]⟩⟩⟩
    obtain ⟨q, hq⟩ := Deep.choose_lt each
    refine ⟨some a', len, cap, q, e4, fun i hi => ?_, hl4, by unfold maxLen at hcm; omega, fun j hj => (hq j hj).2.2.2.2, ?_⟩
    · obtain ⟨b, off, spot⟩ := a'
      obtain ⟨d0, d1, d2, d3, -⟩ := hq i hi
      have hspot : spot = none := by simpa [Addr.add] using World.cell?_spot (hq 0 (by omega)).1
      subst hspot
      rw [add_none] at d0 d1 d2 d3
      refine ⟨b, off, rfl, ?_, ?_, ?_, ?_⟩
      · exact d0
      · rw [Nat.add_assoc]; exact d1
      · rw [Nat.add_assoc]; exact d2
      · rw [Nat.add_assoc]; exact d3
    · have hone : ∀ x : DataW H, 1 ≤ Rows.uptoBulk x := fun x => by rw [Rows.uptoBulk.eq_def]; split <;> omega
      have hsum : ∀ m, m ≤ sumN (fun i => Rows.uptoBulk (D i)) m := by
        intro m
        induction m with
        | zero => exact Nat.le_refl _
        | succ m ih => have := hone (D m); simp only [sumN]; omega
      have := hsum len
      simp only [Rows.uptoBulk, bulk_range]
      omega
theorem query_under : ∃ f0 f1 f2 f3 f4 f5 : Field, Tryz.prog.underlying 29 = some (.struct #[f0, f1, f2, f3, f4, f5]) ∧ f0.offset = 0 ∧ f1.offset = 6 ∧ f2.offset = 7 ∧ f3.offset = 8 ∧ f4.offset = 9 ∧ f5.offset = 10 ∧ f0.type = 25 ∧ f1.type = 26 ∧ f2.type = 9 ∧ f3.type = 3 ∧ f4.type = 2 ∧ f5.type = 27 := ⟨_, _, _, _, _, _, Tryz.underlying29, rfl, rfl, rfl, rfl, rfl, rfl, rfl, rfl, rfl, rfl, rfl, rfl⟩
theorem cells_q : Tryz.prog.cellsOf 29 = 11 := by kernel_rfl
theorem cells_il : Tryz.prog.cellsOf 27 = 1 := by kernel_rfl
theorem cells_64 : Tryz.prog.cellsOf 2 = 1 := by kernel_rfl
set_option maxRecDepth 100000 in
theorem trod_q {fuel : Nat} {cs : List Value} {x : DataW H × List MemPlace} (h : DataW.trod enc Tryz.prog w base spare held fuel 29 cs = some x) :
    ∃ q : Qy, cs = q.cells.toList ∧ IsQ w q ∧ q.bulk ≤ Rows.uptoBulk x.1 ∧ QOk q := by
  obtain ⟨f0, f1, f2, f3, f4, f5, hu, o0, o1, o2, o3, o4, o5, t0, t1, t2, t3, t4, t5⟩ := query_under
  obtain ⟨xs, n, rfl, rfl, hl, hlen, hf⟩ := DataW.trod_struct hu h
  rw [cells_q] at hl
  match xs, hlen, cs, hl with
  | [y0, y1, y2, y3, y4, y5], _, [c0, c1, c2, c3, c4, c5, c6, c7, c8, c9, c10], _ =>
    have hb : Rows.uptoBulk y0.1 + Rows.uptoBulk y1.1 + Rows.uptoBulk y5.1 + 1 ≤ Rows.uptoBulk (DataW.agg (H := H) ([y0, y1, y2, y3, y4, y5].map (·.1))) := by
      simp only [List.map_cons, List.map_nil, Rows.uptoBulk, Rows.uptoBulkAll]
      omega
    have g0 := hf 0 f0 rfl
    have g1 := hf 1 f1 rfl
    have g2 := hf 2 f2 rfl
    have g3 := hf 3 f3 rfl
    have g4 := hf 4 f4 rfl
    have g5 := hf 5 f5 rfl
    rw [o0, t0, cells_p] at g0
    rw [o1, t1, cells_xl] at g1
    rw [o2, t2, cells_s] at g2
    rw [o3, t3, cells_i] at g3
    rw [o4, t4, cells_64] at g4
    rw [o5, t5, cells_il] at g5
    simp at g0 g1 g2 g3 g4 g5
    obtain ⟨pt, e0, hP, hps, hpo⟩ := trod_p _ _ _ _ g0 (Nat.le_refl _)
    obtain ⟨ky, e2, -, w2⟩ := DataW.trod_string Tryz.underlying9 g2
    obtain ⟨md, e3, -, -⟩ := DataW.trod_int Tryz.underlying3 g3
    obtain ⟨wi, e4, -, -⟩ := DataW.trod_int Tryz.underlying2 g4
    obtain ⟨ia, im, icap, I, e5, hI, hi1, hi2, hi3, hi4⟩ := open_its g5
    have hxs : ∃ (a : Option Addr) (len cap : Nat), c6 = .slice a len cap := by
      rcases Deep.open_slice Tryz.underlying26 g1 with ⟨e, _⟩ | ⟨a', len', cap', _, _, _, _, e, _⟩
      · simp at e; exact ⟨_, _, _, e⟩
      · simp at e; exact ⟨_, _, _, e⟩
    obtain ⟨a, len, cap, rfl⟩ := hxs
    obtain ⟨c, hX, hxsz, hxo⟩ := open_xs (a := a) (len := len) (cap := cap) ⟨_, g1⟩
    simp at e0 e2 e3 e4 e5
    obtain ⟨rfl, rfl, rfl, rfl, rfl, rfl⟩ := e0
    subst e2 e3 e4 e5
    refine ⟨⟨pt, a, len, cap, c, ky, md, wi, ia, im, icap, I⟩, rfl, ⟨hP, ?_, hI, hi1, hi2⟩, ?_, ⟨hpo, ?_, w2, hi3⟩⟩
    · rw [isX_eq] at hX ⊢
      exact hX
    · unfold Qy.bulk
      have e : (Qy.x ⟨pt, a, len, cap, c, ky, md, wi, ia, im, icap, I⟩).size = (X.all a len cap c).size := rfl
      rw [e]
      dsimp only at hb ⊢
      omega
    · rw [xOk_eq] at hxo ⊢
      exact hxo
set_option maxRecDepth 100000 in
/-- A query that came in. -/
theorem open_q {v : Value} {d : DataW H} {p : List MemPlace} {r : Reach} {b0 : Nat} (hv : Value.okWide Tryz.prog w r b0 29 v) (h : DataW.Trod enc Tryz.prog w base spare held 29 v d p) :
    ∃ q : Qy, v = q.val ∧ IsQ w q ∧ q.bulk ≤ Rows.uptoBulk d ∧ QOk q := by
  obtain ⟨f0, f1, f2, f3, f4, f5, hu, -⟩ := query_under
  obtain ⟨cs, rfl, hc⟩ := okWide_struct hu hv
  obtain ⟨fuel, hf⟩ := h
  obtain ⟨q, e, hq, hs, ho⟩ := trod_q hf
  simp only [Value.cells] at e
  refine ⟨q, ?_, hq, hs, ho⟩
  have : cs = q.cells := by
    apply Array.ext'
    simpa using e
  rw [this]
end
end Go.Proofs.YtkfpgkohkhhlhaaGreatDoor
namespace Go.Proofs.YtkfpgkohkhhlhaaGreatDoor
open Go.ChangeShapes Go.WideShapes Go.ChangeAt Go.RowKit

def laidW : List (String × DataW Unit) := [("errors.errorType", Rows.laid_errors_errorType), ("haruspex/typing.errNone", Rows.laid_haruspex_typing_errNone), ("haruspex/typing.errType", Rows.laid_haruspex_typing_errType)]
theorem laidW_some : (laidW.filter fun x => x.2.handleName?.isSome) = [("errors.errorType", Rows.laid_errors_errorType)] := by kernel_rfl
theorem laidW_none : (laidW.filter fun x => x.2.handleName?.isNone) = [("haruspex/typing.errNone", Rows.laid_haruspex_typing_errNone), ("haruspex/typing.errType", Rows.laid_haruspex_typing_errType)] := by kernel_rfl
theorem gErrW : Tryz.prog.globalNamed "errors.errorType" = some 0 := by kernel_rfl
theorem gNone : Tryz.prog.globalNamed "haruspex/typing.errNone" = some 2 := by kernel_rfl
theorem gType : Tryz.prog.globalNamed "haruspex/typing.errType" = some 1 := by kernel_rfl
theorem tNone : (Tryz.prog.globals[2]?).map (·.type) = some 66 := by kernel_rfl
theorem tType : (Tryz.prog.globals[1]?).map (·.type) = some 66 := by kernel_rfl
theorem cellsES : Tryz.prog.cellsOf 308 = 1 := by kernel_rfl
theorem cellsSt : Tryz.prog.cellsOf 9 = 1 := by kernel_rfl
theorem starES : "*" ++ "errors.errorString" = "*errors.errorString" := by decide
theorem rowES (u : TypeId) (h : Tryz.prog.typeName? 3 u = some "*errors.errorString") : u = 287 :=
  typeName_ptr_named (nm := "errors.errorString") (by rw [starES]; kernel_rfl) (by kernel_rfl) (by decide) u (by rw [starES]; exact h)
theorem cell_of_var {W : World} {name : String} {g : Nat} {v : Value} (hg : Tryz.prog.globalNamed name = some g) (hv : W.var? Tryz.prog name = some #[v]) : W.cell? ⟨g, 0, none⟩ = some v := by
  unfold World.var? at hv
  rw [hg] at hv
  simp only [Option.bind_some] at hv
  split at hv
  · rename_i c t f hh
    cases hv
    simp [World.cell?, hh]
  · cases hv
theorem rowErr : ((List.range Tryz.prog.types.size).all fun ty => !Tryz.prog.rowNamed ty [101, 114, 114, 111, 114] || ty == 66) = true := by kernel_rfl
theorem cutRty : (Tryz.prog.cutTypes.find? (·.1 == "internal/reflectlite.rtype")).map (·.2) = some 182 := by kernel_rfl
theorem hdlErr : typeHandle Tryz.prog 66 = hdl 66 := by kernel_rfl
theorem met_of_laid {W : World} (h : laidMetH Tryz.prog laidW W) : ∃ N T, Sens W N T ∧ W.cell? ⟨0, 0, none⟩ = some (rty 66) := by
  unfold laidMetH at h
  rw [laidW_some, laidW_none] at h
  obtain ⟨hL, hH⟩ := h
  obtain ⟨a0, a1, s0, s1, c0, c1, t0, t1, hv0, hv1, _, _, _, _, _, _, hne, hb0, hb1⟩ := laid_sentinels2 hL gNone tNone gType tType Tryz.underlying66 rowES Tryz.underlying287 Tryz.underlying308 rfl rfl Tryz.underlying9 cellsES cellsSt
  refine ⟨a0, a1, ⟨cell_of_var gNone hv0, cell_of_var gType hv1, ⟨c0, t0, hb0⟩, ⟨c1, t1, hb1⟩, hne⟩, ?_⟩
  have hx := hH _ (List.mem_singleton.2 rfl)
  rw [show (("errors.errorType", Rows.laid_errors_errorType) : String × DataW Unit).2.funcsIn? = none by kernel_rfl] at hx
  obtain ⟨name, u, ty, hn, hu, hty, hrow, hv⟩ := hx
  obtain rfl : [101, 114, 114, 111, 114] = name := Option.some.inj ((show (("errors.errorType", Rows.laid_errors_errorType) : String × DataW Unit).2.handleName? = some [101, 114, 114, 111, 114] by kernel_rfl).symm.trans hn)
  obtain rfl := Option.some.inj (cutRty.symm.trans hu)
  have ht := List.all_eq_true.1 rowErr ty (List.mem_range.2 hty)
  rw [hrow] at ht
  obtain rfl : ty = 66 := by simpa using ht
  rw [hdlErr] at hv
  exact cell_of_var gErrW hv
theorem door_met (os : Os) (args : Array Value) : laidMetH Tryz.prog laidW ((World.doorLaid Tryz.prog 400 os).forCall (fun _ _ => 0) ⟨#[], args, []⟩).memory :=
  laidMetH_of_parts (by rw [laidW_none]; exact laidMet_of_run' 8 (by kernel_rfl) (by kernel_rfl)) (by rw [laidW_some]; kernel_rfl)
end Go.Proofs.YtkfpgkohkhhlhaaGreatDoor
