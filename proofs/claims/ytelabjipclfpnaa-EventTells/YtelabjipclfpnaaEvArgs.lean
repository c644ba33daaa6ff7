/-
  Events that came in: one by itself, a slice of them by index.
-/
import Derived.Test.YtelabjipclfpnaaEvBase
import Derived.Test.YtelabjipclfpnaaSchArgs
namespace Go.Proofs.Ytelabjipclfpnaa
open Go.RowKit Go.ChangeShapes Go.WideShapes

section
variable {H : Type} {enc : TypeId × Value → H} {w : World} {base : Nat} {spare : Nat → Bool} {held : Bool}
theorem val_under : ∃ f0 f1 f2 : Field, Try.prog.underlying 34 = some (.struct #[f0, f1, f2]) ∧ f0.offset = 0 ∧ f1.offset = 1 ∧ f2.offset = 2 ∧ f0.type = 3 ∧ f1.type = 2 ∧ f2.type = 9 := ⟨_, _, _, Try.underlying34, rfl, rfl, rfl, rfl, rfl, rfl⟩
theorem evt_under : ∃ f0 f1 f2 : Field, Try.prog.underlying 26 = some (.struct #[f0, f1, f2]) ∧ f0.offset = 0 ∧ f1.offset = 1 ∧ f2.offset = 2 ∧ f0.type = 9 ∧ f1.type = 2 ∧ f2.type = 24 := ⟨_, _, _, Try.underlying26, rfl, rfl, rfl, rfl, rfl, rfl⟩
theorem cells_v : Try.prog.cellsOf 34 = 3 := by kernel_rfl
theorem cells_e : Try.prog.cellsOf 26 = 3 := by kernel_rfl
theorem cells_n : Try.prog.cellsOf 2 = 1 := by kernel_rfl
theorem cells_vl : Try.prog.cellsOf 24 = 1 := by kernel_rfl
theorem wf_u16 {n : Int} (h : (Lit.int .u16 n).wf = true) : 0 ≤ n ∧ n < 65536 := by
  simp [Lit.wf, IntKind.min, IntKind.max, IntKind.bits, IntKind.signed] at h
  omega
/-- The cells of a value, read. -/
theorem trod_val {fuel : Nat} {cs : List Value} {x : DataW H × List MemPlace} (h : DataW.trod enc Try.prog w base spare held fuel 34 cs = some x) :
    ∃ q : Val, cs = [.int .i64 q.k, .int .i64 q.n, .string q.s] := by
  obtain ⟨f0, f1, f2, hu, o0, o1, o2, t0, t1, t2⟩ := val_under
  obtain ⟨y0, y1, y2, m, rfl, hl, g0, g1, g2⟩ := Deep.trod_struct3 hu h
  rw [cells_v] at hl
  rw [o0, t0, cells_i] at g0
  rw [o1, t1, cells_n] at g1
  rw [o2, t2, cells_s] at g2
  match cs, hl with
  | [c0, c1, c2], _ =>
    obtain ⟨k, e0, rfl, w0⟩ := DataW.trod_int Try.underlying3 g0
    obtain ⟨n, e1, rfl, w1⟩ := DataW.trod_int Try.underlying2 g1
    obtain ⟨s, e2, rfl, w2⟩ := DataW.trod_string Try.underlying9 g2
    simp at e0 e1 e2
    subst e0 e1 e2
    exact ⟨⟨k, n, s⟩, rfl⟩
/-- A slice of values, read. -/
theorem trod_vals {fuel : Nat} {cs : List Value} {x : DataW H × List MemPlace} (h : DataW.trod enc Try.prog w base spare held fuel 24 cs = some x) :
    ∃ a len cap V, cs = [.slice a len cap] ∧ Vals w a len V ∧ len ≤ 9223372036854775807 := by
  rcases Deep.open_slice Try.underlying24 h with ⟨rfl, _⟩ | ⟨x, len, cap, m, n, D, Pl, rfl, _, hl, hcm, hmm, _, hx⟩
  · exact ⟨none, 0, 0, fun _ => val0, rfl, fun h => by omega, by omega⟩
  · have hlm : len ≤ m := by rw [hmm]; split <;> omega
    have each : ∀ i, i < m → ∃ q : Val, w.cell? (x.add (i * 3)) = some (.int .i64 q.k) ∧ w.cell? (x.add (i * 3 + 1)) = some (.int .i64 q.n) ∧ w.cell? (x.add (i * 3 + 2)) = some (.string q.s) := by
      intro i hi
      obtain ⟨cs', h1, h2⟩ := hx i hi
      rw [cells_v] at h1
      obtain ⟨_, hlen, hcell⟩ := World.cells?_some h1
      obtain ⟨q, rfl⟩ := trod_val h2
      have e0 := hcell 0 (by omega)
      have e1 := hcell 1 (by omega)
      have e2 := hcell 2 (by omega)
      rw [Deep.add_add] at e0 e1 e2
      exact ⟨q, by simpa using e0, by simpa using e1, by simpa using e2⟩
    have : Inhabited Val := ⟨val0⟩
    obtain ⟨q, hq⟩ := Deep.choose_lt each
    refine ⟨some x, len, cap, q, rfl, fun h0 => ?_, by unfold maxLen at hcm; omega⟩
    obtain ⟨b, off, spot⟩ := x
    have hspot : spot = none := by simpa [Addr.add] using World.cell?_spot (hq 0 (by omega)).1
    subst hspot
    refine ⟨b, off, rfl, fun j hj => ?_⟩
    obtain ⟨c0, c1, c2⟩ := hq j (by omega)
    rw [addr_two] at c0 c1 c2
    exact ⟨c0, by rw [Nat.add_assoc]; exact c1, by rw [Nat.add_assoc]; exact c2⟩
/-- The cells of an event, read. -/
theorem trod_evt {fuel : Nat} {cs : List Value} {x : DataW H × List MemPlace} (h : DataW.trod enc Try.prog w base spare held fuel 26 cs = some x) :
    ∃ q : Evt, cs = [.string q.ty, .int .i64 q.t, q.v] ∧ IsEvt w q := by
  obtain ⟨f0, f1, f2, hu, o0, o1, o2, t0, t1, t2⟩ := evt_under
  obtain ⟨y0, y1, y2, m, rfl, hl, g0, g1, g2⟩ := Deep.trod_struct3 hu h
  rw [cells_e] at hl
  rw [o0, t0, cells_s] at g0
  rw [o1, t1, cells_n] at g1
  rw [o2, t2, cells_vl] at g2
  match cs, hl with
  | [c0, c1, c2], _ =>
    obtain ⟨s, e0, rfl, w0⟩ := DataW.trod_string Try.underlying9 g0
    obtain ⟨n, e1, rfl, w1⟩ := DataW.trod_int Try.underlying2 g1
    obtain ⟨a, len, cap, V, e2, hf, hl⟩ := trod_vals g2
    simp at e0 e1 e2
    subst e0 e1 e2
    exact ⟨⟨s, n, a, len, cap, V⟩, rfl, hf, hl⟩
set_option maxRecDepth 100000 in
/-- An event that came in. -/
theorem open_evt {v : Value} {d : DataW H} {p : List MemPlace} {r : Reach} {b0 : Nat} (hv : Value.okWide Try.prog w r b0 26 v) (h : DataW.Trod enc Try.prog w base spare held 26 v d p) :
    ∃ q : Evt, v = evtV q.ty q.t q.v ∧ IsEvt w q := by
  obtain ⟨f0, f1, f2, hu, -⟩ := evt_under
  obtain ⟨cs, rfl, hc⟩ := okWide_struct hu hv
  obtain ⟨fuel, hf⟩ := h
  obtain ⟨q, e, hq⟩ := trod_evt hf
  simp only [Value.cells] at e
  refine ⟨q, ?_, hq⟩
  have : cs = #[.string q.ty, .int .i64 q.t, q.v] := by
    apply Array.ext'
    simpa using e
  rw [this]
def evt0 : Evt := ⟨⟨#[]⟩, 0, none, 0, 0, fun _ => val0⟩
/-- A slice of events that came in, by index. -/
theorem open_evts {a : Option Addr} {len cap : Nat} {d : DataW H} {p : List MemPlace} (h : DataW.Trod enc Try.prog w base spare held 23 (.slice a len cap) d p) : ∃ E : Nat → Evt, Evts w a len E ∧ len ≤ cap ∧ len ≤ 9223372036854775807 := by
  obtain ⟨fuel, hf⟩ := h
  rcases Deep.open_slice Try.underlying23 hf with ⟨hcs, _⟩ | ⟨x, l, c, m, n, D, Pl, hcs, _, hl, hcm, hmm, _, hx⟩
  · simp [Value.cells] at hcs
    obtain ⟨rfl, rfl, rfl⟩ := hcs
    exact ⟨fun _ => evt0, ⟨fun h => by omega, fun j hj => by omega⟩, by omega, by omega⟩
  · simp [Value.cells] at hcs
    obtain ⟨rfl, rfl, rfl⟩ := hcs
    have hlm : len ≤ m := by rw [hmm]; split <;> omega
    have each : ∀ i, i < m → ∃ q : Evt, w.cell? (x.add (i * 3)) = some (.string q.ty) ∧ w.cell? (x.add (i * 3 + 1)) = some (.int .i64 q.t) ∧ w.cell? (x.add (i * 3 + 2)) = some q.v ∧ IsEvt w q := by
      intro i hi
      obtain ⟨cs', h1, h2⟩ := hx i hi
      rw [cells_e] at h1
      obtain ⟨_, hlen, hcell⟩ := World.cells?_some h1
      obtain ⟨q, rfl, hq⟩ := trod_evt h2
      have e0 := hcell 0 (by omega)
      have e1 := hcell 1 (by omega)
      have e2 := hcell 2 (by omega)
      rw [Deep.add_add] at e0 e1 e2
      exact ⟨q, by simpa using e0, by simpa using e1, by simpa using e2, hq⟩
    have : Inhabited Evt := ⟨evt0⟩
    obtain ⟨q, hq⟩ := Deep.choose_lt each
    refine ⟨q, ⟨fun h0 => ?_, fun j hj => (hq j (by omega)).2.2.2⟩, by omega, by unfold maxLen at hcm; omega⟩
    obtain ⟨b, off, spot⟩ := x
    have hspot : spot = none := by simpa [Addr.add] using World.cell?_spot (hq 0 (by omega)).1
    subst hspot
    refine ⟨b, off, rfl, fun j hj => ?_⟩
    obtain ⟨c0, c1, c2, _⟩ := hq j (by omega)
    rw [addr_two] at c0 c1 c2
    exact ⟨c0, by rw [Nat.add_assoc]; exact c1, by rw [Nat.add_assoc]; exact c2⟩
end
end Go.Proofs.Ytelabjipclfpnaa
