/-
  Schemas that came in: one by itself, a slice of them by index.
-/
import Derived.Test.YtelabjipclfpnaaSchBook
import Derived.Deep.Strs
import Derived.OpenShut
import Derived.ProofKit
namespace Go.Proofs.Ytelabjipclfpnaa
open Go.RowKit Go.ChangeShapes Go.WideShapes

section
variable {H : Type} {enc : TypeId × Value → H} {w : World} {base : Nat} {spare : Nat → Bool} {held : Bool}
theorem fld_under : ∃ f0 f1 : Field, Try.prog.underlying 52 = some (.struct #[f0, f1]) ∧ f0.offset = 0 ∧ f1.offset = 1 ∧ f0.type = 9 ∧ f1.type = 3 := ⟨_, _, Try.underlying52, rfl, rfl, rfl, rfl⟩
theorem sch_under : ∃ f0 f1 : Field, Try.prog.underlying 50 = some (.struct #[f0, f1]) ∧ f0.offset = 0 ∧ f1.offset = 1 ∧ f0.type = 9 ∧ f1.type = 48 := ⟨_, _, Try.underlying50, rfl, rfl, rfl, rfl⟩
theorem cells_f : Try.prog.cellsOf 52 = 2 := by kernel_rfl
theorem cells_h : Try.prog.cellsOf 50 = 2 := by kernel_rfl
theorem cells_i : Try.prog.cellsOf 3 = 1 := by kernel_rfl
theorem cells_s : Try.prog.cellsOf 9 = 1 := by kernel_rfl
theorem cells_l : Try.prog.cellsOf 48 = 1 := by kernel_rfl
/-- The cells of a field, read. -/
theorem trod_fld {fuel : Nat} {cs : List Value} {x : DataW H × List MemPlace} (h : DataW.trod enc Try.prog w base spare held fuel 52 cs = some x) :
    ∃ s k, cs = [.string s, .int .i64 k] ∧ s.size ≤ maxLen := by
  obtain ⟨f0, f1, hu, o0, o1, t0, t1⟩ := fld_under
  obtain ⟨y0, y1, m, rfl, hl, g0, g1⟩ := trod_struct2 hu h
  rw [cells_f] at hl
  rw [o0, t0, cells_s] at g0
  rw [o1, t1, cells_i] at g1
  match cs, hl with
  | [c0, c1], _ =>
    obtain ⟨s, e0, rfl, w0⟩ := DataW.trod_string Try.underlying9 g0
    obtain ⟨k, e1, rfl, _⟩ := DataW.trod_int Try.underlying3 g1
    simp at e0 e1
    subst e0 e1
    exact ⟨s, k, rfl, w0⟩
theorem addr_two (b off i : Nat) : (⟨b, off, none⟩ : Addr).add i = ⟨b, off + i, none⟩ := by unfold Addr.add; split <;> simp_all
/-- A slice of fields, read. -/
theorem trod_flds {fuel : Nat} {cs : List Value} {x : DataW H × List MemPlace} (h : DataW.trod enc Try.prog w base spare held fuel 48 cs = some x) :
    ∃ a len cap Nm K, cs = [.slice a len cap] ∧ Flds w a len Nm K ∧ len ≤ 9223372036854775807 := by
  rcases Deep.open_slice Try.underlying48 h with ⟨rfl, _⟩ | ⟨x, len, cap, m, n, D, Pl, rfl, _, hl, hcm, hmm, _, hx⟩
  · exact ⟨none, 0, 0, fun _ => ⟨#[]⟩, fun _ => 0, rfl, fun h => by omega, by omega⟩
  · have hlm : len ≤ m := by rw [hmm]; split <;> omega
    have each : ∀ i, i < m → ∃ q : ByteArray × Int, w.cell? (x.add (i * 2)) = some (.string q.1) ∧ w.cell? (x.add (i * 2 + 1)) = some (.int .i64 q.2) ∧ q.1.size ≤ maxLen := by
      intro i hi
      obtain ⟨cs', h1, h2⟩ := hx i hi
      rw [cells_f] at h1
      obtain ⟨_, hlen, hcell⟩ := World.cells?_some h1
      obtain ⟨s, k, rfl, w0⟩ := trod_fld h2
      have e0 := hcell 0 (by omega)
      have e1 := hcell 1 (by omega)
      rw [Deep.add_add] at e0 e1
      exact ⟨(s, k), by simpa using e0, by simpa using e1, w0⟩
    obtain ⟨q, hq⟩ := Deep.choose_lt each
    refine ⟨some x, len, cap, fun i => (q i).1, fun i => (q i).2, rfl, fun h0 => ?_, by unfold maxLen at hcm; omega⟩
    obtain ⟨b, off, spot⟩ := x
    have hspot : spot = none := by simpa [Addr.add] using World.cell?_spot (hq 0 (by omega)).1
    subst hspot
    refine ⟨b, off, rfl, fun j hj => ?_⟩
    obtain ⟨c0, c1, c2⟩ := hq j (by omega)
    rw [addr_two] at c0 c1
    exact ⟨⟨c0, by rw [Nat.add_assoc]; exact c1⟩, c2⟩
/-- A schema whose fields lie in memory. -/
def IsSch (w : World) (x : Sch) : Prop := Flds w x.a x.l x.fn x.fk ∧ x.l ≤ 9223372036854775807 ∧ x.nm.size ≤ maxLen
theorem IsSch.later {w w' : World} {x : Sch} (h : IsSch w x) (hB : Below w.heap.size w w') : IsSch w' x := ⟨h.1.later hB, h.2⟩
/-- The cells of a schema, read. -/
theorem trod_sch {fuel : Nat} {cs : List Value} {x : DataW H × List MemPlace} (h : DataW.trod enc Try.prog w base spare held fuel 50 cs = some x) :
    ∃ q : Sch, cs = [.string q.nm, q.v] ∧ IsSch w q := by
  obtain ⟨f0, f1, hu, o0, o1, t0, t1⟩ := sch_under
  obtain ⟨y0, y1, m, rfl, hl, g0, g1⟩ := trod_struct2 hu h
  rw [cells_h] at hl
  rw [o0, t0, cells_s] at g0
  rw [o1, t1, cells_l] at g1
  match cs, hl with
  | [c0, c1], _ =>
    obtain ⟨s, e0, rfl, w0⟩ := DataW.trod_string Try.underlying9 g0
    obtain ⟨a, len, cap, Nm, K, e1, hf, hl⟩ := trod_flds g1
    simp at e0 e1
    subst e0 e1
    exact ⟨⟨s, a, len, cap, Nm, K⟩, rfl, hf, hl, w0⟩
set_option maxRecDepth 100000 in
/-- A schema that came in. -/
theorem open_sch {v : Value} {d : DataW H} {p : List MemPlace} {r : Reach} {b0 : Nat} (hv : Value.okWide Try.prog w r b0 50 v) (h : DataW.Trod enc Try.prog w base spare held 50 v d p) :
    ∃ q : Sch, v = schV q.nm q.v ∧ IsSch w q := by
  obtain ⟨f0, f1, hu, -⟩ := sch_under
  obtain ⟨cs, rfl, hc⟩ := okWide_struct hu hv
  obtain ⟨fuel, hf⟩ := h
  obtain ⟨q, e, hq⟩ := trod_sch hf
  simp only [Value.cells] at e
  refine ⟨q, ?_, hq⟩
  have : cs = #[.string q.nm, q.v] := by
    apply Array.ext'
    simpa using e
  rw [this]
def sch0 : Sch := ⟨⟨#[]⟩, none, 0, 0, fun _ => ⟨#[]⟩, fun _ => 0⟩
/-- A slice of schemas that came in, by index. -/
theorem open_schs {a : Option Addr} {len cap : Nat} {d : DataW H} {p : List MemPlace} (h : DataW.Trod enc Try.prog w base spare held 22 (.slice a len cap) d p) : ∃ Q : Nat → Sch, Schs w a len Q ∧ len ≤ 9223372036854775807 := by
  obtain ⟨fuel, hf⟩ := h
  rcases Deep.open_slice Try.underlying22 hf with ⟨hcs, _⟩ | ⟨x, l, c, m, n, D, Pl, hcs, _, hl, hcm, hmm, _, hx⟩
  · simp [Value.cells] at hcs
    obtain ⟨rfl, rfl, rfl⟩ := hcs
    exact ⟨fun _ => sch0, ⟨fun h => by omega, fun j hj => by omega⟩, by omega⟩
  · simp [Value.cells] at hcs
    obtain ⟨rfl, rfl, rfl⟩ := hcs
    have hlm : len ≤ m := by rw [hmm]; split <;> omega
    have each : ∀ i, i < m → ∃ q : Sch, w.cell? (x.add (i * 2)) = some (.string q.nm) ∧ w.cell? (x.add (i * 2 + 1)) = some q.v ∧ IsSch w q := by
      intro i hi
      obtain ⟨cs', h1, h2⟩ := hx i hi
      rw [cells_h] at h1
      obtain ⟨_, hlen, hcell⟩ := World.cells?_some h1
      obtain ⟨q, rfl, hq⟩ := trod_sch h2
      have e0 := hcell 0 (by omega)
      have e1 := hcell 1 (by omega)
      rw [Deep.add_add] at e0 e1
      exact ⟨q, by simpa using e0, by simpa using e1, hq⟩
    have : Inhabited Sch := ⟨sch0⟩
    obtain ⟨q, hq⟩ := Deep.choose_lt each
    refine ⟨q, ⟨fun h0 => ?_, fun j hj => ⟨(hq j (by omega)).2.2.1, (hq j (by omega)).2.2.2.1⟩⟩, by unfold maxLen at hcm; omega⟩
    obtain ⟨b, off, spot⟩ := x
    have hspot : spot = none := by simpa [Addr.add] using World.cell?_spot (hq 0 (by omega)).1
    subst hspot
    refine ⟨b, off, rfl, fun j hj => ?_⟩
    obtain ⟨c0, c1, c2⟩ := hq j (by omega)
    rw [addr_two] at c0 c1
    exact ⟨⟨c0, by rw [Nat.add_assoc]; exact c1⟩, c2.2.2⟩
theorem bytes_u8 : Try.prog.bytesOf 5 = 1 := by kernel_rfl
end
end Go.Proofs.Ytelabjipclfpnaa
