/-
  Schemas that came in: one by itself, a slice of them by index.
  Conditions that came in.
  Texts, lists of texts and lists of conditions that came in.
-/
import Derived.Test.YtahlmlbfgijcpaaGreatDoorCSchBook
import Derived.Test.YtahlmlbfgijcpaaGreatDoorCValOrder
import Derived.Test.YtahlmlbfgijcpaaGreatDoorCExprBase
import Derived.Deep.Strs
import Derived.OpenShut
import Derived.ProofKit
namespace Go.Proofs.YtahlmlbfgijcpaaGreatDoor
open Go.RowKit Go.ChangeShapes Go.WideShapes

section
variable {H : Type} {enc : TypeId × Value → H} {w : World} {base : Nat} {spare : Nat → Bool} {held : Bool}
theorem fld_under : ∃ f0 f1 : Field, Tryz.prog.underlying 74 = some (.struct #[f0, f1]) ∧ f0.offset = 0 ∧ f1.offset = 1 ∧ f0.type = 9 ∧ f1.type = 3 := ⟨_, _, Tryz.underlying74, rfl, rfl, rfl, rfl⟩
theorem sch_under : ∃ f0 f1 : Field, Tryz.prog.underlying 58 = some (.struct #[f0, f1]) ∧ f0.offset = 0 ∧ f1.offset = 1 ∧ f0.type = 9 ∧ f1.type = 56 := ⟨_, _, Tryz.underlying58, rfl, rfl, rfl, rfl⟩
theorem cells_f : Tryz.prog.cellsOf 74 = 2 := by kernel_rfl
theorem cells_h : Tryz.prog.cellsOf 58 = 2 := by kernel_rfl
theorem cells_l : Tryz.prog.cellsOf 56 = 1 := by kernel_rfl
/-- The cells of a field, read. -/
theorem trod_fld {fuel : Nat} {cs : List Value} {x : DataW H × List MemPlace} (h : DataW.trod enc Tryz.prog w base spare held fuel 74 cs = some x) :
    ∃ s k, cs = [.string s, .int .i64 k] ∧ s.size ≤ maxLen := by
  obtain ⟨f0, f1, hu, o0, o1, t0, t1⟩ := fld_under
  obtain ⟨y0, y1, m, rfl, hl, g0, g1⟩ := trod_struct2 hu h
  rw [cells_f] at hl
  rw [o0, t0, cells_s] at g0
  rw [o1, t1, cells_i] at g1
  match cs, hl with
  | [c0, c1], _ =>
    obtain ⟨s, e0, rfl, w0⟩ := DataW.trod_string Tryz.underlying9 g0
    obtain ⟨k, e1, rfl, _⟩ := DataW.trod_int Tryz.underlying3 g1
    simp at e0 e1
    subst e0 e1
    exact ⟨s, k, rfl, w0⟩
theorem addr_two (b off i : Nat) : (⟨b, off, none⟩ : Addr).add i = ⟨b, off + i, none⟩ := by unfold Addr.add; split <;> simp_all
/-- A slice of fields, read. -/
theorem trod_flds {fuel : Nat} {cs : List Value} {x : DataW H × List MemPlace} (h : DataW.trod enc Tryz.prog w base spare held fuel 56 cs = some x) :
    ∃ a len cap Nm K, cs = [.slice a len cap] ∧ Flds w a len Nm K ∧ len ≤ 9223372036854775807 := by
  rcases Deep.open_slice Tryz.underlying56 h with ⟨rfl, _⟩ | ⟨x, len, cap, m, n, D, Pl, rfl, _, hl, hcm, hmm, _, hx⟩
  · exact ⟨none, 0, 0, fun _ => ⟨#[]⟩, fun _ => 0, rfl, fun h => by omega, by omega⟩
  · have hlm : len ≤ m := by rw [hmm]; split <;> omega
    have each : ∀ i, i < m → ∃ q : ByteArray × Int, w.cell? (x.add (i * 2)) = some (.string q.1) ∧ w.cell? (x.add (i * 2 + 1)) = some (.int .i64 q.2) ∧ q.1.size ≤ maxLen := by
      intro i hi
      obtain ⟨cs', h1, h2⟩ := hx i hi
      rw [cells_f] at h1
      obtain ⟨_, hlen, hcell⟩ := World.cells?_some h1
      obtain ⟨s, k, rfl, w0⟩ := trod_fld h2
      have e0 := hcell 0 (by omega)
      have e1 := hcell 1 (by omega)
      rw [Deep.add_add] at e0 e1
      exact ⟨(s, k), by simpa using e0, by simpa using e1, w0⟩
    obtain ⟨q, hq⟩ := Deep.choose_lt each
    refine ⟨some x, len, cap, fun i => (q i).1, fun i => (q i).2, rfl, fun h0 => ?_, by unfold maxLen at hcm; omega⟩
    obtain ⟨b, off, spot⟩ := x
    have hspot : spot = none := by simpa [Addr.add] using World.cell?_spot (hq 0 (by omega)).1
    subst hspot
    refine ⟨b, off, rfl, fun j hj => ?_⟩
    obtain ⟨c0, c1, c2⟩ := hq j (by omega)
    rw [addr_two] at c0 c1
    exact ⟨⟨c0, by rw [Nat.add_assoc]; exact c1⟩, c2⟩
/-- A schema whose fields lie in memory. -/
def IsSch (w : World) (x : Sch) : Prop := Flds w x.a x.l x.fn x.fk ∧ x.l ≤ 9223372036854775807 ∧ x.nm.size ≤ maxLen
theorem IsSch.later {w w' : World} {x : Sch} (h : IsSch w x) (hB : Below w.heap.size w w') : IsSch w' x := ⟨h.1.later hB, h.2⟩
/-- The cells of a schema, read. -/
theorem trod_sch {fuel : Nat} {cs : List Value} {x : DataW H × List MemPlace} (h : DataW.trod enc Tryz.prog w base spare held fuel 58 cs = some x) :
    ∃ q : Sch, cs = [.string q.nm, q.v] ∧ IsSch w q := by
  obtain ⟨f0, f1, hu, o0, o1, t0, t1⟩ := sch_under
  obtain ⟨y0, y1, m, rfl, hl, g0, g1⟩ := trod_struct2 hu h
  rw [cells_h] at hl
  rw [o0, t0, cells_s] at g0
  rw [o1, t1, cells_l] at g1
  match cs, hl with
  | [c0, c1], _ =>
    obtain ⟨s, e0, rfl, w0⟩ := DataW.trod_string Tryz.underlying9 g0
    obtain ⟨a, len, cap, Nm, K, e1, hf, hl⟩ := trod_flds g1
    simp at e0 e1
    subst e0 e1
    exact ⟨⟨s, a, len, cap, Nm, K⟩, rfl, hf, hl, w0⟩
set_option maxRecDepth 100000 in
/-- A schema that came in. -/
theorem open_sch {v : Value} {d : DataW H} {p : List MemPlace} {r : Reach} {b0 : Nat} (hv : Value.okWide Tryz.prog w r b0 58 v) (h : DataW.Trod enc Tryz.prog w base spare held 58 v d p) :
    ∃ q : Sch, v = schV q.nm q.v ∧ IsSch w q := by
  obtain ⟨f0, f1, hu, -⟩ := sch_under
  obtain ⟨cs, rfl, hc⟩ := okWide_struct hu hv
  obtain ⟨fuel, hf⟩ := h
  obtain ⟨q, e, hq⟩ := trod_sch hf
  simp only [Value.cells] at e
  refine ⟨q, ?_, hq⟩
  have : cs = #[.string q.nm, q.v] := by
    apply Array.ext'
    simpa using e
  rw [this]
def sch0 : Sch := ⟨⟨#[]⟩, none, 0, 0, fun _ => ⟨#[]⟩, fun _ => 0⟩
/-- A slice of schemas that came in, by index. -/
theorem open_schs {a : Option Addr} {len cap : Nat} {d : DataW H} {p : List MemPlace} (h : DataW.Trod enc Tryz.prog w base spare held 22 (.slice a len cap) d p) : ∃ Q : Nat → Sch, Schs w a len Q ∧ len ≤ 9223372036854775807 := by
  obtain ⟨fuel, hf⟩ := h
  rcases Deep.open_slice Tryz.underlying22 hf with ⟨hcs, _⟩ | ⟨x, l, c, m, n, D, Pl, hcs, _, hl, hcm, hmm, _, hx⟩
  · simp [Value.cells] at hcs
    obtain ⟨rfl, rfl, rfl⟩ := hcs
    exact ⟨fun _ => sch0, ⟨fun h => by omega, fun j hj => by omega⟩, by omega⟩
  · simp [Value.cells] at hcs
    obtain ⟨rfl, rfl, rfl⟩ := hcs
    have hlm : len ≤ m := by rw [hmm]; split <;> omega
    have each : ∀ i, i < m → ∃ q : Sch, w.cell? (x.add (i * 2)) = some (.string q.nm) ∧ w.cell? (x.add (i * 2 + 1)) = some q.v ∧ IsSch w q := by
      intro i hi
      obtain ⟨cs', h1, h2⟩ := hx i hi
      rw [cells_h] at h1
      obtain ⟨_, hlen, hcell⟩ := World.cells?_some h1
      obtain ⟨q, rfl, hq⟩ := trod_sch h2
      have e0 := hcell 0 (by omega)
      have e1 := hcell 1 (by omega)
      rw [Deep.add_add] at e0 e1
      exact ⟨q, by simpa using e0, by simpa using e1, hq⟩
    have : Inhabited Sch := ⟨sch0⟩
    obtain ⟨q, hq⟩ := Deep.choose_lt each
    refine ⟨q, ⟨fun h0 => ?_, fun j hj => ⟨(hq j (by omega)).2.2.1, (hq j (by omega)).2.2.2.1⟩⟩, by unfold maxLen at hcm; omega⟩
    obtain ⟨b, off, spot⟩ := x
    have hspot : spot = none := by simpa [Addr.add] using World.cell?_spot (hq 0 (by omega)).1
    subst hspot
    refine ⟨b, off, rfl, fun j hj => ?_⟩
    obtain ⟨c0, c1, c2⟩ := hq j (by omega)
    rw [addr_two] at c0 c1
    exact ⟨⟨c0, by rw [Nat.add_assoc]; exact c1⟩, c2.2.2⟩
theorem bytes_u8 : Tryz.prog.bytesOf 5 = 1 := by kernel_rfl
end
end Go.Proofs.YtahlmlbfgijcpaaGreatDoor
namespace Go.Proofs.YtahlmlbfgijcpaaGreatDoor
open Go.RowKit Go.ChangeShapes Go.WideShapes

section
variable {H : Type} {enc : TypeId × Value → H} {w : World} {base : Nat} {spare : Nat → Bool} {held : Bool}
theorem expr_under : ∃ f0 f1 f2 f3 f4 : Field, Tryz.prog.underlying 28 = some (.struct #[f0, f1, f2, f3, f4]) ∧ f0.offset = 0 ∧ f1.offset = 1 ∧ f2.offset = 4 ∧ f3.offset = 5 ∧ f4.offset = 6 ∧ f0.type = 3 ∧ f1.type = 25 ∧ f2.type = 9 ∧ f3.type = 9 ∧ f4.type = 26 := ⟨_, _, _, _, _, Tryz.underlying28, rfl, rfl, rfl, rfl, rfl, rfl, rfl, rfl, rfl, rfl⟩
theorem cells_x : Tryz.prog.cellsOf 28 = 7 := by kernel_rfl
theorem cells_xl : Tryz.prog.cellsOf 26 = 1 := by kernel_rfl
theorem bulk_app (l r : List (DataW H)) : Rows.uptoBulkAll (l ++ r) = Rows.uptoBulkAll l + Rows.uptoBulkAll r := by
  induction l with
  | nil => simp [Rows.uptoBulkAll]
  | cons x l ih => simp only [List.cons_append, Rows.uptoBulkAll, ih]; omega
theorem bulk_range (D : Nat → DataW H) : ∀ n, Rows.uptoBulkAll ((List.range n).map D) = sumN (fun i => Rows.uptoBulk (D i)) n
  | 0 => rfl
  | n + 1 => by
    rw [List.range_succ, List.map_append, bulk_app, bulk_range D n]
    simp [sumN, Rows.uptoBulkAll]
theorem sumN_mono {f g : Nat → Nat} : ∀ {n : Nat}, (∀ i, i < n → f i ≤ g i) → sumN f n ≤ sumN g n
  | 0, _ => Nat.le_refl _
  | n + 1, h => by
    have h1 := sumN_mono (n := n) fun i hi => h i (by omega)
    have h2 := h n (by omega)
    simp only [sumN]
    omega
theorem add_none (b o j : Nat) : (Addr.mk b o none).add j = ⟨b, o + j, none⟩ := by
  unfold Addr.add
  split
  · simp
  · rfl
set_option maxRecDepth 100000 in
/-- A condition's cells, read: as a tree, of no more nodes than the reading's bulk. -/
theorem trod_x : ∀ (m fuel : Nat) (cs : List Value) (x : DataW H × List MemPlace), DataW.trod enc Tryz.prog w base spare held fuel 28 cs = some x → Rows.uptoBulk x.1 ≤ m →
    ∃ q : X, cs = [.int .i64 q.k, .int .i64 q.v.k, .int .i64 q.v.n, .string q.v.s, .string q.s, .string q.f, .slice q.a q.n q.cap] ∧ IsX w q ∧ q.size ≤ Rows.uptoBulk x.1 ∧ XOk q := by
  intro m
  induction m with
  | zero =>
    intro fuel cs x h hm
    obtain ⟨f0, f1, f2, f3, f4, hu, -⟩ := expr_under
    obtain ⟨xs, n, rfl, rfl, -⟩ := DataW.trod_struct hu h
    simp [Rows.uptoBulk] at hm
  | succ m ih =>
    intro fuel cs x h hm
    obtain ⟨f0, f1, f2, f3, f4, hu, o0, o1, o2, o3, o4, t0, t1, t2, t3, t4⟩ := expr_under
    obtain ⟨xs, n, rfl, rfl, hl, hlen, hf⟩ := DataW.trod_struct hu h
    rw [cells_x] at hl
    match xs, hlen, cs, hl with
    | [y0, y1, y2, y3, y4], _, [c0, c1, c2, c3, c4, c5, c6], _ =>
      have hb : Rows.uptoBulk y4.1 + 1 ≤ Rows.uptoBulk (DataW.agg (H := H) ([y0, y1, y2, y3, y4].map (·.1))) := by
        simp only [List.map_cons, List.map_nil, Rows.uptoBulk, Rows.uptoBulkAll]
        omega
      dsimp only at hm ⊢
      clear h
      generalize Rows.uptoBulk (DataW.agg (H := H) ([y0, y1, y2, y3, y4].map (·.1))) = M at hb hm ⊢
      have g0 := hf 0 f0 rfl
      have g1 := hf 1 f1 rfl
      have g2 := hf 2 f2 rfl
      have g3 := hf 3 f3 rfl
      have g4 := hf 4 f4 rfl
      rw [o0, t0, cells_i] at g0
      rw [o1, t1, cells_v] at g1
      rw [o2, t2, cells_s] at g2
      rw [o3, t3, cells_s] at g3
      rw [o4, t4, cells_xl] at g4
      simp at g0 g1 g2 g3 g4
      obtain ⟨k, e0, rfl, w0⟩ := DataW.trod_int Tryz.underlying3 g0
      obtain ⟨v, e1⟩ := trod_val g1
      obtain ⟨s, e2, rfl, w2⟩ := DataW.trod_string Tryz.underlying9 g2
      obtain ⟨f, e3, rfl, w3⟩ := DataW.trod_string Tryz.underlying9 g3
      simp at e0 e1 e2 e3
      obtain ⟨e1, e1', e1''⟩ := e1
      subst e0 e1 e1' e1'' e2 e3
      rcases Deep.open_slice Tryz.underlying26 g4 with ⟨e4, _⟩ | ⟨a, len, cap, mm, nn, D, Pl, e4, _, hl4, hcm, hmm, rfl, hx⟩
      · simp at e4
        subst e4
        exact ⟨.mk k v s f none 0 0 (fun _ => .nil), rfl, ⟨by omega, by omega, fun i hi => by omega⟩, by simp only [X.size, sumN]; omega, w2, w3, fun i hi => by omega⟩
      · simp at e4
        subst e4
        have hlm : len ≤ mm := by rw [hmm]; split <;> omega
        have hB : sumN (fun i => Rows.uptoBulk (D i)) len + 1 ≤ Rows.uptoBulk (DataW.slice (H := H) ((List.range len).map D) ((List.range (mm - len)).map fun j => D (len + j))) := by
          simp only [Rows.uptoBulk, bulk_range]
          omega
        simp only at hb
        have each : ∀ i, i < len → ∃ q : X, w.cell? (a.add (i * 7)) = some (.int .i64 q.k) ∧ w.cell? (a.add (i * 7 + 1)) = some (.int .i64 q.v.k) ∧ w.cell? (a.add (i * 7 + 2)) = some (.int .i64 q.v.n) ∧ w.cell? (a.add (i * 7 + 3)) = some (.string q.v.s) ∧
            w.cell? (a.add (i * 7 + 4)) = some (.string q.s) ∧ w.cell? (a.add (i * 7 + 5)) = some (.string q.f) ∧ w.cell? (a.add (i * 7 + 6)) = some (.slice q.a q.n q.cap) ∧ IsX w q ∧ q.size ≤ Rows.uptoBulk (D i) ∧ XOk q := by
          intro i hi
          obtain ⟨cs', h1, h2⟩ := hx i (by omega)
          rw [cells_x] at h1
          obtain ⟨_, hlen, hcell⟩ := World.cells?_some h1
          have hle := sumN_le (f := fun i => Rows.uptoBulk (D i)) hi
          obtain ⟨q, rfl, hq, hqs, hqo⟩ := ih _ _ _ h2 (by simp only; omega)
          have d0 := hcell 0 (by omega)
          have d1 := hcell 1 (by omega)
          have d2 := hcell 2 (by omega)
          have d3 := hcell 3 (by omega)
          have d4 := hcell 4 (by omega)
          have d5 := hcell 5 (by omega)
          have d6 := hcell 6 (by omega)
          rw [Deep.add_add] at d0 d1 d2 d3 d4 d5 d6
          exact ⟨q, by simpa using d0, by simpa using d1, by simpa using d2, by simpa using d3, by simpa using d4, by simpa using d5, by simpa using d6, hq, hqs, hqo⟩
        have : Inhabited X := ⟨.nil⟩
        obtain ⟨q, hq⟩ := Deep.choose_lt each
        refine ⟨.mk k v s f (some a) len cap q, rfl, ⟨hl4, by unfold maxLen at hcm; omega, fun i hi => ?_⟩, ?_, w2, w3, fun i hi => (hq i hi).2.2.2.2.2.2.2.2.2⟩
        · obtain ⟨b, off, spot⟩ := a
          obtain ⟨d0, d1, d2, d3, d4, d5, d6, hi1, hi2, -⟩ := hq i hi
          have hspot : spot = none := by simpa [Addr.add] using World.cell?_spot (hq 0 (by omega)).1
          subst hspot
          rw [add_none] at d0 d1 d2 d3 d4 d5 d6
          refine ⟨b, off, rfl, ⟨?_, ?_, ?_, ?_, ?_, ?_, ?_⟩, hi1⟩
          · exact d0
          · rw [Nat.add_assoc]; exact d1
          · rw [Nat.add_assoc]; exact d2
          · rw [Nat.add_assoc]; exact d3
          · rw [Nat.add_assoc]; exact d4
          · rw [Nat.add_assoc]; exact d5
          · rw [Nat.add_assoc]; exact d6
        · have h1 := sumN_mono (f := fun i => (q i).size) (g := fun i => Rows.uptoBulk (D i)) (n := len) fun i hi => (hq i hi).2.2.2.2.2.2.2.2.1
          show 1 + sumN (fun i => (q i).size) len ≤ _
          omega
set_option maxRecDepth 100000 in
/-- A condition that came in. -/
theorem open_x {v : Value} {d : DataW H} {p : List MemPlace} {r : Reach} {b0 : Nat} (hv : Value.okWide Tryz.prog w r b0 28 v) (h : DataW.Trod enc Tryz.prog w base spare held 28 v d p) :
    ∃ q : X, v = q.val ∧ IsX w q ∧ q.size ≤ Rows.uptoBulk d ∧ XOk q := by
  obtain ⟨f0, f1, f2, f3, f4, hu, -⟩ := expr_under
  obtain ⟨cs, rfl, hc⟩ := okWide_struct hu hv
  obtain ⟨fuel, hf⟩ := h
  obtain ⟨q, e, hq, hs, ho⟩ := trod_x _ _ _ _ hf (Nat.le_refl _)
  simp only [Value.cells] at e
  refine ⟨q, ?_, hq, hs, ho⟩
  have : cs = #[.int .i64 q.k, .int .i64 q.v.k, .int .i64 q.v.n, .string q.v.s, .string q.s, .string q.f, .slice q.a q.n q.cap] := by
    apply Array.ext'
    simpa using e
  rw [this]
end
end Go.Proofs.YtahlmlbfgijcpaaGreatDoor
namespace Go.Proofs.YtahlmlbfgijcpaaGreatDoor
open Go.RowKit Go.ChangeShapes Go.WideShapes

section
variable {H : Type} {enc : TypeId × Value → H} {w : World} {base : Nat} {spare : Nat → Bool} {held : Bool}
set_option maxRecDepth 100000 in
/-- A text that came in. -/
theorem open_str {v : Value} {d : DataW H} {p : List MemPlace} {r : Reach} {b0 : Nat} (hv : Value.okWide Tryz.prog w r b0 9 v) (h : DataW.Trod enc Tryz.prog w base spare held 9 v d p) :
    ∃ s : ByteArray, v = .string s ∧ s.size ≤ maxLen := by
  obtain ⟨s, rfl⟩ := okWide_string Tryz.underlying9 hv
  obtain ⟨fuel, hf⟩ := h
  obtain ⟨s', e, _, hw⟩ := DataW.trod_string Tryz.underlying9 hf
  have e' : [Value.string s] = [Value.string s'] := e
  injection e' with e' _
  injection e' with e'
  exact ⟨s, rfl, e' ▸ hw⟩
set_option maxRecDepth 100000 in
/-- Texts that came in. -/
theorem open_strs {a : Option Addr} {len cap : Nat} {d : DataW H} {p : List MemPlace} (h : DataW.Trod enc Tryz.prog w base spare held 23 (.slice a len cap) d p) :
    ∃ S : Nat → ByteArray, Txs w a len S ∧ len ≤ cap ∧ cap ≤ 9223372036854775807 ∧ (∀ j, j < len → (S j).size ≤ maxLen) ∧ len ≤ Rows.uptoBulk d := by
  obtain ⟨fuel, hf⟩ := h
  rcases Deep.open_slice Tryz.underlying23 hf with ⟨e4, _⟩ | ⟨a', len', cap', mm, nn, D, Pl, e4, _, hl4, hcm, hmm, hdp, hx⟩
  · have e' : [Value.slice a len cap] = [.slice none 0 0] := e4
    injection e' with e' _
    injection e' with e1 e2 e3
    subst e1 e2 e3
    exact ⟨fun _ => ⟨#[]⟩, fun h => by omega, by omega, by omega, fun j hj => by omega, Nat.zero_le _⟩
  · cases hdp
    have e' : [Value.slice a len cap] = [.slice (some a') len' cap'] := e4
    injection e' with e' _
    injection e' with e1 e2 e3
    subst e1 e2 e3
    have hlm : len ≤ mm := by rw [hmm]; split <;> omega
    have each : ∀ i, i < len → ∃ s : ByteArray, w.cell? (a'.add i) = some (.string s) ∧ s.size ≤ maxLen := by
      intro i hi
      obtain ⟨cs', h1, h2⟩ := hx i (by omega)
      rw [cells_s] at h1
      obtain ⟨_, hlen, hcell⟩ := World.cells?_some h1
      obtain ⟨s, e, _, hw⟩ := DataW.trod_string Tryz.underlying9 h2
      subst e
      have d0 := hcell 0 (by omega)
      rw [Deep.add_add] at d0
      exact ⟨s, by simpa using d0, hw⟩
    have : Inhabited ByteArray := ⟨⟨#[]⟩⟩
    obtain ⟨S, hS⟩ := Deep.choose_lt each
    refine ⟨S, fun h0 => ?_, hl4, by unfold maxLen at hcm; omega, fun j hj => (hS j hj).2, ?_⟩
    · obtain ⟨b, off, spot⟩ := a'
      have hspot : spot = none := by simpa [Addr.add] using World.cell?_spot (hS 0 h0).1
      subst hspot
      exact ⟨b, off, rfl, fun j hj => by have := (hS j hj).1; rw [add_none] at this; exact this⟩
    · have hone : ∀ x : DataW H, 1 ≤ Rows.uptoBulk x := fun x => by rw [Rows.uptoBulk.eq_def]; split <;> omega
      have hsum : ∀ m, m ≤ sumN (fun i => Rows.uptoBulk (D i)) m := by
        intro m
        induction m with
        | zero => exact Nat.le_refl _
        | succ m ih => have := hone (D m); simp only [sumN]; omega
      have := hsum len
      simp only [Rows.uptoBulk, bulk_range]
      omega
/-- Conditions that came in: as the parts of one. -/
abbrev X.all (a : Option Addr) (n cap : Nat) (c : Nat → X) : X := .mk 0 val0 ⟨#[]⟩ ⟨#[]⟩ a n cap c
set_option maxRecDepth 100000 in
theorem open_xs {a : Option Addr} {len cap : Nat} {d : DataW H} {p : List MemPlace} (h : DataW.Trod enc Tryz.prog w base spare held 26 (.slice a len cap) d p) :
    ∃ c : Nat → X, IsX w (X.all a len cap c) ∧ (X.all a len cap c).size ≤ Rows.uptoBulk d + 1 ∧ XOk (X.all a len cap c) := by
  obtain ⟨fuel, hf⟩ := h
  rcases Deep.open_slice Tryz.underlying26 hf with ⟨e4, _⟩ | ⟨a', len', cap', mm, nn, D, Pl, e4, _, hl4, hcm, hmm, hdp, hx⟩
  · have e' : [Value.slice a len cap] = [.slice none 0 0] := e4
    injection e' with e' _
    injection e' with e1 e2 e3
    subst e1 e2 e3
    exact ⟨fun _ => .nil, ⟨by omega, by omega, fun i hi => by omega⟩, by simp [X.size, sumN], Nat.zero_le _, Nat.zero_le _, fun i hi => by omega⟩
  · cases hdp
    have e' : [Value.slice a len cap] = [.slice (some a') len' cap'] := e4
    injection e' with e' _
    injection e' with e1 e2 e3
    subst e1 e2 e3
    have hlm : len ≤ mm := by rw [hmm]; split <;> omega
    have each : ∀ i, i < len → ∃ q : X, w.cell? (a'.add (i * 7)) = some (.int .i64 q.k) ∧ w.cell? (a'.add (i * 7 + 1)) = some (.int .i64 q.v.k) ∧ w.cell? (a'.add (i * 7 + 2)) = some (.int .i64 q.v.n) ∧ w.cell? (a'.add (i * 7 + 3)) = some (.string q.v.s) ∧
        w.cell? (a'.add (i * 7 + 4)) = some (.string q.s) ∧ w.cell? (a'.add (i * 7 + 5)) = some (.string q.f) ∧ w.cell? (a'.add (i * 7 + 6)) = some (.slice q.a q.n q.cap) ∧ IsX w q ∧ q.size ≤ Rows.uptoBulk (D i) ∧ XOk q := by
      intro i hi
      obtain ⟨cs', h1, h2⟩ := hx i (by omega)
      rw [cells_x] at h1
      obtain ⟨_, hlen, hcell⟩ := World.cells?_some h1
      obtain ⟨q, rfl, hq, hqs, hqo⟩ := trod_x _ _ _ _ h2 (Nat.le_refl _)
      have d0 := hcell 0 (by omega)
      have d1 := hcell 1 (by omega)
      have d2 := hcell 2 (by omega)
      have d3 := hcell 3 (by omega)
      have d4 := hcell 4 (by omega)
      have d5 := hcell 5 (by omega)
      have d6 := hcell 6 (by omega)
      rw [Deep.add_add] at d0 d1 d2 d3 d4 d5 d6
      exact ⟨q, by simpa using d0, by simpa using d1, by simpa using d2, by simpa using d3, by simpa using d4, by simpa using d5, by simpa using d6, hq, hqs, hqo⟩
    have : Inhabited X := ⟨.nil⟩
    obtain ⟨q, hq⟩ := Deep.choose_lt each
    refine ⟨q, ⟨hl4, by unfold maxLen at hcm; omega, fun i hi => ?_⟩, ?_, Nat.zero_le _, Nat.zero_le _, fun i hi => (hq i hi).2.2.2.2.2.2.2.2.2⟩
    · obtain ⟨b, off, spot⟩ := a'
      obtain ⟨d0, d1, d2, d3, d4, d5, d6, hi1, hi2, -⟩ := hq i hi
      have hspot : spot = none := by simpa [Addr.add] using World.cell?_spot (hq 0 (by omega)).1
      subst hspot
      rw [add_none] at d0 d1 d2 d3 d4 d5 d6
      refine ⟨b, off, rfl, ⟨?_, ?_, ?_, ?_, ?_, ?_, ?_⟩, hi1⟩
      · exact d0
      · rw [Nat.add_assoc]; exact d1
      · rw [Nat.add_assoc]; exact d2
      · rw [Nat.add_assoc]; exact d3
      · rw [Nat.add_assoc]; exact d4
      · rw [Nat.add_assoc]; exact d5
      · rw [Nat.add_assoc]; exact d6
    · have h1 := sumN_mono (f := fun i => (q i).size) (g := fun i => Rows.uptoBulk (D i)) (n := len) fun i hi => (hq i hi).2.2.2.2.2.2.2.2.1
      show 1 + sumN (fun i => (q i).size) len ≤ _
      simp only [Rows.uptoBulk, bulk_range]
      omega
end
end Go.Proofs.YtahlmlbfgijcpaaGreatDoor
