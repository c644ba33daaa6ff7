/-
  Queries as they lie in memory; items in rows of four cells; of no function.
  Queries in a box; of no function.
-/
import Derived.Test.YtcdehohmgfocdaaSExprBase
import Derived.Test.YtcdehohmgfocdaaSPatMath
import Derived.Test.YtcdehohmgfocdaaSPatRefSame
import Derived.Test.YtcdehohmgfocdaaSOrdMath
import Derived.Test.YtcdehohmgfocdaaSTrees
namespace Go.Proofs.Ytcdehohmgfocdaa
open Go.RowKit

/-- An item: its Name, kind, Var and Field. -/
structure It where
  nm : ByteArray
  k : Int
  s : ByteArray
  f : ByteArray
abbrev It.val (x : It) : Value := .agg #[.string x.nm, .int .i64 x.k, .string x.s, .string x.f]
/-- The four cells of an item. -/
def ItAt (w : World) (b o : Nat) (x : It) : Prop :=
  w.cell? ⟨b, o, none⟩ = some (.string x.nm) ∧ w.cell? ⟨b, o + 1, none⟩ = some (.int .i64 x.k) ∧ w.cell? ⟨b, o + 2, none⟩ = some (.string x.s) ∧ w.cell? ⟨b, o + 3, none⟩ = some (.string x.f)
theorem ItAt.lt {w : World} {b o : Nat} {x : It} (h : ItAt w b o x) : b < w.heap.size := World.block_lt_of_cell? w _ h.1
theorem ItAt.later {w w' : World} {b o : Nat} {x : It} (h : ItAt w b o x) (hB : Below w.heap.size w w') : ItAt w' b o x :=
  ⟨cell_later h.1 hB, cell_later h.2.1 hB, cell_later h.2.2.1 hB, cell_later h.2.2.2 hB⟩
/-- Items in a slice, by index. -/
def Its (w : World) (a : Option Addr) (n : Nat) (I : Nat → It) : Prop := ∀ i, i < n → ∃ b o, a = some ⟨b, o, none⟩ ∧ ItAt w b (o + i * 4) (I i)
theorem Its.later {w w' : World} {a : Option Addr} {n : Nat} {I : Nat → It} (h : Its w a n I) (hB : Below w.heap.size w w') : Its w' a n I := fun i hi => by
  obtain ⟨b, o, e, hc⟩ := h i hi
  exact ⟨b, o, e, hc.later hB⟩
/-- A query: its pattern, its conditions (as the parts of one), Key, Mode, Within and items. -/
structure Qy where
  p : Pt
  a : Option Addr
  n : Nat
  cap : Nat
  c : Nat → X
  key : ByteArray
  mode : Int
  win : Int
  ia : Option Addr
  m : Nat
  icap : Nat
  it : Nat → It
/-- Its conditions as one. -/
abbrev Qy.x (q : Qy) : X := .mk 16 val0 ⟨#[]⟩ ⟨#[]⟩ q.a q.n q.cap q.c
abbrev Qy.cells (q : Qy) : Array Value := #[.int .i64 q.p.k, .string q.p.s, .string q.p.t, .int .i64 q.p.lo, .int .i64 q.p.hi, .slice q.p.a q.p.n q.p.cap, .slice q.a q.n q.cap, .string q.key, .int .i64 q.mode, .int .i64 q.win, .slice q.ia q.m q.icap]
abbrev Qy.val (q : Qy) : Value := .agg q.cells
structure IsQ (w : World) (q : Qy) : Prop where
  p : IsP w q.p
  x : IsX w q.x
  it : Its w q.ia q.m q.it
  len : q.m ≤ q.icap ∧ q.icap ≤ 9223372036854775807
theorem IsQ.later {w w' : World} {q : Qy} (h : IsQ w q) (hB : Below w.heap.size w w') : IsQ w' q := ⟨h.p.later hB, h.x.later hB, h.it.later hB, h.len⟩
/-- The cells of some items, one behind the other. -/
abbrev It.cells (x : It) : Array Value := #[.string x.nm, .int .i64 x.k, .string x.s, .string x.f]
end Go.Proofs.Ytcdehohmgfocdaa
namespace Go.Proofs.Ytcdehohmgfocdaa
open Go.RowKit

/-- A query in its box. -/
def QB (W : World) (b : Nat) (q : Qy) : Prop := W.heap[b]? = some (.cells q.cells 30 (0, 0))
theorem QB.at0 {W : World} {b : Nat} {q : Qy} (h : QB W b q) : (W.cell? ⟨b, 0, none⟩ = some (.int .i64 q.p.k) ∧ W.cell? ⟨b, 1, none⟩ = some (.string q.p.s) ∧ W.cell? ⟨b, 2, none⟩ = some (.string q.p.t) ∧ W.cell? ⟨b, 3, none⟩ = some (.int .i64 q.p.lo) ∧
    W.cell? ⟨b, 4, none⟩ = some (.int .i64 q.p.hi) ∧ W.cell? ⟨b, 5, none⟩ = some (.slice q.p.a q.p.n q.p.cap)) ∧ W.cell? ⟨b, 6, none⟩ = some (.slice q.a q.n q.cap) ∧ W.cell? ⟨b, 7, none⟩ = some (.string q.key) ∧ W.cell? ⟨b, 8, none⟩ = some (.int .i64 q.mode) ∧
    W.cell? ⟨b, 9, none⟩ = some (.int .i64 q.win) ∧ W.cell? ⟨b, 10, none⟩ = some (.slice q.ia q.m q.icap) := by
  unfold QB at h
  refine ⟨⟨?_, ?_, ?_, ?_, ?_, ?_⟩, ?_, ?_, ?_, ?_, ?_⟩ <;> simp [World.cell?, h]
theorem QB.frozen {W : World} {b : Nat} {q : Qy} (h : QB W b q) (j : Nat) : W.frozen? ⟨b, j, none⟩ = false := by
  unfold QB at h
  simp [World.frozen?, h]
theorem QB.lt {W : World} {b : Nat} {q : Qy} (h : QB W b q) : b < W.heap.size := (Array.getElem?_eq_some_iff.1 h).1
theorem QB.later {W W' : World} {b : Nat} {q : Qy} (h : QB W b q) (hB : Below W.heap.size W W') : QB W' b q := (hB.block b h.lt).trans h
theorem QB.new (W : World) (q : Qy) : QB (W.alloc (.cells q.cells 30)) W.heap.size q := alloc_new W _
end Go.Proofs.Ytcdehohmgfocdaa
