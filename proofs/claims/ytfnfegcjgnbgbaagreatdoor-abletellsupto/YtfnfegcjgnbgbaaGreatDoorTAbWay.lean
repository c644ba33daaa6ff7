/-
  A row of whole numbers that grows by one at its end, in its own room or in a new block; what it held of it before stays. Of no function.
  able's three tables as they lie in memory; able.dialect, able.thing, able.Lacks, able.Word.
  All nodes of a pattern in their order, each with its way and the kind of what it is a part of; plain facts, of no function.
  A region that draws its order and only reads, inside a round: one walk of the lexical order serves every order there, too. Of no function.
  A region that draws its order, inside a fence and inside a round, held under a condition on the world: what yields its value in every world that meets it is taken first (Derived/OrdersHeld.lean's way, told of 'wpIn'). Of no function.
  The closure of able.nodes that goes down (nodes$1$1): each node with its way.
-/
import Derived.Test.YtfnfegcjgnbgbaaGreatDoorTPatMath
import Derived.Maps.AppendAt
import Derived.OwnWalk
import Derived.Laws.Rows
import Derived.LoopN
import Derived.Test.YtfnfegcjgnbgbaaGreatDoorRows
import Derived.WalkKit
import Derived.Sort.QuietIn
import Derived.OrdersHeld
import Derived.OrdersIn
import Derived.Deep.RegionHeld3
import Derived.Below
namespace Go.Proofs.YtfnfegcjgnbgbaaGreatDoor
open Go.RowKit Go.Shelf

theorem infoW : (Tryz.prog.info? 3).map (fun i => (i.zero, i.size, i.bytes)) = some (some (.int .i64 0), 1, 8) := by kernel_rfl
/-- Whole numbers as cells. -/
def waysI (l : List Int) : List Value := l.map fun i => Value.int .i64 i
theorem waysI_snoc (l : List Int) (i : Int) : waysI (l ++ [i]) = waysI l ++ [.int .i64 i] := by simp [waysI]
/-- A row of whole numbers. -/
abbrev Wy (W : World) (base : Nat) (v : Value) (l : List Int) : Prop := W.ownsRow base 3 1 v l.length (waysI l)
theorem Wy.shape {W : World} {base : Nat} {v : Value} {l : List Int} (h : Wy W base v l) : ∃ a cap, v = .slice a l.length cap ∧ (∀ b, v.ownBlock = some b → a = some ⟨b, 0, none⟩) ∧ l.length ≤ cap ∧ cap ≤ maxLen := by
  rcases h.2 with ⟨rfl, e⟩ | ⟨g, cap, cur, rfl, h1, h2, h3, h4, h5, h6⟩
  · exact ⟨none, 0, by rw [e], fun b hb => (by cases hb), by omega, by decide⟩
  · exact ⟨_, cap, rfl, fun b hb => (by cases hb; rfl), h3, h4⟩
theorem Wy.drew {W : World} {base : Nat} {v : Value} {l : List Int} (h : Wy W base v l) : Wy W.drew base v l := h
/-- A block of whole numbers. -/
def IntB (W : World) (k : Nat) : Prop := ∃ cur, W.heap[k]? = some (.cells cur 3 (0, 0))
theorem Wy.intB {W : World} {base : Nat} {v : Value} {l : List Int} (h : Wy W base v l) {k : Nat} (hk : v.ownBlock = some k) : IntB W k := by
  rcases h.2 with ⟨rfl, e⟩ | ⟨g, cap, cur, rfl, h1, h2, h3, h4, h5, h6⟩
  · cases hk
  · cases hk; exact ⟨cur, h2⟩
/-- One number more: where it may lie, and what is kept. -/
structure Step (base : Nat) (W W' : World) (v v' : Value) (l : List Int) (i : Int) : Prop where
  own : Wy W' base v' (l ++ [i])
  old : Wy W' base v l
  grown : W.grownBy W' v.ownBlock
  was : Wy W base v l
  at' : (∃ g cap, v = .slice (some ⟨g, 0, none⟩) l.length cap ∧ v' = .slice (some ⟨g, 0, none⟩) (l.length + 1) cap) ∨ v'.ownBlock = some W.heap.size
theorem way_append {W : World} {base : Nat} {v : Value} {l : List Int} (h : Wy W base v l) (hb : base ≤ W.heap.size) (hn : l.length ≤ 1048576) {g : Nat} {i : Int} {t : TypeId} (hg : Boxed W g t (.int .i64 i)) :
    ∃ v' W', (Builtin.append_ #[39, 39] 39 #[v, .slice (some ⟨g, 0, none⟩) 1 1]).run Tryz.prog W = .ok v' W' ∧ Step base W W' v v' l i := by
  obtain ⟨i0, hi, hz0, hz1, hz2⟩ := info_parts infoW
  have hcell : ∀ (j : Nat) (y : Value), [Value.int .i64 i][j]? = some y → W.cell? ((⟨g, 0, none⟩ : Addr).add j) = some y := fun j y hy => by
    match j, hy with
    | 0, hy =>
      simp at hy
      subst hy
      exact hg.cell
  obtain ⟨v', W', hrun, hown', hgrow, -, hblk⟩ := run_append_own_at (P := Tryz.prog) (w := W) base 39 39 3 i0 (.int .i64 0) 1 8 Tryz.underlying39 hi hz0 hz1 hz2 rfl (by decide) v _ _ h ⟨g, 0, none⟩ 1 1 [.int .i64 i] rfl
    hcell (by simp [Value.oneCell']) (by unfold maxLen; omega) (by omega) hb
  refine ⟨v', W', hrun, ⟨by simpa [Wy, waysI_snoc] using hown', ?_, hgrow, h, ?_⟩⟩
  · rcases h.2 with ⟨rfl, e⟩ | ⟨b, cap, cur, rfl, h1, h2, h3, h4, h5, h6⟩
    · refine ⟨by simp [waysI], .inl ⟨rfl, e⟩⟩
    · by_cases hroom : l.length + 1 ≤ cap
      · have hr := run_append_room (P := Tryz.prog) W 39 39 3 i0 Tryz.underlying39 hi b l.length cap cur h2 ⟨g, 0, none⟩ 1 1 [.int .i64 i] (by rw [hz1]; rfl) hcell (by simp [Value.oneCell']) hroom (by rw [hz1]; simp; omega)
        rw [hrun] at hr
        injection hr with e1 e2
        subst e1 e2
        refine ⟨by simp [waysI], .inr ⟨b, cap, _, rfl, h1, setRow_heap W b cur _ 3 _ h2, h3, h4, ?_, ?_⟩⟩
        · simp only [hz1, List.size_toArray, List.length_append, List.length_take, List.length_drop, Array.length_toList, List.length_cons, List.length_nil]
          omega
        · rw [hz1]
          simp only [List.append_assoc]
          rw [List.take_append_of_le_length (by simp; omega), List.take_take, Nat.min_self]
          exact h6
      · rcases hblk with e | e
        · exfalso
          rcases hown'.2 with ⟨rfl, e0⟩ | ⟨g', cap', cur', rfl, -, q2, q3, -, q5, -⟩
          · simp [Value.ownBlock] at e
          · have hr := run_append_grow (P := Tryz.prog) W 39 39 3 i0 (.int .i64 0) Tryz.underlying39 hi hz0 ⟨b, 0, none⟩ l.length cap (waysI l) (by rw [hz1]; simp [waysI]) (h.cells (g := b) rfl) ⟨g, 0, none⟩ 1 1 [.int .i64 i] (by rw [hz1]; rfl) hcell (by omega) (by omega) (growslice_fits (by omega) (by rw [hz2]; omega))
            rw [hrun] at hr
            injection hr with e1 e2
            simp only [Value.ownBlock] at e
            injection e with e
            injection e1 with e1
            injection e1 with e1
            injection e1 with e1
            have := (Array.getElem?_eq_some_iff.1 h2).1
            omega
        · have hlt := (Array.getElem?_eq_some_iff.1 h2).1
          have hr := run_append_grow (P := Tryz.prog) W 39 39 3 i0 (.int .i64 0) Tryz.underlying39 hi hz0 ⟨b, 0, none⟩ l.length cap (waysI l) (by rw [hz1]; simp [waysI]) (h.cells (g := b) rfl) ⟨g, 0, none⟩ 1 1 [.int .i64 i] (by rw [hz1]; rfl) hcell (by omega) (by omega) (growslice_fits (by omega) (by rw [hz2]; omega))
          rw [hrun] at hr
          injection hr with e1 e2
          subst e2
          exact (show Wy W.drew base _ l from ⟨by simp [waysI], .inr ⟨b, cap, cur, rfl, h1, h2, h3, h4, h5, h6⟩⟩).alloc _
  · rcases hblk with e | e
    · rcases h.2 with ⟨rfl, e0⟩ | ⟨b, cap, cur, rfl, h1, h2, h3, h4, h5, h6⟩
      · exfalso
        rcases hown'.2 with ⟨rfl, e0⟩ | ⟨g', cap', cur', rfl, -, q2, q3, -, q5, -⟩
        · omega
        · simp [Value.ownBlock] at e
      · by_cases hroom : l.length + 1 ≤ cap
        · have hr := run_append_room (P := Tryz.prog) W 39 39 3 i0 Tryz.underlying39 hi b l.length cap cur h2 ⟨g, 0, none⟩ 1 1 [.int .i64 i] (by rw [hz1]; rfl) hcell (by simp [Value.oneCell']) hroom (by rw [hz1]; simp; omega)
          rw [hrun] at hr
          injection hr with e1 e2
          exact .inl ⟨b, cap, rfl, e1⟩
        · have hr := run_append_grow (P := Tryz.prog) W 39 39 3 i0 (.int .i64 0) Tryz.underlying39 hi hz0 ⟨b, 0, none⟩ l.length cap (waysI l) (by rw [hz1]; simp [waysI]) (h.cells (g := b) rfl) ⟨g, 0, none⟩ 1 1 [.int .i64 i] (by rw [hz1]; rfl) hcell (by omega) (by omega) (growslice_fits (by omega) (by rw [hz2]; omega))
          rw [hrun] at hr
          injection hr with e1 e2
          exact .inr (by rw [e1]; rfl)
    · exact .inr e
theorem Wy.prefix {W : World} {base g cap : Nat} {l : List Int} {i : Int} (h : Wy W base (.slice (some ⟨g, 0, none⟩) (l.length + 1) cap) (l ++ [i])) (hc : l.length ≤ cap) : Wy W base (.slice (some ⟨g, 0, none⟩) l.length cap) l := by
  rcases h.2 with ⟨e, -⟩ | ⟨g', cap', cur, e, h1, h2, h3, h4, h5, h6⟩
  · cases e
  · injection e with e1 e2 e3
    injection e1 with e1
    injection e1 with e1
    subst e1 e3
    refine ⟨by simp [waysI], .inr ⟨g, cap, cur, rfl, h1, h2, hc, h4, h5, ?_⟩⟩
    have := congrArg (List.take (l.length * 1)) h6
    rw [List.take_take, waysI_snoc, List.take_append_of_le_length (by simp [waysI])] at this
    rw [show min (l.length * 1) ((l ++ [i]).length * 1) = l.length * 1 by simp] at this
    rw [this, List.take_of_length_le (by simp [waysI])]
theorem Wy.same {W W' : World} {base : Nat} {v : Value} {l : List Int} (h : Wy W base v l) (hb : ∀ k c, v.ownBlock = some k → W.heap[k]? = some (.cells c 3 (0, 0)) → W'.heap[k]? = some (.cells c 3 (0, 0))) : Wy W' base v l := by
  refine ⟨h.1, ?_⟩
  rcases h.2 with h2 | ⟨g, cap, cur, rfl, h1, h2, h3⟩
  · exact .inl h2
  · exact .inr ⟨g, cap, cur, rfl, h1, hb g cur rfl h2, h3⟩
/-- Is it no type of what the notes lie in? -/
abbrev NoNote (t : TypeId) : Prop := t ≠ 56 ∧ t ≠ 31
/-- Blocks that hold neither notes nor lists of notes, and those of T, stay. -/
structure Ks (T : Nat → Prop) (W W' : World) : Prop where
  size : W.heap.size ≤ W'.heap.size
  block : ∀ (k : Nat) (c : Array Value) (t : TypeId) (f : Nat × Nat), (T k ∨ NoNote t) → W.heap[k]? = some (.cells c t f) → W'.heap[k]? = some (.cells c t f)
/-- The same, but for one row: what it held stays in it. -/
structure Kw (T : Nat → Prop) (base : Nat) (v : Value) (l : List Int) (W W' : World) : Prop where
  own : Wy W' base v l
  size : W.heap.size ≤ W'.heap.size
  block : ∀ (k : Nat) (c : Array Value) (t : TypeId) (f : Nat × Nat), v.ownBlock ≠ some k → (T k ∨ NoNote t) → W.heap[k]? = some (.cells c t f) → W'.heap[k]? = some (.cells c t f)
theorem heap_lt {W : World} {k : Nat} {o : Obj} (h : W.heap[k]? = some o) : k < W.heap.size := (Array.getElem?_eq_some_iff.1 h).1
theorem noNote_int : NoNote 3 := by decide
theorem Ks.kw {T : Nat → Prop} {base : Nat} {v : Value} {l : List Int} {W W' : World} (h : Ks T W W') (hv : Wy W base v l) : Kw T base v l W W' :=
  ⟨hv.same fun k c _ hc => h.block k c _ _ (.inr noNote_int) hc, h.size, fun k c t f _ ht hc => h.block k c t f ht hc⟩
theorem Kw.grown {T : Nat → Prop} {base : Nat} {v : Value} {l : List Int} {W W' : World} (hv : Wy W base v l) (h : W.grownBy W' none) : Kw T base v l W W' :=
  ⟨hv.same fun k c _ hc => (h.block k (heap_lt hc) (by simp)).trans hc, h.size, fun k c t f _ _ hc => (h.block k (heap_lt hc) (by simp)).trans hc⟩
theorem Kw.trans {T : Nat → Prop} {base : Nat} {v : Value} {l : List Int} {A B C : World} (h : Kw T base v l A B) (g : Kw T base v l B C) : Kw T base v l A C :=
  ⟨g.own, Nat.le_trans h.size g.size, fun k c t f hk ht hc => g.block k c t f hk ht (h.block k c t f hk ht hc)⟩
theorem Kw.child {T : Nat → Prop} {base : Nat} {v v' : Value} {l : List Int} {i : Int} {A B C : World} (hs : Step base A B v v' l i) (h : Kw T base v' (l ++ [i]) B C) (hcap : ∀ a n cap, v = .slice a n cap → n ≤ cap) : Kw T base v l A C := by
  refine ⟨?_, Nat.le_trans hs.grown.size h.size, fun k c t f hk ht hc => h.block k c t f ?_ ht ((hs.grown.block k (heap_lt hc) (fun e => hk e.symm)).trans hc)⟩
  · rcases hs.at' with ⟨g, cap, rfl, rfl⟩ | e
    · exact h.own.prefix (hcap _ _ _ rfl)
    · refine hs.old.same fun k c hk hc => h.block k c _ _ ?_ (.inr noNote_int) hc
      intro q
      rw [e] at q
      injection q with q
      have := (hs.was.lt k hk).2
      omega
  · intro q
    rcases hs.at' with ⟨g, cap, rfl, rfl⟩ | e
    · exact hk q
    · rw [e] at q
      injection q with q
      have := heap_lt hc
      omega
theorem Kw.other {T : Nat → Prop} {base : Nat} {v : Value} {l : List Int} {W W' : World} (h : Kw T base v l W W') (hv : Wy W base v l) {k : Nat} {c : Array Value} {t : TypeId} {f : Nat × Nat} (hc : W.heap[k]? = some (.cells c t f)) (ht : NoNote t) (hi : t ≠ 3) : W'.heap[k]? = some (.cells c t f) := by
  refine h.block k c t f (fun e => ?_) (.inr ht) hc
  obtain ⟨cur, hcur⟩ := hv.intB e
  rw [hc] at hcur
  injection hcur with hcur
  injection hcur with _ q
  exact hi q
end Go.Proofs.YtfnfegcjgnbgbaaGreatDoor
namespace Go.Proofs.YtfnfegcjgnbgbaaGreatDoor
open Go.RowKit

/-- Does a dialect lack it? -/
def lacksB (d z : Int) : Bool := (d == 1 && z == 2) || (d == 2 && (z == 4 || z == 8 || z == 10 || z == 11 || z == 13)) || (d == 3 && (z == 6 || z == 7 || z == 9 || z == 14))
def thingB (z : Int) : Bool := decide (1 ≤ z) && decide (z ≤ 14)
def dialB (z : Int) : Bool := decide (1 ≤ z) && decide (z ≤ 3)
def wordD : List (List UInt8) := [[], [115, 101, 113], [97, 110, 100], [111, 114], [109, 97, 110, 121], [101, 120, 97, 99, 116], [110, 111, 116], [116, 97, 105, 108], [107, 101, 121], [97, 110, 121], [110, 101, 97, 114], [115, 116, 114, 105, 99, 116], [119, 105, 116, 104, 105, 110], [105, 116, 101, 109, 115], [100, 101, 101, 112]]
def wordS (k : Nat) : ByteArray := ⟨(wordD[k]?.getD []).toArray⟩
def wordC : Array Value := #[.string ⟨#[]⟩, .string ⟨#[115, 101, 113]⟩, .string ⟨#[97, 110, 100]⟩, .string ⟨#[111, 114]⟩, .string ⟨#[109, 97, 110, 121]⟩, .string ⟨#[101, 120, 97, 99, 116]⟩, .string ⟨#[110, 111, 116]⟩, .string ⟨#[116, 97, 105, 108]⟩, .string ⟨#[107, 101, 121]⟩, .string ⟨#[97, 110, 121]⟩, .string ⟨#[110, 101, 97, 114]⟩, .string ⟨#[115, 116, 114, 105, 99, 116]⟩, .string ⟨#[119, 105, 116, 104, 105, 110]⟩, .string ⟨#[105, 116, 101, 109, 115]⟩, .string ⟨#[100, 101, 101, 112]⟩]
def lackL : List Value := (List.range 60).map fun j => Value.bool (lacksB ((j / 15 : Nat) : Int) ((j % 15 : Nat) : Int))
def modeC : Array Value := #[.int .i64 9, .int .i64 10, .int .i64 11]
/-- The tables lie where the program's text lays them. -/
structure AbT (w : World) : Prop where
  modes : ∃ t f, w.heap[0]? = some (.cells modeC t f)
  lacked : ∃ t f, w.heap[1]? = some (.cells lackL.toArray t f)
  words : ∃ t f, w.heap[2]? = some (.cells wordC t f)
theorem AbT.later {w w' : World} (h : AbT w) (hb : Below w.heap.size w w') : AbT w' := by
  obtain ⟨⟨t1, f1, h1⟩, ⟨t2, f2, h2⟩, ⟨t3, f3, h3⟩⟩ := h
  exact ⟨⟨t1, f1, (hb.block _ (heap_lt h1)).trans h1⟩, ⟨t2, f2, (hb.block _ (heap_lt h2)).trans h2⟩, ⟨t3, f3, (hb.block _ (heap_lt h3)).trans h3⟩⟩
theorem cell_heap {w : World} {g k : Nat} {c : Array Value} {t : TypeId} {f : Nat × Nat} (h : w.heap[g]? = some (.cells c t f)) : w.cell? ⟨g, k, none⟩ = c[k]? := by simp [World.cell?, h]
theorem cell_lack {w : World} (h : AbT w) (d k : Nat) (hd : d ≤ 3) (hk : k < 15) : w.cell? ⟨1, d * 15 + k, none⟩ = some (.bool (lacksB d k)) := by
  obtain ⟨t, f, hh⟩ := h.lacked
  rw [cell_heap hh]
  have hj : d * 15 + k < 60 := by omega
  have e1 : (d * 15 + k) / 15 = d := by omega
  have e2 : (d * 15 + k) % 15 = k := by omega
  simp only [lackL, List.getElem?_toArray, List.getElem?_map, List.getElem?_range hj, Option.map_some, e1, e2]
theorem cell_mode {w : World} (h : AbT w) (k : Nat) (hk : k < 3) : w.cell? ⟨0, k, none⟩ = some (.int .i64 ((k : Int) + 9)) := by
  obtain ⟨t, f, hh⟩ := h.modes
  rw [cell_heap hh]
  match k, hk with
  | 0, _ => rfl | 1, _ => rfl | 2, _ => rfl
  | k + 3, h => exact absurd h (by omega)
theorem cell_word {w : World} (h : AbT w) (k : Nat) (hk : k < 15) : w.cell? ⟨2, k, none⟩ = some (.string (wordS k)) := by
  obtain ⟨t, f, hh⟩ := h.words
  rw [cell_heap hh]
  match k, hk with
  | 0, _ => rfl | 1, _ => rfl | 2, _ => rfl | 3, _ => rfl | 4, _ => rfl | 5, _ => rfl | 6, _ => rfl | 7, _ => rfl | 8, _ => rfl | 9, _ => rfl | 10, _ => rfl | 11, _ => rfl | 12, _ => rfl | 13, _ => rfl | 14, _ => rfl
  | k + 15, h => exact absurd h (by omega)

set_option maxHeartbeats 400000 in
theorem thing_any (z : Int) (w : World) : Calls Tryz.prog 31 #[.int .i64 z] w fun e w' => e = .returned (.bool (thingB z)) ∧ w' = w := by
  go_enter Tryz.func31, Tryz.ntmps31
  go_wp2
  all_goals go_ret
  all_goals refine ⟨ret_bool ?_, rfl⟩
  all_goals (unfold thingB; rw [Bool.eq_iff_iff]; simp <;> omega)
set_option maxHeartbeats 400000 in
theorem dialect_any (z : Int) (w : World) : Calls Tryz.prog 33 #[.int .i64 z] w fun e w' => e = .returned (.bool (dialB z)) ∧ w' = w := by
  go_enter Tryz.func33, Tryz.ntmps33
  go_wp2
  all_goals go_ret
  all_goals refine ⟨ret_bool ?_, rfl⟩
  all_goals (unfold dialB; rw [Bool.eq_iff_iff]; simp <;> omega)
theorem lacks_no {d z : Int} (h : ¬ (dialB d = true ∧ thingB z = true)) : lacksB d z = false := by
  rw [Bool.eq_false_iff]
  intro e
  simp only [lacksB, Bool.or_eq_true, Bool.and_eq_true, beq_iff_eq] at e
  refine h ⟨?_, ?_⟩ <;> simp only [dialB, thingB, Bool.and_eq_true, decide_eq_true_eq] <;> omega
set_option maxHeartbeats 1000000 in
theorem lacks_any (d z : Int) (w : World) (hT : AbT w) : Calls Tryz.prog 14 #[.int .i64 d, .int .i64 z] w fun e w' => e = .returned (.bool (lacksB d z)) ∧ w' = w := by
  have h1 := dialect_any d w
  have h2 := thing_any z w
  cases hd : dialB d with
  | false =>
    rw [hd] at h1
    rw [lacks_no (by rw [hd]; simp)]
    clear h2 hd
    go_enter Tryz.func14, Tryz.ntmps14
    go_wp2_with (go_at_call 33; refine h1.mono ?_; clear h1; rintro e w1 ⟨rfl, rfl⟩)
    go_ret
    exact ⟨rfl, rfl⟩
  | true =>
    cases hz : thingB z with
    | false =>
      rw [hd] at h1
      rw [hz] at h2
      rw [lacks_no (by rw [hz]; simp)]
      clear hd hz
      go_enter Tryz.func14, Tryz.ntmps14
      go_wp2_with (first
        | (go_at_call 33; refine h1.mono ?_; clear h1; rintro e w1 ⟨rfl, rfl⟩)
        | (go_at_call 31; refine h2.mono ?_; clear h2; rintro e w1 ⟨rfl, rfl⟩))
      go_ret
      exact ⟨rfl, rfl⟩
    | true =>
      rw [hd] at h1
      rw [hz] at h2
      simp only [dialB, thingB, Bool.and_eq_true, decide_eq_true_eq] at hd hz
      obtain ⟨p, rfl⟩ := Int.eq_ofNat_of_zero_le (show 0 ≤ d by omega)
      obtain ⟨q, rfl⟩ := Int.eq_ofNat_of_zero_le (show 0 ≤ z by omega)
      have hp : p < 4 := by omega
      have hq : q < 15 := by omega
      have hc := cell_lack hT p q (by omega) hq
      obtain ⟨r, hr⟩ : ∃ r, lacksB p q = r := ⟨_, rfl⟩
      rw [hr] at hc ⊢
      clear hd hz hT hr
      go_enter Tryz.func14, Tryz.ntmps14
      go_wp2_with (first
        | (go_at_call 33; refine h1.mono ?_; clear h1; rintro e w1 ⟨rfl, rfl⟩)
        | (go_at_call 31; refine h2.mono ?_; clear h2; rintro e w1 ⟨rfl, rfl⟩))
      go_ret
      exact ⟨rfl, rfl⟩
/-- What a thing is called. -/
def wordZ (z : Int) : ByteArray := if thingB z = true then wordS z.toNat else ⟨#[]⟩
set_option maxHeartbeats 1000000 in
theorem word_any (z : Int) (w : World) (hT : AbT w) : Calls Tryz.prog 16 #[.int .i64 z] w fun e w' => e = .returned (.string (wordZ z)) ∧ w' = w := by
  have h2 := thing_any z w
  unfold wordZ
  cases hz : thingB z with
  | false =>
    rw [hz] at h2
    rw [if_neg (by simp)]
    clear hz
    go_enter Tryz.func16, Tryz.ntmps16
    go_wp2_with (go_at_call 31; refine h2.mono ?_; clear h2; rintro e w1 ⟨rfl, rfl⟩)
    go_ret
    exact ⟨rfl, rfl⟩
  | true =>
    rw [hz] at h2
    rw [if_pos rfl]
    simp only [thingB, Bool.and_eq_true, decide_eq_true_eq] at hz
    obtain ⟨q, rfl⟩ := Int.eq_ofNat_of_zero_le (show 0 ≤ z by omega)
    have hq : q < 15 := by omega
    have hc := cell_word hT q hq
    rw [show ((q : Int)).toNat = q from rfl]
    clear hz hT
    go_enter Tryz.func16, Tryz.ntmps16
    go_wp2_with (go_at_call 31; refine h2.mono ?_; clear h2; rintro e w1 ⟨rfl, rfl⟩)
    go_ret
    exact ⟨rfl, rfl⟩
set_option maxHeartbeats 1000000 in
theorem awake22_any (w : World) (hT : AbT w) : Calls Tryz.prog 6 #[] w fun e w' => e = .returned (.bool true) ∧ w' = w := by
  have hc := word_any 2 w hT
  rw [show wordZ 2 = ⟨#[97, 110, 100]⟩ from rfl] at hc
  go_enter Tryz.func6, Tryz.ntmps6
  go_wp2_with (go_at_call 16; refine hc.mono ?_; clear hc; rintro e w2 ⟨rfl, rfl⟩)
  go_ret
  exact ⟨rfl, rfl⟩
end Go.Proofs.YtfnfegcjgnbgbaaGreatDoor
namespace Go.Proofs.YtfnfegcjgnbgbaaGreatDoor
open Go.RowKit

/-- A node's way, the kind of what it is a part of, and the node. -/
abbrev VN := List Int × Int × Pt
def visW (way : List Int) (ink : Int) : Pt → List VN
  | .nil => [(way, ink, .nil)]
  | .mk k s t lo hi a n cap c => (way, ink, .mk k s t lo hi a n cap c) :: catN (fun i => visW (way ++ [(i : Int)]) k (c i)) n
theorem visW_eq (way : List Int) (ink : Int) (x : Pt) : visW way ink x = (way, ink, x) :: catN (fun i => visW (way ++ [(i : Int)]) x.k (x.c i)) x.n := by cases x <;> rfl
theorem length_visW : ∀ (x : Pt) (way : List Int) (ink : Int), (visW way ink x).length = x.size := by
  refine Pt.ind fun x ih way ink => ?_
  have : ∀ m, m ≤ x.n → (catN (fun i => visW (way ++ [(i : Int)]) x.k (x.c i)) m).length = sumN (fun i => (x.c i).size) m := by
    intro m
    induction m with
    | zero => intro _; rfl
    | succ m ihm => intro hm; simp only [catN, sumN, List.length_append]; rw [ihm (by omega), ih m (by omega)]
  rw [visW_eq, x.size_eq, List.length_cons, this _ (Nat.le_refl _)]
  omega
end Go.Proofs.YtfnfegcjgnbgbaaGreatDoor
namespace Go.Proofs.YtfnfegcjgnbgbaaGreatDoor
open Go.RowKit

/-- Nothing is deferred in it. -/
def calmB (l : List Oper) : Bool := l.all fun o => match o.op with | .defer _ => false | _ => true
theorem calm_at {l : List Oper} (h : calmB l = true) {i : Nat} {o : Oper} (ho : l.toArray[i]? = some o) (c : Call) : o.op ≠ .defer c := fun e => by
  have hm : o ∈ l := by
    have : l[i]? = some o := by simpa using ho
    exact List.mem_of_getElem? this
  have := List.all_eq_true.1 h o hm
  rw [e] at this
  cases this
theorem wpAnyIn_round {n : Nat} {P : Program} {md : Region.Mode} {l : List Oper} {Q : Exit → Act → World → Prop} (r : Nat) (hc : calmB l = true) : ∀ (fuel : Nat) (listed : Array Bool) (a : Act) (w : World),
    wpAnyIn Fence.wide n P md l.toArray Q fuel listed a w → wpAnyIn (Fence.wide.inRound r) n P md l.toArray Q fuel listed a w
  | 0, _, _, _, h => h
  | fuel + 1, listed, a, w, h => by
    refine ⟨h.1, fun i hi => ?_⟩
    have h2 := h.2 i hi
    unfold wpOpIn at h2 ⊢
    cases ho : l.toArray[i]? with
    | none =>
      rw [ho] at h2
      exact wpAnyIn_round r hc fuel _ a w h2
    | some o =>
      rw [ho] at h2
      simp only at h2 ⊢
      split
      · rename_i hw
        rw [if_pos hw] at h2
        have h3 := Oper.wpIn_mono (fun a' w' => wpAnyIn_round r hc fuel _ a' w') h2
        unfold Oper.wpIn at h3 ⊢
        rw [Oper.semAt_eq _ _ _ (calm_at hc ho)] at h3 ⊢
        exact h3
      · rename_i hw
        rw [if_neg hw] at h2
        exact ⟨h2.1, wpAnyIn_round r hc fuel _ _ w h2.2⟩
/-- A region of reads inside a round. -/
theorem wpIn_region_round {n id r : Nat} {P : Program} {Q : Exit → Act → World → Prop} {a : Act} {w : World} {l : List Oper} (hm : P.follows .mixedOrders = true) (hB : Region.lexB .any l.toArray = true) (hc : calmB l = true)
    (h : wpQuietIn Fence.wide n P l.toArray (fun w' => ∃ n, w' = w.drewN n) (fun a' => ∀ w', (∃ n, w' = w.drewN n) → Q .normal a' w') l a) : (Code.region id l.toArray true).wpIn (Fence.wide.inRound r) n P Q a w := by
  simp only [Region.lexB, Bool.and_eq_true] at hB
  refine wpIn_region_any hm (wpAnyIn_round r hc _ _ _ _ (wpAnyIn_of_quiet (C := fun w' => ∃ n, w' = w.drewN n) (Q := fun a' => ∀ w', (∃ n, w' = w.drewN n) → Q .normal a' w') rfl (fun _ w' hw' h => h w' hw') _ _ _ _ ⟨1, rfl⟩ ?_))
  have := wpAnyQIn_lex (F := Fence.wide) (n := n) (C := fun w' => ∃ n, w' = w.drewN n) (md := .any) hB.1 l 0 (Array.replicate l.toArray.size false) a (by simp) (by simpa using hB.2) h
  simpa using this
end Go.Proofs.YtfnfegcjgnbgbaaGreatDoor
namespace Go.Proofs.YtfnfegcjgnbgbaaGreatDoor
open Go.RowKit

section
variable {n : Nat} {P : Program} {ops : Array Oper} {Q : Exit → Act → World → Prop} {md : Region.Mode} {S : World → Prop}
def YieldsHI (P : Program) (ops : Array Oper) (S : World → Prop) (o : Oper) (v : Value) (a : Act) : Prop := YieldsIf P ops S o v a ∧ ∀ w, o.about P w a.eval = none
theorem YieldsHI.wpOpIn {i : Nat} {o : Oper} {v : Value} {a : Act} (hi : ops[i]? = some o) (hy : YieldsHI P ops S o v a) {K : Act → World → Prop} {w : World} (hS : S w) (h : K (a.put o.dst v) w) : wpOpIn Fence.wide n P ops Q i K a w := by
  unfold Go.wpOpIn
  simp only [hi]
  have hab : ∀ f, o.about P w a.eval = some f → Fence.wide.fn f := fun f hf => by rw [hy.2 w] at hf; cases hf
  rcases hy.1 with ⟨hw, hv⟩ | ⟨hw, rfl⟩
  · simp only [hw, if_true, Oper.wpIn, show Fence.wide.round = none from rfl, Oper.semAt_none, hv w hS, Oper.uponIn]; exact ⟨hab, h⟩
  · simp only [hw, Bool.false_eq_true, if_false]; exact ⟨hab, h⟩
theorem YieldsHI.of_same {o : Oper} {v : Value} {a a' : Act} (hy : YieldsHI P ops S o v a) (he : execOp a'.eval o = execOp a.eval o)
    (hw : Region.wanted o (yielded ops a'.tmps) = Region.wanted o (yielded ops a.tmps)) (hb : ∀ w, o.about P w a'.eval = o.about P w a.eval) : YieldsHI P ops S o v a' :=
  ⟨hy.1.of_same he hw, fun w => by rw [hb w]; exact hy.2 w⟩
theorem wpOpIn_putHI {j : Nat} {oi oj : Oper} {v : Value} (hj : ops[j]? = some oj) (hap : oi.apart ops oj = true)
    (hsi : ∀ cs b, oi.op ≠ .select cs b) (hsj : ∀ cs b, oj.op ≠ .select cs b)
    (hQ : ∀ c a w, Q (.panic c) (a.put oi.dst v) w → Q (.panic c) a w) {K : Act → World → Prop} {a : Act} {w : World}
    (hy : YieldsHI P ops S oi v a) (h : wpOpIn Fence.wide n P ops Q j K (a.put oi.dst v) w) :
    wpOpIn Fence.wide n P ops Q j (fun a' w' => YieldsHI P ops S oi v a' ∧ K (a'.put oi.dst v) w') a w := by
  obtain ⟨h1, h2, h3⟩ := Oper.apart_spec hap
  have hro : Fence.wide.round = none := rfl
  have keep : ∀ (a : Act), YieldsHI P ops S oi v a → ∀ u, YieldsHI P ops S oi v (a.put oj.dst u) := fun a hy u =>
    hy.of_same (execOp_put oi hsi a oj.dst u h3) (wanted_put oi a oj.dst u h3) (fun w => about_put oi w a oj.dst u h3)
  have keepD : ∀ d, YieldsHI P ops S oi v { a with defers := d :: a.defers } := fun d => hy.of_same rfl rfl (fun _ => rfl)
  unfold wpOpIn at *
  simp only [hj] at *
  rw [wanted_put oj a oi.dst v h1, about_put oj w a oi.dst v h1] at h
  split
  · rename_i hw
    simp only [hw, if_true] at h
    unfold Oper.wpIn at *
    rw [about_put oj w a oi.dst v h1] at h
    refine ⟨h.1, ?_⟩
    have h := h.2
    rw [hro, Oper.semAt_none, execOp_put oj hsj a oi.dst v h1] at h
    rw [hro, Oper.semAt_none]
    generalize (execOp a.eval oj).run P w = r at *
    cases r with
    | ok x w' =>
      cases x <;> simp only [Oper.uponIn] at h ⊢
      case value u => exact ⟨keep a hy u, by rw [← Act.put_comm a v u h2]; exact h⟩
      case skip => exact ⟨keep a hy _, by rw [← Act.put_comm a v undef h2]; exact h⟩
      case defer d =>
        refine ⟨keep _ (keepD d) _, ?_⟩
        rw [← Act.put_comm _ v undef h2, ← Act.put_defers]
        exact h
      case enter f args =>
        refine ⟨h.1, CallsIn.mono h.2 fun e w'' he => ?_⟩
        cases e with
        | returned u => exact ⟨keep a hy u, by rw [← Act.put_comm a v u h2]; exact he⟩
        | panicked c => exact hQ _ _ _ he
        | outgrown => exact he
      case row row args => exact ⟨h.1, RowsIn.mono h.2 fun u w'' he => ⟨keep a hy u, by rw [← Act.put_comm a v u h2]; exact he⟩⟩
      case round l f tmps assign body =>
        refine ⟨h.1, RoundIn.mono h.2 fun e w'' he => ?_⟩
        cases e with
        | returned u => exact ⟨keep a hy u, by rw [← Act.put_comm a v u h2]; exact he⟩
        | panicked c => exact hQ _ _ _ he
        | outgrown => exact he
    | halt x w' =>
      cases x <;> simp only [Oper.uponIn] at h ⊢
      case panic u => exact hQ _ _ _ h
  · rename_i hw
    simp only [hw] at h
    exact ⟨h.1, keep a hy _, by rw [← Act.put_comm a v undef h2]; exact h.2⟩
/-- Whatever order is picked from here on, and S holds behind every operation that is carried out. -/
def wpAnyHI (n : Nat) (P : Program) (md : Region.Mode) (ops : Array Oper) (Q : Exit → Act → World → Prop) (S : World → Prop) : Nat → Array Bool → Act → World → Prop
  | 0, listed, a, w => Region.ready md ops listed = [] ∧ Q .normal a w
  | fuel + 1, listed, a, w =>
    (Region.ready md ops listed = [] → Q .normal a w) ∧
    ∀ i ∈ Region.ready md ops listed, wpOpIn Fence.wide n P ops Q i (fun a' w' => S w' ∧ wpAnyHI n P md ops Q S fuel (listed.setIfInBounds i true) a' w') a w
theorem wpAnyIn_of_held : ∀ (fuel : Nat) (listed : Array Bool) (a : Act) (w : World), wpAnyHI n P md ops Q S fuel listed a w → wpAnyIn Fence.wide n P md ops Q fuel listed a w
  | 0, _, _, _, h => h
  | fuel + 1, _, _, _, h => ⟨h.1, fun i hi => wpOpIn_mono (fun a' w' h' => wpAnyIn_of_held fuel _ a' w' h'.2) (h.2 i hi)⟩
theorem wpAnyHI_first {i : Nat} {oi : Oper} {v : Value} (hi : ops[i]? = some oi) (hsel : ∀ (j : Nat) (o : Oper) cs b, ops[j]? = some o → o.op ≠ .select cs b)
    (hQ : ∀ c a w, Q (.panic c) (a.put oi.dst v) w → Q (.panic c) a w) :
    ∀ (fuel : Nat) (listed : Array Bool) (a : Act) (w : World),
      (∀ j oj, ops[j]? = some oj → j ≠ i → listed.getD j true = false → (∀ e ∈ oj.after, Region.binds md e = true → e.on ≠ i) → oi.apart ops oj = true) →
      i ∈ Region.ready md ops listed → YieldsHI P ops S oi v a → S w →
      wpAnyHI n P md ops Q S fuel (listed.setIfInBounds i true) (a.put oi.dst v) w → wpAnyHI n P md ops Q S (fuel + 1) listed a w := by
  intro fuel
  induction fuel with
  | zero =>
    intro listed a w _ hr hy hS H
    refine ⟨fun h => (by rw [h] at hr; cases hr), fun j hj => ?_⟩
    by_cases hji : j = i
    · subst hji; exact hy.wpOpIn hi hS ⟨hS, H⟩
    · have := ready_mono hj hji
      rw [H.1] at this
      cases this
  | succ fuel ih =>
    intro listed a w hfree hr hy hS H
    refine ⟨fun h => (by rw [h] at hr; cases hr), fun j hj => ?_⟩
    by_cases hji : j = i
    · subst hji; exact hy.wpOpIn hi hS ⟨hS, H⟩
    · have h1 := H.2 j (ready_mono hj hji)
      obtain ⟨hjun, oj, hoj, hall⟩ := mem_ready.1 hj
      have hnot : ∀ e ∈ oj.after, Region.binds md e = true → e.on ≠ i := fun e he hb heq => by
        have h1 := hall e he hb
        have h0 := (mem_ready.1 hr).1
        rw [heq] at h1
        rcases Nat.lt_or_ge i listed.size with h' | h'
        · simp [h'] at h0 h1; rw [h0] at h1; cases h1
        · simp [Array.getElem?_eq_none h'] at h1
      have h2 := wpOpIn_putHI hoj (hfree j oj hoj hji hjun hnot) (fun cs b => hsel i oi cs b hi) (fun cs b => hsel j oj cs b hoj) hQ hy h1
      have hfree' : ∀ k ok, ops[k]? = some ok → k ≠ i → (listed.setIfInBounds j true).getD k true = false →
          (∀ e ∈ ok.after, Region.binds md e = true → e.on ≠ i) → oi.apart ops ok = true := fun k ok hk hki hun hno => by
        refine hfree k ok hk hki ?_ hno
        by_cases hjk : j = k
        · subst hjk; exact hjun
        · rw [getD_set_ne true hjk] at hun; exact hun
      refine wpOpIn_mono (fun a' w' h3 => ⟨h3.2.1, ih (listed.setIfInBounds j true) a' w' hfree' (ready_mono hr (Ne.symm hji)) h3.1 h3.2.1 ?_⟩) h2
      rw [Array.setIfInBounds_comm _ _ hji]
      exact h3.2.2
theorem wpAnyHI_take {i : Nat} {oi : Oper} {v : Value} {fuel : Nat} {listed : Array Bool} {a : Act} {w : World} (hi : ops[i]? = some oi)
    (hs : Region.noSelect ops = true) (hf : Region.free md ops listed i = true) (hr : (Region.ready md ops listed).contains i = true)
    (hQ : ∀ c a w, Q (.panic c) (a.put oi.dst v) w → Q (.panic c) a w) (hy : YieldsHI P ops S oi v a) (hS : S w)
    (h : wpAnyHI n P md ops Q S fuel (listed.setIfInBounds i true) (a.put oi.dst v) w) : wpAnyHI n P md ops Q S (fuel + 1) listed a w :=
  wpAnyHI_first hi (Region.noSelect_spec hs) hQ fuel listed a w (Region.free_spec hi hf) (by simpa using hr) hy hS h
variable {fuel : Nat} {listed : Array Bool} {a b : Act} {w : World}
theorem si_put {α : Type} (l : List α) (i : Nat) (a : α) : l.toArray.setIfInBounds i a = (l.set i a).toArray := List.setIfInBounds_toArray ..
theorem si_0 {α : Type} (x y : α) (l : List α) : (x :: l).set 0 y = y :: l := List.set_cons_zero
theorem si_1 {α : Type} (x y : α) (l : List α) (n : Nat) : (x :: l).set (n + 1) y = x :: l.set n y := List.set_cons_succ
/-- One that yields in every world that meets the condition. -/
theorem tki (i : Nat) {k : Nat} {op : Op} {ty : TypeId} {ps af gd} {v : Value} (h : wpAnyHI n P md ops Q S fuel (listed.setIfInBounds i true) b w)
    (hi : ops[i]? = some ⟨some k, op, ty, ps, af, gd⟩ := by rfl) (hs : Region.noSelect ops = true := by kernel_rfl) (hf : Region.free md ops listed i = true := by kernel_rfl) (hr : (Region.ready md ops listed).contains i = true := by kernel_rfl)
    (hw : Region.wanted ⟨some k, op, ty, ps, af, gd⟩ (yielded ops a.tmps) = true := by rfl) (hy : ∀ w, S w → (execOp a.eval ⟨some k, op, ty, ps, af, gd⟩).run P w = .ok (.value v) w := by intro w9 hSw; go_simp; (try with_reducible rfl))
    (hab : ∀ w, Oper.about P w a.eval ⟨some k, op, ty, ps, af, gd⟩ = none := by intro w9; rfl)
    (hQ : ∀ c a w, Q (.panic c) (a.put (some k) v) w → Q (.panic c) a w := by exact fun _ _ _ h => h) (hS : S w := by assumption) (hb : a.put (some k) v = b := by ((try simp only [Act.put, si_put, si_0, si_1]); rfl)) : wpAnyHI n P md ops Q S (fuel + 1) listed a w :=
  wpAnyHI_take hi hs hf hr hQ ⟨.inl ⟨hw, hy⟩, hab⟩ hS (hb ▸ h)
/-- The one that comes up. -/
theorem rdi (i : Nat) {ds : Option Tmp} {op : Op} {ty : TypeId} {ps af gd}
    (h : ∀ K' : Act → World → Prop, Shut (∀ a w, S w → (S w → wpAnyHI n P md ops Q S fuel (listed.setIfInBounds i true) a w) → K' a w) → if Region.wanted ⟨ds, op, ty, ps, af, gd⟩ (yielded ops a.tmps) = true then Oper.wpIn Fence.wide n P ⟨ds, op, ty, ps, af, gd⟩ a w K' Q else (∀ f, Oper.about P w a.eval ⟨ds, op, ty, ps, af, gd⟩ = some f → Fence.wide.fn f) ∧ K' (a.put ds undef) w)
    (hr : Region.ready md ops listed = [i] := by kernel_rfl) (hi : ops[i]? = some ⟨ds, op, ty, ps, af, gd⟩ := by rfl) : wpAnyHI n P md ops Q S (fuel + 1) listed a w := by
  refine ⟨fun h0 => (by rw [hr] at h0; cases h0), fun j hj => ?_⟩
  rw [hr, List.mem_singleton] at hj
  subst hj
  exact wpOpIn_step hi fun K' hK => h K' (fun a w hS hW => hK a w ⟨hS, hW hS⟩)
/-- Two that may come up. -/
theorem rdi2 (i j : Nat) {ds ds' : Option Tmp} {op op' : Op} {ty ty' : TypeId} {ps af gd ps' af' gd'}
    (h : ∀ K' : Act → World → Prop, Shut (∀ a w, S w → (S w → wpAnyHI n P md ops Q S fuel (listed.setIfInBounds i true) a w) → K' a w) → if Region.wanted ⟨ds, op, ty, ps, af, gd⟩ (yielded ops a.tmps) = true then Oper.wpIn Fence.wide n P ⟨ds, op, ty, ps, af, gd⟩ a w K' Q else (∀ f, Oper.about P w a.eval ⟨ds, op, ty, ps, af, gd⟩ = some f → Fence.wide.fn f) ∧ K' (a.put ds undef) w)
    (h' : ∀ K' : Act → World → Prop, Shut (∀ a w, S w → (S w → wpAnyHI n P md ops Q S fuel (listed.setIfInBounds j true) a w) → K' a w) → if Region.wanted ⟨ds', op', ty', ps', af', gd'⟩ (yielded ops a.tmps) = true then Oper.wpIn Fence.wide n P ⟨ds', op', ty', ps', af', gd'⟩ a w K' Q else (∀ f, Oper.about P w a.eval ⟨ds', op', ty', ps', af', gd'⟩ = some f → Fence.wide.fn f) ∧ K' (a.put ds' undef) w)
    (hr : Region.ready md ops listed = [i, j] := by kernel_rfl) (hi : ops[i]? = some ⟨ds, op, ty, ps, af, gd⟩ := by rfl) (hj : ops[j]? = some ⟨ds', op', ty', ps', af', gd'⟩ := by rfl) : wpAnyHI n P md ops Q S (fuel + 1) listed a w := by
  refine ⟨fun h0 => (by rw [hr] at h0; cases h0), fun k hk => ?_⟩
  rw [hr] at hk
  rcases List.mem_cons.1 hk with e | hk
  · subst e
    exact wpOpIn_step hi fun K' hK => h K' (fun a w hS hW => hK a w ⟨hS, hW hS⟩)
  · rw [List.mem_singleton] at hk
    subst hk
    exact wpOpIn_step hj fun K' hK => h' K' (fun a w hS hW => hK a w ⟨hS, hW hS⟩)
/-- The end. -/
theorem dni (h : Q .normal a w) (hr : Region.ready md ops listed = [] := by kernel_rfl) : wpAnyHI n P md ops Q S fuel listed a w := by
  cases fuel with
  | zero => exact ⟨hr, h⟩
  | succ => exact ⟨fun _ => h, by rw [hr]; simp⟩
/-- The beginning. -/
theorem bgi {id : Nat} (S : World → Prop) (hS : S w.drew) (h : S w.drew → wpAnyHI n P .any ops Q S ops.size (Array.replicate ops.size false) a w.drew) (hm : P.follows .mixedOrders = true := by kernel_rfl) : (Code.region id ops true).wpIn Fence.wide n P Q a w :=
  wpIn_region_any hm (wpAnyIn_of_held _ _ _ _ (h hS))
/-- The beginning, of a region that is shown not to panic. -/
theorem bgp {id : Nat} (S : World → Prop) (hS : S w.drew) (h : S w.drew → wpAnyHI n P .any ops (NoPanic Q) S ops.size (Array.replicate ops.size false) a w.drew) (hm : P.follows .mixedOrders = true := by kernel_rfl) : (Code.region id ops true).wpIn Fence.wide n P Q a w :=
  wpIn_mono (bgi S hS h hm) NoPanic.imp
/-- The beginning, inside a round. -/
theorem bgr {id r : Nat} {l : List Oper} (S : World → Prop) (hS : S w.drew) (h : S w.drew → wpAnyHI n P .any l.toArray Q S l.toArray.size (Array.replicate l.toArray.size false) a w.drew) (hm : P.follows .mixedOrders = true := by kernel_rfl) (hc : calmB l = true := by kernel_rfl) : (Code.region id l.toArray true).wpIn (Fence.wide.inRound r) n P Q a w :=
  wpIn_region_any hm (wpAnyIn_round r hc _ _ _ _ (wpAnyIn_of_held _ _ _ _ (h hS)))
end
end Go.Proofs.YtfnfegcjgnbgbaaGreatDoor
namespace Go.Proofs.YtfnfegcjgnbgbaaGreatDoor
open Go.RowKit Go.Shelf
attribute [local go_sem] Oper.semAt_some

/-- The closure that goes down, as a value. -/
abbrev downWV (By Bd : Nat) : Value := .func (.func 57) #[] #[.pointer (some ⟨By, 0, none⟩), .pointer (some ⟨Bd, 0, none⟩)]
/-- A node with its way and the kind of what it is a part of, as cells and as a value. -/
abbrev ndCells (y : Pt) (v : Value) (ink : Int) : Array Value := #[.int .i64 y.k, .string y.s, .string y.t, .int .i64 y.lo, .int .i64 y.hi, .slice y.a y.n y.cap, v, .int .i64 ink]
abbrev ndVal (y : Pt) (v : Value) (ink : Int) : Value := .agg (ndCells y v ink)
theorem wpInOp_append {n : Nat} {P : Program} {w w' : World} {o : Oper} {a : Act} {K : Act → World → Prop} {Q : Exit → Act → World → Prop} (s x : Operand) (t : TypeId)
    (hop : o.op = Op.call { callee := Callee.builtin Builtin.append, args := #[s, x], argTypes := #[t, t] }) (v y v' : Value) (hs : a.eval s = v) (hx : a.eval x = y)
    (hrun : (Builtin.append_ #[t, t] o.type #[v, y]).run P w = .ok v' w') (hK : K (a.put o.dst v') w') : Oper.wpIn Fence.wide n P o a w K Q := by
  unfold Oper.wpIn
  refine ⟨fun f _ => trivial, ?_⟩
  simp [Oper.semAt_none, execOp, hop, resolve, invoke, builtin, hs, hx, hrun, Result.andThen]
  exact hK
theorem grown_drew {W W' : World} {r : Option Nat} (h : W.grownBy W' r) : W.grownBy W'.drew r := ⟨h.os, h.tape, h.output, h.size, h.block⟩
/-- The cells of a node with its way, in its box. -/
theorem nd_cells {W : World} {B : Nat} {y : Pt} {v : Value} {ink : Int} (h : W.heap[B]? = some (.cells (ndCells y v ink) 64 (0, 0))) :
    W.cell? ⟨B, 0, none⟩ = some (.int .i64 y.k) ∧ W.cell? ⟨B, 1, none⟩ = some (.string y.s) ∧ W.cell? ⟨B, 2, none⟩ = some (.string y.t) ∧ W.cell? ⟨B, 3, none⟩ = some (.int .i64 y.lo) ∧ W.cell? ⟨B, 4, none⟩ = some (.int .i64 y.hi) ∧
    W.cell? ⟨B, 5, none⟩ = some (.slice y.a y.n y.cap) ∧ W.cell? ⟨B, 6, none⟩ = some v ∧ W.cell? ⟨B, 7, none⟩ = some (.int .i64 ink) := by
  refine ⟨?_, ?_, ?_, ?_, ?_, ?_, ?_, ?_⟩ <;> simp [World.cell?, h]
set_option maxRecDepth 100000 in
set_option maxHeartbeats 4000000 in
theorem downW_any (l By Bd base : Nat) (T : Nat → Prop) (J : List VN → (Nat → Prop) → World → Prop) (all : List VN)
    (hT : ∀ k, T k → k < base)
    (hJ : ∀ pre K W W' r, W.grownBy W' r → (∀ k, r = some k → IntB W k ∧ ¬ K k ∧ base ≤ k) → J pre K W → J pre K W')
    (hKs : ∀ pre K W, J pre K W → ∀ k, K k → k < W.heap.size)
    (hY : ∀ (y : Pt) (v : Value) (way : List Int) (ink : Int) (pre : List VN) (K : Nat → Prop) (W : World), Wy W base v way → PT T W y → J pre K W → base ≤ W.heap.size → (∃ post, pre ++ (way, ink, y) :: post = all) →
      YieldAt Fence.wide 0 Tryz.prog l #[ndVal y v ink] W fun e W' => e = .returned (.bool true) ∧ Ks T W W' ∧ ∃ K' : Nat → Prop, (∀ k, K' k → K k ∨ W.heap.size ≤ k) ∧ J (pre ++ [(way, ink, y)]) K' W') :
    ∀ (r : Nat) (y : Pt), y.size < r → ∀ (n : Nat) (v : Value) (way : List Int) (ink : Int) (pre : List VN) (K : Nat → Prop) (W : World),
      Boxed W By 87 (.func (.yield l) #[] #[]) → Boxed W Bd 87 (downWV By Bd) → Wy W base v way → (∀ k, v.ownBlock = some k → ¬ K k) → PT T W y → J pre K W → base ≤ W.heap.size →
      way.length + y.deep ≤ 1048576 → (∃ post, pre ++ (visW way ink y ++ post) = all) →
      CallsIn Fence.wide n Tryz.prog 57 #[ndVal y v ink, .pointer (some ⟨By, 0, none⟩), .pointer (some ⟨Bd, 0, none⟩)] W fun e W' =>
        e = .returned (.bool true) ∧ Kw T base v way W W' ∧ ∃ K' : Nat → Prop, (∀ k, K' k → K k ∨ W.heap.size ≤ k) ∧ J (pre ++ visW way ink y) K' W' := by
  intro r
  induction r with
  | zero => intro y h; omega
  | succ r ih =>
    intro y hr n v way ink pre K W by0 bd0 hw hvK hy hj hb hdeep hall
    have hdd : ∀ k : Nat, (Fence.wide.depth.isSome = true → 1 ≤ k) := fun k h => by cases h
    obtain ⟨wa, wcap, hv, -, hwc, hwm⟩ := hw.shape
    have hv8 : wcap ≤ 9223372036854775807 := by simpa [maxLen] using hwm
    subst hv
    obtain ⟨A, hA⟩ : ∃ A, W.alloc (.cells (ndCells y (.slice wa way.length wcap) ink) 64) = A := ⟨_, rfl⟩
    have gA : W.grownBy A none := by rw [← hA]; exact World.grownBy_alloc _ _ _
    have xA : A.heap[W.heap.size]? = some (.cells (ndCells y (.slice wa way.length wcap) ink) 64 (0, 0)) := by rw [← hA]; exact alloc_new _ _
    have kA : Kw T base (.slice wa way.length wcap) way W A := Kw.grown hw gA
    have wA := kA.own
    have jA : J pre K A := hJ _ _ _ _ _ gA (fun k e => by cases e) hj
    have yA : PT T A y := PT.of (fun p u hp => (gA.cell hp (by simp))) hy
    have sA : A.heap.size = W.heap.size + 1 := by rw [← hA]; simp
    have byA : Boxed A By 87 (.func (.yield l) #[] #[]) := (gA.block _ by0.lt (by simp)).trans by0
    have bdA : Boxed A Bd 87 (downWV By Bd) := (gA.block _ bd0.lt (by simp)).trans bd0
    have hY1 := hY y (.slice wa way.length wcap) way ink pre K A wA yA jA (by omega) (by obtain ⟨post, h⟩ := hall; rw [visW_eq] at h; exact ⟨_, by simpa using h⟩)
    have HA : Hid (W.grownBy A none ∧ A.heap.size = W.heap.size + 1 ∧ Kw T base (.slice wa way.length wcap) way W A ∧ PT T A y) := ⟨gA, sA, kA, yA⟩
    obtain ⟨c0, hc0⟩ : ∃ c0, c0 = (W.alloc (.cells (ndCells y (.slice wa way.length wcap) ink) 64)).heap.size := ⟨_, rfl⟩
    obtain ⟨fn, tmps, assign, body, hyy, hR⟩ := yield_wide (n - 1) hY1
    have cby := byA.cell
    have XB : Hid (∀ W1, Ks T A W1 → W1.heap[W.heap.size]? = some (.cells (ndCells y (.slice wa way.length wcap) ink) 64 (0, 0))) := fun W1 h => h.block _ _ _ _ (.inr (by decide)) xA
    have BB : Hid (∀ W1, Ks T A W1 → Boxed W1 By 87 (.func (.yield l) #[] #[]) ∧ Boxed W1 Bd 87 (downWV By Bd)) := fun W1 h => ⟨h.block _ _ _ _ (.inr (by decide)) byA, h.block _ _ _ _ (.inr (by decide)) bdA⟩
    have hny := ((pT_eq _ _ _).1 hy)
    have hny1 : y.n ≤ 9223372036854775807 := by omega
    obtain ⟨x0, x1, x2, x3, x4, x5, x6, x7⟩ := nd_cells xA
    have HW : Hid (Wy W base (.slice wa way.length wcap) way ∧ (∀ k, (Value.slice wa way.length wcap).ownBlock = some k → ¬ K k) ∧ PT T W y ∧ J pre K W ∧ base ≤ W.heap.size ∧ way.length + y.deep ≤ 1048576 ∧ (∃ post, pre ++ (visW way ink y ++ post) = all) ∧ way.length ≤ wcap) := ⟨hw, hvK, hy, hj, hb, hdeep, hall, hwc⟩
    clear hw hvK hy hj hb hdeep hall hwc hwm gA sA kA yA wA jA xA by0 bd0 byA bdA hY hny hc0 hY1
    subst hA
    refine callsIn_of_wp Tryz.func57 rfl trivial ?_ rfl
    simp only [Tryz.ntmps57, List.size_toArray, List.length_cons, List.length_nil, Nat.reduceAdd, Nat.reduceSub, Array.replicate_succ, Array.replicate_zero, List.push_toArray, List.append_toArray, List.nil_append, List.cons_append]
    obtain ⟨M, hM⟩ : ∃ M : Nat → World → Prop, M = fun i wr => wr.heap[W.heap.size]? = some (.cells (ndCells y (.slice wa way.length wcap) ink) 64 (0, 0)) ∧ Boxed wr By 87 (.func (.yield l) #[] #[]) ∧ Boxed wr Bd 87 (downWV By Bd) ∧
      PT T wr y ∧ Kw T base (.slice wa way.length wcap) way W wr ∧ ∃ K' : Nat → Prop, (∀ k, K' k → K k ∨ W.heap.size ≤ k) ∧ J (pre ++ (way, ink, y) :: catN (fun i => visW (way ++ [(i : Int)]) y.k (y.c i)) i) K' wr := ⟨_, rfl⟩
    gi_wp2_with ((try refine ⟨hdd _, ?_⟩); refine hR.mono ?_; clear hR hyy cby x0 x1 x2 x3 x4 x5 x6 x7; rintro e W1 ⟨rfl, hks, K1, hk1, hj1⟩; obtain ⟨x0, x1, x2, x3, x4, x5, x6, x7⟩ := nd_cells (XB.out W1 hks))
    have m0 : M 0 W1 := by
      rw [hM]
      obtain ⟨gA, sA, kA, yA⟩ := HA.out
      refine ⟨XB.out W1 hks, (BB.out W1 hks).1, (BB.out W1 hks).2, ?_, kA.trans (hks.kw kA.own), K1, fun k hk => ?_, by simpa [catN] using hj1⟩
      · refine PT.kept (fun k o hk ho he => ?_) yA
        cases o with
        | cells c t f => exact hks.block k c t f (.inl hk) he
        | _ => cases ho
      · rcases hk1 k hk with h | h
        · exact .inl h
        · right; simp at h; omega
    clear x0 x1 x2 x3 x4 x5 x6 x7 hks hk1 hj1 HA XB BB
    gi_loopw [15] (fun u wr => ∃ i : Nat, i ≤ y.n ∧ u = .int .i64 i ∧ M i wr) (fun u _ => y.n - (intOf u).toNat)
    case atStart => exact ⟨0, Nat.zero_le _, rfl, m0⟩
    case round =>
      obtain ⟨i, hi, rfl, hmi⟩ := hrel
      by_cases hin : i < y.n
      · have HQ : Hid (i < y.n) := hin
        have HM : Hid (M i wr) := hmi
        rw [hM] at hmi
        obtain ⟨q1, q2, q3, q4, -⟩ := hmi
        obtain ⟨b', o', ea, hb', hn', hx'⟩ := ((pT_eq _ _ _).1 q4).2.2 i hin
        obtain ⟨p0, p1, p2, p3, p4, p5⟩ := hn'
        clear q1 q2 q3 q4 hx'
        gi_wp2
        obtain ⟨D, hD⟩ : ∃ D, (wr.alloc (.cells (y.c i).cells 24)).drew = D := ⟨_, rfl⟩
        have gD : wr.grownBy D none := by rw [← hD]; exact grown_drew (World.grownBy_alloc wr _ none)
        have pD : D.heap[wr.heap.size]? = some (.cells (y.c i).cells 24 (0, 0)) := by rw [← hD]; exact alloc_new _ _
        have sD : D.heap.size = wr.heap.size + 1 := by rw [← hD]; exact World.size_alloc _ _
        have HM2 := HM.out
        rw [hM] at HM2
        obtain ⟨q1, q2, q3, q4, q5, K2, q6, q7⟩ := HM2
        have xD := (gD.block _ (heap_lt q1) (by simp)).trans q1
        have byD : Boxed D By 87 (.func (.yield l) #[] #[]) := (gD.block _ q2.lt (by simp)).trans q2
        have bdD : Boxed D Bd 87 (downWV By Bd) := (gD.block _ q3.lt (by simp)).trans q3
        have yD : PT T D y := PT.of (fun p u hp => gD.cell hp (by simp)) q4
        have kD : Kw T base (.slice wa way.length wcap) way W D := q5.trans (Kw.grown q5.own gD)
        have jD := hJ _ _ _ _ _ gD (fun k e => by cases e) q7
        have kK := hKs _ _ _ q7
        refine bgi (fun w' => Boxed w' Bd 87 (downWV By Bd) ∧ w'.heap[W.heap.size]? = some (.cells (ndCells y (.slice wa way.length wcap) ink) 64 (0, 0)) ∧ w'.heap[wr.heap.size]? = some (.cells (y.c i).cells 24 (0, 0)))
          (by rw [hD]; exact ⟨bdD, xD, pD⟩) (fun hHeld => ?_)
        rw [hD] at hHeld ⊢
        clear hD q1 q2 q3 q4 q5 q7 p0 p1 p2 p3 p4 p5
        refine tki 0 ?_ (hy := by intro w9 hSw; obtain ⟨h1, -, -⟩ := hSw; have c := h1.cell; clear h1; go_simp; (try with_reducible rfl))
        refine tki 1 ?_ (hy := by intro w9 hSw; obtain ⟨-, -, h1⟩ := hSw; obtain ⟨c0, c1, c2, c3, c4, c5⟩ := nodeP_box h1; clear h1; go_simp; (try with_reducible rfl))
        refine tki 2 ?_
        refine tki 3 ?_ (hy := by intro w9 hSw; obtain ⟨-, h1, -⟩ := hSw; obtain ⟨x0, x1, x2, x3, x4, x5, x6, x7⟩ := nd_cells h1; clear h1; go_simp; (try with_reducible rfl))
        refine tki 4 ?_
        refine tki 7 ?_
        refine tki 8 ?_
        refine tki 9 ?_ (hy := by intro w9 hSw; obtain ⟨-, h1, -⟩ := hSw; obtain ⟨x0, x1, x2, x3, x4, x5, x6, x7⟩ := nd_cells h1; clear h1; go_simp; (try with_reducible rfl))
        refine rdi 5 (fun K3 hK3 => ?_)
        go_simp
        obtain ⟨E, hE⟩ : ∃ E, D.alloc (.cells #[.int .i64 i] 3) = E := ⟨_, rfl⟩
        have gE : D.grownBy E none := by rw [← hE]; exact World.grownBy_alloc _ _ _
        have iE : Boxed E (wr.heap.size + 1) 3 (.int .i64 i) := by rw [← hE, ← sD]; exact Boxed.new _ _ _
        have sE : E.heap.size = wr.heap.size + 2 := by rw [← hE, World.size_alloc, sD]
        have kE : Kw T base (.slice wa way.length wcap) way W E := kD.trans (Kw.grown kD.own gE)
        have jE := hJ _ _ _ _ _ gE (fun k e => by cases e) jD
        have byE : Boxed E By 87 (.func (.yield l) #[] #[]) := (gE.block _ byD.lt (by simp)).trans byD
        have yE : PT T E y := PT.of (fun p u hp => gE.cell hp (by simp)) yD
        obtain ⟨hw, hvK, hy, hj, hb, hdeep, hall, hwc⟩ := HW.out
        have hsz := kE.size
        rw [hE]
        refine hK3.out _ _ ⟨(gE.block _ bdD.lt (by simp)).trans bdD, (gE.block _ (heap_lt xD) (by simp)).trans xD, (gE.block _ (heap_lt pD) (by simp)).trans pD⟩ (fun hHeld => ?_)
        clear hK3 K3 hE
        obtain ⟨bdE, xE, pE⟩ := hHeld
        obtain ⟨v', F, hrun, hst⟩ := way_append kE.own (by omega) (by omega) iE
        obtain ⟨va, vc, hv', -, -, -⟩ := hst.own.shape
        rw [show (way ++ [(i : Int)]).length = way.length + 1 by simp] at hv'
        subst hv'
        have ne : ∀ (k : Nat) (c : Array Value) (t : TypeId) (f : Nat × Nat), E.heap[k]? = some (.cells c t f) → t ≠ 3 → F.heap[k]? = some (.cells c t f) := fun k c t f hc ht => by
          refine (hst.grown.block k (heap_lt hc) (fun e => ?_)).trans hc
          obtain ⟨cur, hcur⟩ := kE.own.intB e.symm
          rw [hc] at hcur
          injection hcur with hcur
          injection hcur with _ q
          exact ht q
        have bdF : Boxed F Bd 87 (downWV By Bd) := ne _ _ _ _ bdE (by decide)
        have byF : Boxed F By 87 (.func (.yield l) #[] #[]) := ne _ _ _ _ byE (by decide)
        have xF := ne _ _ _ _ xE (by decide)
        have pF := ne _ _ _ _ pE (by decide)
        have nKE : ∀ k, (Value.slice wa way.length wcap).ownBlock = some k → ¬ K2 k ∧ k < W.heap.size := fun k hk => by
          have hlt := (hw.lt k hk).2
          refine ⟨fun q => ?_, hlt⟩
          rcases q6 k q with h | h
          · exact hvK k hk h
          · omega
        have jF := hJ _ _ _ _ _ hst.grown (fun k hk => ⟨kE.own.intB hk, (nKE k hk).1, (kE.own.lt k hk).1⟩) jE
        have yF : PT T F y := by
          refine PT.kept (W := E) (fun k o hk ho he => ?_) yE
          refine (hst.grown.block k (heap_lt he) (fun e => ?_)).trans he
          have := (kE.own.lt k e.symm).1
          have := hT k hk
          omega
        have hsF := hst.grown.size
        have nKF : ∀ k, (Value.slice va (way.length + 1) vc).ownBlock = some k → ¬ K2 k := fun k hk => by
          rcases hst.at' with ⟨g, cap, e1, e2⟩ | e
          · rw [e2] at hk
            exact (nKE k (by rw [e1]; exact hk)).1
          · rw [e] at hk
            injection hk with hk
            intro q
            have := kK k q
            omega
        obtain ⟨b2, o2, -, -, -, yi⟩ := ((pT_eq _ _ _).1 yF).2.2 i HQ.out
        have key := ih (y.c i) (by have := y.size_part i HQ.out; omega) (n - 1) (.slice va (way.length + 1) vc) (way ++ [(i : Int)]) y.k _ K2 F byF bdF hst.own nKF yi jF (by omega)
          (by have := y.deep_part i HQ.out; simp; omega)
          (by
            obtain ⟨post, hpo⟩ := hall
            obtain ⟨r', hr'⟩ := catN_split (fun i => visW (way ++ [(i : Int)]) y.k (y.c i)) HQ.out
            refine ⟨r' ++ post, ?_⟩
            rw [visW_eq way] at hpo
            rw [← hpo, hr']
            simp)
        refine rdi 6 (fun K3 hK3 => ?_)
        rw [if_pos (by rfl)]
        refine wpInOp_append (.tmp 23) (.tmp 25) 39 rfl _ _ _ rfl rfl hrun ?_
        refine hK3.out _ _ ⟨bdF, xF, pF⟩ (fun hHeld => ?_)
        clear hK3 K3 hrun
        refine tki 10 ?_
        refine rdi 11 (fun K3 hK3 => ?_)
        go_simp
        refine ⟨trivial, hdd _, ?_⟩
        refine key.mono ?_
        clear key
        rintro e X ⟨rfl, hkX, K4, hk4, hj4⟩
        have bdX := hkX.other hst.own bdF (by decide) (by decide)
        have byX := hkX.other hst.own byF (by decide) (by decide)
        have xX := hkX.other hst.own xF (by decide) (by decide)
        have pX := hkX.other hst.own pF (by decide) (by decide)
        have kX : Kw T base (.slice wa way.length wcap) way W X := kE.trans (Kw.child hst hkX (fun a n c e => by injection e with e1 e2 e3; omega))
        have yX : PT T X y := by
          refine PT.kept (W := F) (fun k o hk ho he => ?_) yF
          cases o with
          | cells c t f =>
            refine hkX.block k c t f (fun e => ?_) (.inl hk) he
            have := (hst.own.lt k e).1
            have := hT k hk
            omega
          | _ => cases ho
        have mX : M (i + 1) X := by
          rw [hM]
          refine ⟨xX, byX, bdX, yX, kX, K4, fun k hk => ?_, by simpa [catN] using hj4⟩
          rcases hk4 k hk with h | h
          · exact q6 k h
          · right; omega
        go_simp
        refine hK3.out _ _ ⟨bdX, xX, pX⟩ (fun hHeld => ?_)
        clear hK3 K3
        refine tki 12 ?_
        refine dni ?_
        gi_wp2
        simp only [ea]
        refine ⟨⟨_, _, _, _, _, _, _, _, _, _, _, _, _, _, _, _, _, _, _, _, _, _, ⟨i + 1, HQ.out, by simp, mX⟩, rfl⟩, ?_⟩
        have := HQ.out
        simp [intOf]
        omega
      · have hin' : i = y.n := by omega
        subst hin'
        gi_wp2
        go_ret
        rw [hM] at hmi
        obtain ⟨-, -, -, -, q5, K2, q6, q7⟩ := hmi
        exact ⟨rfl, q5, K2, q6, by rw [visW_eq]; exact q7⟩
end Go.Proofs.YtfnfegcjgnbgbaaGreatDoor
