/-
  Rows of patterns, of conditions and of numbers, as lists; of no function.
-/
import Derived.Test.YtmbinllefkifiaaPatClone
import Derived.Test.YtmbinllefkifiaaExprClone
import Derived.Test.YtmbinllefkifiaaOrdSt
import Derived.Maps.AppendAt
namespace Go.Proofs.Ytmbinllefkifiaa
open Go.RowKit

theorem map_getD {α : Type} (d : α) (L : List α) : (List.range L.length).map (fun i => L.getD i d) = L := by
  apply List.ext_getElem?
  intro i
  by_cases h : i < L.length
  · simp [h]
  · simp [h]
theorem wpOp_append_run15 {P : Program} {w w' : World} {o : Oper} {a : Act} {K : Act → World → Prop} {Q : Exit → Act → World → Prop} (s x : Operand) (t : TypeId)
    (hop : o.op = Op.call { callee := Callee.builtin Builtin.append, args := #[s, x], argTypes := #[t, t] }) (v y v' : Value) (hs : a.eval s = v) (hx : a.eval x = y)
    (hrun : (Builtin.append_ #[t, t] o.type #[v, y]).run P w = .ok v' w') (hK : K (a.put o.dst v') w') : Oper.wp P o a w K Q := by
  unfold Oper.wp
  simp [execOp, hop, resolve, invoke, builtin, hs, hx, hrun, Result.andThen]
  exact hK
theorem own_low15 {w : World} {B B' e k n : Nat} {v : Value} {xs : List Value} (h : w.ownsRow B e k v n xs) (hB : B' ≤ B) : w.ownsRow B' e k v n xs := by
  refine ⟨h.1, ?_⟩
  rcases h.2 with h2 | ⟨g, cap, cur, e1, hg, h3⟩
  · exact .inl h2
  · exact .inr ⟨g, cap, cur, e1, Nat.le_trans hB hg, h3⟩
/-- What is left behind the first of a row. -/
theorem cut_one (b o n cap k : Nat) : sliced (some ⟨b, o, none⟩) 1 n cap k = .slice (some ⟨b, if cap = 1 then o else o + k, none⟩) (n - 1) (cap - 1) := by
  unfold sliced
  by_cases h : cap = 1
  · simp [h]
  · simp [h, Addr.add]
/-- The cells of some, one behind the other. -/
def rowLP (L : List Pt) : List Value := L.flatMap fun x => x.cells.toList
theorem rowLP_app (L M : List Pt) : rowLP (L ++ M) = rowLP L ++ rowLP M := List.flatMap_append
/-- They lie there, one behind the other. -/
def RwP (w : World) (b o : Nat) (L : List Pt) : Prop := ∀ (i : Nat) (x : Pt), L[i]? = some x → NodeP w b (o + i * 6) x
theorem RwP.later {w w' : World} {b o : Nat} {L : List Pt} (h : RwP w b o L) (hB : Below w.heap.size w w') : RwP w' b o L := fun i x hx => (h i x hx).later hB
theorem RwP.head {w : World} {b o : Nat} {x : Pt} {L : List Pt} (h : RwP w b o (x :: L)) : NodeP w b o x := by
  have := h 0 x (by simp)
  rwa [Nat.zero_mul, Nat.add_zero] at this
theorem RwP.drop {w : World} {b o : Nat} {L : List Pt} (h : RwP w b o L) (n : Nat) : RwP w b (o + n * 6) (L.drop n) := fun i x hx => by
  rw [List.getElem?_drop] at hx
  have := h (n + i) x hx
  rwa [show o + (n + i) * 6 = o + n * 6 + i * 6 by omega] at this
theorem RwP.take {w : World} {b o : Nat} {L : List Pt} (h : RwP w b o L) (n : Nat) : RwP w b o (L.take n) := fun i x hx => by
  rw [List.getElem?_take] at hx
  split at hx
  · exact h i x hx
  · cases hx
/-- What is left behind the first. -/
theorem RwP.cut {w : World} {b o cap : Nat} {x : Pt} {L : List Pt} (h : RwP w b o (x :: L)) (hc : L.length + 1 ≤ cap) : RwP w b (if cap = 1 then o else o + 6) L := by
  by_cases e : cap = 1
  · have : L = [] := List.length_eq_zero_iff.1 (by omega)
    subst this
    exact fun i x hx => by simp at hx
  · rw [if_neg e]
    have := h.drop 1
    rwa [Nat.one_mul] at this
theorem rowP_list (c : Nat → Pt) : ∀ n, rowP c n = rowLP ((List.range n).map c)
  | 0 => rfl
  | n + 1 => by
    rw [rowP, rowP_list c n, List.range_succ, List.map_append, rowLP_app]
    simp [rowLP]
theorem rowP_getD (L : List Pt) : rowP (fun i => L.getD i .nil) L.length = rowLP L := by rw [rowP_list, map_getD]
/-- Some more behind a row that the call owns. -/
theorem pushLP {w : World} {base n : Nat} {v : Value} {xs : List Value} (h : w.ownsRow base 24 6 v n xs) (hb : base ≤ w.heap.size) (b o m k : Nat) (M : List Pt) (hM : RwP w b o M) (hm : M.length = m) (hn : n + m ≤ 16777216) :
    ∃ v' w', (Builtin.append_ #[22, 22] 22 #[v, .slice (some ⟨b, o, none⟩) m k]).run Try.prog w = .ok v' w' ∧ w'.ownsRow base 24 6 v' (n + m) (xs ++ rowLP M) ∧ Below base w w' := by
  obtain ⟨v', w', h1, h2, h3⟩ := push_p h hb ⟨b, o, none⟩ m k (fun i => M.getD i .nil) (fun i hi => ⟨b, o, rfl, hM i _ (by simp [show i < M.length by omega])⟩) hn
  refine ⟨v', w', h1, ?_, (Below.refl base w).grown h3 hb fun k e => (h.lt k e).1⟩
  rw [← hm, rowP_getD, hm] at h2
  exact h2
theorem push1P {w : World} {base n : Nat} {v : Value} {xs : List Value} (h : w.ownsRow base 24 6 v n xs) (hb : base ≤ w.heap.size) (hn : n ≤ 2097152) (x : Pt) :
    ∃ v' w', (Builtin.append_ #[22, 22] 22 #[v, .slice (some ⟨w.heap.size, 0, none⟩) 1 1]).run Try.prog (w.alloc (.cells x.cells 24)) = .ok v' w' ∧ w'.ownsRow base 24 6 v' (n + 1) (xs ++ rowLP [x]) ∧ Below base w w' := by
  obtain ⟨v', w', h1, h2, h3⟩ := pushLP (h.alloc (.cells x.cells 24)) (by simp; omega) w.heap.size 0 1 1 [x] (fun i y hy => by
    match i, hy with
    | 0, hy => simp at hy; subst hy; simpa using nodeP_new w 24 x) rfl (by omega)
  exact ⟨v', w', h1, h2, ((Below.refl base w).alloc hb _).trans h3⟩
theorem ownLP {w : World} {base n : Nat} {v : Value} {L : List Pt} (h : w.ownsRow base 24 6 v n (rowLP L)) (hl : L.length = n) (h0 : 0 < n) :
    ∃ g cap, v = .slice (some ⟨g, 0, none⟩) n cap ∧ n ≤ cap ∧ cap ≤ maxLen ∧ base ≤ g ∧ g < w.heap.size ∧ RwP w g 0 L := by
  rw [← rowP_getD, hl] at h
  obtain ⟨a, cap, rfl, h1, h2, h3⟩ := ownP_nodes h
  obtain ⟨g, rfl, g1, g2, _, g4⟩ := h3 h0
  refine ⟨g, cap, rfl, h1, h2, g1, g2, fun i x hx => ?_⟩
  have hi := (List.getElem?_eq_some_iff.1 hx).1
  have := g4 i (by omega)
  rw [List.getD_eq_getElem?_getD, hx] at this
  simpa using this
/-- The cells of some, one behind the other. -/
def rowLX (L : List X) : List Value := L.flatMap fun x => x.cells.toList
theorem rowLX_app (L M : List X) : rowLX (L ++ M) = rowLX L ++ rowLX M := List.flatMap_append
/-- They lie there, one behind the other. -/
def RwX (w : World) (b o : Nat) (L : List X) : Prop := ∀ (i : Nat) (x : X), L[i]? = some x → Node w b (o + i * 7) x
theorem RwX.later {w w' : World} {b o : Nat} {L : List X} (h : RwX w b o L) (hB : Below w.heap.size w w') : RwX w' b o L := fun i x hx => (h i x hx).later hB
theorem RwX.head {w : World} {b o : Nat} {x : X} {L : List X} (h : RwX w b o (x :: L)) : Node w b o x := by
  have := h 0 x (by simp)
  rwa [Nat.zero_mul, Nat.add_zero] at this
theorem RwX.drop {w : World} {b o : Nat} {L : List X} (h : RwX w b o L) (n : Nat) : RwX w b (o + n * 7) (L.drop n) := fun i x hx => by
  rw [List.getElem?_drop] at hx
  have := h (n + i) x hx
  rwa [show o + (n + i) * 7 = o + n * 7 + i * 7 by omega] at this
theorem RwX.take {w : World} {b o : Nat} {L : List X} (h : RwX w b o L) (n : Nat) : RwX w b o (L.take n) := fun i x hx => by
  rw [List.getElem?_take] at hx
  split at hx
  · exact h i x hx
  · cases hx
/-- What is left behind the first. -/
theorem RwX.cut {w : World} {b o cap : Nat} {x : X} {L : List X} (h : RwX w b o (x :: L)) (hc : L.length + 1 ≤ cap) : RwX w b (if cap = 1 then o else o + 7) L := by
  by_cases e : cap = 1
  · have : L = [] := List.length_eq_zero_iff.1 (by omega)
    subst this
    exact fun i x hx => by simp at hx
  · rw [if_neg e]
    have := h.drop 1
    rwa [Nat.one_mul] at this
theorem rowX_list (c : Nat → X) : ∀ n, rowX c n = rowLX ((List.range n).map c)
  | 0 => rfl
  | n + 1 => by
    rw [rowX, rowX_list c n, List.range_succ, List.map_append, rowLX_app]
    simp [rowLX]
theorem rowX_getD (L : List X) : rowX (fun i => L.getD i .nil) L.length = rowLX L := by rw [rowX_list, map_getD]
/-- Some more behind a row that the call owns. -/
theorem pushLX {w : World} {base n : Nat} {v : Value} {xs : List Value} (h : w.ownsRow base 40 7 v n xs) (hb : base ≤ w.heap.size) (b o m k : Nat) (M : List X) (hM : RwX w b o M) (hm : M.length = m) (hn : n + m ≤ 16777216) :
    ∃ v' w', (Builtin.append_ #[29, 29] 29 #[v, .slice (some ⟨b, o, none⟩) m k]).run Try.prog w = .ok v' w' ∧ w'.ownsRow base 40 7 v' (n + m) (xs ++ rowLX M) ∧ Below base w w' := by
  obtain ⟨v', w', h1, h2, h3⟩ := push_x h hb ⟨b, o, none⟩ m k (fun i => M.getD i .nil) (fun i hi => ⟨b, o, rfl, hM i _ (by simp [show i < M.length by omega])⟩) hn
  refine ⟨v', w', h1, ?_, (Below.refl base w).grown h3 hb fun k e => (h.lt k e).1⟩
  rw [← hm, rowX_getD, hm] at h2
  exact h2
theorem push1X {w : World} {base n : Nat} {v : Value} {xs : List Value} (h : w.ownsRow base 40 7 v n xs) (hb : base ≤ w.heap.size) (hn : n ≤ 2097152) (x : X) :
    ∃ v' w', (Builtin.append_ #[29, 29] 29 #[v, .slice (some ⟨w.heap.size, 0, none⟩) 1 1]).run Try.prog (w.alloc (.cells x.cells 40)) = .ok v' w' ∧ w'.ownsRow base 40 7 v' (n + 1) (xs ++ rowLX [x]) ∧ Below base w w' := by
  obtain ⟨v', w', h1, h2, h3⟩ := pushLX (h.alloc (.cells x.cells 40)) (by simp; omega) w.heap.size 0 1 1 [x] (fun i y hy => by
    match i, hy with
    | 0, hy => simp at hy; subst hy; simpa using node_new w 40 x) rfl (by omega)
  exact ⟨v', w', h1, h2, ((Below.refl base w).alloc hb _).trans h3⟩
theorem ownLX {w : World} {base n : Nat} {v : Value} {L : List X} (h : w.ownsRow base 40 7 v n (rowLX L)) (hl : L.length = n) (h0 : 0 < n) :
    ∃ g cap, v = .slice (some ⟨g, 0, none⟩) n cap ∧ n ≤ cap ∧ cap ≤ maxLen ∧ base ≤ g ∧ g < w.heap.size ∧ RwX w g 0 L := by
  rw [← rowX_getD, hl] at h
  obtain ⟨a, cap, rfl, h1, h2, h3⟩ := own_nodes h
  obtain ⟨g, rfl, g1, g2, _, g4⟩ := h3 h0
  refine ⟨g, cap, rfl, h1, h2, g1, g2, fun i x hx => ?_⟩
  have hi := (List.getElem?_eq_some_iff.1 hx).1
  have := g4 i (by omega)
  rw [List.getD_eq_getElem?_getD, hx] at this
  simpa using this
/-- A cell with a number. -/
def NodeI (w : World) (b o : Nat) (z : Int) : Prop := w.cell? ⟨b, o, none⟩ = some (.int .i64 z)
theorem NodeI.later {w w' : World} {b o : Nat} {z : Int} (h : NodeI w b o z) (hB : Below w.heap.size w w') : NodeI w' b o z := cell_later h hB
theorem NodeI.at {w : World} {b o : Nat} {z : Int} (h : NodeI w b o z) : w.cell? ⟨b, o, none⟩ = some (.int .i64 z) := h
theorem infoI15 : (Try.prog.info? 3).map (fun i => (i.zero, i.size, i.bytes)) = some (some (.int .i64 0), 1, 8) := by kernel_rfl
/-- The cells of some, one behind the other. -/
def rowLI (L : List Int) : List Value := L.flatMap fun x => [Value.int .i64 x]
theorem rowLI_app (L M : List Int) : rowLI (L ++ M) = rowLI L ++ rowLI M := List.flatMap_append
/-- They lie there, one behind the other. -/
def RwI (w : World) (b o : Nat) (L : List Int) : Prop := ∀ (i : Nat) (x : Int), L[i]? = some x → NodeI w b (o + i * 1) x
theorem RwI.later {w w' : World} {b o : Nat} {L : List Int} (h : RwI w b o L) (hB : Below w.heap.size w w') : RwI w' b o L := fun i x hx => (h i x hx).later hB
theorem RwI.head {w : World} {b o : Nat} {x : Int} {L : List Int} (h : RwI w b o (x :: L)) : NodeI w b o x := by
  have := h 0 x (by simp)
  rwa [Nat.zero_mul, Nat.add_zero] at this
theorem RwI.drop {w : World} {b o : Nat} {L : List Int} (h : RwI w b o L) (n : Nat) : RwI w b (o + n * 1) (L.drop n) := fun i x hx => by
  rw [List.getElem?_drop] at hx
  have := h (n + i) x hx
  rwa [show o + (n + i) * 1 = o + n * 1 + i * 1 by omega] at this
theorem RwI.take {w : World} {b o : Nat} {L : List Int} (h : RwI w b o L) (n : Nat) : RwI w b o (L.take n) := fun i x hx => by
  rw [List.getElem?_take] at hx
  split at hx
  · exact h i x hx
  · cases hx
/-- What is left behind the first. -/
theorem RwI.cut {w : World} {b o cap : Nat} {x : Int} {L : List Int} (h : RwI w b o (x :: L)) (hc : L.length + 1 ≤ cap) : RwI w b (if cap = 1 then o else o + 1) L := by
  by_cases e : cap = 1
  · have : L = [] := List.length_eq_zero_iff.1 (by omega)
    subst this
    exact fun i x hx => by simp at hx
  · rw [if_neg e]
    have := h.drop 1
    rwa [Nat.one_mul] at this
theorem rowLI_map (L : List Int) : rowLI L = L.map (Value.int .i64) := by
  induction L with
  | nil => rfl
  | cons x L ih => simp only [rowLI, List.flatMap_cons, List.map_cons] at ih ⊢; rw [ih]; rfl
theorem pushLI {w : World} {base n : Nat} {v : Value} {xs : List Value} (h : w.ownsRow base 3 1 v n xs) (hb : base ≤ w.heap.size) (b o m k : Nat) (M : List Int) (hM : RwI w b o M) (hm : M.length = m) (hn : n + m ≤ 16777216) :
    ∃ v' w', (Builtin.append_ #[49, 49] 49 #[v, .slice (some ⟨b, o, none⟩) m k]).run Try.prog w = .ok v' w' ∧ w'.ownsRow base 3 1 v' (n + m) (xs ++ rowLI M) ∧ Below base w w' := by
  obtain ⟨i0, hi, hz0, hz1, hz2⟩ := info_parts infoI15
  obtain ⟨v', w', hrun, hown', hgrow, _⟩ := run_append_own (P := Try.prog) (w := w) base 49 49 3 i0 _ 1 8 Try.underlying49 hi hz0 hz1 hz2 rfl (by decide) v n xs h ⟨b, o, none⟩ m k (rowLI M) (by rw [rowLI_map]; simp [hm])
    (fun j u hu => by
      rw [rowLI_map, List.getElem?_map] at hu
      cases e : M[j]? with
      | none => rw [e] at hu; cases hu
      | some z =>
        rw [e] at hu
        cases hu
        rw [add_none]
        have := hM j z e
        rwa [Nat.mul_one] at this) (by intro u hu; rw [rowLI_map] at hu; obtain ⟨z, _, rfl⟩ := List.mem_map.1 hu; rfl) (by unfold maxLen; omega) (by omega) hb
  exact ⟨v', w', hrun, hown', (Below.refl base w).grown hgrow hb fun k e => (h.lt k e).1⟩
theorem push1I {w : World} {base n : Nat} {v : Value} {xs : List Value} (h : w.ownsRow base 3 1 v n xs) (hb : base ≤ w.heap.size) (hn : n ≤ 2097152) (x : Int) :
    ∃ v' w', (Builtin.append_ #[49, 49] 49 #[v, .slice (some ⟨w.heap.size, 0, none⟩) 1 1]).run Try.prog (w.alloc (.cells #[.int .i64 x] 3)) = .ok v' w' ∧ w'.ownsRow base 3 1 v' (n + 1) (xs ++ rowLI [x]) ∧ Below base w w' := by
  obtain ⟨v', w', h1, h2, h3⟩ := pushLI (h.alloc (.cells #[.int .i64 x] 3)) (by simp; omega) w.heap.size 0 1 1 [x] (fun i y hy => by
    match i, hy with
    | 0, hy => simp at hy; subst hy; simp [NodeI]) rfl (by omega)
  exact ⟨v', w', h1, h2, ((Below.refl base w).alloc hb _).trans h3⟩
theorem ownLI {w : World} {base n : Nat} {v : Value} {L : List Int} (h : w.ownsRow base 3 1 v n (rowLI L)) (h0 : 0 < n) :
    ∃ g cap, v = .slice (some ⟨g, 0, none⟩) n cap ∧ n ≤ cap ∧ cap ≤ maxLen ∧ base ≤ g ∧ g < w.heap.size ∧ RwI w g 0 L := by
  rcases h.2 with ⟨_, e⟩ | ⟨g, cap, cur, rfl, hg, hc, hnc, hcm, hs, ht⟩
  · omega
  · refine ⟨g, cap, rfl, hnc, hcm, hg, (Array.getElem?_eq_some_iff.1 hc).1, fun i x hx => ?_⟩
    have e : (rowLI L)[i]? = some (.int .i64 x) := by rw [rowLI_map, List.getElem?_map, hx]; rfl
    rw [← ht] at e
    rw [List.getElem?_take] at e
    split at e
    · show w.cell? _ = _
      rw [Nat.mul_one, Nat.zero_add]
      simp only [World.cell?, hc]
      rw [← e, Array.getElem?_toList]
      rfl
    · cases e
end Go.Proofs.Ytmbinllefkifiaa
