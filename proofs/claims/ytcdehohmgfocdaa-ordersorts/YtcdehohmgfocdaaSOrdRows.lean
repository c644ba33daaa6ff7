/-
  Rows of patterns, of conditions and of numbers, as lists; of no function.
  order.merged, of patterns.
  order.sorted, of patterns.
-/
import Derived.Test.YtcdehohmgfocdaaSBrief
import Derived.Test.YtcdehohmgfocdaaSPatMath
import Derived.Test.YtcdehohmgfocdaaSExprBase
import Derived.Test.YtcdehohmgfocdaaSNamesMath
import Derived.Test.YtcdehohmgfocdaaSExprAlone
import Derived.Maps.AppendAt
import Derived.WalkMore
namespace Go.Proofs.Ytcdehohmgfocdaa
open Go.RowKit

theorem map_getD {α : Type} (d : α) (L : List α) : (List.range L.length).map (fun i => L.getD i d) = L := by
  apply List.ext_getElem?
  intro i
  by_cases h : i < L.length
  · simp [h]
  · simp [h]
theorem wpOp_append_run15 {P : Program} {w w' : World} {o : Oper} {a : Act} {K : Act → World → Prop} {Q : Exit → Act → World → Prop} (s x : Operand) (t : TypeId)
    (hop : o.op = Op.call { callee := Callee.builtin Builtin.append, args := #[s, x], argTypes := #[t, t] }) (v y v' : Value) (hs : a.eval s = v) (hx : a.eval x = y)
    (hrun : (Builtin.append_ #[t, t] o.type #[v, y]).run P w = .ok v' w') (hK : K (a.put o.dst v') w') : Oper.wp P o a w K Q := by
  unfold Oper.wp
  simp [execOp, hop, resolve, invoke, builtin, hs, hx, hrun, Result.andThen]
  exact hK
theorem own_low15 {w : World} {B B' e k n : Nat} {v : Value} {xs : List Value} (h : w.ownsRow B e k v n xs) (hB : B' ≤ B) : w.ownsRow B' e k v n xs := by
  refine ⟨h.1, ?_⟩
  rcases h.2 with h2 | ⟨g, cap, cur, e1, hg, h3⟩
  · exact .inl h2
  · exact .inr ⟨g, cap, cur, e1, Nat.le_trans hB hg, h3⟩
/-- The cells of some, one behind the other. -/
def rowLP (L : List Pt) : List Value := L.flatMap fun x => x.cells.toList
theorem rowLP_app (L M : List Pt) : rowLP (L ++ M) = rowLP L ++ rowLP M := List.flatMap_append
/-- They lie there, one behind the other. -/
def RwP (w : World) (b o : Nat) (L : List Pt) : Prop := ∀ (i : Nat) (x : Pt), L[i]? = some x → NodeP w b (o + i * 6) x
theorem RwP.later {w w' : World} {b o : Nat} {L : List Pt} (h : RwP w b o L) (hB : Below w.heap.size w w') : RwP w' b o L := fun i x hx => (h i x hx).later hB
theorem RwP.head {w : World} {b o : Nat} {x : Pt} {L : List Pt} (h : RwP w b o (x :: L)) : NodeP w b o x := by
  have := h 0 x (by simp)
  rwa [Nat.zero_mul, Nat.add_zero] at this
theorem RwP.drop {w : World} {b o : Nat} {L : List Pt} (h : RwP w b o L) (n : Nat) : RwP w b (o + n * 6) (L.drop n) := fun i x hx => by
  rw [List.getElem?_drop] at hx
  have := h (n + i) x hx
  rwa [show o + (n + i) * 6 = o + n * 6 + i * 6 by omega] at this
theorem RwP.take {w : World} {b o : Nat} {L : List Pt} (h : RwP w b o L) (n : Nat) : RwP w b o (L.take n) := fun i x hx => by
  rw [List.getElem?_take] at hx
  split at hx
  · exact h i x hx
  · cases hx
/-- What is left behind the first. -/
theorem RwP.cut {w : World} {b o cap : Nat} {x : Pt} {L : List Pt} (h : RwP w b o (x :: L)) (hc : L.length + 1 ≤ cap) : RwP w b (if cap = 1 then o else o + 6) L := by
  by_cases e : cap = 1
  · have : L = [] := List.length_eq_zero_iff.1 (by omega)
    subst this
    exact fun i x hx => by simp at hx
  · rw [if_neg e]
    have := h.drop 1
    rwa [Nat.one_mul] at this
theorem rowP_list (c : Nat → Pt) : ∀ n, rowP c n = rowLP ((List.range n).map c)
  | 0 => rfl
  | n + 1 => by
    rw [rowP, rowP_list c n, List.range_succ, List.map_append, rowLP_app]
    simp [rowLP]
theorem rowP_getD (L : List Pt) : rowP (fun i => L.getD i .nil) L.length = rowLP L := by rw [rowP_list, map_getD]
/-- Some more behind a row that the call owns. -/
theorem pushLP {w : World} {base n : Nat} {v : Value} {xs : List Value} (h : w.ownsRow base 27 6 v n xs) (hb : base ≤ w.heap.size) (b o m k : Nat) (M : List Pt) (hM : RwP w b o M) (hm : M.length = m) (hn : n + m ≤ 1759218604390) :
    ∃ v' w', (Builtin.append_ #[22, 22] 22 #[v, .slice (some ⟨b, o, none⟩) m k]).run Try.prog w = .ok v' w' ∧ w'.ownsRow base 27 6 v' (n + m) (xs ++ rowLP M) ∧ Below base w w' := by
  obtain ⟨v', w', h1, h2, h3⟩ := push_p h hb ⟨b, o, none⟩ m k (fun i => M.getD i .nil) (fun i hi => ⟨b, o, rfl, hM i _ (by simp [show i < M.length by omega])⟩) hn
  refine ⟨v', w', h1, ?_, (Below.refl base w).grown h3 hb fun k e => (h.lt k e).1⟩
  rw [← hm, rowP_getD, hm] at h2
  exact h2
theorem push1P {w : World} {base n : Nat} {v : Value} {xs : List Value} (h : w.ownsRow base 27 6 v n xs) (hb : base ≤ w.heap.size) (hn : n ≤ 1759218604389) (x : Pt) :
    ∃ v' w', (Builtin.append_ #[22, 22] 22 #[v, .slice (some ⟨w.heap.size, 0, none⟩) 1 1]).run Try.prog (w.alloc (.cells x.cells 27)) = .ok v' w' ∧ w'.ownsRow base 27 6 v' (n + 1) (xs ++ rowLP [x]) ∧ Below base w w' := by
  obtain ⟨v', w', h1, h2, h3⟩ := pushLP (h.alloc (.cells x.cells 27)) (by simp; omega) w.heap.size 0 1 1 [x] (fun i y hy => by
    match i, hy with
    | 0, hy => simp at hy; subst hy; simpa using nodeP_new w 27 x) rfl (by omega)
  exact ⟨v', w', h1, h2, ((Below.refl base w).alloc hb _).trans h3⟩
theorem ownLP {w : World} {base n : Nat} {v : Value} {L : List Pt} (h : w.ownsRow base 27 6 v n (rowLP L)) (hl : L.length = n) (h0 : 0 < n) :
    ∃ g cap, v = .slice (some ⟨g, 0, none⟩) n cap ∧ n ≤ cap ∧ cap ≤ maxLen ∧ base ≤ g ∧ g < w.heap.size ∧ RwP w g 0 L := by
  rw [← rowP_getD, hl] at h
  obtain ⟨a, cap, rfl, h1, h2, h3⟩ := ownP_nodes h
  obtain ⟨g, rfl, g1, g2, _, g4⟩ := h3 h0
  refine ⟨g, cap, rfl, h1, h2, g1, g2, fun i x hx => ?_⟩
  have hi := (List.getElem?_eq_some_iff.1 hx).1
  have := g4 i (by omega)
  rw [List.getD_eq_getElem?_getD, hx] at this
  simpa using this
/-- The cells of some, one behind the other. -/
def rowLX (L : List X) : List Value := L.flatMap fun x => x.cells.toList
theorem rowLX_app (L M : List X) : rowLX (L ++ M) = rowLX L ++ rowLX M := List.flatMap_append
/-- They lie there, one behind the other. -/
def RwX (w : World) (b o : Nat) (L : List X) : Prop := ∀ (i : Nat) (x : X), L[i]? = some x → Node w b (o + i * 7) x
theorem RwX.later {w w' : World} {b o : Nat} {L : List X} (h : RwX w b o L) (hB : Below w.heap.size w w') : RwX w' b o L := fun i x hx => (h i x hx).later hB
theorem RwX.head {w : World} {b o : Nat} {x : X} {L : List X} (h : RwX w b o (x :: L)) : Node w b o x := by
  have := h 0 x (by simp)
  rwa [Nat.zero_mul, Nat.add_zero] at this
theorem RwX.drop {w : World} {b o : Nat} {L : List X} (h : RwX w b o L) (n : Nat) : RwX w b (o + n * 7) (L.drop n) := fun i x hx => by
  rw [List.getElem?_drop] at hx
  have := h (n + i) x hx
  rwa [show o + (n + i) * 7 = o + n * 7 + i * 7 by omega] at this
theorem RwX.take {w : World} {b o : Nat} {L : List X} (h : RwX w b o L) (n : Nat) : RwX w b o (L.take n) := fun i x hx => by
  rw [List.getElem?_take] at hx
  split at hx
  · exact h i x hx
  · cases hx
/-- What is left behind the first. -/
theorem RwX.cut {w : World} {b o cap : Nat} {x : X} {L : List X} (h : RwX w b o (x :: L)) (hc : L.length + 1 ≤ cap) : RwX w b (if cap = 1 then o else o + 7) L := by
  by_cases e : cap = 1
  · have : L = [] := List.length_eq_zero_iff.1 (by omega)
    subst this
    exact fun i x hx => by simp at hx
  · rw [if_neg e]
    have := h.drop 1
    rwa [Nat.one_mul] at this
theorem rowX_list (c : Nat → X) : ∀ n, rowX c n = rowLX ((List.range n).map c)
  | 0 => rfl
  | n + 1 => by
    rw [rowX, rowX_list c n, List.range_succ, List.map_append, rowLX_app]
    simp [rowLX]
theorem rowX_getD (L : List X) : rowX (fun i => L.getD i .nil) L.length = rowLX L := by rw [rowX_list, map_getD]
/-- Some more behind a row that the call owns. -/
theorem pushLX {w : World} {base n : Nat} {v : Value} {xs : List Value} (h : w.ownsRow base 39 7 v n xs) (hb : base ≤ w.heap.size) (b o m k : Nat) (M : List X) (hM : RwX w b o M) (hm : M.length = m) (hn : n + m ≤ 1466015503658) :
    ∃ v' w', (Builtin.append_ #[23, 23] 23 #[v, .slice (some ⟨b, o, none⟩) m k]).run Try.prog w = .ok v' w' ∧ w'.ownsRow base 39 7 v' (n + m) (xs ++ rowLX M) ∧ Below base w w' := by
  obtain ⟨v', w', h1, h2, h3⟩ := push_x h hb ⟨b, o, none⟩ m k (fun i => M.getD i .nil) (fun i hi => ⟨b, o, rfl, hM i _ (by simp [show i < M.length by omega])⟩) hn
  refine ⟨v', w', h1, ?_, (Below.refl base w).grown h3 hb fun k e => (h.lt k e).1⟩
  rw [← hm, rowX_getD, hm] at h2
  exact h2
theorem push1X {w : World} {base n : Nat} {v : Value} {xs : List Value} (h : w.ownsRow base 39 7 v n xs) (hb : base ≤ w.heap.size) (hn : n ≤ 2097152) (x : X) :
    ∃ v' w', (Builtin.append_ #[23, 23] 23 #[v, .slice (some ⟨w.heap.size, 0, none⟩) 1 1]).run Try.prog (w.alloc (.cells x.cells 39)) = .ok v' w' ∧ w'.ownsRow base 39 7 v' (n + 1) (xs ++ rowLX [x]) ∧ Below base w w' := by
  obtain ⟨v', w', h1, h2, h3⟩ := pushLX (h.alloc (.cells x.cells 39)) (by simp; omega) w.heap.size 0 1 1 [x] (fun i y hy => by
    match i, hy with
    | 0, hy => simp at hy; subst hy; simpa using node_new w 39 x) rfl (by omega)
  exact ⟨v', w', h1, h2, ((Below.refl base w).alloc hb _).trans h3⟩
theorem ownLX {w : World} {base n : Nat} {v : Value} {L : List X} (h : w.ownsRow base 39 7 v n (rowLX L)) (hl : L.length = n) (h0 : 0 < n) :
    ∃ g cap, v = .slice (some ⟨g, 0, none⟩) n cap ∧ n ≤ cap ∧ cap ≤ maxLen ∧ base ≤ g ∧ g < w.heap.size ∧ RwX w g 0 L := by
  rw [← rowX_getD, hl] at h
  obtain ⟨a, cap, rfl, h1, h2, h3⟩ := own_nodes h
  obtain ⟨g, rfl, g1, g2, _, g4⟩ := h3 h0
  refine ⟨g, cap, rfl, h1, h2, g1, g2, fun i x hx => ?_⟩
  have hi := (List.getElem?_eq_some_iff.1 hx).1
  have := g4 i (by omega)
  rw [List.getD_eq_getElem?_getD, hx] at this
  simpa using this
/-- A cell with a number. -/
def NodeI (w : World) (b o : Nat) (z : Int) : Prop := w.cell? ⟨b, o, none⟩ = some (.int .i64 z)
theorem NodeI.later {w w' : World} {b o : Nat} {z : Int} (h : NodeI w b o z) (hB : Below w.heap.size w w') : NodeI w' b o z := cell_later h hB
theorem NodeI.at {w : World} {b o : Nat} {z : Int} (h : NodeI w b o z) : w.cell? ⟨b, o, none⟩ = some (.int .i64 z) := h
theorem infoI15 : (Try.prog.info? 3).map (fun i => (i.zero, i.size, i.bytes)) = some (some (.int .i64 0), 1, 8) := by kernel_rfl
/-- The cells of some, one behind the other. -/
def rowLI (L : List Int) : List Value := L.flatMap fun x => [Value.int .i64 x]
theorem rowLI_app (L M : List Int) : rowLI (L ++ M) = rowLI L ++ rowLI M := List.flatMap_append
/-- They lie there, one behind the other. -/
def RwI (w : World) (b o : Nat) (L : List Int) : Prop := ∀ (i : Nat) (x : Int), L[i]? = some x → NodeI w b (o + i * 1) x
theorem RwI.later {w w' : World} {b o : Nat} {L : List Int} (h : RwI w b o L) (hB : Below w.heap.size w w') : RwI w' b o L := fun i x hx => (h i x hx).later hB
theorem RwI.head {w : World} {b o : Nat} {x : Int} {L : List Int} (h : RwI w b o (x :: L)) : NodeI w b o x := by
  have := h 0 x (by simp)
  rwa [Nat.zero_mul, Nat.add_zero] at this
theorem RwI.drop {w : World} {b o : Nat} {L : List Int} (h : RwI w b o L) (n : Nat) : RwI w b (o + n * 1) (L.drop n) := fun i x hx => by
  rw [List.getElem?_drop] at hx
  have := h (n + i) x hx
  rwa [show o + (n + i) * 1 = o + n * 1 + i * 1 by omega] at this
theorem RwI.take {w : World} {b o : Nat} {L : List Int} (h : RwI w b o L) (n : Nat) : RwI w b o (L.take n) := fun i x hx => by
  rw [List.getElem?_take] at hx
  split at hx
  · exact h i x hx
  · cases hx
/-- What is left behind the first. -/
theorem RwI.cut {w : World} {b o cap : Nat} {x : Int} {L : List Int} (h : RwI w b o (x :: L)) (hc : L.length + 1 ≤ cap) : RwI w b (if cap = 1 then o else o + 1) L := by
  by_cases e : cap = 1
  · have : L = [] := List.length_eq_zero_iff.1 (by omega)
    subst this
    exact fun i x hx => by simp at hx
  · rw [if_neg e]
    have := h.drop 1
    rwa [Nat.one_mul] at this
theorem rowLI_map (L : List Int) : rowLI L = L.map (Value.int .i64) := by
  induction L with
  | nil => rfl
  | cons x L ih => simp only [rowLI, List.flatMap_cons, List.map_cons] at ih ⊢; rw [ih]; rfl
theorem pushLI {w : World} {base n : Nat} {v : Value} {xs : List Value} (h : w.ownsRow base 3 1 v n xs) (hb : base ≤ w.heap.size) (b o m k : Nat) (M : List Int) (hM : RwI w b o M) (hm : M.length = m) (hn : n + m ≤ 1759218604390) :
    ∃ v' w', (Builtin.append_ #[50, 50] 50 #[v, .slice (some ⟨b, o, none⟩) m k]).run Try.prog w = .ok v' w' ∧ w'.ownsRow base 3 1 v' (n + m) (xs ++ rowLI M) ∧ Below base w w' := by
  obtain ⟨i0, hi, hz0, hz1, hz2⟩ := info_parts infoI15
  obtain ⟨v', w', hrun, hown', hgrow, _⟩ := run_append_own (P := Try.prog) (w := w) base 50 50 3 i0 _ 1 8 Try.underlying50 hi hz0 hz1 hz2 rfl (by decide) v n xs h ⟨b, o, none⟩ m k (rowLI M) (by rw [rowLI_map]; simp [hm])
    (fun j u hu => by
      rw [rowLI_map, List.getElem?_map] at hu
      cases e : M[j]? with
      | none => rw [e] at hu; cases hu
      | some z =>
        rw [e] at hu
        cases hu
        rw [add_none]
        have := hM j z e
        rwa [Nat.mul_one] at this) (by intro u hu; rw [rowLI_map] at hu; obtain ⟨z, _, rfl⟩ := List.mem_map.1 hu; rfl) (by unfold maxLen; omega) (by omega) hb
  exact ⟨v', w', hrun, hown', (Below.refl base w).grown hgrow hb fun k e => (h.lt k e).1⟩
theorem push1I {w : World} {base n : Nat} {v : Value} {xs : List Value} (h : w.ownsRow base 3 1 v n xs) (hb : base ≤ w.heap.size) (hn : n ≤ 1759218604389) (x : Int) :
    ∃ v' w', (Builtin.append_ #[50, 50] 50 #[v, .slice (some ⟨w.heap.size, 0, none⟩) 1 1]).run Try.prog (w.alloc (.cells #[.int .i64 x] 3)) = .ok v' w' ∧ w'.ownsRow base 3 1 v' (n + 1) (xs ++ rowLI [x]) ∧ Below base w w' := by
  obtain ⟨v', w', h1, h2, h3⟩ := pushLI (h.alloc (.cells #[.int .i64 x] 3)) (by simp; omega) w.heap.size 0 1 1 [x] (fun i y hy => by
    match i, hy with
    | 0, hy => simp at hy; subst hy; simp [NodeI]) rfl (by omega)
  exact ⟨v', w', h1, h2, ((Below.refl base w).alloc hb _).trans h3⟩
theorem ownLI {w : World} {base n : Nat} {v : Value} {L : List Int} (h : w.ownsRow base 3 1 v n (rowLI L)) (h0 : 0 < n) :
    ∃ g cap, v = .slice (some ⟨g, 0, none⟩) n cap ∧ n ≤ cap ∧ cap ≤ maxLen ∧ base ≤ g ∧ g < w.heap.size ∧ RwI w g 0 L := by
  rcases h.2 with ⟨_, e⟩ | ⟨g, cap, cur, rfl, hg, hc, hnc, hcm, hs, ht⟩
  · omega
  · refine ⟨g, cap, rfl, hnc, hcm, hg, (Array.getElem?_eq_some_iff.1 hc).1, fun i x hx => ?_⟩
    have e : (rowLI L)[i]? = some (.int .i64 x) := by rw [rowLI_map, List.getElem?_map, hx]; rfl
    rw [← ht] at e
    rw [List.getElem?_take] at e
    split at e
    · show w.cell? _ = _
      rw [Nat.mul_one, Nat.zero_add]
      simp only [World.cell?, hc]
      rw [← e, Array.getElem?_toList]
      rfl
    · cases e
end Go.Proofs.Ytcdehohmgfocdaa
namespace Go.Proofs.Ytcdehohmgfocdaa
open Go.RowKit

def lenOf : Value → Nat | .slice _ n _ => n | _ => 0
set_option maxRecDepth 100000 in
set_option maxHeartbeats 8000000 in
theorem mergedP_any (c : Pt → Pt → Int) (b1 o1 k1 b2 o2 k2 : Nat) (A B : List Pt) (w : World) (h1 : RwP w b1 o1 A) (h2 : RwP w b2 o2 B) (l1 : A.length ≤ k1) (l2 : B.length ≤ k2) (m1 : k1 ≤ 9223372036854775807) (m2 : k2 ≤ 9223372036854775807) (hn : A.length + B.length ≤ 1759218604390)
    (hC : ∀ x ∈ A, ∀ y ∈ B, ∀ d, Below w.heap.size w d → Calls Try.prog 19 #[y.val, x.val] d fun e w' => e = .returned (.int .i64 (c y x)) ∧ Below d.heap.size d w') :
    Calls Try.prog 48 #[.slice (some ⟨b1, o1, none⟩) A.length k1, .slice (some ⟨b2, o2, none⟩) B.length k2, .func (.func 19) #[] #[]] w fun e w' => ∃ v, e = .returned v ∧ w'.ownsRow w.heap.size 27 6 v (A.length + B.length) (rowLP (A.merge B (mle c))) ∧ Below w.heap.size w w' := by
  obtain ⟨n1, e1⟩ : ∃ n1, n1 = A.length := ⟨_, rfl⟩
  obtain ⟨n2, e2⟩ : ∃ n2, n2 = B.length := ⟨_, rfl⟩
  rw [← e1] at l1 hn ⊢
  rw [← e2] at l2 hn ⊢
  have H1 : Hid (RwP w b1 o1 A) := h1
  have H2 : Hid (RwP w b2 o2 B) := h2
  have E1 : Hid (n1 = A.length) := e1
  have E2 : Hid (n2 = B.length) := e2
  have HC : Hid (∀ x ∈ A, ∀ y ∈ B, ∀ d, Below w.heap.size w d → Calls Try.prog 19 #[y.val, x.val] d fun e w' => e = .returned (.int .i64 (c y x)) ∧ Below d.heap.size d w') := hC
  obtain ⟨R, hR⟩ : ∃ R, R = A.merge B (mle c) := ⟨_, rfl⟩
  rw [← hR]
  have HR : Hid (R = A.merge B (mle c)) := hR
  obtain ⟨N, hN⟩ : ∃ N, N = n1 + n2 := ⟨_, rfl⟩
  rw [← hN]
  have HN : Hid (N = n1 + n2) := hN
  obtain ⟨i0, hi, hz0, hz1, hz2⟩ := info_parts infoP
  clear h1 h2 e1 e2 hC hR hN
  go_enter Try.func48, Try.ntmps48
  go_wp2
  go_step3
  go_wp2_with (first
    | (at_make; refine wpList_make_own _ rfl _ _ 22 rfl w.heap.size 27 i0 _ 6 Try.underlying22 hi hz0 hz1 .i64 .i64 _ (n1 + n2) rfl rfl (by simp) (by rw [hz2]; omega) (by unfold maxLen; omega) (Nat.le_refl _) ?_; intro w1 own1 grow1; have hB1 : Below w.heap.size w w1 := (Below.refl _ _).grown grow1 (Nat.le_refl _) (fun k e => by cases e)))
  go_step3
  go_wp2_with fail
  go_loopw [0, 1, 7] (fun u0 u1 u7 wr => ∃ (A' B' O : List Pt) (n1 n2 no b1 o1 k1 b2 o2 k2 : Nat), u0 = .slice (some ⟨b1, o1, none⟩) n1 k1 ∧ u1 = .slice (some ⟨b2, o2, none⟩) n2 k2 ∧ n1 ≤ k1 ∧ n2 ≤ k2 ∧ k1 ≤ 9223372036854775807 ∧ k2 ≤ 9223372036854775807 ∧
    Hid (RwP w b1 o1 A' ∧ RwP w b2 o2 B' ∧ A'.length = n1 ∧ B'.length = n2 ∧ O.length = no ∧ no + n1 + n2 = N ∧ (∀ x ∈ A', x ∈ A) ∧ (∀ y ∈ B', y ∈ B) ∧ O ++ A'.merge B' (mle c) = R) ∧ Hid (wr.ownsRow w.heap.size 27 6 u7 no (rowLP O)) ∧ Below w.heap.size w wr) (fun u0 u1 _ _ => lenOf u0 + lenOf u1)
  case atStart => exact ⟨A, B, [], n1, n2, 0, b1, o1, k1, b2, o2, k2, rfl, rfl, l1, l2, m1, m2, ⟨H1.out, H2.out, E1.out.symm, E2.out.symm, rfl, by have := HN.out; omega, fun _ h => h, fun _ h => h, HR.out.symm⟩, own1, hB1⟩
  case round =>
    obtain ⟨A', B', O, n1, n2, no, b1, o1, k1, b2, o2, k2, rfl, rfl, l1, l2, m1, m2, HI, HO, hB⟩ := hrel
    have HBD : Hid (no + n1 + n2 ≤ 1759218604390) := by have := HI.out.2.2.2.2.2.1; have := HN.out; show _ ≤ _; omega
    by_cases z1 : n1 = 0
    · obtain ⟨r1, r2, q1, q2, q3, q4, -, -, q7⟩ := HI.out
      have eM : A'.merge B' (mle c) = A' ++ B' := by
        rw [List.length_eq_zero_iff.1 (q1.trans z1)]; simp
      obtain ⟨v8, w8, run8, own8, hB8⟩ := pushLP HO.out hB.size b1 o1 n1 k1 A' (r1.later hB) q1 (by have := HBD.out; omega)
      have hB18 := hB.trans hB8
      obtain ⟨v9, w9, run9, own9, hB9⟩ := pushLP own8 hB18.size b2 o2 n2 k2 B' (r2.later hB18) q2 (by have := HBD.out; omega)
      have HF : Hid (w9.ownsRow w.heap.size 27 6 v9 N (rowLP R) ∧ Below w.heap.size w w9) := ⟨by rw [← q4, ← q7, eM, rowLP_app, rowLP_app, ← List.append_assoc]; exact own9, hB18.trans hB9⟩
      have R8 : Hid (_ = _) := run8
      have R9 : Hid (_ = _) := run9
      clear r1 r2 q1 q2 q3 q4 q7 eM own8 own9 hB8 hB9 hB18 run8 run9 HI HO
      subst z1
      go_wp2_with (first
        | (at_builtin; refine wpList_append_run rfl (.tmp 51) (.tmp 52) 22 rfl _ _ _ rfl rfl R9.out ?_)
        | (at_builtin; refine wpList_append_run rfl (.tmp 49) (.tmp 50) 22 rfl _ _ _ rfl rfl R8.out ?_))
      rw [Exit.noGoto_ret]
      go_ret
      exact ⟨_, rfl, HF.out.1, HF.out.2⟩
    · by_cases z2 : n2 = 0
      · obtain ⟨r1, r2, q1, q2, q3, q4, -, -, q7⟩ := HI.out
        have eM : A'.merge B' (mle c) = A' ++ B' := by
          rw [List.length_eq_zero_iff.1 (q2.trans z2)]; simp
        obtain ⟨v8, w8, run8, own8, hB8⟩ := pushLP HO.out hB.size b1 o1 n1 k1 A' (r1.later hB) q1 (by have := HBD.out; omega)
        have hB18 := hB.trans hB8
        obtain ⟨v9, w9, run9, own9, hB9⟩ := pushLP own8 hB18.size b2 o2 n2 k2 B' (r2.later hB18) q2 (by have := HBD.out; omega)
        have HF : Hid (w9.ownsRow w.heap.size 27 6 v9 N (rowLP R) ∧ Below w.heap.size w w9) := ⟨by rw [← q4, ← q7, eM, rowLP_app, rowLP_app, ← List.append_assoc]; exact own9, hB18.trans hB9⟩
        have R8 : Hid (_ = _) := run8
        have R9 : Hid (_ = _) := run9
        clear r1 r2 q1 q2 q3 q4 q7 eM own8 own9 hB8 hB9 hB18 run8 run9 HI HO
        subst z2
        have z1' : (((n1 : Nat) : Int) == 0) = false := by simpa using z1
        go_wp2_with (first
          | (at_builtin; refine wpList_append_run rfl (.tmp 51) (.tmp 52) 22 rfl _ _ _ rfl rfl R9.out ?_)
          | (at_builtin; refine wpList_append_run rfl (.tmp 49) (.tmp 50) 22 rfl _ _ _ rfl rfl R8.out ?_))
        rw [Exit.noGoto_ret]
        go_ret
        exact ⟨_, rfl, HF.out.1, HF.out.2⟩
      · obtain ⟨x, A'', rfl⟩ : ∃ x A'', A' = x :: A'' := by
          have := HI.out.2.2.1
          cases A' with
          | nil => simp at this; omega
          | cons x A'' => exact ⟨x, A'', rfl⟩
        obtain ⟨y, B'', rfl⟩ : ∃ y B'', B' = y :: B'' := by
          have := HI.out.2.2.2.1
          cases B' with
          | nil => simp at this; omega
          | cons y B'' => exact ⟨y, B'', rfl⟩
        have M1 : Hid (NodeP w b1 o1 x) := HI.out.1.head
        have M2 : Hid (NodeP w b2 o2 y) := HI.out.2.1.head
        have N1 : Hid (NodeP wr b1 o1 x) := M1.out.later hB
        have N2 : Hid (NodeP wr b2 o2 y) := M2.out.later hB
        obtain ⟨q, hqq⟩ : ∃ q, q = c y x := ⟨_, rfl⟩
        have HQ : Hid (q = c y x) := hqq
        have hc : Hid (∀ d, Below wr.heap.size wr d → Calls Try.prog 19 #[y.val, x.val] d fun e w' => e = .returned (.int .i64 q) ∧ Below d.heap.size d w') := fun d h => by
          rw [hqq]
          exact HC.out x (HI.out.2.2.2.2.2.2.1 x (by simp)) y (HI.out.2.2.2.2.2.2.2.1 y (by simp)) d (hB.trans (h.mono hB.size))
        have z1' : (((n1 : Nat) : Int) == 0) = false := by simpa using z1
        have z2' : (((n2 : Nat) : Int) == 0) = false := by simpa using z2
        have g1 : (1 : Int) ≤ (n1 : Int) := by omega
        have g2 : (1 : Int) ≤ (n2 : Int) := by omega
        have p1 : 0 < n1 := by omega
        have p2 : 0 < n2 := by omega
        clear hqq
        by_cases hq : q < 0
        · have hq' := hq
          go_wp2_with fail
          refine wp_region_noPanic ?_
          refine wp_region_held_drew (S := fun w' => Below wr.heap.size wr w') (by kernel_rfl) ((Below.refl _ _).drew) (fun hHeld => ?_)
          have hT : Below wr.heap.size wr wr.drew := hHeld
          obtain ⟨d, hd⟩ : ∃ d, d = wr.drew := ⟨_, rfl⟩
          rw [← hd] at hHeld hT ⊢
          clear hd
          refine wpAnyH_take (i := 0) (oi := ⟨some 32, .move (.tmp 2), 42, _, _, _⟩) (v := ?v0a) rfl (by kernel_rfl) (by kernel_rfl) (by kernel_rfl) (fun _ _ _ h => h) (Or.inl ⟨by rfl, ?hy0a⟩) hHeld ?rest0a
          case hy0a => intro w9 hSw; go_simp; (try with_reducible rfl)
          try simp only [Act.put, s_put, s_0, s_1]
          refine wpAnyH_take (i := 1) (oi := ⟨some 33, .move (.tmp 1), 22, _, _, _⟩) (v := ?v1a) rfl (by kernel_rfl) (by kernel_rfl) (by kernel_rfl) (fun _ _ _ h => h) (Or.inl ⟨by rfl, ?hy1a⟩) hHeld ?rest1a
          case hy1a => intro w9 hSw; go_simp; (try with_reducible rfl)
          try simp only [Act.put, s_put, s_0, s_1]
          refine wpAnyH_take (i := 2) (oi := ⟨some 34, .indexAddr 22 (.tmp 33) (.const (Value.int IntKind.i64 0)), 0, _, _, _⟩) (v := ?v2a) rfl (by kernel_rfl) (by kernel_rfl) (by kernel_rfl) (fun _ _ _ h => h) (Or.inl ⟨by rfl, ?hy2a⟩) hHeld ?rest2a
          case hy2a => intro w9 hSw; go_simp; (try with_reducible rfl)
          try simp only [Act.put, s_put, s_0, s_1]
          refine wpAnyH_take (i := 3) (oi := ⟨some 35, .load 27 (.tmp 34), 27, _, _, _⟩) (v := ?v3a) rfl (by kernel_rfl) (by kernel_rfl) (by kernel_rfl) (fun _ _ _ h => h) (Or.inl ⟨by rfl, ?hy3a⟩) hHeld ?rest3a
          case hy3a => intro w9 hSw; obtain ⟨d0, d1, d2, d3, d4, d5⟩ := N2.out.later hSw; go_simp; (try with_reducible rfl)
          try simp only [Act.put, s_put, s_0, s_1]
          refine wpAnyH_take (i := 4) (oi := ⟨some 36, .move (.tmp 0), 22, _, _, _⟩) (v := ?v4a) rfl (by kernel_rfl) (by kernel_rfl) (by kernel_rfl) (fun _ _ _ h => h) (Or.inl ⟨by rfl, ?hy4a⟩) hHeld ?rest4a
          case hy4a => intro w9 hSw; go_simp; (try with_reducible rfl)
          try simp only [Act.put, s_put, s_0, s_1]
          refine wpAnyH_take (i := 5) (oi := ⟨some 37, .indexAddr 22 (.tmp 36) (.const (Value.int IntKind.i64 0)), 0, _, _, _⟩) (v := ?v5a) rfl (by kernel_rfl) (by kernel_rfl) (by kernel_rfl) (fun _ _ _ h => h) (Or.inl ⟨by rfl, ?hy5a⟩) hHeld ?rest5a
          case hy5a => intro w9 hSw; go_simp; (try with_reducible rfl)
          try simp only [Act.put, s_put, s_0, s_1]
          refine wpAnyH_take (i := 6) (oi := ⟨some 38, .load 27 (.tmp 37), 27, _, _, _⟩) (v := ?v6a) rfl (by kernel_rfl) (by kernel_rfl) (by kernel_rfl) (fun _ _ _ h => h) (Or.inl ⟨by rfl, ?hy6a⟩) hHeld ?rest6a
          case hy6a => intro w9 hSw; obtain ⟨d0, d1, d2, d3, d4, d5⟩ := N1.out.later hSw; go_simp; (try with_reducible rfl)
          try simp only [Act.put, s_put, s_0, s_1]
          refine wpAnyH_ready (rs := [7]) (by kernel_rfl) (by simp) ?_
          refine AllReadyH.cons (o := ⟨some 39, .call { callee := .value (.tmp 32), args := #[.tmp 35, .tmp 38], argTypes := #[27, 27] }, 3, _, _, _⟩) rfl (fun K hK => ?_) AllReadyH.nil
          go_simp
          refine (hc.out _ hHeld).mono ?_
          rintro e x7 ⟨rfl, hN7⟩
          go_wp2_with fail
          have hT7 : Below wr.heap.size wr x7 := hT.trans (hN7.mono hT.size)
          refine hK.out _ _ (hHeld.trans (hN7.mono hHeld.size)) (fun _ => held_up (S' := fun w' => Below x7.heap.size x7 w') (fun w' h' => (hHeld.trans (hN7.mono hHeld.size)).trans (h'.mono (Nat.le_trans hHeld.size hN7.size))) _ _ _ _ ?_)
          clear hK K hHeld hT
          have hT : Below wr.heap.size wr x7 := hT7
          have hHeld : Below x7.heap.size x7 x7 := Below.refl _ _
          clear hT7 hN7
          try simp only [Act.put, s_put, s_0, s_1]
          refine wpAnyH_take (i := 8) (oi := ⟨some 40, .binOp BinOp.lss 3 (.tmp 39) (.const (Value.int IntKind.i64 0)) 3, 4, _, _, _⟩) (v := ?v8a) rfl (by kernel_rfl) (by kernel_rfl) (by kernel_rfl) (fun _ _ _ h => h) (Or.inl ⟨by rfl, ?hy8a⟩) hHeld ?rest8a
          case hy8a => intro w9 hSw; go_simp; (try with_reducible rfl)
          try simp only [Act.put, s_put, s_0, s_1]
          refine wpAnyH_take (i := 9) (oi := ⟨some 31, .assign (.tmp 40), 4, _, _, _⟩) (v := ?v9a) rfl (by kernel_rfl) (by kernel_rfl) (by kernel_rfl) (fun _ _ _ h => h) (Or.inl ⟨by rfl, ?hy9a⟩) hHeld ?rest9a
          case hy9a => intro w9 hSw; go_simp; (try with_reducible rfl)
          try simp only [Act.put, s_put, s_0, s_1]
          refine wpAnyH_done (by kernel_rfl) ?_ _
          refine NoPanic.normal ?_
          have hB7 : Below w.heap.size w x7 := hB.trans (hT.mono hB.size)
          have HO7 : Hid (x7.ownsRow w.heap.size 27 6 u7 no (rowLP O)) := own_laterS HO.out hT
          clear hT hHeld hc HO
          go_wp2_with fail
          refine wp_region_noPanic ?_
          refine wp_region_held_drew (S := fun w' => Below w.heap.size w w') (by kernel_rfl) (hB7.drew) (fun hHeld => ?_)
          obtain ⟨d, hd⟩ : ∃ d, d = x7.drew := ⟨_, rfl⟩
          have HOd : Hid (d.ownsRow w.heap.size 27 6 u7 no (rowLP O)) := by rw [hd]; exact HO7.out.drew
          rw [← hd] at hHeld ⊢
          clear hd
          refine wpAnyH_take (i := 0) (oi := ⟨some 41, .move (.tmp 7), 22, _, _, _⟩) (v := ?v0c) rfl (by kernel_rfl) (by kernel_rfl) (by kernel_rfl) (fun _ _ _ h => h) (Or.inl ⟨by rfl, ?hy0c⟩) hHeld ?rest0c
          case hy0c => intro w9 hSw; go_simp; (try with_reducible rfl)
          try simp only [Act.put, s_put, s_0, s_1]
          refine wpAnyH_take (i := 1) (oi := ⟨some 42, .move (.tmp 1), 22, _, _, _⟩) (v := ?v1c) rfl (by kernel_rfl) (by kernel_rfl) (by kernel_rfl) (fun _ _ _ h => h) (Or.inl ⟨by rfl, ?hy1c⟩) hHeld ?rest1c
          case hy1c => intro w9 hSw; go_simp; (try with_reducible rfl)
          try simp only [Act.put, s_put, s_0, s_1]
          refine wpAnyH_take (i := 2) (oi := ⟨some 43, .indexAddr 22 (.tmp 42) (.const (Value.int IntKind.i64 0)), 0, _, _, _⟩) (v := ?v2c) rfl (by kernel_rfl) (by kernel_rfl) (by kernel_rfl) (fun _ _ _ h => h) (Or.inl ⟨by rfl, ?hy2c⟩) hHeld ?rest2c
          case hy2c => intro w9 hSw; go_simp; (try with_reducible rfl)
          try simp only [Act.put, s_put, s_0, s_1]
          refine wpAnyH_take (i := 3) (oi := ⟨some 44, .load 27 (.tmp 43), 27, _, _, _⟩) (v := ?v3c) rfl (by kernel_rfl) (by kernel_rfl) (by kernel_rfl) (fun _ _ _ h => h) (Or.inl ⟨by rfl, ?hy3c⟩) hHeld ?rest3c
          case hy3c => intro w9 hSw; obtain ⟨d0, d1, d2, d3, d4, d5⟩ := M2.out.later hSw; go_simp; (try with_reducible rfl)
          try simp only [Act.put, s_put, s_0, s_1]
          refine wpAnyH_take (i := 6) (oi := ⟨some 47, .move (.tmp 1), 22, _, _, _⟩) (v := ?v6c) rfl (by kernel_rfl) (by kernel_rfl) (by kernel_rfl) (fun _ _ _ h => h) (Or.inl ⟨by rfl, ?hy6c⟩) hHeld ?rest6c
          case hy6c => intro w9 hSw; go_simp; (try with_reducible rfl)
          try simp only [Act.put, s_put, s_0, s_1]
          refine wpAnyH_take (i := 7) (oi := ⟨some 48, .slice 22 (.tmp 47) (some (.const (Value.int IntKind.i64 1))) none none, 22, _, _, _⟩) (v := .slice (some ⟨b2, if k2 = 1 then o2 else o2 + 6, none⟩) (n2 - 1) (k2 - 1)) rfl (by kernel_rfl) (by kernel_rfl) (by kernel_rfl) (fun _ _ _ h => h) (Or.inl ⟨by rfl, ?hy7c⟩) hHeld ?rest7c
          case hy7c => intro w9 hSw; go_simp; first | rfl | (split <;> simp_all)
          try simp only [Act.put, s_put, s_0, s_1]
          refine wpAnyH_ready (rs := [4]) (by kernel_rfl) (by simp) ?_
          refine AllReadyH.cons (o := ⟨some 45, .buildSlice 22 1 #[(0, .tmp 44)], 22, _, _, _⟩) rfl (fun K hK => ?_) AllReadyH.nil
          go_simp
          refine hK.out _ _ (hHeld.alloc hHeld.size _) (fun _ => ?_)
          clear hK K
          try simp only [Act.put, s_put, s_0, s_1]
          obtain ⟨v9, w9, run9, own9, hB9⟩ := push1P HOd.out hHeld.size (by have := HBD.out; omega) y
          refine wpAnyH_ready (rs := [5]) (by kernel_rfl) (by simp) ?_
          refine AllReadyH.cons (o := ⟨some 46, .call { callee := .builtin Builtin.append, args := #[.tmp 41, .tmp 45], argTypes := #[22, 22] }, 22, _, _, _⟩) rfl (fun K hK => ?_) AllReadyH.nil
          try rw [if_pos (by rfl)]
          refine wpOp_append_run15 (.tmp 41) (.tmp 45) 22 rfl _ _ _ rfl rfl run9 ?_
          refine hK.out _ _ (hHeld.trans hB9) (fun _ => ?_)
          clear hK K run9
          have hB10 := hHeld.trans hB9
          clear hHeld
          have hHeld := hB10
          try simp only [Act.put, s_put, s_0, s_1]
          refine wpAnyH_take (i := 8) (oi := ⟨some 7, .assign (.tmp 46), 22, _, _, _⟩) (v := ?v8c) rfl (by kernel_rfl) (by kernel_rfl) (by kernel_rfl) (fun _ _ _ h => h) (Or.inl ⟨by rfl, ?hy8c⟩) hHeld ?rest8c
          case hy8c => intro w9 hSw; go_simp; (try with_reducible rfl)
          try simp only [Act.put, s_put, s_0, s_1]
          refine wpAnyH_take (i := 9) (oi := ⟨some 1, .assign (.tmp 48), 22, _, _, _⟩) (v := ?v9c) rfl (by kernel_rfl) (by kernel_rfl) (by kernel_rfl) (fun _ _ _ h => h) (Or.inl ⟨by rfl, ?hy9c⟩) hHeld ?rest9c
          case hy9c => intro w9 hSw; go_simp; (try with_reducible rfl)
          try simp only [Act.put, s_put, s_0, s_1]
          refine wpAnyH_done (by kernel_rfl) ?_ _
          refine NoPanic.normal ?_
          go_wp2
          go_roundw
          case rel =>
            obtain ⟨r1, r2, q1, q2, q3, q4, q5, q6, q7⟩ := HI.out
            refine ⟨x :: A'', B'', O ++ [y], n1, n2 - 1, no + 1, b1, o1, k1, b2, if k2 = 1 then o2 else o2 + 6, k2 - 1, rfl, rfl, l1, by omega, m1, by omega, ⟨r1, r2.cut (by simp at q2; omega), q1, by simp at q2 ⊢; omega, by simp [q3], by omega, q5, fun z hz => q6 z (List.mem_cons_of_mem _ hz), ?_⟩, by show World.ownsRow _ _ _ _ _ _ _; rw [rowLP_app]; exact own9, hB10⟩
            rw [← q7, List.cons_merge_cons, if_neg (by simp only [mle, decide_eq_true_eq]; rw [← HQ.out]; exact fun h => h hq)]
            simp
          case measure => simp only [lenOf]; omega
        · have hq' := hq
          go_wp2_with fail
          refine wp_region_noPanic ?_
          refine wp_region_held_drew (S := fun w' => Below wr.heap.size wr w') (by kernel_rfl) ((Below.refl _ _).drew) (fun hHeld => ?_)
          have hT : Below wr.heap.size wr wr.drew := hHeld
          obtain ⟨d, hd⟩ : ∃ d, d = wr.drew := ⟨_, rfl⟩
          rw [← hd] at hHeld hT ⊢
          clear hd
          refine wpAnyH_take (i := 0) (oi := ⟨some 32, .move (.tmp 2), 42, _, _, _⟩) (v := ?v0b) rfl (by kernel_rfl) (by kernel_rfl) (by kernel_rfl) (fun _ _ _ h => h) (Or.inl ⟨by rfl, ?hy0b⟩) hHeld ?rest0b
          case hy0b => intro w9 hSw; go_simp; (try with_reducible rfl)
          try simp only [Act.put, s_put, s_0, s_1]
          refine wpAnyH_take (i := 1) (oi := ⟨some 33, .move (.tmp 1), 22, _, _, _⟩) (v := ?v1b) rfl (by kernel_rfl) (by kernel_rfl) (by kernel_rfl) (fun _ _ _ h => h) (Or.inl ⟨by rfl, ?hy1b⟩) hHeld ?rest1b
          case hy1b => intro w9 hSw; go_simp; (try with_reducible rfl)
          try simp only [Act.put, s_put, s_0, s_1]
          refine wpAnyH_take (i := 2) (oi := ⟨some 34, .indexAddr 22 (.tmp 33) (.const (Value.int IntKind.i64 0)), 0, _, _, _⟩) (v := ?v2b) rfl (by kernel_rfl) (by kernel_rfl) (by kernel_rfl) (fun _ _ _ h => h) (Or.inl ⟨by rfl, ?hy2b⟩) hHeld ?rest2b
          case hy2b => intro w9 hSw; go_simp; (try with_reducible rfl)
          try simp only [Act.put, s_put, s_0, s_1]
          refine wpAnyH_take (i := 3) (oi := ⟨some 35, .load 27 (.tmp 34), 27, _, _, _⟩) (v := ?v3b) rfl (by kernel_rfl) (by kernel_rfl) (by kernel_rfl) (fun _ _ _ h => h) (Or.inl ⟨by rfl, ?hy3b⟩) hHeld ?rest3b
          case hy3b => intro w9 hSw; obtain ⟨d0, d1, d2, d3, d4, d5⟩ := N2.out.later hSw; go_simp; (try with_reducible rfl)
          try simp only [Act.put, s_put, s_0, s_1]
          refine wpAnyH_take (i := 4) (oi := ⟨some 36, .move (.tmp 0), 22, _, _, _⟩) (v := ?v4b) rfl (by kernel_rfl) (by kernel_rfl) (by kernel_rfl) (fun _ _ _ h => h) (Or.inl ⟨by rfl, ?hy4b⟩) hHeld ?rest4b
          case hy4b => intro w9 hSw; go_simp; (try with_reducible rfl)
          try simp only [Act.put, s_put, s_0, s_1]
          refine wpAnyH_take (i := 5) (oi := ⟨some 37, .indexAddr 22 (.tmp 36) (.const (Value.int IntKind.i64 0)), 0, _, _, _⟩) (v := ?v5b) rfl (by kernel_rfl) (by kernel_rfl) (by kernel_rfl) (fun _ _ _ h => h) (Or.inl ⟨by rfl, ?hy5b⟩) hHeld ?rest5b
          case hy5b => intro w9 hSw; go_simp; (try with_reducible rfl)
          try simp only [Act.put, s_put, s_0, s_1]
          refine wpAnyH_take (i := 6) (oi := ⟨some 38, .load 27 (.tmp 37), 27, _, _, _⟩) (v := ?v6b) rfl (by kernel_rfl) (by kernel_rfl) (by kernel_rfl) (fun _ _ _ h => h) (Or.inl ⟨by rfl, ?hy6b⟩) hHeld ?rest6b
          case hy6b => intro w9 hSw; obtain ⟨d0, d1, d2, d3, d4, d5⟩ := N1.out.later hSw; go_simp; (try with_reducible rfl)
          try simp only [Act.put, s_put, s_0, s_1]
          refine wpAnyH_ready (rs := [7]) (by kernel_rfl) (by simp) ?_
          refine AllReadyH.cons (o := ⟨some 39, .call { callee := .value (.tmp 32), args := #[.tmp 35, .tmp 38], argTypes := #[27, 27] }, 3, _, _, _⟩) rfl (fun K hK => ?_) AllReadyH.nil
          go_simp
          refine (hc.out _ hHeld).mono ?_
          rintro e x7 ⟨rfl, hN7⟩
          go_wp2_with fail
          have hT7 : Below wr.heap.size wr x7 := hT.trans (hN7.mono hT.size)
          refine hK.out _ _ (hHeld.trans (hN7.mono hHeld.size)) (fun _ => held_up (S' := fun w' => Below x7.heap.size x7 w') (fun w' h' => (hHeld.trans (hN7.mono hHeld.size)).trans (h'.mono (Nat.le_trans hHeld.size hN7.size))) _ _ _ _ ?_)
          clear hK K hHeld hT
          have hT : Below wr.heap.size wr x7 := hT7
          have hHeld : Below x7.heap.size x7 x7 := Below.refl _ _
          clear hT7 hN7
          try simp only [Act.put, s_put, s_0, s_1]
          refine wpAnyH_take (i := 8) (oi := ⟨some 40, .binOp BinOp.lss 3 (.tmp 39) (.const (Value.int IntKind.i64 0)) 3, 4, _, _, _⟩) (v := ?v8b) rfl (by kernel_rfl) (by kernel_rfl) (by kernel_rfl) (fun _ _ _ h => h) (Or.inl ⟨by rfl, ?hy8b⟩) hHeld ?rest8b
          case hy8b => intro w9 hSw; go_simp; (try with_reducible rfl)
          try simp only [Act.put, s_put, s_0, s_1]
          refine wpAnyH_take (i := 9) (oi := ⟨some 31, .assign (.tmp 40), 4, _, _, _⟩) (v := ?v9b) rfl (by kernel_rfl) (by kernel_rfl) (by kernel_rfl) (fun _ _ _ h => h) (Or.inl ⟨by rfl, ?hy9b⟩) hHeld ?rest9b
          case hy9b => intro w9 hSw; go_simp; (try with_reducible rfl)
          try simp only [Act.put, s_put, s_0, s_1]
          refine wpAnyH_done (by kernel_rfl) ?_ _
          refine NoPanic.normal ?_
          have hB7 : Below w.heap.size w x7 := hB.trans (hT.mono hB.size)
          have HO7 : Hid (x7.ownsRow w.heap.size 27 6 u7 no (rowLP O)) := own_laterS HO.out hT
          clear hT hHeld hc HO
          go_wp2_with fail
          refine wp_region_noPanic ?_
          refine wp_region_held_drew (S := fun w' => Below w.heap.size w w') (by kernel_rfl) (hB7.drew) (fun hHeld => ?_)
          obtain ⟨d, hd⟩ : ∃ d, d = x7.drew := ⟨_, rfl⟩
          have HOd : Hid (d.ownsRow w.heap.size 27 6 u7 no (rowLP O)) := by rw [hd]; exact HO7.out.drew
          rw [← hd] at hHeld ⊢
          clear hd
          refine wpAnyH_take (i := 0) (oi := ⟨some 14, .move (.tmp 7), 22, _, _, _⟩) (v := ?v0d) rfl (by kernel_rfl) (by kernel_rfl) (by kernel_rfl) (fun _ _ _ h => h) (Or.inl ⟨by rfl, ?hy0d⟩) hHeld ?rest0d
          case hy0d => intro w9 hSw; go_simp; (try with_reducible rfl)
          try simp only [Act.put, s_put, s_0, s_1]
          refine wpAnyH_take (i := 1) (oi := ⟨some 15, .move (.tmp 0), 22, _, _, _⟩) (v := ?v1d) rfl (by kernel_rfl) (by kernel_rfl) (by kernel_rfl) (fun _ _ _ h => h) (Or.inl ⟨by rfl, ?hy1d⟩) hHeld ?rest1d
          case hy1d => intro w9 hSw; go_simp; (try with_reducible rfl)
          try simp only [Act.put, s_put, s_0, s_1]
          refine wpAnyH_take (i := 2) (oi := ⟨some 16, .indexAddr 22 (.tmp 15) (.const (Value.int IntKind.i64 0)), 0, _, _, _⟩) (v := ?v2d) rfl (by kernel_rfl) (by kernel_rfl) (by kernel_rfl) (fun _ _ _ h => h) (Or.inl ⟨by rfl, ?hy2d⟩) hHeld ?rest2d
          case hy2d => intro w9 hSw; go_simp; (try with_reducible rfl)
          try simp only [Act.put, s_put, s_0, s_1]
          refine wpAnyH_take (i := 3) (oi := ⟨some 17, .load 27 (.tmp 16), 27, _, _, _⟩) (v := ?v3d) rfl (by kernel_rfl) (by kernel_rfl) (by kernel_rfl) (fun _ _ _ h => h) (Or.inl ⟨by rfl, ?hy3d⟩) hHeld ?rest3d
          case hy3d => intro w9 hSw; obtain ⟨d0, d1, d2, d3, d4, d5⟩ := M1.out.later hSw; go_simp; (try with_reducible rfl)
          try simp only [Act.put, s_put, s_0, s_1]
          refine wpAnyH_take (i := 6) (oi := ⟨some 20, .move (.tmp 0), 22, _, _, _⟩) (v := ?v6d) rfl (by kernel_rfl) (by kernel_rfl) (by kernel_rfl) (fun _ _ _ h => h) (Or.inl ⟨by rfl, ?hy6d⟩) hHeld ?rest6d
          case hy6d => intro w9 hSw; go_simp; (try with_reducible rfl)
          try simp only [Act.put, s_put, s_0, s_1]
          refine wpAnyH_take (i := 7) (oi := ⟨some 21, .slice 22 (.tmp 20) (some (.const (Value.int IntKind.i64 1))) none none, 22, _, _, _⟩) (v := .slice (some ⟨b1, if k1 = 1 then o1 else o1 + 6, none⟩) (n1 - 1) (k1 - 1)) rfl (by kernel_rfl) (by kernel_rfl) (by kernel_rfl) (fun _ _ _ h => h) (Or.inl ⟨by rfl, ?hy7d⟩) hHeld ?rest7d
          case hy7d => intro w9 hSw; go_simp; first | rfl | (split <;> simp_all)
          try simp only [Act.put, s_put, s_0, s_1]
          refine wpAnyH_ready (rs := [4]) (by kernel_rfl) (by simp) ?_
          refine AllReadyH.cons (o := ⟨some 18, .buildSlice 22 1 #[(0, .tmp 17)], 22, _, _, _⟩) rfl (fun K hK => ?_) AllReadyH.nil
          go_simp
          refine hK.out _ _ (hHeld.alloc hHeld.size _) (fun _ => ?_)
          clear hK K
          try simp only [Act.put, s_put, s_0, s_1]
          obtain ⟨v9, w9, run9, own9, hB9⟩ := push1P HOd.out hHeld.size (by have := HBD.out; omega) x
          refine wpAnyH_ready (rs := [5]) (by kernel_rfl) (by simp) ?_
          refine AllReadyH.cons (o := ⟨some 19, .call { callee := .builtin Builtin.append, args := #[.tmp 14, .tmp 18], argTypes := #[22, 22] }, 22, _, _, _⟩) rfl (fun K hK => ?_) AllReadyH.nil
          try rw [if_pos (by rfl)]
          refine wpOp_append_run15 (.tmp 14) (.tmp 18) 22 rfl _ _ _ rfl rfl run9 ?_
          refine hK.out _ _ (hHeld.trans hB9) (fun _ => ?_)
          clear hK K run9
          have hB10 := hHeld.trans hB9
          clear hHeld
          have hHeld := hB10
          try simp only [Act.put, s_put, s_0, s_1]
          refine wpAnyH_take (i := 8) (oi := ⟨some 7, .assign (.tmp 19), 22, _, _, _⟩) (v := ?v8d) rfl (by kernel_rfl) (by kernel_rfl) (by kernel_rfl) (fun _ _ _ h => h) (Or.inl ⟨by rfl, ?hy8d⟩) hHeld ?rest8d
          case hy8d => intro w9 hSw; go_simp; (try with_reducible rfl)
          try simp only [Act.put, s_put, s_0, s_1]
          refine wpAnyH_take (i := 9) (oi := ⟨some 0, .assign (.tmp 21), 22, _, _, _⟩) (v := ?v9d) rfl (by kernel_rfl) (by kernel_rfl) (by kernel_rfl) (fun _ _ _ h => h) (Or.inl ⟨by rfl, ?hy9d⟩) hHeld ?rest9d
          case hy9d => intro w9 hSw; go_simp; (try with_reducible rfl)
          try simp only [Act.put, s_put, s_0]
          refine wpAnyH_done (by kernel_rfl) ?_ _
          refine NoPanic.normal ?_
          go_wp2
          go_roundw
          case rel =>
            obtain ⟨r1, r2, q1, q2, q3, q4, q5, q6, q7⟩ := HI.out
            refine ⟨A'', y :: B'', O ++ [x], n1 - 1, n2, no + 1, b1, if k1 = 1 then o1 else o1 + 6, k1 - 1, b2, o2, k2, rfl, rfl, by omega, l2, by omega, m2, ⟨r1.cut (by simp at q1; omega), r2, by simp at q1 ⊢; omega, q2, by simp [q3], by omega, fun z hz => q5 z (List.mem_cons_of_mem _ hz), q6, ?_⟩, by show World.ownsRow _ _ _ _ _ _ _; rw [rowLP_app]; exact own9, hB10⟩
            rw [← q7, List.cons_merge_cons, if_pos (by simp only [mle, decide_eq_true_eq]; rw [← HQ.out]; omega)]
            simp
          case measure => simp only [lenOf]; omega
end Go.Proofs.Ytcdehohmgfocdaa
namespace Go.Proofs.Ytcdehohmgfocdaa
open Go.RowKit

set_option maxRecDepth 100000 in
set_option maxHeartbeats 8000000 in
theorem sortedP_any (c : Pt → Pt → Int) (h3 : Ord3 c) : ∀ (n : Nat) (a : Option Addr) (cap : Nat) (L : List Pt) (w : World), L.length = n → (0 < n → ∃ b o, a = some ⟨b, o, none⟩ ∧ RwP w b o L) → n ≤ cap → cap ≤ 9223372036854775807 → n ≤ 1759218604390 →
    (∀ x ∈ L, ∀ y ∈ L, ∀ d, Below w.heap.size w d → Calls Try.prog 19 #[x.val, y.val] d fun e w' => e = .returned (.int .i64 (c x y)) ∧ Below d.heap.size d w') →
    Calls Try.prog 23 #[.slice a n cap, .func (.func 19) #[] #[]] w fun e w' => ∃ v r, e = .returned v ∧ Hid (w'.ownsRow w.heap.size 27 6 v n (rowLP r) ∧ St c L r) ∧ Below w.heap.size w w' := by
  intro n
  induction n using Nat.strongRecOn with
  | ind n ih =>
  intro a cap L w hL hR hc hm hn hC
  by_cases h2 : n < 2
  · have hcl := cloneP_wide a n cap (fun i => L.getD i .nil) w (fun i hi => by
      obtain ⟨b, o, e, hr⟩ := hR (by omega)
      exact ⟨b, o, e, hr i _ (by simp [show i < L.length by omega])⟩) hn
    have hrl : rowP (fun i => L.getD i .nil) n = rowLP L := by rw [← hL]; exact rowP_getD L
    rw [hrl] at hcl
    have HS : Hid (St c L L) := St.refl (by
      match L, hL with
      | [], _ => exact List.Pairwise.nil
      | [x], _ => exact List.pairwise_singleton _ _
      | x :: y :: L, e => simp at e; omega)
    have h2' : ((n : Nat) : Int) < 2 := by omega
    clear ih hR hC hL
    go_enter Try.func23, Try.ntmps23
    go_wp2_with (go_at_call 47; refine hcl.mono ?_; clear hcl; rintro e w2 ⟨v, rfl, own2, hB2⟩)
    go_ret
    exact ⟨_, L, rfl, ⟨own2, HS.out⟩, hB2⟩
  · obtain ⟨b, o, rfl, hr⟩ := hR (by omega)
    obtain ⟨h, hh⟩ : ∃ h, h = n / 2 := ⟨_, rfl⟩
    have e1 : (L.take h).length = h := by rw [List.length_take]; omega
    have e2 : (L.drop h).length = n - h := by rw [List.length_drop]; omega
    have S1 : Hid (∀ d, Below w.heap.size w d → Calls Try.prog 23 #[.slice (some ⟨b, o, none⟩) h cap, .func (.func 19) #[] #[]] d fun e w' => ∃ v r, e = .returned v ∧ Hid (w'.ownsRow d.heap.size 27 6 v h (rowLP r) ∧ St c (L.take h) r) ∧ Below d.heap.size d w') := fun d hd =>
      ih h (by omega) (some ⟨b, o, none⟩) cap (L.take h) d e1 (fun _ => ⟨b, o, rfl, (hr.later hd).take h⟩) (by omega) hm (by omega) fun x hx y hy W hW => hC x (List.mem_of_mem_take hx) y (List.mem_of_mem_take hy) W (hd.trans (hW.mono hd.size))
    have S2 : Hid (∀ d, Below w.heap.size w d → Calls Try.prog 23 #[.slice (some ⟨b, o + h * 6, none⟩) (n - h) (cap - h), .func (.func 19) #[] #[]] d fun e w' => ∃ v r, e = .returned v ∧ Hid (w'.ownsRow d.heap.size 27 6 v (n - h) (rowLP r) ∧ St c (L.drop h) r) ∧ Below d.heap.size d w') := fun d hd =>
      ih (n - h) (by omega) (some ⟨b, o + h * 6, none⟩) (cap - h) (L.drop h) d e2 (fun _ => ⟨b, o + h * 6, rfl, (hr.later hd).drop h⟩) (by omega) (by omega) (by omega) fun x hx y hy W hW => hC x (List.mem_of_mem_drop hx) y (List.mem_of_mem_drop hy) W (hd.trans (hW.mono hd.size))
    have MG : Hid (∀ (B4 : Nat) (v4 : Value) (r4 : List Pt) (v9 : Value) (r9 : List Pt) (x4 x9 : World), Below w.heap.size w x4 → Below x4.heap.size x4 x9 → Hid (x4.ownsRow B4 27 6 v4 h (rowLP r4) ∧ St c (L.take h) r4) → Hid (x9.ownsRow x4.heap.size 27 6 v9 (n - h) (rowLP r9) ∧ St c (L.drop h) r9) →
        Calls Try.prog 48 #[v4, v9, .func (.func 19) #[] #[]] x9 fun e w' => ∃ v, e = .returned v ∧ Hid (w'.ownsRow x9.heap.size 27 6 v n (rowLP (r4.merge r9 (mle c))) ∧ St c L (r4.merge r9 (mle c))) ∧ Below x9.heap.size x9 w') := fun B4 v4 r4 v9 r9 x4 x9 hb4 hb9 g4 g9 => by
      have l4 := g4.out.2.perm.length_eq
      have l9 := g9.out.2.perm.length_eq
      rw [e1] at l4
      rw [e2] at l9
      obtain ⟨q4, k4, rfl, a1, a2, _, _, a5⟩ := ownLP (own_laterS g4.out.1 hb9) l4 (by omega)
      obtain ⟨q9, k9, rfl, b1, b2, _, _, b5⟩ := ownLP g9.out.1 l9 (by omega)
      have hw9 : Below w.heap.size w x9 := hb4.trans (hb9.mono hb4.size)
      have key := mergedP_any c q4 0 k4 q9 0 k9 r4 r9 x9 a5 b5 (by omega) (by omega) (by unfold maxLen at a2; omega) (by unfold maxLen at b2; omega) (by omega) fun x hx y hy d hd => hC y (List.mem_of_mem_drop (g9.out.2.perm.mem_iff.1 hy)) x (List.mem_of_mem_take (g4.out.2.perm.mem_iff.1 hx)) d (hw9.trans (hd.mono hw9.size))
      rw [l4, l9] at key
      refine key.mono ?_
      rintro e w' ⟨v, rfl, own, hB⟩
      have hs := St.merge h3 g4.out.2 g9.out.2
      rw [List.take_append_drop] at hs
      rw [show h + (n - h) = n by omega] at own
      exact ⟨v, rfl, ⟨own, hs⟩, hB⟩
    have HH : Hid (h < n ∧ n ≤ cap) := ⟨by omega, hc⟩
    have hh1 : (n : Int) / 2 = (h : Int) := by omega
    have hh2 : Int.tdiv (n : Int) 2 = (h : Int) := by rw [Int.tdiv_eq_ediv_of_nonneg (by omega)]; omega
    have hh3 : (h : Int) ≤ (cap : Int) := by omega
    have hh4 : (h : Int) ≤ (n : Int) := by omega
    have h2' : ¬ ((n : Nat) : Int) < 2 := by omega
    clear ih hR hC hL hh e1 e2 hr
    go_enter Try.func23, Try.ntmps23
    go_wp2_with fail
    refine wp_region_noPanic ?_
    refine wp_region_held_drew (S := fun w' => Below w.heap.size w w') (by kernel_rfl) ((Below.refl _ _).drew) (fun hHeld => ?_)
    have hT : Below w.heap.size w w.drew := hHeld
    obtain ⟨d, hd⟩ : ∃ d, d = w.drew := ⟨_, rfl⟩
    rw [← hd] at hHeld hT ⊢
    clear hd
    refine wpAnyH_take (i := 0) (oi := ⟨some 14, .move (.tmp 0), 22, _, _, _⟩) (v := ?v0) rfl (by kernel_rfl) (by kernel_rfl) (by kernel_rfl) (fun _ _ _ h => h) (Or.inl ⟨by rfl, ?hy0⟩) hHeld ?rest0
    case hy0 => intro w9 hSw; go_simp; (try with_reducible rfl)
    try simp only [Act.put, s_put, s_0, s_1]
    refine wpAnyH_take (i := 1) (oi := ⟨some 15, .move (.tmp 5), 3, _, _, _⟩) (v := ?v1) rfl (by kernel_rfl) (by kernel_rfl) (by kernel_rfl) (fun _ _ _ h => h) (Or.inl ⟨by rfl, ?hy1⟩) hHeld ?rest1
    case hy1 => intro w9 hSw; go_simp; (try with_reducible rfl)
    try simp only [Act.put, s_put, s_0, s_1]
    refine wpAnyH_take (i := 2) (oi := ⟨some 16, .slice 22 (.tmp 14) none (some (.tmp 15)) none, 22, _, _, _⟩) (v := .slice (some ⟨b, o, none⟩) h cap) rfl (by kernel_rfl) (by kernel_rfl) (by kernel_rfl) (fun _ _ _ h => h) (Or.inl ⟨by rfl, ?hy2⟩) hHeld ?rest2
    case hy2 => intro w9 hSw; go_simp
    try simp only [Act.put, s_put, s_0, s_1]
    refine wpAnyH_take (i := 3) (oi := ⟨some 17, .move (.tmp 1), 42, _, _, _⟩) (v := ?v3) rfl (by kernel_rfl) (by kernel_rfl) (by kernel_rfl) (fun _ _ _ h => h) (Or.inl ⟨by rfl, ?hy3⟩) hHeld ?rest3
    case hy3 => intro w9 hSw; go_simp; (try with_reducible rfl)
    try simp only [Act.put, s_put, s_0, s_1]
    refine wpAnyH_take (i := 5) (oi := ⟨some 19, .move (.tmp 0), 22, _, _, _⟩) (v := ?v5) rfl (by kernel_rfl) (by kernel_rfl) (by kernel_rfl) (fun _ _ _ h => h) (Or.inl ⟨by rfl, ?hy5⟩) hHeld ?rest5
    case hy5 => intro w9 hSw; go_simp; (try with_reducible rfl)
    try simp only [Act.put, s_put, s_0, s_1]
    refine wpAnyH_take (i := 6) (oi := ⟨some 20, .move (.tmp 5), 3, _, _, _⟩) (v := ?v6) rfl (by kernel_rfl) (by kernel_rfl) (by kernel_rfl) (fun _ _ _ h => h) (Or.inl ⟨by rfl, ?hy6⟩) hHeld ?rest6
    case hy6 => intro w9 hSw; go_simp; (try with_reducible rfl)
    try simp only [Act.put, s_put, s_0, s_1]
    refine wpAnyH_take (i := 7) (oi := ⟨some 21, .slice 22 (.tmp 19) (some (.tmp 20)) none none, 22, _, _, _⟩) (v := .slice (some ⟨b, o + h * 6, none⟩) (n - h) (cap - h)) rfl (by kernel_rfl) (by kernel_rfl) (by kernel_rfl) (fun _ _ _ h => h) (Or.inl ⟨by rfl, ?hy7⟩) hHeld ?rest7
    case hy7 => intro w9 hSw; go_simp; try (have := HH.out; omega)
    try simp only [Act.put, s_put, s_0, s_1]
    refine wpAnyH_take (i := 8) (oi := ⟨some 22, .move (.tmp 1), 42, _, _, _⟩) (v := ?v8) rfl (by kernel_rfl) (by kernel_rfl) (by kernel_rfl) (fun _ _ _ h => h) (Or.inl ⟨by rfl, ?hy8⟩) hHeld ?rest8
    case hy8 => intro w9 hSw; go_simp; (try with_reducible rfl)
    try simp only [Act.put, s_put, s_0, s_1]
    refine wpAnyH_take (i := 10) (oi := ⟨some 24, .move (.tmp 1), 42, _, _, _⟩) (v := ?v10) rfl (by kernel_rfl) (by kernel_rfl) (by kernel_rfl) (fun _ _ _ h => h) (Or.inl ⟨by rfl, ?hy10⟩) hHeld ?rest10
    case hy10 => intro w9 hSw; go_simp; (try with_reducible rfl)
    try simp only [Act.put, s_put, s_0, s_1]
    refine wpAnyH_ready (rs := [4]) (by kernel_rfl) (by simp) ?_
    refine AllReadyH.cons (o := ⟨some 18, .call { callee := .value (.func 23), args := #[.tmp 16, .tmp 17], argTypes := #[22, 42] }, 22, _, _, _⟩) rfl (fun K hK => ?_) AllReadyH.nil
    go_simp
    refine (S1.out _ hT).mono ?_
    rintro e x4 ⟨v4, r4, rfl, hr4, hN4⟩
    go_wp2_with fail
    have hT4 : Below w.heap.size w x4 := hT.trans (hN4.mono hT.size)
    refine hK.out _ _ (hHeld.trans (hN4.mono hHeld.size)) (fun _ => held_up (S' := fun w' => Below x4.heap.size x4 w') (fun w' h' => (hHeld.trans (hN4.mono hHeld.size)).trans (h'.mono (Nat.le_trans hHeld.size hN4.size))) _ _ _ _ ?_)
    clear hK K hHeld hT
    have hT : Below w.heap.size w x4 := hT4
    have hHeld : Below x4.heap.size x4 x4 := Below.refl _ _
    clear hT4 hN4
    try simp only [Act.put, s_put, s_0, s_1]
    refine wpAnyH_ready (rs := [9]) (by kernel_rfl) (by simp) ?_
    refine AllReadyH.cons (o := ⟨some 23, .call { callee := .value (.func 23), args := #[.tmp 21, .tmp 22], argTypes := #[22, 42] }, 22, _, _, _⟩) rfl (fun K hK => ?_) AllReadyH.nil
    go_simp
    refine (S2.out _ hT).mono ?_
    rintro e x9 ⟨v9, r9, rfl, hr9, hN9⟩
    have C11 := MG.out _ v4 r4 v9 r9 x4 x9 hT hN9 hr4 hr9
    go_wp2_with fail
    have hT9 : Below w.heap.size w x9 := hT.trans (hN9.mono hT.size)
    refine hK.out _ _ (hHeld.trans (hN9.mono hHeld.size)) (fun _ => held_up (S' := fun w' => Below x9.heap.size x9 w') (fun w' h' => (hHeld.trans (hN9.mono hHeld.size)).trans (h'.mono (Nat.le_trans hHeld.size hN9.size))) _ _ _ _ ?_)
    clear hK K hHeld hT
    have hT : Below w.heap.size w x9 := hT9
    have hHeld : Below x9.heap.size x9 x9 := Below.refl _ _
    clear hT9 hN9
    try simp only [Act.put, s_put, s_0, s_1]
    refine wpAnyH_ready (rs := [11]) (by kernel_rfl) (by simp) ?_
    refine AllReadyH.cons (o := ⟨some 25, .call { callee := .value (.func 48), args := #[.tmp 18, .tmp 23, .tmp 24], argTypes := #[22, 22, 42] }, 22, _, _, _⟩) rfl (fun K hK => ?_) AllReadyH.nil
    go_simp
    refine (C11).mono ?_
    rintro e x11 ⟨v11, rfl, hr11, hN11⟩
    have hz11 := hT.size
    go_wp2_with fail
    have hT11 : Below w.heap.size w x11 := hT.trans (hN11.mono hT.size)
    refine hK.out _ _ (hHeld.trans (hN11.mono hHeld.size)) (fun _ => held_up (S' := fun w' => Below x11.heap.size x11 w') (fun w' h' => (hHeld.trans (hN11.mono hHeld.size)).trans (h'.mono (Nat.le_trans hHeld.size hN11.size))) _ _ _ _ ?_)
    clear hK K hHeld hT
    have hT : Below w.heap.size w x11 := hT11
    have hHeld : Below x11.heap.size x11 x11 := Below.refl _ _
    clear hT11 hN11
    try simp only [Act.put, s_put, s_0, s_1]
    refine wpAnyH_take (i := 12) (oi := ⟨some 4, .assign (.tmp 25), 22, _, _, _⟩) (v := ?v12) rfl (by kernel_rfl) (by kernel_rfl) (by kernel_rfl) (fun _ _ _ h => h) (Or.inl ⟨by rfl, ?hy12⟩) hHeld ?rest12
    case hy12 => intro w9 hSw; go_simp; (try with_reducible rfl)
    try simp only [Act.put, s_put, s_0, s_1]
    refine wpAnyH_done (by kernel_rfl) ?_ _
    refine NoPanic.normal ?_
    go_wp2
    go_ret
    exact ⟨_, _, rfl, ⟨own_low15 hr11.out.1 hz11, hr11.out.2⟩, hT⟩
end Go.Proofs.Ytcdehohmgfocdaa
