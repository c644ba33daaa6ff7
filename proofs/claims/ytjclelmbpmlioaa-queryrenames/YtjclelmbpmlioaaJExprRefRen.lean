/-
  The document's Rename: a row of conditions that grows; of no function.
  The document's Rename.
  The document's Order and Same (haruspexref09), and its Order of values.
-/
import Derived.Test.YtjclelmbpmlioaaJBrief
import Derived.Test.YtjclelmbpmlioaaJExprRename
import Derived.Test.YtjclelmbpmlioaaJExprRenMath
import Derived.Test.YtjclelmbpmlioaaJExprBase
import Derived.Maps.AppendAt
import Derived.Deep.DeepCutAuto
namespace Go.Proofs.Ytjclelmbpmlioaa
open Go.RowKit

theorem IsX.kept {T : Nat → Prop} {W W' : World} (h : Kp T W W') : ∀ {x : X}, (∀ k, inX k x → T k) → IsX W x → IsX W' x := by
  refine @(X.ind fun x ih hT hx => ?_)
  rw [isX_eq] at hx ⊢
  refine ⟨hx.1, hx.2.1, fun i hi => ?_⟩
  obtain ⟨b, o, e, hn, hc⟩ := hx.2.2 i hi
  have hb : T b := hT b ((inX_eq _ _).2 (.inl ⟨by omega, o, e⟩))
  exact ⟨b, o, e, hn.kept h hb, ih i hi (fun k hk => hT k ((inX_eq _ _).2 (.inr ⟨i, hi, hk⟩))) hc⟩
theorem inX_ltI {w : World} {k : Nat} : ∀ {x : X}, IsX w x → inX k x → k < w.heap.size := by
  refine @(X.ind fun x ih hx hk => ?_)
  rw [isX_eq] at hx
  rcases (inX_eq _ _).1 hk with ⟨h0, o, e⟩ | ⟨i, hi, hk⟩
  · obtain ⟨b, o', e', hn, _⟩ := hx.2.2 0 h0
    rw [e] at e'
    cases e'
    exact hn.lt
  · obtain ⟨b, o', e', _, hc⟩ := hx.2.2 i hi
    exact ih i hi hc hk
/-- One more. -/
def upd (c : Nat → X) (i : Nat) (y : X) : Nat → X := fun j => if j = i then y else c j
theorem upd_same (c : Nat → X) (i : Nat) (y : X) : upd c i y i = y := by simp [upd]
theorem upd_other {c : Nat → X} {i j : Nat} {y : X} (h : j ≠ i) : upd c i y j = c j := by simp [upd, h]
theorem rowX_upd (c : Nat → X) (i : Nat) (y : X) : rowX (upd c i y) (i + 1) = rowX c i ++ y.cells.toList := by
  rw [rowX, upd_same, rowX_congr fun j hj => upd_other (by omega)]
/-- The parts of a row: each a condition in its world, new since B, none of them in the row's own block. -/
def Grown (B : Nat) (w : World) (u : Value) (i : Nat) (c : Nat → X) : Prop :=
  w.ownsRow B 68 7 u i (rowX c i) ∧ ∀ j, j < i → IsX w (c j) ∧ ∀ k, inX k (c j) → B ≤ k ∧ u.ownBlock ≠ some k
theorem grown_nil (B : Nat) (w : World) (c : Nat → X) : Grown B w (.slice none 0 0) 0 c := ⟨World.ownsRow_nil _ _ _ _, fun _ h => absurd h (Nat.not_lt_zero _)⟩
theorem Grown.later {B i : Nat} {w w' : World} {u : Value} {c : Nat → X} (h : Grown B w u i c) (hB : Below w.heap.size w w') : Grown B w' u i c :=
  ⟨own_laterS h.1 hB, fun j hj => ⟨(h.2 j hj).1.later hB, (h.2 j hj).2⟩⟩
/-- One more behind them: what the append makes of it. -/
theorem Grown.push {B i : Nat} {w : World} {u : Value} {c : Nat → X} (h : Grown B w u i c) (hb : B ≤ w.heap.size) (hi : i ≤ 1466015503658) (y : X) (hy : IsX w y) (hn : ∀ k, inX k y → B ≤ k ∧ u.ownBlock ≠ some k) :
    ∃ a' cap' w', (Builtin.append_ #[38, 38] 38 #[u, .slice (some ⟨w.heap.size, 0, none⟩) 1 1]).run Try.prog (w.alloc (.cells y.cells 68)) = .ok (.slice a' (i + 1) cap') w' ∧
      Grown B w' (.slice a' (i + 1) cap') (i + 1) (upd c i y) ∧ Below B w w' ∧ w.heap.size ≤ w'.heap.size := by
  obtain ⟨i0, hi0, hz0, hz1, hz2⟩ := info_parts infoX
  have hB0 : Below w.heap.size w (w.alloc (.cells y.cells 68)) := (Below.refl _ _).alloc (Nat.le_refl _) _
  have hrow : ∀ j v, (y.cells.toList)[j]? = some v → (w.alloc (.cells y.cells 68)).cell? ((Addr.mk w.heap.size 0 none).add j) = some v := by
    have := nodes_cells (w := w.alloc (.cells y.cells 68)) (b := w.heap.size) (o := 0) (n := 1) (c := fun _ => y) fun q hq => by
      obtain rfl : q = 0 := by omega
      exact node_new w _ y
    simpa [rowX] using this
  obtain ⟨v', w', hrun, hown', hgrow, _, hat⟩ := run_append_own_at (P := Try.prog) (w := w.alloc (.cells y.cells 68)) B 38 38 68 i0 _ 7 96 Try.underlying38 hi0 hz0 hz1 hz2 rfl (by decide) u i (rowX c i) (h.1.alloc _) ⟨w.heap.size, 0, none⟩ 1 1 y.cells.toList rfl
    hrow (fun q hq => by simp at hq; rcases hq with rfl | rfl | rfl | rfl | rfl | rfl | rfl <;> rfl) (by unfold maxLen; omega) (by omega) (by simp; omega)
  rw [← rowX_upd] at hown'
  obtain ⟨a', cap', rfl, hcap, _, _⟩ := own_nodes hown'
  have hlt : ∀ q, u.ownBlock = some q → B ≤ q ∧ q < w.heap.size := fun q e => ⟨(h.1.lt q e).1, (h.1.lt q e).2⟩
  have hBw : Below B w w' := (hB0.mono hb).grown hgrow (by simp; omega) fun q e => (hlt q e).1
  have hk : Kp (fun q => u.ownBlock ≠ some q) w w' := fun q o hq _ e => (hgrow.block q (by have := (Array.getElem?_eq_some_iff.1 e).1; simp; omega) fun e' => hq e'.symm).trans ((hB0.block q (Array.getElem?_eq_some_iff.1 e).1).trans e)
  have hown'' : ∀ q, q < w.heap.size → u.ownBlock ≠ some q → (Value.slice a' (i + 1) cap').ownBlock ≠ some q := fun q hq h1 h2 => by
    rcases hat with h3 | h3
    · rw [h3] at h2; exact h1 h2
    · rw [h3] at h2
      injection h2 with h2
      simp at h2
      omega
  refine ⟨a', cap', w', hrun, ⟨hown', fun j hj => ?_⟩, hBw, by have := hgrow.size; simp at this; omega⟩
  by_cases e : j = i
  · subst e
    rw [upd_same]
    exact ⟨hy.kept hk fun q hq => (hn q hq).2, fun q hq => ⟨(hn q hq).1, hown'' q (inX_ltI hy hq) (hn q hq).2⟩⟩
  · rw [upd_other e]
    obtain ⟨q1, q2⟩ := h.2 j (by omega)
    exact ⟨q1.kept hk fun q hq => (q2 q hq).2, fun q hq => ⟨(q2 q hq).1, hown'' q (inX_ltI q1 hq) (q2 q hq).2⟩⟩
/-- A row as the parts of a condition. -/
theorem Grown.is {B i : Nat} {w : World} {a : Option Addr} {cap : Nat} {c : Nat → X} (h : Grown B w (.slice a i cap) i c) (k : Int) (v : Val) (s f : ByteArray) :
    IsX w (.mk k v s f a i cap c) ∧ ∀ q, inX q (.mk k v s f a i cap c) → B ≤ q := by
  obtain ⟨a', cap', e, h1, h2, h3⟩ := own_nodes h.1
  cases e
  refine ⟨⟨h1, by unfold maxLen at h2; omega, fun j hj => ?_⟩, fun q hq => ?_⟩
  · obtain ⟨g, e, _, _, _, hn⟩ := h3 (by omega)
    exact ⟨g, 0, e, by rw [Nat.zero_add]; exact hn j hj, (h.2 j hj).1⟩
  · rcases hq with ⟨h0, o, e⟩ | ⟨j, hj, hq⟩
    · obtain ⟨g, e', hg, _⟩ := h3 h0
      rw [e'] at e
      cases e
      exact hg
    · exact ((h.2 j hj).2 q hq).1
end Go.Proofs.Ytjclelmbpmlioaa
namespace Go.Proofs.Ytjclelmbpmlioaa
open Go.RowKit

theorem wpOp_append_run {P : Program} {w w' : World} {o : Oper} {a : Act} {K : Act → World → Prop} {Q : Exit → Act → World → Prop} (s x : Operand) (t : TypeId)
    (hop : o.op = Op.call { callee := Callee.builtin Builtin.append, args := #[s, x], argTypes := #[t, t] }) (v y v' : Value) (hs : a.eval s = v) (hx : a.eval x = y)
    (hrun : (Builtin.append_ #[t, t] o.type #[v, y]).run P w = .ok v' w') (hK : K (a.put o.dst v') w') : Oper.wp P o a w K Q := by
  unfold Oper.wp
  simp [execOp, hop, resolve, invoke, builtin, hs, hx, hrun, Result.andThen]
  exact hK
/-- What the document's Rename hands back. -/
def RenAns (g : ByteArray → ByteArray) (x : X) (w : World) (e : Ending) (w' : World) : Prop :=
  ∃ y : X, e = .returned y.val ∧ IsX w' y ∧ ordX y (renX g x) = 0 ∧ (∀ k, inX k y → w.heap.size ≤ k) ∧ Below w.heap.size w w'
/-- The row with one more, and the box that holds it, behind the append and the store. -/
theorem ren_next {g : ByteArray → ByteArray} {x yi : X} {s : ByteArray} {w A wr x9 : World} {a1 : Option Addr} {i cap1 : Nat} {c : Nat → X}
    (hG : Grown (w.heap.size + 3) wr (.slice a1 i cap1) i c) (hO : ∀ j, j < i → ordX (c j) (renX g (x.c j)) = 0) (hbox : wr.heap[w.heap.size + 2]? = some (.cells (X.mk x.k x.v s x.f a1 i cap1 c).cells 68 (0, 0)))
    (hA : Below (w.heap.size + 2) A wr) (hs : w.heap.size + 3 ≤ wr.heap.size) (hi : i ≤ 1466015503658) (hI : IsX x9 yi) (ho : ordX yi (renX g (x.c i)) = 0) (hn : ∀ k, inX k yi → wr.heap.size ≤ k) (h9 : Below wr.heap.size wr x9) :
    ∃ a2 cap2 w2, (Builtin.append_ #[38, 38] 38 #[.slice a1 i cap1, .slice (some ⟨x9.heap.size, 0, none⟩) 1 1]).run Try.prog (x9.alloc (.cells yi.cells 68)) = .ok (.slice a2 (i + 1) cap2) w2 ∧
      Below (w.heap.size + 2) wr x9 ∧ Below (w.heap.size + 2) wr (x9.alloc (.cells yi.cells 68)) ∧ Below (w.heap.size + 2) wr w2 ∧ Below (w.heap.size + 2) wr (w2.setCell ⟨w.heap.size + 2, 6, none⟩ (.slice a2 (i + 1) cap2)) ∧
      (w2.cell? ⟨w.heap.size + 2, 6, none⟩ = some (.slice a1 i cap1) ∧ w2.frozen? ⟨w.heap.size + 2, 6, none⟩ = false) ∧
      ((w2.setCell ⟨w.heap.size + 2, 6, none⟩ (.slice a2 (i + 1) cap2)).heap[w.heap.size + 2]? = some (.cells (X.mk x.k x.v s x.f a2 (i + 1) cap2 (upd c i yi)).cells 68 (0, 0)) ∧
        Grown (w.heap.size + 3) (w2.setCell ⟨w.heap.size + 2, 6, none⟩ (.slice a2 (i + 1) cap2)) (.slice a2 (i + 1) cap2) (i + 1) (upd c i yi) ∧ (∀ j, j < i + 1 → ordX (upd c i yi j) (renX g (x.c j)) = 0) ∧
        Below (w.heap.size + 2) A (w2.setCell ⟨w.heap.size + 2, 6, none⟩ (.slice a2 (i + 1) cap2)) ∧ w.heap.size + 3 ≤ (w2.setCell ⟨w.heap.size + 2, 6, none⟩ (.slice a2 (i + 1) cap2)).heap.size) := by
  have h9s := h9.size
  obtain ⟨a2, cap2, w2, hrun, hG2, hB2, hs2⟩ := (hG.later h9).push (by omega) hi yi hI fun k hk => ⟨by have := hn k hk; omega, fun e => by have := (hG.1.lt k e).2; have := hn k hk; omega⟩
  have b9 : Below (w.heap.size + 2) wr x9 := h9.mono (by omega)
  have b2 : Below (w.heap.size + 2) wr w2 := b9.trans (hB2.mono (by omega))
  have hbox2 : w2.heap[w.heap.size + 2]? = some (.cells (X.mk x.k x.v s x.f a1 i cap1 c).cells 68 (0, 0)) := (hB2.block _ (by omega)).trans ((h9.block _ (by omega)).trans hbox)
  have b3 : Below (w.heap.size + 2) wr (w2.setCell ⟨w.heap.size + 2, 6, none⟩ (.slice a2 (i + 1) cap2)) := b2.setCell (p := ⟨w.heap.size + 2, 6, none⟩) (by simp) _
  refine ⟨a2, cap2, w2, hrun, b9, b9.alloc (by omega) _, b2, b3, ⟨(node_box hbox2).at0.2.2.2.2.2.2, Free.frozen ⟨_, hbox2⟩ 6⟩, ?_, ⟨?_, fun j hj => ?_⟩, fun j hj => ?_, hA.trans b3, by rw [World.size_setCell]; omega⟩
  · rw [heap_set hbox2]
    simp [X.k, X.v, X.s, X.f, X.a, X.n, X.cap]
  · refine hG2.1.kept (row := some (w.heap.size + 2)) ⟨rfl, rfl, rfl, by simp, fun k _ hne => Below.heap_setCell w2 ⟨w.heap.size + 2, 6, none⟩ _ k fun e => hne (by rw [show k = w.heap.size + 2 from e])⟩ (.inr fun e => ?_)
    have := (hG2.1.lt _ e).1
    omega
  · obtain ⟨q1, q2⟩ := hG2.2 j hj
    exact ⟨q1.kept (T := fun k => k ≠ w.heap.size + 2) (Kp.set _ (by simp)) fun k hk => by have := (q2 k hk).1; omega, q2⟩
  · by_cases e : j = i
    · subst e; rw [upd_same]; exact ho
    · rw [upd_other e]; exact hO j (by omega)
set_option maxRecDepth 100000 in
set_option maxHeartbeats 8000000 in
theorem refRename_two (a a' : Option Addr) (m m' cap cap' : Nat) (S T : Nat → ByteArray) (x : X) (w : World) (hm : m ≤ 9223372036854775807) (hm' : m' ≤ 9223372036854775807) (hk : x.k = 2) (hX : IsX w x) (hsm : WdX x) (hS : Txs w a m S) (hT : Txs w a' m' T)
    (ih : ∀ i, i < x.n → ∀ d, IsX d (x.c i) → Txs d a m S → Txs d a' m' T → Calls Try.prog 40 #[(x.c i).val, .slice a m cap, .slice a' m' cap'] d (RenAns (nameX S T (min m m')) (x.c i) d)) :
    Calls Try.prog 40 #[x.val, .slice a m cap, .slice a' m' cap'] w (RenAns (nameX S T (min m m')) x w) := by
  obtain ⟨g, hg⟩ : ∃ g, g = nameX S T (min m m') := ⟨_, rfl⟩
  have NM : Hid (∀ d, Below w.heap.size w d → Calls Try.prog 26 #[.string x.s, .slice a m cap, .slice a' m' cap'] d fun e w' => e = .returned (.string (g x.s)) ∧ w' = d) := fun d h => by rw [hg]; exact refVar_wide x.s a a' m m' cap cap' S T d (hS.later h) (hT.later h) hm hm'
  have hk' : (x.k == 2) = true := by simpa using hk
  have HI : Hid (∀ i, i < x.n → ∀ d, Below w.heap.size w d → Calls Try.prog 40 #[(x.c i).val, .slice a m cap, .slice a' m' cap'] d (RenAns g (x.c i) d)) := fun i hi d h => by
    rw [hg]
    obtain ⟨_, _, _, _, hx⟩ := (hX.later h).part hi
    exact ih i hi d hx (hS.later h) (hT.later h)
  have hlen : x.n ≤ 1466015503658 := ((wdX_eq x).1 hsm).1
  obtain ⟨s, hs⟩ : ∃ s, s = g x.s := ⟨_, rfl⟩
  have HR : Hid (∀ (a1 : Option Addr) (cap1 : Nat) (c : Nat → X), (∀ j, j < x.n → ordX (c j) (renX g (x.c j)) = 0) → ordX (X.mk x.k x.v s x.f a1 x.n cap1 c) (renX g x) = 0) := fun a1 cap1 c h => by
    obtain ⟨q1, q2, q3, q4, q5, q6⟩ := renX_parts g x
    refine (ordX_zero _ _).2 ⟨q1.symm, q2.symm, ?_, q4.symm, q5.symm, fun i hi => by rw [q6]; exact h i hi⟩
    rw [q3, if_pos hk]
    exact hs
  rw [← hg]
  have HX : Hid (IsX w x) := hX
  obtain ⟨A, hA⟩ : ∃ A, ((w.alloc (.cells x.cells 68)).alloc (.cells X.nil.cells 68)).alloc (.cells (X.mk x.k x.v s x.f none 0 0 x.c).cells 68) = A := ⟨_, rfl⟩
  have hB : Below w.heap.size w A := by rw [← hA]; exact (((Below.refl _ w).alloc (Nat.le_refl _) _).alloc (by simp) _).alloc (by simp; omega) _
  have hsz : A.heap.size = w.heap.size + 3 := by rw [← hA]; simp
  have hx0 : A.heap[w.heap.size]? = some (.cells x.cells 68 (0, 0)) := by
    rw [← hA]
    exact (alloc_old (by simp; omega)).trans ((alloc_old (by simp)).trans (alloc_new _ _))
  have hx1 : A.heap[w.heap.size + 1]? = some (.cells X.nil.cells 68 (0, 0)) := by
    rw [← hA, alloc_old (by simp)]
    exact alloc2_new _ _ _
  have hx2 : A.heap[w.heap.size + 2]? = some (.cells (X.mk x.k x.v s x.f none 0 0 x.c).cells 68 (0, 0)) := by
    have := alloc_new ((w.alloc (.cells x.cells 68)).alloc (.cells X.nil.cells 68)) (.cells (X.mk x.k x.v s x.f none 0 0 x.c).cells 68)
    rw [World.size_alloc, World.size_alloc, hA] at this
    exact this
  have HA : Hid (A.heap.size = w.heap.size + 3) := hsz
  have HX0 : Hid (A.heap[w.heap.size]? = some (.cells x.cells 68 (0, 0))) := hx0
  have HX1 : Hid (A.heap[w.heap.size + 1]? = some (.cells X.nil.cells 68 (0, 0))) := hx1
  have HX2 : Hid (A.heap[w.heap.size + 2]? = some (.cells (X.mk x.k x.v s x.f none 0 0 x.c).cells 68 (0, 0))) := hx2
  have HB : Hid (Below w.heap.size w A) := hB
  have HS : Hid (g x.s = s) := hs.symm
  clear hs
  clear hg ih hX hS hT hsz hx0 hx1 hx2 hB hk hsm
  go_enter Try.func40, Try.ntmps40
  go_wp2_with (first | (go_at_call 26; refine (NM.out _ (((Below.refl _ _).alloc (Nat.le_refl _) _).alloc (by simp) _ |>.alloc (by simp; omega) _)).mono ?_; rintro e w1 ⟨rfl, hw1⟩; replace hw1 := hw1.symm; subst hw1))
  rw [HS.out]
  change Code.wp _ _ _ _ (((w.alloc (.cells x.cells 68)).alloc (.cells X.nil.cells 68)).alloc (.cells (X.mk x.k x.v s x.f none 0 0 x.c).cells 68))
  rw [hA]
  clear hA NM HS
  go_loopw [8] (fun iv wr => ∃ (i : Nat) (a1 : Option Addr) (cap1 : Nat) (c : Nat → X), i ≤ x.n ∧ iv = .int .i64 i ∧ Hid (wr.heap[w.heap.size + 2]? = some (.cells (X.mk x.k x.v s x.f a1 i cap1 c).cells 68 (0, 0))) ∧ Hid (Grown (w.heap.size + 3) wr (.slice a1 i cap1) i c) ∧ Hid (∀ j, j < i → ordX (c j) (renX g (x.c j)) = 0) ∧ Below (w.heap.size + 2) A wr ∧ w.heap.size + 3 ≤ wr.heap.size) (fun iv _ => x.n - (intOf iv).toNat)
  case atStart => exact ⟨0, none, 0, x.c, Nat.zero_le _, rfl, HX2, grown_nil _ _ _, fun j hj => absurd hj (Nat.not_lt_zero _), Below.refl _ _, by rw [HA.out]; exact Nat.le_refl _⟩
  case round =>
    obtain ⟨i, a1, cap1, c, hi, rfl, HBX, HG, HO, hBr, hsr⟩ := hrel
    have hwr : Below w.heap.size w wr := HB.out.trans (hBr.mono (by omega))
    have HXW : Hid (wr.heap[w.heap.size]? = some (.cells x.cells 68 (0, 0))) := (hBr.block _ (by omega)).trans HX0.out
    have c6 := (node_box HXW.out).at0.2.2.2.2.2.2
    by_cases hin : i < x.n
    · obtain ⟨b, o, ea, hn, hx⟩ := (HX.out.later hwr).part hin
      have hbl : b < w.heap.size := by obtain ⟨b', o', ea', hn', _⟩ := HX.out.part hin; rw [ea] at ea'; cases ea'; exact hn'.lt
      have HC := HI.out i hin
      have HIN : Hid (i < x.n) := hin
      have C6 : Hid (wr.cell? ⟨w.heap.size, 6, none⟩ = some (.slice (some ⟨b, o, none⟩) x.n x.cap)) := by rw [← ea]; exact c6
      have N1 : Hid (Node wr b (o + i * 7) (x.c i)) := hn
      have C7 : Hid (wr.cell? ⟨w.heap.size + 2, 6, none⟩ = some (.slice a1 i cap1)) := (node_box HBX.out).at0.2.2.2.2.2.2
      have HEA : Hid (x.a = some ⟨b, o, none⟩) := ea
      rw [ea] at c6
      clear ea hn hx hin
      have hile : i ≤ 1466015503658 := by omega
      go_wp2
      refine wp_region_noPanic ?_
      refine wp_region_held_drew (S := fun w' => Below (w.heap.size + 2) wr w') (by kernel_rfl) ((Below.refl _ _).drew) (fun hHeld => ?_)
      have hT : Below wr.heap.size wr wr.drew := (Below.refl _ _).drew
      obtain ⟨d, hdw⟩ : ∃ d, d = wr.drew := ⟨_, rfl⟩
      rw [← hdw] at hHeld hT ⊢
      clear hdw c6
      refine wpAnyH_take (i := 0) (oi := ⟨some 27, .fieldAddr 68 (.tmp 7) 4, 0, _, _, _⟩) (v := ?v0a) rfl (by kernel_rfl) (by kernel_rfl) (by kernel_rfl) (fun _ _ _ h => h) (Or.inl ⟨by rfl, ?hy0a⟩) hHeld ?rest0a
      case hy0a => intro w9 hSw; go_simp; (try with_reducible rfl)
      try simp only [Act.put, s_put, s_0, s_1]
      refine wpAnyH_take (i := 2) (oi := ⟨some 29, .fieldAddr 68 (.tmp 3) 4, 0, _, _, _⟩) (v := ?v2a) rfl (by kernel_rfl) (by kernel_rfl) (by kernel_rfl) (fun _ _ _ h => h) (Or.inl ⟨by rfl, ?hy2a⟩) hHeld ?rest2a
      case hy2a => intro w9 hSw; go_simp; (try with_reducible rfl)
      try simp only [Act.put, s_put, s_0, s_1]
      refine wpAnyH_take (i := 3) (oi := ⟨some 30, .load 38 (.tmp 29), 38, _, _, _⟩) (v := ?v3a) rfl (by kernel_rfl) (by kernel_rfl) (by kernel_rfl) (fun _ _ _ h => h) (Or.inl ⟨by rfl, ?hy3a⟩) hHeld ?rest3a
      case hy3a => intro w9 hSw; have cc := (hSw.cell (p := ⟨w.heap.size, 6, none⟩) (by simp)).trans C6.out; go_simp; (try with_reducible rfl)
      try simp only [Act.put, s_put, s_0, s_1]
      refine wpAnyH_take (i := 4) (oi := ⟨some 31, .move (.tmp 8), 3, _, _, _⟩) (v := ?v4a) rfl (by kernel_rfl) (by kernel_rfl) (by kernel_rfl) (fun _ _ _ h => h) (Or.inl ⟨by rfl, ?hy4a⟩) hHeld ?rest4a
      case hy4a => intro w9 hSw; go_simp; (try with_reducible rfl)
      try simp only [Act.put, s_put, s_0, s_1]
      refine wpAnyH_take (i := 5) (oi := ⟨some 32, .indexAddr 38 (.tmp 30) (.tmp 31), 0, _, _, _⟩) (v := ?v5a) rfl (by kernel_rfl) (by kernel_rfl) (by kernel_rfl) (fun _ _ _ h => h) (Or.inl ⟨by rfl, ?hy5a⟩) hHeld ?rest5a
      case hy5a => intro w9 hSw; go_simp; (try with_reducible rfl)
      try simp only [Act.put, s_put, s_0, s_1]
      refine wpAnyH_take (i := 6) (oi := ⟨some 33, .load 68 (.tmp 32), 68, _, _, _⟩) (v := ?v6a) rfl (by kernel_rfl) (by kernel_rfl) (by kernel_rfl) (fun _ _ _ h => h) (Or.inl ⟨by rfl, ?hy6a⟩) hHeld ?rest6a
      case hy6a => intro w9 hSw; obtain ⟨d0, d1, d2, d3, d4, d5, d6⟩ := N1.out.below hSw (by omega); go_simp; (try with_reducible rfl)
      try simp only [Act.put, s_put, s_0, s_1]
      refine wpAnyH_take (i := 7) (oi := ⟨some 34, .move (.tmp 1), 25, _, _, _⟩) (v := ?v7a) rfl (by kernel_rfl) (by kernel_rfl) (by kernel_rfl) (fun _ _ _ h => h) (Or.inl ⟨by rfl, ?hy7a⟩) hHeld ?rest7a
      case hy7a => intro w9 hSw; go_simp; (try with_reducible rfl)
      try simp only [Act.put, s_put, s_0, s_1]
      refine wpAnyH_take (i := 8) (oi := ⟨some 35, .move (.tmp 2), 25, _, _, _⟩) (v := ?v8a) rfl (by kernel_rfl) (by kernel_rfl) (by kernel_rfl) (fun _ _ _ h => h) (Or.inl ⟨by rfl, ?hy8a⟩) hHeld ?rest8a
      case hy8a => intro w9 hSw; go_simp; (try with_reducible rfl)
      try simp only [Act.put, s_put, s_0, s_1]
      refine wpAnyH_ready (rs := [1, 9]) (by kernel_rfl) (by simp) ?_
      refine AllReadyH.cons (o := ⟨some 28, .load 38 (.tmp 27), 38, _, _, _⟩) rfl (fun K hK => ?_) (AllReadyH.cons (o := ⟨some 36, .call { callee := .value (.func 40), args := #[.tmp 33, .tmp 34, .tmp 35], argTypes := #[68, 25, 25] }, 68, _, _, _⟩) rfl (fun K hK => ?_) AllReadyH.nil)
      · have cc := (Below.cell hT (p := ⟨w.heap.size + 2, 6, none⟩) (by simp; omega)).trans C7.out
        go_simp
        clear cc
        refine hK.out _ _ hHeld (fun _ => ?_)
        clear hK K
        try simp only [Act.put, s_put, s_0, s_1]
        refine wpAnyH_ready (rs := [9]) (by kernel_rfl) (by simp) ?_
        refine AllReadyH.cons (o := ⟨some 36, .call { callee := .value (.func 40), args := #[.tmp 33, .tmp 34, .tmp 35], argTypes := #[68, 25, 25] }, 68, _, _, _⟩) rfl (fun K hK => ?_) AllReadyH.nil
        go_simp
        refine (HC _ (hwr.trans (hT.mono hwr.size))).mono ?_
        rintro e x9 ⟨yi, rfl, hI, ho, hnew, h9d⟩
        have h9 : Below wr.heap.size wr x9 := hT.trans (h9d.mono hT.size)
        obtain ⟨a2, cap2, w2, hrun, v1, v2, v3, v4, ⟨v5, v6⟩, v7⟩ := ren_next HG.out HO.out HBX.out hBr hsr hile hI ho (fun k hk => Nat.le_trans hT.size (hnew k hk)) h9
        have HV : Hid _ := v7
        clear v7 hI ho hnew h9d
        go_wp2_with fail
        refine hK.out _ _ v1 (fun _ => ?_)
        clear hK K
        try simp only [Act.put, s_put, s_0, s_1]
        refine wpAnyH_ready (rs := [10]) (by kernel_rfl) (by simp) ?_
        refine AllReadyH.cons (o := ⟨some 37, .buildSlice 38 1 #[(0, .tmp 36)], 38, _, _, _⟩) rfl (fun K hK => ?_) AllReadyH.nil
        go_simp
        refine hK.out _ _ v2 (fun _ => ?_)
        clear hK K
        try simp only [Act.put, s_put, s_0, s_1]
        refine wpAnyH_ready (rs := [11]) (by kernel_rfl) (by simp) ?_
        refine AllReadyH.cons (o := ⟨some 38, .call { callee := .builtin Builtin.append, args := #[.tmp 28, .tmp 37], argTypes := #[38, 38] }, 38, _, _, _⟩) rfl (fun K hK => ?_) AllReadyH.nil
        rw [if_pos (by rfl)]
        refine wpOp_append_run (.tmp 28) (.tmp 37) 38 rfl _ _ _ rfl rfl hrun ?_
        refine hK.out _ _ v3 (fun _ => ?_)
        clear hK K
        try simp only [Act.put, s_put, s_0, s_1]
        refine wpAnyH_ready (rs := [12]) (by kernel_rfl) (by simp) ?_
        refine AllReadyH.cons (o := ⟨some 39, .fieldAddr 68 (.tmp 7) 4, 0, _, _, _⟩) rfl (fun K hK => ?_) AllReadyH.nil
        go_simp
        refine hK.out _ _ v3 (fun _ => ?_)
        clear hK K
        try simp only [Act.put, s_put, s_0, s_1]
        refine wpAnyH_ready (rs := [13]) (by kernel_rfl) (by simp) ?_
        refine AllReadyH.cons (o := ⟨none, Op.store 38 (Operand.tmp 39) (Operand.tmp 38), 0, _, _, _⟩) rfl (fun K hK => ?_) AllReadyH.nil
        go_simp
        refine hK.out _ _ v4 (fun _ => ?_)
        clear hK K
        try simp only [Act.put, s_put, s_0, s_1]
        refine wpAnyH_done (by kernel_rfl) ?_ _
        refine NoPanic.normal ?_
        go_wp2
        go_roundw
        case rel => exact ⟨i + 1, a2, cap2, upd c i yi, HIN.out, by go_num, HV.out.1, HV.out.2.1, HV.out.2.2.1, HV.out.2.2.2.1, HV.out.2.2.2.2⟩
        case measure => have := HIN.out; simp [intOf]; omega
      · go_simp
        refine (HC _ (hwr.trans (hT.mono hwr.size))).mono ?_
        rintro e x9 ⟨yi, rfl, hI, ho, hnew, h9d⟩
        have h9 : Below wr.heap.size wr x9 := hT.trans (h9d.mono hT.size)
        obtain ⟨a2, cap2, w2, hrun, v1, v2, v3, v4, ⟨v5, v6⟩, v7⟩ := ren_next HG.out HO.out HBX.out hBr hsr hile hI ho (fun k hk => Nat.le_trans hT.size (hnew k hk)) h9
        have HV : Hid _ := v7
        clear v7 hI ho hnew h9d
        go_wp2_with fail
        refine hK.out _ _ v1 (fun _ => ?_)
        clear hK K
        try simp only [Act.put, s_put, s_0, s_1]
        refine wpAnyH_ready (rs := [1, 10]) (by kernel_rfl) (by simp) ?_
        refine AllReadyH.cons (o := ⟨some 28, .load 38 (.tmp 27), 38, _, _, _⟩) rfl (fun K hK => ?_) (AllReadyH.cons (o := ⟨some 37, .buildSlice 38 1 #[(0, .tmp 36)], 38, _, _, _⟩) rfl (fun K hK => ?_) AllReadyH.nil)
        · have cc := (Below.cell h9 (p := ⟨w.heap.size + 2, 6, none⟩) (by simp; omega)).trans C7.out
          go_simp
          clear cc
          refine hK.out _ _ v1 (fun _ => ?_)
          clear hK K
          try simp only [Act.put, s_put, s_0, s_1]
          refine wpAnyH_ready (rs := [10]) (by kernel_rfl) (by simp) ?_
          refine AllReadyH.cons (o := ⟨some 37, .buildSlice 38 1 #[(0, .tmp 36)], 38, _, _, _⟩) rfl (fun K hK => ?_) AllReadyH.nil
          go_simp
          refine hK.out _ _ v2 (fun _ => ?_)
          clear hK K
          try simp only [Act.put, s_put, s_0, s_1]
          refine wpAnyH_ready (rs := [11]) (by kernel_rfl) (by simp) ?_
          refine AllReadyH.cons (o := ⟨some 38, .call { callee := .builtin Builtin.append, args := #[.tmp 28, .tmp 37], argTypes := #[38, 38] }, 38, _, _, _⟩) rfl (fun K hK => ?_) AllReadyH.nil
          rw [if_pos (by rfl)]
          refine wpOp_append_run (.tmp 28) (.tmp 37) 38 rfl _ _ _ rfl rfl hrun ?_
          refine hK.out _ _ v3 (fun _ => ?_)
          clear hK K
          try simp only [Act.put, s_put, s_0, s_1]
          refine wpAnyH_ready (rs := [12]) (by kernel_rfl) (by simp) ?_
          refine AllReadyH.cons (o := ⟨some 39, .fieldAddr 68 (.tmp 7) 4, 0, _, _, _⟩) rfl (fun K hK => ?_) AllReadyH.nil
          go_simp
          refine hK.out _ _ v3 (fun _ => ?_)
          clear hK K
          try simp only [Act.put, s_put, s_0, s_1]
          refine wpAnyH_ready (rs := [13]) (by kernel_rfl) (by simp) ?_
          refine AllReadyH.cons (o := ⟨none, Op.store 38 (Operand.tmp 39) (Operand.tmp 38), 0, _, _, _⟩) rfl (fun K hK => ?_) AllReadyH.nil
          go_simp
          refine hK.out _ _ v4 (fun _ => ?_)
          clear hK K
          try simp only [Act.put, s_put, s_0, s_1]
          refine wpAnyH_done (by kernel_rfl) ?_ _
          refine NoPanic.normal ?_
          go_wp2
          go_roundw
          case rel => exact ⟨i + 1, a2, cap2, upd c i yi, HIN.out, by go_num, HV.out.1, HV.out.2.1, HV.out.2.2.1, HV.out.2.2.2.1, HV.out.2.2.2.2⟩
          case measure => have := HIN.out; simp [intOf]; omega
        · go_simp
          refine hK.out _ _ v2 (fun _ => ?_)
          clear hK K
          try simp only [Act.put, s_put, s_0, s_1]
          refine wpAnyH_ready (rs := [1]) (by kernel_rfl) (by simp) ?_
          refine AllReadyH.cons (o := ⟨some 28, .load 38 (.tmp 27), 38, _, _, _⟩) rfl (fun K hK => ?_) AllReadyH.nil
          have cc := (Below.cell (h9.alloc h9.size (.cells yi.cells 68)) (p := ⟨w.heap.size + 2, 6, none⟩) (by simp; omega)).trans C7.out
          go_simp
          clear cc
          refine hK.out _ _ v2 (fun _ => ?_)
          clear hK K
          try simp only [Act.put, s_put, s_0, s_1]
          refine wpAnyH_ready (rs := [11]) (by kernel_rfl) (by simp) ?_
          refine AllReadyH.cons (o := ⟨some 38, .call { callee := .builtin Builtin.append, args := #[.tmp 28, .tmp 37], argTypes := #[38, 38] }, 38, _, _, _⟩) rfl (fun K hK => ?_) AllReadyH.nil
          rw [if_pos (by rfl)]
          refine wpOp_append_run (.tmp 28) (.tmp 37) 38 rfl _ _ _ rfl rfl hrun ?_
          refine hK.out _ _ v3 (fun _ => ?_)
          clear hK K
          try simp only [Act.put, s_put, s_0, s_1]
          refine wpAnyH_ready (rs := [12]) (by kernel_rfl) (by simp) ?_
          refine AllReadyH.cons (o := ⟨some 39, .fieldAddr 68 (.tmp 7) 4, 0, _, _, _⟩) rfl (fun K hK => ?_) AllReadyH.nil
          go_simp
          refine hK.out _ _ v3 (fun _ => ?_)
          clear hK K
          try simp only [Act.put, s_put, s_0, s_1]
          refine wpAnyH_ready (rs := [13]) (by kernel_rfl) (by simp) ?_
          refine AllReadyH.cons (o := ⟨none, Op.store 38 (Operand.tmp 39) (Operand.tmp 38), 0, _, _, _⟩) rfl (fun K hK => ?_) AllReadyH.nil
          go_simp
          refine hK.out _ _ v4 (fun _ => ?_)
          clear hK K
          try simp only [Act.put, s_put, s_0, s_1]
          refine wpAnyH_done (by kernel_rfl) ?_ _
          refine NoPanic.normal ?_
          go_wp2
          go_roundw
          case rel => exact ⟨i + 1, a2, cap2, upd c i yi, HIN.out, by go_num, HV.out.1, HV.out.2.1, HV.out.2.2.1, HV.out.2.2.2.1, HV.out.2.2.2.2⟩
          case measure => have := HIN.out; simp [intOf]; omega
    · obtain rfl : i = x.n := by omega
      have z0 := (hBr.block (w.heap.size + 1) (by omega)).trans HX1.out
      obtain ⟨d0, d1, d2, d3, d4, d5, d6⟩ := (node_box HBX.out).at0
      obtain ⟨e0, e1, e2, e3, e4, e5, e6⟩ := (node_box z0).at0
      have gf : ∀ j, wr.frozen? ⟨w.heap.size + 1, j, none⟩ = false := fun j => Free.frozen ⟨_, z0⟩ j
      have f0 := gf 0
      have f1 := gf 1
      have f2 := gf 2
      have f3 := gf 3
      have f4 := gf 4
      have f5 := gf 5
      have f6 := gf 6
      have hblk := heap_set7 (y := X.mk x.k x.v s x.f a1 x.n cap1 c) z0
      obtain ⟨q1, q2⟩ := HG.out.is x.k x.v s x.f
      have FIN : Hid (RenAns g x w (.returned (X.mk x.k x.v s x.f a1 x.n cap1 c).val) (set7 wr (w.heap.size + 1) (X.mk x.k x.v s x.f a1 x.n cap1 c))) :=
        ⟨_, rfl, q1.kept (T := fun k => k ≠ w.heap.size + 1) (fun k o hk _ e => (heap_set7_other hk).trans e) (fun k hk => by have := q2 k hk; omega), HR.out a1 cap1 c HO.out, fun k hk => by have := q2 k hk; omega, below_set7 hwr (by omega)⟩
      clear gf q1 q2 hin
      go_wp2
      refine bodyPost_ret (results_cell_row rfl _ _ (w.heap.size + 1) 68 _ (0, 0) _ rfl hblk Try.underlying68 rfl (by kernel_rfl)) rfl ?_
      exact FIN.out
set_option maxRecDepth 100000 in
set_option maxHeartbeats 8000000 in
theorem refRename_other (a a' : Option Addr) (m m' cap cap' : Nat) (S T : Nat → ByteArray) (x : X) (w : World) (hm : m ≤ 9223372036854775807) (hm' : m' ≤ 9223372036854775807) (hk : ¬ x.k = 2) (hX : IsX w x) (hsm : WdX x) (hS : Txs w a m S) (hT : Txs w a' m' T)
    (ih : ∀ i, i < x.n → ∀ d, IsX d (x.c i) → Txs d a m S → Txs d a' m' T → Calls Try.prog 40 #[(x.c i).val, .slice a m cap, .slice a' m' cap'] d (RenAns (nameX S T (min m m')) (x.c i) d)) :
    Calls Try.prog 40 #[x.val, .slice a m cap, .slice a' m' cap'] w (RenAns (nameX S T (min m m')) x w) := by
  obtain ⟨g, hg⟩ : ∃ g, g = nameX S T (min m m') := ⟨_, rfl⟩
  have NM : Hid (∀ d, Below w.heap.size w d → Calls Try.prog 26 #[.string x.s, .slice a m cap, .slice a' m' cap'] d fun e w' => e = .returned (.string (g x.s)) ∧ w' = d) := fun d h => by rw [hg]; exact refVar_wide x.s a a' m m' cap cap' S T d (hS.later h) (hT.later h) hm hm'
  have hk' : (x.k == 2) = false := by simpa using hk
  have HI : Hid (∀ i, i < x.n → ∀ d, Below w.heap.size w d → Calls Try.prog 40 #[(x.c i).val, .slice a m cap, .slice a' m' cap'] d (RenAns g (x.c i) d)) := fun i hi d h => by
    rw [hg]
    obtain ⟨_, _, _, _, hx⟩ := (hX.later h).part hi
    exact ih i hi d hx (hS.later h) (hT.later h)
  have hlen : x.n ≤ 1466015503658 := ((wdX_eq x).1 hsm).1
  have HR : Hid (∀ (a1 : Option Addr) (cap1 : Nat) (c : Nat → X), (∀ j, j < x.n → ordX (c j) (renX g (x.c j)) = 0) → ordX (X.mk x.k x.v x.s x.f a1 x.n cap1 c) (renX g x) = 0) := fun a1 cap1 c h => by
    obtain ⟨q1, q2, q3, q4, q5, q6⟩ := renX_parts g x
    refine (ordX_zero _ _).2 ⟨q1.symm, q2.symm, ?_, q4.symm, q5.symm, fun i hi => by rw [q6]; exact h i hi⟩
    rw [q3, if_neg hk]
    rfl
  rw [← hg]
  have HX : Hid (IsX w x) := hX
  obtain ⟨A, hA⟩ : ∃ A, ((w.alloc (.cells x.cells 68)).alloc (.cells X.nil.cells 68)).alloc (.cells (X.mk x.k x.v x.s x.f none 0 0 x.c).cells 68) = A := ⟨_, rfl⟩
  have hB : Below w.heap.size w A := by rw [← hA]; exact (((Below.refl _ w).alloc (Nat.le_refl _) _).alloc (by simp) _).alloc (by simp; omega) _
  have hsz : A.heap.size = w.heap.size + 3 := by rw [← hA]; simp
  have hx0 : A.heap[w.heap.size]? = some (.cells x.cells 68 (0, 0)) := by
    rw [← hA]
    exact (alloc_old (by simp; omega)).trans ((alloc_old (by simp)).trans (alloc_new _ _))
  have hx1 : A.heap[w.heap.size + 1]? = some (.cells X.nil.cells 68 (0, 0)) := by
    rw [← hA, alloc_old (by simp)]
    exact alloc2_new _ _ _
  have hx2 : A.heap[w.heap.size + 2]? = some (.cells (X.mk x.k x.v x.s x.f none 0 0 x.c).cells 68 (0, 0)) := by
    have := alloc_new ((w.alloc (.cells x.cells 68)).alloc (.cells X.nil.cells 68)) (.cells (X.mk x.k x.v x.s x.f none 0 0 x.c).cells 68)
    rw [World.size_alloc, World.size_alloc, hA] at this
    exact this
  have HA : Hid (A.heap.size = w.heap.size + 3) := hsz
  have HX0 : Hid (A.heap[w.heap.size]? = some (.cells x.cells 68 (0, 0))) := hx0
  have HX1 : Hid (A.heap[w.heap.size + 1]? = some (.cells X.nil.cells 68 (0, 0))) := hx1
  have HX2 : Hid (A.heap[w.heap.size + 2]? = some (.cells (X.mk x.k x.v x.s x.f none 0 0 x.c).cells 68 (0, 0))) := hx2
  have HB : Hid (Below w.heap.size w A) := hB
  clear hg ih hX hS hT hsz hx0 hx1 hx2 hB hk hsm
  go_enter Try.func40, Try.ntmps40
  go_wp2
  change Code.wp _ _ _ _ (((w.alloc (.cells x.cells 68)).alloc (.cells X.nil.cells 68)).alloc (.cells (X.mk x.k x.v x.s x.f none 0 0 x.c).cells 68))
  rw [hA]
  clear hA NM 
  go_loopw [8] (fun iv wr => ∃ (i : Nat) (a1 : Option Addr) (cap1 : Nat) (c : Nat → X), i ≤ x.n ∧ iv = .int .i64 i ∧ Hid (wr.heap[w.heap.size + 2]? = some (.cells (X.mk x.k x.v x.s x.f a1 i cap1 c).cells 68 (0, 0))) ∧ Hid (Grown (w.heap.size + 3) wr (.slice a1 i cap1) i c) ∧ Hid (∀ j, j < i → ordX (c j) (renX g (x.c j)) = 0) ∧ Below (w.heap.size + 2) A wr ∧ w.heap.size + 3 ≤ wr.heap.size) (fun iv _ => x.n - (intOf iv).toNat)
  case atStart => exact ⟨0, none, 0, x.c, Nat.zero_le _, rfl, HX2, grown_nil _ _ _, fun j hj => absurd hj (Nat.not_lt_zero _), Below.refl _ _, by rw [HA.out]; exact Nat.le_refl _⟩
  case round =>
    obtain ⟨i, a1, cap1, c, hi, rfl, HBX, HG, HO, hBr, hsr⟩ := hrel
    have hwr : Below w.heap.size w wr := HB.out.trans (hBr.mono (by omega))
    have HXW : Hid (wr.heap[w.heap.size]? = some (.cells x.cells 68 (0, 0))) := (hBr.block _ (by omega)).trans HX0.out
    have c6 := (node_box HXW.out).at0.2.2.2.2.2.2
    by_cases hin : i < x.n
    · obtain ⟨b, o, ea, hn, hx⟩ := (HX.out.later hwr).part hin
      have hbl : b < w.heap.size := by obtain ⟨b', o', ea', hn', _⟩ := HX.out.part hin; rw [ea] at ea'; cases ea'; exact hn'.lt
      have HC := HI.out i hin
      have HIN : Hid (i < x.n) := hin
      have C6 : Hid (wr.cell? ⟨w.heap.size, 6, none⟩ = some (.slice (some ⟨b, o, none⟩) x.n x.cap)) := by rw [← ea]; exact c6
      have N1 : Hid (Node wr b (o + i * 7) (x.c i)) := hn
      have C7 : Hid (wr.cell? ⟨w.heap.size + 2, 6, none⟩ = some (.slice a1 i cap1)) := (node_box HBX.out).at0.2.2.2.2.2.2
      have HEA : Hid (x.a = some ⟨b, o, none⟩) := ea
      rw [ea] at c6
      clear ea hn hx hin
      have hile : i ≤ 1466015503658 := by omega
      go_wp2
      refine wp_region_noPanic ?_
      refine wp_region_held_drew (S := fun w' => Below (w.heap.size + 2) wr w') (by kernel_rfl) ((Below.refl _ _).drew) (fun hHeld => ?_)
      have hT : Below wr.heap.size wr wr.drew := (Below.refl _ _).drew
      obtain ⟨d, hdw⟩ : ∃ d, d = wr.drew := ⟨_, rfl⟩
      rw [← hdw] at hHeld hT ⊢
      clear hdw c6
      refine wpAnyH_take (i := 0) (oi := ⟨some 27, .fieldAddr 68 (.tmp 7) 4, 0, _, _, _⟩) (v := ?v0b) rfl (by kernel_rfl) (by kernel_rfl) (by kernel_rfl) (fun _ _ _ h => h) (Or.inl ⟨by rfl, ?hy0b⟩) hHeld ?rest0b
      case hy0b => intro w9 hSw; go_simp; (try with_reducible rfl)
      try simp only [Act.put, s_put, s_0, s_1]
      refine wpAnyH_take (i := 2) (oi := ⟨some 29, .fieldAddr 68 (.tmp 3) 4, 0, _, _, _⟩) (v := ?v2b) rfl (by kernel_rfl) (by kernel_rfl) (by kernel_rfl) (fun _ _ _ h => h) (Or.inl ⟨by rfl, ?hy2b⟩) hHeld ?rest2b
      case hy2b => intro w9 hSw; go_simp; (try with_reducible rfl)
      try simp only [Act.put, s_put, s_0, s_1]
      refine wpAnyH_take (i := 3) (oi := ⟨some 30, .load 38 (.tmp 29), 38, _, _, _⟩) (v := ?v3b) rfl (by kernel_rfl) (by kernel_rfl) (by kernel_rfl) (fun _ _ _ h => h) (Or.inl ⟨by rfl, ?hy3b⟩) hHeld ?rest3b
      case hy3b => intro w9 hSw; have cc := (hSw.cell (p := ⟨w.heap.size, 6, none⟩) (by simp)).trans C6.out; go_simp; (try with_reducible rfl)
      try simp only [Act.put, s_put, s_0, s_1]
      refine wpAnyH_take (i := 4) (oi := ⟨some 31, .move (.tmp 8), 3, _, _, _⟩) (v := ?v4b) rfl (by kernel_rfl) (by kernel_rfl) (by kernel_rfl) (fun _ _ _ h => h) (Or.inl ⟨by rfl, ?hy4b⟩) hHeld ?rest4b
      case hy4b => intro w9 hSw; go_simp; (try with_reducible rfl)
      try simp only [Act.put, s_put, s_0, s_1]
      refine wpAnyH_take (i := 5) (oi := ⟨some 32, .indexAddr 38 (.tmp 30) (.tmp 31), 0, _, _, _⟩) (v := ?v5b) rfl (by kernel_rfl) (by kernel_rfl) (by kernel_rfl) (fun _ _ _ h => h) (Or.inl ⟨by rfl, ?hy5b⟩) hHeld ?rest5b
      case hy5b => intro w9 hSw; go_simp; (try with_reducible rfl)
      try simp only [Act.put, s_put, s_0, s_1]
      refine wpAnyH_take (i := 6) (oi := ⟨some 33, .load 68 (.tmp 32), 68, _, _, _⟩) (v := ?v6b) rfl (by kernel_rfl) (by kernel_rfl) (by kernel_rfl) (fun _ _ _ h => h) (Or.inl ⟨by rfl, ?hy6b⟩) hHeld ?rest6b
      case hy6b => intro w9 hSw; obtain ⟨d0, d1, d2, d3, d4, d5, d6⟩ := N1.out.below hSw (by omega); go_simp; (try with_reducible rfl)
      try simp only [Act.put, s_put, s_0, s_1]
      refine wpAnyH_take (i := 7) (oi := ⟨some 34, .move (.tmp 1), 25, _, _, _⟩) (v := ?v7b) rfl (by kernel_rfl) (by kernel_rfl) (by kernel_rfl) (fun _ _ _ h => h) (Or.inl ⟨by rfl, ?hy7b⟩) hHeld ?rest7b
      case hy7b => intro w9 hSw; go_simp; (try with_reducible rfl)
      try simp only [Act.put, s_put, s_0, s_1]
      refine wpAnyH_take (i := 8) (oi := ⟨some 35, .move (.tmp 2), 25, _, _, _⟩) (v := ?v8b) rfl (by kernel_rfl) (by kernel_rfl) (by kernel_rfl) (fun _ _ _ h => h) (Or.inl ⟨by rfl, ?hy8b⟩) hHeld ?rest8b
      case hy8b => intro w9 hSw; go_simp; (try with_reducible rfl)
      try simp only [Act.put, s_put, s_0, s_1]
      refine wpAnyH_ready (rs := [1, 9]) (by kernel_rfl) (by simp) ?_
      refine AllReadyH.cons (o := ⟨some 28, .load 38 (.tmp 27), 38, _, _, _⟩) rfl (fun K hK => ?_) (AllReadyH.cons (o := ⟨some 36, .call { callee := .value (.func 40), args := #[.tmp 33, .tmp 34, .tmp 35], argTypes := #[68, 25, 25] }, 68, _, _, _⟩) rfl (fun K hK => ?_) AllReadyH.nil)
      · have cc := (Below.cell hT (p := ⟨w.heap.size + 2, 6, none⟩) (by simp; omega)).trans C7.out
        go_simp
        clear cc
        refine hK.out _ _ hHeld (fun _ => ?_)
        clear hK K
        try simp only [Act.put, s_put, s_0, s_1]
        refine wpAnyH_ready (rs := [9]) (by kernel_rfl) (by simp) ?_
        refine AllReadyH.cons (o := ⟨some 36, .call { callee := .value (.func 40), args := #[.tmp 33, .tmp 34, .tmp 35], argTypes := #[68, 25, 25] }, 68, _, _, _⟩) rfl (fun K hK => ?_) AllReadyH.nil
        go_simp
        refine (HC _ (hwr.trans (hT.mono hwr.size))).mono ?_
        rintro e x9 ⟨yi, rfl, hI, ho, hnew, h9d⟩
        have h9 : Below wr.heap.size wr x9 := hT.trans (h9d.mono hT.size)
        obtain ⟨a2, cap2, w2, hrun, v1, v2, v3, v4, ⟨v5, v6⟩, v7⟩ := ren_next HG.out HO.out HBX.out hBr hsr hile hI ho (fun k hk => Nat.le_trans hT.size (hnew k hk)) h9
        have HV : Hid _ := v7
        clear v7 hI ho hnew h9d
        go_wp2_with fail
        refine hK.out _ _ v1 (fun _ => ?_)
        clear hK K
        try simp only [Act.put, s_put, s_0, s_1]
        refine wpAnyH_ready (rs := [10]) (by kernel_rfl) (by simp) ?_
        refine AllReadyH.cons (o := ⟨some 37, .buildSlice 38 1 #[(0, .tmp 36)], 38, _, _, _⟩) rfl (fun K hK => ?_) AllReadyH.nil
        go_simp
        refine hK.out _ _ v2 (fun _ => ?_)
        clear hK K
        try simp only [Act.put, s_put, s_0, s_1]
        refine wpAnyH_ready (rs := [11]) (by kernel_rfl) (by simp) ?_
        refine AllReadyH.cons (o := ⟨some 38, .call { callee := .builtin Builtin.append, args := #[.tmp 28, .tmp 37], argTypes := #[38, 38] }, 38, _, _, _⟩) rfl (fun K hK => ?_) AllReadyH.nil
        rw [if_pos (by rfl)]
        refine wpOp_append_run (.tmp 28) (.tmp 37) 38 rfl _ _ _ rfl rfl hrun ?_
        refine hK.out _ _ v3 (fun _ => ?_)
        clear hK K
        try simp only [Act.put, s_put, s_0, s_1]
        refine wpAnyH_ready (rs := [12]) (by kernel_rfl) (by simp) ?_
        refine AllReadyH.cons (o := ⟨some 39, .fieldAddr 68 (.tmp 7) 4, 0, _, _, _⟩) rfl (fun K hK => ?_) AllReadyH.nil
        go_simp
        refine hK.out _ _ v3 (fun _ => ?_)
        clear hK K
        try simp only [Act.put, s_put, s_0, s_1]
        refine wpAnyH_ready (rs := [13]) (by kernel_rfl) (by simp) ?_
        refine AllReadyH.cons (o := ⟨none, Op.store 38 (Operand.tmp 39) (Operand.tmp 38), 0, _, _, _⟩) rfl (fun K hK => ?_) AllReadyH.nil
        go_simp
        refine hK.out _ _ v4 (fun _ => ?_)
        clear hK K
        try simp only [Act.put, s_put, s_0, s_1]
        refine wpAnyH_done (by kernel_rfl) ?_ _
        refine NoPanic.normal ?_
        go_wp2
        go_roundw
        case rel => exact ⟨i + 1, a2, cap2, upd c i yi, HIN.out, by go_num, HV.out.1, HV.out.2.1, HV.out.2.2.1, HV.out.2.2.2.1, HV.out.2.2.2.2⟩
        case measure => have := HIN.out; simp [intOf]; omega
      · go_simp
        refine (HC _ (hwr.trans (hT.mono hwr.size))).mono ?_
        rintro e x9 ⟨yi, rfl, hI, ho, hnew, h9d⟩
        have h9 : Below wr.heap.size wr x9 := hT.trans (h9d.mono hT.size)
        obtain ⟨a2, cap2, w2, hrun, v1, v2, v3, v4, ⟨v5, v6⟩, v7⟩ := ren_next HG.out HO.out HBX.out hBr hsr hile hI ho (fun k hk => Nat.le_trans hT.size (hnew k hk)) h9
        have HV : Hid _ := v7
        clear v7 hI ho hnew h9d
        go_wp2_with fail
        refine hK.out _ _ v1 (fun _ => ?_)
        clear hK K
        try simp only [Act.put, s_put, s_0, s_1]
        refine wpAnyH_ready (rs := [1, 10]) (by kernel_rfl) (by simp) ?_
        refine AllReadyH.cons (o := ⟨some 28, .load 38 (.tmp 27), 38, _, _, _⟩) rfl (fun K hK => ?_) (AllReadyH.cons (o := ⟨some 37, .buildSlice 38 1 #[(0, .tmp 36)], 38, _, _, _⟩) rfl (fun K hK => ?_) AllReadyH.nil)
        · have cc := (Below.cell h9 (p := ⟨w.heap.size + 2, 6, none⟩) (by simp; omega)).trans C7.out
          go_simp
          clear cc
          refine hK.out _ _ v1 (fun _ => ?_)
          clear hK K
          try simp only [Act.put, s_put, s_0, s_1]
          refine wpAnyH_ready (rs := [10]) (by kernel_rfl) (by simp) ?_
          refine AllReadyH.cons (o := ⟨some 37, .buildSlice 38 1 #[(0, .tmp 36)], 38, _, _, _⟩) rfl (fun K hK => ?_) AllReadyH.nil
          go_simp
          refine hK.out _ _ v2 (fun _ => ?_)
          clear hK K
          try simp only [Act.put, s_put, s_0, s_1]
          refine wpAnyH_ready (rs := [11]) (by kernel_rfl) (by simp) ?_
          refine AllReadyH.cons (o := ⟨some 38, .call { callee := .builtin Builtin.append, args := #[.tmp 28, .tmp 37], argTypes := #[38, 38] }, 38, _, _, _⟩) rfl (fun K hK => ?_) AllReadyH.nil
          rw [if_pos (by rfl)]
          refine wpOp_append_run (.tmp 28) (.tmp 37) 38 rfl _ _ _ rfl rfl hrun ?_
          refine hK.out _ _ v3 (fun _ => ?_)
          clear hK K
          try simp only [Act.put, s_put, s_0, s_1]
          refine wpAnyH_ready (rs := [12]) (by kernel_rfl) (by simp) ?_
          refine AllReadyH.cons (o := ⟨some 39, .fieldAddr 68 (.tmp 7) 4, 0, _, _, _⟩) rfl (fun K hK => ?_) AllReadyH.nil
          go_simp
          refine hK.out _ _ v3 (fun _ => ?_)
          clear hK K
          try simp only [Act.put, s_put, s_0, s_1]
          refine wpAnyH_ready (rs := [13]) (by kernel_rfl) (by simp) ?_
          refine AllReadyH.cons (o := ⟨none, Op.store 38 (Operand.tmp 39) (Operand.tmp 38), 0, _, _, _⟩) rfl (fun K hK => ?_) AllReadyH.nil
          go_simp
          refine hK.out _ _ v4 (fun _ => ?_)
          clear hK K
          try simp only [Act.put, s_put, s_0, s_1]
          refine wpAnyH_done (by kernel_rfl) ?_ _
          refine NoPanic.normal ?_
          go_wp2
          go_roundw
          case rel => exact ⟨i + 1, a2, cap2, upd c i yi, HIN.out, by go_num, HV.out.1, HV.out.2.1, HV.out.2.2.1, HV.out.2.2.2.1, HV.out.2.2.2.2⟩
          case measure => have := HIN.out; simp [intOf]; omega
        · go_simp
          refine hK.out _ _ v2 (fun _ => ?_)
          clear hK K
          try simp only [Act.put, s_put, s_0, s_1]
          refine wpAnyH_ready (rs := [1]) (by kernel_rfl) (by simp) ?_
          refine AllReadyH.cons (o := ⟨some 28, .load 38 (.tmp 27), 38, _, _, _⟩) rfl (fun K hK => ?_) AllReadyH.nil
          have cc := (Below.cell (h9.alloc h9.size (.cells yi.cells 68)) (p := ⟨w.heap.size + 2, 6, none⟩) (by simp; omega)).trans C7.out
          go_simp
          clear cc
          refine hK.out _ _ v2 (fun _ => ?_)
          clear hK K
          try simp only [Act.put, s_put, s_0, s_1]
          refine wpAnyH_ready (rs := [11]) (by kernel_rfl) (by simp) ?_
          refine AllReadyH.cons (o := ⟨some 38, .call { callee := .builtin Builtin.append, args := #[.tmp 28, .tmp 37], argTypes := #[38, 38] }, 38, _, _, _⟩) rfl (fun K hK => ?_) AllReadyH.nil
          rw [if_pos (by rfl)]
          refine wpOp_append_run (.tmp 28) (.tmp 37) 38 rfl _ _ _ rfl rfl hrun ?_
          refine hK.out _ _ v3 (fun _ => ?_)
          clear hK K
          try simp only [Act.put, s_put, s_0, s_1]
          refine wpAnyH_ready (rs := [12]) (by kernel_rfl) (by simp) ?_
          refine AllReadyH.cons (o := ⟨some 39, .fieldAddr 68 (.tmp 7) 4, 0, _, _, _⟩) rfl (fun K hK => ?_) AllReadyH.nil
          go_simp
          refine hK.out _ _ v3 (fun _ => ?_)
          clear hK K
          try simp only [Act.put, s_put, s_0, s_1]
          refine wpAnyH_ready (rs := [13]) (by kernel_rfl) (by simp) ?_
          refine AllReadyH.cons (o := ⟨none, Op.store 38 (Operand.tmp 39) (Operand.tmp 38), 0, _, _, _⟩) rfl (fun K hK => ?_) AllReadyH.nil
          go_simp
          refine hK.out _ _ v4 (fun _ => ?_)
          clear hK K
          try simp only [Act.put, s_put, s_0, s_1]
          refine wpAnyH_done (by kernel_rfl) ?_ _
          refine NoPanic.normal ?_
          go_wp2
          go_roundw
          case rel => exact ⟨i + 1, a2, cap2, upd c i yi, HIN.out, by go_num, HV.out.1, HV.out.2.1, HV.out.2.2.1, HV.out.2.2.2.1, HV.out.2.2.2.2⟩
          case measure => have := HIN.out; simp [intOf]; omega
    · obtain rfl : i = x.n := by omega
      have z0 := (hBr.block (w.heap.size + 1) (by omega)).trans HX1.out
      obtain ⟨d0, d1, d2, d3, d4, d5, d6⟩ := (node_box HBX.out).at0
      obtain ⟨e0, e1, e2, e3, e4, e5, e6⟩ := (node_box z0).at0
      have gf : ∀ j, wr.frozen? ⟨w.heap.size + 1, j, none⟩ = false := fun j => Free.frozen ⟨_, z0⟩ j
      have f0 := gf 0
      have f1 := gf 1
      have f2 := gf 2
      have f3 := gf 3
      have f4 := gf 4
      have f5 := gf 5
      have f6 := gf 6
      have hblk := heap_set7 (y := X.mk x.k x.v x.s x.f a1 x.n cap1 c) z0
      obtain ⟨q1, q2⟩ := HG.out.is x.k x.v x.s x.f
      have FIN : Hid (RenAns g x w (.returned (X.mk x.k x.v x.s x.f a1 x.n cap1 c).val) (set7 wr (w.heap.size + 1) (X.mk x.k x.v x.s x.f a1 x.n cap1 c))) :=
        ⟨_, rfl, q1.kept (T := fun k => k ≠ w.heap.size + 1) (fun k o hk _ e => (heap_set7_other hk).trans e) (fun k hk => by have := q2 k hk; omega), HR.out a1 cap1 c HO.out, fun k hk => by have := q2 k hk; omega, below_set7 hwr (by omega)⟩
      clear gf q1 q2 hin
      go_wp2
      refine bodyPost_ret (results_cell_row rfl _ _ (w.heap.size + 1) 68 _ (0, 0) _ rfl hblk Try.underlying68 rfl (by kernel_rfl)) rfl ?_
      exact FIN.out
theorem refRename_wide (a a' : Option Addr) (m m' cap cap' : Nat) (S T : Nat → ByteArray) (hm : m ≤ 9223372036854775807) (hm' : m' ≤ 9223372036854775807) : ∀ (x : X) (w : World), IsX w x → WdX x → Txs w a m S → Txs w a' m' T →
    Calls Try.prog 40 #[x.val, .slice a m cap, .slice a' m' cap'] w (RenAns (nameX S T (min m m')) x w) := by
  refine X.ind fun x ih w hX hsm hS hT => ?_
  have ih' : ∀ i, i < x.n → ∀ d, IsX d (x.c i) → Txs d a m S → Txs d a' m' T → Calls Try.prog 40 #[(x.c i).val, .slice a m cap, .slice a' m' cap'] d (RenAns (nameX S T (min m m')) (x.c i) d) := fun i hi d h1 h2 h3 => ih i hi d h1 (((wdX_eq x).1 hsm).2 i hi) h2 h3
  by_cases hk : x.k = 2
  · exact refRename_two a a' m m' cap cap' S T x w hm hm' hk hX hsm hS hT ih'
  · exact refRename_other a a' m m' cap cap' S T x w hm hm' hk hX hsm hS hT ih'
end Go.Proofs.Ytjclelmbpmlioaa
namespace Go.Proofs.Ytjclelmbpmlioaa
open Go.RowKit

set_option maxHeartbeats 1000000 in
theorem refNumber_any (a b : Int) (w : World) : Calls Try.prog 58 #[.int .i64 a, .int .i64 b] w fun e w' => e = .returned (.int .i64 (cmpI a b)) ∧ w' = w := by
  rcases cmpI_cases a b with ⟨h, h1⟩ | ⟨h, h1⟩ | ⟨h, h1⟩
  · rw [h]
    have h2 : (a == b) = false := by simp; omega
    go_enter Try.func58, Try.ntmps58
    go_wp2
    go_ret
    exact ⟨rfl, rfl⟩
  · rw [h]
    have h2 : (a == b) = true := by simpa using h1
    go_enter Try.func58, Try.ntmps58
    go_wp2
    go_ret
    exact ⟨rfl, rfl⟩
  · rw [h]
    have h2 : (a == b) = false := by simp; omega
    have h3 : ¬ a < b := by omega
    go_enter Try.func58, Try.ntmps58
    go_wp2
    go_ret
    exact ⟨rfl, rfl⟩
theorem less_not {s t : ByteArray} (h : Op.bytesLess t.toList s.toList = true) : Op.bytesLess s.toList t.toList = false := by
  cases e : Op.bytesLess s.toList t.toList with
  | false => rfl
  | true => have := less_trans _ _ _ h e; rw [less_irrefl] at this; cases this
set_option maxHeartbeats 1000000 in
theorem refCompare_any (a b : ByteArray) (w : World) : Calls Try.prog 60 #[.string a, .string b] w fun e w' => e = .returned (.int .i64 (cmpS a b)) ∧ w' = w := by
  rcases cmpS_cases a b with ⟨h, h1, h2⟩ | ⟨h, h1⟩ | ⟨h, h1, h2⟩
  · rw [h]
    have h3 : (a.toList == b.toList) = false := by simpa using h2
    clear h2
    go_enter Try.func60, Try.ntmps60
    go_wp2
    go_ret
    exact ⟨rfl, rfl⟩
  · rw [h]
    have h3 : (a.toList == b.toList) = true := by simpa using h1
    clear h1
    go_enter Try.func60, Try.ntmps60
    go_wp2
    go_ret
    exact ⟨rfl, rfl⟩
  · rw [h]
    have h3 : (a.toList == b.toList) = false := by simpa using h2
    have h4 := less_not h1
    clear h2 h1
    go_enter Try.func60, Try.ntmps60
    go_wp2
    go_ret
    exact ⟨rfl, rfl⟩
theorem two_vals (w : World) (o p : Obj) : Below w.heap.size w ((w.alloc o).alloc p) := ((Below.refl _ w).alloc (Nat.le_refl _) _).alloc (by simp) _
set_option maxRecDepth 100000 in
set_option maxHeartbeats 2000000 in
theorem refV_k1 (k n : Int) (s : ByteArray) (k' n' : Int) (s' : ByteArray) (w : World) (hk : k < k') :
    Calls Try.prog 59 #[valV k n s, valV k' n' s'] w fun e w' => e = .returned (.int .i64 (-1)) ∧ Below w.heap.size w w' := by
  have e1 : (k == k') = false := by simp; omega
  go_enter Try.func59, Try.ntmps59
  go_wp2
  go_ret
  exact ⟨rfl, two_vals _ _ _⟩
set_option maxRecDepth 100000 in
set_option maxHeartbeats 2000000 in
theorem refV_k2 (k n : Int) (s : ByteArray) (k' n' : Int) (s' : ByteArray) (w : World) (hk : k' < k) :
    Calls Try.prog 59 #[valV k n s, valV k' n' s'] w fun e w' => e = .returned (.int .i64 (1)) ∧ Below w.heap.size w w' := by
  have e1 : (k == k') = false := by simp; omega
  have e2 : ¬ k < k' := by omega
  clear hk
  go_enter Try.func59, Try.ntmps59
  go_wp2
  go_ret
  exact ⟨rfl, two_vals _ _ _⟩
set_option maxRecDepth 100000 in
set_option maxHeartbeats 2000000 in
theorem refV_n1 (k n : Int) (s : ByteArray) (k' n' : Int) (s' : ByteArray) (w : World) (hk : k = k') (hn : n < n') :
    Calls Try.prog 59 #[valV k n s, valV k' n' s'] w fun e w' => e = .returned (.int .i64 (-1)) ∧ Below w.heap.size w w' := by
  subst hk
  have e3 : (n == n') = false := by simp; omega
  go_enter Try.func59, Try.ntmps59
  go_wp2
  go_ret
  exact ⟨rfl, two_vals _ _ _⟩
set_option maxRecDepth 100000 in
set_option maxHeartbeats 2000000 in
theorem refV_n2 (k n : Int) (s : ByteArray) (k' n' : Int) (s' : ByteArray) (w : World) (hk : k = k') (hn : n' < n) :
    Calls Try.prog 59 #[valV k n s, valV k' n' s'] w fun e w' => e = .returned (.int .i64 (1)) ∧ Below w.heap.size w w' := by
  subst hk
  have e3 : (n == n') = false := by simp; omega
  have e4 : ¬ n < n' := by omega
  clear hn
  go_enter Try.func59, Try.ntmps59
  go_wp2
  go_ret
  exact ⟨rfl, two_vals _ _ _⟩
set_option maxRecDepth 100000 in
set_option maxHeartbeats 2000000 in
theorem refV_s1 (k n : Int) (s : ByteArray) (k' n' : Int) (s' : ByteArray) (w : World) (hk : k = k') (hn : n = n') (hs : cmpS s s' = -1) :
    Calls Try.prog 59 #[valV k n s, valV k' n' s'] w fun e w' => e = .returned (.int .i64 (-1)) ∧ Below w.heap.size w w' := by
  subst hk
  subst hn
  rcases cmpS_cases s s' with ⟨h, h1, h2⟩ | ⟨h, h1⟩ | ⟨h, h1, h2⟩ <;> first | omega | skip
  have e5 : (s.toList == s'.toList) = false := by simpa using h2
  clear h2 hs h
  go_enter Try.func59, Try.ntmps59
  go_wp2
  go_ret
  exact ⟨rfl, two_vals _ _ _⟩
set_option maxRecDepth 100000 in
set_option maxHeartbeats 2000000 in
theorem refV_s0 (k n : Int) (s : ByteArray) (k' n' : Int) (s' : ByteArray) (w : World) (hk : k = k') (hn : n = n') (hs : cmpS s s' = 0) :
    Calls Try.prog 59 #[valV k n s, valV k' n' s'] w fun e w' => e = .returned (.int .i64 (0)) ∧ Below w.heap.size w w' := by
  subst hk
  subst hn
  rcases cmpS_cases s s' with ⟨h, h1, h2⟩ | ⟨h, h1⟩ | ⟨h, h1, h2⟩ <;> first | omega | skip
  have e5 : (s.toList == s'.toList) = true := by simpa using h1
  clear h1 hs h
  go_enter Try.func59, Try.ntmps59
  go_wp2
  go_ret
  exact ⟨rfl, two_vals _ _ _⟩
set_option maxRecDepth 100000 in
set_option maxHeartbeats 2000000 in
theorem refV_s2 (k n : Int) (s : ByteArray) (k' n' : Int) (s' : ByteArray) (w : World) (hk : k = k') (hn : n = n') (hs : cmpS s s' = 1) :
    Calls Try.prog 59 #[valV k n s, valV k' n' s'] w fun e w' => e = .returned (.int .i64 (1)) ∧ Below w.heap.size w w' := by
  subst hk
  subst hn
  rcases cmpS_cases s s' with ⟨h, h1, h2⟩ | ⟨h, h1⟩ | ⟨h, h1, h2⟩ <;> first | omega | skip
  have e5 : (s.toList == s'.toList) = false := by simpa using h2
  have e6 := less_not h1
  clear h2 hs h h1
  go_enter Try.func59, Try.ntmps59
  go_wp2
  go_ret
  exact ⟨rfl, two_vals _ _ _⟩
theorem refV_any (k n : Int) (s : ByteArray) (k' n' : Int) (s' : ByteArray) (w : World) :
    Calls Try.prog 59 #[valV k n s, valV k' n' s'] w fun e w' => e = .returned (.int .i64 (ordZ k n s k' n' s')) ∧ Below w.heap.size w w' := by
  have e : ordZ k n s k' n' s' = orI (cmpI k k') (orI (cmpI n n') (cmpS s s')) := ordV_eq ⟨k, n, s⟩ ⟨k', n', s'⟩
  rw [e]
  unfold orI
  rcases cmpI_cases k k' with ⟨h, h1⟩ | ⟨h, h1⟩ | ⟨h, h1⟩
  · rw [h, if_neg (by omega)]; exact refV_k1 k n s k' n' s' w h1
  · rw [h, if_pos rfl]
    rcases cmpI_cases n n' with ⟨g, g1⟩ | ⟨g, g1⟩ | ⟨g, g1⟩
    · rw [g, if_neg (by omega)]; exact refV_n1 k n s k' n' s' w h1 g1
    · rw [g, if_pos rfl]
      rcases cmpS_cases s s' with ⟨f, -⟩ | ⟨f, -⟩ | ⟨f, -⟩
      · rw [f]; exact refV_s1 k n s k' n' s' w h1 g1 f
      · rw [f]; exact refV_s0 k n s k' n' s' w h1 g1 f
      · rw [f]; exact refV_s2 k n s k' n' s' w h1 g1 f
    · rw [g, if_neg (by omega)]; exact refV_n2 k n s k' n' s' w h1 g1
  · rw [h, if_neg (by omega)]; exact refV_k2 k n s k' n' s' w h1
end Go.Proofs.Ytjclelmbpmlioaa
