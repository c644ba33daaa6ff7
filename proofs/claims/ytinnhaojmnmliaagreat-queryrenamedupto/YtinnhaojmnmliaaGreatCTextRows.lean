/-
  Rows of texts as lists; of no function.
  One name for another, and back: plain facts, of no function.
  The document's Name and Rename.
  The document's Rename: a row of conditions that grows; of no function.
-/
import Derived.Test.YtinnhaojmnmliaaGreatCPatBase
import Derived.Test.YtinnhaojmnmliaaGreatCExprMath
import Derived.Test.YtinnhaojmnmliaaGreatCExprRename
import Derived.Test.YtinnhaojmnmliaaGreatCRefVar
import Derived.Deep.DeepCutAuto
import Derived.Maps.AppendAt
namespace Go.Proofs.YtinnhaojmnmliaaGreat
open Go.RowKit

theorem infoS : (Tryz.prog.info? 9).map (fun i => (i.zero, i.size, i.bytes)) = some (some (.string ⟨#[]⟩), 1, 16) := by kernel_rfl
/-- Texts as cells. -/
def cellsS (l : List ByteArray) : List Value := l.map Value.string
def lstS (S : Nat → ByteArray) : Nat → List ByteArray
  | 0 => []
  | n + 1 => lstS S n ++ [S n]
theorem lstS_len (S : Nat → ByteArray) : ∀ n, (lstS S n).length = n
  | 0 => rfl
  | n + 1 => by simp [lstS, lstS_len S n]
theorem lstS_mem (S : Nat → ByteArray) (t : ByteArray) : ∀ n, t ∈ lstS S n ↔ ∃ j, j < n ∧ S j = t
  | 0 => by simp [lstS]
  | n + 1 => by
    simp only [lstS, List.mem_append, lstS_mem S t n, List.mem_singleton]
    constructor
    · rintro (⟨j, hj, e⟩ | e)
      · exact ⟨j, by omega, e⟩
      · exact ⟨n, by omega, e.symm⟩
    · rintro ⟨j, hj, e⟩
      by_cases h : j < n
      · exact .inl ⟨j, h, e⟩
      · obtain rfl : j = n := by omega
        exact .inr e.symm
/-- The texts of a list by index. -/
def atS (l : List ByteArray) (j : Nat) : ByteArray := l.getD j ⟨#[]⟩
theorem lstS_take (l : List ByteArray) : ∀ n, n ≤ l.length → lstS (atS l) n = l.take n
  | 0, _ => by simp [lstS]
  | n + 1, h => by
    have hn : n < l.length := by omega
    rw [lstS, lstS_take l n (by omega), List.take_add_one]
    simp [atS, hn]
theorem lstS_all (l : List ByteArray) : lstS (atS l) l.length = l := by rw [lstS_take l _ (Nat.le_refl _), List.take_length]
theorem own_txs {w : World} {base n : Nat} {v : Value} {l : List ByteArray} (h : w.ownsRow base 9 1 v n (cellsS l)) : ∃ a cap, v = .slice a n cap ∧ Txs w a n (atS l) ∧ l.length = n ∧ n ≤ cap := by
  obtain ⟨h1, h2⟩ := h
  have hl : l.length = n := by simpa [cellsS] using h1
  rcases h2 with ⟨rfl, rfl⟩ | ⟨g, cap, cur, rfl, _, hg, hle, hm, hsz, ht⟩
  · exact ⟨none, 0, rfl, fun h => by omega, hl, Nat.le_refl _⟩
  · refine ⟨some ⟨g, 0, none⟩, cap, rfl, fun _ => ⟨g, 0, rfl, fun j hj => ?_⟩, hl, hle⟩
    have hj1 : j < l.length := by omega
    have hj2 : cur.toList[j]? = some (.string l[j]) := by
      have : (cur.toList.take (n * 1))[j]? = some (.string l[j]) := by rw [ht]; simp [cellsS, hj1]
      rw [List.getElem?_take] at this
      split at this
      · exact this
      · cases this
    simp at hj2
    simp [World.cell?, hg, hj2, hj1, atS]
/-- One text more behind a row that the call owns. -/
theorem push_str {w : World} {base n : Nat} {v : Value} {l : List ByteArray} (h : w.ownsRow base 9 1 v n (cellsS l)) (hb : base ≤ w.heap.size) (hn : n ≤ 2097152) (s : ByteArray) :
    ∃ v' w', (Builtin.append_ #[42, 42] 42 #[v, .slice (some ⟨w.heap.size, 0, none⟩) 1 1]).run Tryz.prog (w.alloc (.cells #[.string s] 9)) = .ok v' w' ∧ w'.ownsRow base 9 1 v' (n + 1) (cellsS (l ++ [s])) ∧ Below base w w' := by
  obtain ⟨i0, hi, hz0, hz1, hz2⟩ := info_parts infoS
  obtain ⟨v', w', hrun, hown', hgrow, _⟩ := run_append_own (P := Tryz.prog) (w := w.alloc (.cells #[.string s] 9)) base 42 42 9 i0 (.string ⟨#[]⟩) 1 16 Tryz.underlying42 hi hz0 hz1 hz2 rfl (by decide) v _ _ (h.alloc _) ⟨w.heap.size, 0, none⟩ 1 1 [.string s] rfl
    (cell_one_new w (.string s) 9) (by simp [Value.oneCell']) (by unfold maxLen; omega) (by omega) (by simp; omega)
  refine ⟨v', w', hrun, ?_, ((Below.refl base w).alloc hb _).grown hgrow (by simp; omega) fun k e => (h.lt k e).1⟩
  have e : cellsS (l ++ [s]) = cellsS l ++ [.string s] := by simp [cellsS]
  rw [e]
  exact hown'
end Go.Proofs.YtinnhaojmnmliaaGreat
namespace Go.Proofs.YtinnhaojmnmliaaGreat
open Go.RowKit

theorem box_one (x : X) (w : World) : ∃ A, w.alloc (.cells x.cells 32) = A ∧ Below w.heap.size w A ∧ A.heap.size = w.heap.size + 1 ∧ Node A w.heap.size 0 x :=
  ⟨_, rfl, (Below.refl _ w).alloc (Nat.le_refl _) _, by simp, node_new w _ x⟩
theorem ordX_zsymm {x y : X} (h : ordX x y = 0) : ordX y x = 0 := by rw [ordX_turn, h]; rfl
theorem ordX_ztrans {x y z : X} (h : ordX x y = 0) (g : ordX y z = 0) : ordX x z = 0 := (ordX_comp x y z).1 h g
section
variable {x y z : X} {v w : ByteArray} (hy : ordX y (renX (nameX (fun _ => v) (fun _ => w) 1) x) = 0) (hw : ¬ hasVar w x)
include hy hw
theorem ren_back (hz : ordX z (renX (nameX (fun _ => w) (fun _ => v) 1) y) = 0) : ordX x z = 0 := by
  have h1 := renX_back (nameX (fun _ => v) (fun _ => w) 1) (nameX (fun _ => w) (fun _ => v) 1) x fun s hs => by
    rw [nameX_one, nameX_one]
    by_cases e : v = s
    · rw [if_pos e, if_pos rfl]; exact e
    · rw [if_neg e, if_neg (show ¬ w = s from fun q => hw (q ▸ hs))]
  exact ordX_ztrans h1 (ordX_zsymm (ordX_ztrans hz (renX_same _ _ _ hy)))
theorem ren_has : hasVar w y ↔ hasVar v x := by
  have h1 : hasVar w y ↔ hasVar w (renX (nameX (fun _ => v) (fun _ => w) 1) x) := ⟨hasVar_same w _ _ hy, hasVar_same w _ _ (ordX_zsymm hy)⟩
  rw [h1, hasVar_ren]
  constructor
  · rintro ⟨s, hs, e⟩
    rw [nameX_one] at e
    by_cases q : v = s
    · rw [q]; exact hs
    · rw [if_neg q] at e; exact absurd (e ▸ hs) hw
  · intro h
    exact ⟨v, h, by rw [nameX_one, if_pos rfl]⟩
theorem ren_len : (varsX y).length = (varsX x).length := by
  refine sorted_map_length (nameX (fun _ => v) (fun _ => w) 1) (varsX x) (varsX y) (sorted_vars x) (sorted_vars y) (fun s hs t ht e => ?_) fun t => ?_
  · rw [mem_vars] at hs ht
    rw [nameX_one, nameX_one] at e
    by_cases q1 : v = s
    · by_cases q2 : v = t
      · rw [← q1, ← q2]
      · rw [if_pos q1, if_neg q2] at e; exact absurd (e ▸ ht) hw
    · by_cases q2 : v = t
      · rw [if_neg q1, if_pos q2] at e; exact absurd (e ▸ hs) hw
      · rwa [if_neg q1, if_neg q2] at e
  · rw [mem_vars]
    have h1 : hasVar t y ↔ hasVar t (renX (nameX (fun _ => v) (fun _ => w) 1) x) := ⟨hasVar_same t _ _ hy, hasVar_same t _ _ (ordX_zsymm hy)⟩
    rw [h1, hasVar_ren]
    constructor
    · rintro ⟨s, hs, e⟩
      exact ⟨s, (mem_vars _ _).2 hs, e⟩
    · rintro ⟨s, hs, e⟩
      exact ⟨s, (mem_vars _ _).1 hs, e⟩
omit hw in
theorem ren_size : y.size = x.size := (size_same _ _ hy).trans (size_ren _ x)
end
/-- Is a name among the first? -/
def hasB (S : Nat → ByteArray) (v : ByteArray) : Nat → Bool
  | 0 => false
  | n + 1 => hasB S v n || (S n).toList == v.toList
theorem hasB_true {S : Nat → ByteArray} {v : ByteArray} : ∀ {n : Nat}, hasB S v n = true ↔ v ∈ lstS S n
  | 0 => by simp [hasB, lstS]
  | n + 1 => by
    rw [hasB, Bool.or_eq_true, hasB_true, lstS, List.mem_append, List.mem_singleton]
    refine or_congr Iff.rfl ?_
    rw [beq_iff_eq]
    constructor
    · intro h
      exact (bytes_eq h).symm
    · rintro rfl; rfl
theorem hasB_eq {x y : X} {v w : ByteArray} (h : hasVar w y ↔ hasVar v x) : hasB (atS (varsX y)) w (varsX y).length = hasB (atS (varsX x)) v (varsX x).length := by
  rw [Bool.eq_iff_iff, hasB_true, hasB_true, lstS_all, lstS_all, mem_vars, mem_vars]
  exact h
theorem xOk_ren {g : ByteArray → ByteArray} (hg : ∀ s, s.size ≤ maxLen → (g s).size ≤ maxLen) : ∀ x : X, XOk x → XOk (renX g x) := by
  refine X.ind fun x ih hx => ?_
  obtain ⟨a1, a2, a3, a4, a5, a6⟩ := renX_parts g x
  rw [xOk_eq] at hx
  rw [xOk_eq, a3, a4, a5]
  refine ⟨?_, hx.2.1, fun i hi => ?_⟩
  · split
    · exact hg _ hx.1
    · exact hx.1
  · rw [a6]; exact ih i hi (hx.2.2 i hi)
theorem xOk_one {x y : X} {v u : ByteArray} (hy : ordX y (renX (nameX (fun _ => v) (fun _ => u) 1) x) = 0) (zu : u.size ≤ maxLen) (hok : XOk x) : XOk y :=
  xOk_same _ _ hy (xOk_ren (fun s hs => by rw [nameX_one]; split <;> assumption) x hok)
/-- expr.Rename of one name. -/
theorem rename_one (x : X) (v u : ByteArray) (d : World) (hX : IsX d x) (hok : XOk x) (hsm : x.size ≤ 1048576) (zv : v.size ≤ maxLen) :
    Calls Tryz.prog 20 #[x.val, .slice (some ⟨d.heap.size, 0, none⟩) 1 1, .slice (some ⟨d.heap.size + 1, 0, none⟩) 1 1] ((d.alloc (.cells #[.string v] 9)).alloc (.cells #[.string u] 9)) fun e w' =>
      ∃ y : X, e = .returned y.val ∧ Hid (ordX y (renX (nameX (fun _ => v) (fun _ => u) 1) x) = 0) ∧ Hid (XA w' y) ∧ Below d.heap.size d w' := by
  have hB : Below d.heap.size d ((d.alloc (.cells #[.string v] 9)).alloc (.cells #[.string u] 9)) := ((Below.refl _ _).alloc (Nat.le_refl _) _).alloc (by simp) _
  have h1 : Txs ((d.alloc (.cells #[.string v] 9)).alloc (.cells #[.string u] 9)) (some ⟨d.heap.size, 0, none⟩) 1 (fun _ => v) := fun _ => ⟨_, _, rfl, fun j hj => by
    obtain rfl : j = 0 := by omega
    exact ((Boxed.new d 9 (.string v)).alloc _).cell⟩
  have h2 : Txs ((d.alloc (.cells #[.string v] 9)).alloc (.cells #[.string u] 9)) (some ⟨d.heap.size + 1, 0, none⟩) 1 (fun _ => u) := fun _ => ⟨_, _, rfl, fun j hj => by
    obtain rfl : j = 0 := by omega
    have := (Boxed.new (d.alloc (.cells #[.string v] 9)) 9 (.string u)).cell
    rw [World.size_alloc] at this
    exact this⟩
  refine (rename_any x _ _ 1 1 1 1 _ _ _ (hX.later hB) hsm hok h1 h2 (by omega) (by omega) (by omega) (by omega) (fun _ _ => zv)).mono ?_
  rintro e w' ⟨y, rfl, q1, q2, q3⟩
  exact ⟨y, rfl, q2, q1, hB.trans (q3.mono hB.size)⟩
/-- A condition in a box of its own, behind the world in which it lies. -/
theorem boxed_x (y : X) (d : World) (hy : IsX d y) : ∃ D p, d.alloc (.cells y.cells 32) = D ∧ p = d.heap.size ∧ Below d.heap.size d D ∧ Node D p 0 y ∧ IsX D y :=
  ⟨_, _, rfl, rfl, (Below.refl _ _).alloc (Nat.le_refl _) _, node_new d _ y, hy.later ((Below.refl _ _).alloc (Nat.le_refl _) _)⟩
end Go.Proofs.YtinnhaojmnmliaaGreat
namespace Go.Proofs.YtinnhaojmnmliaaGreat
open Go.RowKit

end Go.Proofs.YtinnhaojmnmliaaGreat
namespace Go.Proofs.YtinnhaojmnmliaaGreat
open Go.RowKit

theorem IsX.kept {T : Nat → Prop} {W W' : World} (h : Kp T W W') : ∀ {x : X}, (∀ k, inX k x → T k) → IsX W x → IsX W' x := by
  refine @(X.ind fun x ih hT hx => ?_)
  rw [isX_eq] at hx ⊢
  refine ⟨hx.1, hx.2.1, fun i hi => ?_⟩
  obtain ⟨b, o, e, hn, hc⟩ := hx.2.2 i hi
  have hb : T b := hT b ((inX_eq _ _).2 (.inl ⟨by omega, o, e⟩))
  exact ⟨b, o, e, hn.kept h hb, ih i hi (fun k hk => hT k ((inX_eq _ _).2 (.inr ⟨i, hi, hk⟩))) hc⟩
theorem inX_ltI {w : World} {k : Nat} : ∀ {x : X}, IsX w x → inX k x → k < w.heap.size := by
  refine @(X.ind fun x ih hx hk => ?_)
  rw [isX_eq] at hx
  rcases (inX_eq _ _).1 hk with ⟨h0, o, e⟩ | ⟨i, hi, hk⟩
  · obtain ⟨b, o', e', hn, _⟩ := hx.2.2 0 h0
    rw [e] at e'
    cases e'
    exact hn.lt
  · obtain ⟨b, o', e', _, hc⟩ := hx.2.2 i hi
    exact ih i hi hc hk
/-- One more. -/
def upd (c : Nat → X) (i : Nat) (y : X) : Nat → X := fun j => if j = i then y else c j
theorem upd_same (c : Nat → X) (i : Nat) (y : X) : upd c i y i = y := by simp [upd]
theorem upd_other {c : Nat → X} {i j : Nat} {y : X} (h : j ≠ i) : upd c i y j = c j := by simp [upd, h]
theorem rowX_upd (c : Nat → X) (i : Nat) (y : X) : rowX (upd c i y) (i + 1) = rowX c i ++ y.cells.toList := by
  rw [rowX, upd_same, rowX_congr fun j hj => upd_other (by omega)]
/-- The parts of a row: each a condition in its world, new since B, none of them in the row's own block. -/
def Grown (B : Nat) (w : World) (u : Value) (i : Nat) (c : Nat → X) : Prop :=
  w.ownsRow B 32 7 u i (rowX c i) ∧ ∀ j, j < i → IsX w (c j) ∧ ∀ k, inX k (c j) → B ≤ k ∧ u.ownBlock ≠ some k
theorem grown_nil (B : Nat) (w : World) (c : Nat → X) : Grown B w (.slice none 0 0) 0 c := ⟨World.ownsRow_nil _ _ _ _, fun _ h => absurd h (Nat.not_lt_zero _)⟩
theorem Grown.later {B i : Nat} {w w' : World} {u : Value} {c : Nat → X} (h : Grown B w u i c) (hB : Below w.heap.size w w') : Grown B w' u i c :=
  ⟨own_laterS h.1 hB, fun j hj => ⟨(h.2 j hj).1.later hB, (h.2 j hj).2⟩⟩
/-- One more behind them: what the append makes of it. -/
theorem Grown.push {B i : Nat} {w : World} {u : Value} {c : Nat → X} (h : Grown B w u i c) (hb : B ≤ w.heap.size) (hi : i ≤ 1048576) (y : X) (hy : IsX w y) (hn : ∀ k, inX k y → B ≤ k ∧ u.ownBlock ≠ some k) :
    ∃ a' cap' w', (Builtin.append_ #[25, 25] 25 #[u, .slice (some ⟨w.heap.size, 0, none⟩) 1 1]).run Tryz.prog (w.alloc (.cells y.cells 32)) = .ok (.slice a' (i + 1) cap') w' ∧
      Grown B w' (.slice a' (i + 1) cap') (i + 1) (upd c i y) ∧ Below B w w' ∧ w.heap.size ≤ w'.heap.size := by
  obtain ⟨i0, hi0, hz0, hz1, hz2⟩ := info_parts infoX
  have hB0 : Below w.heap.size w (w.alloc (.cells y.cells 32)) := (Below.refl _ _).alloc (Nat.le_refl _) _
  have hrow : ∀ j v, (y.cells.toList)[j]? = some v → (w.alloc (.cells y.cells 32)).cell? ((Addr.mk w.heap.size 0 none).add j) = some v := by
    have := nodes_cells (w := w.alloc (.cells y.cells 32)) (b := w.heap.size) (o := 0) (n := 1) (c := fun _ => y) fun q hq => by
      obtain rfl : q = 0 := by omega
      exact node_new w _ y
    simpa [rowX] using this
  obtain ⟨v', w', hrun, hown', hgrow, _, hat⟩ := run_append_own_at (P := Tryz.prog) (w := w.alloc (.cells y.cells 32)) B 25 25 32 i0 _ 7 96 Tryz.underlying25 hi0 hz0 hz1 hz2 rfl (by decide) u i (rowX c i) (h.1.alloc _) ⟨w.heap.size, 0, none⟩ 1 1 y.cells.toList rfl
    hrow (fun q hq => by simp at hq; rcases hq with rfl | rfl | rfl | rfl | rfl | rfl | rfl <;> rfl) (by unfold maxLen; omega) (by omega) (by simp; omega)
  rw [← rowX_upd] at hown'
  obtain ⟨a', cap', rfl, hcap, _, _⟩ := own_nodes hown'
  have hlt : ∀ q, u.ownBlock = some q → B ≤ q ∧ q < w.heap.size := fun q e => ⟨(h.1.lt q e).1, (h.1.lt q e).2⟩
  have hBw : Below B w w' := (hB0.mono hb).grown hgrow (by simp; omega) fun q e => (hlt q e).1
  have hk : Kp (fun q => u.ownBlock ≠ some q) w w' := fun q o hq _ e => (hgrow.block q (by have := (Array.getElem?_eq_some_iff.1 e).1; simp; omega) fun e' => hq e'.symm).trans ((hB0.block q (Array.getElem?_eq_some_iff.1 e).1).trans e)
  have hown'' : ∀ q, q < w.heap.size → u.ownBlock ≠ some q → (Value.slice a' (i + 1) cap').ownBlock ≠ some q := fun q hq h1 h2 => by
    rcases hat with h3 | h3
    · rw [h3] at h2; exact h1 h2
    · rw [h3] at h2
      injection h2 with h2
      simp at h2
      omega
  refine ⟨a', cap', w', hrun, ⟨hown', fun j hj => ?_⟩, hBw, by have := hgrow.size; simp at this; omega⟩
  by_cases e : j = i
  · subst e
    rw [upd_same]
    exact ⟨hy.kept hk fun q hq => (hn q hq).2, fun q hq => ⟨(hn q hq).1, hown'' q (inX_ltI hy hq) (hn q hq).2⟩⟩
  · rw [upd_other e]
    obtain ⟨q1, q2⟩ := h.2 j (by omega)
    exact ⟨q1.kept hk fun q hq => (q2 q hq).2, fun q hq => ⟨(q2 q hq).1, hown'' q (inX_ltI q1 hq) (q2 q hq).2⟩⟩
/-- A row as the parts of a condition. -/
theorem Grown.is {B i : Nat} {w : World} {a : Option Addr} {cap : Nat} {c : Nat → X} (h : Grown B w (.slice a i cap) i c) (k : Int) (v : Val) (s f : ByteArray) :
    IsX w (.mk k v s f a i cap c) ∧ ∀ q, inX q (.mk k v s f a i cap c) → B ≤ q := by
  obtain ⟨a', cap', e, h1, h2, h3⟩ := own_nodes h.1
  cases e
  refine ⟨⟨h1, by unfold maxLen at h2; omega, fun j hj => ?_⟩, fun q hq => ?_⟩
  · obtain ⟨g, e, _, _, _, hn⟩ := h3 (by omega)
    exact ⟨g, 0, e, by rw [Nat.zero_add]; exact hn j hj, (h.2 j hj).1⟩
  · rcases hq with ⟨h0, o, e⟩ | ⟨j, hj, hq⟩
    · obtain ⟨g, e', hg, _⟩ := h3 h0
      rw [e'] at e
      cases e
      exact hg
    · exact ((h.2 j hj).2 q hq).1
end Go.Proofs.YtinnhaojmnmliaaGreat
