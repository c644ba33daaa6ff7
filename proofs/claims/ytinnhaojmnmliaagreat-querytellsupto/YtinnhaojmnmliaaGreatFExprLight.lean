/-
  The document's Size, light and awake.
  slices.Clone of conditions: a row of nodes that a call owns.
  Conditions that lie apart: each row of parts in a block of its own, that may be written; of no function.
-/
import Derived.Test.YtinnhaojmnmliaaGreatCExprNodes
import Derived.Test.YtinnhaojmnmliaaGreatCPatBase
namespace Go.Proofs.YtinnhaojmnmliaaGreat
open Go.RowKit Go.Shelf

theorem size_any (x : X) (w : World) (hX : IsX w x) : Calls Tryz.prog 57 #[x.val] w fun e w' => e = .returned (.int .i64 (cnt x.size)) ∧ Below w.heap.size w w' :=
  (callsIn_wide (n := 3)).1 (size_in 3 x w hX)
def szZ : X → Int
  | .nil => 1
  | .mk _ _ _ _ _ n _ c => accZ (fun i => szZ (c i)) n
theorem szZ_eq (x : X) : szZ x = accZ (fun i => szZ (x.c i)) x.n := by cases x <;> rfl
theorem Node.at0 {w : World} {B : Nat} {x : X} (h : Node w B 0 x) : w.cell? ⟨B, 0, none⟩ = some (.int .i64 x.k) ∧ w.cell? ⟨B, 1, none⟩ = some (.int .i64 x.v.k) ∧ w.cell? ⟨B, 2, none⟩ = some (.int .i64 x.v.n) ∧ w.cell? ⟨B, 3, none⟩ = some (.string x.v.s) ∧
    w.cell? ⟨B, 4, none⟩ = some (.string x.s) ∧ w.cell? ⟨B, 5, none⟩ = some (.string x.f) ∧ w.cell? ⟨B, 6, none⟩ = some (.slice x.a x.n x.cap) := by
  have := h
  simp only [Node, Nat.zero_add] at this
  exact this
/-- The box that holds a condition stays. -/
theorem node_on {w A W : World} {x : X} (hn : Node A w.heap.size 0 x) (hB : Below (w.heap.size + 1) A W) : Node W w.heap.size 0 x := hn.below hB (by omega)

set_option maxRecDepth 100000 in
set_option maxHeartbeats 4000000 in
theorem refSize_any : ∀ (x : X) (w : World), IsX w x → Calls Tryz.prog 19 #[x.val] w fun e w' => e = .returned (.int .i64 (szZ x)) ∧ Below w.heap.size w w' := by
  refine X.ind fun x ih w hX => ?_
  obtain ⟨r, hr⟩ : ∃ r, r = szZ x := ⟨_, rfl⟩
  have HR : Hid (r = accZ (fun i => szZ (x.c i)) x.n) := by show r = _; rw [hr, szZ_eq]
  rw [← hr]
  have HI : Hid (∀ i, i < x.n → ∀ w, IsX w (x.c i) → Calls Tryz.prog 19 #[(x.c i).val] w fun e w' => e = .returned (.int .i64 (szZ (x.c i))) ∧ Below w.heap.size w w') := ih
  have HX : Hid (IsX w x) := hX
  have hlen := hX.len
  obtain ⟨A, hA⟩ : ∃ A, w.alloc (.cells x.cells 32) = A := ⟨_, rfl⟩
  have HB : Hid (Below w.heap.size w A) := by show Below _ _ _; rw [← hA]; exact (Below.refl _ w).alloc (Nat.le_refl _) _
  have HN : Hid (Node A w.heap.size 0 x) := by show Node _ _ _ _; rw [← hA]; exact node_new w _ x
  have hs : A.heap.size = w.heap.size + 1 := by rw [← hA]; simp
  clear ih hX hr
  go_enter Tryz.func19, Tryz.ntmps19
  go_wp2_with fail
  go_loopw [3, 4] (fun u v wr => ∃ k : Nat, k ≤ x.n ∧ u = .int .i64 (accZ (fun i => szZ (x.c i)) k) ∧ v = .int .i64 k ∧ Below A.heap.size A wr) (fun _ v _ => x.n - (intOf v).toNat)
  case atStart => exact ⟨0, Nat.zero_le _, rfl, rfl, Below.refl _ _⟩
  case round =>
    obtain ⟨k, hk, rfl, rfl, hB⟩ := hrel
    obtain ⟨-, -, -, -, -, -, c6⟩ := (node_on HN.out (hB.mono (by omega))).at0
    have hw := HB.out.trans (hB.mono (by omega))
    by_cases hkn : k < x.n
    · obtain ⟨b, o, ea, hn, hx⟩ := (HX.out.later hw).part hkn
      rw [ea] at c6
      obtain ⟨d0, d1, d2, d3, d4, d5, d6⟩ := hn
      have hc := HI.out k hkn wr hx
      have HK : Hid (k < x.n) := hkn
      have HQ : Hid (Below w.heap.size w wr) := hw
      clear hx hw
      go_wp2_with (go_at_call 19; refine hc.mono ?_; rintro e w2 ⟨rfl, hB2⟩)
      exact ⟨⟨k + 1, HK.out, rfl, by simp, hB.trans (hB2.mono hB.size)⟩, by have := HK.out; simp [intOf]; omega⟩
    · have hk' : k = x.n := by omega
      subst hk'
      go_wp2
      go_ret
      exact ⟨ret_int HR.out.symm, hw⟩
/-- The two nodes that awake asks. -/
def leaf1 : X := .mk 1 val0 ⟨#[]⟩ ⟨#[]⟩ none 0 0 (fun _ => .nil)
def two2 (B : Nat) : X := .mk 15 val0 ⟨#[]⟩ ⟨#[]⟩ (some ⟨B, 0, none⟩) 1 1 (fun _ => leaf1)
end Go.Proofs.YtinnhaojmnmliaaGreat
namespace Go.Proofs.YtinnhaojmnmliaaGreat
open Go.RowKit

/-- The cells of some nodes, one behind the other. -/
def rowX (c : Nat → X) : Nat → List Value
  | 0 => []
  | n + 1 => rowX c n ++ (c n).cells.toList
theorem rowX_len (c : Nat → X) : ∀ n, (rowX c n).length = n * 7
  | 0 => rfl
  | n + 1 => by rw [rowX, List.length_append, rowX_len c n]; simp; omega
theorem rowX_get (c : Nat → X) : ∀ n i j, i < n → j < 7 → (rowX c n)[i * 7 + j]? = (c i).cells[j]?
  | 0, _, _, h, _ => by omega
  | n + 1, i, j, h, hj => by
    rw [rowX]
    by_cases e : i = n
    · subst e
      rw [List.getElem?_append_right (by rw [rowX_len]; omega), rowX_len, show i * 7 + j - i * 7 = j by omega]
      simp
    · rw [List.getElem?_append_left (by rw [rowX_len]; omega)]
      exact rowX_get c n i j (by omega) hj
theorem rowX_one (c : Nat → X) : ∀ n, ∀ u ∈ rowX c n, u.oneCell' = true
  | 0, u, h => by simp [rowX] at h
  | n + 1, u, h => by
    rw [rowX, List.mem_append] at h
    rcases h with h | h
    · exact rowX_one c n u h
    · simp at h
      rcases h with rfl | rfl | rfl | rfl | rfl | rfl | rfl <;> rfl
theorem rowX_congr {c d : Nat → X} : ∀ {n : Nat}, (∀ i, i < n → c i = d i) → rowX c n = rowX d n
  | 0, _ => rfl
  | n + 1, h => by rw [rowX, rowX, rowX_congr fun i hi => h i (by omega), h n (by omega)]
theorem add_at (b o j : Nat) : (Addr.mk b o none).add j = ⟨b, o + j, none⟩ := by
  unfold Addr.add
  split
  · simp
  · rfl
/-- Nodes, one behind the other, as cells. -/
theorem nodes_cells {w : World} {b o n : Nat} {c : Nat → X} (h : ∀ i, i < n → Node w b (o + i * 7) (c i)) : ∀ j u, (rowX c n)[j]? = some u → w.cell? ((Addr.mk b o none).add j) = some u := by
  intro j u hu
  have hj : j < n * 7 := by have := (List.getElem?_eq_some_iff.1 hu).1; rwa [rowX_len] at this
  have hi : j / 7 < n := by omega
  have hm : j % 7 < 7 := Nat.mod_lt _ (by omega)
  have he : j / 7 * 7 + j % 7 = j := by omega
  have := rowX_get c n (j / 7) (j % 7) hi hm
  rw [he, hu] at this
  rw [add_at]
  obtain ⟨d0, d1, d2, d3, d4, d5, d6⟩ := h (j / 7) hi
  obtain ⟨m, hm'⟩ : ∃ m, m = j % 7 := ⟨_, rfl⟩
  rw [← hm'] at this hm he
  rw [show o + j = o + j / 7 * 7 + m by omega]
  match m, hm with
  | 0, _ => simp at this; rw [this]; exact d0
  | 1, _ => simp at this; rw [this]; exact d1
  | 2, _ => simp at this; rw [this]; exact d2
  | 3, _ => simp at this; rw [this]; exact d3
  | 4, _ => simp at this; rw [this]; exact d4
  | 5, _ => simp at this; rw [this]; exact d5
  | 6, _ => simp at this; rw [this]; exact d6
/-- A block of cells that may be written. -/
def Free (w : World) (b : Nat) : Prop := ∃ cur, w.heap[b]? = some (.cells cur 32 (0, 0))
theorem Free.frozen {w : World} {b : Nat} (h : Free w b) (o : Nat) : w.frozen? ⟨b, o, none⟩ = false := by
  obtain ⟨cur, h⟩ := h
  simp [World.frozen?, h]
theorem own_free {w : World} {base n : Nat} {v : Value} {xs : List Value} (h : w.ownsRow base 32 7 v n xs) (hn : 0 < n) : ∃ g cap, v = .slice (some ⟨g, 0, none⟩) n cap ∧ base ≤ g ∧ Free w g := by
  rcases h.2 with ⟨_, e⟩ | ⟨g, cap, cur, e, hg, hc, _⟩
  · omega
  · exact ⟨g, cap, e, hg, cur, hc⟩
/-- A row that a call owns, node by node. -/
theorem own_nodes {w : World} {base n : Nat} {v : Value} {c : Nat → X} (h : w.ownsRow base 32 7 v n (rowX c n)) :
    ∃ a cap, v = .slice a n cap ∧ n ≤ cap ∧ cap ≤ maxLen ∧ (0 < n → ∃ g, a = some ⟨g, 0, none⟩ ∧ base ≤ g ∧ g < w.heap.size ∧ Free w g ∧ ∀ i, i < n → Node w g (i * 7) (c i)) := by
  rcases h.2 with ⟨rfl, rfl⟩ | ⟨g, cap, cur, rfl, hg, hc, hnc, hcm, hs, ht⟩
  · exact ⟨none, 0, rfl, Nat.le_refl _, Nat.zero_le _, fun h => by omega⟩
  · refine ⟨_, cap, rfl, hnc, hcm, fun h0 => ⟨g, rfl, hg, (Array.getElem?_eq_some_iff.1 hc).1, ⟨cur, hc⟩, fun i hi => ?_⟩⟩
    have key : ∀ j, j < 7 → w.cell? ⟨g, i * 7 + j, none⟩ = (c i).cells[j]? := by
      intro j hj
      rw [← rowX_get c n i j hi hj, ← ht, List.getElem?_take_of_lt (by omega)]
      simp only [World.cell?, hc]
      rw [Array.getElem?_toList]
      rfl
    exact ⟨key 0 (by omega), key 1 (by omega), key 2 (by omega), key 3 (by omega), key 4 (by omega), key 5 (by omega), key 6 (by omega)⟩
theorem infoX : (Tryz.prog.info? 32).map (fun i => (i.zero, i.size, i.bytes)) = some (some (.agg #[.int .i64 0, .int .i64 0, .int .i64 0, .string ⟨#[]⟩, .string ⟨#[]⟩, .string ⟨#[]⟩, .slice none 0 0]), 7, 96) := by kernel_rfl
/-- Some nodes more behind a row that the call owns. -/
theorem push_x {w : World} {base n : Nat} {v : Value} {xs : List Value} (h : w.ownsRow base 32 7 v n xs) (hb : base ≤ w.heap.size) (p : Addr) (m k : Nat) (c : Nat → X) (hm : ∀ i, i < m → ∃ b o, p = ⟨b, o, none⟩ ∧ Node w b (o + i * 7) (c i)) (hn : n + m ≤ 16777216) :
    ∃ v' w', (Builtin.append_ #[25, 25] 25 #[v, .slice (some p) m k]).run Tryz.prog w = .ok v' w' ∧ w'.ownsRow base 32 7 v' (n + m) (xs ++ rowX c m) ∧ w.grownBy w' v.ownBlock := by
  obtain ⟨i0, hi, hz0, hz1, hz2⟩ := info_parts infoX
  obtain ⟨v', w', hrun, hown', hgrow, _⟩ := run_append_own (P := Tryz.prog) (w := w) base 25 25 32 i0 _ 7 96 Tryz.underlying25 hi hz0 hz1 hz2 rfl (by decide) v n xs h p m k (rowX c m) (rowX_len c m)
    (fun j u hu => by
      have h0 : 0 < m := by
        have := (List.getElem?_eq_some_iff.1 hu).1
        rw [rowX_len] at this
        omega
      obtain ⟨b, o, rfl, _⟩ := hm 0 h0
      refine nodes_cells (fun i hi => ?_) j u hu
      obtain ⟨b', o', e, hn'⟩ := hm i hi
      cases e
      exact hn') (rowX_one c m) (by unfold maxLen; omega) (by omega) hb
  exact ⟨v', w', hrun, hown', hgrow⟩
set_option maxRecDepth 100000 in
set_option maxHeartbeats 2000000 in
theorem clone_any (a : Option Addr) (n cap : Nat) (c : Nat → X) (w : World) (h : ∀ i, i < n → ∃ b o, a = some ⟨b, o, none⟩ ∧ Node w b (o + i * 7) (c i)) (hn : n ≤ 1048576) :
    Calls Tryz.prog 79 #[.slice a n cap] w fun e w' => ∃ v, e = .returned v ∧ w'.ownsRow w.heap.size 32 7 v n (rowX c n) ∧ Below w.heap.size w w' := by
  cases a with
  | none =>
    obtain rfl : n = 0 := by
      by_cases h0 : 0 < n
      · obtain ⟨_, _, e, _⟩ := h 0 h0
        cases e
      · omega
    clear h
    have he : ∀ w : World, (binOp .eql 25 (.slice none 0 cap) (.slice none 0 0)).run Tryz.prog w = .ok (.bool true) w := fun _ => rfl
    go_enter Tryz.func79, Tryz.ntmps79
    go_wp2
    go_ret
    exact ⟨_, rfl, World.ownsRow_nil _ _ _ _, Below.refl _ _⟩
  | some x =>
    have hB0 : Below w.heap.size w (w.alloc (.cells #[] 32)) := (Below.refl _ _).alloc (Nat.le_refl _) _
    have hown0 : (w.alloc (.cells #[] 32)).ownsRow w.heap.size 32 7 (.slice (some ⟨w.heap.size, 0, none⟩) 0 0) 0 [] :=
      ⟨rfl, .inr ⟨w.heap.size, 0, #[], rfl, Nat.le_refl _, alloc_new w _, Nat.le_refl _, Nat.zero_le _, rfl, rfl⟩⟩
    obtain ⟨v1, w1, hrun1, hown1, hg1⟩ := push_x hown0 (by simp) x n cap c (fun i hi => by
      obtain ⟨b', o', e, hn'⟩ := h i hi
      cases e
      exact ⟨b', o', rfl, hn'.later hB0⟩) (by omega)
    simp only [Nat.zero_add, List.nil_append] at hown1
    have hB1 : Below w.heap.size w w1 := hB0.grown hg1 (by simp) (by intro k hk; simp [Value.ownBlock] at hk; omega)
    have HR1 : Hid (_ = _) := hrun1
    clear h hown0 hB0 hg1 hrun1
    have he : ∀ w : World, (binOp .eql 25 (.slice (some x) n cap) (.slice none 0 0)).run Tryz.prog w = .ok (.bool false) w := fun _ => rfl
    go_enter Tryz.func79, Tryz.ntmps79
    go_wp2_with (first | (at_builtin; refine wpList_append_run rfl (.tmp 5) (.tmp 6) 25 rfl _ _ _ rfl rfl HR1.out ?_))
    go_ret
    exact ⟨_, rfl, hown1, hB1⟩
end Go.Proofs.YtinnhaojmnmliaaGreat
namespace Go.Proofs.YtinnhaojmnmliaaGreat
open Go.RowKit

/-- The blocks in which a condition's parts lie. -/
def inX (k : Nat) : X → Prop
  | .nil => False
  | .mk _ _ _ _ a n _ c => (0 < n ∧ ∃ o, a = some ⟨k, o, none⟩) ∨ ∃ i, i < n ∧ inX k (c i)
theorem inX_eq (k : Nat) (x : X) : inX k x ↔ (0 < x.n ∧ ∃ o, x.a = some ⟨k, o, none⟩) ∨ ∃ i, i < x.n ∧ inX k (x.c i) := by
  cases x with
  | nil => simp [inX, X.n]
  | mk => rfl
/-- It lies apart. -/
def XA (w : World) : X → Prop
  | .nil => True
  | .mk _ _ _ _ a n cap c => n ≤ cap ∧ cap ≤ 9223372036854775807 ∧ ∀ i, i < n → ∃ b, a = some ⟨b, 0, none⟩ ∧ Free w b ∧ Node w b (i * 7) (c i) ∧ XA w (c i) ∧ ¬ inX b (c i) ∧ ∀ j, j < n → j ≠ i → ∀ k, inX k (c i) → ¬ inX k (c j)
theorem xA_eq (w : World) (x : X) : XA w x ↔ x.n ≤ x.cap ∧ x.cap ≤ 9223372036854775807 ∧ ∀ i, i < x.n → ∃ b, x.a = some ⟨b, 0, none⟩ ∧ Free w b ∧ Node w b (i * 7) (x.c i) ∧ XA w (x.c i) ∧ ¬ inX b (x.c i) ∧ ∀ j, j < x.n → j ≠ i → ∀ k, inX k (x.c i) → ¬ inX k (x.c j) := by
  cases x with
  | nil => simp [XA, X.n, X.cap]
  | mk => rfl
theorem XA.is {w : World} : ∀ {x : X}, XA w x → IsX w x := by
  refine @(X.ind fun x ih hx => ?_)
  rw [xA_eq] at hx
  rw [isX_eq]
  refine ⟨hx.1, hx.2.1, fun i hi => ?_⟩
  obtain ⟨b, e, _, hn, hc, _⟩ := hx.2.2 i hi
  exact ⟨b, 0, e, by simpa using hn, ih i hi hc⟩
theorem Free.kept {T : Nat → Prop} {W W' : World} (h : Kp T W W') {b : Nat} (hb : T b) (hf : Free W b) : Free W' b := by
  obtain ⟨cur, hc⟩ := hf
  exact ⟨cur, h b _ hb rfl hc⟩
theorem Free.lt {w : World} {b : Nat} (h : Free w b) : b < w.heap.size := by
  obtain ⟨cur, hc⟩ := h
  exact (Array.getElem?_eq_some_iff.1 hc).1
theorem Free.ne {w : World} {b k : Nat} {t : TypeId} {u : Value} (h : Free w b) (hb : Boxed w k t u) (ht : t ≠ 32) : b ≠ k := by
  rintro rfl
  obtain ⟨cur, hc⟩ := h
  have hb' : w.heap[b]? = some (.cells #[u] t (0, 0)) := hb
  rw [hc] at hb'
  injection hb' with e
  injection e with _ e2
  exact ht e2.symm
theorem XA.kept {T : Nat → Prop} {W W' : World} (h : Kp T W W') : ∀ {x : X}, (∀ k, inX k x → T k) → XA W x → XA W' x := by
  refine @(X.ind fun x ih hT hx => ?_)
  rw [xA_eq] at hx ⊢
  refine ⟨hx.1, hx.2.1, fun i hi => ?_⟩
  obtain ⟨b, e, hf, hn, hc, hr⟩ := hx.2.2 i hi
  have hb : T b := hT b ((inX_eq _ _).2 (.inl ⟨by omega, 0, e⟩))
  exact ⟨b, e, hf.kept h hb, hn.kept h hb, ih i hi (fun k hk => hT k ((inX_eq _ _).2 (.inr ⟨i, hi, hk⟩))) hc, hr⟩
theorem inX_lt {w : World} {k : Nat} : ∀ {x : X}, XA w x → inX k x → k < w.heap.size := by
  refine @(X.ind fun x ih hx hk => ?_)
  rw [xA_eq] at hx
  rcases (inX_eq _ _).1 hk with ⟨h0, o, e⟩ | ⟨i, hi, hk⟩
  · obtain ⟨b, e', hf, _⟩ := hx.2.2 0 h0
    rw [e] at e'
    cases e'
    exact hf.lt
  · obtain ⟨b, e', _, _, hc, _⟩ := hx.2.2 i hi
    exact ih i hi hc hk
theorem XA.later {w w' : World} {x : X} (hB : Below w.heap.size w w') (h : XA w x) : XA w' x :=
  h.kept (T := fun k => k < w.heap.size) (Kp.of_below hB fun _ hk => hk) fun _ hk => inX_lt h hk
theorem XA.ag {B : Nat} {W A : World} (h : Ag B W A) {x : X} (hx : XA W x) : XA A x := hx.kept (T := fun _ => True) (fun k o _ ho e => (h.cells k o ho).2 e) fun _ _ => trivial
theorem Free.ag {B : Nat} {W A : World} (h : Ag B W A) {b : Nat} (hf : Free W b) : Free A b := by
  obtain ⟨cur, hc⟩ := hf
  exact ⟨cur, (h.cells _ _ rfl).2 hc⟩
theorem Free.set {W : World} {k b o : Nat} {v : Value} (hf : Free W k) : Free (W.setCell ⟨b, o, none⟩ v) k := by
  obtain ⟨cur, hc⟩ := hf
  by_cases e : k = b
  · subst e
    refine ⟨cur.setIfInBounds o v, ?_⟩
    simp only [World.setCell, Array.getElem?_modify, if_pos, hc]
    rfl
  · exact ⟨cur, (Below.heap_setCell W ⟨b, o, none⟩ v k e).trans hc⟩
/-- What stays: all blocks but b and those in S; in b all cells but one; what may be written. -/
structure Kb (b j0 : Nat) (S : Nat → Prop) (W W' : World) : Prop where
  oth : Kp (fun k => k ≠ b ∧ ¬ S k) W W'
  own : ∀ j u, j ≠ j0 → W.cell? ⟨b, j, none⟩ = some u → W'.cell? ⟨b, j, none⟩ = some u
  free : ∀ k, Free W k → Free W' k
  size : W.heap.size ≤ W'.heap.size
theorem Kb.node {b j0 : Nat} {S : Nat → Prop} {W W' : World} (h : Kb b j0 S W W') {k o : Nat} {x : X} (hk : k ≠ b) (hS : ¬ S k) (hn : Node W k o x) : Node W' k o x := hn.kept h.oth ⟨hk, hS⟩
theorem Kb.near {b j0 : Nat} {S : Nat → Prop} {W W' : World} (h : Kb b j0 S W W') {o : Nat} {x : X} (ho : ∀ t, t < 7 → o + t ≠ j0) (hn : Node W b o x) : Node W' b o x :=
  ⟨h.own _ _ (ho 0 (by omega)) hn.1, h.own _ _ (ho 1 (by omega)) hn.2.1, h.own _ _ (ho 2 (by omega)) hn.2.2.1, h.own _ _ (ho 3 (by omega)) hn.2.2.2.1, h.own _ _ (ho 4 (by omega)) hn.2.2.2.2.1, h.own _ _ (ho 5 (by omega)) hn.2.2.2.2.2.1, h.own _ _ (ho 6 (by omega)) hn.2.2.2.2.2.2⟩
theorem Kb.set (b j0 : Nat) (S : Nat → Prop) (W : World) (v : Value) : Kb b j0 S W (W.setCell ⟨b, j0, none⟩ v) :=
  ⟨fun k _ hk _ e => (Below.heap_setCell W ⟨b, j0, none⟩ v k hk.1).trans e, fun j u hj hc => (World.cell?_setCell_other _ _ _ _ (by intro e; cases e; exact hj rfl)).trans hc, fun _ hf => hf.set, Nat.le_of_eq (World.size_setCell ..).symm⟩
theorem Kb.of_below (b j0 : Nat) (S : Nat → Prop) {W W' : World} (h : Below W.heap.size W W') : Kb b j0 S W W' :=
  ⟨fun k o _ _ e => (h.block k (Array.getElem?_eq_some_iff.1 e).1).trans e,
   fun j u _ hc => by
    obtain ⟨o, ho, _⟩ := cells_of_cell hc
    exact (h.cell (p := ⟨b, j, none⟩) (Array.getElem?_eq_some_iff.1 ho).1).trans hc,
   fun k hf => by
    have hl := hf.lt
    obtain ⟨cur, hc⟩ := hf
    exact ⟨cur, (h.block k hl).trans hc⟩, h.size⟩
theorem Kb.refl (b j0 : Nat) (S : Nat → Prop) (W : World) : Kb b j0 S W W := .of_below b j0 S (Below.refl _ _)
theorem Kb.trans {b j0 : Nat} {S : Nat → Prop} {A B C : World} (h : Kb b j0 S A B) (g : Kb b j0 S B C) : Kb b j0 S A C :=
  ⟨h.oth.trans g.oth, fun j u hj hc => g.own j u hj (h.own j u hj hc), fun k hf => g.free k (h.free k hf), Nat.le_trans h.size g.size⟩
theorem Kb.mono {b j0 : Nat} {S S' : Nat → Prop} {W W' : World} (h : Kb b j0 S W W') (hS : ∀ k, S k → S' k) : Kb b j0 S' W W' := ⟨h.oth.mono fun k hk => ⟨hk.1, fun hs => hk.2 (hS k hs)⟩, h.own, h.free, h.size⟩
theorem Kb.ag {B b j0 : Nat} {S : Nat → Prop} {W A A' W' : World} (h : Ag B W A) (h' : Ag B A' W') (g : Kb b j0 S A A') : Kb b j0 S W W' :=
  ⟨Kp.ag h h' g.oth, fun j u hj hc => (h'.cell _).trans (g.own j u hj ((h.cell _).trans hc)), fun k hf => (g.free k (hf.ag h)).ag h', by rw [h'.size, ← h.size]; exact g.size⟩
/-- What was done to a part in block g is done to the whole, if g is among what may change or was not there. -/
theorem Kb.part {b j0 g j1 : Nat} {S S' : Nat → Prop} {W Wi W' : World} (h : Kb b j0 S W Wi) (f : Kb g j1 S' Wi W') (hg : S g ∨ W.heap.size ≤ g) (hS : ∀ k, S' k → S k ∨ W.heap.size ≤ k) (_ : b < W.heap.size) (hb1 : b ≠ g) (hb2 : ¬ S' b) : Kb b j0 S W W' := by
  refine ⟨fun k o hk ho e => ?_, fun j u hj hc => ?_, fun k hf => f.free k (h.free k hf), Nat.le_trans h.size f.size⟩
  · have hl : k < W.heap.size := (Array.getElem?_eq_some_iff.1 e).1
    refine f.oth k o ⟨?_, ?_⟩ ho (h.oth k o hk ho e)
    · rintro rfl
      rcases hg with hg | hg
      · exact hk.2 hg
      · omega
    · intro hs
      rcases hS k hs with h1 | h1
      · exact hk.2 h1
      · omega
  · exact f.oth.cell (p := ⟨b, j, none⟩) ⟨hb1, hb2⟩ (h.own j u hj hc)
/-- The same node with its parts elsewhere. -/
abbrev X.at (v : X) (a : Option Addr) (cap : Nat) (c : Nat → X) : X := .mk v.k v.v v.s v.f a v.n cap c
theorem Node.at {w : World} {b o : Nat} {v : X} {a : Option Addr} {cap : Nat} {c c' : Nat → X} (h : Node w b o (v.at a cap c)) : Node w b o (v.at a cap c') := h
end Go.Proofs.YtinnhaojmnmliaaGreat
