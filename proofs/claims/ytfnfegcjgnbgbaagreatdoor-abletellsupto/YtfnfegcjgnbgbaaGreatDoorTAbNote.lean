/-
  Rows of notes; slices.Clone of whole numbers; the closure of able.Uses that notes (Uses$1).
  Slices that came in, by index: of integers, of strings.
  Rows of notes as lists of pairs; able.Notes' closure, slices.IndexFunc and slices.DeleteFunc over notes.
  Package value's small calls: Null, Bool, Int, Text.
-/
import Derived.Test.YtfnfegcjgnbgbaaGreatDoorTAbWay
import Derived.Test.YtfnfegcjgnbgbaaGreatDoorTTrees
import Derived.Laws.OwnMore
import Derived.Test.YtfnfegcjgnbgbaaGreatDoorRows
import Derived.WalkKit
import Derived.Below
import Derived.SizedLaws
import Derived.Laws.IdiomCopy
import Derived.Lib.SliceRun
import Derived.Deep.RegionWith
namespace Go.Proofs.YtfnfegcjgnbgbaaGreatDoor
open Go.RowKit Go.Shelf
attribute [local go_sem] Oper.semAt_some

theorem infoNt : (Tryz.prog.info? 56).map (fun i => (i.zero, i.size, i.bytes)) = some (some (.agg #[.slice none 0 0, .int .i64 0]), 2, 32) := by kernel_rfl
/-- An append in a walk, by its run. -/
theorem wpList_app22 {P : Program} {w w' : World} {ops : Array Oper} {rest : List Oper} {o : Oper} {a : Act} {Q : Exit → Act → World → Prop} (hg : o.guard = none) (s x : Operand) (t : TypeId)
    (hop : o.op = Op.call { callee := Callee.builtin Builtin.append, args := #[s, x], argTypes := #[t, t] }) (v y v' : Value) (hs : a.eval s = v) (hx : a.eval x = y)
    (hrun : (Builtin.append_ #[t, t] o.type #[v, y]).run P w = .ok v' w') (hK : wpList P ops Q rest (a.put o.dst v') w') : wpList P ops Q (o :: rest) a w := by
  refine wpList_plain hg fun K hK' => ?_
  unfold Oper.wp
  simp [execOp, hop, resolve, invoke, builtin, hs, hx, hrun, Result.andThen]
  exact hK' _ _ hK
/-- A note: its way and its thing. -/
abbrev Nt := List Int × Int
def ntCells : List Value → List Nt → List Value
  | u :: us, n :: l => u :: .int .i64 n.2 :: ntCells us l
  | _, _ => []
theorem ntCells_len : ∀ {us : List Value} {l : List Nt}, us.length = l.length → (ntCells us l).length = l.length * 2
  | [], [], _ => rfl
  | u :: us, n :: l, h => by simp only [ntCells, List.length_cons]; rw [ntCells_len (by simpa using h)]; omega
theorem ntCells_snoc : ∀ {us : List Value} {l : List Nt} (u : Value) (n : Nt), us.length = l.length → ntCells (us ++ [u]) (l ++ [n]) = ntCells us l ++ [u, .int .i64 n.2]
  | [], [], _, _, _ => rfl
  | a :: us, b :: l, u, n, h => by simp only [List.cons_append, ntCells]; rw [ntCells_snoc u n (by simpa using h)]
/-- A row of notes that a call owns; K: where their ways lie. -/
structure Nts (W : World) (base : Nat) (K : Nat → Prop) (v : Value) (L : List Nt) (us : List Value) : Prop where
  len : us.length = L.length
  row : W.ownsRow base 56 2 v L.length (ntCells us L)
  way : ∀ (j : Nat) (u : Value) (n : Nt), us[j]? = some u → L[j]? = some n → Wy W base u n.1 ∧ ∀ k, u.ownBlock = some k → K k
theorem Nts.nil (W : World) (base : Nat) : Nts W base (fun _ => False) (.slice none 0 0) [] [] := ⟨rfl, World.ownsRow_nil _ _ _ _, fun j u n h => by cases h⟩
theorem own_same {W W' : World} {base n s : Nat} {t : TypeId} {v : Value} {xs : List Value} (h : W.ownsRow base t s v n xs) (hb : ∀ k c, v.ownBlock = some k → W.heap[k]? = some (.cells c t (0, 0)) → W'.heap[k]? = some (.cells c t (0, 0))) : W'.ownsRow base t s v n xs := by
  refine ⟨h.1, ?_⟩
  rcases h.2 with h2 | ⟨g, cap, cur, rfl, h1, h2, h3⟩
  · exact .inl h2
  · exact .inr ⟨g, cap, cur, rfl, h1, hb g cur rfl h2, h3⟩
theorem Nts.same {W W' : World} {base : Nat} {K K' : Nat → Prop} {v : Value} {L : List Nt} {us : List Value} (h : Nts W base K v L us) (hv : ∀ k c, v.ownBlock = some k → W.heap[k]? = some (.cells c 56 (0, 0)) → W'.heap[k]? = some (.cells c 56 (0, 0)))
    (hK : ∀ k c, K k → W.heap[k]? = some (.cells c 3 (0, 0)) → W'.heap[k]? = some (.cells c 3 (0, 0))) (hKK : ∀ k, K k → K' k) : Nts W' base K' v L us :=
  ⟨h.len, own_same h.row hv, fun j u n hu hn => ⟨(h.way j u n hu hn).1.same fun k c hk hc => hK k c ((h.way j u n hu hn).2 k hk) hc, fun k hk => hKK k ((h.way j u n hu hn).2 k hk)⟩⟩

set_option maxRecDepth 100000 in
set_option maxHeartbeats 2000000 in
theorem cloneI_any2 (v : Value) (way : List Int) (base : Nat) (W : World) (hw : Wy W base v way) (hn : way.length ≤ 1048576) :
    Calls Tryz.prog 27 #[v] W fun e W' => ∃ a cap, e = .returned (.slice a way.length cap) ∧ Wy W' W.heap.size (.slice a way.length cap) way ∧ Below W.heap.size W W' := by
  rcases hw.2 with ⟨rfl, e⟩ | ⟨g, cap, cur, rfl, h1, h2, h3, h4, h5, h6⟩
  · have : way = [] := List.eq_nil_of_length_eq_zero e
    subst this
    have he : ∀ w : World, (binOp .eql 39 (.slice none 0 0) (.slice none 0 0)).run Tryz.prog w = .ok (.bool true) w := fun _ => rfl
    clear hw hn
    go_enter Tryz.func27, Tryz.ntmps27
    go_wp2
    go_ret
    exact ⟨none, 0, rfl, World.ownsRow_nil _ _ _ _, Below.refl _ _⟩
  · obtain ⟨i0, hi, hz0, hz1, hz2⟩ := info_parts infoW
    obtain ⟨A, hA⟩ : ∃ A, W.alloc (.cells #[] 3) = A := ⟨_, rfl⟩
    have hB : Below W.heap.size W A := by rw [← hA]; exact (Below.refl _ W).alloc (Nat.le_refl _) _
    have ho : A.ownsRow W.heap.size 3 1 (.slice (some ⟨W.heap.size, 0, none⟩) 0 0) 0 [] := by
      rw [← hA]
      exact World.ownsRow_lit W #[] 0 (Nat.le_refl _) (by decide) rfl
    have hsz : A.heap.size = W.heap.size + 1 := by rw [← hA]; simp
    have hwA : Wy A base (.slice (some ⟨g, 0, none⟩) way.length cap) way := hw.same fun k c _ hc => (hB.block k (heap_lt hc)).trans hc
    obtain ⟨v', W', hrun, hown, hgr, -⟩ := run_append_own (P := Tryz.prog) (w := A) W.heap.size 39 39 3 i0 (.int .i64 0) 1 8 Tryz.underlying39 hi hz0 hz1 hz2 rfl (by decide) _ _ _ ho ⟨g, 0, none⟩ way.length cap (waysI way) (by simp [waysI])
      (hwA.cells rfl) (fun u hu => by simp only [waysI, List.mem_map] at hu; obtain ⟨z, -, rfl⟩ := hu; rfl) (by unfold maxLen; omega) (by omega) (by omega)
    have hB' : Below W.heap.size W W' := hB.trans ⟨hgr.os, hgr.tape, hgr.output, by have := hgr.size; omega, fun k hk => hgr.block k (by omega) (by simp [Value.ownBlock]; omega)⟩
    have hown' : Wy W' W.heap.size v' way := by simpa [Wy] using hown
    obtain ⟨a', cap', rfl, -⟩ := hown'.shape
    have he : ∀ w : World, (binOp .eql 39 (.slice (some ⟨g, 0, none⟩) way.length cap) (.slice none 0 0)).run Tryz.prog w = .ok (.bool false) w := fun _ => rfl
    subst hA
    have HR1 : Hid (_ = _) := hrun
    clear hw hn h2 h5 h6 h1 ho hwA hgr hsz hown hrun hi hz0 hz1 hz2
    go_enter Tryz.func27, Tryz.ntmps27
    go_wp2_with (first | (at_builtin; refine wpList_app22 rfl (.tmp 5) (.tmp 6) 39 rfl _ _ _ rfl rfl HR1.out ?_))
    go_ret
    exact ⟨_, _, rfl, hown', hB'⟩
/-- What the closure that notes may have changed: its list's box and row. -/
structure Nb (lb : Nat) (v : Value) (W W' : World) : Prop where
  os : W'.os = W.os
  tape : W'.tape = W.tape
  output : W'.output = W.output
  size : W.heap.size ≤ W'.heap.size
  block : ∀ k, k < W.heap.size → k ≠ lb → v.ownBlock ≠ some k → W'.heap[k]? = W.heap[k]?
theorem Nb.refl (lb : Nat) (v : Value) (W : World) : Nb lb v W W := ⟨rfl, rfl, rfl, Nat.le_refl _, fun _ _ _ _ => rfl⟩
/-- One note more. -/
theorem nts_push {W : World} {base : Nat} {K : Nat → Prop} {v : Value} {L : List Nt} {us : List Value} (h : Nts W base K v L us) (hb : base ≤ W.heap.size) (hL : L.length ≤ 1048576) {u : Value} {n : Nt} (hu : Wy W base u n.1) {g : Nat} {t : TypeId}
    (hg : W.heap[g]? = some (.cells #[u, .int .i64 n.2] t (0, 0))) :
    ∃ a' cap' W', (Builtin.append_ #[31, 31] 31 #[v, .slice (some ⟨g, 0, none⟩) 1 1]).run Tryz.prog W = .ok (.slice a' (L.length + 1) cap') W' ∧
      Nts W' base (fun k => K k ∨ u.ownBlock = some k) (.slice a' (L.length + 1) cap') (L ++ [n]) (us ++ [u]) ∧ W.grownBy W' v.ownBlock ∧ ((Value.slice a' (L.length + 1) cap').ownBlock = v.ownBlock ∨ (Value.slice a' (L.length + 1) cap').ownBlock = some W.heap.size) := by
  obtain ⟨i0, hi, hz0, hz1, hz2⟩ := info_parts infoNt
  obtain ⟨v', W', hrun, hown', hgrow, -, hblk⟩ := run_append_own_at (P := Tryz.prog) (w := W) base 31 31 56 i0 (.agg #[.slice none 0 0, .int .i64 0]) 2 32 Tryz.underlying31 hi hz0 hz1 hz2 rfl (by decide) v _ _ h.row ⟨g, 0, none⟩ 1 1 [u, .int .i64 n.2] rfl
    (fun j y hy => by
      match j, hy with
      | 0, hy => simp at hy; subst hy; simp [Addr.add, World.cell?, hg]
      | 1, hy => simp at hy; subst hy; simp [Addr.add, World.cell?, hg])
    (by
      obtain ⟨a, cap, e, -⟩ := hu.shape
      rw [e]
      simp [Value.oneCell']) (by unfold maxLen; omega) (by omega) hb
  have hrow : W'.ownsRow base 56 2 v' (L ++ [n]).length (ntCells (us ++ [u]) (L ++ [n])) := by rw [ntCells_snoc u n h.len, List.length_append]; exact hown'
  have hnt : ∀ (k : Nat) (c : Array Value), W.heap[k]? = some (.cells c 3 (0, 0)) → W'.heap[k]? = some (.cells c 3 (0, 0)) := fun k c hc => by
    refine (hgrow.block k (heap_lt hc) (fun e => ?_)).trans hc
    rcases h.row.2 with ⟨rfl, -⟩ | ⟨g', cap, cur, rfl, -, h2, -⟩
    · cases e
    · cases e
      rw [hc] at h2
      simp at h2
  obtain ⟨a', cap', rfl⟩ : ∃ a' cap', v' = .slice a' (L.length + 1) cap' := by
    rcases hown'.2 with ⟨rfl, e0⟩ | ⟨g', cap, cur, rfl, -⟩
    · exact absurd e0 (Nat.succ_ne_zero _)
    · exact ⟨_, _, rfl⟩
  refine ⟨a', cap', W', hrun, ⟨by simp [h.len], hrow, fun j u' n' hj hn => ?_⟩, hgrow, hblk⟩
  by_cases e : j < us.length
  · rw [List.getElem?_append_left e] at hj
    rw [List.getElem?_append_left (by rw [← h.len]; exact e)] at hn
    exact ⟨(h.way j u' n' hj hn).1.same fun k c _ hc => hnt k c hc, fun k hk => .inl ((h.way j u' n' hj hn).2 k hk)⟩
  · have hj' : j = us.length := by
      have := (List.getElem?_eq_some_iff.1 hj).1
      simp at this
      omega
    subst hj'
    rw [List.getElem?_append_right (Nat.le_refl _)] at hj
    rw [List.getElem?_append_right (by rw [h.len]; exact Nat.le_refl _)] at hn
    simp at hj
    simp [h.len] at hn
    subst hj hn
    exact ⟨hu.same fun k c _ hc => hnt k c hc, fun k hk => .inr hk⟩
set_option maxRecDepth 100000 in
set_option maxHeartbeats 2000000 in
theorem note_no (way : Value) (z : Int) (lb : Nat) (W : World) :
    Calls Tryz.prog 26 #[way, .int .i64 z, .bool false, .pointer (some ⟨lb, 0, none⟩)] W fun e W' => e = .returned (.tuple #[]) ∧ W' = W := by
  go_enter Tryz.func26, Tryz.ntmps26
  go_wp2
  go_end0
  exact ⟨rfl, rfl⟩
set_option maxRecDepth 100000 in
set_option maxHeartbeats 8000000 in
theorem note_in (n : Nat) (va : Option Addr) (cap : Nat) (way : List Int) (wb : Nat) (z : Int) (lb base : Nat) (K : Nat → Prop) (v0 : Value) (L : List Nt) (us : List Value) (W : World) (hw : Wy W wb (.slice va way.length cap) way) (hl : Boxed W lb 31 v0)
    (hN : Nts W base K v0 L us) (hb : base ≤ W.heap.size) (hL : L.length ≤ 1048576) (hwl : way.length ≤ 1048576) :
    CallsIn Fence.wide n Tryz.prog 26 #[.slice va way.length cap, .int .i64 z, .bool true, .pointer (some ⟨lb, 0, none⟩)] W fun e W' => e = .returned (.tuple #[]) ∧
      ∃ (v1 : Value) (K' : Nat → Prop) (us' : List Value), Boxed W' lb 31 v1 ∧ Nts W' base K' v1 (L ++ [(way, z)]) us' ∧ (∀ k, K' k → K k ∨ W.heap.size ≤ k) ∧ Nb lb v0 W W' := by
  have hdd : ∀ k : Nat, (Fence.wide.depth.isSome = true → 1 ≤ k) := fun k h => by cases h
  obtain ⟨m0, c0, a0, rfl⟩ : ∃ m0 c0 a0, v0 = .slice a0 m0 c0 := by
    rcases hN.row.2 with ⟨rfl, -⟩ | ⟨g, cap, cur, rfl, -⟩
    · exact ⟨_, _, _, rfl⟩
    · exact ⟨_, _, _, rfl⟩
  obtain ⟨D, hD⟩ : ∃ D, D = W.drew := ⟨_, rfl⟩
  have hBD : Below W.heap.size W D := by rw [hD]; exact (Below.refl _ W).drew
  have hwD : Wy D wb (.slice va way.length cap) way := by rw [hD]; exact hw
  have hc := callsIn_wide (n := n - 1) |>.2 (cloneI_any2 _ way wb D hwD hwl)
  have hlD : Boxed D lb 31 (.slice a0 m0 c0) := by rw [hD]; exact hl
  have key : ∀ (X : World) (a' : Option Addr) (cap' : Nat), Wy X D.heap.size (.slice a' way.length cap') way → Below D.heap.size D X → Boxed X lb 31 (.slice a0 m0 c0) ∧ Boxed (X.alloc (.cells #[.slice a' way.length cap', .int .i64 z] 56)) lb 31 (.slice a0 m0 c0) ∧ ∃ (G : World) (q : Option Addr × Nat) (Hq : Boxed G lb 31 (.slice a0 m0 c0)),
      Hid ((Builtin.append_ #[31, 31] 31 #[.slice a0 m0 c0, .slice (some ⟨X.heap.size, 0, none⟩) 1 1]).run Tryz.prog (X.alloc (.cells #[.slice a' way.length cap', .int .i64 z] 56)) = .ok (.slice q.1 (L.length + 1) q.2) G) ∧
      Hid ((Ending.returned (Value.tuple #[])) = .returned (.tuple #[]) ∧ ∃ (v1 : Value) (K' : Nat → Prop) (us' : List Value), Boxed (G.setCell ⟨lb, 0, none⟩ (.slice q.1 (L.length + 1) q.2)) lb 31 v1 ∧ Nts (G.setCell ⟨lb, 0, none⟩ (.slice q.1 (L.length + 1) q.2)) base K' v1 (L ++ [(way, z)]) us' ∧ (∀ k, K' k → K k ∨ W.heap.size ≤ k) ∧ Nb lb (.slice a0 m0 c0) W (G.setCell ⟨lb, 0, none⟩ (.slice q.1 (L.length + 1) q.2))) := by
    intro X a' cap' hu hBX
    have sD : D.heap.size = W.heap.size := by rw [hD]; rfl
    have hBWX : Below W.heap.size W X := hBD.trans (hBX.mono (by omega))
    have lX : Boxed X lb 31 (.slice a0 m0 c0) := (hBX.block lb hlD.lt).trans hlD
    obtain ⟨Y, hY⟩ : ∃ Y, X.alloc (.cells #[.slice a' way.length cap', .int .i64 z] 56) = Y := ⟨_, rfl⟩
    have hBY : Below X.heap.size X Y := by rw [← hY]; exact (Below.refl _ X).alloc (Nat.le_refl _) _
    have sY : Y.heap.size = X.heap.size + 1 := by rw [← hY]; simp
    have cY : Y.heap[X.heap.size]? = some (.cells #[.slice a' way.length cap', .int .i64 z] 56 (0, 0)) := by rw [← hY]; exact alloc_new _ _
    have lY : Boxed Y lb 31 (.slice a0 m0 c0) := (hBY.block lb lX.lt).trans lX
    have hBWY : Below W.heap.size W Y := hBWX.trans (hBY.mono hBWX.size)
    have uY : Wy Y base (.slice a' way.length cap') way := by
      have h1 : Wy Y D.heap.size (.slice a' way.length cap') way := hu.same fun k c _ hc => (hBY.block k (heap_lt hc)).trans hc
      refine ⟨h1.1, ?_⟩
      rcases h1.2 with h2 | ⟨g, cc, cur, e, q1, q2⟩
      · exact .inl h2
      · exact .inr ⟨g, cc, cur, e, by omega, q2⟩
    have nY : Nts Y base K (.slice a0 m0 c0) L us := hN.same (fun k c _ hc => (hBWY.block k (heap_lt hc)).trans hc) (fun k c _ hc => (hBWY.block k (heap_lt hc)).trans hc) (fun _ h => h)
    obtain ⟨q1, q2, G, hrun, nG, gG, bG⟩ := nts_push nY (by have := hBWY.size; omega) hL (n := (way, z)) uY cY
    have hsz := hBWX.size
    have lne : ∀ (k : Nat) (c : Array Value), (Value.slice a0 m0 c0).ownBlock = some k → Y.heap[k]? = some (.cells c 31 (0, 0)) → False := fun k c hk hc => by
      rcases nY.row.2 with ⟨e, -⟩ | ⟨g, cap, cur, e, -, h2, -⟩
      · rw [e] at hk; cases hk
      · rw [e] at hk; cases hk; rw [hc] at h2; simp at h2
    have lG : Boxed G lb 31 (.slice a0 m0 c0) := (gG.block lb lY.lt (fun e => lne lb _ e.symm lY)).trans lY
    have hne : ∀ (k : Nat) (c : Array Value) (t : TypeId), G.heap[k]? = some (.cells c t (0, 0)) → t ≠ 31 → (G.setCell ⟨lb, 0, none⟩ (.slice q1 (L.length + 1) q2)).heap[k]? = some (.cells c t (0, 0)) := fun k c t hc ht => by
      refine (Below.heap_setCell G ⟨lb, 0, none⟩ _ k (fun e => ?_)).trans hc
      have e' : k = lb := e
      subst e'
      have h2 : G.heap[k]? = some (.cells #[.slice a0 m0 c0] 31 (0, 0)) := lG
      rw [hc] at h2
      simp only [Option.some.injEq, Obj.cells.injEq] at h2
      exact ht h2.2.1
    rw [hY]
    refine ⟨lX, lY, G, (q1, q2), lG, hrun, rfl, _, _, _, lG.set _, nG.same (fun k c _ hc => hne k c _ hc (by decide)) (fun k c _ hc => hne k c _ hc (by decide)) (fun _ h => h), ?_, ?_⟩
    · rintro k (h | h)
      · exact .inl h
      · have := (hu.lt k h).1
        right; omega
    · refine ⟨gG.os.trans hBWY.os, gG.tape.trans hBWY.tape, gG.output.trans hBWY.output, ?_, fun k hk hkl hkv => ?_⟩
      · rw [World.size_setCell]
        have := gG.size
        have := hBWY.size
        omega
      · refine (Below.heap_setCell G ⟨lb, 0, none⟩ _ k (fun e => hkl e)).trans ((gG.block k (by have := hBWY.size; omega) (fun e => hkv e.symm)).trans (hBWY.block k hk))
  clear hw hl hN hb hL hwl hwD hBD
  have cl := hlD.cell
  refine callsIn_of_wp Tryz.func26 rfl trivial ?_ rfl
  simp only [Tryz.ntmps26, List.size_toArray, List.length_cons, List.length_nil, Nat.reduceAdd, Nat.reduceSub, Array.replicate_succ, Array.replicate_zero, List.push_toArray, List.append_toArray, List.nil_append, List.cons_append]
  gi_wp2
  refine bgi (fun _ => True) trivial (fun hHeld => ?_)
  rw [← hD]
  clear hD
  refine tki 1 ?_
  refine tki 3 ?_
  refine rdi2 0 2 (fun K1 hK1 => ?_) (fun K1 hK1 => ?_)
  · go_simp
    refine hK1.out _ _ trivial (fun hHeld => ?_)
    clear hK1 K1
    refine rdi 2 (fun K1 hK1 => ?_)
    go_simp
    refine ⟨trivial, hdd _, ?_⟩
    refine hc.mono ?_
    clear hc
    rintro e X ⟨a', cap', rfl, hu, hBX⟩
    go_simp
    refine hK1.out _ _ trivial (fun hHeld => ?_)
    clear hK1 K1
    obtain ⟨hbX, hbz, G, cG, H, HR, HF⟩ := key X a' cap' hu hBX
    refine tki 4 ?_
    refine rdi 5 (fun K1 hK1 => ?_)
    go_simp
    refine hK1.out _ _ trivial (fun hHeld => ?_)
    clear hK1 K1
    refine rdi 6 (fun K1 hK1 => ?_)
    rw [if_pos (by rfl)]
    refine wpInOp_append (.tmp 8) (.tmp 13) 31 rfl _ _ _ rfl rfl HR.out ?_
    refine hK1.out _ _ trivial (fun hHeld => ?_)
    clear hK1 K1
    (try simp only [Act.put, si_put, si_0, si_1])
    have clG := H.cell
    have flG := H.frozen
    refine rdi 7 (fun K1 hK1 => ?_)
    go_simp
    refine hK1.out _ _ trivial (fun hHeld => ?_)
    clear hK1 K1
    refine dni ?_
    gi_wp2
    go_end0
    exact ⟨rfl, HF.out.2⟩
  · go_simp
    refine ⟨trivial, hdd _, ?_⟩
    refine hc.mono ?_
    clear hc
    rintro e X ⟨a', cap', rfl, hu, hBX⟩
    go_simp
    refine hK1.out _ _ trivial (fun hHeld => ?_)
    clear hK1 K1
    obtain ⟨hbX, hbz, G, cG, H, HR, HF⟩ := key X a' cap' hu hBX
    refine tki 4 ?_
    have clX := hbX.cell
    have clY := hbz.cell
    refine rdi2 0 5 (fun K1 hK1 => ?_) (fun K1 hK1 => ?_)
    · go_simp
      refine hK1.out _ _ trivial (fun hHeld => ?_)
      clear hK1 K1
      refine rdi 5 (fun K1 hK1 => ?_)
      go_simp
      refine hK1.out _ _ trivial (fun hHeld => ?_)
      clear hK1 K1
      refine rdi 6 (fun K1 hK1 => ?_)
      rw [if_pos (by rfl)]
      refine wpInOp_append (.tmp 8) (.tmp 13) 31 rfl _ _ _ rfl rfl HR.out ?_
      refine hK1.out _ _ trivial (fun hHeld => ?_)
      clear hK1 K1
      (try simp only [Act.put, si_put, si_0, si_1])
      have clG := H.cell
      have flG := H.frozen
      refine rdi 7 (fun K1 hK1 => ?_)
      go_simp
      refine hK1.out _ _ trivial (fun hHeld => ?_)
      clear hK1 K1
      refine dni ?_
      gi_wp2
      go_end0
      exact ⟨rfl, HF.out.2⟩
    · go_simp
      refine hK1.out _ _ trivial (fun hHeld => ?_)
      clear hK1 K1
      refine rdi 0 (fun K1 hK1 => ?_)
      go_simp
      refine hK1.out _ _ trivial (fun hHeld => ?_)
      clear hK1 K1
      refine rdi 6 (fun K1 hK1 => ?_)
      rw [if_pos (by rfl)]
      refine wpInOp_append (.tmp 8) (.tmp 13) 31 rfl _ _ _ rfl rfl HR.out ?_
      refine hK1.out _ _ trivial (fun hHeld => ?_)
      clear hK1 K1
      (try simp only [Act.put, si_put, si_0, si_1])
      have clG := H.cell
      have flG := H.frozen
      refine rdi 7 (fun K1 hK1 => ?_)
      go_simp
      refine hK1.out _ _ trivial (fun hHeld => ?_)
      clear hK1 K1
      refine dni ?_
      gi_wp2
      go_end0
      exact ⟨rfl, HF.out.2⟩
/-- What a call of the closure that notes leaves. -/
def NoteAns (lb base : Nat) (K : Nat → Prop) (v0 : Value) (W : World) (L : List Nt) (e : Ending) (W' : World) : Prop :=
  e = .returned (.tuple #[]) ∧ ∃ (v1 : Value) (K' : Nat → Prop) (us' : List Value), Boxed W' lb 31 v1 ∧ Nts W' base K' v1 L us' ∧ (∀ k, K' k → K k ∨ W.heap.size ≤ k) ∧ Nb lb v0 W W'
theorem note_any (va : Option Addr) (m cap : Nat) (way : List Int) (wb : Nat) (z : Int) (b : Bool) (lb base : Nat) (K : Nat → Prop) (v0 : Value) (L : List Nt) (us : List Value) (W : World) (hw : Wy W wb (.slice va m cap) way) (hm : m = way.length) (hl : Boxed W lb 31 v0)
    (hN : Nts W base K v0 L us) (hb : base ≤ W.heap.size) (hL : L.length ≤ 1048576) (hwl : way.length ≤ 1048576) :
    Calls Tryz.prog 26 #[.slice va m cap, .int .i64 z, .bool b, .pointer (some ⟨lb, 0, none⟩)] W (NoteAns lb base K v0 W (L ++ if b = true then [(way, z)] else [])) := by
  subst hm
  cases b with
  | false =>
    refine (note_no _ z lb W).mono ?_
    rintro e W' ⟨rfl, rfl⟩
    exact ⟨rfl, v0, K, us, hl, by simpa using hN, fun k h => .inl h, Nb.refl _ _ _⟩
  | true => exact (callsIn_wide (n := 3)).1 (note_in 3 va cap way wb z lb base K v0 L us W hw hl hN hb hL hwl)
end Go.Proofs.YtfnfegcjgnbgbaaGreatDoor
namespace Go.Proofs.YtfnfegcjgnbgbaaGreatDoor
open Go.RowKit

/-- A cell that came in, in a later world. -/
theorem cell_later {w w' : World} {p : Addr} {v : Value} (h : w.cell? p = some v) (b : Below w.heap.size w w') : w'.cell? p = some v := by
  rw [b.cell (World.block_lt_of_cell? w _ h), h]
end Go.Proofs.YtfnfegcjgnbgbaaGreatDoor
namespace Go.Proofs.YtfnfegcjgnbgbaaGreatDoor
open Go.RowKit Go.Shelf
attribute [local go_sem] Oper.semAt_some

/-- A note as it lies: its way's row, and what it is. -/
abbrev Pn := Value × Nt
def rowN : List Pn → List Value
  | [] => []
  | p :: l => p.1 :: .int .i64 p.2.2 :: rowN l
theorem rowN_len : ∀ l : List Pn, (rowN l).length = l.length * 2
  | [] => rfl
  | p :: l => by simp only [rowN, List.length_cons]; rw [rowN_len l]; omega
theorem rowN_take : ∀ (l : List Pn) (k : Nat), (rowN l).take (k * 2) = rowN (l.take k)
  | [], k => by simp [rowN]
  | p :: l, 0 => by simp [rowN]
  | p :: l, k + 1 => by
    rw [show (k + 1) * 2 = k * 2 + 1 + 1 by omega]
    simp only [rowN, List.take_succ_cons]
    rw [rowN_take l k]
theorem rowN_at : ∀ (l : List Pn) (k : Nat) (p : Pn), l[k]? = some p → (rowN l)[k * 2]? = some p.1 ∧ (rowN l)[k * 2 + 1]? = some (.int .i64 p.2.2)
  | [], k, p, h => by simp at h
  | q :: l, 0, p, h => by simp at h; subst h; simp [rowN]
  | q :: l, k + 1, p, h => by
    have := rowN_at l k p (by simpa using h)
    rw [show (k + 1) * 2 = k * 2 + 1 + 1 by omega, show k * 2 + 1 + 1 + 1 = (k * 2 + 1) + 1 + 1 by omega]
    simpa [rowN] using this
theorem rowN_set : ∀ (l : List Pn) (k : Nat) (p : Pn), rowN (l.set k p) = ((rowN l).set (k * 2) p.1).set (k * 2 + 1) (.int .i64 p.2.2)
  | [], k, p => by simp [rowN]
  | q :: l, 0, p => by simp [rowN]
  | q :: l, k + 1, p => by
    rw [show (k + 1) * 2 = k * 2 + 1 + 1 by omega, show k * 2 + 1 + 1 + 1 = (k * 2 + 1) + 1 + 1 by omega]
    simp only [List.set_cons_succ, rowN]
    rw [rowN_set l k p]
theorem ntCells_pairs : ∀ P : List Pn, ntCells (P.map (·.1)) (P.map (·.2)) = rowN P
  | [] => rfl
  | p :: P => by simp only [List.map_cons, ntCells, rowN]; rw [ntCells_pairs P]
/-- A row of notes. -/
structure NtP (W : World) (base : Nat) (K : Nat → Prop) (v : Value) (P : List Pn) : Prop where
  row : W.ownsRow base 56 2 v P.length (rowN P)
  way : ∀ p ∈ P, Wy W base p.1 p.2.1 ∧ ∀ k, p.1.ownBlock = some k → K k
theorem Nts.pairs {W : World} {base : Nat} {K : Nat → Prop} {v : Value} {L : List Nt} {us : List Value} (h : Nts W base K v L us) : ∃ P : List Pn, P.map (·.2) = L ∧ NtP W base K v P := by
  refine ⟨us.zip L, by rw [List.map_snd_zip (by rw [h.len]; exact Nat.le_refl _)], ?_, ?_⟩
  · have e : ntCells us L = rowN (us.zip L) := by
      have := ntCells_pairs (us.zip L)
      rwa [List.map_snd_zip (by rw [h.len]; exact Nat.le_refl _), List.map_fst_zip (by rw [h.len]; exact Nat.le_refl _)] at this
    rw [← e, show (us.zip L).length = L.length by rw [List.length_zip, h.len]; omega]
    exact h.row
  · rintro ⟨u, n⟩ hp
    obtain ⟨j, hj⟩ := List.getElem?_of_mem hp
    rw [List.getElem?_zip_eq_some] at hj
    exact h.way j u n hj.1 hj.2
theorem NtP.nts {W : World} {base : Nat} {K : Nat → Prop} {v : Value} {P : List Pn} (h : NtP W base K v P) : Nts W base K v (P.map (·.2)) (P.map (·.1)) := by
  refine ⟨by simp, by rw [ntCells_pairs, List.length_map]; exact h.row, fun j u n hu hn => ?_⟩
  rw [List.getElem?_map, Option.map_eq_some_iff] at hu hn
  obtain ⟨p, hp, rfl⟩ := hu
  obtain ⟨p', hp', rfl⟩ := hn
  rw [hp] at hp'
  cases hp'
  exact h.way p (List.mem_of_getElem? hp)
theorem NtP.later {W W' : World} {base : Nat} {K : Nat → Prop} {v : Value} {P : List Pn} (h : NtP W base K v P) (hB : Below W.heap.size W W') : NtP W' base K v P :=
  ⟨own_same h.row fun k _ _ hc => (hB.block k (heap_lt hc)).trans hc, fun p hp => ⟨(h.way p hp).1.same fun k _ _ hc => (hB.block k (heap_lt hc)).trans hc, (h.way p hp).2⟩⟩
/-- Where a note lies. -/
theorem NtP.at {W : World} {base : Nat} {K : Nat → Prop} {a : Option Addr} {n cap : Nat} {P : List Pn} (h : NtP W base K (.slice a n cap) P) {k : Nat} {p : Pn} (hk : P[k]? = some p) :
    ∃ g va vm vc, a = some ⟨g, 0, none⟩ ∧ n = P.length ∧ P.length ≤ cap ∧ cap ≤ maxLen ∧ base ≤ g ∧ p.1 = .slice va vm vc ∧ W.cell? ⟨g, k * 2, none⟩ = some (.slice va vm vc) ∧ W.cell? ⟨g, k * 2 + 1, none⟩ = some (.int .i64 p.2.2) := by
  have hlt := (List.getElem?_eq_some_iff.1 hk).1
  rcases h.row.2 with ⟨e, e0⟩ | ⟨g, cap', cur, e, h1, h2, h3, h4, h5, h6⟩
  · omega
  · injection e with e1 e2 e3
    subst e1 e3
    obtain ⟨va, vc, hv, -⟩ := ((h.way p (List.mem_of_getElem? hk)).1).shape
    obtain ⟨c1, c2⟩ := rowN_at P k p hk
    have q : ∀ j u, (rowN P)[j]? = some u → W.cell? ⟨g, j, none⟩ = some u := fun j u hu => by
      rw [cell_heap h2]
      rw [← h6, List.getElem?_take] at hu
      split at hu
      · simpa using hu
      · cases hu
    exact ⟨g, va, _, vc, rfl, e2, h3, h4, h1, hv, by rw [← hv]; exact q _ _ c1, q _ _ c2⟩
/-- The closure of able.Notes: is it left out? -/
abbrev delV (db : Nat) : Value := .func (.func 35) #[] #[.pointer (some ⟨db, 0, none⟩)]
set_option maxHeartbeats 1000000 in
theorem del_any (va : Option Addr) (vm vc : Nat) (z d : Int) (db : Nat) (W : World) (hd : Boxed W db 3 (.int .i64 d)) (hT : AbT W) :
    Calls Tryz.prog 35 #[.agg #[.slice va vm vc, .int .i64 z], .pointer (some ⟨db, 0, none⟩)] W fun e W' => e = .returned (.bool (!lacksB d z)) ∧ Below W.heap.size W W' := by
  obtain ⟨A, hA⟩ : ∃ A, W.alloc (.cells #[.slice va vm vc, .int .i64 z] 56) = A := ⟨_, rfl⟩
  have hB : Below W.heap.size W A := by rw [← hA]; exact (Below.refl _ W).alloc (Nat.le_refl _) _
  have c1 := (Boxed.kept_of hd hB hd.lt).cell
  have hn : A.heap[W.heap.size]? = some (.cells #[.slice va vm vc, .int .i64 z] 56 (0, 0)) := by rw [← hA]; exact alloc_new _ _
  have n0 : A.cell? ⟨W.heap.size, 0, none⟩ = some (.slice va vm vc) := by rw [cell_heap hn]; rfl
  have n1 : A.cell? ⟨W.heap.size, 1, none⟩ = some (.int .i64 z) := by rw [cell_heap hn]; rfl
  have hl := lacks_any d z A (hT.later hB)
  have HB : Hid (Below W.heap.size W A) := hB
  obtain ⟨b, hb⟩ : ∃ b, b = lacksB d z := ⟨_, rfl⟩
  rw [← hb] at hl ⊢
  clear hd hT hB hn hb
  subst hA
  go_enter Tryz.func35, Tryz.ntmps35
  go_wp2_with (go_at_call 14; refine hl.mono ?_; clear hl; rintro e w1 ⟨rfl, rfl⟩)
  go_ret
  exact ⟨rfl, HB.out⟩
/-- Is it kept? -/
abbrev keepN (d : Int) (p : Pn) : Bool := lacksB d p.2.2
set_option maxRecDepth 100000 in
set_option maxHeartbeats 4000000 in
theorem index_any (a : Option Addr) (n cap : Nat) (P : List Pn) (base : Nat) (K : Nat → Prop) (d : Int) (db : Nat) (W : World) (hP : NtP W base K (.slice a n cap) P) (hd : Boxed W db 3 (.int .i64 d)) (hT : AbT W) :
    Calls Tryz.prog 59 #[.slice a n cap, delV db] W fun e W' => Below W.heap.size W W' ∧
      ((e = .returned (.int .i64 (-1)) ∧ P.filter (keepN d) = P) ∨ ∃ i, i < n ∧ e = .returned (.int .i64 i) ∧ (P.take i).filter (keepN d) = P.take i ∧ ∃ p, P[i]? = some p ∧ keepN d p = false) := by
  have hn : n = P.length ∧ n ≤ 9223372036854775807 := by
    rcases hP.row.2 with ⟨e, e0⟩ | ⟨g, cap', cur, e, h1, h2, h3, h4, h5, h6⟩
    · cases e; exact ⟨e0.symm, by omega⟩
    · cases e; exact ⟨rfl, by simp only [maxLen] at h4; omega⟩
  obtain ⟨hnl, hn8⟩ := hn
  have HP : Hid (NtP W base K (.slice a n cap) P ∧ Boxed W db 3 (.int .i64 d) ∧ AbT W ∧ n = P.length) := ⟨hP, hd, hT, hnl⟩
  clear hP hd hT hnl
  go_enter Tryz.func59, Tryz.ntmps59
  go_wp2_with fail
  go_loopw [8] (fun u wr => ∃ i : Nat, i ≤ n ∧ u = .int .i64 i ∧ Below W.heap.size W wr ∧ Hid ((P.take i).filter (keepN d) = P.take i)) (fun u _ => n - (intOf u).toNat)
  case atStart => exact ⟨0, Nat.zero_le _, rfl, Below.refl _ _, by show ([] : List Pn).filter _ = _; rfl⟩
  case round =>
    obtain ⟨i, hi, rfl, hB, hk⟩ := hrel
    by_cases hin : i < n
    · have hnl := HP.out.2.2.2
      obtain ⟨p, hp⟩ : ∃ p, P[i]? = some p := ⟨_, List.getElem?_eq_getElem (by omega)⟩
      obtain ⟨g, va, vm, vc, rfl, -, -, -, -, hv, c0, c1⟩ := (HP.out.1.later hB).at hp
      have hc := del_any va vm vc p.2.2 d db wr (Boxed.kept_of HP.out.2.1 hB HP.out.2.1.lt) (HP.out.2.2.1.later hB)
      have HIN : Hid (i < n ∧ P[i]? = some p) := ⟨hin, hp⟩
      obtain ⟨z, hz⟩ : ∃ z, z = p.2.2 := ⟨_, rfl⟩
      rw [← hz] at hc c1
      obtain ⟨b, hb⟩ : ∃ b, b = lacksB d z := ⟨_, rfl⟩
      have HB : Hid (b = keepN d p) := by rw [hb, hz]; rfl
      rw [← hb] at hc
      clear hb hz hnl hp hv
      cases b
      · go_wp2_with (go_at_call 35; refine hc.mono ?_; clear hc; rintro e w1 ⟨rfl, hB1⟩)
        go_ret
        exact ⟨hB.trans (hB1.mono hB.size), .inr ⟨i, HIN.out.1, rfl, hk.out, p, HIN.out.2, HB.out.symm⟩⟩
      · go_wp2_with (go_at_call 35; refine hc.mono ?_; clear hc; rintro e w1 ⟨rfl, hB1⟩)
        go_roundw
        case rel =>
          refine ⟨i + 1, HIN.out.1, by go_num, hB.trans (hB1.mono hB.size), ?_⟩
          show (P.take (i + 1)).filter (keepN d) = P.take (i + 1)
          rw [List.take_add_one, HIN.out.2, List.filter_append, hk.out]
          simp [← HB.out]
        case measure => have := HIN.out.1; simp [intOf]; omega
    · obtain rfl : i = n := by omega
      go_wp2
      go_ret
      refine ⟨hB, .inl ⟨rfl, ?_⟩⟩
      have := hk.out
      rwa [HP.out.2.2.2, List.take_length] at this
theorem own_cut22 {w : World} {base e size g n cap K : Nat} {xs : List Value} (h : w.ownsRow base e size (.slice (some ⟨g, 0, none⟩) n cap) n xs) (hK : K ≤ n) : w.ownsRow base e size (.slice (some ⟨g, 0, none⟩) K cap) K (xs.take (K * size)) := by
  have hm : K * size ≤ n * size := Nat.mul_le_mul_right _ hK
  refine ⟨by rw [List.length_take, h.1]; omega, ?_⟩
  rcases h.2 with ⟨h', _⟩ | ⟨g', cap', cur, h', hb, hg, hnc, hcm, hcs, ht⟩
  · cases h'
  · cases h'
    exact .inr ⟨g, cap, cur, rfl, hb, hg, by omega, hcm, hcs, by rw [← ht, List.take_take, Nat.min_eq_left hm]⟩
/-- What is written behind it leaves it. -/
theorem own_setCells22 {base e size g K cap : Nat} {ys : List Value} : ∀ (vs : List Value) (o : Nat) (w : World), w.ownsRow base e size (.slice (some ⟨g, 0, none⟩) K cap) K ys → K * size ≤ o → (w.setCells g o vs).ownsRow base e size (.slice (some ⟨g, 0, none⟩) K cap) K ys
  | [], _, _, h, _ => h
  | v :: vs, o, w, h, ho => by
    have := (h.stored o v).1
    rw [List.set_eq_of_length_le (by rw [h.1]; exact ho)] at this
    exact own_setCells22 vs (o + 1) _ this (by omega)
theorem below_setCells22 {B g : Nat} {a : World} (hb : B ≤ g) : ∀ (vs : List Value) (o : Nat) (w : World), Below B a w → Below B a (w.setCells g o vs)
  | [], _, _, h => h
  | v :: vs, o, _, h => below_setCells22 hb vs (o + 1) _ (h.setCell (p := ⟨g, o, none⟩) hb v)
/-- clear of n > 0 elements of some cells each. -/
theorem run_clear22 {P : Program} (w : World) (t e ty : TypeId) (z : Value) (ht : P.underlying t = some (.slice e)) (hv : ∀ w, (zeroValue e).run P w = .ok z w) (h1 : ∀ u ∈ z.cells, u.oneCell' = true) (hz : 0 < z.cells.size) (b o n c : Nat) (hn : 0 < n)
    (hc : ∀ j, j < n * z.cells.size → (w.cell? ⟨b, o + j, none⟩).isSome = true) (hf : ∀ j, j < n * z.cells.size → w.frozen? ⟨b, o + j, none⟩ = false) :
    (Builtin.clear_ #[t] ty #[.slice (some ⟨b, o, none⟩) n c]).run P w = .ok (.tuple #[]) (w.setCells b o (Builtin.zeroCells z.cells n).toList) := by
  have hlen : (Builtin.zeroCells z.cells n).toList.length = n * z.cells.size := by simp [Builtin.zeroCells]
  have hst := run_storeCells_cells (P := P) b o (Builtin.zeroCells z.cells n).toList 0 w (by simpa [hlen] using hc) (by simpa [hlen] using hf) (by
    intro v hv'
    simp only [Builtin.zeroCells, Array.toList_map, List.mem_map] at hv'
    obtain ⟨i, _, rfl⟩ := hv'
    have hi : i % z.cells.size < z.cells.size := Nat.mod_lt _ hz
    rw [getElem!_pos z.cells _ hi]
    exact h1 _ (Array.getElem_mem hi))
  simp only [Nat.add_zero] at hst
  obtain ⟨m, rfl⟩ : ∃ m, n = m + 1 := ⟨n - 1, by omega⟩
  simp [Builtin.clear_, run_underlying ht, hv, hst]
/-- How far the row has come: the first K are what is kept of the first p; from p on all is as it was. -/
structure DelInv (f : Pn → Bool) (P M : List Pn) (p K : Nat) : Prop where
  len : M.length = P.length
  lo : M.take K = (P.take p).filter f
  lt : K < p
  le : p ≤ P.length
  hi : ∀ j, p ≤ j → M[j]? = P[j]?
  mem : ∀ x ∈ M, x ∈ P
theorem DelInv.start {f : Pn → Bool} {P : List Pn} {i : Nat} {x : Pn} (hx : P[i]? = some x) (hf : f x = false) (h : (P.take i).filter f = P.take i) : DelInv f P P (i + 1) i :=
  ⟨rfl, by rw [List.take_add_one, hx, List.filter_append, h]; simp [hf], by omega, (List.getElem?_eq_some_iff.1 hx).1, fun _ _ => rfl, fun _ h => h⟩
theorem DelInv.skip {f : Pn → Bool} {P M : List Pn} {p K : Nat} {x : Pn} (h : DelInv f P M p K) (hx : P[p]? = some x) (hf : f x = false) : DelInv f P M (p + 1) K :=
  ⟨h.len, by rw [List.take_add_one, hx, List.filter_append, h.lo]; simp [hf], by have := h.lt; omega, (List.getElem?_eq_some_iff.1 hx).1, fun j hj => h.hi j (by omega), h.mem⟩
theorem DelInv.keep {f : Pn → Bool} {P M : List Pn} {p K : Nat} {x : Pn} (h : DelInv f P M p K) (hx : P[p]? = some x) (hf : f x = true) : DelInv f P (M.set K x) (p + 1) (K + 1) := by
  have hp := (List.getElem?_eq_some_iff.1 hx).1
  have hl := h.len
  have ht := h.lt
  refine ⟨by simp [hl], ?_, by omega, hp, fun j hj => ?_, fun y hy => ?_⟩
  · rw [List.take_add_one (l := P), hx, List.filter_append, ← h.lo, List.take_add_one, List.getElem?_set_self (by omega), List.take_set_of_le (Nat.le_refl _)]
    simp [hf]
  · rw [List.getElem?_set_ne (by omega)]
    exact h.hi j (by omega)
  · rcases List.mem_or_eq_of_mem_set hy with hy | rfl
    · exact h.mem y hy
    · exact List.mem_of_getElem? hx
theorem own_setN {W : World} {base g n cap K : Nat} {Kp : Nat → Prop} {M : List Pn} {x : Pn} (h : NtP W base Kp (.slice (some ⟨g, 0, none⟩) n cap) M) (hn : n = M.length) (hx : Wy W base x.1 x.2.1 ∧ ∀ k, x.1.ownBlock = some k → Kp k) (hb : base ≤ g) :
    ∃ V, (W.setCell ⟨g, K * 2, none⟩ x.1).setCell ⟨g, K * 2 + 1, none⟩ (.int .i64 x.2.2) = V ∧ NtP V base Kp (.slice (some ⟨g, 0, none⟩) n cap) (M.set K x) ∧ Below base W V := by
  have o0 := h.row
  rw [← hn] at o0
  have o1 := (o0.stored (K * 2) x.1).1
  have o2 := (o1.stored (K * 2 + 1) (.int .i64 x.2.2)).1
  have hc : ∀ (k : Nat) (c : Array Value), W.heap[k]? = some (.cells c 3 (0, 0)) → ((W.setCell ⟨g, K * 2, none⟩ x.1).setCell ⟨g, K * 2 + 1, none⟩ (.int .i64 x.2.2)).heap[k]? = some (.cells c 3 (0, 0)) := fun k c hc => by
    have hk : k ≠ g := fun e => by
      subst e
      rcases h.row.2 with ⟨e, e0⟩ | ⟨g', cap', cur, e, h1, h2, h3⟩
      · cases e
      · cases e
        rw [hc] at h2
        simp at h2
    exact (Below.heap_setCell _ ⟨g, K * 2 + 1, none⟩ _ k hk).trans ((Below.heap_setCell _ ⟨g, K * 2, none⟩ _ k hk).trans hc)
  refine ⟨_, rfl, ⟨?_, fun p hp => ?_⟩, ((Below.refl _ W).setCell (p := ⟨g, K * 2, none⟩) hb _).setCell (p := ⟨g, K * 2 + 1, none⟩) hb _⟩
  · rw [rowN_set, List.length_set, ← hn]
    exact o2
  · have hq : Wy W base p.1 p.2.1 ∧ ∀ k, p.1.ownBlock = some k → Kp k := by
      rcases List.mem_or_eq_of_mem_set hp with hp | rfl
      · exact h.way p hp
      · exact hx
    exact ⟨hq.1.same fun k c _ hk => hc k c hk, hq.2⟩
theorem setCells_other {g q : Nat} : ∀ (vs : List Value) (o : Nat) (w : World), q ≠ g → (w.setCells g o vs).heap[q]? = w.heap[q]?
  | [], _, _, _ => rfl
  | v :: vs, o, w, h => (setCells_other vs (o + 1) _ h).trans (Below.heap_setCell w ⟨g, o, none⟩ v q h)
theorem zeroNt (w : World) : (zeroValue 56).run Tryz.prog w = .ok (.agg #[.slice none 0 0, .int .i64 0]) w := by kernel_rfl
set_option maxRecDepth 100000 in
set_option maxHeartbeats 8000000 in
theorem delete_any (a : Option Addr) (n cap : Nat) (P : List Pn) (base : Nat) (K : Nat → Prop) (d : Int) (db : Nat) (W : World) (hP : NtP W base K (.slice a n cap) P) (hd : Boxed W db 3 (.int .i64 d)) (hT : AbT W) (hb : base ≤ W.heap.size) (hdb : db < base) (hTb : ∀ d, Below base W d → AbT d) :
    Calls Tryz.prog 34 #[.slice a n cap, delV db] W fun e W' => ∃ cap', e = .returned (.slice a (P.filter (keepN d)).length cap') ∧ NtP W' base K (.slice a (P.filter (keepN d)).length cap') (P.filter (keepN d)) ∧ Below base W W' := by
  have hc0 := index_any a n cap P base K d db W hP hd hT
  have hn : n = P.length ∧ n ≤ 9223372036854775807 := by
    rcases hP.row.2 with ⟨e, e0⟩ | ⟨g, cap', cur, e, h1, h2, h3, h4, h5, h6⟩
    · cases e; exact ⟨e0.symm, by omega⟩
    · cases e; exact ⟨rfl, by simp only [maxLen] at h4; omega⟩
  obtain ⟨hnl, hn8⟩ := hn
  have HP : Hid (NtP W base K (.slice a n cap) P ∧ Boxed W db 3 (.int .i64 d) ∧ n = P.length ∧ base ≤ W.heap.size ∧ db < base ∧ ∀ d, Below base W d → AbT d) := ⟨hP, hd, hnl, hb, hdb, hTb⟩
  clear hP hd hT hnl hb hdb hTb
  go_enter Tryz.func34, Tryz.ntmps34
  go_wp2_with (go_at_call 59; refine hc0.mono ?_; clear hc0; rintro e w1 ⟨hB1, (⟨rfl, hall⟩ | ⟨i, hi, rfl, hpre, x, hx, hf⟩)⟩; all_goals (try (have hi1 : (((i : Nat) : Int) == -1) = false := (by rw [Bool.eq_false_iff]; simp only [ne_eq, beq_iff_eq]; omega))))
  · go_ret
    have e1 : P.filter (keepN d) = P := hall
    refine ⟨cap, ?_, ?_, hB1.mono HP.out.2.2.2.1⟩
    · rw [e1, ← HP.out.2.2.1]
      rfl
    · rw [e1, ← HP.out.2.2.1]
      exact HP.out.1.later hB1
  · obtain ⟨g, va0, vm0, vc0, rfl, -, hcapn, hcap8, hbg, -, -, -⟩ := HP.out.1.at hx
    have HI0 : Hid (DelInv (keepN d) P P (i + 1) i) := DelInv.start hx hf hpre
    have HN0 : Hid (NtP w1 base K (.slice (some ⟨g, 0, none⟩) n cap) P) := HP.out.1.later hB1
    have hB10 : Below base W w1 := hB1.mono HP.out.2.2.2.1
    have HBG : Hid (base ≤ g ∧ n ≤ cap) := ⟨hbg, by rw [HP.out.2.2.1]; exact hcapn⟩
    have hcc : n ≤ cap := by rw [HP.out.2.2.1]; exact hcapn
    have hcap9 : cap ≤ 9223372036854775807 := by simp only [maxLen] at hcap8; omega
    clear hpre hx hf hB1 hcapn hbg hcap8
    go_loopw [5, 6] (fun u v wr => ∃ (k p : Nat) (M : List Pn), u = .int .i64 k ∧ v = .int .i64 p ∧ p ≤ n ∧ k ≤ n ∧ Hid (DelInv (keepN d) P M p k) ∧ Hid (NtP wr base K (.slice (some ⟨g, 0, none⟩) n cap) M) ∧ Below base W wr) (fun _ v _ => n - (intOf v).toNat)
    case atStart => exact ⟨i, i + 1, P, rfl, by go_num, by omega, by omega, HI0, HN0, hB10⟩
    case round =>
      clear HI0 HN0 hB10
      obtain ⟨k, p, M, rfl, rfl, hp, hk, HI, HN, hB⟩ := hrel
      have hkn : k < n := by have := HI.out.lt; omega
      have hck : ¬ cap = k := by omega
      have hML : M.length = n := HI.out.len.trans HP.out.2.2.1.symm
      by_cases hpn : p < n
      · have hnl := HP.out.2.2.1
        obtain ⟨x, hx⟩ : ∃ x, P[p]? = some x := ⟨_, List.getElem?_eq_getElem (by omega)⟩
        have hxM : M[p]? = some x := (HI.out.hi p (Nat.le_refl _)).trans hx
        obtain ⟨g', va, vm, vc, eg, -, -, -, -, hv, c0, c1⟩ := HN.out.at hxM
        obtain rfl : g = g' := by cases eg; rfl
        obtain ⟨z, hz⟩ : ∃ z, z = x.2.2 := ⟨_, rfl⟩
        rw [← hz] at c1
        have hBz : Below wr.heap.size wr (wr.alloc (.cells #[.slice va vm vc, .int .i64 z] 56)) := (Below.refl _ _).alloc (Nat.le_refl _) _
        have hsz : base ≤ wr.heap.size := Nat.le_trans HP.out.2.2.2.1 hB.size
        have hBd := hB.trans (hBz.mono hsz)
        have hdr : Boxed wr db 3 (.int .i64 d) := Boxed.kept_of HP.out.2.1 hB HP.out.2.2.2.2.1
        have hc := del_any va vm vc z d db _ (Boxed.kept_of hdr hBz hdr.lt) (HP.out.2.2.2.2.2 _ hBd)
        have HX : Hid (p < n ∧ P[p]? = some x ∧ x.1 = .slice va vm vc ∧ z = x.2.2 ∧ M[p]? = some x) := ⟨hpn, hx, hv, hz, hxM⟩
        have HKN : Hid (k < n ∧ base ≤ wr.heap.size) := ⟨hkn, hsz⟩
        have HBz : Hid (Below wr.heap.size wr (wr.alloc (.cells #[.slice va vm vc, .int .i64 z] 56))) := hBz
        have nz : (wr.alloc (.cells #[.slice va vm vc, .int .i64 z] 56)).heap[wr.heap.size]? = some (.cells #[.slice va vm vc, .int .i64 z] 56 (0, 0)) := alloc_new _ _
        have b0 : (wr.alloc (.cells #[.slice va vm vc, .int .i64 z] 56)).cell? ⟨wr.heap.size, 0, none⟩ = some (.slice va vm vc) := by rw [cell_heap nz]; rfl
        have b1 : (wr.alloc (.cells #[.slice va vm vc, .int .i64 z] 56)).cell? ⟨wr.heap.size, 1, none⟩ = some (.int .i64 z) := by rw [cell_heap nz]; rfl
        have HML : Hid (M.length = n) := hML
        obtain ⟨b, hb⟩ : ∃ b, b = lacksB d z := ⟨_, rfl⟩
        have HB : Hid (b = keepN d x) := by rw [hb, hz]; rfl
        rw [← hb] at hc
        clear hb hz hnl hx hv hxM eg hBd hdr hBz hsz nz hML
        cases b
        · go_wp2_with (go_at_call 35; refine hc.mono ?_; clear hc; rintro e w2 ⟨rfl, hB2⟩)
          have HI2 : Hid (DelInv (keepN d) P M (p + 1) k) := HI.out.skip HX.out.2.1 HB.out.symm
          go_roundw
          case rel => exact ⟨k, p + 1, M, rfl, by go_num, HX.out.1, hk, HI2, (HN.out.later HBz.out).later hB2, (hB.trans (HBz.out.mono HKN.out.2)).trans (hB2.mono (Nat.le_trans HKN.out.2 HBz.out.size))⟩
          case measure => have := HX.out.1; simp [intOf]; omega
        · go_wp2_with (go_at_call 35; refine hc.mono ?_; clear hc; rintro e w2 ⟨rfl, hB2⟩; have hN2 := (HN.out.later HBz.out).later hB2; obtain ⟨y, hy⟩ : (∃ y, M[k]? = some y) := ⟨_, List.getElem?_eq_getElem (by rw [HML.out]; exact HKN.out.1)⟩; obtain ⟨g', va', vm', vc', eg, -, -, -, -, -, d0, d1⟩ := hN2.at hy; obtain rfl : g = g' := (by cases eg; rfl); have e0 := cell_later b0 hB2; have e1 := cell_later b1 hB2; have f0 := (show w2.ownsRow base 56 2 (.slice (some ⟨g, 0, none⟩) M.length cap) M.length (rowN M) from (by have := hN2.row; rw [HML.out] at this ⊢; exact this)).frozenAt (k * 2); have f1 := (show w2.ownsRow base 56 2 (.slice (some ⟨g, 0, none⟩) M.length cap) M.length (rowN M) from (by have := hN2.row; rw [HML.out] at this ⊢; exact this)).frozenAt (k * 2 + 1); clear hy eg hN2 c0 c1 b0 b1)
          have hN2 := (HN.out.later HBz.out).later hB2
          obtain ⟨V, hV, NV, BV⟩ := own_setN (K := k) hN2 HML.out.symm (hN2.way x (List.mem_of_getElem? HX.out.2.2.2.2)) HBG.out.1
          rw [HX.out.2.2.1, ← HX.out.2.2.2.1] at hV
          have HI2 : Hid (DelInv (keepN d) P (M.set k x) (p + 1) (k + 1)) := HI.out.keep HX.out.2.1 HB.out.symm
          have hB2' : Below base W w2 := (hB.trans (HBz.out.mono HKN.out.2)).trans (hB2.mono (Nat.le_trans HKN.out.2 HBz.out.size))
          rw [hV]
          go_roundw
          case rel => exact ⟨k + 1, p + 1, M.set k x, by go_num, by go_num, HX.out.1, HKN.out.1, HI2, NV, hB2'.trans BV⟩
          case measure => have := HX.out.1; simp [intOf]; omega
      · obtain rfl : p = n := by omega
        have e : M.take k = P.filter (keepN d) := by have := HI.out.lo; rwa [HP.out.2.2.1, List.take_length] at this
        have ekl : k = (P.filter (keepN d)).length := by rw [← e, List.length_take, hML]; omega
        have hrow : wr.ownsRow base 56 2 (.slice (some ⟨g, 0, none⟩) p cap) p (rowN M) := by have := HN.out.row; rw [hML] at this; exact this
        have hsz2 : (.agg #[.slice none 0 0, .int .i64 0] : Value).cells.size = 2 := rfl
        obtain ⟨zs, hzs⟩ : ∃ zs, zs = (Builtin.zeroCells (.agg #[.slice none 0 0, .int .i64 0] : Value).cells (p - k)).toList := ⟨_, rfl⟩
        have hcl : ∀ ty, (Builtin.clear_ #[31] ty #[.slice (some ⟨g, k * 2, none⟩) (p - k) (cap - k)]).run Tryz.prog wr = .ok (.tuple #[]) (wr.setCells g (k * 2) zs) := fun ty => by
          rw [hzs]
          refine run_clear22 wr 31 56 ty (.agg #[.slice none 0 0, .int .i64 0]) Tryz.underlying31 zeroNt (by simp [Value.cells, Value.oneCell']) (by simp [Value.cells]) g (k * 2) (p - k) (cap - k) (by omega) (fun j2 hj2 => ?_) (fun j2 _ => hrow.frozenAt _)
          rw [hsz2] at hj2
          rw [hrow.cellAt _ (by omega), List.getElem?_eq_getElem (by rw [rowN_len, hML]; omega)]
          rfl
        have hfin : Hid (NtP (wr.setCells g (k * 2) zs) base K (.slice (some ⟨g, 0, none⟩) (P.filter (keepN d)).length cap) (P.filter (keepN d)) ∧ Below base W (wr.setCells g (k * 2) zs)) := by
          have o1 := own_cut22 hrow (show k ≤ p by omega)
          rw [rowN_take, e] at o1
          have hbel : Below base wr (wr.setCells g (k * 2) zs) := below_setCells22 HBG.out.1 zs _ wr (Below.refl _ _)
          refine ⟨⟨?_, fun x hx => ?_⟩, below_setCells22 HBG.out.1 zs _ wr hB⟩
          · rw [← ekl]
            exact own_setCells22 zs _ wr o1 (Nat.le_refl _)
          · have hxM : x ∈ M := List.mem_of_mem_take (by rw [e]; exact hx)
            obtain ⟨h1, h2⟩ := HN.out.way x hxM
            refine ⟨h1.same fun q c _ hc => (setCells_other zs (k * 2) wr (fun eq => ?_)).trans hc, h2⟩
            subst eq
            rcases hrow.2 with ⟨e, -⟩ | ⟨g', cap', cur, e, -, h3, -⟩
            · cases e
            · cases e
              rw [hc] at h3
              simp at h3
        generalize wr.setCells g (k * 2) zs = V at hcl hfin
        clear HN HI hB hzs hrow e hML
        have EKL : Hid (k = (P.filter (keepN d)).length) := ekl
        clear ekl
        go_wp2
        go_ret
        exact ⟨cap, by rw [← EKL.out]; rfl, hfin.out.1, hfin.out.2⟩
end Go.Proofs.YtfnfegcjgnbgbaaGreatDoor
namespace Go.Proofs.YtfnfegcjgnbgbaaGreatDoor
open Go.RowKit

/-- A value of the program, as the model has it; and as it lies in a block of its own. -/
abbrev valV (k n : Int) (s : ByteArray) : Value := .agg #[.int .i64 k, .int .i64 n, .string s]
abbrev valO (k n : Int) (s : ByteArray) : Obj := .cells #[.int .i64 k, .int .i64 n, .string s] 49

set_option maxHeartbeats 400000 in
theorem null_any (w : World) : Calls Tryz.prog 106 #[] w fun e w' => e = .returned (valV 0 0 ⟨#[]⟩) ∧ w' = w.alloc (valO 0 0 ⟨#[]⟩) := by
  go_enter Tryz.func106, Tryz.ntmps106
  go_wp2
  exact bodyPost_ret (v := valV 0 0 ⟨#[]⟩) (by simp [results, Tryz.results106, go_sem]) rfl ⟨rfl, rfl⟩
set_option maxHeartbeats 400000 in
theorem int_any (n : Int) (w : World) : Calls Tryz.prog 108 #[.int .i64 n] w fun e w' => e = .returned (valV 2 n ⟨#[]⟩) ∧ w' = w.alloc (valO 2 n ⟨#[]⟩) := by
  go_enter Tryz.func108, Tryz.ntmps108
  go_wp2
  exact bodyPost_ret (v := valV 2 n ⟨#[]⟩) (by simp [results, Tryz.results108, go_sem]) rfl ⟨rfl, rfl⟩
set_option maxHeartbeats 400000 in
theorem bool_any (b : Bool) (w : World) : Calls Tryz.prog 107 #[.bool b] w fun e w' => e = .returned (valV 1 (if b then 1 else 0) ⟨#[]⟩) ∧ w' = w.alloc (valO 1 (if b then 1 else 0) ⟨#[]⟩) := by
  cases b
  · go_enter Tryz.func107, Tryz.ntmps107
    go_wp2
    exact bodyPost_ret (v := valV 1 0 ⟨#[]⟩) (by simp [results, Tryz.results107, go_sem]) rfl ⟨rfl, rfl⟩
  · go_enter Tryz.func107, Tryz.ntmps107
    go_wp2
    exact bodyPost_ret (v := valV 1 1 ⟨#[]⟩) (by simp [results, Tryz.results107, go_sem]) rfl ⟨rfl, rfl⟩
set_option maxHeartbeats 400000 in
theorem text_short (s : ByteArray) (w : World) (h : ¬ 256 < (s.size : Int)) : Calls Tryz.prog 109 #[.string s] w fun e w' => e = .returned (valV 3 0 s) ∧ w' = w.alloc (valO 3 0 s) := by
  go_enter Tryz.func109, Tryz.ntmps109
  go_wp2
  exact bodyPost_ret (v := valV 3 0 s) (by simp [results, Tryz.results109, go_sem]) rfl ⟨rfl, rfl⟩
set_option maxHeartbeats 400000 in
theorem text_long (s : ByteArray) (w : World) (h : 256 < (s.size : Int)) : Calls Tryz.prog 109 #[.string s] w fun e w' => e = .returned (valV 0 0 ⟨#[]⟩) ∧ w' = (w.alloc (valO 0 0 ⟨#[]⟩)).alloc (valO 0 0 ⟨#[]⟩) := by
  go_enter Tryz.func109, Tryz.ntmps109
  go_wp2_with (go_at_call 106; refine (null_any _).mono ?_; rintro e w1 ⟨rfl, rfl⟩)
  exact bodyPost_ret (v := valV 0 0 ⟨#[]⟩) (by simp [results, Tryz.results109, go_sem]) rfl ⟨rfl, rfl⟩

set_option maxHeartbeats 400000 in
theorem right_none (k n : Int) (s : ByteArray) (w : World) (h0 : (k == 0) = false) (h1 : (k == 1) = false) (h2 : (k == 2) = false) (h3 : (k == 3) = false) : Calls Tryz.prog 102 #[valV k n s] w fun e w' => e = .returned (.bool false) ∧ Below w.heap.size w w' := by
  go_enter Tryz.func102, Tryz.ntmps102
  go_wp2
  go_ret
  exact ⟨rfl, (Below.refl _ w).alloc (Nat.le_refl _) _⟩
theorem below_two (w : World) (o p : Obj) : Below w.heap.size w ((w.alloc o).alloc p).drew :=
  (((Below.refl _ w).alloc (Nat.le_refl _) _).alloc (by simp) _).drew
theorem below_three (w : World) (o p q : Obj) : Below w.heap.size w (((w.alloc o).alloc p).alloc q).drew :=
  ((((Below.refl _ w).alloc (Nat.le_refl _) _).alloc (by simp) _).alloc (by simp; omega) _).drew

set_option maxHeartbeats 400000 in
theorem right_null0 (w : World) : Calls Tryz.prog 102 #[valV 0 0 ⟨#[]⟩] w fun e w' => e = .returned (.bool true) ∧ Below w.heap.size w w' := by
  go_enter Tryz.func102, Tryz.ntmps102
  go_wp2_with fail
  go_region_with (first | (go_at_call 106; refine (null_any _).mono ?_; rintro e w1 ⟨rfl, rfl⟩))
  all_goals go_wp2
  all_goals go_ret
  all_goals exact ⟨rfl, below_two _ _ _⟩
set_option maxHeartbeats 400000 in
theorem right_null1 (n : Int) (s : ByteArray) (w : World) (hn : (n == 0) = false) : Calls Tryz.prog 102 #[valV 0 n s] w fun e w' => e = .returned (.bool false) ∧ Below w.heap.size w w' := by
  go_enter Tryz.func102, Tryz.ntmps102
  go_wp2_with fail
  go_region_with (first | (go_at_call 106; refine (null_any _).mono ?_; rintro e w1 ⟨rfl, rfl⟩))
  all_goals go_wp2
  all_goals go_ret
  all_goals exact ⟨rfl, below_two _ _ _⟩
set_option maxHeartbeats 400000 in
theorem right_null2 (s : ByteArray) (w : World) (hs : (s.toList == []) = false) : Calls Tryz.prog 102 #[valV 0 0 s] w fun e w' => e = .returned (.bool false) ∧ Below w.heap.size w w' := by
  go_enter Tryz.func102, Tryz.ntmps102
  go_wp2_with fail
  go_region_with (first | (go_at_call 106; refine (null_any _).mono ?_; rintro e w1 ⟨rfl, rfl⟩))
  all_goals go_wp2
  all_goals go_ret
  all_goals exact ⟨rfl, below_two _ _ _⟩
set_option maxHeartbeats 400000 in
theorem right_bool0 (w : World) : Calls Tryz.prog 102 #[valV 1 0 ⟨#[]⟩] w fun e w' => e = .returned (.bool true) ∧ Below w.heap.size w w' := by
  go_enter Tryz.func102, Tryz.ntmps102
  go_wp2_with fail
  go_region_with (first | (go_at_call 107; refine (bool_any _ _).mono ?_; rintro e w1 ⟨rfl, rfl⟩))
  all_goals go_wp2
  all_goals go_ret
  all_goals exact ⟨rfl, below_two _ _ _⟩
set_option maxHeartbeats 400000 in
theorem right_bool1 (w : World) : Calls Tryz.prog 102 #[valV 1 1 ⟨#[]⟩] w fun e w' => e = .returned (.bool true) ∧ Below w.heap.size w w' := by
  go_enter Tryz.func102, Tryz.ntmps102
  go_wp2_with fail
  go_region_with (first | (go_at_call 107; refine (bool_any _ _).mono ?_; rintro e w1 ⟨rfl, rfl⟩))
  all_goals go_wp2
  all_goals go_ret
  all_goals exact ⟨rfl, below_two _ _ _⟩
set_option maxHeartbeats 400000 in
theorem right_bool2 (s : ByteArray) (w : World) (hs : (s.toList == []) = false) : Calls Tryz.prog 102 #[valV 1 0 s] w fun e w' => e = .returned (.bool false) ∧ Below w.heap.size w w' := by
  go_enter Tryz.func102, Tryz.ntmps102
  go_wp2_with fail
  go_region_with (first | (go_at_call 107; refine (bool_any _ _).mono ?_; rintro e w1 ⟨rfl, rfl⟩))
  all_goals go_wp2
  all_goals go_ret
  all_goals exact ⟨rfl, below_two _ _ _⟩
set_option maxHeartbeats 400000 in
theorem right_bool3 (s : ByteArray) (w : World) (hs : (s.toList == []) = false) : Calls Tryz.prog 102 #[valV 1 1 s] w fun e w' => e = .returned (.bool false) ∧ Below w.heap.size w w' := by
  go_enter Tryz.func102, Tryz.ntmps102
  go_wp2_with fail
  go_region_with (first | (go_at_call 107; refine (bool_any _ _).mono ?_; rintro e w1 ⟨rfl, rfl⟩))
  all_goals go_wp2
  all_goals go_ret
  all_goals exact ⟨rfl, below_two _ _ _⟩
set_option maxHeartbeats 400000 in
theorem right_bool4 (n : Int) (s : ByteArray) (w : World) (hn : (n == 0) = false) (h1 : (n == 1) = false) : Calls Tryz.prog 102 #[valV 1 n s] w fun e w' => e = .returned (.bool false) ∧ Below w.heap.size w w' := by
  go_enter Tryz.func102, Tryz.ntmps102
  go_wp2_with fail
  go_region_with (first | (go_at_call 107; refine (bool_any _ _).mono ?_; rintro e w1 ⟨rfl, rfl⟩))
  all_goals go_wp2
  all_goals go_ret
  all_goals exact ⟨rfl, below_two _ _ _⟩
set_option maxHeartbeats 400000 in
theorem right_int0 (n : Int) (w : World) : Calls Tryz.prog 102 #[valV 2 n ⟨#[]⟩] w fun e w' => e = .returned (.bool true) ∧ Below w.heap.size w w' := by
  go_enter Tryz.func102, Tryz.ntmps102
  go_wp2_with fail
  go_region_with (first | (go_at_call 108; refine (int_any _ _).mono ?_; rintro e w1 ⟨rfl, rfl⟩))
  all_goals go_wp2
  all_goals go_ret
  all_goals exact ⟨rfl, below_two _ _ _⟩
set_option maxHeartbeats 400000 in
theorem right_int1 (n : Int) (s : ByteArray) (w : World) (hs : (s.toList == []) = false) : Calls Tryz.prog 102 #[valV 2 n s] w fun e w' => e = .returned (.bool false) ∧ Below w.heap.size w w' := by
  go_enter Tryz.func102, Tryz.ntmps102
  go_wp2_with fail
  go_region_with (first | (go_at_call 108; refine (int_any _ _).mono ?_; rintro e w1 ⟨rfl, rfl⟩))
  all_goals go_wp2
  all_goals go_ret
  all_goals exact ⟨rfl, below_two _ _ _⟩
end Go.Proofs.YtfnfegcjgnbgbaaGreatDoor
