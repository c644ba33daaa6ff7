/-
  Rows of notes as lists of pairs; able.Notes' closure, slices.IndexFunc and slices.DeleteFunc over notes.
  able.Notes.
  Each note's way leads to a part: haruspexref22.At; the statements' awake.
  AbleNotes' walk.
  Of what came in: cells of small types, and values.
-/
import Derived.Test.YtfnfegcjgnbgbaaDoorNFirstsMap
import Derived.Test.YtfnfegcjgnbgbaaDoorNHeldIn
import Derived.Test.YtfnfegcjgnbgbaaDoorNTxt
import Derived.Test.YtfnfegcjgnbgbaaDoorNRangeBox
import Derived.Test.YtfnfegcjgnbgbaaDoorNPatRefAt
import Derived.Laws.IdiomCopy
import Derived.Lib.SliceRun
import Derived.Laws.OwnMore
import Derived.Deep.Strs
namespace Go.Proofs.YtfnfegcjgnbgbaaDoor
open Go.RowKit Go.Shelf
attribute [local go_sem] Oper.semAt_some

/-- A note as it lies: its way's row, and what it is. -/
abbrev Pn := Value × Nt
def rowN : List Pn → List Value
  | [] => []
  | p :: l => p.1 :: .int .i64 p.2.2 :: rowN l
theorem rowN_len : ∀ l : List Pn, (rowN l).length = l.length * 2
  | [] => rfl
  | p :: l => by simp only [rowN, List.length_cons]; rw [rowN_len l]; omega
theorem rowN_take : ∀ (l : List Pn) (k : Nat), (rowN l).take (k * 2) = rowN (l.take k)
  | [], k => by simp [rowN]
  | p :: l, 0 => by simp [rowN]
  | p :: l, k + 1 => by
    rw [show (k + 1) * 2 = k * 2 + 1 + 1 by omega]
    simp only [rowN, List.take_succ_cons]
    rw [rowN_take l k]
theorem rowN_at : ∀ (l : List Pn) (k : Nat) (p : Pn), l[k]? = some p → (rowN l)[k * 2]? = some p.1 ∧ (rowN l)[k * 2 + 1]? = some (.int .i64 p.2.2)
  | [], k, p, h => by simp at h
  | q :: l, 0, p, h => by simp at h; subst h; simp [rowN]
  | q :: l, k + 1, p, h => by
    have := rowN_at l k p (by simpa using h)
    rw [show (k + 1) * 2 = k * 2 + 1 + 1 by omega, show k * 2 + 1 + 1 + 1 = (k * 2 + 1) + 1 + 1 by omega]
    simpa [rowN] using this
theorem rowN_set : ∀ (l : List Pn) (k : Nat) (p : Pn), rowN (l.set k p) = ((rowN l).set (k * 2) p.1).set (k * 2 + 1) (.int .i64 p.2.2)
  | [], k, p => by simp [rowN]
  | q :: l, 0, p => by simp [rowN]
  | q :: l, k + 1, p => by
    rw [show (k + 1) * 2 = k * 2 + 1 + 1 by omega, show k * 2 + 1 + 1 + 1 = (k * 2 + 1) + 1 + 1 by omega]
    simp only [List.set_cons_succ, rowN]
    rw [rowN_set l k p]
theorem ntCells_pairs : ∀ P : List Pn, ntCells (P.map (·.1)) (P.map (·.2)) = rowN P
  | [] => rfl
  | p :: P => by simp only [List.map_cons, ntCells, rowN]; rw [ntCells_pairs P]
/-- A row of notes. -/
structure NtP (W : World) (base : Nat) (K : Nat → Prop) (v : Value) (P : List Pn) : Prop where
  row : W.ownsRow base 38 2 v P.length (rowN P)
  way : ∀ p ∈ P, Wy W base p.1 p.2.1 ∧ ∀ k, p.1.ownBlock = some k → K k
theorem Nts.pairs {W : World} {base : Nat} {K : Nat → Prop} {v : Value} {L : List Nt} {us : List Value} (h : Nts W base K v L us) : ∃ P : List Pn, P.map (·.2) = L ∧ NtP W base K v P := by
  refine ⟨us.zip L, by rw [List.map_snd_zip (by rw [h.len]; exact Nat.le_refl _)], ?_, ?_⟩
  · have e : ntCells us L = rowN (us.zip L) := by
      have := ntCells_pairs (us.zip L)
      rwa [List.map_snd_zip (by rw [h.len]; exact Nat.le_refl _), List.map_fst_zip (by rw [h.len]; exact Nat.le_refl _)] at this
    rw [← e, show (us.zip L).length = L.length by rw [List.length_zip, h.len]; omega]
    exact h.row
  · rintro ⟨u, n⟩ hp
    obtain ⟨j, hj⟩ := List.getElem?_of_mem hp
    rw [List.getElem?_zip_eq_some] at hj
    exact h.way j u n hj.1 hj.2
theorem NtP.nts {W : World} {base : Nat} {K : Nat → Prop} {v : Value} {P : List Pn} (h : NtP W base K v P) : Nts W base K v (P.map (·.2)) (P.map (·.1)) := by
  refine ⟨by simp, by rw [ntCells_pairs, List.length_map]; exact h.row, fun j u n hu hn => ?_⟩
  rw [List.getElem?_map, Option.map_eq_some_iff] at hu hn
  obtain ⟨p, hp, rfl⟩ := hu
  obtain ⟨p', hp', rfl⟩ := hn
  rw [hp] at hp'
  cases hp'
  exact h.way p (List.mem_of_getElem? hp)
theorem NtP.later {W W' : World} {base : Nat} {K : Nat → Prop} {v : Value} {P : List Pn} (h : NtP W base K v P) (hB : Below W.heap.size W W') : NtP W' base K v P :=
  ⟨own_same h.row fun k _ _ hc => (hB.block k (heap_lt hc)).trans hc, fun p hp => ⟨(h.way p hp).1.same fun k _ _ hc => (hB.block k (heap_lt hc)).trans hc, (h.way p hp).2⟩⟩
/-- Where a note lies. -/
theorem NtP.at {W : World} {base : Nat} {K : Nat → Prop} {a : Option Addr} {n cap : Nat} {P : List Pn} (h : NtP W base K (.slice a n cap) P) {k : Nat} {p : Pn} (hk : P[k]? = some p) :
    ∃ g va vm vc, a = some ⟨g, 0, none⟩ ∧ n = P.length ∧ P.length ≤ cap ∧ cap ≤ maxLen ∧ base ≤ g ∧ p.1 = .slice va vm vc ∧ W.cell? ⟨g, k * 2, none⟩ = some (.slice va vm vc) ∧ W.cell? ⟨g, k * 2 + 1, none⟩ = some (.int .i64 p.2.2) := by
  have hlt := (List.getElem?_eq_some_iff.1 hk).1
  rcases h.row.2 with ⟨e, e0⟩ | ⟨g, cap', cur, e, h1, h2, h3, h4, h5, h6⟩
  · omega
  · injection e with e1 e2 e3
    subst e1 e3
    obtain ⟨va, vc, hv, -⟩ := ((h.way p (List.mem_of_getElem? hk)).1).shape
    obtain ⟨c1, c2⟩ := rowN_at P k p hk
    have q : ∀ j u, (rowN P)[j]? = some u → W.cell? ⟨g, j, none⟩ = some u := fun j u hu => by
      rw [cell_heap h2]
      rw [← h6, List.getElem?_take] at hu
      split at hu
      · simpa using hu
      · cases hu
    exact ⟨g, va, _, vc, rfl, e2, h3, h4, h1, hv, by rw [← hv]; exact q _ _ c1, q _ _ c2⟩
/-- The closure of able.Notes: is it left out? -/
abbrev delV (db : Nat) : Value := .func (.func 12) #[] #[.pointer (some ⟨db, 0, none⟩)]
set_option maxHeartbeats 1000000 in
theorem del_any (va : Option Addr) (vm vc : Nat) (z d : Int) (db : Nat) (W : World) (hd : Boxed W db 3 (.int .i64 d)) (hT : AbT W) :
    Calls Tryd.prog 12 #[.agg #[.slice va vm vc, .int .i64 z], .pointer (some ⟨db, 0, none⟩)] W fun e W' => e = .returned (.bool (!lacksB d z)) ∧ Below W.heap.size W W' := by
  obtain ⟨A, hA⟩ : ∃ A, W.alloc (.cells #[.slice va vm vc, .int .i64 z] 38) = A := ⟨_, rfl⟩
  have hB : Below W.heap.size W A := by rw [← hA]; exact (Below.refl _ W).alloc (Nat.le_refl _) _
  have c1 := (Boxed.kept_of hd hB hd.lt).cell
  have hn : A.heap[W.heap.size]? = some (.cells #[.slice va vm vc, .int .i64 z] 38 (0, 0)) := by rw [← hA]; exact alloc_new _ _
  have n0 : A.cell? ⟨W.heap.size, 0, none⟩ = some (.slice va vm vc) := by rw [cell_heap hn]; rfl
  have n1 : A.cell? ⟨W.heap.size, 1, none⟩ = some (.int .i64 z) := by rw [cell_heap hn]; rfl
  have hl := lacks_any d z A (hT.later hB)
  have HB : Hid (Below W.heap.size W A) := hB
  obtain ⟨b, hb⟩ : ∃ b, b = lacksB d z := ⟨_, rfl⟩
  rw [← hb] at hl ⊢
  clear hd hT hB hn hb
  subst hA
  go_enter Tryd.func12, Tryd.ntmps12
  go_wp2_with (go_at_call 8; refine hl.mono ?_; clear hl; rintro e w1 ⟨rfl, rfl⟩)
  go_ret
  exact ⟨rfl, HB.out⟩
/-- Is it kept? -/
abbrev keepN (d : Int) (p : Pn) : Bool := lacksB d p.2.2
set_option maxRecDepth 100000 in
set_option maxHeartbeats 4000000 in
theorem index_any (a : Option Addr) (n cap : Nat) (P : List Pn) (base : Nat) (K : Nat → Prop) (d : Int) (db : Nat) (W : World) (hP : NtP W base K (.slice a n cap) P) (hd : Boxed W db 3 (.int .i64 d)) (hT : AbT W) :
    Calls Tryd.prog 22 #[.slice a n cap, delV db] W fun e W' => Below W.heap.size W W' ∧
      ((e = .returned (.int .i64 (-1)) ∧ P.filter (keepN d) = P) ∨ ∃ i, i < n ∧ e = .returned (.int .i64 i) ∧ (P.take i).filter (keepN d) = P.take i ∧ ∃ p, P[i]? = some p ∧ keepN d p = false) := by
  have hn : n = P.length ∧ n ≤ 9223372036854775807 := by
    rcases hP.row.2 with ⟨e, e0⟩ | ⟨g, cap', cur, e, h1, h2, h3, h4, h5, h6⟩
    · cases e; exact ⟨e0.symm, by omega⟩
    · cases e; exact ⟨rfl, by simp only [maxLen] at h4; omega⟩
  obtain ⟨hnl, hn8⟩ := hn
  have HP : Hid (NtP W base K (.slice a n cap) P ∧ Boxed W db 3 (.int .i64 d) ∧ AbT W ∧ n = P.length) := ⟨hP, hd, hT, hnl⟩
  clear hP hd hT hnl
  go_enter Tryd.func22, Tryd.ntmps22
  go_wp2_with fail
  go_loopw [8] (fun u wr => ∃ i : Nat, i ≤ n ∧ u = .int .i64 i ∧ Below W.heap.size W wr ∧ Hid ((P.take i).filter (keepN d) = P.take i)) (fun u _ => n - (intOf u).toNat)
  case atStart => exact ⟨0, Nat.zero_le _, rfl, Below.refl _ _, by show ([] : List Pn).filter _ = _; rfl⟩
  case round =>
    obtain ⟨i, hi, rfl, hB, hk⟩ := hrel
    by_cases hin : i < n
    · have hnl := HP.out.2.2.2
      obtain ⟨p, hp⟩ : ∃ p, P[i]? = some p := ⟨_, List.getElem?_eq_getElem (by omega)⟩
      obtain ⟨g, va, vm, vc, rfl, -, -, -, -, hv, c0, c1⟩ := (HP.out.1.later hB).at hp
      have hc := del_any va vm vc p.2.2 d db wr (Boxed.kept_of HP.out.2.1 hB HP.out.2.1.lt) (HP.out.2.2.1.later hB)
      have HIN : Hid (i < n ∧ P[i]? = some p) := ⟨hin, hp⟩
      obtain ⟨z, hz⟩ : ∃ z, z = p.2.2 := ⟨_, rfl⟩
      rw [← hz] at hc c1
      obtain ⟨b, hb⟩ : ∃ b, b = lacksB d z := ⟨_, rfl⟩
      have HB : Hid (b = keepN d p) := by rw [hb, hz]; rfl
      rw [← hb] at hc
      clear hb hz hnl hp hv
      cases b
      · go_wp2_with (go_at_call 12; refine hc.mono ?_; clear hc; rintro e w1 ⟨rfl, hB1⟩)
        go_ret
        exact ⟨hB.trans (hB1.mono hB.size), .inr ⟨i, HIN.out.1, rfl, hk.out, p, HIN.out.2, HB.out.symm⟩⟩
      · go_wp2_with (go_at_call 12; refine hc.mono ?_; clear hc; rintro e w1 ⟨rfl, hB1⟩)
        go_roundw
        case rel =>
          refine ⟨i + 1, HIN.out.1, by go_num, hB.trans (hB1.mono hB.size), ?_⟩
          show (P.take (i + 1)).filter (keepN d) = P.take (i + 1)
          rw [List.take_add_one, HIN.out.2, List.filter_append, hk.out]
          simp [← HB.out]
        case measure => have := HIN.out.1; simp [intOf]; omega
    · obtain rfl : i = n := by omega
      go_wp2
      go_ret
      refine ⟨hB, .inl ⟨rfl, ?_⟩⟩
      have := hk.out
      rwa [HP.out.2.2.2, List.take_length] at this
theorem own_cut22 {w : World} {base e size g n cap K : Nat} {xs : List Value} (h : w.ownsRow base e size (.slice (some ⟨g, 0, none⟩) n cap) n xs) (hK : K ≤ n) : w.ownsRow base e size (.slice (some ⟨g, 0, none⟩) K cap) K (xs.take (K * size)) := by
  have hm : K * size ≤ n * size := Nat.mul_le_mul_right _ hK
  refine ⟨by rw [List.length_take, h.1]; omega, ?_⟩
  rcases h.2 with ⟨h', _⟩ | ⟨g', cap', cur, h', hb, hg, hnc, hcm, hcs, ht⟩
  · cases h'
  · cases h'
    exact .inr ⟨g, cap, cur, rfl, hb, hg, by omega, hcm, hcs, by rw [← ht, List.take_take, Nat.min_eq_left hm]⟩
/-- What is written behind it leaves it. -/
theorem own_setCells22 {base e size g K cap : Nat} {ys : List Value} : ∀ (vs : List Value) (o : Nat) (w : World), w.ownsRow base e size (.slice (some ⟨g, 0, none⟩) K cap) K ys → K * size ≤ o → (w.setCells g o vs).ownsRow base e size (.slice (some ⟨g, 0, none⟩) K cap) K ys
  | [], _, _, h, _ => h
  | v :: vs, o, w, h, ho => by
    have := (h.stored o v).1
    rw [List.set_eq_of_length_le (by rw [h.1]; exact ho)] at this
    exact own_setCells22 vs (o + 1) _ this (by omega)
theorem below_setCells22 {B g : Nat} {a : World} (hb : B ≤ g) : ∀ (vs : List Value) (o : Nat) (w : World), Below B a w → Below B a (w.setCells g o vs)
  | [], _, _, h => h
  | v :: vs, o, _, h => below_setCells22 hb vs (o + 1) _ (h.setCell (p := ⟨g, o, none⟩) hb v)
/-- clear of n > 0 elements of some cells each. -/
theorem run_clear22 {P : Program} (w : World) (t e ty : TypeId) (z : Value) (ht : P.underlying t = some (.slice e)) (hv : ∀ w, (zeroValue e).run P w = .ok z w) (h1 : ∀ u ∈ z.cells, u.oneCell' = true) (hz : 0 < z.cells.size) (b o n c : Nat) (hn : 0 < n)
    (hc : ∀ j, j < n * z.cells.size → (w.cell? ⟨b, o + j, none⟩).isSome = true) (hf : ∀ j, j < n * z.cells.size → w.frozen? ⟨b, o + j, none⟩ = false) :
    (Builtin.clear_ #[t] ty #[.slice (some ⟨b, o, none⟩) n c]).run P w = .ok (.tuple #[]) (w.setCells b o (Builtin.zeroCells z.cells n).toList) := by
  have hlen : (Builtin.zeroCells z.cells n).toList.length = n * z.cells.size := by simp [Builtin.zeroCells]
  have hst := run_storeCells_cells (P := P) b o (Builtin.zeroCells z.cells n).toList 0 w (by simpa [hlen] using hc) (by simpa [hlen] using hf) (by
    intro v hv'
    simp only [Builtin.zeroCells, Array.toList_map, List.mem_map] at hv'
    obtain ⟨i, _, rfl⟩ := hv'
    have hi : i % z.cells.size < z.cells.size := Nat.mod_lt _ hz
    rw [getElem!_pos z.cells _ hi]
    exact h1 _ (Array.getElem_mem hi))
  simp only [Nat.add_zero] at hst
  obtain ⟨m, rfl⟩ : ∃ m, n = m + 1 := ⟨n - 1, by omega⟩
  simp [Builtin.clear_, run_underlying ht, hv, hst]
/-- How far the row has come: the first K are what is kept of the first p; from p on all is as it was. -/
structure DelInv (f : Pn → Bool) (P M : List Pn) (p K : Nat) : Prop where
  len : M.length = P.length
  lo : M.take K = (P.take p).filter f
  lt : K < p
  le : p ≤ P.length
  hi : ∀ j, p ≤ j → M[j]? = P[j]?
  mem : ∀ x ∈ M, x ∈ P
theorem DelInv.start {f : Pn → Bool} {P : List Pn} {i : Nat} {x : Pn} (hx : P[i]? = some x) (hf : f x = false) (h : (P.take i).filter f = P.take i) : DelInv f P P (i + 1) i :=
  ⟨rfl, by rw [List.take_add_one, hx, List.filter_append, h]; simp [hf], by omega, (List.getElem?_eq_some_iff.1 hx).1, fun _ _ => rfl, fun _ h => h⟩
theorem DelInv.skip {f : Pn → Bool} {P M : List Pn} {p K : Nat} {x : Pn} (h : DelInv f P M p K) (hx : P[p]? = some x) (hf : f x = false) : DelInv f P M (p + 1) K :=
  ⟨h.len, by rw [List.take_add_one, hx, List.filter_append, h.lo]; simp [hf], by have := h.lt; omega, (List.getElem?_eq_some_iff.1 hx).1, fun j hj => h.hi j (by omega), h.mem⟩
theorem DelInv.keep {f : Pn → Bool} {P M : List Pn} {p K : Nat} {x : Pn} (h : DelInv f P M p K) (hx : P[p]? = some x) (hf : f x = true) : DelInv f P (M.set K x) (p + 1) (K + 1) := by
  have hp := (List.getElem?_eq_some_iff.1 hx).1
  have hl := h.len
  have ht := h.lt
  refine ⟨by simp [hl], ?_, by omega, hp, fun j hj => ?_, fun y hy => ?_⟩
  · rw [List.take_add_one (l := P), hx, List.filter_append, ← h.lo, List.take_add_one, List.getElem?_set_self (by omega), List.take_set_of_le (Nat.le_refl _)]
    simp [hf]
  · rw [List.getElem?_set_ne (by omega)]
    exact h.hi j (by omega)
  · rcases List.mem_or_eq_of_mem_set hy with hy | rfl
    · exact h.mem y hy
    · exact List.mem_of_getElem? hx
theorem own_setN {W : World} {base g n cap K : Nat} {Kp : Nat → Prop} {M : List Pn} {x : Pn} (h : NtP W base Kp (.slice (some ⟨g, 0, none⟩) n cap) M) (hn : n = M.length) (hx : Wy W base x.1 x.2.1 ∧ ∀ k, x.1.ownBlock = some k → Kp k) (hb : base ≤ g) :
    ∃ V, (W.setCell ⟨g, K * 2, none⟩ x.1).setCell ⟨g, K * 2 + 1, none⟩ (.int .i64 x.2.2) = V ∧ NtP V base Kp (.slice (some ⟨g, 0, none⟩) n cap) (M.set K x) ∧ Below base W V := by
  have o0 := h.row
  rw [← hn] at o0
  have o1 := (o0.stored (K * 2) x.1).1
  have o2 := (o1.stored (K * 2 + 1) (.int .i64 x.2.2)).1
  have hc : ∀ (k : Nat) (c : Array Value), W.heap[k]? = some (.cells c 3 (0, 0)) → ((W.setCell ⟨g, K * 2, none⟩ x.1).setCell ⟨g, K * 2 + 1, none⟩ (.int .i64 x.2.2)).heap[k]? = some (.cells c 3 (0, 0)) := fun k c hc => by
    have hk : k ≠ g := fun e => by
      subst e
      rcases h.row.2 with ⟨e, e0⟩ | ⟨g', cap', cur, e, h1, h2, h3⟩
      · cases e
      · cases e
        rw [hc] at h2
        simp at h2
    exact (Below.heap_setCell _ ⟨g, K * 2 + 1, none⟩ _ k hk).trans ((Below.heap_setCell _ ⟨g, K * 2, none⟩ _ k hk).trans hc)
  refine ⟨_, rfl, ⟨?_, fun p hp => ?_⟩, ((Below.refl _ W).setCell (p := ⟨g, K * 2, none⟩) hb _).setCell (p := ⟨g, K * 2 + 1, none⟩) hb _⟩
  · rw [rowN_set, List.length_set, ← hn]
    exact o2
  · have hq : Wy W base p.1 p.2.1 ∧ ∀ k, p.1.ownBlock = some k → Kp k := by
      rcases List.mem_or_eq_of_mem_set hp with hp | rfl
      · exact h.way p hp
      · exact hx
    exact ⟨hq.1.same fun k c _ hk => hc k c hk, hq.2⟩
theorem setCells_other {g q : Nat} : ∀ (vs : List Value) (o : Nat) (w : World), q ≠ g → (w.setCells g o vs).heap[q]? = w.heap[q]?
  | [], _, _, _ => rfl
  | v :: vs, o, w, h => (setCells_other vs (o + 1) _ h).trans (Below.heap_setCell w ⟨g, o, none⟩ v q h)
theorem zeroNt (w : World) : (zeroValue 38).run Tryd.prog w = .ok (.agg #[.slice none 0 0, .int .i64 0]) w := by kernel_rfl
set_option maxRecDepth 100000 in
set_option maxHeartbeats 8000000 in
theorem delete_any (a : Option Addr) (n cap : Nat) (P : List Pn) (base : Nat) (K : Nat → Prop) (d : Int) (db : Nat) (W : World) (hP : NtP W base K (.slice a n cap) P) (hd : Boxed W db 3 (.int .i64 d)) (hT : AbT W) (hb : base ≤ W.heap.size) (hdb : db < base) (hTb : ∀ d, Below base W d → AbT d) :
    Calls Tryd.prog 11 #[.slice a n cap, delV db] W fun e W' => ∃ cap', e = .returned (.slice a (P.filter (keepN d)).length cap') ∧ NtP W' base K (.slice a (P.filter (keepN d)).length cap') (P.filter (keepN d)) ∧ Below base W W' := by
  have hc0 := index_any a n cap P base K d db W hP hd hT
  have hn : n = P.length ∧ n ≤ 9223372036854775807 := by
    rcases hP.row.2 with ⟨e, e0⟩ | ⟨g, cap', cur, e, h1, h2, h3, h4, h5, h6⟩
    · cases e; exact ⟨e0.symm, by omega⟩
    · cases e; exact ⟨rfl, by simp only [maxLen] at h4; omega⟩
  obtain ⟨hnl, hn8⟩ := hn
  have HP : Hid (NtP W base K (.slice a n cap) P ∧ Boxed W db 3 (.int .i64 d) ∧ n = P.length ∧ base ≤ W.heap.size ∧ db < base ∧ ∀ d, Below base W d → AbT d) := ⟨hP, hd, hnl, hb, hdb, hTb⟩
  clear hP hd hT hnl hb hdb hTb
  go_enter Tryd.func11, Tryd.ntmps11
  go_wp2_with (go_at_call 22; refine hc0.mono ?_; clear hc0; rintro e w1 ⟨hB1, (⟨rfl, hall⟩ | ⟨i, hi, rfl, hpre, x, hx, hf⟩)⟩; all_goals (try (have hi1 : (((i : Nat) : Int) == -1) = false := (by rw [Bool.eq_false_iff]; simp only [ne_eq, beq_iff_eq]; omega))))
  · go_ret
    have e1 : P.filter (keepN d) = P := hall
    refine ⟨cap, ?_, ?_, hB1.mono HP.out.2.2.2.1⟩
    · rw [e1, ← HP.out.2.2.1]
      rfl
    · rw [e1, ← HP.out.2.2.1]
      exact HP.out.1.later hB1
  · obtain ⟨g, va0, vm0, vc0, rfl, -, hcapn, hcap8, hbg, -, -, -⟩ := HP.out.1.at hx
    have HI0 : Hid (DelInv (keepN d) P P (i + 1) i) := DelInv.start hx hf hpre
    have HN0 : Hid (NtP w1 base K (.slice (some ⟨g, 0, none⟩) n cap) P) := HP.out.1.later hB1
    have hB10 : Below base W w1 := hB1.mono HP.out.2.2.2.1
    have HBG : Hid (base ≤ g ∧ n ≤ cap) := ⟨hbg, by rw [HP.out.2.2.1]; exact hcapn⟩
    have hcc : n ≤ cap := by rw [HP.out.2.2.1]; exact hcapn
    have hcap9 : cap ≤ 9223372036854775807 := by simp only [maxLen] at hcap8; omega
    clear hpre hx hf hB1 hcapn hbg hcap8
    go_loopw [5, 6] (fun u v wr => ∃ (k p : Nat) (M : List Pn), u = .int .i64 k ∧ v = .int .i64 p ∧ p ≤ n ∧ k ≤ n ∧ Hid (DelInv (keepN d) P M p k) ∧ Hid (NtP wr base K (.slice (some ⟨g, 0, none⟩) n cap) M) ∧ Below base W wr) (fun _ v _ => n - (intOf v).toNat)
    case atStart => exact ⟨i, i + 1, P, rfl, by go_num, by omega, by omega, HI0, HN0, hB10⟩
    case round =>
      clear HI0 HN0 hB10
      obtain ⟨k, p, M, rfl, rfl, hp, hk, HI, HN, hB⟩ := hrel
      have hkn : k < n := by have := HI.out.lt; omega
      have hck : ¬ cap = k := by omega
      have hML : M.length = n := HI.out.len.trans HP.out.2.2.1.symm
      by_cases hpn : p < n
      · have hnl := HP.out.2.2.1
        obtain ⟨x, hx⟩ : ∃ x, P[p]? = some x := ⟨_, List.getElem?_eq_getElem (by omega)⟩
        have hxM : M[p]? = some x := (HI.out.hi p (Nat.le_refl _)).trans hx
        obtain ⟨g', va, vm, vc, eg, -, -, -, -, hv, c0, c1⟩ := HN.out.at hxM
        obtain rfl : g = g' := by cases eg; rfl
        obtain ⟨z, hz⟩ : ∃ z, z = x.2.2 := ⟨_, rfl⟩
        rw [← hz] at c1
        have hBz : Below wr.heap.size wr (wr.alloc (.cells #[.slice va vm vc, .int .i64 z] 38)) := (Below.refl _ _).alloc (Nat.le_refl _) _
        have hsz : base ≤ wr.heap.size := Nat.le_trans HP.out.2.2.2.1 hB.size
        have hBd := hB.trans (hBz.mono hsz)
        have hdr : Boxed wr db 3 (.int .i64 d) := Boxed.kept_of HP.out.2.1 hB HP.out.2.2.2.2.1
        have hc := del_any va vm vc z d db _ (Boxed.kept_of hdr hBz hdr.lt) (HP.out.2.2.2.2.2 _ hBd)
        have HX : Hid (p < n ∧ P[p]? = some x ∧ x.1 = .slice va vm vc ∧ z = x.2.2 ∧ M[p]? = some x) := ⟨hpn, hx, hv, hz, hxM⟩
        have HKN : Hid (k < n ∧ base ≤ wr.heap.size) := ⟨hkn, hsz⟩
        have HBz : Hid (Below wr.heap.size wr (wr.alloc (.cells #[.slice va vm vc, .int .i64 z] 38))) := hBz
        have nz : (wr.alloc (.cells #[.slice va vm vc, .int .i64 z] 38)).heap[wr.heap.size]? = some (.cells #[.slice va vm vc, .int .i64 z] 38 (0, 0)) := alloc_new _ _
        have b0 : (wr.alloc (.cells #[.slice va vm vc, .int .i64 z] 38)).cell? ⟨wr.heap.size, 0, none⟩ = some (.slice va vm vc) := by rw [cell_heap nz]; rfl
        have b1 : (wr.alloc (.cells #[.slice va vm vc, .int .i64 z] 38)).cell? ⟨wr.heap.size, 1, none⟩ = some (.int .i64 z) := by rw [cell_heap nz]; rfl
        have HML : Hid (M.length = n) := hML
        obtain ⟨b, hb⟩ : ∃ b, b = lacksB d z := ⟨_, rfl⟩
        have HB : Hid (b = keepN d x) := by rw [hb, hz]; rfl
        rw [← hb] at hc
        clear hb hz hnl hx hv hxM eg hBd hdr hBz hsz nz hML
        cases b
        · go_wp2_with (go_at_call 12; refine hc.mono ?_; clear hc; rintro e w2 ⟨rfl, hB2⟩)
          have HI2 : Hid (DelInv (keepN d) P M (p + 1) k) := HI.out.skip HX.out.2.1 HB.out.symm
          go_roundw
          case rel => exact ⟨k, p + 1, M, rfl, by go_num, HX.out.1, hk, HI2, (HN.out.later HBz.out).later hB2, (hB.trans (HBz.out.mono HKN.out.2)).trans (hB2.mono (Nat.le_trans HKN.out.2 HBz.out.size))⟩
          case measure => have := HX.out.1; simp [intOf]; omega
        · go_wp2_with (go_at_call 12; refine hc.mono ?_; clear hc; rintro e w2 ⟨rfl, hB2⟩; have hN2 := (HN.out.later HBz.out).later hB2; obtain ⟨y, hy⟩ : (∃ y, M[k]? = some y) := ⟨_, List.getElem?_eq_getElem (by rw [HML.out]; exact HKN.out.1)⟩; obtain ⟨g', va', vm', vc', eg, -, -, -, -, -, d0, d1⟩ := hN2.at hy; obtain rfl : g = g' := (by cases eg; rfl); have e0 := cell_later b0 hB2; have e1 := cell_later b1 hB2; have f0 := (show w2.ownsRow base 38 2 (.slice (some ⟨g, 0, none⟩) M.length cap) M.length (rowN M) from (by have := hN2.row; rw [HML.out] at this ⊢; exact this)).frozenAt (k * 2); have f1 := (show w2.ownsRow base 38 2 (.slice (some ⟨g, 0, none⟩) M.length cap) M.length (rowN M) from (by have := hN2.row; rw [HML.out] at this ⊢; exact this)).frozenAt (k * 2 + 1); clear hy eg hN2 c0 c1 b0 b1)
          have hN2 := (HN.out.later HBz.out).later hB2
          obtain ⟨V, hV, NV, BV⟩ := own_setN (K := k) hN2 HML.out.symm (hN2.way x (List.mem_of_getElem? HX.out.2.2.2.2)) HBG.out.1
          rw [HX.out.2.2.1, ← HX.out.2.2.2.1] at hV
          have HI2 : Hid (DelInv (keepN d) P (M.set k x) (p + 1) (k + 1)) := HI.out.keep HX.out.2.1 HB.out.symm
          have hB2' : Below base W w2 := (hB.trans (HBz.out.mono HKN.out.2)).trans (hB2.mono (Nat.le_trans HKN.out.2 HBz.out.size))
          rw [hV]
          go_roundw
          case rel => exact ⟨k + 1, p + 1, M.set k x, by go_num, by go_num, HX.out.1, HKN.out.1, HI2, NV, hB2'.trans BV⟩
          case measure => have := HX.out.1; simp [intOf]; omega
      · obtain rfl : p = n := by omega
        have e : M.take k = P.filter (keepN d) := by have := HI.out.lo; rwa [HP.out.2.2.1, List.take_length] at this
        have ekl : k = (P.filter (keepN d)).length := by rw [← e, List.length_take, hML]; omega
        have hrow : wr.ownsRow base 38 2 (.slice (some ⟨g, 0, none⟩) p cap) p (rowN M) := by have := HN.out.row; rw [hML] at this; exact this
        have hsz2 : (.agg #[.slice none 0 0, .int .i64 0] : Value).cells.size = 2 := rfl
        obtain ⟨zs, hzs⟩ : ∃ zs, zs = (Builtin.zeroCells (.agg #[.slice none 0 0, .int .i64 0] : Value).cells (p - k)).toList := ⟨_, rfl⟩
        have hcl : ∀ ty, (Builtin.clear_ #[29] ty #[.slice (some ⟨g, k * 2, none⟩) (p - k) (cap - k)]).run Tryd.prog wr = .ok (.tuple #[]) (wr.setCells g (k * 2) zs) := fun ty => by
          rw [hzs]
          refine run_clear22 wr 29 38 ty (.agg #[.slice none 0 0, .int .i64 0]) Tryd.underlying29 zeroNt (by simp [Value.cells, Value.oneCell']) (by simp [Value.cells]) g (k * 2) (p - k) (cap - k) (by omega) (fun j2 hj2 => ?_) (fun j2 _ => hrow.frozenAt _)
          rw [hsz2] at hj2
          rw [hrow.cellAt _ (by omega), List.getElem?_eq_getElem (by rw [rowN_len, hML]; omega)]
          rfl
        have hfin : Hid (NtP (wr.setCells g (k * 2) zs) base K (.slice (some ⟨g, 0, none⟩) (P.filter (keepN d)).length cap) (P.filter (keepN d)) ∧ Below base W (wr.setCells g (k * 2) zs)) := by
          have o1 := own_cut22 hrow (show k ≤ p by omega)
          rw [rowN_take, e] at o1
          have hbel : Below base wr (wr.setCells g (k * 2) zs) := below_setCells22 HBG.out.1 zs _ wr (Below.refl _ _)
          refine ⟨⟨?_, fun x hx => ?_⟩, below_setCells22 HBG.out.1 zs _ wr hB⟩
          · rw [← ekl]
            exact own_setCells22 zs _ wr o1 (Nat.le_refl _)
          · have hxM : x ∈ M := List.mem_of_mem_take (by rw [e]; exact hx)
            obtain ⟨h1, h2⟩ := HN.out.way x hxM
            refine ⟨h1.same fun q c _ hc => (setCells_other zs (k * 2) wr (fun eq => ?_)).trans hc, h2⟩
            subst eq
            rcases hrow.2 with ⟨e, -⟩ | ⟨g', cap', cur, e, -, h3, -⟩
            · cases e
            · cases e
              rw [hc] at h3
              simp at h3
        generalize wr.setCells g (k * 2) zs = V at hcl hfin
        clear HN HI hB hzs hrow e hML
        have EKL : Hid (k = (P.filter (keepN d)).length) := ekl
        clear ekl
        go_wp2
        go_ret
        exact ⟨cap, by rw [← EKL.out]; rfl, hfin.out.1, hfin.out.2⟩
end Go.Proofs.YtfnfegcjgnbgbaaDoor
namespace Go.Proofs.YtfnfegcjgnbgbaaDoor
open Go.RowKit

theorem own_low22 {w : World} {B B' e k n : Nat} {v : Value} {xs : List Value} (h : w.ownsRow B e k v n xs) (hB : B' ≤ B) : w.ownsRow B' e k v n xs := by
  refine ⟨h.1, ?_⟩
  rcases h.2 with h2 | ⟨g, cap, cur, e1, hg, h3⟩
  · exact .inl h2
  · exact .inr ⟨g, cap, cur, e1, Nat.le_trans hB hg, h3⟩
theorem Nts.low {W : World} {B B' : Nat} {K : Nat → Prop} {v : Value} {L : List Nt} {us : List Value} (h : Nts W B K v L us) (hB : B' ≤ B) : Nts W B' K v L us :=
  ⟨h.len, own_low22 h.row hB, fun j u n hu hn => ⟨own_low22 (h.way j u n hu hn).1 hB, (h.way j u n hu hn).2⟩⟩
/-- What a dialect lacks of a query. -/
def notesL (d : Int) (q : Qy) : List Nt := (usesL q).filter fun n => lacksB d n.2
def NotesAns (d : Int) (q : Qy) (w : World) (e : Ending) (w' : World) : Prop :=
  (¬ (dialB d = true ∧ FineQ q) ∧ e = .returned (.tuple #[.slice none 0 0, .int .i64 1]) ∧ Below w.heap.size w w') ∨
  (dialB d = true ∧ FineQ q ∧ ∃ a cap K us, e = .returned (.tuple #[.slice a (notesL d q).length cap, .int .i64 0]) ∧ Nts w' w.heap.size K (.slice a (notesL d q).length cap) (notesL d q) us ∧ Below w.heap.size w w')
theorem boxQ_d (d : Int) (q : Qy) (w : World) : ∃ A, (w.alloc (.cells #[.int .i64 d] 3)).alloc (.cells q.cells 28) = A ∧ Below w.heap.size w A ∧ A.heap.size = w.heap.size + 2 ∧ Boxed A w.heap.size 3 (.int .i64 d) ∧ QB A (w.heap.size + 1) q := by
  refine ⟨_, rfl, ((Below.refl _ w).alloc (Nat.le_refl _) _).alloc (by simp) _, by simp, (Boxed.new _ _ _).alloc _, ?_⟩
  have := QB.new (w.alloc (.cells #[.int .i64 d] 3)) q
  rwa [World.size_alloc] at this
set_option maxRecDepth 100000 in
set_option maxHeartbeats 4000000 in
theorem notes_any (d : Int) (q : Qy) (w : World) (hQ : IsQ w q) (hok : QOk q) (hT : AbT w) : Calls Tryd.prog 4 #[.int .i64 d, q.val] w (NotesAns d q w) := by
  obtain ⟨A, hA, hB, hs, hd, hq⟩ := boxQ_d d q w
  have hc1 := dialect_any d A
  have hc2 := uses_any q A (hQ.later hB) hok (hT.later hB)
  obtain ⟨⟨a0, a1, a2, a3, a4, a5⟩, a6, a7, a8, a9, a10⟩ := hq.at0
  have cd := hd.cell
  have HB : Hid (Below w.heap.size w A ∧ A.heap.size = w.heap.size + 2 ∧ Boxed A w.heap.size 3 (.int .i64 d) ∧ AbT A) := ⟨hB, hs, hd, hT.later hB⟩
  clear hQ hok hT hB hs hd hq
  by_cases hdi : dialB d = true
  · rw [hdi] at hc1
    have HDI : Hid (dialB d = true) := hdi
    clear hdi
    have fin : ∀ (e : Ending) (W' : World), UsesAns q A e W' → ∃ (a : Option Addr) (n cap : Nat) (z : Int), e = .returned (.tuple #[.slice a n cap, .int .i64 z]) ∧ Hid (Calls Tryd.prog 11 #[.slice a n cap, delV w.heap.size] W' fun e2 W2 => ∃ v, e2 = .returned v ∧ NotesAns d q w (.returned (.tuple #[v, .int .i64 z])) W2) := by
      intro e W' h
      have main : ∀ (a : Option Addr) (n cap : Nat) (P : List Pn) (K : Nat → Prop), NtP W' A.heap.size K (.slice a n cap) P → Below A.heap.size A W' → Calls Tryd.prog 11 #[.slice a n cap, delV w.heap.size] W' fun e W2 => ∃ cap', e = .returned (.slice a (P.filter (keepN d)).length cap') ∧ NtP W2 A.heap.size K (.slice a (P.filter (keepN d)).length cap') (P.filter (keepN d)) ∧ Below A.heap.size W' W2 := fun a n cap P K hP hbel =>
        delete_any a n cap P A.heap.size K d w.heap.size W' hP (Boxed.kept_of HB.out.2.2.1 hbel HB.out.2.2.1.lt) (HB.out.2.2.2.later hbel) hbel.size HB.out.2.2.1.lt (fun D hD => HB.out.2.2.2.later (hbel.trans hD))
      rcases h with ⟨hn, rfl, hbel⟩ | ⟨hf, a, cap, K, us, rfl, hN, hbel⟩
      · refine ⟨none, 0, 0, 1, rfl, (main none 0 0 [] (fun _ => False) ⟨World.ownsRow_nil _ _ _ _, fun p hp => by cases hp⟩ hbel).mono ?_⟩
        rintro e W2 ⟨cap', rfl, h1, h2⟩
        have hcap : cap' = 0 := by
          rcases h1.row.2 with ⟨e, -⟩ | ⟨g, cc, cur, e, -⟩
          · cases e; rfl
          · cases e
        subst hcap
        exact ⟨_, rfl, .inl ⟨fun h => hn h.2, rfl, HB.out.1.trans ((hbel.trans h2).mono HB.out.1.size)⟩⟩
      · obtain ⟨P, hPL, hP⟩ := hN.pairs
        refine ⟨a, _, cap, 0, rfl, (main a _ cap P K hP hbel).mono ?_⟩
        rintro e W2 ⟨cap', rfl, h1, h2⟩
        have e1 : (P.filter (keepN d)).map (·.2) = notesL d q := by
          unfold notesL
          rw [← hPL, List.filter_map]
          rfl
        have e2 : (P.filter (keepN d)).length = (notesL d q).length := by rw [← e1, List.length_map]
        have h3 := h1.nts
        rw [e1, e2] at h3
        refine ⟨_, rfl, .inr ⟨HDI.out, hf, a, cap', K, _, by rw [e2], h3.low (by rw [HB.out.2.1]; omega), HB.out.1.trans ((hbel.trans h2).mono HB.out.1.size)⟩⟩
    have FIN : Hid (∀ (e : Ending) (W' : World), UsesAns q A e W' → ∃ (a : Option Addr) (n cap : Nat) (z : Int), e = .returned (.tuple #[.slice a n cap, .int .i64 z]) ∧ Hid (Calls Tryd.prog 11 #[.slice a n cap, delV w.heap.size] W' fun e2 W2 => ∃ v, e2 = .returned v ∧ NotesAns d q w (.returned (.tuple #[v, .int .i64 z])) W2)) := fin
    clear fin HB HDI
    go_enter Tryd.func4, Tryd.ntmps4
    go_upto_region 1 with fail
    clear hA
    go_wp2_with (first
      | (go_at_call 10; refine hc1.mono ?_; clear hc1; rintro e w1 ⟨rfl, rfl⟩)
      | (go_at_call 5; refine hc2.mono ?_; clear hc2; rintro e w2 hu; obtain ⟨a, n, cap, z, rfl, hdel⟩ := FIN.out _ _ hu; clear FIN hu)
      | (go_at_call 11; refine hdel.out.mono ?_; clear hdel; rintro e w3 ⟨v, rfl, hans⟩))
    refine bodyPost_ret (results_tmp2 rfl _ _ _) rfl ?_
    exact hans
  · have hdf : dialB d = false := by simpa using hdi
    rw [hdf] at hc1
    have HN : Hid (¬ (dialB d = true ∧ FineQ q)) := fun h => hdi h.1
    clear hdi hdf hc2
    go_enter Tryd.func4, Tryd.ntmps4
    go_wp2_with (go_at_call 10; refine hc1.mono ?_; clear hc1; rintro e w1 ⟨rfl, rfl⟩)
    refine bodyPost_ret (results_tmp2 rfl _ _ _) rfl ?_
    exact .inl ⟨HN.out, rfl, HB.out.1⟩
end Go.Proofs.YtfnfegcjgnbgbaaDoor
namespace Go.Proofs.YtfnfegcjgnbgbaaDoor
open Go.RowKit

/-- A way by index. -/
def wayZ (l : List Int) (j : Nat) : Int := l.getD j 0
theorem atK_congr {x : Pt} {Z Z' : Nat → Int} : ∀ {k : Nat}, (∀ j, j < k → Z j = Z' j) → atK x Z k = atK x Z' k
  | 0, _ => rfl
  | k + 1, h => by
    simp only [atK]
    rw [atK_congr (k := k) fun j hj => h j (by omega), h k (by omega)]
theorem wayZ_snoc {l : List Int} {i : Int} : (∀ j, j < l.length → wayZ (l ++ [i]) j = wayZ l j) ∧ wayZ (l ++ [i]) l.length = i := by
  constructor
  · intro j hj
    simp [wayZ, List.getElem?_append_left hj]
  · simp [wayZ]
/-- What is known of each node's way. -/
def Leads (r : Pt) (v : VN) : Prop := atK r (wayZ v.1) v.1.length = some v.2.2 ∧ ∀ z ∈ v.1, 0 ≤ z ∧ z < 1048576
theorem visW_leads (r : Pt) : ∀ (x : Pt) (way : List Int) (ink : Int), x.size ≤ 1048576 → Leads r (way, ink, x) → ∀ v ∈ visW way ink x, Leads r v := by
  refine Pt.ind fun x ih way ink hsm h v hv => ?_
  rw [visW_eq] at hv
  rcases List.mem_cons.1 hv with rfl | hv
  · exact h
  · obtain ⟨i, hi, hv⟩ := mem_catN.1 hv
    have hsp := x.size_part i hi
    have hin : x.n < 1048576 + 1 := by have := lengthP_le_size x; omega
    refine ih i hi _ _ (by omega) ⟨?_, fun z hz => ?_⟩ v hv
    · have h1 : atK r (wayZ (way ++ [(i : Int)])) way.length = some x := (atK_congr wayZ_snoc.1).trans h.1
      have := atK_yes h1 wayZ_snoc.2 hi
      simpa using this
    · rcases List.mem_append.1 hz with hz | hz
      · exact h.2 z hz
      · rw [List.mem_singleton] at hz
        subst hz
        have := lengthP_le_size x
        omega
theorem ints_wy {W : World} {base : Nat} {a : Option Addr} {m cap : Nat} {l : List Int} (h : Wy W base (.slice a m cap) l) (hl : ∀ z ∈ l, 0 ≤ z ∧ z < 1048576) : Ints .i64 W a m (wayZ l) ∧ m = l.length := by
  have hm : m = l.length := by
    rcases h.2 with ⟨e, e0⟩ | ⟨g, cap', cur, e, -⟩
    · cases e; exact e0.symm
    · cases e; rfl
  refine ⟨fun h0 => ?_, hm⟩
  rcases h.2 with ⟨e, e0⟩ | ⟨g, cap', cur, e, h1, h2, h3, h4, h5, h6⟩
  · cases e; omega
  · cases e
    refine ⟨g, 0, rfl, fun j hj => ?_⟩
    have e1 : (waysI l)[j]? = some (.int .i64 (wayZ l j)) := by
      simp [waysI, wayZ, List.getElem?_eq_getElem hj]
    have e2 : W.cell? ⟨g, j, none⟩ = some (.int .i64 (wayZ l j)) := by
      rw [cell_heap h2]
      rw [← h6, List.getElem?_take] at e1
      split at e1
      · simpa using e1
      · cases e1
    rw [Nat.zero_add]
    refine ⟨e2, ?_⟩
    have hz := hl (wayZ l j) (by simp [wayZ, List.getElem?_eq_getElem hj])
    simp [Lit.wf, IntKind.min, IntKind.max, IntKind.bits, IntKind.signed]
    omega
theorem boxQN (q : Qy) (u : Value) (z : Int) (w : World) : ∃ A, (w.alloc (.cells q.cells 28)).alloc (.cells #[u, .int .i64 z] 38) = A ∧ Below w.heap.size w A ∧ A.heap.size = w.heap.size + 2 ∧ QB A w.heap.size q ∧ A.heap[w.heap.size + 1]? = some (.cells #[u, .int .i64 z] 38 (0, 0)) := by
  have hb : Below (w.alloc (.cells q.cells 28)).heap.size (w.alloc (.cells q.cells 28)) ((w.alloc (.cells q.cells 28)).alloc (.cells #[u, .int .i64 z] 38)) := (Below.refl _ _).alloc (Nat.le_refl _) _
  refine ⟨_, rfl, ((Below.refl _ w).alloc (Nat.le_refl _) _).alloc (by simp) _, by simp, (QB.new w q).later hb, ?_⟩
  have := alloc_new (w.alloc (.cells q.cells 28)) (.cells #[u, .int .i64 z] 38)
  rwa [World.size_alloc] at this
set_option maxRecDepth 100000 in
set_option maxHeartbeats 4000000 in
theorem refAt22_any (q : Qy) (y : Pt) (a : Option Addr) (m cap : Nat) (l : List Int) (base : Nat) (z : Int) (w : World) (hQ : IsP w q.p) (hw : Wy w base (.slice a m cap) l) (hl : ∀ z ∈ l, 0 ≤ z ∧ z < 1048576) (hy : atK q.p (wayZ l) l.length = some y) :
    Calls Tryd.prog 7 #[q.val, .agg #[.slice a m cap, .int .i64 z]] w fun e w' => e = .returned (.bool true) ∧ Below w.heap.size w w' := by
  obtain ⟨A, hA, hB, hs, hq, hn⟩ := boxQN q (.slice a m cap) z w
  have hwA : Wy A base (.slice a m cap) l := hw.same fun k c _ hc => (hB.block k (heap_lt hc)).trans hc
  obtain ⟨hi, hm⟩ := ints_wy hwA hl
  have hc := refAt_yes q.p y a m cap (wayZ l) A (hQ.later hB) hi (by
    obtain ⟨_, _, e, _, h1, h2⟩ := hw.shape
    cases e
    simp only [maxLen] at h2
    omega) (by rw [hm]; exact hy)
  obtain ⟨⟨a0, a1, a2, a3, a4, a5⟩, a6, a7, a8, a9, a10⟩ := hq.at0
  have n0 : A.cell? ⟨w.heap.size + 1, 0, none⟩ = some (.slice a m cap) := by rw [cell_heap hn]; rfl
  have HB : Hid (Below w.heap.size w A ∧ A.heap.size = w.heap.size + 2) := ⟨hB, hs⟩
  clear hQ hw hl hy hB hs hq hn hwA hi hm
  go_enter Tryd.func7, Tryd.ntmps7
  go_upto_region 1 with fail
  clear hA
  go_wp2_with (go_at_call 21; refine hc.mono ?_; clear hc; rintro e w2 ⟨rfl, -, hB2⟩)
  go_ret
  exact ⟨rfl, (HB.out.1.trans (hB2.mono HB.out.1.size)).alloc (Nat.le_trans HB.out.1.size hB2.size) _⟩
set_option maxHeartbeats 1000000 in
theorem awake22_any (w : World) (hT : AbT w) : Calls Tryd.prog 6 #[] w fun e w' => e = .returned (.bool true) ∧ w' = w := by
  have hc := word_any 2 w hT
  rw [show wordZ 2 = ⟨#[97, 110, 100]⟩ from rfl] at hc
  go_enter Tryd.func6, Tryd.ntmps6
  go_wp2_with (go_at_call 9; refine hc.mono ?_; clear hc; rintro e w2 ⟨rfl, rfl⟩)
  go_ret
  exact ⟨rfl, rfl⟩
/-- What lacks something is a thing, and has a name. -/
theorem lacks_thing {d z : Int} (h : lacksB d z = true) : dialB d = true ∧ thingB z = true := by
  by_cases e : dialB d = true ∧ thingB z = true
  · exact e
  · rw [lacks_no e] at h; cases h
theorem wordZ_some {z : Int} (h : thingB z = true) : (wordZ z).toList.isEmpty = false := by
  unfold wordZ
  rw [if_pos h]
  simp only [thingB, Bool.and_eq_true, decide_eq_true_eq] at h
  obtain ⟨k, rfl⟩ := Int.eq_ofNat_of_zero_le (show 0 ≤ z by omega)
  have hk : ∀ k, k < 15 → 0 < k → (wordS k).toList.isEmpty = false := by decide +kernel
  exact hk k (by omega) (by omega)
/-- Each thing that is noted leads to a part. -/
theorem notes_lead {q : Qy} (hsm : q.p.size ≤ 1048576) {n : Nt} (h : n ∈ usesL q) : (∃ y, atK q.p (wayZ n.1) n.1.length = some y) ∧ ∀ z ∈ n.1, 0 ≤ z ∧ z < 1048576 := by
  have nil : ∀ z : Int, n = ([], z) → (∃ y, atK q.p (wayZ n.1) n.1.length = some y) ∧ ∀ z ∈ n.1, 0 ≤ z ∧ z < 1048576 := fun z e => by
    subst e
    exact ⟨⟨q.p, rfl⟩, fun z hz => by cases hz⟩
  unfold usesL at h
  rcases List.mem_append.1 h with h | h
  · obtain ⟨v, hv, hn⟩ := List.mem_flatMap.1 h
    have hl := visW_leads q.p q.p [] 0 hsm ⟨rfl, fun z hz => by cases hz⟩ v hv
    have e : n.1 = v.1 := by
      unfold ntsOf at hn
      rcases List.mem_append.1 hn with hn | hn <;> split at hn <;> simp at hn <;> rw [hn]
    rw [e]
    exact ⟨⟨_, hl.1⟩, hl.2⟩
  · unfold clauseL at h
    rcases List.mem_append.1 h with h | h
    · split at h <;> simp at h
      exact nil _ h
    · rcases List.mem_append.1 h with h | h
      · simp at h
        exact nil _ h
      · rcases List.mem_append.1 h with h | h
        · split at h <;> simp at h
          exact nil _ h
        · split at h <;> simp at h
          exact nil _ h
end Go.Proofs.YtfnfegcjgnbgbaaDoor
namespace Go.Proofs.YtfnfegcjgnbgbaaDoor
open Go.RowKit Go.Shelf
attribute [local go_sem] Oper.semAt_some

theorem boxQ_one (q : Qy) (w : World) : ∃ A, w.alloc (.cells q.cells 28) = A ∧ Below w.heap.size w A ∧ A.heap.size = w.heap.size + 1 ∧ QB A w.heap.size q :=
  ⟨_, rfl, (Below.refl _ w).alloc (Nat.le_refl _) _, by simp, QB.new w q⟩
theorem notes_no {d : Int} {q : Qy} {w : World} (h : ¬ (dialB d = true ∧ FineQ q)) {e : Ending} {w' : World} (ha : NotesAns d q w e w') : e = .returned (.tuple #[.slice none 0 0, .int .i64 1]) ∧ Below w.heap.size w w' := by
  rcases ha with ⟨-, h1, h2⟩ | ⟨h1, h2, -⟩
  · exact ⟨h1, h2⟩
  · exact absurd ⟨h1, h2⟩ h
theorem uses_no {q : Qy} {w : World} (h : ¬ FineQ q) {e : Ending} {w' : World} (ha : UsesAns q w e w') : e = .returned (.tuple #[.slice none 0 0, .int .i64 1]) ∧ Below w.heap.size w w' := by
  rcases ha with ⟨-, h1, h2⟩ | ⟨h1, -⟩
  · exact ⟨h1, h2⟩
  · exact absurd h1 h
theorem uses_yes {q : Qy} {w : World} (h : FineQ q) {e : Ending} {w' : World} (ha : UsesAns q w e w') : ∃ a cap, e = .returned (.tuple #[.slice a (usesL q).length cap, .int .i64 0]) ∧ Below w.heap.size w w' := by
  rcases ha with ⟨h1, -⟩ | ⟨-, a, cap, K, us, h1, -, h2⟩
  · exact absurd h h1
  · exact ⟨a, cap, h1, h2⟩
set_option maxRecDepth 100000 in
set_option maxHeartbeats 8000000 in
theorem ableNotes_in (n : Nat) (d : Int) (q : Qy) (w : World) (hQ : IsQ w q) (hok : QOk q) (hT : AbT w) :
    CallsIn Fence.wide n Tryd.prog 3 #[.int .i64 d, q.val] w fun e w' => e = .returned (.bool true) ∧ Below w.heap.size w w' := by
  have hdd : ∀ k : Nat, (Fence.wide.depth.isSome = true → 1 ≤ k) := fun k h => by cases h
  obtain ⟨A, hA, hB, hs, hq⟩ := boxQ_one q w
  have hc1 := notes_any d q A (hQ.later hB) hok (hT.later hB)
  obtain ⟨⟨a0, a1, a2, a3, a4, a5⟩, a6, a7, a8, a9, a10⟩ := hq.at0
  have HB : Hid (Below w.heap.size w A ∧ A.heap.size = w.heap.size + 1 ∧ QB A w.heap.size q) := ⟨hB, hs, hq⟩
  have hc2 : ∀ D, Below A.heap.size A D → Calls Tryd.prog 5 #[q.val] D (UsesAns q D) := fun D h => uses_any q D ((hQ.later hB).later h) hok ((hT.later hB).later h)
  have hc3 : ∀ D, Below A.heap.size A D → Calls Tryd.prog 6 #[] D fun e w' => e = .returned (.bool true) ∧ w' = D := fun D h => awake22_any D ((hT.later hB).later h)
  have HT : Hid (AbT A ∧ IsQ A q) := ⟨hT.later hB, hQ.later hB⟩
  clear hQ hok hT hB hs hq
  by_cases hf : ¬ FineQ q
  · have hc1' := hc1.mono (fun e w' h => notes_no (fun h' => hf h'.2) h)
    have hc2' : ∀ D, Below A.heap.size A D → _ := fun D h => (hc2 D h).mono (fun e w' h => uses_no hf h)
    clear hc1 hc2 hf
    subst hA
    refine callsIn_of_wp Tryd.func3 rfl trivial ?_ rfl
    simp only [Tryd.ntmps3, List.size_toArray, List.length_cons, List.length_nil, Nat.reduceAdd, Nat.reduceSub, Array.replicate_succ, Array.replicate_zero, List.push_toArray, List.append_toArray, List.nil_append, List.cons_append]
    gi_wp2_with (first
      | (refine ⟨trivial, hdd _, ?_⟩; gi_at_call 6; refine (callsIn_wide.2 (hc3 _ hB12)).mono ?_; clear hc3; rintro e w3 ⟨rfl, hw3⟩; replace hw3 := hw3.symm; subst hw3)
      | (refine ⟨trivial, hdd _, ?_⟩; gi_at_call 5; refine (callsIn_wide.2 (hc2' _ hB1)).mono ?_; clear hc2'; rintro e w2 ⟨rfl, hB2⟩; have hB12 := hB1.trans (hB2.mono hB1.size))
      | (refine ⟨trivial, hdd _, ?_⟩; gi_at_call 4; refine (callsIn_wide.2 hc1').mono ?_; clear hc1'; rintro e w1 ⟨rfl, hB1⟩; clear a0 a1 a2 a3 a4 a5 a6 a7 a8 a9 a10; obtain ⟨⟨a0, a1, a2, a3, a4, a5⟩, a6, a7, a8, a9, a10⟩ := (HB.out.2.2.later hB1).at0))
    go_ret
    exact ⟨rfl, HB.out.1.trans (hB12.mono HB.out.1.size)⟩
  have hf : FineQ q := Classical.not_not.1 hf
  have hc2' : ∀ D, Below A.heap.size A D → _ := fun D h => (hc2 D h).mono (fun e w' h => uses_yes hf h)
  obtain ⟨UL, hUL⟩ : ∃ UL, UL = (usesL q).length := ⟨_, rfl⟩
  rw [← hUL] at hc2'
  by_cases hd : ¬ dialB d = true
  · have hc1' := hc1.mono (fun e w' h => notes_no (fun h' => hd h'.1) h)
    have hlt : d < 1 ∨ (¬ d < 1 ∧ 3 < d) := by
      simp only [dialB, Bool.and_eq_true, decide_eq_true_eq] at hd
      omega
    clear hc1 hc2 hf hd hUL
    subst hA
    refine callsIn_of_wp Tryd.func3 rfl trivial ?_ rfl
    simp only [Tryd.ntmps3, List.size_toArray, List.length_cons, List.length_nil, Nat.reduceAdd, Nat.reduceSub, Array.replicate_succ, Array.replicate_zero, List.push_toArray, List.append_toArray, List.nil_append, List.cons_append]
    rcases hlt with hlt | ⟨hlt, hgt⟩
    all_goals gi_wp2_with (first
      | (refine ⟨trivial, hdd _, ?_⟩; gi_at_call 6; refine (callsIn_wide.2 (hc3 _ hB12)).mono ?_; clear hc3; rintro e w3 ⟨rfl, hw3⟩; replace hw3 := hw3.symm; subst hw3)
      | (refine ⟨trivial, hdd _, ?_⟩; gi_at_call 5; refine (callsIn_wide.2 (hc2' _ hB1)).mono ?_; clear hc2'; rintro e w2 ⟨ua, ucap, rfl, hB2⟩; have hB12 := hB1.trans (hB2.mono hB1.size))
      | (refine ⟨trivial, hdd _, ?_⟩; gi_at_call 4; refine (callsIn_wide.2 hc1').mono ?_; clear hc1'; rintro e w1 ⟨rfl, hB1⟩; clear a0 a1 a2 a3 a4 a5 a6 a7 a8 a9 a10; obtain ⟨⟨a0, a1, a2, a3, a4, a5⟩, a6, a7, a8, a9, a10⟩ := (HB.out.2.2.later hB1).at0))
    all_goals go_ret
    all_goals exact ⟨rfl, HB.out.1.trans (hB12.mono HB.out.1.size)⟩
  have hd : dialB d = true := Classical.not_not.1 hd
  obtain ⟨NL, hNL⟩ : ∃ NL, NL = (notesL d q).length := ⟨_, rfl⟩
  have hle : NL ≤ UL := by rw [hNL, hUL]; exact List.length_filter_le _ _
  have hnl8 : NL ≤ 9223372036854775807 := by
    have h1 := qySmall hf.1
    have h2 : (usesL q).length ≤ 300 := by
      unfold usesL clauseL
      have h3 := ntsAll_len (tlP q.p) (visW [] 0 q.p)
      rw [length_visW] at h3
      have i1 : ∀ (b : Bool) (z : Int), (if b = true then [(([], z) : Nt)] else []).length ≤ 1 := fun b z => by split <;> simp
      have i2 := i1 (!q.key.toList.isEmpty) 8
      have i3 := i1 (q.win != 0) 12
      have i4 := i1 (decide (0 < q.m)) 13
      simp only [List.length_append, List.length_cons, List.length_nil]
      omega
    omega
  have hc1' := hc1.mono (R' := fun e w' => ∃ a cap K us, e = .returned (.tuple #[.slice a NL cap, .int .i64 0]) ∧ Hid (Nts w' A.heap.size K (.slice a NL cap) (notesL d q) us) ∧ Below A.heap.size A w') (fun e w' h => by
    rcases h with ⟨h1, -⟩ | ⟨-, -, a, cap, K, us, h1, h2, h3⟩
    · exact absurd ⟨hd, hf⟩ h1
    · rw [← hNL] at h1 h2
      exact ⟨a, cap, K, us, h1, h2, h3⟩)
  have HL : Hid (∀ n ∈ notesL d q, (∃ y, atK q.p (wayZ n.1) n.1.length = some y) ∧ (∀ z ∈ n.1, 0 ≤ z ∧ z < 1048576) ∧ lacksB d n.2 = true) := fun n hn => by
    obtain ⟨h1, h2⟩ := List.mem_filter.1 hn
    have h3 := notes_lead (by have := qySmall hf.1; omega) h1
    exact ⟨h3.1, h3.2, h2⟩
  have HNL : Hid (NL = (notesL d q).length) := hNL
  clear hc1 hc2 hf hd hUL hNL
  subst hA
  refine callsIn_of_wp Tryd.func3 rfl trivial ?_ rfl
  simp only [Tryd.ntmps3, List.size_toArray, List.length_cons, List.length_nil, Nat.reduceAdd, Nat.reduceSub, Array.replicate_succ, Array.replicate_zero, List.push_toArray, List.append_toArray, List.nil_append, List.cons_append]
  gi_wp2_with (first
      | (refine ⟨trivial, hdd _, ?_⟩; gi_at_call 5; refine (callsIn_wide.2 (hc2' _ hB1)).mono ?_; clear hc2'; rintro e w2 ⟨ua, ucap, rfl, hB2⟩; have hB12 := hB1.trans (hB2.mono hB1.size))
      | (refine ⟨trivial, hdd _, ?_⟩; gi_at_call 4; refine (callsIn_wide.2 hc1').mono ?_; clear hc1'; rintro e w1 ⟨la, lcap, K, us, rfl, hN, hB1⟩; clear a0 a1 a2 a3 a4 a5 a6 a7 a8 a9 a10; obtain ⟨⟨a0, a1, a2, a3, a4, a5⟩, a6, a7, a8, a9, a10⟩ := (HB.out.2.2.later hB1).at0))
  obtain ⟨P, hPL, hP⟩ := hN.out.pairs
  have hPn : P.length = NL := by rw [HNL.out, ← hPL, List.length_map]
  have HP : Hid (NtP w2 (w.alloc (.cells q.cells 28)).heap.size K (.slice la NL lcap) P) := hP.later hB2
  have HPL : Hid (P.map (·.2) = notesL d q ∧ P.length = NL) := ⟨hPL, hPn⟩
  have HB2 : Hid (Below (w.alloc (.cells q.cells 28)).heap.size (w.alloc (.cells q.cells 28)) w2 ∧ AbT w2 ∧ IsQ w2 q ∧ QB w2 w.heap.size q) := ⟨hB12, HT.out.1.later hB12, HT.out.2.later hB12, HB.out.2.2.later hB12⟩
  clear hB1 hB2 hB12 hP hPL hPn hN a0 a1 a2 a3 a4 a5 a6 a7 a8 a9 a10
  have hdec : decide (UL < NL) = false := decide_eq_false (by omega)
  simp only [hdec]
  gi_loopw [9] (fun u wr => ∃ i : Nat, i ≤ NL ∧ u = .int .i64 i ∧ Below w2.heap.size w2 wr) (fun u _ => NL - (intOf u).toNat)
  case atStart => exact ⟨0, Nat.zero_le _, rfl, Below.refl _ _⟩
  case round =>
    obtain ⟨i, hi, rfl, hB⟩ := hrel
    by_cases hin : i < NL
    · obtain ⟨p, hp⟩ : ∃ p, P[i]? = some p := ⟨_, List.getElem?_eq_getElem (by rw [HPL.out.2]; exact hin)⟩
      obtain ⟨g, va, vm, vc, rfl, -, -, -, -, hv, -, -⟩ := HP.out.at hp
      have hpm : p.2 ∈ notesL d q := by rw [← HPL.out.1]; exact List.mem_map.2 ⟨p, List.mem_of_getElem? hp, rfl⟩
      obtain ⟨⟨y, hy⟩, hway, hlk⟩ := HL.out p.2 hpm
      obtain ⟨z, hz⟩ : ∃ z, z = p.2.2 := ⟨_, rfl⟩
      have NC : Hid (∀ X, Below w2.heap.size w2 X → X.cell? ⟨g, i * 2, none⟩ = some (.slice va vm vc) ∧ X.cell? ⟨g, i * 2 + 1, none⟩ = some (.int .i64 z)) := fun X hX => by
        obtain ⟨g', va', vm', vc', eg, -, -, -, -, hv', c0, c1⟩ := (HP.out.later hX).at hp
        cases eg
        rw [hv] at hv'
        cases hv'
        rw [hz]
        exact ⟨c0, c1⟩
      have CA : Hid (∀ X, Below w2.heap.size w2 X → Calls Tryd.prog 7 #[q.val, .agg #[.slice va vm vc, .int .i64 z]] X fun e w' => e = .returned (.bool true) ∧ Below X.heap.size X w') := fun X hX => by
        have hw := ((HP.out.later hX).way p (List.mem_of_getElem? hp)).1
        rw [hv] at hw
        exact refAt22_any q y va vm vc p.2.1 _ z X (HB2.out.2.2.1.later hX).p hw hway hy
      have hlz : lacksB d z = true := by rw [hz]; exact hlk
      have CL : Hid (∀ X, Below w2.heap.size w2 X → Calls Tryd.prog 8 #[.int .i64 d, .int .i64 z] X fun e w' => e = .returned (.bool true) ∧ w' = X) := fun X hX => by
        have := lacks_any d z X (HB2.out.2.1.later hX)
        rwa [hlz] at this
      obtain ⟨sw, hsw⟩ : ∃ sw, sw = wordZ z := ⟨_, rfl⟩
      have hse : sw.toList.isEmpty = false := by rw [hsw]; exact wordZ_some (lacks_thing hlz).2
      have CW : Hid (∀ X, Below w2.heap.size w2 X → Calls Tryd.prog 9 #[.int .i64 z] X fun e w' => e = .returned (.string sw) ∧ w' = X) := fun X hX => by
        rw [hsw]
        exact word_any z X (HB2.out.2.1.later hX)
      have HIN : Hid (i < NL) := hin
      have hinI : (i : Int) < (NL : Int) := by omega
      clear hp hv hpm hy hway hlk hz hlz hsw
      gi_wp2
      refine bgi (fun w' => Below w2.heap.size w2 w') hB.drew (fun hHeld => ?_)
      obtain ⟨D, hD⟩ : ∃ D, wr.drew = D := ⟨_, rfl⟩
      rw [hD] at hHeld ⊢
      clear hD hB
      refine tki 0 ?_ (hy := by intro w9 hSw; obtain ⟨⟨a0, a1, a2, a3, a4, a5⟩, a6, a7, a8, a9, a10⟩ := (HB2.out.2.2.2.later hSw).at0; go_simp; (try with_reducible rfl))
      refine tki 1 ?_
      refine tki 2 ?_
      refine tki 3 ?_
      refine tki 4 ?_ (hy := by intro w9 hSw; obtain ⟨c0, c1⟩ := NC.out _ hSw; go_simp; (try with_reducible rfl))
      refine rdi 5 (fun K1 hK1 => ?_)
      go_simp
      refine ⟨trivial, hdd _, ?_⟩
      refine (callsIn_wide.2 (CA.out D hHeld)).mono ?_
      rintro e X ⟨rfl, hX⟩
      go_simp
      refine hK1.out _ _ (hHeld.trans (hX.mono hHeld.size)) (fun hHeld => ?_)
      clear hK1 K1 hX
      refine tki 6 ?_
      refine tki 7 ?_
      refine tki 8 ?_
      refine tki 9 ?_
      refine tki 10 ?_
      refine tki 11 ?_
      refine tki 12 ?_
      refine tki 13 ?_ (hy := by intro w9 hSw; obtain ⟨c0, c1⟩ := NC.out _ hSw; go_simp; (try with_reducible rfl))
      refine rdi 14 (fun K1 hK1 => ?_)
      go_simp
      refine ⟨trivial, hdd _, ?_⟩
      refine (callsIn_wide.2 (CL.out X hHeld)).mono ?_
      rintro e X2 ⟨rfl, hX⟩
      replace hX := hX.symm
      subst hX
      go_simp
      refine hK1.out _ _ hHeld (fun hHeld => ?_)
      clear hK1 K1
      refine tki 15 ?_
      refine tki 16 ?_
      refine tki 17 ?_
      refine tki 18 ?_
      refine tki 19 ?_
      refine tki 20 ?_
      refine tki 21 ?_
      refine tki 22 ?_ (hy := by intro w9 hSw; obtain ⟨c0, c1⟩ := NC.out _ hSw; go_simp; (try with_reducible rfl))
      refine rdi 23 (fun K1 hK1 => ?_)
      go_simp
      refine ⟨trivial, hdd _, ?_⟩
      refine (callsIn_wide.2 (CW.out X hHeld)).mono ?_
      rintro e X2 ⟨rfl, hX⟩
      replace hX := hX.symm
      subst hX
      go_simp
      refine hK1.out _ _ hHeld (fun hHeld => ?_)
      clear hK1 K1
      refine tki 24 ?_
      refine tki 25 ?_
      refine dni ?_
      gi_wp2
      exact ⟨⟨i + 1, HIN.out, by simp, hHeld⟩, by have := HIN.out; simp [intOf]; omega⟩
    · obtain rfl : i = NL := by omega
      have hc4 := hc3 wr (HB2.out.1.trans (hB.mono HB2.out.1.size))
      clear hc3
      gi_wp2_with (refine ⟨trivial, hdd _, ?_⟩; gi_at_call 6; refine (callsIn_wide.2 hc4).mono ?_; clear hc4; rintro e w3 ⟨rfl, hw3⟩; replace hw3 := hw3.symm; subst hw3)
      go_ret
      exact ⟨rfl, HB.out.1.trans ((HB2.out.1.trans (hB.mono HB2.out.1.size)).mono HB.out.1.size)⟩
theorem ableNotes_walk (d : Int) (q : Qy) (w : World) (hQ : IsQ w q) (hok : QOk q) (hT : AbT w) : Calls Tryd.prog 3 #[.int .i64 d, q.val] w fun e w' => e = .returned (.bool true) ∧ Below w.heap.size w w' := (callsIn_wide (n := 3)).1 (ableNotes_in 3 d q w hQ hok hT)
end Go.Proofs.YtfnfegcjgnbgbaaDoor
namespace Go.Proofs.YtfnfegcjgnbgbaaDoor
open Go.RowKit Go.ChangeShapes Go.WideShapes

section
variable {H : Type} {enc : TypeId × Value → H} {w : World} {base : Nat} {spare : Nat → Bool} {held : Bool}
theorem val_under : ∃ f0 f1 f2 : Field, Tryd.prog.underlying 76 = some (.struct #[f0, f1, f2]) ∧ f0.offset = 0 ∧ f1.offset = 1 ∧ f2.offset = 2 ∧ f0.type = 3 ∧ f1.type = 2 ∧ f2.type = 9 := ⟨_, _, _, Tryd.underlying76, rfl, rfl, rfl, rfl, rfl, rfl⟩
theorem cells_v : Tryd.prog.cellsOf 76 = 3 := by kernel_rfl
theorem cells_n : Tryd.prog.cellsOf 2 = 1 := by kernel_rfl
/-- The cells of a value, read. -/
theorem trod_val {fuel : Nat} {cs : List Value} {x : DataW H × List MemPlace} (h : DataW.trod enc Tryd.prog w base spare held fuel 76 cs = some x) :
    ∃ q : Val, cs = [.int .i64 q.k, .int .i64 q.n, .string q.s] := by
  obtain ⟨f0, f1, f2, hu, o0, o1, o2, t0, t1, t2⟩ := val_under
  obtain ⟨y0, y1, y2, m, rfl, hl, g0, g1, g2⟩ := Deep.trod_struct3 hu h
  rw [cells_v] at hl
  rw [o0, t0, cells_i] at g0
  rw [o1, t1, cells_n] at g1
  rw [o2, t2, cells_s] at g2
  match cs, hl with
  | [c0, c1, c2], _ =>
    obtain ⟨k, e0, rfl, w0⟩ := DataW.trod_int Tryd.underlying3 g0
    obtain ⟨n, e1, rfl, w1⟩ := DataW.trod_int Tryd.underlying2 g1
    obtain ⟨s, e2, rfl, w2⟩ := DataW.trod_string Tryd.underlying9 g2
    simp at e0 e1 e2
    subst e0 e1 e2
    exact ⟨⟨k, n, s⟩, rfl⟩
end
end Go.Proofs.YtfnfegcjgnbgbaaDoor
