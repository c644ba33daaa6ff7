/-
  The bytes that a wire.Writer or a wire.Reader holds: how they lie in memory ('Hd'), what of memory a call turns ('Touch'), and what their calls and bytes.Clone answer.
-/
import Derived.Test.YtabflledggocoaaMade
import Derived.Lib.AppendStr
namespace Go.Proofs.Ytabflledggocoaa
open Go.RowKit

/-- The bytes of a string. -/
def bytesS (s : ByteArray) : List Int := s.data.toList.map fun b => (b.toNat : Int)
theorem bytesS_length (s : ByteArray) : (bytesS s).length = s.size := by
  rw [bytesS, List.length_map, Array.length_toList]; rfl
theorem bytesS_cells (s : ByteArray) : Lib.strCells s = cellsOf (bytesS s) := by simp [Lib.strCells, cellsOf, bytesS, Function.comp_def]
theorem bytesS_bd (s : ByteArray) : ∀ c ∈ bytesS s, 0 ≤ c ∧ c ≤ 255 := by
  intro c hc
  obtain ⟨b, _, rfl⟩ := List.mem_map.1 hc
  have := b.toNat_lt
  omega

/-- v' lies where v lay, or in new memory. -/
def Moved (w : World) (v v' : Value) : Prop := v'.ownBlock = v.ownBlock ∨ ∀ k, v'.ownBlock = some k → w.heap.size ≤ k

/-- An append of bytes onto what the call owns, and where the outcome lies. -/
theorem append_to {w : World} {base L m c : Nat} {v : Value} {l ys : List Int} {a : Option Addr} (hown : w.ownsRow base 5 1 v L (cellsOf l)) (h : IsBytes w a m c ys) (hb : base ≤ w.heap.size) (hbd : L + m ≤ 140737488355328) :
    ∃ v' w', (Builtin.append_ #[22, 22] 22 #[v, .slice a m c]).run Try.prog w = .ok v' w' ∧ w'.ownsRow base 5 1 v' (L + m) (cellsOf (l ++ ys)) ∧ w.grownBy w' v.ownBlock ∧ Moved w v v' := by
  obtain ⟨v', w', hr, ho, hg⟩ := append_in hown h hb hbd
  refine ⟨v', w', hr, ho, hg, ?_⟩
  rcases hown.2 with ⟨rfl, rfl⟩ | ⟨g, cap, cur, rfl, hbg, hgg, hnc, hcm, hcs, htake⟩
  · have hl0 : l = [] := by have := hown.1; rw [cellsOf_length] at this; exact List.eq_nil_of_length_eq_zero (by omega)
    subst hl0
    obtain ⟨v2, w2, hr2, ho2, _⟩ := append_in (base := w.heap.size) (l := []) (World.ownsRow_nil w w.heap.size 5 1) h (Nat.le_refl _) hbd
    have e := hr.symm.trans hr2
    injection e with e1 e2
    subst e1 e2
    exact .inr fun k hk => (ho2.lt k hk).1
  · obtain ⟨i0, hi, hz0, hz1, hz2⟩ := info_parts info5
    obtain ⟨hl, hmc, hmax, hnil, _, hc⟩ := h
    cases a with
    | none =>
      obtain rfl := hnil rfl
      obtain rfl : m = 0 := by omega
      have e := hr.symm.trans (run_append_owned_none (P := Try.prog) w base 22 22 5 i0 1 Try.underlying22 hi _ L (cellsOf l) hown)
      injection e with e1 e2
      subst e1
      exact .inl rfl
    | some x =>
      have hcell : ∀ j u, (cellsOf ys)[j]? = some u → w.cell? (x.add j) = some u := by
        intro j u hj
        have hjm : j < m := by
          have := (List.getElem?_eq_some_iff.1 hj).1
          rw [cellsOf_length] at this
          omega
        obtain ⟨b, off, e, hcc⟩ := hc (by omega)
        cases e
        rw [addr_add, hcc j hjm]
        have hj' : j < ys.length := by omega
        simp [cellsOf, hj'] at hj
        simp [hj', hj]
      by_cases hroom : L + m ≤ cap
      · have e := hr.symm.trans (run_append_room (P := Try.prog) w 22 22 5 i0 Try.underlying22 hi g L cap cur hgg x m c (cellsOf ys) (by rw [cellsOf_length, hz1]; omega) hcell (ints_oneCell .u8 ys) hroom (by rw [hz1, cellsOf_length]; omega))
        injection e with e1 e2
        subst e1
        exact .inl rfl
      · have holds : ∀ j u, (cellsOf l)[j]? = some u → w.cell? ((⟨g, 0, none⟩ : Addr).add j) = some u := hown.cells (g := g) rfl
        have e := hr.symm.trans (run_append_grow (P := Try.prog) w 22 22 5 i0 (.int .u8 0) Try.underlying22 hi hz0 ⟨g, 0, none⟩ L cap (cellsOf l) (by rw [hz1]; exact hown.1) holds x m c (cellsOf ys) (by rw [cellsOf_length, hz1]; omega) hcell (by omega) (by unfold maxLen at hcm; omega) (by rw [hz2]; exact growslice_fits (by omega) (by omega)))
        injection e with e1 e2
        subst e1
        refine .inr fun k hk => ?_
        cases hk
        exact Nat.le_refl _
/-- An append of a string likewise. -/
theorem append_text {w : World} {base L : Nat} {v : Value} {l : List Int} (s : ByteArray) (hown : w.ownsRow base 5 1 v L (cellsOf l)) (hb : base ≤ w.heap.size) (hbd : L + s.size ≤ 140737488355328) :
    ∃ v' w', (Builtin.append_ #[22, 9] 22 #[v, .string s]).run Try.prog w = .ok v' w' ∧ w'.ownsRow base 5 1 v' (L + s.size) (cellsOf (l ++ bytesS s)) ∧ w.grownBy w' v.ownBlock ∧ Moved w v v' := by
  obtain ⟨i0, hi, hz0, hz1, hz2⟩ := info_parts info5
  obtain ⟨v', w', hr, ho, hg, _⟩ := Lib.run_append_own_string (P := Try.prog) w base 22 9 22 5 i0 Try.underlying22 Try.underlying9 hi hz0 hz1 hz2 v L (cellsOf l) hown s (by unfold maxLen; omega) hbd hb
  rw [bytesS_cells, ← cellsOf_append] at ho
  refine ⟨v', w', hr, ho, hg, ?_⟩
  rcases hown.2 with ⟨rfl, rfl⟩ | ⟨g, cap, cur, rfl, hbg, hgg, hnc, hcm, hcs, htake⟩
  · have hl0 : l = [] := by have := hown.1; rw [cellsOf_length] at this; exact List.eq_nil_of_length_eq_zero (by omega)
    subst hl0
    obtain ⟨v2, w2, hr2, ho2, _⟩ := Lib.run_append_own_string (P := Try.prog) w w.heap.size 22 9 22 5 i0 Try.underlying22 Try.underlying9 hi hz0 hz1 hz2 (.slice none 0 0) 0 [] (World.ownsRow_nil w w.heap.size 5 1) s (by unfold maxLen; omega) hbd (Nat.le_refl _)
    have e := hr.symm.trans hr2
    injection e with e1 e2
    subst e1 e2
    exact .inr fun k hk => (ho2.lt k hk).1
  · by_cases hroom : L + s.size ≤ cap
    · have e := hr.symm.trans (Lib.run_append_room_string (P := Try.prog) w 22 9 22 5 i0 Try.underlying22 Try.underlying9 hi hz1 g L cap cur hgg s hroom (by omega))
      injection e with e1 e2
      subst e1
      exact .inl rfl
    · have holds : ∀ j u, (cellsOf l)[j]? = some u → w.cell? ((⟨g, 0, none⟩ : Addr).add j) = some u := hown.cells (g := g) rfl
      have e := hr.symm.trans (Lib.run_append_grow_string (P := Try.prog) w 22 9 22 5 i0 (.int .u8 0) Try.underlying22 Try.underlying9 hi hz0 ⟨g, 0, none⟩ L cap (cellsOf l) (by rw [hz1]; exact hown.1) holds s (by omega) (by unfold maxLen at hcm; omega) (by rw [hz2]; exact growslice_fits (by omega) (by omega)))
      injection e with e1 e2
      subst e1
      refine .inr fun k hk => ?_
      cases hk
      exact Nat.le_refl _
/-- An append in a walk, by its run; of whatever two types. -/
theorem wpList_append_run2 {P : Program} {w w' : World} {ops : Array Oper} {rest : List Oper} {o : Oper} {a : Act} {Q : Exit → Act → World → Prop} (hg : o.guard = none) (s x : Operand) (t u : TypeId)
    (hop : o.op = Op.call { callee := Callee.builtin Builtin.append, args := #[s, x], argTypes := #[t, u] }) (v y v' : Value) (hs : a.eval s = v) (hx : a.eval x = y)
    (hrun : (Builtin.append_ #[t, u] o.type #[v, y]).run P w = .ok v' w') (hK : wpList P ops Q rest (a.put o.dst v') w') : wpList P ops Q (o :: rest) a w := by
  refine wpList_plain hg fun K hK' => ?_
  unfold Oper.wp
  simp [execOp, hop, resolve, invoke, builtin, hs, hx, hrun, Result.andThen]
  exact hK' _ _ hK

/-- Of what was there nothing turns but block h and block r. -/
structure Touch (h : Nat) (r : Option Nat) (w w' : World) : Prop where
  os : w'.os = w.os
  tape : w'.tape = w.tape
  output : w'.output = w.output
  size : w.heap.size ≤ w'.heap.size
  block : ∀ k, k < w.heap.size → k ≠ h → some k ≠ r → w'.heap[k]? = w.heap[k]?
theorem Touch.of {h : Nat} {r : Option Nat} {w w' : World} (b : Below w.heap.size w w') : Touch h r w w' := ⟨b.os, b.tape, b.output, b.size, fun k hk _ _ => b.block k hk⟩
theorem Touch.below {h B : Nat} {r : Option Nat} {w w' : World} (t : Touch h r w w') (hB : B ≤ w.heap.size) (hh : B ≤ h) (hr : ∀ k, r = some k → B ≤ k) : Below B w w' :=
  ⟨t.os, t.tape, t.output, t.size, fun k hk => t.block k (by omega) (by omega) (fun e => by have := hr k e.symm; omega)⟩
theorem Touch.grown {h : Nat} {r : Option Nat} {w w' : World} (t : Touch h r w w') (hh : ∀ k, r = some k → k = h) : w.grownBy w' (some h) :=
  ⟨t.os, t.tape, t.output, t.size, fun k hk hne => t.block k hk (fun e => hne (by rw [e])) (fun e => hne (by rw [hh k e.symm]))⟩
/-- First what was there is kept, then a touch. -/
theorem Touch.after {h : Nat} {r : Option Nat} {w w1 w2 : World} (b : Below w.heap.size w w1) (t : Touch h r w1 w2) : Touch h r w w2 :=
  ⟨t.os.trans b.os, t.tape.trans b.tape, t.output.trans b.output, Nat.le_trans b.size t.size, fun k hk h1 h2 => (t.block k (Nat.lt_of_lt_of_le hk b.size) h1 h2).trans (b.block k hk)⟩

/-- The bytes l that are held: block h holds the slice v of them, which the call owns. -/
structure Hd (w : World) (B h : Nat) (v : Value) (l : List Int) : Prop where
  hld : w.heap[h]? = some (.cells #[v] 67 (0, 0))
  own : w.ownsRow B 5 1 v l.length (cellsOf l)
  bd : ∀ c ∈ l, 0 ≤ c ∧ c ≤ 255
  low : B ≤ h
theorem Hd.cell {w : World} {B h : Nat} {v : Value} {l : List Int} (H : Hd w B h v l) : w.cell? ⟨h, 0, none⟩ = some v := by simp [World.cell?, H.hld]
theorem Hd.lt {w : World} {B h : Nat} {v : Value} {l : List Int} (H : Hd w B h v l) : h < w.heap.size := (Array.getElem?_eq_some_iff.1 H.hld).1
theorem Hd.bytes {w : World} {B h : Nat} {v : Value} {l : List Int} (H : Hd w B h v l) : ∃ a cap, v = .slice a l.length cap ∧ IsBytes w a l.length cap l := isBytes_own H.own H.bd
theorem own_slice {w : World} {B e n : Nat} {v : Value} {xs : List Value} (h : w.ownsRow B e 1 v n xs) : ∃ a cap, v = .slice a n cap := by
  rcases h.2 with ⟨rfl, rfl⟩ | ⟨g, cap, cur, rfl, _⟩
  · exact ⟨_, _, rfl⟩
  · exact ⟨_, _, rfl⟩
/-- A block of another type is none of the bytes'. -/
theorem own_apart {w : World} {B n k : Nat} {v : Value} {xs : List Value} {c : Array Value} {e : TypeId} {f : Nat × Nat} (h : w.ownsRow B 5 1 v n xs) (hk : w.heap[k]? = some (.cells c e f)) (he : e ≠ 5) : v.ownBlock ≠ some k := by
  intro hv
  rcases h.2 with ⟨rfl, _⟩ | ⟨g, cap, cur, rfl, _, hg, _⟩
  · simp [Value.ownBlock] at hv
  · simp [Value.ownBlock] at hv
    subst hv
    rw [hg] at hk
    simp at hk
    exact he hk.2.1.symm
/-- What is held is held where other blocks turn. -/
theorem Hd.kept {w w' : World} {B h : Nat} {v : Value} {l : List Int} (H : Hd w B h v l) (hh : w'.heap[h]? = w.heap[h]?) (hg : ∀ k, v.ownBlock = some k → w'.heap[k]? = w.heap[k]?) : Hd w' B h v l := by
  refine ⟨hh.trans H.hld, ⟨H.own.1, ?_⟩, H.bd, H.low⟩
  rcases H.own.2 with hn | ⟨g, cap, cur, rfl, hb, hgg, rest⟩
  · exact .inl hn
  · exact .inr ⟨g, cap, cur, rfl, hb, (hg g rfl).trans hgg, rest⟩
theorem Hd.later {w w' : World} {B h : Nat} {v : Value} {l : List Int} (H : Hd w B h v l) (b : Below w.heap.size w w') : Hd w' B h v l :=
  H.kept (b.block h H.lt) fun k hk => b.block k (H.own.lt k hk).2

set_option maxHeartbeats 400000 in
theorem size_held (h len cap : Nat) (a : Option Addr) (w : World) (hc : w.cell? ⟨h, 0, none⟩ = some (.slice a len cap)) :
    Calls Try.prog 34 #[.pointer (some ⟨h, 0, none⟩)] w fun e w' => e = .returned (.int .i64 (len : Int)) ∧ w' = w := by
  go_enter Try.func34, Try.ntmps34
  go_wp2
  go_ret
  exact ⟨rfl, rfl⟩
set_option maxHeartbeats 400000 in
theorem cut_none (h : Nat) (w : World) (hc : w.cell? ⟨h, 0, none⟩ = some (.slice none 0 0)) :
    Calls Try.prog 33 #[.pointer (some ⟨h, 0, none⟩), .int .i64 0, .int .i64 0] w fun e w' => e = .returned (.slice none 0 0) ∧ w' = w := by
  go_enter Try.func33, Try.ntmps33
  go_wp2
  go_ret
  exact ⟨rfl, rfl⟩
set_option maxHeartbeats 400000 in
theorem cut_same (h b len cap i : Nat) (w : World) (hc : w.cell? ⟨h, 0, none⟩ = some (.slice (some ⟨b, 0, none⟩) len cap)) (hj : i ≤ cap) :
    Calls Try.prog 33 #[.pointer (some ⟨h, 0, none⟩), .int .i64 (i : Int), .int .i64 (i : Int)] w fun e w' => e = .returned (.slice (some ⟨b, 0, none⟩) 0 0) ∧ w' = w := by
  go_enter Try.func33, Try.ntmps33
  go_wp2
  go_ret
  exact ⟨rfl, rfl⟩
set_option maxHeartbeats 400000 in
theorem cut_some (h b len cap i j : Nat) (w : World) (hc : w.cell? ⟨h, 0, none⟩ = some (.slice (some ⟨b, 0, none⟩) len cap)) (hij : i < j) (hj : j ≤ cap) :
    Calls Try.prog 33 #[.pointer (some ⟨h, 0, none⟩), .int .i64 (i : Int), .int .i64 (j : Int)] w fun e w' => e = .returned (.slice (some ⟨b, i, none⟩) (j - i) (j - i)) ∧ w' = w := by
  have hne : ¬ j = i := by omega
  go_enter Try.func33, Try.ntmps33
  go_wp2
  go_ret
  exact ⟨rfl, rfl⟩
/-- The bytes from i to j. -/
theorem cut_any {w : World} {B h : Nat} {v : Value} {l : List Int} (H : Hd w B h v l) (i j : Nat) (hij : i ≤ j) (hj : j ≤ l.length) :
    Calls Try.prog 33 #[.pointer (some ⟨h, 0, none⟩), .int .i64 (i : Int), .int .i64 (j : Int)] w fun e w' => ∃ a, e = .returned (.slice a (j - i) (j - i)) ∧ IsBytes w a (j - i) (j - i) ((l.drop i).take (j - i)) ∧ w' = w := by
  have hc := H.cell
  have hr : ∀ k : Nat, 0 ≤ ((l.drop i).take (j - i))[k]?.getD 0 ∧ ((l.drop i).take (j - i))[k]?.getD 0 ≤ 255 := by
    intro k
    by_cases hk : k < ((l.drop i).take (j - i)).length
    · rw [List.getElem?_eq_getElem hk]
      exact H.bd _ (List.mem_of_mem_drop (List.mem_of_mem_take (List.getElem_mem hk)))
    · rw [List.getElem?_eq_none (by omega)]; simp
  have hlen : ((l.drop i).take (j - i)).length = j - i := by simp; omega
  rcases H.own.2 with ⟨rfl, h0⟩ | ⟨g, cap, cur, rfl, _, hg, hle, hm, hsz, ht⟩
  · obtain rfl : j = 0 := by omega
    obtain rfl : i = 0 := by omega
    refine (cut_none h w hc).mono ?_
    rintro e w' ⟨rfl, rfl⟩
    exact ⟨none, rfl, ⟨hlen, Nat.le_refl _, Nat.zero_le _, fun _ => rfl, hr, fun h => by omega⟩, rfl⟩
  · by_cases e : i = j
    · subst e
      refine (cut_same h g _ cap i w hc (by omega)).mono ?_
      rintro e w' ⟨rfl, rfl⟩
      rw [Nat.sub_self] at hlen hr ⊢
      exact ⟨_, rfl, ⟨hlen, Nat.le_refl _, Nat.zero_le _, (by intro h; cases h), hr, fun h => by omega⟩, rfl⟩
    · refine (cut_some h g _ cap i j w hc (by omega) (by omega)).mono ?_
      rintro e w' ⟨rfl, rfl⟩
      refine ⟨_, rfl, ⟨hlen, Nat.le_refl _, by omega, (by intro h; cases h), hr, fun _ => ⟨g, i, rfl, fun k hk => ?_⟩⟩, rfl⟩
      have hk1 : i + k < l.length := by omega
      have hk2 : cur.toList[i + k]? = some (.int .u8 l[i + k]) := by
        have : (cur.toList.take (l.length * 1))[i + k]? = some (.int .u8 l[i + k]) := by rw [ht]; simp [cellsOf, hk1]
        rw [List.getElem?_take] at this
        split at this
        · exact this
        · cases this
      simp at hk2
      simp [World.cell?, hg, hk2, hk1, List.getElem?_drop, hk]
set_option maxHeartbeats 400000 in
/-- bytes.Clone: the same bytes in new memory. -/
theorem clone_any (a : Option Addr) (len cap : Nat) (zs : List Int) (w : World) (h : IsBytes w a len cap zs) (hreach : len ≤ 140737488355328) :
    Calls Try.prog 32 #[.slice a len cap] w fun e w' => ∃ v, e = .returned v ∧ w'.ownsRow w.heap.size 5 1 v len (cellsOf zs) ∧ Below w.heap.size w w' := by
  cases a with
  | none =>
    have h4 := h.2.2.2.1 rfl
    have h2 := h.2.1
    obtain rfl : len = 0 := by omega
    subst h4
    have : zs = [] := List.eq_nil_of_length_eq_zero h.1
    subst this
    clear h
    have he : ∀ w : World, (binOp .eql 22 (.slice none 0 0) (.slice none 0 0)).run Try.prog w = .ok (.bool true) w := fun _ => rfl
    go_enter Try.func32, Try.ntmps32
    go_wp2
    go_ret
    exact ⟨_, rfl, World.ownsRow_nil _ _ _ _, Below.refl _ _⟩
  | some x =>
    have hB0 : Below w.heap.size w (w.alloc (.cells #[] 5)) := (Below.refl _ _).alloc (Nat.le_refl _) _
    have hown0 : (w.alloc (.cells #[] 5)).ownsRow w.heap.size 5 1 (.slice (some ⟨w.heap.size, 0, none⟩) 0 0) 0 (cellsOf []) :=
      ⟨rfl, .inr ⟨w.heap.size, 0, #[], rfl, Nat.le_refl _, heap_alloc_new w _, Nat.le_refl _, Nat.zero_le _, rfl, rfl⟩⟩
    obtain ⟨v1, w1, hrun1, hown1, hg1⟩ := append_in hown0 (h.later hB0) (by simp) (by omega)
    simp only [Nat.zero_add, List.nil_append] at hown1
    have hB1 : Below w.heap.size w w1 := hB0.grown hg1 (by simp) (by intro k hk; simp [Value.ownBlock] at hk; omega)
    have HR1 : Hid (_ = _) := hrun1
    clear h hown0 hB0 hg1 hrun1
    have he : ∀ w : World, (binOp .eql 22 (.slice (some x) len cap) (.slice none 0 0)).run Try.prog w = .ok (.bool false) w := fun _ => rfl
    go_enter Try.func32, Try.ntmps32
    go_wp2_with (first | (at_builtin; refine wpList_append_run rfl (.tmp 5) (.tmp 6) 22 rfl _ _ _ rfl rfl HR1.out ?_))
    go_ret
    exact ⟨_, rfl, hown1, hB1⟩

set_option maxHeartbeats 400000 in
/-- What is added comes behind. -/
theorem add_any {w : World} {B h : Nat} {v : Value} {l : List Int} (H : Hd w B h v l) (hB : B ≤ w.heap.size) (a : Option Addr) (m c : Nat) (ys : List Int) (s : ByteArray) (hy : IsBytes w a m c ys) (hs : l.length + m + s.size ≤ 140737488355328) :
    Calls Try.prog 38 #[.pointer (some ⟨h, 0, none⟩), .slice a m c, .string s] w fun e w' =>
      e = .returned (.tuple #[]) ∧ ∃ v', Hd w' B h v' (l ++ ys ++ bytesS s) ∧ Touch h v.ownBlock w w' ∧ Moved w v v' := by
  obtain ⟨v1, w1, hrun1, hown1, hg1, hm1⟩ := append_to H.own hy hB (by omega)
  obtain ⟨v2, w2, hrun2, hown2, hg2, hm2⟩ := append_text s hown1 (Nat.le_trans hB hg1.size) hs
  obtain ⟨a2, c2, rfl⟩ := own_slice hown2
  have hc := H.cell
  have hv := own_apart H.own H.hld (by decide)
  have h1 : w1.heap[h]? = some (.cells #[v] 67 (0, 0)) := by rw [hg1.block h H.lt (fun e => hv e.symm)]; exact H.hld
  have hv1 := own_apart hown1 h1 (by decide)
  have h2 : w2.heap[h]? = some (.cells #[v] 67 (0, 0)) := by rw [hg2.block h (Array.getElem?_eq_some_iff.1 h1).1 (fun e => hv1 e.symm)]; exact h1
  have hv2 := own_apart hown2 h2 (by decide)
  have hc2 : w2.cell? ⟨h, 0, none⟩ = some v := by simp [World.cell?, h2]
  have hf2 : w2.frozen? ⟨h, 0, none⟩ = false := by simp [World.frozen?, h2]
  have hl1 := hy.1
  have hbd := mem_bd hy.2.2.2.2.1
  have G1 : Hid (w.grownBy w1 v.ownBlock) := hg1
  have G2 : Hid (w1.grownBy w2 v1.ownBlock) := hg2
  have O2 : Hid (w2.ownsRow B 5 1 (.slice a2 (l.length + m + s.size) c2) (l.length + m + s.size) (cellsOf (l ++ ys ++ bytesS s))) := hown2
  have R1 : Hid (_ = _) := hrun1
  have R2 : Hid (_ = _) := hrun2
  have HH : Hid (Hd w B h v l) := H
  clear hg1 hg2 hown1 hown2 hrun1 hrun2 H hy h1
  go_enter Try.func38, Try.ntmps38
  go_wp2_with (first
    | (at_builtin; refine wpList_append_run rfl (.tmp 10) (.tmp 11) 22 rfl _ _ _ rfl rfl R1.out ?_)
    | (at_builtin; refine wpList_append_run2 rfl (.tmp 12) (.tmp 13) 22 9 rfl _ _ _ rfl rfl R2.out ?_))
  refine bodyPost_end (results_none rfl _ _ _) rfl ?_
  have hb1 := G1.out
  have hb2 := G2.out
  have hsz : w2.heap.size = (w2.setCell ⟨h, 0, none⟩ (.slice a2 (l.length + m + s.size) c2)).heap.size := by simp [World.setCell]
  have hg3 : w2.grownBy (w2.setCell ⟨h, 0, none⟩ (.slice a2 (l.length + m + s.size) c2)) (some h) := ⟨rfl, rfl, rfl, by omega, fun k hk hne => Below.heap_setCell _ _ _ _ (fun e => hne (by rw [e]))⟩
  have hlen : (l ++ ys ++ bytesS s).length = l.length + m + s.size := by rw [List.length_append, List.length_append, hl1, bytesS_length]
  have hmv : Moved w v (.slice a2 (l.length + m + s.size) c2) := by
    rcases hm2 with e | e
    · rcases hm1 with e1 | e1
      · exact .inl (e.trans e1)
      · exact .inr fun k hk => e1 k (e ▸ hk)
    · exact .inr fun k hk => Nat.le_trans hb1.size (e k hk)
  refine ⟨rfl, .slice a2 (l.length + m + s.size) c2, ⟨?_, ?_, ?_, HH.out.low⟩, ⟨hb2.os.trans hb1.os, hb2.tape.trans hb1.tape, hb2.output.trans hb1.output, by rw [← hsz]; exact Nat.le_trans hb1.size hb2.size, fun k hk hkh hkr => ?_⟩, hmv⟩
  · simp [World.setCell, Array.getElem?_modify, h2]
  · rw [hlen]
    exact O2.out.kept hg3 (.inr hv2)
  · intro x hx
    rcases List.mem_append.1 hx with hx | hx
    · rcases List.mem_append.1 hx with hx | hx
      · exact HH.out.bd x hx
      · exact hbd x hx
    · exact bytesS_bd s x hx
  · rw [hg3.block k (Nat.lt_of_lt_of_le hk (Nat.le_trans hb1.size hb2.size)) (by simpa using hkh), hb2.block k (Nat.lt_of_lt_of_le hk hb1.size) ?_, hb1.block k hk hkr]
    rcases hm1 with e1 | e1
    · rw [e1]; exact hkr
    · intro e
      have := e1 k e.symm
      omega
end Go.Proofs.Ytabflledggocoaa
