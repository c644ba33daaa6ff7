/-
  Bytes in general: as a string; appended; cloned; what of memory a call turns ('Touch'); where what is owned lies.
-/
import Derived.Test.YtjnkplmcopihbaaRefPut
import Derived.Test.YtjnkplmcopihbaaHeld
import Derived.Lib.AppendStr
namespace Go.Proofs.Ytjnkplmcopihbaa
open Go.RowKit

theorem isBytes_nil (w : World) : IsBytes w none 0 0 [] := ⟨rfl, Nat.le_refl _, Nat.zero_le _, fun _ => rfl, fun j => by simp, fun h => by omega⟩

/-- Bytes that came in, as a string. -/
theorem conv_in {w : World} {a : Option Addr} {len cap : Nat} {ys : List Int} (h : IsBytes w a len cap ys) : (convert 53 9 (.slice a len cap)).run Try.prog w = .ok (.string (strOf ys)) w := by
  obtain ⟨h1, h2, h3, h4, h5, h6⟩ := h
  cases a with
  | none =>
    obtain rfl := h4 rfl
    obtain rfl : len = 0 := by omega
    have : ys = [] := List.eq_nil_of_length_eq_zero h1
    subst this
    exact conv_none w 0 0
  | some x =>
    refine conv_some w x len cap ys h1 fun j v hj => ?_
    have hj' : j < ys.length := by
      have := (List.getElem?_eq_some_iff.1 hj).1
      rwa [cellsOf_length] at this
    obtain ⟨b, off, e, hc⟩ := h6 (by omega)
    cases e
    rw [addr_add, hc j (by omega)]
    simp [cellsOf, hj'] at hj
    simp [hj', hj]
theorem strOf_from (l : List Int) : ∀ r : ByteArray, (l.foldl (fun r n => r.push (UInt8.ofNat n.toNat)) r).size = r.size + l.length := by
  induction l with
  | nil => intro r; rfl
  | cons x l ih => intro r; rw [List.foldl_cons, ih, ByteArray.size_push, List.length_cons]; omega
theorem strOf_size (l : List Int) : (strOf l).size = l.length := by
  rw [strOf, strOf_from]; simp

/-- The bytes of a string. -/
def bytesS (s : ByteArray) : List Int := s.data.toList.map fun b => (b.toNat : Int)
theorem bytesS_length (s : ByteArray) : (bytesS s).length = s.size := by
  rw [bytesS, List.length_map, Array.length_toList]; rfl
theorem bytesS_cells (s : ByteArray) : Lib.strCells s = cellsOf (bytesS s) := by simp [Lib.strCells, cellsOf, bytesS, Function.comp_def]
theorem bytesS_bd (s : ByteArray) : ∀ c ∈ bytesS s, 0 ≤ c ∧ c ≤ 255 := by
  intro c hc
  obtain ⟨b, _, rfl⟩ := List.mem_map.1 hc
  have := b.toNat_lt
  omega

/-- v' lies where v lay, or in new memory. -/
def Moved (w : World) (v v' : Value) : Prop := v'.ownBlock = v.ownBlock ∨ ∀ k, v'.ownBlock = some k → w.heap.size ≤ k

/-- An append of bytes onto what the call owns, and where the outcome lies. -/
theorem append_to {w : World} {base L m c : Nat} {v : Value} {l ys : List Int} {a : Option Addr} (hown : w.ownsRow base 5 1 v L (cellsOf l)) (h : IsBytes w a m c ys) (hb : base ≤ w.heap.size) (hbd : L + m ≤ 140737488355328) :
    ∃ v' w', (Builtin.append_ #[53, 53] 53 #[v, .slice a m c]).run Try.prog w = .ok v' w' ∧ w'.ownsRow base 5 1 v' (L + m) (cellsOf (l ++ ys)) ∧ w.grownBy w' v.ownBlock ∧ Moved w v v' := by
  obtain ⟨v', w', hr, ho, hg⟩ := append_in hown h hb hbd
  refine ⟨v', w', hr, ho, hg, ?_⟩
  rcases hown.2 with ⟨rfl, rfl⟩ | ⟨g, cap, cur, rfl, hbg, hgg, hnc, hcm, hcs, htake⟩
  · have hl0 : l = [] := by have := hown.1; rw [cellsOf_length] at this; exact List.eq_nil_of_length_eq_zero (by omega)
    subst hl0
    obtain ⟨v2, w2, hr2, ho2, _⟩ := append_in (base := w.heap.size) (l := []) (World.ownsRow_nil w w.heap.size 5 1) h (Nat.le_refl _) hbd
    have e := hr.symm.trans hr2
    injection e with e1 e2
    subst e1 e2
    exact .inr fun k hk => (ho2.lt k hk).1
  · obtain ⟨i0, hi, hz0, hz1, hz2⟩ := info_parts info5
    obtain ⟨hl, hmc, hmax, hnil, _, hc⟩ := h
    cases a with
    | none =>
      obtain rfl := hnil rfl
      obtain rfl : m = 0 := by omega
      have e := hr.symm.trans (run_append_owned_none (P := Try.prog) w base 53 53 5 i0 1 Try.underlying53 hi _ L (cellsOf l) hown)
      injection e with e1 e2
      subst e1
      exact .inl rfl
    | some x =>
      have hcell : ∀ j u, (cellsOf ys)[j]? = some u → w.cell? (x.add j) = some u := by
        intro j u hj
        have hjm : j < m := by
          have := (List.getElem?_eq_some_iff.1 hj).1
          rw [cellsOf_length] at this
          omega
        obtain ⟨b, off, e, hcc⟩ := hc (by omega)
        cases e
        rw [addr_add, hcc j hjm]
        have hj' : j < ys.length := by omega
        simp [cellsOf, hj'] at hj
        simp [hj', hj]
      by_cases hroom : L + m ≤ cap
      · have e := hr.symm.trans (run_append_room (P := Try.prog) w 53 53 5 i0 Try.underlying53 hi g L cap cur hgg x m c (cellsOf ys) (by rw [cellsOf_length, hz1]; omega) hcell (ints_oneCell .u8 ys) hroom (by rw [hz1, cellsOf_length]; omega))
        injection e with e1 e2
        subst e1
        exact .inl rfl
      · have holds : ∀ j u, (cellsOf l)[j]? = some u → w.cell? ((⟨g, 0, none⟩ : Addr).add j) = some u := hown.cells (g := g) rfl
        have e := hr.symm.trans (run_append_grow (P := Try.prog) w 53 53 5 i0 (.int .u8 0) Try.underlying53 hi hz0 ⟨g, 0, none⟩ L cap (cellsOf l) (by rw [hz1]; exact hown.1) holds x m c (cellsOf ys) (by rw [cellsOf_length, hz1]; omega) hcell (by omega) (by unfold maxLen at hcm; omega) (by rw [hz2]; exact growslice_fits (by omega) (by omega)))
        injection e with e1 e2
        subst e1
        refine .inr fun k hk => ?_
        cases hk
        exact Nat.le_refl _
/-- An append of a string likewise. -/
theorem append_text {w : World} {base L : Nat} {v : Value} {l : List Int} (s : ByteArray) (hown : w.ownsRow base 5 1 v L (cellsOf l)) (hb : base ≤ w.heap.size) (hbd : L + s.size ≤ 140737488355328) :
    ∃ v' w', (Builtin.append_ #[53, 9] 53 #[v, .string s]).run Try.prog w = .ok v' w' ∧ w'.ownsRow base 5 1 v' (L + s.size) (cellsOf (l ++ bytesS s)) ∧ w.grownBy w' v.ownBlock ∧ Moved w v v' := by
  obtain ⟨i0, hi, hz0, hz1, hz2⟩ := info_parts info5
  obtain ⟨v', w', hr, ho, hg, _⟩ := Lib.run_append_own_string (P := Try.prog) w base 53 9 53 5 i0 Try.underlying53 Try.underlying9 hi hz0 hz1 hz2 v L (cellsOf l) hown s (by unfold maxLen; omega) hbd hb
  rw [bytesS_cells, ← cellsOf_append] at ho
  refine ⟨v', w', hr, ho, hg, ?_⟩
  rcases hown.2 with ⟨rfl, rfl⟩ | ⟨g, cap, cur, rfl, hbg, hgg, hnc, hcm, hcs, htake⟩
  · have hl0 : l = [] := by have := hown.1; rw [cellsOf_length] at this; exact List.eq_nil_of_length_eq_zero (by omega)
    subst hl0
    obtain ⟨v2, w2, hr2, ho2, _⟩ := Lib.run_append_own_string (P := Try.prog) w w.heap.size 53 9 53 5 i0 Try.underlying53 Try.underlying9 hi hz0 hz1 hz2 (.slice none 0 0) 0 [] (World.ownsRow_nil w w.heap.size 5 1) s (by unfold maxLen; omega) hbd (Nat.le_refl _)
    have e := hr.symm.trans hr2
    injection e with e1 e2
    subst e1 e2
    exact .inr fun k hk => (ho2.lt k hk).1
  · by_cases hroom : L + s.size ≤ cap
    · have e := hr.symm.trans (Lib.run_append_room_string (P := Try.prog) w 53 9 53 5 i0 Try.underlying53 Try.underlying9 hi hz1 g L cap cur hgg s hroom (by omega))
      injection e with e1 e2
      subst e1
      exact .inl rfl
    · have holds : ∀ j u, (cellsOf l)[j]? = some u → w.cell? ((⟨g, 0, none⟩ : Addr).add j) = some u := hown.cells (g := g) rfl
      have e := hr.symm.trans (Lib.run_append_grow_string (P := Try.prog) w 53 9 53 5 i0 (.int .u8 0) Try.underlying53 Try.underlying9 hi hz0 ⟨g, 0, none⟩ L cap (cellsOf l) (by rw [hz1]; exact hown.1) holds s (by omega) (by unfold maxLen at hcm; omega) (by rw [hz2]; exact growslice_fits (by omega) (by omega)))
      injection e with e1 e2
      subst e1
      refine .inr fun k hk => ?_
      cases hk
      exact Nat.le_refl _
/-- An append in a walk, by its run; of whatever two types. -/
theorem wpList_append_run2 {P : Program} {w w' : World} {ops : Array Oper} {rest : List Oper} {o : Oper} {a : Act} {Q : Exit → Act → World → Prop} (hg : o.guard = none) (s x : Operand) (t u : TypeId)
    (hop : o.op = Op.call { callee := Callee.builtin Builtin.append, args := #[s, x], argTypes := #[t, u] }) (v y v' : Value) (hs : a.eval s = v) (hx : a.eval x = y)
    (hrun : (Builtin.append_ #[t, u] o.type #[v, y]).run P w = .ok v' w') (hK : wpList P ops Q rest (a.put o.dst v') w') : wpList P ops Q (o :: rest) a w := by
  refine wpList_plain hg fun K hK' => ?_
  unfold Oper.wp
  simp [execOp, hop, resolve, invoke, builtin, hs, hx, hrun, Result.andThen]
  exact hK' _ _ hK

/-- Of what was there nothing turns but block h and block r. -/
structure Touch (h : Nat) (r : Option Nat) (w w' : World) : Prop where
  os : w'.os = w.os
  tape : w'.tape = w.tape
  output : w'.output = w.output
  size : w.heap.size ≤ w'.heap.size
  block : ∀ k, k < w.heap.size → k ≠ h → some k ≠ r → w'.heap[k]? = w.heap[k]?
theorem Touch.of {h : Nat} {r : Option Nat} {w w' : World} (b : Below w.heap.size w w') : Touch h r w w' := ⟨b.os, b.tape, b.output, b.size, fun k hk _ _ => b.block k hk⟩
theorem Touch.below {h B : Nat} {r : Option Nat} {w w' : World} (t : Touch h r w w') (hB : B ≤ w.heap.size) (hh : B ≤ h) (hr : ∀ k, r = some k → B ≤ k) : Below B w w' :=
  ⟨t.os, t.tape, t.output, t.size, fun k hk => t.block k (by omega) (by omega) (fun e => by have := hr k e.symm; omega)⟩
theorem Touch.grown {h : Nat} {r : Option Nat} {w w' : World} (t : Touch h r w w') (hh : ∀ k, r = some k → k = h) : w.grownBy w' (some h) :=
  ⟨t.os, t.tape, t.output, t.size, fun k hk hne => t.block k hk (fun e => hne (by rw [e])) (fun e => hne (by rw [hh k e.symm]))⟩
/-- First what was there is kept, then a touch. -/
theorem Touch.after {h : Nat} {r : Option Nat} {w w1 w2 : World} (b : Below w.heap.size w w1) (t : Touch h r w1 w2) : Touch h r w w2 :=
  ⟨t.os.trans b.os, t.tape.trans b.tape, t.output.trans b.output, Nat.le_trans b.size t.size, fun k hk h1 h2 => (t.block k (Nat.lt_of_lt_of_le hk b.size) h1 h2).trans (b.block k hk)⟩

theorem own_slice {w : World} {B e n : Nat} {v : Value} {xs : List Value} (h : w.ownsRow B e 1 v n xs) : ∃ a cap, v = .slice a n cap := by
  rcases h.2 with ⟨rfl, rfl⟩ | ⟨g, cap, cur, rfl, _⟩
  · exact ⟨_, _, rfl⟩
  · exact ⟨_, _, rfl⟩
/-- A block of another type is none of the bytes'. -/
theorem own_apart {w : World} {B n k : Nat} {v : Value} {xs : List Value} {c : Array Value} {e : TypeId} {f : Nat × Nat} (h : w.ownsRow B 5 1 v n xs) (hk : w.heap[k]? = some (.cells c e f)) (he : e ≠ 5) : v.ownBlock ≠ some k := by
  intro hv
  rcases h.2 with ⟨rfl, _⟩ | ⟨g, cap, cur, rfl, _, hg, _⟩
  · simp [Value.ownBlock] at hv
  · simp [Value.ownBlock] at hv
    subst hv
    rw [hg] at hk
    simp at hk
    exact he hk.2.1.symm
set_option maxRecDepth 100000 in
set_option maxHeartbeats 400000 in
/-- bytes.Clone: the same bytes in new memory. -/
theorem clone_any (a : Option Addr) (len cap : Nat) (zs : List Int) (w : World) (h : IsBytes w a len cap zs) (hreach : len ≤ 140737488355328) :
    Calls Try.prog 33 #[.slice a len cap] w fun e w' => ∃ v, e = .returned v ∧ w'.ownsRow w.heap.size 5 1 v len (cellsOf zs) ∧ Below w.heap.size w w' := by
  cases a with
  | none =>
    have h4 := h.2.2.2.1 rfl
    have h2 := h.2.1
    obtain rfl : len = 0 := by omega
    subst h4
    have : zs = [] := List.eq_nil_of_length_eq_zero h.1
    subst this
    clear h
    have he : ∀ w : World, (binOp .eql 53 (.slice none 0 0) (.slice none 0 0)).run Try.prog w = .ok (.bool true) w := fun _ => rfl
    go_enter Try.func33, Try.ntmps33
    go_wp2
    go_ret
    exact ⟨_, rfl, World.ownsRow_nil _ _ _ _, Below.refl _ _⟩
  | some x =>
    have hB0 : Below w.heap.size w (w.alloc (.cells #[] 5)) := (Below.refl _ _).alloc (Nat.le_refl _) _
    have hown0 : (w.alloc (.cells #[] 5)).ownsRow w.heap.size 5 1 (.slice (some ⟨w.heap.size, 0, none⟩) 0 0) 0 (cellsOf []) :=
      ⟨rfl, .inr ⟨w.heap.size, 0, #[], rfl, Nat.le_refl _, heap_alloc_new w _, Nat.le_refl _, Nat.zero_le _, rfl, rfl⟩⟩
    obtain ⟨v1, w1, hrun1, hown1, hg1⟩ := append_in hown0 (h.later hB0) (by simp) (by omega)
    simp only [Nat.zero_add, List.nil_append] at hown1
    have hB1 : Below w.heap.size w w1 := hB0.grown hg1 (by simp) (by intro k hk; simp [Value.ownBlock] at hk; omega)
    have HR1 : Hid (_ = _) := hrun1
    clear h hown0 hB0 hg1 hrun1
    have he : ∀ w : World, (binOp .eql 53 (.slice (some x) len cap) (.slice none 0 0)).run Try.prog w = .ok (.bool false) w := fun _ => rfl
    go_enter Try.func33, Try.ntmps33
    go_wp2_with (first | (at_builtin; refine wpList_append_run rfl (.tmp 5) (.tmp 6) 53 rfl _ _ _ rfl rfl HR1.out ?_))
    go_ret
    exact ⟨_, rfl, hown1, hB1⟩

end Go.Proofs.Ytjnkplmcopihbaa
