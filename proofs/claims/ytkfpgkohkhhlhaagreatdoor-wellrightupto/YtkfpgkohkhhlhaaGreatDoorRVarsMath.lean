/-
  How many names there are; of no function.
  query.Names.
  query's clauses: what each method tells.
  query's clauses: the conditions, their nodes and kinds, the Key, the Mode, the window.
  query's clauses: the items.
-/
import Derived.Test.YtkfpgkohkhhlhaaGreatDoorRBrief
import Derived.Test.YtkfpgkohkhhlhaaGreatDoorRValOrder
import Derived.Test.YtkfpgkohkhhlhaaGreatDoorRExprSort
import Derived.Test.YtkfpgkohkhhlhaaGreatDoorRWlAs
import Derived.Test.YtkfpgkohkhhlhaaGreatDoorRPatBase
import Derived.Test.YtkfpgkohkhhlhaaGreatDoorRPatVars
import Derived.Test.YtkfpgkohkhhlhaaGreatDoorRExprRightPartsD
import Derived.Test.YtkfpgkohkhhlhaaGreatDoorRPatCheck
import Derived.Test.YtkfpgkohkhhlhaaGreatDoorRExprAlone
import Derived.Maps.OwnSet
namespace Go.Proofs.YtkfpgkohkhhlhaaGreatDoor
open Go.RowKit

theorem intoAll_snoc (s : ByteArray) : ∀ (m l : List ByteArray), intoAll l (m ++ [s]) = intoL s (intoAll l m)
  | [], l => rfl
  | a :: m, l => by
    show intoAll (intoL a l) (m ++ [s]) = intoL s (intoAll (intoL a l) m)
    exact intoAll_snoc s m _
theorem into_len (s : ByteArray) : ∀ l : List ByteArray, (intoL s l).length ≤ l.length + 1
  | [] => by simp [intoL]
  | a :: l => by
    have := into_len s l
    simp only [intoL]
    split
    · simp
    · split
      · simp
      · simp; omega
theorem intoAll_len : ∀ (m l : List ByteArray), (intoAll l m).length ≤ l.length + m.length
  | [], l => by simp [intoAll]
  | a :: m, l => by
    have h1 := intoAll_len m (intoL a l)
    have h2 := into_len a l
    simp only [intoAll, List.length_cons]
    omega
theorem accN_len (l : List ByteArray) (f : Nat → List ByteArray) (g : Nat → Nat) : ∀ n, (∀ i, i < n → (f i).length ≤ g i) → (accN l f n).length ≤ l.length + sumN g n
  | 0, _ => by simp [accN, sumN]
  | n + 1, h => by
    have h1 := accN_len l f g n fun i hi => h i (by omega)
    have h2 := h n (by omega)
    have h3 := intoAll_len (f n) (accN l f n)
    simp only [accN, sumN]
    omega
theorem vars_len : ∀ x : X, (varsX x).length ≤ x.size := by
  refine X.ind fun x ih => ?_
  rw [varsX_eq, x.size_eq]
  have h := accN_len (if x.k = 2 then [x.s] else []) (fun i => varsX (x.c i)) (fun i => (x.c i).size) x.n ih
  have h1 : (if x.k = 2 then [x.s] else ([] : List ByteArray)).length ≤ 1 := by split <;> simp
  omega
theorem take_snoc (l : List ByteArray) (k : Nat) (h : k < l.length) : l.take (k + 1) = l.take k ++ [atS l k] := by
  rw [List.take_add_one]
  simp [atS, h]
theorem cnt_small : ∀ n : Nat, n ≤ 1048576 → cnt n = n
  | 0, _ => rfl
  | n + 1, h => by
    simp only [cnt]
    rw [cnt_small n (by omega), wrap64]
    omega
end Go.Proofs.YtkfpgkohkhhlhaaGreatDoor
namespace Go.Proofs.YtkfpgkohkhhlhaaGreatDoor
open Go.RowKit Go.Maps Go.WideMaps Go.Sort

/-- The names of a pattern, each once, as they come first. -/
def namesP (x : Pt) : List ByteArray := (firstL (usesP x)).map (·.s)
/-- All names that a query has. -/
def allV (q : Qy) : List ByteArray := (namesP q.p ++ varsX q.x) ++ lstS (fun i => (q.it i).s) q.m
/-- Each once, by bytes. -/
def namesQ (q : Qy) : List ByteArray := intoAll [] (allV q)
theorem namesQ_mem (q : Qy) (s : ByteArray) : s ∈ namesQ q ↔ s ∈ allV q := by rw [namesQ, mem_intoAll]; simp
theorem namesQ_sorted (q : Qy) : Sorted (namesQ q) := sorted_intoAll _ _ trivial
/-- What the map tells. -/
structure Hs (L : List ByteArray) (D : DataW Unit) : Prop where
  has : ∀ s, Maps.has D (keyS s) = true ↔ s ∈ L
  le : Maps.size D ≤ L.length
theorem hs_none : Hs [] (.map []) := ⟨fun s => by simp [Maps.has_eq], Nat.le_refl _⟩
theorem Hs.more {L : List ByteArray} {D : DataW Unit} (h : Hs L D) (hm : IsMap D) (ht : Tidy D) (s : ByteArray) (d : DataW Unit) : Hs (L ++ [s]) (D.put (keyS s) d) := by
  refine ⟨fun t => ?_, ?_⟩
  · by_cases e : s = t
    · subst e
      rw [has_put_same hm (by simp [WideAt.IsKeyLit])]
      simp
    · rw [has_put_other (keyS_ne fun q => e q.symm), h.has]
      simp [show ¬ t = s from fun q => e q.symm]
  · rw [size_put (k := keyS s) ht d, List.length_append]
    have := h.le
    split <;> simp <;> omega
abbrev RU : Value → Option (DataW Unit × List MemPlace) := fun _ => some (.nil, [])
theorem Lb.grown {N M : Nat} {W W' : World} (h : W.grownBy W' (some M)) (hN : N ≤ W.heap.size) : Lb N M W W' :=
  ⟨h.os, h.tape, h.output, h.size, fun k hk hne => h.block k (by omega) fun e => hne (by cases e; rfl)⟩
/-- Some texts more behind a row that the call owns. -/
theorem push_strs {w : World} {base : Nat} {v : Value} {l : List ByteArray} (h : w.ownsRow base 9 1 v l.length (cellsS l)) (hb : base ≤ w.heap.size) (a : Option Addr) (m k : Nat) (S : Nat → ByteArray) (hT : Txs w a m S) (hn : l.length + m ≤ 16777216) :
    ∃ v' w', (Builtin.append_ #[37, 37] 37 #[v, .slice a m k]).run Tryz.prog w = .ok v' w' ∧ w'.ownsRow base 9 1 v' (l ++ lstS S m).length (cellsS (l ++ lstS S m)) ∧ w.grownBy w' v.ownBlock := by
  obtain ⟨i0, hi, hz0, hz1, hz2⟩ := info_parts infoS
  have hcs : cellsS (l ++ lstS S m) = cellsS l ++ cellsS (lstS S m) := by simp [cellsS]
  have hll : (cellsS (lstS S m)).length = m * 1 := by simp [cellsS, lstS_len]
  rw [List.length_append, lstS_len, hcs]
  cases a with
  | some p =>
    obtain ⟨v', w', hrun, hown', hgrow, _⟩ := run_append_own (P := Tryz.prog) (w := w) base 37 37 9 i0 (.string ⟨#[]⟩) 1 16 Tryz.underlying37 hi hz0 hz1 hz2 rfl (by decide) v _ _ h p m k (cellsS (lstS S m)) hll
      (fun j u hu => by
        have hj : j < m := by have := (List.getElem?_eq_some_iff.1 hu).1; rw [hll] at this; omega
        obtain ⟨b, o, e, hc⟩ := hT (by omega)
        cases e
        have hj' : (lstS S m)[j]? = some (S j) := by
          have : ∀ n, j < n → (lstS S n)[j]? = some (S j) := by
            intro n
            induction n with
            | zero => intro h; omega
            | succ n ih =>
              intro h
              rw [lstS]
              by_cases e : j = n
              · subst e
                rw [List.getElem?_append_right (by rw [lstS_len]; omega), lstS_len]
                simp
              · rw [List.getElem?_append_left (by rw [lstS_len]; omega)]
                exact ih (by omega)
          exact this m hj
        rw [cellsS, List.getElem?_map, hj'] at hu
        cases hu
        rw [add_none]
        exact hc j hj) (fun u hu => by simp [cellsS] at hu; obtain ⟨s, _, rfl⟩ := hu; rfl) (by unfold maxLen; omega) (by omega) hb
    exact ⟨v', w', hrun, hown', hgrow⟩
  | none =>
    have h0 : m = 0 := by
      by_cases h0 : 0 < m
      · obtain ⟨b, o, e, _⟩ := hT h0
        cases e
      · omega
    subst h0
    refine ⟨v, w, ?_, by simpa [lstS, cellsS] using h, ⟨rfl, rfl, rfl, Nat.le_refl _, fun _ _ _ => rfl⟩⟩
    obtain ⟨a, cap, rfl, -, -, h1⟩ := own_txs h
    have ht : Tryz.prog.underlying 37 = some (.slice 9) := Tryz.underlying37
    cases a <;> simp [Builtin.append_, run_underlying ht, sizeOf, typeInfo, hi, Builtin.lenOf, Builtin.firstCells, h1, storeCells]
theorem has_ok {s : ByteArray} : ∀ {x : X}, XOk x → hasVar s x → s.size ≤ maxLen := by
  refine @(X.ind fun x ih hok h => ?_)
  rw [xOk_eq] at hok
  rcases (hasVar_eq s x).1 h with ⟨_, rfl⟩ | ⟨i, hi, h⟩
  · exact hok.1
  · exact ih i hi (hok.2.2 i hi) h
theorem allV_ok {q : Qy} (hok : QOk q) : ∀ s ∈ allV q, s.size ≤ maxLen := by
  intro s hs
  rw [allV, List.mem_append, List.mem_append] at hs
  rcases hs with (hs | hs) | hs
  · obtain ⟨y, hy, rfl⟩ := List.mem_map.1 hs
    exact (uses_ok hok.p y (mem_firstL hy)).1
  · exact has_ok hok.x ((mem_vars _ _).1 hs)
  · obtain ⟨j, hj, rfl⟩ := (lstS_mem _ _ _).1 hs
    exact (hok.it j hj).2.1
theorem uses_len : ∀ x : Pt, (usesP x).length ≤ x.size := by
  refine Pt.ind fun x ih => ?_
  rw [usesP_eq, x.size_eq, List.length_append]
  have h1 : (catN (fun i => usesP (x.c i)) x.n).length ≤ sumN (fun i => (x.c i).size) x.n := by
    have : ∀ n, n ≤ x.n → (catN (fun i => usesP (x.c i)) n).length ≤ sumN (fun i => (x.c i).size) n := by
      intro n
      induction n with
      | zero => intro _; exact Nat.le_refl _
      | succ n ihn => intro h; rw [catN, sumN, List.length_append]; have := ih n (by omega); have := ihn (by omega); omega
    exact this _ (Nat.le_refl _)
  split <;> simp <;> omega
theorem namesP_len (x : Pt) : (namesP x).length ≤ x.size := by
  rw [namesP, List.length_map]
  exact Nat.le_trans (length_firstL _) (uses_len x)
end Go.Proofs.YtkfpgkohkhhlhaaGreatDoor
namespace Go.Proofs.YtkfpgkohkhhlhaaGreatDoor
open Go.RowKit Go.Maps Go.WideMaps

theorem qat0 {W : World} {b : Nat} {q : Qy} {t : TypeId} (h : W.heap[b]? = some (.cells q.cells t (0, 0))) : (W.cell? ⟨b, 0, none⟩ = some (.int .i64 q.p.k) ∧ W.cell? ⟨b, 1, none⟩ = some (.string q.p.s) ∧ W.cell? ⟨b, 2, none⟩ = some (.string q.p.t) ∧ W.cell? ⟨b, 3, none⟩ = some (.int .i64 q.p.lo) ∧
    W.cell? ⟨b, 4, none⟩ = some (.int .i64 q.p.hi) ∧ W.cell? ⟨b, 5, none⟩ = some (.slice q.p.a q.p.n q.p.cap)) ∧ W.cell? ⟨b, 6, none⟩ = some (.slice q.a q.n q.cap) ∧ W.cell? ⟨b, 7, none⟩ = some (.string q.key) ∧ W.cell? ⟨b, 8, none⟩ = some (.int .i64 q.mode) ∧
    W.cell? ⟨b, 9, none⟩ = some (.int .i64 q.win) ∧ W.cell? ⟨b, 10, none⟩ = some (.slice q.ia q.m q.icap) := by
  refine ⟨⟨?_, ?_, ?_, ?_, ?_, ?_⟩, ?_, ?_, ?_, ?_, ?_⟩ <;> simp [World.cell?, h]
open Classical in
/-- What expr.Check answers. -/
noncomputable def chkX (x : X) : Int := if 100 < x.size then 2 else if TreeR x then 0 else 1
theorem chkX_of {x : X} {r : Int} (h : ChkX x r) : r = chkX x := by
  unfold chkX
  rcases h with ⟨h1, h2⟩ | ⟨h1, h2, h3⟩ | ⟨h1, h2, h3⟩
  · rw [if_pos h1]; exact h2
  · rw [if_neg (by omega), if_pos h2]; exact h3
  · rw [if_neg (by omega), if_neg h2]; exact h3
/-- Is an item right? -/
def rightI (x : It) : Bool := nameB x.nm && (nameB x.s && (decide (1 ≤ x.k) && (decide (x.k ≤ 4) && (if x.k = 3 then decide (x.f = ⟨#[]⟩) else nameB x.f))))
/-- Are all items right, and has each a Name of its own? -/
def ItemsR (q : Qy) (n : Nat) : Prop := (∀ i, i < n → rightI (q.it i) = true) ∧ ∀ i, i < n → ∀ j, j < i → (q.it j).nm ≠ (q.it i).nm
def argB (b : Bool) : Int := if b = true then 0 else 1
def cl1 (q : Qy) : Int := chkP q.p
def cl2 (q : Qy) : Int := if 16 < q.n ∨ 16 < q.m then 2 else 0
/-- The first that is not 0. -/
noncomputable def cl3 (q : Qy) : Int := lexN (fun i => chkX (q.c i)) q.n
def cl4 (q : Qy) : Int := if 100 < q.x.size then 2 else 0
open Classical in
noncomputable def cl5 (q : Qy) : Int := if ∃ i, i < q.n ∧ (q.c i).k = 16 then 1 else 0
def cl6 (q : Qy) : Int := argB (decide (q.key = ⟨#[]⟩) || nameB q.key)
def cl7 (q : Qy) : Int := argB (decide (0 ≤ q.mode) && decide (q.mode ≤ 2))
def cl8 (q : Qy) : Int := argB (decide (0 ≤ q.win) && decide (q.win ≤ 1099511627776))
open Classical in
noncomputable def cl9 (q : Qy) : Int := if ItemsR q q.m then 0 else 1
set_option maxRecDepth 100000 in
theorem argument_any (b : Bool) (w : World) : Calls Tryz.prog 100 #[.bool b] w fun e w' => e = .returned (.int .i64 (argB b)) ∧ Below w.heap.size w w' := by
  cases b
  · go_enter Tryz.func100, Tryz.ntmps100
    go_wp2
    go_ret
    exact ⟨rfl, Below.refl _ _⟩
  · go_enter Tryz.func100, Tryz.ntmps100
    go_wp2
    go_ret
    exact ⟨rfl, Below.refl _ _⟩
set_option maxRecDepth 100000 in
set_option maxHeartbeats 4000000 in
theorem cl1_any (q : Qy) (w : World) (hQ : IsQ w q) (_ : QOk q) (hsm : q.bulk ≤ 1048576) : Calls Tryz.prog 45 #[q.val] w fun e w' => e = .returned (.int .i64 (cl1 q)) ∧ Below w.heap.size w w' := by
  have hb := hsm
  unfold Qy.bulk at hb
  have hB : Below w.heap.size w (w.alloc (.cells q.cells 95)) := (Below.refl _ w).alloc (Nat.le_refl _) _
  have hx0 := alloc_new w (.cells q.cells 95)
  obtain ⟨⟨k0, k1, k2, k3, k4, k5⟩, k6, k7, k8, k9, k10⟩ := qat0 hx0
  have HB : Hid (Below w.heap.size w (w.alloc (.cells q.cells 95))) := hB
  have C1 : Hid (Calls Tryz.prog 54 #[q.p.val] (w.alloc (.cells q.cells 95)) _) := checkP_any q.p _ (hQ.p.later hB) (by omega)
  clear hQ hsm hB hx0
  go_enter Tryz.func45, Tryz.ntmps45
  go_wp2_with (first | (go_at_call 54; refine C1.out.mono ?_; rintro e w1 ⟨rfl, hB1⟩))
  go_ret
  exact ⟨rfl, HB.out.trans (hB1.mono HB.out.size)⟩
set_option maxRecDepth 100000 in
set_option maxHeartbeats 4000000 in
theorem cl2_any (q : Qy) (w : World) (_ : IsQ w q) (_ : QOk q) (hsm : q.bulk ≤ 1048576) : Calls Tryz.prog 46 #[q.val] w fun e w' => e = .returned (.int .i64 (cl2 q)) ∧ Below w.heap.size w w' := by
  have hb := hsm
  unfold Qy.bulk at hb
  have hB : Below w.heap.size w (w.alloc (.cells q.cells 95)) := (Below.refl _ w).alloc (Nat.le_refl _) _
  have hx0 := alloc_new w (.cells q.cells 95)
  obtain ⟨⟨k0, k1, k2, k3, k4, k5⟩, k6, k7, k8, k9, k10⟩ := qat0 hx0
  have HB : Hid (Below w.heap.size w (w.alloc (.cells q.cells 95))) := hB
  have HR : Hid (∀ h1 : 16 < q.n, cl2 q = 2) := fun h1 => if_pos (.inl h1)
  have HR2 : Hid (∀ h1 : 16 < q.m, cl2 q = 2) := fun h1 => if_pos (.inr h1)
  have HR3 : Hid (∀ (h1 : ¬ 16 < q.n) (h2 : ¬ 16 < q.m), cl2 q = 0) := fun h1 h2 => if_neg (by omega)
  obtain ⟨v, hv⟩ : ∃ v, v = cl2 q := ⟨_, rfl⟩
  rw [← hv] at HR HR2 HR3 ⊢
  clear hsm hB hx0 hv
  by_cases h1 : 16 < q.n
  · rw [HR.out h1]
    clear HR HR2 HR3
    have t1 : ((16 : Int) < ((q.n : Nat) : Int)) := by omega
    clear h1
    go_enter Tryz.func46, Tryz.ntmps46
    go_wp2
    go_ret
    exact ⟨rfl, HB.out⟩
  · have t1 : ¬ ((16 : Int) < ((q.n : Nat) : Int)) := by omega
    by_cases h2 : 16 < q.m
    · rw [HR2.out h2]
      clear HR HR2 HR3
      have t2 : ((16 : Int) < ((q.m : Nat) : Int)) := by omega
      clear h1 h2
      go_enter Tryz.func46, Tryz.ntmps46
      go_wp2
      go_ret
      exact ⟨rfl, HB.out⟩
    · rw [HR3.out h1 h2]
      clear HR HR2 HR3
      have t2 : ¬ ((16 : Int) < ((q.m : Nat) : Int)) := by omega
      clear h1 h2
      go_enter Tryz.func46, Tryz.ntmps46
      go_wp2
      go_ret
      exact ⟨rfl, HB.out⟩
end Go.Proofs.YtkfpgkohkhhlhaaGreatDoor
namespace Go.Proofs.YtkfpgkohkhhlhaaGreatDoor
open Go.RowKit

theorem nil_list : (⟨#[]⟩ : ByteArray).toList = [] := by rw [ByteArray.toList_eq]
theorem no_empty {s : ByteArray} (h : ¬ s = ⟨#[]⟩) : (s.toList == []) = false := by
  have := str_not h
  rwa [nil_list] at this
theorem lexN_first {f : Nat → Int} : ∀ {n k : Nat}, k < n → (∀ j, j < k → f j = 0) → f k ≠ 0 → lexN f n = f k
  | 0, _, h, _, _ => by omega
  | n + 1, k, h, hz, hk => by
    rw [lexN]
    by_cases e : k = n
    · subst e
      rw [if_pos (lexN_zero.2 hz)]
    · have := lexN_first (f := f) (show k < n by omega) hz hk
      rw [this, if_neg hk]
set_option maxRecDepth 100000 in
set_option maxHeartbeats 4000000 in
theorem cl3_any (q : Qy) (w : World) (hQ : IsQ w q) (_ : QOk q) (hsm : q.bulk ≤ 1048576) : Calls Tryz.prog 47 #[q.val] w fun e w' => e = .returned (.int .i64 (cl3 q)) ∧ Below w.heap.size w w' := by
  have hb := hsm
  unfold Qy.bulk at hb
  have hB : Below w.heap.size w (w.alloc (.cells q.cells 95)) := (Below.refl _ w).alloc (Nat.le_refl _) _
  have hx0 := alloc_new w (.cells q.cells 95)
  obtain ⟨⟨k0, k1, k2, k3, k4, k5⟩, k6, k7, k8, k9, k10⟩ := qat0 hx0
  have HB : Hid (Below w.heap.size w (w.alloc (.cells q.cells 95))) := hB
  have HI : Hid (∀ i, i < q.n → ∀ W, Below w.heap.size w W → Calls Tryz.prog 98 #[(q.c i).val] W fun e w' => e = .returned (.int .i64 (chkX (q.c i))) ∧ Below W.heap.size W w') := fun i hi W hW => by
    obtain ⟨_, _, _, _, h1⟩ := (hQ.x.later hW).part (x := q.x) hi
    refine (checkX_any _ W h1).mono ?_
    rintro e w' ⟨r, rfl, h2, h3⟩
    have h2' : ChkX (q.c i) r := h2
    rw [← chkX_of h2']
    exact ⟨rfl, h3⟩
  have HF : Hid (∀ k, k < q.n → (∀ j, j < k → chkX (q.c j) = 0) → ¬ chkX (q.c k) = 0 → cl3 q = chkX (q.c k)) := fun k hk hz hn => lexN_first (f := fun i => chkX (q.c i)) hk hz hn
  have HZ : Hid ((∀ j, j < q.n → chkX (q.c j) = 0) → cl3 q = 0) := fun h => lexN_zero.2 h
  obtain ⟨v, hv⟩ : ∃ v, v = cl3 q := ⟨_, rfl⟩
  rw [← hv] at HF HZ ⊢
  have HX : Hid (IsX w q.x) := hQ.x
  have hlen : q.n ≤ 9223372036854775807 := hQ.x.len
  clear hQ hsm hB hx0 hv k0 k1 k2 k3 k4 k5 k7 k8 k9 k10
  go_enter Tryz.func47, Tryz.ntmps47
  go_wp2_with fail
  go_loopw [9] (fun u wr => ∃ k : Nat, k ≤ q.n ∧ u = .int .i64 k ∧ Hid (∀ j, j < k → chkX (q.c j) = 0) ∧ Below w.heap.size w wr) (fun u _ => q.n - (intOf u).toNat)
  case atStart => exact ⟨0, Nat.zero_le _, rfl, fun j hj => absurd hj (Nat.not_lt_zero _), HB.out⟩
  case round =>
    obtain ⟨k, hk, rfl, HK, hBr⟩ := hrel
    clear k6
    by_cases hkn : k < q.n
    · obtain ⟨b, o, ea, hn, -⟩ := (HX.out.later hBr).part hkn
      have ea' : q.a = some ⟨b, o, none⟩ := ea
      rw [ea']
      have hn' : Node wr b (o + k * 7) (q.c k) := hn
      obtain ⟨d0, d1, d2, d3, d4, d5, d6⟩ := hn'
      have hB2 : Below wr.heap.size wr (wr.alloc (.cells (q.c k).cells 54)) := (Below.refl _ _).alloc (Nat.le_refl _) _
      have hbb := hBr.trans (hB2.mono hBr.size)
      have hc := HI.out k hkn _ hbb
      obtain ⟨g0, g1, g2, g3, g4, g5, g6⟩ := (node_new wr 54 (q.c k)).at0
      have HBB : Hid _ := hbb
      have HKN : Hid (k < q.n) := hkn
      obtain ⟨z, hz⟩ : ∃ z, z = chkX (q.c k) := ⟨_, rfl⟩
      rw [← hz] at hc
      have HE : Hid (z = chkX (q.c k)) := hz
      clear hz ea ea' hn hB2 hbb
      by_cases hz0 : z = 0
      · have t : (z != 0) = false := by simp [hz0]
        have HZ0 : Hid (z = 0) := hz0
        clear hz0
        go_wp2_with (first | (go_at_call 98; refine hc.mono ?_; clear hc; rintro e w2 ⟨rfl, hB2⟩))
        refine ⟨⟨k + 1, HKN.out, by simp, fun j hj => ?_, HBB.out.trans (hB2.mono HBB.out.size)⟩, ?_⟩
        · by_cases e : j = k
          · rw [e, ← HE.out]; exact HZ0.out
          · exact HK.out j (by omega)
        · have := HKN.out; simp [intOf]; omega
      · have t : (z != 0) = true := by simp [hz0]
        have HZ0 : Hid (¬ z = 0) := hz0
        clear hz0
        go_wp2_with (first | (go_at_call 98; refine hc.mono ?_; clear hc; rintro e w2 ⟨rfl, hB2⟩))
        try rw [Exit.noGoto_ret]
        go_ret
        exact ⟨by rw [HF.out k HKN.out HK.out (HE.out ▸ HZ0.out), ← HE.out]; rfl, HBB.out.trans (hB2.mono HBB.out.size)⟩
    · obtain rfl : k = q.n := by omega
      go_wp2
      go_ret
      exact ⟨by rw [HZ.out HK.out]; rfl, hBr⟩
set_option maxRecDepth 100000 in
set_option maxHeartbeats 4000000 in
theorem cl4_any (q : Qy) (w : World) (hQ : IsQ w q) (_ : QOk q) (hsm : q.bulk ≤ 1048576) : Calls Tryz.prog 48 #[q.val] w fun e w' => e = .returned (.int .i64 (cl4 q)) ∧ Below w.heap.size w w' := by
  have hb := hsm
  unfold Qy.bulk at hb
  have hB : Below w.heap.size w (w.alloc (.cells q.cells 95)) := (Below.refl _ w).alloc (Nat.le_refl _) _
  have hx0 := alloc_new w (.cells q.cells 95)
  obtain ⟨⟨k0, k1, k2, k3, k4, k5⟩, k6, k7, k8, k9, k10⟩ := qat0 hx0
  have HB : Hid (Below w.heap.size w (w.alloc (.cells q.cells 95))) := hB
  have C1 : Hid (∀ d, Calls Tryz.prog 60 #[.slice q.a q.n q.cap] d _) := fun d => joined_any q.a q.n q.cap q.c d
  have C2 : Hid (∀ d, Below w.heap.size w d → Calls Tryz.prog 99 #[q.x.val] d fun e w' => e = .returned (.int .i64 (q.x.size : Nat)) ∧ Below d.heap.size d w') := fun d h => by
    have := size_any q.x d (hQ.x.later h)
    rw [cnt_small _ (by omega)] at this
    exact this
  have HR : Hid (∀ h1 : 100 < q.x.size, cl4 q = 2) := fun h1 => if_pos h1
  have HR2 : Hid (∀ h1 : ¬ 100 < q.x.size, cl4 q = 0) := fun h1 => if_neg h1
  obtain ⟨v, hv⟩ : ∃ v, v = cl4 q := ⟨_, rfl⟩
  rw [← hv] at HR HR2 ⊢
  obtain ⟨sz, hsz⟩ : ∃ sz, sz = q.x.size := ⟨_, rfl⟩
  rw [← hsz] at HR HR2 C2
  clear hQ hsm hB hx0 hv hb hsz k0 k1 k2 k3 k4 k5 k7 k8 k9 k10
  by_cases h1 : 100 < sz
  · rw [HR.out h1]
    have t1 : ((100 : Int) < ((sz : Nat) : Int)) := by omega
    clear h1 HR HR2
    go_enter Tryz.func48, Tryz.ntmps48
    go_wp2_with (first
      | (go_at_call 60; refine (C1.out _).mono ?_; rintro e w1 ⟨rfl, hB1⟩; have hb1 := HB.out.trans (hB1.mono HB.out.size))
      | (go_at_call 99; refine (C2.out _ hb1).mono ?_; rintro e w2 ⟨rfl, hB2⟩))
    go_ret
    exact ⟨rfl, hb1.trans (hB2.mono hb1.size)⟩
  · rw [HR2.out h1]
    have t1 : ¬ ((100 : Int) < ((sz : Nat) : Int)) := by omega
    clear h1 HR HR2
    go_enter Tryz.func48, Tryz.ntmps48
    go_wp2_with (first
      | (go_at_call 60; refine (C1.out _).mono ?_; rintro e w1 ⟨rfl, hB1⟩; have hb1 := HB.out.trans (hB1.mono HB.out.size))
      | (go_at_call 99; refine (C2.out _ hb1).mono ?_; rintro e w2 ⟨rfl, hB2⟩))
    go_ret
    exact ⟨rfl, hb1.trans (hB2.mono hb1.size)⟩
set_option maxRecDepth 100000 in
theorem kindA_any (z : X) (w : World) : Calls Tryz.prog 102 #[z.val] w fun e w' => e = .returned (.bool (z.k == 16)) ∧ Below w.heap.size w w' := by
  have hB : Below w.heap.size w (w.alloc (.cells z.cells 54)) := (Below.refl _ w).alloc (Nat.le_refl _) _
  have n0 := (node_new w 54 z).at0.1
  have HB : Hid (Below w.heap.size w (w.alloc (.cells z.cells 54))) := hB
  clear hB
  go_enter Tryz.func102, Tryz.ntmps102
  go_wp2
  go_ret
  exact ⟨rfl, HB.out⟩
set_option maxRecDepth 100000 in
set_option maxHeartbeats 1000000 in
theorem kindsA_index (y : X) (w : World) (hY : IsX w y) :
    Calls Tryz.prog 139 #[.slice y.a y.n y.cap, .func (.func 102) #[] #[]] w fun e w' => ∃ r : Int, e = .returned (.int .i64 r) ∧ (0 ≤ r ↔ ∃ i, i < y.n ∧ (y.c i).k = 16) ∧ Below w.heap.size w w' := by
  have HY : Hid (IsX w y) := hY
  have hlen := hY.len
  obtain ⟨a, ha⟩ : ∃ a, a = y.a := ⟨_, rfl⟩
  rw [← ha]
  have HA : Hid (a = y.a) := ha
  clear ha
  clear hY
  go_enter Tryz.func139, Tryz.ntmps139
  go_wp2
  go_loopw [8] (fun u wr => ∃ i : Nat, i ≤ y.n ∧ u = .int .i64 i ∧ Hid (∀ j, j < i → (y.c j).k ≠ 16) ∧ Below w.heap.size w wr) (fun u _ => y.n - (intOf u).toNat)
  case atStart => exact ⟨0, Nat.zero_le _, rfl, fun j hj => by omega, Below.refl _ _⟩
  case round =>
    obtain ⟨i, hi, rfl, HI, hB⟩ := hrel
    by_cases hin : i < y.n
    · obtain ⟨b2, o2, ea, hn, hx⟩ := (HY.out.later hB).part hin
      rw [← HA.out] at ea
      subst ea
      obtain ⟨d0, d1, d2, d3, d4, d5, d6⟩ := hn
      have hc := kindA_any (y.c i) wr
      have HK : Hid (i < y.n) := hin
      clear hx
      by_cases hv : (y.c i).k = 16
      · have hv' : ((y.c i).k == 16) = true := by simpa using hv
        have HV : Hid ((y.c i).k = 16) := hv
        rw [hv'] at hc
        clear hv hv'
        go_wp2_with (go_at_call 102; refine hc.mono ?_; rintro e w2 ⟨rfl, hB2⟩)
        try rw [Exit.noGoto_ret]
        go_ret
        exact ⟨_, rfl, ⟨fun _ => ⟨i, HK.out, HV.out⟩, fun _ => by omega⟩, hB.trans (hB2.mono hB.size)⟩
      · have hv' : ((y.c i).k == 16) = false := by simpa using hv
        have HV : Hid (¬ (y.c i).k = 16) := hv
        rw [hv'] at hc
        clear hv hv'
        go_wp2_with (go_at_call 102; refine hc.mono ?_; rintro e w2 ⟨rfl, hB2⟩)
        go_roundw
        case rel => exact ⟨i + 1, HK.out, by go_num, fun j hj => by by_cases e : j = i; (· rw [e]; exact HV.out); exact HI.out j (by omega), hB.trans (hB2.mono hB.size)⟩
        case measure => have := HK.out; simp [intOf]; omega
    · obtain rfl : i = y.n := by omega
      go_wp2
      go_ret
      refine ⟨_, rfl, ⟨fun h => by omega, fun ⟨j, hj, e⟩ => absurd e (HI.out j hj)⟩, hB⟩
set_option maxRecDepth 100000 in
set_option maxHeartbeats 1000000 in
theorem kindsA_any (y : X) (w : World) (hY : IsX w y) :
    Calls Tryz.prog 101 #[.slice y.a y.n y.cap, .func (.func 102) #[] #[]] w fun e w' => ∃ r : Bool, e = .returned (.bool r) ∧ (r = true ↔ ∃ i, i < y.n ∧ (y.c i).k = 16) ∧ Below w.heap.size w w' := by
  have hc := kindsA_index y w hY
  clear hY
  go_enter Tryz.func101, Tryz.ntmps101
  go_wp2_with (go_at_call 139; refine hc.mono ?_; rintro e w2 ⟨r, rfl, hr, hB2⟩; have HR : Hid (0 ≤ r ↔ ∃ i, i < y.n ∧ (y.c i).k = 16) := hr; clear hr)
  go_ret
  exact ⟨decide (0 ≤ r), rfl, by rw [← HR.out]; simp, hB2⟩
set_option maxRecDepth 100000 in
set_option maxHeartbeats 4000000 in
theorem cl5_any (q : Qy) (w : World) (hQ : IsQ w q) (_ : QOk q) (hsm : q.bulk ≤ 1048576) : Calls Tryz.prog 49 #[q.val] w fun e w' => e = .returned (.int .i64 (cl5 q)) ∧ Below w.heap.size w w' := by
  have hb := hsm
  unfold Qy.bulk at hb
  have hB : Below w.heap.size w (w.alloc (.cells q.cells 95)) := (Below.refl _ w).alloc (Nat.le_refl _) _
  have hx0 := alloc_new w (.cells q.cells 95)
  obtain ⟨⟨k0, k1, k2, k3, k4, k5⟩, k6, k7, k8, k9, k10⟩ := qat0 hx0
  have HB : Hid (Below w.heap.size w (w.alloc (.cells q.cells 95))) := hB
  have C1 : Hid (Calls Tryz.prog 101 #[.slice q.a q.n q.cap, .func (.func 102) #[] #[]] (w.alloc (.cells q.cells 95)) _) := kindsA_any q.x _ (hQ.x.later hB)
  have C2 : Hid (∀ b d, Calls Tryz.prog 100 #[.bool b] d _) := fun b d => argument_any b d
  have HR : Hid (∀ r : Bool, (r = true ↔ ∃ i, i < q.n ∧ (q.c i).k = 16) → cl5 q = argB (!r)) := fun r h => by
    unfold cl5
    cases r with
    | true => rw [if_pos (h.1 rfl)]; rfl
    | false => rw [if_neg (fun e => by have := h.2 e; cases this)]; rfl
  clear hQ hsm hB hx0 k0 k1 k2 k3 k4 k5 k7 k8 k9 k10
  go_enter Tryz.func49, Tryz.ntmps49
  go_wp2_with (first
    | (go_at_call 101; refine C1.out.mono ?_; rintro e w1 ⟨r, rfl, hr, hB1⟩; have HRR : Hid _ := hr; clear hr)
    | (go_at_call 100; refine (C2.out _ _).mono ?_; rintro e w2 ⟨rfl, hB2⟩))
  go_ret
  exact ⟨by rw [HR.out r HRR.out]; rfl, HB.out.trans ((hB1.trans (hB2.mono hB1.size)).mono HB.out.size)⟩
set_option maxRecDepth 100000 in
set_option maxHeartbeats 4000000 in
theorem cl6_any (q : Qy) (w : World) (_ : IsQ w q) (_ : QOk q) (hsm : q.bulk ≤ 1048576) : Calls Tryz.prog 50 #[q.val] w fun e w' => e = .returned (.int .i64 (cl6 q)) ∧ Below w.heap.size w w' := by
  have hb := hsm
  unfold Qy.bulk at hb
  have hB : Below w.heap.size w (w.alloc (.cells q.cells 95)) := (Below.refl _ w).alloc (Nat.le_refl _) _
  have hx0 := alloc_new w (.cells q.cells 95)
  obtain ⟨⟨k0, k1, k2, k3, k4, k5⟩, k6, k7, k8, k9, k10⟩ := qat0 hx0
  have HB : Hid (Below w.heap.size w (w.alloc (.cells q.cells 95))) := hB
  have C1 : Hid (∀ d, Calls Tryz.prog 103 #[.string q.key] d _) := fun d => name_any q.key d
  have C2 : Hid (∀ b d, Calls Tryz.prog 100 #[.bool b] d _) := fun b d => argument_any b d
  have HR : Hid (q.key = ⟨#[]⟩ → cl6 q = argB true) := fun h => by unfold cl6; rw [decide_eq_true h]; rfl
  have HR2 : Hid (¬ q.key = ⟨#[]⟩ → cl6 q = argB (nameB q.key)) := fun h => by unfold cl6; rw [decide_eq_false h]; rfl
  obtain ⟨v, hv⟩ : ∃ v, v = cl6 q := ⟨_, rfl⟩
  rw [← hv] at HR HR2 ⊢
  clear hsm hB hx0 hv k0 k1 k2 k3 k4 k5 k6 k8 k9 k10
  by_cases h1 : q.key = ⟨#[]⟩
  · have t1 : (q.key.toList == []) = true := by rw [h1, nil_list]; rfl
    have HV := HR.out h1
    clear h1 HR HR2 C1
    go_enter Tryz.func50, Tryz.ntmps50
    go_wp2_with (first
      | (go_at_call 100; refine (C2.out _ _).mono ?_; rintro e w2 ⟨rfl, hB2⟩))
    go_ret
    exact ⟨by rw [HV]; rfl, HB.out.trans (hB2.mono HB.out.size)⟩
  · have t1 : (q.key.toList == []) = false := no_empty h1
    have HV := HR2.out h1
    clear h1 HR HR2
    go_enter Tryz.func50, Tryz.ntmps50
    go_wp2_with (first
      | (go_at_call 103; refine (C1.out _).mono ?_; rintro e w1 ⟨rfl, hB1⟩)
      | (go_at_call 100; refine (C2.out _ _).mono ?_; rintro e w2 ⟨rfl, hB2⟩))
    go_ret
    exact ⟨by rw [HV]; rfl, HB.out.trans ((hB1.trans (hB2.mono hB1.size)).mono HB.out.size)⟩
set_option maxRecDepth 100000 in
set_option maxHeartbeats 4000000 in
theorem cl7_any (q : Qy) (w : World) (_ : IsQ w q) (_ : QOk q) (hsm : q.bulk ≤ 1048576) : Calls Tryz.prog 51 #[q.val] w fun e w' => e = .returned (.int .i64 (cl7 q)) ∧ Below w.heap.size w w' := by
  have hb := hsm
  unfold Qy.bulk at hb
  have hB : Below w.heap.size w (w.alloc (.cells q.cells 95)) := (Below.refl _ w).alloc (Nat.le_refl _) _
  have hx0 := alloc_new w (.cells q.cells 95)
  obtain ⟨⟨k0, k1, k2, k3, k4, k5⟩, k6, k7, k8, k9, k10⟩ := qat0 hx0
  have HB : Hid (Below w.heap.size w (w.alloc (.cells q.cells 95))) := hB
  have C2 : Hid (∀ b d, Calls Tryz.prog 100 #[.bool b] d _) := fun b d => argument_any b d
  have HR : Hid (0 ≤ q.mode → cl7 q = argB (decide (q.mode ≤ 2))) := fun h => by unfold cl7; rw [decide_eq_true h]; rfl
  have HR2 : Hid (¬ 0 ≤ q.mode → cl7 q = argB false) := fun h => by unfold cl7; rw [decide_eq_false h]; rfl
  obtain ⟨v, hv⟩ : ∃ v, v = cl7 q := ⟨_, rfl⟩
  rw [← hv] at HR HR2 ⊢
  clear hsm hB hx0 hv k0 k1 k2 k3 k4 k5 k6 k7 k9 k10
  by_cases h1 : 0 ≤ q.mode
  · have HV := HR.out h1
    clear HR HR2
    go_enter Tryz.func51, Tryz.ntmps51
    go_wp2_with (first
      | (go_at_call 100; refine (C2.out _ _).mono ?_; rintro e w2 ⟨rfl, hB2⟩))
    go_ret
    exact ⟨by rw [HV]; rfl, HB.out.trans (hB2.mono HB.out.size)⟩
  · have HV := HR2.out h1
    clear HR HR2
    go_enter Tryz.func51, Tryz.ntmps51
    go_wp2_with (first
      | (go_at_call 100; refine (C2.out _ _).mono ?_; rintro e w2 ⟨rfl, hB2⟩))
    go_ret
    exact ⟨by rw [HV]; rfl, HB.out.trans (hB2.mono HB.out.size)⟩
set_option maxRecDepth 100000 in
set_option maxHeartbeats 4000000 in
theorem cl8_any (q : Qy) (w : World) (_ : IsQ w q) (_ : QOk q) (hsm : q.bulk ≤ 1048576) : Calls Tryz.prog 52 #[q.val] w fun e w' => e = .returned (.int .i64 (cl8 q)) ∧ Below w.heap.size w w' := by
  have hb := hsm
  unfold Qy.bulk at hb
  have hB : Below w.heap.size w (w.alloc (.cells q.cells 95)) := (Below.refl _ w).alloc (Nat.le_refl _) _
  have hx0 := alloc_new w (.cells q.cells 95)
  obtain ⟨⟨k0, k1, k2, k3, k4, k5⟩, k6, k7, k8, k9, k10⟩ := qat0 hx0
  have HB : Hid (Below w.heap.size w (w.alloc (.cells q.cells 95))) := hB
  have C2 : Hid (∀ b d, Calls Tryz.prog 100 #[.bool b] d _) := fun b d => argument_any b d
  have HR : Hid (0 ≤ q.win → cl8 q = argB (decide (q.win ≤ 1099511627776))) := fun h => by unfold cl8; rw [decide_eq_true h]; rfl
  have HR2 : Hid (¬ 0 ≤ q.win → cl8 q = argB false) := fun h => by unfold cl8; rw [decide_eq_false h]; rfl
  obtain ⟨v, hv⟩ : ∃ v, v = cl8 q := ⟨_, rfl⟩
  rw [← hv] at HR HR2 ⊢
  clear hsm hB hx0 hv k0 k1 k2 k3 k4 k5 k6 k7 k8 k10
  by_cases h1 : 0 ≤ q.win
  · have HV := HR.out h1
    clear HR HR2
    go_enter Tryz.func52, Tryz.ntmps52
    go_wp2_with (first
      | (go_at_call 100; refine (C2.out _ _).mono ?_; rintro e w2 ⟨rfl, hB2⟩))
    go_ret
    exact ⟨by rw [HV]; rfl, HB.out.trans (hB2.mono HB.out.size)⟩
  · have HV := HR2.out h1
    clear HR HR2
    go_enter Tryz.func52, Tryz.ntmps52
    go_wp2_with (first
      | (go_at_call 100; refine (C2.out _ _).mono ?_; rintro e w2 ⟨rfl, hB2⟩))
    go_ret
    exact ⟨by rw [HV]; rfl, HB.out.trans (hB2.mono HB.out.size)⟩
end Go.Proofs.YtkfpgkohkhhlhaaGreatDoor
namespace Go.Proofs.YtkfpgkohkhhlhaaGreatDoor
open Go.RowKit Go.Maps Go.WideMaps

theorem itAt_new (w : World) (t : TypeId) (x : It) : (w.alloc (.cells x.cells t)).cell? ⟨w.heap.size, 0, none⟩ = some (.string x.nm) ∧ (w.alloc (.cells x.cells t)).cell? ⟨w.heap.size, 1, none⟩ = some (.int .i64 x.k) ∧ (w.alloc (.cells x.cells t)).cell? ⟨w.heap.size, 2, none⟩ = some (.string x.s) ∧ (w.alloc (.cells x.cells t)).cell? ⟨w.heap.size, 3, none⟩ = some (.string x.f) := by
  have := itAt_box (alloc_new w (.cells x.cells t))
  unfold ItAt at this
  simp only [Nat.zero_add] at this
  exact this
set_option maxRecDepth 100000 in
set_option maxHeartbeats 4000000 in
theorem rightI_any (x : It) (w : World) : Calls Tryz.prog 104 #[x.val] w fun e w' => e = .returned (.bool (rightI x)) ∧ Below w.heap.size w w' := by
  have hB : Below w.heap.size w (w.alloc (.cells x.cells 77)) := (Below.refl _ w).alloc (Nat.le_refl _) _
  obtain ⟨k0, k1, k2, k3⟩ := itAt_new w 77 x
  have HB : Hid (Below w.heap.size w (w.alloc (.cells x.cells 77))) := hB
  have KK : Hid (∀ d, Below (w.alloc (.cells x.cells 77)).heap.size (w.alloc (.cells x.cells 77)) d → d.cell? ⟨w.heap.size, 0, none⟩ = some (.string x.nm) ∧ d.cell? ⟨w.heap.size, 1, none⟩ = some (.int .i64 x.k) ∧ d.cell? ⟨w.heap.size, 2, none⟩ = some (.string x.s) ∧ d.cell? ⟨w.heap.size, 3, none⟩ = some (.string x.f)) := fun d h => ⟨cell_later k0 h, cell_later k1 h, cell_later k2 h, cell_later k3 h⟩
  have C1 : Hid (∀ s d, Calls Tryz.prog 103 #[.string s] d _) := fun s d => name_any s d
  obtain ⟨v, hv⟩ : ∃ v, v = rightI x := ⟨_, rfl⟩
  have HV : Hid (∀ f : Bool, f = (if x.k = 3 then decide (x.f = ⟨#[]⟩) else nameB x.f) → v = (nameB x.nm && (nameB x.s && (decide (1 ≤ x.k) && (decide (x.k ≤ 4) && f))))) := fun f h => by rw [hv, h]; rfl
  rw [← hv]
  clear hv hB
  obtain ⟨b1, hb1⟩ : ∃ b1, b1 = nameB x.nm := ⟨_, rfl⟩
  obtain ⟨b2, hb2⟩ : ∃ b2, b2 = nameB x.s := ⟨_, rfl⟩
  have C2 : Hid (∀ d, Calls Tryz.prog 103 #[.string x.nm] d fun e w' => e = .returned (.bool b1) ∧ Below d.heap.size d w') := fun d => by rw [hb1]; exact name_any _ d
  have C3 : Hid (∀ d, Calls Tryz.prog 103 #[.string x.s] d fun e w' => e = .returned (.bool b2) ∧ Below d.heap.size d w') := fun d => by rw [hb2]; exact name_any _ d
  have C4 : Hid (∀ d, Calls Tryz.prog 103 #[.string x.f] d fun e w' => e = .returned (.bool (nameB x.f)) ∧ Below d.heap.size d w') := fun d => name_any _ d
  rw [← hb1, ← hb2] at HV
  clear hb1 hb2 C1
  by_cases h3 : x.k = 3
  · have HV3 : Hid (v = (b1 && (b2 && decide (x.f = ⟨#[]⟩)))) := by
      show _ = _
      rw [HV.out _ rfl, if_pos h3, decide_eq_true (show (1 : Int) ≤ x.k by omega), decide_eq_true (show x.k ≤ 4 by omega), Bool.true_and, Bool.true_and]
    have t3 : (x.k == 3) = true := by simpa using h3
    have t1 : (1 : Int) ≤ x.k := by omega
    have t4 : x.k ≤ 4 := by omega
    have tf : ∀ s, (x.f.toList == []) = s → decide (x.f = ⟨#[]⟩) = s := fun s hs => by
      have := same_str x.f ⟨#[]⟩
      rw [nil_list] at this
      rw [← hs, this]
    obtain ⟨bf, hbf⟩ : ∃ bf, bf = (x.f.toList == []) := ⟨_, rfl⟩
    have HV4 : Hid (v = (b1 && (b2 && bf))) := by show _ = _; rw [HV3.out, tf bf hbf.symm]
    have hbf' := hbf.symm
    clear tf hbf h3 HV HV3
    go_enter Tryz.func104, Tryz.ntmps104
    go_upto_region 2 with (first | (go_at_call 103; refine (C4.out _).mono ?_; rintro e w1 ⟨rfl, hB1⟩))
    obtain ⟨c0, c1, c2, c3⟩ := KK.out _ hB1
    clear k0 k1 k2 k3 C4
    cases b1
    · go_wp2_with (first | (go_at_call 103; refine (C2.out _).mono ?_; clear C2; rintro e w2 ⟨rfl, hB2⟩))
      go_ret
      exact ⟨by rw [HV4.out]; rfl, HB.out.trans ((hB1.trans (hB2.mono hB1.size)).mono HB.out.size)⟩
    · go_wp2_with (first
        | (go_at_call 103; refine (C2.out _).mono ?_; clear C2; rintro e w2 ⟨rfl, hB2⟩; have hB12 := hB1.trans (hB2.mono hB1.size); obtain ⟨e0, e1, e2, e3⟩ := KK.out _ hB12)
        | (go_at_call 103; refine (C3.out _).mono ?_; clear C3; rintro e w3 ⟨rfl, hB3⟩; have hB13 := hB12.trans (hB3.mono hB12.size); obtain ⟨g0, g1, g2, g3⟩ := KK.out _ hB13; cases b2))
      all_goals go_ret
      all_goals exact ⟨by rw [HV4.out]; rfl, HB.out.trans (hB13.mono HB.out.size)⟩
  · have t3 : (x.k == 3) = false := by simpa using h3
    obtain ⟨bf, hbf⟩ : ∃ bf, bf = nameB x.f := ⟨_, rfl⟩
    have HV4 : Hid (v = (b1 && (b2 && (decide (1 ≤ x.k) && (decide (x.k ≤ 4) && bf))))) := by show _ = _; rw [HV.out _ rfl, if_neg h3, hbf]
    rw [← hbf] at C4
    clear hbf h3 HV
    by_cases t1 : (1 : Int) ≤ x.k
    · by_cases t4 : x.k ≤ 4
      · have HV5 : Hid (v = (b1 && (b2 && bf))) := by show _ = _; rw [HV4.out, decide_eq_true t1, decide_eq_true t4, Bool.true_and, Bool.true_and]
        clear HV4
        go_enter Tryz.func104, Tryz.ntmps104
        go_upto_region 2 with (first | (go_at_call 103; refine (C4.out _).mono ?_; rintro e w1 ⟨rfl, hB1⟩))
        obtain ⟨c0, c1, c2, c3⟩ := KK.out _ hB1
        clear k0 k1 k2 k3 C4
        cases b1
        · go_wp2_with (first | (go_at_call 103; refine (C2.out _).mono ?_; clear C2; rintro e w2 ⟨rfl, hB2⟩))
          go_ret
          exact ⟨by rw [HV5.out]; rfl, HB.out.trans ((hB1.trans (hB2.mono hB1.size)).mono HB.out.size)⟩
        · go_wp2_with (first
            | (go_at_call 103; refine (C2.out _).mono ?_; clear C2; rintro e w2 ⟨rfl, hB2⟩; have hB12 := hB1.trans (hB2.mono hB1.size); obtain ⟨e0, e1, e2, e3⟩ := KK.out _ hB12)
            | (go_at_call 103; refine (C3.out _).mono ?_; clear C3; rintro e w3 ⟨rfl, hB3⟩; have hB13 := hB12.trans (hB3.mono hB12.size); obtain ⟨g0, g1, g2, g3⟩ := KK.out _ hB13; cases b2))
          all_goals go_ret
          all_goals exact ⟨by rw [HV5.out]; rfl, HB.out.trans (hB13.mono HB.out.size)⟩
      · have HV5 : Hid (v = false) := by show _ = _; rw [HV4.out, decide_eq_false t4]; simp
        clear HV4
        go_enter Tryz.func104, Tryz.ntmps104
        go_upto_region 2 with (first | (go_at_call 103; refine (C4.out _).mono ?_; rintro e w1 ⟨rfl, hB1⟩))
        obtain ⟨c0, c1, c2, c3⟩ := KK.out _ hB1
        clear k0 k1 k2 k3 C4
        cases b1
        · go_wp2_with (first | (go_at_call 103; refine (C2.out _).mono ?_; clear C2; rintro e w2 ⟨rfl, hB2⟩))
          go_ret
          exact ⟨by rw [HV5.out]; rfl, HB.out.trans ((hB1.trans (hB2.mono hB1.size)).mono HB.out.size)⟩
        · go_wp2_with (first
            | (go_at_call 103; refine (C2.out _).mono ?_; clear C2; rintro e w2 ⟨rfl, hB2⟩; have hB12 := hB1.trans (hB2.mono hB1.size); obtain ⟨e0, e1, e2, e3⟩ := KK.out _ hB12)
            | (go_at_call 103; refine (C3.out _).mono ?_; clear C3; rintro e w3 ⟨rfl, hB3⟩; have hB13 := hB12.trans (hB3.mono hB12.size); obtain ⟨g0, g1, g2, g3⟩ := KK.out _ hB13; cases b2))
          all_goals go_ret
          all_goals exact ⟨by rw [HV5.out]; rfl, HB.out.trans (hB13.mono HB.out.size)⟩
    · have HV5 : Hid (v = false) := by show _ = _; rw [HV4.out, decide_eq_false t1]; simp
      clear HV4
      go_enter Tryz.func104, Tryz.ntmps104
      go_upto_region 2 with (first | (go_at_call 103; refine (C4.out _).mono ?_; rintro e w1 ⟨rfl, hB1⟩))
      obtain ⟨c0, c1, c2, c3⟩ := KK.out _ hB1
      clear k0 k1 k2 k3 C4
      cases b1
      · go_wp2_with (first | (go_at_call 103; refine (C2.out _).mono ?_; clear C2; rintro e w2 ⟨rfl, hB2⟩))
        go_ret
        exact ⟨by rw [HV5.out]; rfl, HB.out.trans ((hB1.trans (hB2.mono hB1.size)).mono HB.out.size)⟩
      · go_wp2_with (first
          | (go_at_call 103; refine (C2.out _).mono ?_; clear C2; rintro e w2 ⟨rfl, hB2⟩; have hB12 := hB1.trans (hB2.mono hB1.size); obtain ⟨e0, e1, e2, e3⟩ := KK.out _ hB12)
          | (go_at_call 103; refine (C3.out _).mono ?_; clear C3; rintro e w3 ⟨rfl, hB3⟩; have hB13 := hB12.trans (hB3.mono hB12.size); obtain ⟨g0, g1, g2, g3⟩ := KK.out _ hB13; cases b2))
        all_goals go_ret
        all_goals exact ⟨by rw [HV5.out]; rfl, HB.out.trans (hB13.mono HB.out.size)⟩
/-- Of a set's elements nothing is told but that they are struct{}. -/
def RS : Value → Option (DataW Unit × List MemPlace)
  | .agg cs => if cs.size = 0 then some (.nil, []) else none
  | _ => none
theorem rS_unit : RS (.agg #[]) = some (.nil, []) := rfl
theorem rS_inv {v : Value} {x : DataW Unit × List MemPlace} (h : RS v = some x) : v = .agg #[] := by
  cases v with
  | agg cs =>
    simp only [RS] at h
    by_cases e : cs.size = 0
    · rw [Array.eq_empty_of_size_eq_zero e]
    · rw [if_neg e] at h; cases h
  | _ => cases h
set_option maxRecDepth 100000 in
/-- What the set tells of a name. -/
theorem look_set {W : World} {M n : Nat} {D : DataW Unit} {L : List ByteArray} {s : ByteArray} (ho : W.ownsMap Tryz.prog 9 RS M n D) (hH : Hs L D) (hs : s.size ≤ maxLen) :
    ∃ b : Bool, (Instr.lookup 106 (.map (some M)) (.string s) true).run Tryz.prog W = .ok (.tuple #[.agg #[], .bool b]) W ∧ (b = true ↔ s ∈ L) := by
  have hkey : keyOf Tryz.prog 9 (.string s) = some (keyS s) := keyOf_string_mk Tryz.underlying9 hs
  obtain ⟨v, ps, hrun, hv⟩ := ho.look_ok str_law Tryz.underlying106 (z := .agg #[]) rfl rS_unit hkey
  obtain rfl := rS_inv hv
  exact ⟨_, hrun, hH.has s⟩
theorem ItemsR.next {q : Qy} {k : Nat} (h : ItemsR q k) (h1 : rightI (q.it k) = true) (h2 : ¬ (q.it k).nm ∈ lstS (fun i => (q.it i).nm) k) : ItemsR q (k + 1) := by
  refine ⟨fun i hi => ?_, fun i hi j hj e => ?_⟩
  · by_cases e : i = k
    · rw [e]; exact h1
    · exact h.1 i (by omega)
  · by_cases ei : i = k
    · subst ei
      exact h2 ((lstS_mem _ _ _).2 ⟨j, hj, e⟩)
    · exact h.2 i (by omega) j hj e
set_option maxRecDepth 100000 in
set_option maxHeartbeats 4000000 in
theorem cl9_any (q : Qy) (w : World) (hQ : IsQ w q) (hok : QOk q) (hsm : q.bulk ≤ 1048576) : Calls Tryz.prog 53 #[q.val] w fun e w' => e = .returned (.int .i64 (cl9 q)) ∧ Below w.heap.size w w' := by
  have hb := hsm
  unfold Qy.bulk at hb
  have hmm := @run_makeMap Tryz.prog
  have HA : Hid (∀ i, i < q.m → ∀ d, Calls Tryz.prog 104 #[(q.it i).val] d fun e w' => e = .returned (.bool (rightI (q.it i))) ∧ Below d.heap.size d w') := fun i _ d => rightI_any (q.it i) d
  have HO : Hid (∀ i, i < q.m → (q.it i).nm.size ≤ maxLen) := fun i hi => (hok.it i hi).1
  have HIT : Hid (Its w q.ia q.m q.it) := hQ.it
  have H0 : Hid (ItemsR q q.m → cl9 q = 0) := fun h => if_pos h
  have H1 : Hid (∀ k, k < q.m → rightI (q.it k) = false → cl9 q = 1) := fun k hk h => if_neg fun e => by have := e.1 k hk; rw [h] at this; cases this
  have H2 : Hid (∀ k, k < q.m → (q.it k).nm ∈ lstS (fun i => (q.it i).nm) k → cl9 q = 1) := fun k hk h => if_neg fun e => by
    obtain ⟨j, hj, e2⟩ := (lstS_mem _ _ _).1 h
    exact e.2 k hk j hj e2
  obtain ⟨v, hv⟩ : ∃ v, v = cl9 q := ⟨_, rfl⟩
  rw [← hv] at H0 H1 H2 ⊢
  clear hQ hok hsm hv
  go_enter Tryz.func53, Tryz.ntmps53
  go_upto_region 2 with fail
  obtain ⟨A, hA⟩ : ∃ A, (w.alloc (.cells q.cells 95)).alloc (.map #[] 0) = A := ⟨_, rfl⟩
  have hsz : A.heap.size = w.heap.size + 2 := by rw [← hA]; simp
  have hB : RowKit.Below w.heap.size w A := by rw [← hA]; exact ((RowKit.Below.refl _ w).alloc (Nat.le_refl _) _).alloc (by simp) _
  have hx0 : A.heap[w.heap.size]? = some (.cells q.cells 95 (0, 0)) := by rw [← hA]; exact (alloc_old (by simp)).trans (alloc_new w _)
  have mb0 : A.ownsMap Tryz.prog 9 RS (w.heap.size + 1) 0 (.map []) := by
    have := World.ownsMap_made (w.alloc (.cells q.cells 95)) Tryz.prog 9 RS
    rw [World.size_alloc, hA] at this
    exact this
  rw [hA]
  have k10 := (qat0 hx0).2.2.2.2.2
  clear hx0 hA hmm
  go_wp2_with fail
  go_loopw [12] (fun u wr => ∃ k : Nat, k ≤ q.m ∧ u = .int .i64 k ∧ (∃ D, wr.ownsMap Tryz.prog 9 RS (w.heap.size + 1) k D ∧ Hid (Hs (lstS (fun i => (q.it i).nm) k) D)) ∧ Hid (ItemsR q k) ∧ Lb A.heap.size (w.heap.size + 1) A wr) (fun u _ => q.m - (intOf u).toNat)
  case atStart => exact ⟨0, Nat.zero_le _, rfl, ⟨_, mb0, hs_none⟩, ⟨fun i hi => absurd hi (Nat.not_lt_zero _), fun i hi => absurd hi (Nat.not_lt_zero _)⟩, Lb.refl _ _ _⟩
  case round =>
    obtain ⟨k, hk, rfl, ⟨D, hown, HH⟩, HIR, hLb⟩ := hrel
    clear k10 mb0
    have hBr : RowKit.Below w.heap.size w wr := hB.trans (hLb.below (by omega) (by omega))
    by_cases hkn : k < q.m
    · obtain ⟨b, o, ea, i0, i1, i2, i3⟩ := (HIT.out.later hBr) k hkn
      rw [ea]
      have HKN : Hid (k < q.m) := hkn
      have hkey : keyOf Tryz.prog 9 (.string (q.it k).nm) = some (keyS (q.it k).nm) := keyOf_string_mk Tryz.underlying9 (HO.out k hkn)
      have hownA : (wr.alloc (.cells (q.it k).cells 77)).ownsMap Tryz.prog 9 RS (w.heap.size + 1) k D := hown.alloc _
      obtain ⟨bb, hrun, hbb⟩ := look_set hownA HH.out (HO.out k hkn)
      have HBB : Hid (bb = true ↔ _) := hbb
      have HLA : Hid (Lb A.heap.size (w.heap.size + 1) A (wr.alloc (.cells (q.it k).cells 77))) := hLb.trans (.of_below ((RowKit.Below.refl _ _).alloc hLb.size _))
      clear ea hbb
      go_upto_region 6 with fail
      obtain ⟨V, hV⟩ : ∃ V, (wr.alloc (.cells (q.it k).cells 77)).alloc (.cells #[] 108) = V := ⟨_, rfl⟩
      rw [hV]
      have hBV : RowKit.Below wr.heap.size wr V := by rw [← hV]; exact ((RowKit.Below.refl _ _).alloc (Nat.le_refl _) _).alloc (by simp) _
      obtain ⟨y0, y1, y2, y3⟩ := itAt_new wr 77 (q.it k)
      have hB2 : RowKit.Below (wr.alloc (.cells (q.it k).cells 77)).heap.size (wr.alloc (.cells (q.it k).cells 77)) V := by rw [← hV]; exact (RowKit.Below.refl _ _).alloc (Nat.le_refl _) _
      have x0 := cell_later y0 hB2
      have x1 := cell_later y1 hB2
      have x2 := cell_later y2 hB2
      have x3 := cell_later y3 hB2
      have hLV : Lb A.heap.size (w.heap.size + 1) A V := hLb.trans (.of_below (hBV.mono hLb.size))
      have hoV : V.ownsMap Tryz.prog 9 RS (w.heap.size + 1) k D := by rw [← hV]; exact hownA.alloc _
      have hc := HA.out k hkn V
      have HBV : Hid (RowKit.Below w.heap.size w V) := hBr.trans (hBV.mono hBr.size)
      have hlt : w.heap.size + 1 < V.heap.size := hoV.lt
      clear hV hB2 hBV y0 y1 y2 y3 hrun hownA HLA
      cases bb with
      | true =>
        clear hc
        go_wp2
        try rw [Exit.noGoto_ret]
        go_ret
        exact ⟨by rw [H2.out k HKN.out (HBB.out.1 (by trivial))]; rfl, HBV.out⟩
      | false =>
        obtain ⟨z, hz⟩ : ∃ z, z = rightI (q.it k) := ⟨_, rfl⟩
        rw [← hz] at hc
        have HE : Hid (z = rightI (q.it k)) := hz
        clear hz
        cases z with
        | false =>
          go_wp2_with (first | (go_at_call 104; refine hc.mono ?_; clear hc; rintro e w2 ⟨rfl, hB2⟩))
          try rw [Exit.noGoto_ret]
          go_ret
          exact ⟨by rw [H1.out k HKN.out HE.out.symm]; rfl, HBV.out.trans (hB2.mono HBV.out.size)⟩
        | true =>
          go_wp2_with (first
            | (go_at_call 104; refine hc.mono ?_; clear hc; rintro e w2 ⟨rfl, hB2⟩; have x0' := cell_later x0 hB2; have ho2 : w2.ownsMap Tryz.prog 9 RS (w.heap.size + 1) k D := (by obtain ⟨es, clock, hb', Ft, hs, hD⟩ := hoV; exact ⟨es, clock, (hB2.block _ hlt).trans hb', Ft, hs, hD⟩))
            | (at_mapUpdate; refine wpList_mapUpdate_own _ rfl _ _ _ 106 rfl 9 108 str_law Tryz.underlying106 RS (w.heap.size + 1) k _ rfl ho2 (by unfold maxLen; omega) _ _ _ rfl rfl hkey _ [] rS_unit ?_; intro w3 hown3 hgrow3)
            | go_in)
          have hL2 : Lb A.heap.size (w.heap.size + 1) A w2 := hLV.trans (.of_below (hB2.mono hLV.size))
          have hL3 := hL2.trans (Lb.grown hgrow3 hL2.size)
          have hHn : Hs (lstS (fun i => (q.it i).nm) (k + 1)) _ := HH.out.more hown.isMap (hown.tidy str_law) (q.it k).nm .nil
          have hIn := HIR.out.next HE.out.symm (fun e => by have := HBB.out.2 e; cases this)
          first
            | (refine ⟨⟨k + 1, HKN.out, by simp, ⟨_, hown3, hHn⟩, hIn, hL3⟩, ?_⟩
               have := HKN.out
               simp [intOf]
               omega)
            | (go_roundw
               case rel => exact ⟨k + 1, HKN.out, by go_num, ⟨_, hown3, hHn⟩, hIn, hL3⟩
               case measure => have := HKN.out; simp [intOf]; omega)
    · obtain rfl : k = q.m := by omega
      go_wp2
      go_ret
      exact ⟨by rw [H0.out HIR.out]; rfl, hBr⟩
end Go.Proofs.YtkfpgkohkhhlhaaGreatDoor
