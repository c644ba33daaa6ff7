/-
  Queries as they lie in memory; items in rows of four cells; of no function.
  Queries in a box; of no function.
  query.joined; slices.Clone of items.
  query.Names.
  query's clauses: what each method tells.
  query's clauses: the conditions, their nodes and kinds, the Key, the Mode, the window.
  query's clauses: the items.
  query.Check: its clauses are looked at by method values in a row.
-/
import Derived.Test.YtfnfegcjgnbgbaaGreatDoorTBrief
import Derived.Test.YtfnfegcjgnbgbaaGreatDoorTExprMath
import Derived.Test.YtfnfegcjgnbgbaaGreatDoorTPatMath
import Derived.Test.YtfnfegcjgnbgbaaGreatDoorTPatRefSame
import Derived.Test.YtfnfegcjgnbgbaaGreatDoorTTrees
import Derived.Test.YtfnfegcjgnbgbaaGreatDoorTAbNote
import Derived.Test.YtfnfegcjgnbgbaaGreatDoorTValOrder
import Derived.Test.YtfnfegcjgnbgbaaGreatDoorTExprKinds
import Derived.Test.YtfnfegcjgnbgbaaGreatDoorTPatFirsts
import Derived.Test.YtfnfegcjgnbgbaaGreatDoorTRoundReads
import Derived.Test.YtfnfegcjgnbgbaaGreatDoorTExprCheck
import Derived.Test.YtfnfegcjgnbgbaaGreatDoorTPatCheck
import Derived.WalkKit
import Derived.OwnWalkIn
import Derived.Maps.OwnSet
import Derived.Maps.AppendAt
import Derived.Lib.OwnBridge
import Derived.Sort.OwnSorted
import Derived.Sort.Walk0
namespace Go.Proofs.YtfnfegcjgnbgbaaGreatDoor
open Go.RowKit

/-- An item: its Name, kind, Var and Field. -/
structure It where
  nm : ByteArray
  k : Int
  s : ByteArray
  f : ByteArray
abbrev It.val (x : It) : Value := .agg #[.string x.nm, .int .i64 x.k, .string x.s, .string x.f]
/-- The four cells of an item. -/
def ItAt (w : World) (b o : Nat) (x : It) : Prop :=
  w.cell? ⟨b, o, none⟩ = some (.string x.nm) ∧ w.cell? ⟨b, o + 1, none⟩ = some (.int .i64 x.k) ∧ w.cell? ⟨b, o + 2, none⟩ = some (.string x.s) ∧ w.cell? ⟨b, o + 3, none⟩ = some (.string x.f)
theorem ItAt.lt {w : World} {b o : Nat} {x : It} (h : ItAt w b o x) : b < w.heap.size := World.block_lt_of_cell? w _ h.1
theorem ItAt.later {w w' : World} {b o : Nat} {x : It} (h : ItAt w b o x) (hB : Below w.heap.size w w') : ItAt w' b o x :=
  ⟨cell_later h.1 hB, cell_later h.2.1 hB, cell_later h.2.2.1 hB, cell_later h.2.2.2 hB⟩
theorem itAt_box {w : World} {B : Nat} {t : TypeId} {x : It} (h : w.heap[B]? = some (.cells #[.string x.nm, .int .i64 x.k, .string x.s, .string x.f] t (0, 0))) : ItAt w B 0 x := by
  refine ⟨?_, ?_, ?_, ?_⟩ <;> simp [World.cell?, h]
/-- Items in a slice, by index. -/
def Its (w : World) (a : Option Addr) (n : Nat) (I : Nat → It) : Prop := ∀ i, i < n → ∃ b o, a = some ⟨b, o, none⟩ ∧ ItAt w b (o + i * 4) (I i)
theorem Its.later {w w' : World} {a : Option Addr} {n : Nat} {I : Nat → It} (h : Its w a n I) (hB : Below w.heap.size w w') : Its w' a n I := fun i hi => by
  obtain ⟨b, o, e, hc⟩ := h i hi
  exact ⟨b, o, e, hc.later hB⟩
/-- A query: its pattern, its conditions (as the parts of one), Key, Mode, Within and items. -/
structure Qy where
  p : Pt
  a : Option Addr
  n : Nat
  cap : Nat
  c : Nat → X
  key : ByteArray
  mode : Int
  win : Int
  ia : Option Addr
  m : Nat
  icap : Nat
  it : Nat → It
/-- Its conditions as one. -/
abbrev Qy.x (q : Qy) : X := .mk 16 val0 ⟨#[]⟩ ⟨#[]⟩ q.a q.n q.cap q.c
abbrev Qy.cells (q : Qy) : Array Value := #[.int .i64 q.p.k, .string q.p.s, .string q.p.t, .int .i64 q.p.lo, .int .i64 q.p.hi, .slice q.p.a q.p.n q.p.cap, .slice q.a q.n q.cap, .string q.key, .int .i64 q.mode, .int .i64 q.win, .slice q.ia q.m q.icap]
abbrev Qy.val (q : Qy) : Value := .agg q.cells
structure IsQ (w : World) (q : Qy) : Prop where
  p : IsP w q.p
  x : IsX w q.x
  it : Its w q.ia q.m q.it
  len : q.m ≤ q.icap ∧ q.icap ≤ 9223372036854775807
theorem IsQ.later {w w' : World} {q : Qy} (h : IsQ w q) (hB : Below w.heap.size w w') : IsQ w' q := ⟨h.p.later hB, h.x.later hB, h.it.later hB, h.len⟩
/-- Texts no longer than texts can be. -/
structure QOk (q : Qy) : Prop where
  p : POk q.p
  x : XOk q.x
  key : q.key.size ≤ maxLen
  it : ∀ i, i < q.m → (q.it i).nm.size ≤ maxLen ∧ (q.it i).s.size ≤ maxLen ∧ (q.it i).f.size ≤ maxLen
/-- How much there is of it. -/
def Qy.bulk (q : Qy) : Nat := q.p.size + q.x.size + q.m
/-- The cells of some items, one behind the other. -/
abbrev It.cells (x : It) : Array Value := #[.string x.nm, .int .i64 x.k, .string x.s, .string x.f]
end Go.Proofs.YtfnfegcjgnbgbaaGreatDoor
namespace Go.Proofs.YtfnfegcjgnbgbaaGreatDoor
open Go.RowKit

/-- A query in its box. -/
def QB (W : World) (b : Nat) (q : Qy) : Prop := W.heap[b]? = some (.cells q.cells 28 (0, 0))
theorem QB.at0 {W : World} {b : Nat} {q : Qy} (h : QB W b q) : (W.cell? ⟨b, 0, none⟩ = some (.int .i64 q.p.k) ∧ W.cell? ⟨b, 1, none⟩ = some (.string q.p.s) ∧ W.cell? ⟨b, 2, none⟩ = some (.string q.p.t) ∧ W.cell? ⟨b, 3, none⟩ = some (.int .i64 q.p.lo) ∧
    W.cell? ⟨b, 4, none⟩ = some (.int .i64 q.p.hi) ∧ W.cell? ⟨b, 5, none⟩ = some (.slice q.p.a q.p.n q.p.cap)) ∧ W.cell? ⟨b, 6, none⟩ = some (.slice q.a q.n q.cap) ∧ W.cell? ⟨b, 7, none⟩ = some (.string q.key) ∧ W.cell? ⟨b, 8, none⟩ = some (.int .i64 q.mode) ∧
    W.cell? ⟨b, 9, none⟩ = some (.int .i64 q.win) ∧ W.cell? ⟨b, 10, none⟩ = some (.slice q.ia q.m q.icap) := by
  unfold QB at h
  refine ⟨⟨?_, ?_, ?_, ?_, ?_, ?_⟩, ?_, ?_, ?_, ?_, ?_⟩ <;> simp [World.cell?, h]
theorem QB.frozen {W : World} {b : Nat} {q : Qy} (h : QB W b q) (j : Nat) : W.frozen? ⟨b, j, none⟩ = false := by
  unfold QB at h
  simp [World.frozen?, h]
theorem QB.lt {W : World} {b : Nat} {q : Qy} (h : QB W b q) : b < W.heap.size := (Array.getElem?_eq_some_iff.1 h).1
theorem QB.later {W W' : World} {b : Nat} {q : Qy} (h : QB W b q) (hB : Below W.heap.size W W') : QB W' b q := (hB.block b h.lt).trans h
theorem QB.new (W : World) (q : Qy) : QB (W.alloc (.cells q.cells 28)) W.heap.size q := alloc_new W _
end Go.Proofs.YtfnfegcjgnbgbaaGreatDoor
namespace Go.Proofs.YtfnfegcjgnbgbaaGreatDoor
open Go.RowKit

set_option maxRecDepth 100000 in
theorem joined_any (a : Option Addr) (n cap : Nat) (c : Nat → X) (w : World) : Calls Tryz.prog 68 #[.slice a n cap] w fun e w' => e = .returned (X.mk 16 val0 ⟨#[]⟩ ⟨#[]⟩ a n cap c).val ∧ Below w.heap.size w w' := by
  go_enter Tryz.func68, Tryz.ntmps68
  go_wp2
  exact bodyPost_ret (v := (X.mk 16 val0 ⟨#[]⟩ ⟨#[]⟩ a n cap c).val) (by simp [results, Tryz.results68, go_sem]; exact ⟨rfl, rfl, rfl, rfl, rfl, rfl, rfl, rfl, rfl⟩) rfl ⟨rfl, (Below.refl _ _).alloc (Nat.le_refl _) _⟩
end Go.Proofs.YtfnfegcjgnbgbaaGreatDoor
namespace Go.Proofs.YtfnfegcjgnbgbaaGreatDoor
open Go.RowKit Go.Maps Go.WideMaps Go.Sort

/-- What the map tells. -/
structure Hs (L : List ByteArray) (D : DataW Unit) : Prop where
  has : ∀ s, Maps.has D (keyS s) = true ↔ s ∈ L
  le : Maps.size D ≤ L.length
theorem hs_none : Hs [] (.map []) := ⟨fun s => by simp [Maps.has_eq], Nat.le_refl _⟩
theorem Hs.more {L : List ByteArray} {D : DataW Unit} (h : Hs L D) (hm : IsMap D) (ht : Tidy D) (s : ByteArray) (d : DataW Unit) : Hs (L ++ [s]) (D.put (keyS s) d) := by
  refine ⟨fun t => ?_, ?_⟩
  · by_cases e : s = t
    · subst e
      rw [has_put_same hm (by simp [WideAt.IsKeyLit])]
      simp
    · rw [has_put_other (keyS_ne fun q => e q.symm), h.has]
      simp [show ¬ t = s from fun q => e q.symm]
  · rw [size_put (k := keyS s) ht d, List.length_append]
    have := h.le
    split <;> simp <;> omega
theorem Lb.grown {N M : Nat} {W W' : World} (h : W.grownBy W' (some M)) (hN : N ≤ W.heap.size) : Lb N M W W' :=
  ⟨h.os, h.tape, h.output, h.size, fun k hk hne => h.block k (by omega) fun e => hne (by cases e; rfl)⟩
end Go.Proofs.YtfnfegcjgnbgbaaGreatDoor
namespace Go.Proofs.YtfnfegcjgnbgbaaGreatDoor
open Go.RowKit Go.Maps Go.WideMaps

theorem qat0 {W : World} {b : Nat} {q : Qy} {t : TypeId} (h : W.heap[b]? = some (.cells q.cells t (0, 0))) : (W.cell? ⟨b, 0, none⟩ = some (.int .i64 q.p.k) ∧ W.cell? ⟨b, 1, none⟩ = some (.string q.p.s) ∧ W.cell? ⟨b, 2, none⟩ = some (.string q.p.t) ∧ W.cell? ⟨b, 3, none⟩ = some (.int .i64 q.p.lo) ∧
    W.cell? ⟨b, 4, none⟩ = some (.int .i64 q.p.hi) ∧ W.cell? ⟨b, 5, none⟩ = some (.slice q.p.a q.p.n q.p.cap)) ∧ W.cell? ⟨b, 6, none⟩ = some (.slice q.a q.n q.cap) ∧ W.cell? ⟨b, 7, none⟩ = some (.string q.key) ∧ W.cell? ⟨b, 8, none⟩ = some (.int .i64 q.mode) ∧
    W.cell? ⟨b, 9, none⟩ = some (.int .i64 q.win) ∧ W.cell? ⟨b, 10, none⟩ = some (.slice q.ia q.m q.icap) := by
  refine ⟨⟨?_, ?_, ?_, ?_, ?_, ?_⟩, ?_, ?_, ?_, ?_, ?_⟩ <;> simp [World.cell?, h]
open Classical in
/-- What expr.Check answers. -/
noncomputable def chkX (x : X) : Int := if 100 < x.size then 2 else if TreeR x then 0 else 1
theorem chkX_of {x : X} {r : Int} (h : ChkX x r) : r = chkX x := by
  unfold chkX
  rcases h with ⟨h1, h2⟩ | ⟨h1, h2, h3⟩ | ⟨h1, h2, h3⟩
  · rw [if_pos h1]; exact h2
  · rw [if_neg (by omega), if_pos h2]; exact h3
  · rw [if_neg (by omega), if_neg h2]; exact h3
/-- Is an item right? -/
def rightI (x : It) : Bool := nameB x.nm && (nameB x.s && (decide (1 ≤ x.k) && (decide (x.k ≤ 4) && (if x.k = 3 then decide (x.f = ⟨#[]⟩) else nameB x.f))))
/-- Are all items right, and has each a Name of its own? -/
def ItemsR (q : Qy) (n : Nat) : Prop := (∀ i, i < n → rightI (q.it i) = true) ∧ ∀ i, i < n → ∀ j, j < i → (q.it j).nm ≠ (q.it i).nm
def argB (b : Bool) : Int := if b = true then 0 else 1
def cl1 (q : Qy) : Int := chkP q.p
def cl2 (q : Qy) : Int := if 16 < q.n ∨ 16 < q.m then 2 else 0
/-- The first that is not 0. -/
noncomputable def cl3 (q : Qy) : Int := lexN (fun i => chkX (q.c i)) q.n
def cl4 (q : Qy) : Int := if 100 < q.x.size then 2 else 0
open Classical in
noncomputable def cl5 (q : Qy) : Int := if ∃ i, i < q.n ∧ (q.c i).k = 16 then 1 else 0
def cl6 (q : Qy) : Int := argB (decide (q.key = ⟨#[]⟩) || nameB q.key)
def cl7 (q : Qy) : Int := argB (decide (0 ≤ q.mode) && decide (q.mode ≤ 2))
def cl8 (q : Qy) : Int := argB (decide (0 ≤ q.win) && decide (q.win ≤ 1099511627776))
open Classical in
noncomputable def cl9 (q : Qy) : Int := if ItemsR q q.m then 0 else 1
set_option maxRecDepth 100000 in
theorem argument_any (b : Bool) (w : World) : Calls Tryz.prog 69 #[.bool b] w fun e w' => e = .returned (.int .i64 (argB b)) ∧ Below w.heap.size w w' := by
  cases b
  · go_enter Tryz.func69, Tryz.ntmps69
    go_wp2
    go_ret
    exact ⟨rfl, Below.refl _ _⟩
  · go_enter Tryz.func69, Tryz.ntmps69
    go_wp2
    go_ret
    exact ⟨rfl, Below.refl _ _⟩
end Go.Proofs.YtfnfegcjgnbgbaaGreatDoor
namespace Go.Proofs.YtfnfegcjgnbgbaaGreatDoor
open Go.RowKit

theorem nil_list : (⟨#[]⟩ : ByteArray).toList = [] := by rw [ByteArray.toList_eq]
theorem no_empty {s : ByteArray} (h : ¬ s = ⟨#[]⟩) : (s.toList == []) = false := by
  have := str_not h
  rwa [nil_list] at this
theorem lexN_first {f : Nat → Int} : ∀ {n k : Nat}, k < n → (∀ j, j < k → f j = 0) → f k ≠ 0 → lexN f n = f k
  | 0, _, h, _, _ => by omega
  | n + 1, k, h, hz, hk => by
    rw [lexN]
    by_cases e : k = n
    · subst e
      rw [if_pos (lexN_zero.2 hz)]
    · have := lexN_first (f := f) (show k < n by omega) hz hk
      rw [this, if_neg hk]
set_option maxRecDepth 100000 in
set_option maxHeartbeats 4000000 in
theorem cl3_any (q : Qy) (w : World) (hQ : IsQ w q) (_ : QOk q) (hsm : q.bulk ≤ 1048576) : Calls Tryz.prog 43 #[q.val] w fun e w' => e = .returned (.int .i64 (cl3 q)) ∧ Below w.heap.size w w' := by
  have hb := hsm
  unfold Qy.bulk at hb
  have hB : Below w.heap.size w (w.alloc (.cells q.cells 77)) := (Below.refl _ w).alloc (Nat.le_refl _) _
  have hx0 := alloc_new w (.cells q.cells 77)
  obtain ⟨⟨k0, k1, k2, k3, k4, k5⟩, k6, k7, k8, k9, k10⟩ := qat0 hx0
  have HB : Hid (Below w.heap.size w (w.alloc (.cells q.cells 77))) := hB
  have HI : Hid (∀ i, i < q.n → ∀ W, Below w.heap.size w W → Calls Tryz.prog 66 #[(q.c i).val] W fun e w' => e = .returned (.int .i64 (chkX (q.c i))) ∧ Below W.heap.size W w') := fun i hi W hW => by
    obtain ⟨_, _, _, _, h1⟩ := (hQ.x.later hW).part (x := q.x) hi
    refine (checkX_any _ W h1).mono ?_
    rintro e w' ⟨r, rfl, h2, h3⟩
    have h2' : ChkX (q.c i) r := h2
    rw [← chkX_of h2']
    exact ⟨rfl, h3⟩
  have HF : Hid (∀ k, k < q.n → (∀ j, j < k → chkX (q.c j) = 0) → ¬ chkX (q.c k) = 0 → cl3 q = chkX (q.c k)) := fun k hk hz hn => lexN_first (f := fun i => chkX (q.c i)) hk hz hn
  have HZ : Hid ((∀ j, j < q.n → chkX (q.c j) = 0) → cl3 q = 0) := fun h => lexN_zero.2 h
  obtain ⟨v, hv⟩ : ∃ v, v = cl3 q := ⟨_, rfl⟩
  rw [← hv] at HF HZ ⊢
  have HX : Hid (IsX w q.x) := hQ.x
  have hlen : q.n ≤ 9223372036854775807 := hQ.x.len
  clear hQ hsm hB hx0 hv k0 k1 k2 k3 k4 k5 k7 k8 k9 k10
  go_enter Tryz.func43, Tryz.ntmps43
  go_wp2_with fail
  go_loopw [9] (fun u wr => ∃ k : Nat, k ≤ q.n ∧ u = .int .i64 k ∧ Hid (∀ j, j < k → chkX (q.c j) = 0) ∧ Below w.heap.size w wr) (fun u _ => q.n - (intOf u).toNat)
  case atStart => exact ⟨0, Nat.zero_le _, rfl, fun j hj => absurd hj (Nat.not_lt_zero _), HB.out⟩
  case round =>
    obtain ⟨k, hk, rfl, HK, hBr⟩ := hrel
    clear k6
    by_cases hkn : k < q.n
    · obtain ⟨b, o, ea, hn, -⟩ := (HX.out.later hBr).part hkn
      have ea' : q.a = some ⟨b, o, none⟩ := ea
      rw [ea']
      have hn' : Node wr b (o + k * 7) (q.c k) := hn
      obtain ⟨d0, d1, d2, d3, d4, d5, d6⟩ := hn'
      have hB2 : Below wr.heap.size wr (wr.alloc (.cells (q.c k).cells 51)) := (Below.refl _ _).alloc (Nat.le_refl _) _
      have hbb := hBr.trans (hB2.mono hBr.size)
      have hc := HI.out k hkn _ hbb
      obtain ⟨g0, g1, g2, g3, g4, g5, g6⟩ := (node_new wr 51 (q.c k)).at0
      have HBB : Hid _ := hbb
      have HKN : Hid (k < q.n) := hkn
      obtain ⟨z, hz⟩ : ∃ z, z = chkX (q.c k) := ⟨_, rfl⟩
      rw [← hz] at hc
      have HE : Hid (z = chkX (q.c k)) := hz
      clear hz ea ea' hn hB2 hbb
      by_cases hz0 : z = 0
      · have t : (z != 0) = false := by simp [hz0]
        have HZ0 : Hid (z = 0) := hz0
        clear hz0
        go_wp2_with (first | (go_at_call 66; refine hc.mono ?_; clear hc; rintro e w2 ⟨rfl, hB2⟩))
        refine ⟨⟨k + 1, HKN.out, by simp, fun j hj => ?_, HBB.out.trans (hB2.mono HBB.out.size)⟩, ?_⟩
        · by_cases e : j = k
          · rw [e, ← HE.out]; exact HZ0.out
          · exact HK.out j (by omega)
        · have := HKN.out; simp [intOf]; omega
      · have t : (z != 0) = true := by simp [hz0]
        have HZ0 : Hid (¬ z = 0) := hz0
        clear hz0
        go_wp2_with (first | (go_at_call 66; refine hc.mono ?_; clear hc; rintro e w2 ⟨rfl, hB2⟩))
        try rw [Exit.noGoto_ret]
        go_ret
        exact ⟨by rw [HF.out k HKN.out HK.out (HE.out ▸ HZ0.out), ← HE.out]; rfl, HBB.out.trans (hB2.mono HBB.out.size)⟩
    · obtain rfl : k = q.n := by omega
      go_wp2
      go_ret
      exact ⟨by rw [HZ.out HK.out]; rfl, hBr⟩
set_option maxRecDepth 100000 in
set_option maxHeartbeats 4000000 in
theorem cl4_any (q : Qy) (w : World) (hQ : IsQ w q) (_ : QOk q) (hsm : q.bulk ≤ 1048576) : Calls Tryz.prog 44 #[q.val] w fun e w' => e = .returned (.int .i64 (cl4 q)) ∧ Below w.heap.size w w' := by
  have hb := hsm
  unfold Qy.bulk at hb
  have hB : Below w.heap.size w (w.alloc (.cells q.cells 77)) := (Below.refl _ w).alloc (Nat.le_refl _) _
  have hx0 := alloc_new w (.cells q.cells 77)
  obtain ⟨⟨k0, k1, k2, k3, k4, k5⟩, k6, k7, k8, k9, k10⟩ := qat0 hx0
  have HB : Hid (Below w.heap.size w (w.alloc (.cells q.cells 77))) := hB
  have C1 : Hid (∀ d, Calls Tryz.prog 68 #[.slice q.a q.n q.cap] d _) := fun d => joined_any q.a q.n q.cap q.c d
  have C2 : Hid (∀ d, Below w.heap.size w d → Calls Tryz.prog 67 #[q.x.val] d fun e w' => e = .returned (.int .i64 (q.x.size : Nat)) ∧ Below d.heap.size d w') := fun d h => by
    have := size_any q.x d (hQ.x.later h)
    rw [cnt_small _ (by omega)] at this
    exact this
  have HR : Hid (∀ h1 : 100 < q.x.size, cl4 q = 2) := fun h1 => if_pos h1
  have HR2 : Hid (∀ h1 : ¬ 100 < q.x.size, cl4 q = 0) := fun h1 => if_neg h1
  obtain ⟨v, hv⟩ : ∃ v, v = cl4 q := ⟨_, rfl⟩
  rw [← hv] at HR HR2 ⊢
  obtain ⟨sz, hsz⟩ : ∃ sz, sz = q.x.size := ⟨_, rfl⟩
  rw [← hsz] at HR HR2 C2
  clear hQ hsm hB hx0 hv hb hsz k0 k1 k2 k3 k4 k5 k7 k8 k9 k10
  by_cases h1 : 100 < sz
  · rw [HR.out h1]
    have t1 : ((100 : Int) < ((sz : Nat) : Int)) := by omega
    clear h1 HR HR2
    go_enter Tryz.func44, Tryz.ntmps44
    go_wp2_with (first
      | (go_at_call 68; refine (C1.out _).mono ?_; rintro e w1 ⟨rfl, hB1⟩; have hb1 := HB.out.trans (hB1.mono HB.out.size))
      | (go_at_call 67; refine (C2.out _ hb1).mono ?_; rintro e w2 ⟨rfl, hB2⟩))
    go_ret
    exact ⟨rfl, hb1.trans (hB2.mono hb1.size)⟩
  · rw [HR2.out h1]
    have t1 : ¬ ((100 : Int) < ((sz : Nat) : Int)) := by omega
    clear h1 HR HR2
    go_enter Tryz.func44, Tryz.ntmps44
    go_wp2_with (first
      | (go_at_call 68; refine (C1.out _).mono ?_; rintro e w1 ⟨rfl, hB1⟩; have hb1 := HB.out.trans (hB1.mono HB.out.size))
      | (go_at_call 67; refine (C2.out _ hb1).mono ?_; rintro e w2 ⟨rfl, hB2⟩))
    go_ret
    exact ⟨rfl, hb1.trans (hB2.mono hb1.size)⟩
set_option maxRecDepth 100000 in
theorem kindA_any (z : X) (w : World) : Calls Tryz.prog 71 #[z.val] w fun e w' => e = .returned (.bool (z.k == 16)) ∧ Below w.heap.size w w' := by
  have hB : Below w.heap.size w (w.alloc (.cells z.cells 51)) := (Below.refl _ w).alloc (Nat.le_refl _) _
  have n0 := (node_new w 51 z).at0.1
  have HB : Hid (Below w.heap.size w (w.alloc (.cells z.cells 51))) := hB
  clear hB
  go_enter Tryz.func71, Tryz.ntmps71
  go_wp2
  go_ret
  exact ⟨rfl, HB.out⟩
set_option maxRecDepth 100000 in
set_option maxHeartbeats 1000000 in
theorem kindsA_index (y : X) (w : World) (hY : IsX w y) :
    Calls Tryz.prog 90 #[.slice y.a y.n y.cap, .func (.func 71) #[] #[]] w fun e w' => ∃ r : Int, e = .returned (.int .i64 r) ∧ (0 ≤ r ↔ ∃ i, i < y.n ∧ (y.c i).k = 16) ∧ Below w.heap.size w w' := by
  have HY : Hid (IsX w y) := hY
  have hlen := hY.len
  obtain ⟨a, ha⟩ : ∃ a, a = y.a := ⟨_, rfl⟩
  rw [← ha]
  have HA : Hid (a = y.a) := ha
  clear ha
  clear hY
  go_enter Tryz.func90, Tryz.ntmps90
  go_wp2
  go_loopw [8] (fun u wr => ∃ i : Nat, i ≤ y.n ∧ u = .int .i64 i ∧ Hid (∀ j, j < i → (y.c j).k ≠ 16) ∧ Below w.heap.size w wr) (fun u _ => y.n - (intOf u).toNat)
  case atStart => exact ⟨0, Nat.zero_le _, rfl, fun j hj => by omega, Below.refl _ _⟩
  case round =>
    obtain ⟨i, hi, rfl, HI, hB⟩ := hrel
    by_cases hin : i < y.n
    · obtain ⟨b2, o2, ea, hn, hx⟩ := (HY.out.later hB).part hin
      rw [← HA.out] at ea
      subst ea
      obtain ⟨d0, d1, d2, d3, d4, d5, d6⟩ := hn
      have hc := kindA_any (y.c i) wr
      have HK : Hid (i < y.n) := hin
      clear hx
      by_cases hv : (y.c i).k = 16
      · have hv' : ((y.c i).k == 16) = true := by simpa using hv
        have HV : Hid ((y.c i).k = 16) := hv
        rw [hv'] at hc
        clear hv hv'
        go_wp2_with (go_at_call 71; refine hc.mono ?_; rintro e w2 ⟨rfl, hB2⟩)
        try rw [Exit.noGoto_ret]
        go_ret
        exact ⟨_, rfl, ⟨fun _ => ⟨i, HK.out, HV.out⟩, fun _ => by omega⟩, hB.trans (hB2.mono hB.size)⟩
      · have hv' : ((y.c i).k == 16) = false := by simpa using hv
        have HV : Hid (¬ (y.c i).k = 16) := hv
        rw [hv'] at hc
        clear hv hv'
        go_wp2_with (go_at_call 71; refine hc.mono ?_; rintro e w2 ⟨rfl, hB2⟩)
        go_roundw
        case rel => exact ⟨i + 1, HK.out, by go_num, fun j hj => by by_cases e : j = i; (· rw [e]; exact HV.out); exact HI.out j (by omega), hB.trans (hB2.mono hB.size)⟩
        case measure => have := HK.out; simp [intOf]; omega
    · obtain rfl : i = y.n := by omega
      go_wp2
      go_ret
      refine ⟨_, rfl, ⟨fun h => by omega, fun ⟨j, hj, e⟩ => absurd e (HI.out j hj)⟩, hB⟩
set_option maxRecDepth 100000 in
set_option maxHeartbeats 1000000 in
theorem kindsA_any (y : X) (w : World) (hY : IsX w y) :
    Calls Tryz.prog 70 #[.slice y.a y.n y.cap, .func (.func 71) #[] #[]] w fun e w' => ∃ r : Bool, e = .returned (.bool r) ∧ (r = true ↔ ∃ i, i < y.n ∧ (y.c i).k = 16) ∧ Below w.heap.size w w' := by
  have hc := kindsA_index y w hY
  clear hY
  go_enter Tryz.func70, Tryz.ntmps70
  go_wp2_with (go_at_call 90; refine hc.mono ?_; rintro e w2 ⟨r, rfl, hr, hB2⟩; have HR : Hid (0 ≤ r ↔ ∃ i, i < y.n ∧ (y.c i).k = 16) := hr; clear hr)
  go_ret
  exact ⟨decide (0 ≤ r), rfl, by rw [← HR.out]; simp, hB2⟩
set_option maxRecDepth 100000 in
set_option maxHeartbeats 4000000 in
theorem cl5_any (q : Qy) (w : World) (hQ : IsQ w q) (_ : QOk q) (hsm : q.bulk ≤ 1048576) : Calls Tryz.prog 45 #[q.val] w fun e w' => e = .returned (.int .i64 (cl5 q)) ∧ Below w.heap.size w w' := by
  have hb := hsm
  unfold Qy.bulk at hb
  have hB : Below w.heap.size w (w.alloc (.cells q.cells 77)) := (Below.refl _ w).alloc (Nat.le_refl _) _
  have hx0 := alloc_new w (.cells q.cells 77)
  obtain ⟨⟨k0, k1, k2, k3, k4, k5⟩, k6, k7, k8, k9, k10⟩ := qat0 hx0
  have HB : Hid (Below w.heap.size w (w.alloc (.cells q.cells 77))) := hB
  have C1 : Hid (Calls Tryz.prog 70 #[.slice q.a q.n q.cap, .func (.func 71) #[] #[]] (w.alloc (.cells q.cells 77)) _) := kindsA_any q.x _ (hQ.x.later hB)
  have C2 : Hid (∀ b d, Calls Tryz.prog 69 #[.bool b] d _) := fun b d => argument_any b d
  have HR : Hid (∀ r : Bool, (r = true ↔ ∃ i, i < q.n ∧ (q.c i).k = 16) → cl5 q = argB (!r)) := fun r h => by
    unfold cl5
    cases r with
    | true => rw [if_pos (h.1 rfl)]; rfl
    | false => rw [if_neg (fun e => by have := h.2 e; cases this)]; rfl
  clear hQ hsm hB hx0 k0 k1 k2 k3 k4 k5 k7 k8 k9 k10
  go_enter Tryz.func45, Tryz.ntmps45
  go_wp2_with (first
    | (go_at_call 70; refine C1.out.mono ?_; rintro e w1 ⟨r, rfl, hr, hB1⟩; have HRR : Hid _ := hr; clear hr)
    | (go_at_call 69; refine (C2.out _ _).mono ?_; rintro e w2 ⟨rfl, hB2⟩))
  go_ret
  exact ⟨by rw [HR.out r HRR.out]; rfl, HB.out.trans ((hB1.trans (hB2.mono hB1.size)).mono HB.out.size)⟩
set_option maxRecDepth 100000 in
set_option maxHeartbeats 4000000 in
theorem cl6_any (q : Qy) (w : World) (_ : IsQ w q) (_ : QOk q) (hsm : q.bulk ≤ 1048576) : Calls Tryz.prog 46 #[q.val] w fun e w' => e = .returned (.int .i64 (cl6 q)) ∧ Below w.heap.size w w' := by
  have hb := hsm
  unfold Qy.bulk at hb
  have hB : Below w.heap.size w (w.alloc (.cells q.cells 77)) := (Below.refl _ w).alloc (Nat.le_refl _) _
  have hx0 := alloc_new w (.cells q.cells 77)
  obtain ⟨⟨k0, k1, k2, k3, k4, k5⟩, k6, k7, k8, k9, k10⟩ := qat0 hx0
  have HB : Hid (Below w.heap.size w (w.alloc (.cells q.cells 77))) := hB
  have C1 : Hid (∀ d, Calls Tryz.prog 72 #[.string q.key] d _) := fun d => name_any q.key d
  have C2 : Hid (∀ b d, Calls Tryz.prog 69 #[.bool b] d _) := fun b d => argument_any b d
  have HR : Hid (q.key = ⟨#[]⟩ → cl6 q = argB true) := fun h => by unfold cl6; rw [decide_eq_true h]; rfl
  have HR2 : Hid (¬ q.key = ⟨#[]⟩ → cl6 q = argB (nameB q.key)) := fun h => by unfold cl6; rw [decide_eq_false h]; rfl
  obtain ⟨v, hv⟩ : ∃ v, v = cl6 q := ⟨_, rfl⟩
  rw [← hv] at HR HR2 ⊢
  clear hsm hB hx0 hv k0 k1 k2 k3 k4 k5 k6 k8 k9 k10
  by_cases h1 : q.key = ⟨#[]⟩
  · have t1 : (q.key.toList == []) = true := by rw [h1, nil_list]; rfl
    have HV := HR.out h1
    clear h1 HR HR2 C1
    go_enter Tryz.func46, Tryz.ntmps46
    go_wp2_with (first
      | (go_at_call 69; refine (C2.out _ _).mono ?_; rintro e w2 ⟨rfl, hB2⟩))
    go_ret
    exact ⟨by rw [HV]; rfl, HB.out.trans (hB2.mono HB.out.size)⟩
  · have t1 : (q.key.toList == []) = false := no_empty h1
    have HV := HR2.out h1
    clear h1 HR HR2
    go_enter Tryz.func46, Tryz.ntmps46
    go_wp2_with (first
      | (go_at_call 72; refine (C1.out _).mono ?_; rintro e w1 ⟨rfl, hB1⟩)
      | (go_at_call 69; refine (C2.out _ _).mono ?_; rintro e w2 ⟨rfl, hB2⟩))
    go_ret
    exact ⟨by rw [HV]; rfl, HB.out.trans ((hB1.trans (hB2.mono hB1.size)).mono HB.out.size)⟩
set_option maxRecDepth 100000 in
set_option maxHeartbeats 4000000 in
theorem cl7_any (q : Qy) (w : World) (_ : IsQ w q) (_ : QOk q) (hsm : q.bulk ≤ 1048576) : Calls Tryz.prog 47 #[q.val] w fun e w' => e = .returned (.int .i64 (cl7 q)) ∧ Below w.heap.size w w' := by
  have hb := hsm
  unfold Qy.bulk at hb
  have hB : Below w.heap.size w (w.alloc (.cells q.cells 77)) := (Below.refl _ w).alloc (Nat.le_refl _) _
  have hx0 := alloc_new w (.cells q.cells 77)
  obtain ⟨⟨k0, k1, k2, k3, k4, k5⟩, k6, k7, k8, k9, k10⟩ := qat0 hx0
  have HB : Hid (Below w.heap.size w (w.alloc (.cells q.cells 77))) := hB
  have C2 : Hid (∀ b d, Calls Tryz.prog 69 #[.bool b] d _) := fun b d => argument_any b d
  have HR : Hid (0 ≤ q.mode → cl7 q = argB (decide (q.mode ≤ 2))) := fun h => by unfold cl7; rw [decide_eq_true h]; rfl
  have HR2 : Hid (¬ 0 ≤ q.mode → cl7 q = argB false) := fun h => by unfold cl7; rw [decide_eq_false h]; rfl
  obtain ⟨v, hv⟩ : ∃ v, v = cl7 q := ⟨_, rfl⟩
  rw [← hv] at HR HR2 ⊢
  clear hsm hB hx0 hv k0 k1 k2 k3 k4 k5 k6 k7 k9 k10
  by_cases h1 : 0 ≤ q.mode
  · have HV := HR.out h1
    clear HR HR2
    go_enter Tryz.func47, Tryz.ntmps47
    go_wp2_with (first
      | (go_at_call 69; refine (C2.out _ _).mono ?_; rintro e w2 ⟨rfl, hB2⟩))
    go_ret
    exact ⟨by rw [HV]; rfl, HB.out.trans (hB2.mono HB.out.size)⟩
  · have HV := HR2.out h1
    clear HR HR2
    go_enter Tryz.func47, Tryz.ntmps47
    go_wp2_with (first
      | (go_at_call 69; refine (C2.out _ _).mono ?_; rintro e w2 ⟨rfl, hB2⟩))
    go_ret
    exact ⟨by rw [HV]; rfl, HB.out.trans (hB2.mono HB.out.size)⟩
set_option maxRecDepth 100000 in
set_option maxHeartbeats 4000000 in
theorem cl8_any (q : Qy) (w : World) (_ : IsQ w q) (_ : QOk q) (hsm : q.bulk ≤ 1048576) : Calls Tryz.prog 48 #[q.val] w fun e w' => e = .returned (.int .i64 (cl8 q)) ∧ Below w.heap.size w w' := by
  have hb := hsm
  unfold Qy.bulk at hb
  have hB : Below w.heap.size w (w.alloc (.cells q.cells 77)) := (Below.refl _ w).alloc (Nat.le_refl _) _
  have hx0 := alloc_new w (.cells q.cells 77)
  obtain ⟨⟨k0, k1, k2, k3, k4, k5⟩, k6, k7, k8, k9, k10⟩ := qat0 hx0
  have HB : Hid (Below w.heap.size w (w.alloc (.cells q.cells 77))) := hB
  have C2 : Hid (∀ b d, Calls Tryz.prog 69 #[.bool b] d _) := fun b d => argument_any b d
  have HR : Hid (0 ≤ q.win → cl8 q = argB (decide (q.win ≤ 1099511627776))) := fun h => by unfold cl8; rw [decide_eq_true h]; rfl
  have HR2 : Hid (¬ 0 ≤ q.win → cl8 q = argB false) := fun h => by unfold cl8; rw [decide_eq_false h]; rfl
  obtain ⟨v, hv⟩ : ∃ v, v = cl8 q := ⟨_, rfl⟩
  rw [← hv] at HR HR2 ⊢
  clear hsm hB hx0 hv k0 k1 k2 k3 k4 k5 k6 k7 k8 k10
  by_cases h1 : 0 ≤ q.win
  · have HV := HR.out h1
    clear HR HR2
    go_enter Tryz.func48, Tryz.ntmps48
    go_wp2_with (first
      | (go_at_call 69; refine (C2.out _ _).mono ?_; rintro e w2 ⟨rfl, hB2⟩))
    go_ret
    exact ⟨by rw [HV]; rfl, HB.out.trans (hB2.mono HB.out.size)⟩
  · have HV := HR2.out h1
    clear HR HR2
    go_enter Tryz.func48, Tryz.ntmps48
    go_wp2_with (first
      | (go_at_call 69; refine (C2.out _ _).mono ?_; rintro e w2 ⟨rfl, hB2⟩))
    go_ret
    exact ⟨by rw [HV]; rfl, HB.out.trans (hB2.mono HB.out.size)⟩
end Go.Proofs.YtfnfegcjgnbgbaaGreatDoor
namespace Go.Proofs.YtfnfegcjgnbgbaaGreatDoor
open Go.RowKit Go.Maps Go.WideMaps

theorem itAt_new (w : World) (t : TypeId) (x : It) : (w.alloc (.cells x.cells t)).cell? ⟨w.heap.size, 0, none⟩ = some (.string x.nm) ∧ (w.alloc (.cells x.cells t)).cell? ⟨w.heap.size, 1, none⟩ = some (.int .i64 x.k) ∧ (w.alloc (.cells x.cells t)).cell? ⟨w.heap.size, 2, none⟩ = some (.string x.s) ∧ (w.alloc (.cells x.cells t)).cell? ⟨w.heap.size, 3, none⟩ = some (.string x.f) := by
  have := itAt_box (alloc_new w (.cells x.cells t))
  unfold ItAt at this
  simp only [Nat.zero_add] at this
  exact this
set_option maxRecDepth 100000 in
set_option maxHeartbeats 4000000 in
theorem rightI_any (x : It) (w : World) : Calls Tryz.prog 73 #[x.val] w fun e w' => e = .returned (.bool (rightI x)) ∧ Below w.heap.size w w' := by
  have hB : Below w.heap.size w (w.alloc (.cells x.cells 93)) := (Below.refl _ w).alloc (Nat.le_refl _) _
  obtain ⟨k0, k1, k2, k3⟩ := itAt_new w 93 x
  have HB : Hid (Below w.heap.size w (w.alloc (.cells x.cells 93))) := hB
  have KK : Hid (∀ d, Below (w.alloc (.cells x.cells 93)).heap.size (w.alloc (.cells x.cells 93)) d → d.cell? ⟨w.heap.size, 0, none⟩ = some (.string x.nm) ∧ d.cell? ⟨w.heap.size, 1, none⟩ = some (.int .i64 x.k) ∧ d.cell? ⟨w.heap.size, 2, none⟩ = some (.string x.s) ∧ d.cell? ⟨w.heap.size, 3, none⟩ = some (.string x.f)) := fun d h => ⟨cell_later k0 h, cell_later k1 h, cell_later k2 h, cell_later k3 h⟩
  have C1 : Hid (∀ s d, Calls Tryz.prog 72 #[.string s] d _) := fun s d => name_any s d
  obtain ⟨v, hv⟩ : ∃ v, v = rightI x := ⟨_, rfl⟩
  have HV : Hid (∀ f : Bool, f = (if x.k = 3 then decide (x.f = ⟨#[]⟩) else nameB x.f) → v = (nameB x.nm && (nameB x.s && (decide (1 ≤ x.k) && (decide (x.k ≤ 4) && f))))) := fun f h => by rw [hv, h]; rfl
  rw [← hv]
  clear hv hB
  obtain ⟨b1, hb1⟩ : ∃ b1, b1 = nameB x.nm := ⟨_, rfl⟩
  obtain ⟨b2, hb2⟩ : ∃ b2, b2 = nameB x.s := ⟨_, rfl⟩
  have C2 : Hid (∀ d, Calls Tryz.prog 72 #[.string x.nm] d fun e w' => e = .returned (.bool b1) ∧ Below d.heap.size d w') := fun d => by rw [hb1]; exact name_any _ d
  have C3 : Hid (∀ d, Calls Tryz.prog 72 #[.string x.s] d fun e w' => e = .returned (.bool b2) ∧ Below d.heap.size d w') := fun d => by rw [hb2]; exact name_any _ d
  have C4 : Hid (∀ d, Calls Tryz.prog 72 #[.string x.f] d fun e w' => e = .returned (.bool (nameB x.f)) ∧ Below d.heap.size d w') := fun d => name_any _ d
  rw [← hb1, ← hb2] at HV
  clear hb1 hb2 C1
  by_cases h3 : x.k = 3
  · have HV3 : Hid (v = (b1 && (b2 && decide (x.f = ⟨#[]⟩)))) := by
      show _ = _
      rw [HV.out _ rfl, if_pos h3, decide_eq_true (show (1 : Int) ≤ x.k by omega), decide_eq_true (show x.k ≤ 4 by omega), Bool.true_and, Bool.true_and]
    have t3 : (x.k == 3) = true := by simpa using h3
    have t1 : (1 : Int) ≤ x.k := by omega
    have t4 : x.k ≤ 4 := by omega
    have tf : ∀ s, (x.f.toList == []) = s → decide (x.f = ⟨#[]⟩) = s := fun s hs => by
      have := same_str x.f ⟨#[]⟩
      rw [nil_list] at this
      rw [← hs, this]
    obtain ⟨bf, hbf⟩ : ∃ bf, bf = (x.f.toList == []) := ⟨_, rfl⟩
    have HV4 : Hid (v = (b1 && (b2 && bf))) := by show _ = _; rw [HV3.out, tf bf hbf.symm]
    have hbf' := hbf.symm
    clear tf hbf h3 HV HV3
    go_enter Tryz.func73, Tryz.ntmps73
    go_upto_region 2 with (first | (go_at_call 72; refine (C4.out _).mono ?_; rintro e w1 ⟨rfl, hB1⟩))
    obtain ⟨c0, c1, c2, c3⟩ := KK.out _ hB1
    clear k0 k1 k2 k3 C4
    cases b1
    · go_wp2_with (first | (go_at_call 72; refine (C2.out _).mono ?_; clear C2; rintro e w2 ⟨rfl, hB2⟩))
      go_ret
      exact ⟨by rw [HV4.out]; rfl, HB.out.trans ((hB1.trans (hB2.mono hB1.size)).mono HB.out.size)⟩
    · go_wp2_with (first
        | (go_at_call 72; refine (C2.out _).mono ?_; clear C2; rintro e w2 ⟨rfl, hB2⟩; have hB12 := hB1.trans (hB2.mono hB1.size); obtain ⟨e0, e1, e2, e3⟩ := KK.out _ hB12)
        | (go_at_call 72; refine (C3.out _).mono ?_; clear C3; rintro e w3 ⟨rfl, hB3⟩; have hB13 := hB12.trans (hB3.mono hB12.size); obtain ⟨g0, g1, g2, g3⟩ := KK.out _ hB13; cases b2))
      all_goals go_ret
      all_goals exact ⟨by rw [HV4.out]; rfl, HB.out.trans (hB13.mono HB.out.size)⟩
  · have t3 : (x.k == 3) = false := by simpa using h3
    obtain ⟨bf, hbf⟩ : ∃ bf, bf = nameB x.f := ⟨_, rfl⟩
    have HV4 : Hid (v = (b1 && (b2 && (decide (1 ≤ x.k) && (decide (x.k ≤ 4) && bf))))) := by show _ = _; rw [HV.out _ rfl, if_neg h3, hbf]
    rw [← hbf] at C4
    clear hbf h3 HV
    by_cases t1 : (1 : Int) ≤ x.k
    · by_cases t4 : x.k ≤ 4
      · have HV5 : Hid (v = (b1 && (b2 && bf))) := by show _ = _; rw [HV4.out, decide_eq_true t1, decide_eq_true t4, Bool.true_and, Bool.true_and]
        clear HV4
        go_enter Tryz.func73, Tryz.ntmps73
        go_upto_region 2 with (first | (go_at_call 72; refine (C4.out _).mono ?_; rintro e w1 ⟨rfl, hB1⟩))
        obtain ⟨c0, c1, c2, c3⟩ := KK.out _ hB1
        clear k0 k1 k2 k3 C4
        cases b1
        · go_wp2_with (first | (go_at_call 72; refine (C2.out _).mono ?_; clear C2; rintro e w2 ⟨rfl, hB2⟩))
          go_ret
          exact ⟨by rw [HV5.out]; rfl, HB.out.trans ((hB1.trans (hB2.mono hB1.size)).mono HB.out.size)⟩
        · go_wp2_with (first
            | (go_at_call 72; refine (C2.out _).mono ?_; clear C2; rintro e w2 ⟨rfl, hB2⟩; have hB12 := hB1.trans (hB2.mono hB1.size); obtain ⟨e0, e1, e2, e3⟩ := KK.out _ hB12)
            | (go_at_call 72; refine (C3.out _).mono ?_; clear C3; rintro e w3 ⟨rfl, hB3⟩; have hB13 := hB12.trans (hB3.mono hB12.size); obtain ⟨g0, g1, g2, g3⟩ := KK.out _ hB13; cases b2))
          all_goals go_ret
          all_goals exact ⟨by rw [HV5.out]; rfl, HB.out.trans (hB13.mono HB.out.size)⟩
      · have HV5 : Hid (v = false) := by show _ = _; rw [HV4.out, decide_eq_false t4]; simp
        clear HV4
        go_enter Tryz.func73, Tryz.ntmps73
        go_upto_region 2 with (first | (go_at_call 72; refine (C4.out _).mono ?_; rintro e w1 ⟨rfl, hB1⟩))
        obtain ⟨c0, c1, c2, c3⟩ := KK.out _ hB1
        clear k0 k1 k2 k3 C4
        cases b1
        · go_wp2_with (first | (go_at_call 72; refine (C2.out _).mono ?_; clear C2; rintro e w2 ⟨rfl, hB2⟩))
          go_ret
          exact ⟨by rw [HV5.out]; rfl, HB.out.trans ((hB1.trans (hB2.mono hB1.size)).mono HB.out.size)⟩
        · go_wp2_with (first
            | (go_at_call 72; refine (C2.out _).mono ?_; clear C2; rintro e w2 ⟨rfl, hB2⟩; have hB12 := hB1.trans (hB2.mono hB1.size); obtain ⟨e0, e1, e2, e3⟩ := KK.out _ hB12)
            | (go_at_call 72; refine (C3.out _).mono ?_; clear C3; rintro e w3 ⟨rfl, hB3⟩; have hB13 := hB12.trans (hB3.mono hB12.size); obtain ⟨g0, g1, g2, g3⟩ := KK.out _ hB13; cases b2))
          all_goals go_ret
          all_goals exact ⟨by rw [HV5.out]; rfl, HB.out.trans (hB13.mono HB.out.size)⟩
    · have HV5 : Hid (v = false) := by show _ = _; rw [HV4.out, decide_eq_false t1]; simp
      clear HV4
      go_enter Tryz.func73, Tryz.ntmps73
      go_upto_region 2 with (first | (go_at_call 72; refine (C4.out _).mono ?_; rintro e w1 ⟨rfl, hB1⟩))
      obtain ⟨c0, c1, c2, c3⟩ := KK.out _ hB1
      clear k0 k1 k2 k3 C4
      cases b1
      · go_wp2_with (first | (go_at_call 72; refine (C2.out _).mono ?_; clear C2; rintro e w2 ⟨rfl, hB2⟩))
        go_ret
        exact ⟨by rw [HV5.out]; rfl, HB.out.trans ((hB1.trans (hB2.mono hB1.size)).mono HB.out.size)⟩
      · go_wp2_with (first
          | (go_at_call 72; refine (C2.out _).mono ?_; clear C2; rintro e w2 ⟨rfl, hB2⟩; have hB12 := hB1.trans (hB2.mono hB1.size); obtain ⟨e0, e1, e2, e3⟩ := KK.out _ hB12)
          | (go_at_call 72; refine (C3.out _).mono ?_; clear C3; rintro e w3 ⟨rfl, hB3⟩; have hB13 := hB12.trans (hB3.mono hB12.size); obtain ⟨g0, g1, g2, g3⟩ := KK.out _ hB13; cases b2))
        all_goals go_ret
        all_goals exact ⟨by rw [HV5.out]; rfl, HB.out.trans (hB13.mono HB.out.size)⟩
/-- Of a set's elements nothing is told but that they are struct{}. -/
def RS : Value → Option (DataW Unit × List MemPlace)
  | .agg cs => if cs.size = 0 then some (.nil, []) else none
  | _ => none
theorem rS_unit : RS (.agg #[]) = some (.nil, []) := rfl
theorem rS_inv {v : Value} {x : DataW Unit × List MemPlace} (h : RS v = some x) : v = .agg #[] := by
  cases v with
  | agg cs =>
    simp only [RS] at h
    by_cases e : cs.size = 0
    · rw [Array.eq_empty_of_size_eq_zero e]
    · rw [if_neg e] at h; cases h
  | _ => cases h
set_option maxRecDepth 100000 in
/-- What the set tells of a name. -/
theorem look_set {W : World} {M n : Nat} {D : DataW Unit} {L : List ByteArray} {s : ByteArray} (ho : W.ownsMap Tryz.prog 9 RS M n D) (hH : Hs L D) (hs : s.size ≤ maxLen) :
    ∃ b : Bool, (Instr.lookup 100 (.map (some M)) (.string s) true).run Tryz.prog W = .ok (.tuple #[.agg #[], .bool b]) W ∧ (b = true ↔ s ∈ L) := by
  have hkey : keyOf Tryz.prog 9 (.string s) = some (keyS s) := keyOf_string_mk Tryz.underlying9 hs
  obtain ⟨v, ps, hrun, hv⟩ := ho.look_ok str_law Tryz.underlying100 (z := .agg #[]) rfl rS_unit hkey
  obtain rfl := rS_inv hv
  exact ⟨_, hrun, hH.has s⟩
theorem ItemsR.next {q : Qy} {k : Nat} (h : ItemsR q k) (h1 : rightI (q.it k) = true) (h2 : ¬ (q.it k).nm ∈ lstS (fun i => (q.it i).nm) k) : ItemsR q (k + 1) := by
  refine ⟨fun i hi => ?_, fun i hi j hj e => ?_⟩
  · by_cases e : i = k
    · rw [e]; exact h1
    · exact h.1 i (by omega)
  · by_cases ei : i = k
    · subst ei
      exact h2 ((lstS_mem _ _ _).2 ⟨j, hj, e⟩)
    · exact h.2 i (by omega) j hj e
set_option maxRecDepth 100000 in
set_option maxHeartbeats 4000000 in
theorem cl9_any (q : Qy) (w : World) (hQ : IsQ w q) (hok : QOk q) (hsm : q.bulk ≤ 1048576) : Calls Tryz.prog 49 #[q.val] w fun e w' => e = .returned (.int .i64 (cl9 q)) ∧ Below w.heap.size w w' := by
  have hb := hsm
  unfold Qy.bulk at hb
  have hmm := @run_makeMap Tryz.prog
  have HA : Hid (∀ i, i < q.m → ∀ d, Calls Tryz.prog 73 #[(q.it i).val] d fun e w' => e = .returned (.bool (rightI (q.it i))) ∧ Below d.heap.size d w') := fun i _ d => rightI_any (q.it i) d
  have HO : Hid (∀ i, i < q.m → (q.it i).nm.size ≤ maxLen) := fun i hi => (hok.it i hi).1
  have HIT : Hid (Its w q.ia q.m q.it) := hQ.it
  have H0 : Hid (ItemsR q q.m → cl9 q = 0) := fun h => if_pos h
  have H1 : Hid (∀ k, k < q.m → rightI (q.it k) = false → cl9 q = 1) := fun k hk h => if_neg fun e => by have := e.1 k hk; rw [h] at this; cases this
  have H2 : Hid (∀ k, k < q.m → (q.it k).nm ∈ lstS (fun i => (q.it i).nm) k → cl9 q = 1) := fun k hk h => if_neg fun e => by
    obtain ⟨j, hj, e2⟩ := (lstS_mem _ _ _).1 h
    exact e.2 k hk j hj e2
  obtain ⟨v, hv⟩ : ∃ v, v = cl9 q := ⟨_, rfl⟩
  rw [← hv] at H0 H1 H2 ⊢
  clear hQ hok hsm hv
  go_enter Tryz.func49, Tryz.ntmps49
  go_upto_region 2 with fail
  obtain ⟨A, hA⟩ : ∃ A, (w.alloc (.cells q.cells 77)).alloc (.map #[] 0) = A := ⟨_, rfl⟩
  have hsz : A.heap.size = w.heap.size + 2 := by rw [← hA]; simp
  have hB : RowKit.Below w.heap.size w A := by rw [← hA]; exact ((RowKit.Below.refl _ w).alloc (Nat.le_refl _) _).alloc (by simp) _
  have hx0 : A.heap[w.heap.size]? = some (.cells q.cells 77 (0, 0)) := by rw [← hA]; exact (alloc_old (by simp)).trans (alloc_new w _)
  have mb0 : A.ownsMap Tryz.prog 9 RS (w.heap.size + 1) 0 (.map []) := by
    have := World.ownsMap_made (w.alloc (.cells q.cells 77)) Tryz.prog 9 RS
    rw [World.size_alloc, hA] at this
    exact this
  rw [hA]
  have k10 := (qat0 hx0).2.2.2.2.2
  clear hx0 hA hmm
  go_wp2_with fail
  go_loopw [12] (fun u wr => ∃ k : Nat, k ≤ q.m ∧ u = .int .i64 k ∧ (∃ D, wr.ownsMap Tryz.prog 9 RS (w.heap.size + 1) k D ∧ Hid (Hs (lstS (fun i => (q.it i).nm) k) D)) ∧ Hid (ItemsR q k) ∧ Lb A.heap.size (w.heap.size + 1) A wr) (fun u _ => q.m - (intOf u).toNat)
  case atStart => exact ⟨0, Nat.zero_le _, rfl, ⟨_, mb0, hs_none⟩, ⟨fun i hi => absurd hi (Nat.not_lt_zero _), fun i hi => absurd hi (Nat.not_lt_zero _)⟩, Lb.refl _ _ _⟩
  case round =>
    obtain ⟨k, hk, rfl, ⟨D, hown, HH⟩, HIR, hLb⟩ := hrel
    clear k10 mb0
    have hBr : RowKit.Below w.heap.size w wr := hB.trans (hLb.below (by omega) (by omega))
    by_cases hkn : k < q.m
    · obtain ⟨b, o, ea, i0, i1, i2, i3⟩ := (HIT.out.later hBr) k hkn
      rw [ea]
      have HKN : Hid (k < q.m) := hkn
      have hkey : keyOf Tryz.prog 9 (.string (q.it k).nm) = some (keyS (q.it k).nm) := keyOf_string_mk Tryz.underlying9 (HO.out k hkn)
      have hownA : (wr.alloc (.cells (q.it k).cells 93)).ownsMap Tryz.prog 9 RS (w.heap.size + 1) k D := hown.alloc _
      obtain ⟨bb, hrun, hbb⟩ := look_set hownA HH.out (HO.out k hkn)
      have HBB : Hid (bb = true ↔ _) := hbb
      have HLA : Hid (Lb A.heap.size (w.heap.size + 1) A (wr.alloc (.cells (q.it k).cells 93))) := hLb.trans (.of_below ((RowKit.Below.refl _ _).alloc hLb.size _))
      clear ea hbb
      go_upto_region 6 with fail
      obtain ⟨V, hV⟩ : ∃ V, (wr.alloc (.cells (q.it k).cells 93)).alloc (.cells #[] 101) = V := ⟨_, rfl⟩
      rw [hV]
      have hBV : RowKit.Below wr.heap.size wr V := by rw [← hV]; exact ((RowKit.Below.refl _ _).alloc (Nat.le_refl _) _).alloc (by simp) _
      obtain ⟨y0, y1, y2, y3⟩ := itAt_new wr 93 (q.it k)
      have hB2 : RowKit.Below (wr.alloc (.cells (q.it k).cells 93)).heap.size (wr.alloc (.cells (q.it k).cells 93)) V := by rw [← hV]; exact (RowKit.Below.refl _ _).alloc (Nat.le_refl _) _
      have x0 := cell_later y0 hB2
      have x1 := cell_later y1 hB2
      have x2 := cell_later y2 hB2
      have x3 := cell_later y3 hB2
      have hLV : Lb A.heap.size (w.heap.size + 1) A V := hLb.trans (.of_below (hBV.mono hLb.size))
      have hoV : V.ownsMap Tryz.prog 9 RS (w.heap.size + 1) k D := by rw [← hV]; exact hownA.alloc _
      have hc := HA.out k hkn V
      have HBV : Hid (RowKit.Below w.heap.size w V) := hBr.trans (hBV.mono hBr.size)
      have hlt : w.heap.size + 1 < V.heap.size := hoV.lt
      clear hV hB2 hBV y0 y1 y2 y3 hrun hownA HLA
      cases bb with
      | true =>
        clear hc
        go_wp2
        try rw [Exit.noGoto_ret]
        go_ret
        exact ⟨by rw [H2.out k HKN.out (HBB.out.1 (by trivial))]; rfl, HBV.out⟩
      | false =>
        obtain ⟨z, hz⟩ : ∃ z, z = rightI (q.it k) := ⟨_, rfl⟩
        rw [← hz] at hc
        have HE : Hid (z = rightI (q.it k)) := hz
        clear hz
        cases z with
        | false =>
          go_wp2_with (first | (go_at_call 73; refine hc.mono ?_; clear hc; rintro e w2 ⟨rfl, hB2⟩))
          try rw [Exit.noGoto_ret]
          go_ret
          exact ⟨by rw [H1.out k HKN.out HE.out.symm]; rfl, HBV.out.trans (hB2.mono HBV.out.size)⟩
        | true =>
          go_wp2_with (first
            | (go_at_call 73; refine hc.mono ?_; clear hc; rintro e w2 ⟨rfl, hB2⟩; have x0' := cell_later x0 hB2; have ho2 : w2.ownsMap Tryz.prog 9 RS (w.heap.size + 1) k D := (by obtain ⟨es, clock, hb', Ft, hs, hD⟩ := hoV; exact ⟨es, clock, (hB2.block _ hlt).trans hb', Ft, hs, hD⟩))
            | (at_mapUpdate; refine wpList_mapUpdate_own _ rfl _ _ _ 100 rfl 9 101 str_law Tryz.underlying100 RS (w.heap.size + 1) k _ rfl ho2 (by unfold maxLen; omega) _ _ _ rfl rfl hkey _ [] rS_unit ?_; intro w3 hown3 hgrow3)
            | go_in)
          have hL2 : Lb A.heap.size (w.heap.size + 1) A w2 := hLV.trans (.of_below (hB2.mono hLV.size))
          have hL3 := hL2.trans (Lb.grown hgrow3 hL2.size)
          have hHn : Hs (lstS (fun i => (q.it i).nm) (k + 1)) _ := HH.out.more hown.isMap (hown.tidy str_law) (q.it k).nm .nil
          have hIn := HIR.out.next HE.out.symm (fun e => by have := HBB.out.2 e; cases this)
          first
            | (refine ⟨⟨k + 1, HKN.out, by simp, ⟨_, hown3, hHn⟩, hIn, hL3⟩, ?_⟩
               have := HKN.out
               simp [intOf]
               omega)
            | (go_roundw
               case rel => exact ⟨k + 1, HKN.out, by go_num, ⟨_, hown3, hHn⟩, hIn, hL3⟩
               case measure => have := HKN.out; simp [intOf]; omega)
    · obtain rfl : k = q.m := by omega
      go_wp2
      go_ret
      exact ⟨by rw [H0.out HIR.out]; rfl, hBr⟩
end Go.Proofs.YtfnfegcjgnbgbaaGreatDoor
namespace Go.Proofs.YtfnfegcjgnbgbaaGreatDoor
open Go.RowKit

/-- What each clause tells. -/
noncomputable def clN (q : Qy) : Nat → Int
  | 0 => cl1 q
  | 1 => cl2 q
  | 2 => cl3 q
  | 3 => cl4 q
  | 4 => cl5 q
  | 5 => cl6 q
  | 6 => cl7 q
  | 7 => cl8 q
  | 8 => cl9 q
  | _ => 0
/-- What Check answers: the first that is not 0. -/
noncomputable def chkQ (q : Qy) : Int := lexN (clN q) 9
end Go.Proofs.YtfnfegcjgnbgbaaGreatDoor
