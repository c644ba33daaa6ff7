/-
  slices.ContainsFunc of a pattern's parts: is one of the same kind?
  The closure of expr.nodes that goes down (nodes$1$1), for whatever is done at the nodes.
  expr.nodes: a range over all nodes of a pattern that changes none of them.
  pat.Size.
-/
import Derived.Test.YtfnfegcjgnbgbaaGreatDoorSPatRightMath
import Derived.Test.YtfnfegcjgnbgbaaGreatDoorSTxt
import Derived.Test.YtfnfegcjgnbgbaaGreatDoorSPatMath
import Derived.BigQuiet
import Derived.RangeFuncNested
import Derived.RangeFuncBound
import Derived.RangeFuncCalls
import Derived.RangeFuncLeaves
import Derived.RangeFuncBox
import Derived.Shelf.Abstract
import Derived.Shelf.RegionOpen
import Derived.WalkKit
import Derived.OwnWalkIn
import Derived.TacticsInMore
import Derived.LoopNIn
import Derived.LoopIn
import Derived.Laws.EntriesVeiled
namespace Go.Proofs.YtfnfegcjgnbgbaaGreatDoor
open Go.RowKit

set_option maxRecDepth 100000 in
set_option maxHeartbeats 1000000 in
theorem kindP_any (z : Pt) (Bx b o : Nat) (k : Int) (w : World) (hb : w.cell? ⟨Bx, 0, none⟩ = some (.pointer (some ⟨b, o, none⟩))) (hk : w.cell? ⟨b, o, none⟩ = some (.int .i64 k)) :
    Calls Tryz.prog 95 #[z.val, .pointer (some ⟨Bx, 0, none⟩)] w fun e w' => e = .returned (.bool (z.k == k)) ∧ Below w.heap.size w w' := by
  obtain ⟨A, hA⟩ : ∃ A, w.alloc (.cells z.cells 24) = A := ⟨_, rfl⟩
  have hB : Below w.heap.size w A := by rw [← hA]; exact (Below.refl _ w).alloc (Nat.le_refl _) _
  have n0 : A.cell? ⟨w.heap.size, 0, none⟩ = some (.int .i64 z.k) := by rw [← hA]; exact (nodeP_new w _ z).1
  have c1 := cell_later hb hB
  have c2 := cell_later hk hB
  have HB : Hid (Below w.heap.size w A) := hB
  clear hb hk hB
  go_enter Tryz.func95, Tryz.ntmps95
  go_wp2_with fail
  go_quiet (fail)
  go_wp2
  go_ret
  exact ⟨rfl, bd HB.out _⟩
set_option maxRecDepth 100000 in
set_option maxHeartbeats 1000000 in
theorem kindsP_index (y : Pt) (Bx b o : Nat) (k : Int) (w : World) (hY : IsP w y) (hb : w.cell? ⟨Bx, 0, none⟩ = some (.pointer (some ⟨b, o, none⟩))) (hk : w.cell? ⟨b, o, none⟩ = some (.int .i64 k)) :
    Calls Tryz.prog 105 #[.slice y.a y.n y.cap, .func (.func 95) #[] #[.pointer (some ⟨Bx, 0, none⟩)]] w fun e w' => ∃ r : Int, e = .returned (.int .i64 r) ∧ (0 ≤ r ↔ ∃ i, i < y.n ∧ (y.c i).k = k) ∧ Below w.heap.size w w' := by
  have HY : Hid (IsP w y) := hY
  have hlen := hY.len
  obtain ⟨a, ha⟩ : ∃ a, a = y.a := ⟨_, rfl⟩
  rw [← ha]
  have HA : Hid (a = y.a) := ha
  clear ha
  have Hb : Hid (w.cell? ⟨Bx, 0, none⟩ = some (.pointer (some ⟨b, o, none⟩))) := hb
  have Hk : Hid (w.cell? ⟨b, o, none⟩ = some (.int .i64 k)) := hk
  clear hY hb hk
  go_enter Tryz.func105, Tryz.ntmps105
  go_wp2
  go_loopw [8] (fun u wr => ∃ i : Nat, i ≤ y.n ∧ u = .int .i64 i ∧ Hid (∀ j, j < i → (y.c j).k ≠ k) ∧ Below w.heap.size w wr) (fun u _ => y.n - (intOf u).toNat)
  case atStart => exact ⟨0, Nat.zero_le _, rfl, fun j hj => by omega, Below.refl _ _⟩
  case round =>
    obtain ⟨i, hi, rfl, HI, hB⟩ := hrel
    by_cases hin : i < y.n
    · obtain ⟨b2, o2, ea, hn, hx⟩ := (HY.out.later hB).part hin
      rw [← HA.out] at ea
      subst ea
      obtain ⟨d0, d1, d2, d3, d4, d5⟩ := hn
      have hc := kindP_any (y.c i) Bx b o k wr (cell_later Hb.out hB) (cell_later Hk.out hB)
      have HK : Hid (i < y.n) := hin
      clear hx
      by_cases hv : (y.c i).k = k
      · have hv' : ((y.c i).k == k) = true := by simpa using hv
        have HV : Hid ((y.c i).k = k) := hv
        rw [hv'] at hc
        clear hv hv'
        go_wp2_with (go_at_call 95; refine hc.mono ?_; rintro e w2 ⟨rfl, hB2⟩)
        try rw [Exit.noGoto_ret]
        go_ret
        exact ⟨_, rfl, ⟨fun _ => ⟨i, HK.out, HV.out⟩, fun _ => by omega⟩, hB.trans (hB2.mono hB.size)⟩
      · have hv' : ((y.c i).k == k) = false := by simpa using hv
        have HV : Hid (¬ (y.c i).k = k) := hv
        rw [hv'] at hc
        clear hv hv'
        go_wp2_with (go_at_call 95; refine hc.mono ?_; rintro e w2 ⟨rfl, hB2⟩)
        go_roundw
        case rel => exact ⟨i + 1, HK.out, by go_num, fun j hj => by by_cases e : j = i; (· rw [e]; exact HV.out); exact HI.out j (by omega), hB.trans (hB2.mono hB.size)⟩
        case measure => have := HK.out; simp [intOf]; omega
    · obtain rfl : i = y.n := by omega
      go_wp2
      go_ret
      refine ⟨_, rfl, ⟨fun h => by omega, fun ⟨j, hj, e⟩ => absurd e (HI.out j hj)⟩, hB⟩
set_option maxRecDepth 100000 in
set_option maxHeartbeats 1000000 in
theorem kindsP_any (y : Pt) (Bx b o : Nat) (k : Int) (w : World) (hY : IsP w y) (hb : w.cell? ⟨Bx, 0, none⟩ = some (.pointer (some ⟨b, o, none⟩))) (hk : w.cell? ⟨b, o, none⟩ = some (.int .i64 k)) :
    Calls Tryz.prog 94 #[.slice y.a y.n y.cap, .func (.func 95) #[] #[.pointer (some ⟨Bx, 0, none⟩)]] w fun e w' => ∃ r : Bool, e = .returned (.bool r) ∧ (r = true ↔ ∃ i, i < y.n ∧ (y.c i).k = k) ∧ Below w.heap.size w w' := by
  have hc := kindsP_index y Bx b o k w hY hb hk
  clear hY hb hk
  go_enter Tryz.func94, Tryz.ntmps94
  go_wp2_with (go_at_call 105; refine hc.mono ?_; rintro e w2 ⟨r, rfl, hr, hB2⟩; have HR : Hid (0 ≤ r ↔ ∃ i, i < y.n ∧ (y.c i).k = k) := hr; clear hr)
  go_ret
  exact ⟨decide (0 ≤ r), rfl, by rw [← HR.out]; simp, hB2⟩
theorem ownB_iff (x : Pt) : ownB x = true ↔ ∃ i, i < x.n ∧ (x.c i).k = x.k := by
  unfold ownB
  rw [Bool.not_eq_true']
  constructor
  · intro h
    refine Classical.byContradiction fun hn => ?_
    have : allN (fun i => !((x.c i).k == x.k)) x.n = true := allN_true.2 fun i hi => by
      simp only [Bool.not_eq_true', beq_eq_false_iff_ne]
      exact fun e => hn ⟨i, hi, e⟩
    rw [this] at h
    cases h
  · rintro ⟨i, hi, e⟩
    exact allN_false hi (by simp [e])
theorem ownP_any (x : Pt) (Bx b o : Nat) (w : World) (hX : IsP w x) (hb : w.cell? ⟨Bx, 0, none⟩ = some (.pointer (some ⟨b, o, none⟩))) (hk : w.cell? ⟨b, o, none⟩ = some (.int .i64 x.k)) :
    Calls Tryz.prog 94 #[.slice x.a x.n x.cap, .func (.func 95) #[] #[.pointer (some ⟨Bx, 0, none⟩)]] w fun e w' => e = .returned (.bool (ownB x)) ∧ Below w.heap.size w w' := by
  refine (kindsP_any x Bx b o x.k w hX hb hk).mono ?_
  rintro e w' ⟨r, rfl, hr, hB⟩
  have : r = ownB x := by rw [Bool.eq_iff_iff, hr, ownB_iff]
  rw [this]
  exact ⟨rfl, hB⟩
end Go.Proofs.YtfnfegcjgnbgbaaGreatDoor
namespace Go.Proofs.YtfnfegcjgnbgbaaGreatDoor
open Go.RowKit Go.Shelf
attribute [local go_sem] Oper.semAt_some

/-- The closure that goes down, as a value. -/
abbrev downPV (By Bd : Nat) : Value := .func (.func 78) #[] #[.pointer (some ⟨By, 0, none⟩), .pointer (some ⟨Bd, 0, none⟩)]

set_option maxRecDepth 100000 in
set_option maxHeartbeats 4000000 in
theorem downP_any {ι : Type} (l By Bd : Nat) (kids : ι → Nat) (kid : ι → Nat → ι) (rank : ι → Nat)
    (Pre : ι → Nat → Nat → Int → World → Prop) (Mid : ι → Nat → Nat → Int → World → Option Addr → Nat → Nat → World → Prop) (Post Stop : ι → Nat → Nat → Int → World → World → Prop)
    (hrank : ∀ v i, i < kids v → rank (kid v i) < rank v)
    (hP : ∀ v b o d W, Pre v b o d W → W.cell? ⟨By, 0, none⟩ = some (.func (.yield l) #[] #[]))
    (hY : ∀ v b o d W, Pre v b o d W → YieldAt Fence.wide 0 Tryz.prog l #[.int .i64 d, .pointer (some ⟨b, o, none⟩)] W fun e W' =>
      (e = .returned (.bool true) ∧ ∃ a cap, Mid v b o d W a cap 0 W') ∨ (e = .returned (.bool false) ∧ Stop v b o d W W'))
    (hL : ∀ v b o d W a cap i Wi, Mid v b o d W a cap i Wi → kids v ≤ 9223372036854775807 ∧ Wi.cell? ⟨b, o + 5, none⟩ = some (.slice a (kids v) cap) ∧ Wi.cell? ⟨Bd, 0, none⟩ = some (downPV By Bd))
    (hC : ∀ v b o d W a cap i Wi, Mid v b o d W a cap i Wi → i < kids v → ∃ b' o', a = some ⟨b', o', none⟩ ∧ Pre (kid v i) b' (o' + i * 6) (IntKind.i64.wrap (d + 1)) Wi.drew ∧
      (∀ W', Post (kid v i) b' (o' + i * 6) (IntKind.i64.wrap (d + 1)) Wi.drew W' → Mid v b o d W a cap (i + 1) W') ∧ (∀ W', Stop (kid v i) b' (o' + i * 6) (IntKind.i64.wrap (d + 1)) Wi.drew W' → Stop v b o d W W'))
    (hE : ∀ v b o d W a cap Wi, Mid v b o d W a cap (kids v) Wi → Post v b o d W Wi) :
    ∀ (r : Nat) (v : ι), rank v < r → ∀ (n b o : Nat) (d : Int) (W : World), Pre v b o d W →
      CallsIn Fence.wide n Tryz.prog 78 #[.int .i64 d, .pointer (some ⟨b, o, none⟩), .pointer (some ⟨By, 0, none⟩), .pointer (some ⟨Bd, 0, none⟩)] W fun e W' =>
        (e = .returned (.bool true) ∧ Post v b o d W W') ∨ (e = .returned (.bool false) ∧ Stop v b o d W W') := by
  intro r
  induction r with
  | zero => intro v h; omega
  | succ r ih =>
    intro v hv n b o d W hpre
    have hdd : ∀ k : Nat, (Fence.wide.depth.isSome = true → 1 ≤ k) := fun k h => by cases h
    have hby := hP v b o d W hpre
    obtain ⟨fn, tmps, assign, body, hy, hR⟩ := yield_wide (n - 1) (hY v b o d W hpre)
    refine callsIn_of_wp Tryz.func78 rfl trivial ?_ rfl
    simp only [Tryz.ntmps78, List.size_toArray, List.length_cons, List.length_nil, Nat.reduceAdd, Nat.reduceSub, Array.replicate_succ, Array.replicate_zero, List.push_toArray, List.append_toArray, List.nil_append, List.cons_append]
    gi_wp2_with (first
      | ((try refine ⟨hdd _, ?_⟩); refine hR.mono ?_; clear hR; rintro e W1 (⟨rfl, a, cap, hm⟩ | ⟨rfl, hs⟩); (try (obtain ⟨hn0, hc6, hcd⟩ := hL v b o d W a cap 0 W1 hm))))
    · obtain ⟨hn1, -⟩ := hL v b o d W a cap 0 W1 hm
      gi_loopw [18] (fun u wr => ∃ i : Nat, i ≤ kids v ∧ u = .int .i64 i ∧ Mid v b o d W a cap i wr) (fun u _ => kids v - (intOf u).toNat)
      case atStart => exact ⟨0, Nat.zero_le _, rfl, hm⟩
      case round =>
        obtain ⟨i, hi, rfl, hmi⟩ := hrel
        obtain ⟨-, hc6i, hcdi⟩ := hL v b o d W a cap i wr hmi
        by_cases hin : i < kids v
        · obtain ⟨b', o', rfl, hp', hpost, hstop⟩ := hC v b o d W a cap i wr hmi hin
          have ihc := (ih (kid v i) (by have := hrank v i hin; omega) (n - 1) b' (o' + i * 6) _ wr.drew hp').mono (R' := fun e W2 => ∃ r, e = .returned (.bool r) ∧ ((r = true ∧ Mid v b o d W (some ⟨b', o', none⟩) cap (i + 1) W2) ∨ (r = false ∧ Stop v b o d W W2)))
            (fun e W2 h => h.elim (fun h => ⟨true, h.1, .inl ⟨rfl, hpost W2 h.2⟩⟩) (fun h => ⟨false, h.1, .inr ⟨rfl, hstop W2 h.2⟩⟩))
          clear ih hpost hstop
          have HQ : Hid (i < kids v) := hin
          gi_wp2
          gi_region_with ((refine ⟨trivial, hdd _, ?_⟩; gi_at_call 78; refine ihc.mono ?_; clear ihc; rintro e W2 ⟨r, rfl, hj⟩))
          all_goals (rcases hj with ⟨rfl, hj⟩ | ⟨rfl, hj⟩)
          all_goals gi_wp2
          all_goals first
            | (go_ret; exact .inr ⟨rfl, hj⟩)
            | exact ⟨⟨i + 1, HQ.out, by simp, hj⟩, by have := HQ.out; simp [intOf]; omega⟩
        · have hin' : i = kids v := by omega
          subst hin'
          gi_wp2
          go_ret
          exact .inl ⟨rfl, hE _ _ _ _ _ _ _ _ hmi⟩
    · gi_wp2
      go_ret
      exact .inr ⟨rfl, hs⟩
end Go.Proofs.YtfnfegcjgnbgbaaGreatDoor
namespace Go.Proofs.YtfnfegcjgnbgbaaGreatDoor
open Go.RowKit Go.Shelf
attribute [local go_sem] Oper.semAt_some

set_option maxRecDepth 100000 in
set_option maxHeartbeats 1000000 in
theorem nodesP_in (n : Nat) (p : Option Addr) (w : World) :
    CallsIn Fence.wide n Tryz.prog 52 #[.pointer p] w fun e w' => e = .returned (.func (.func 77) #[] #[.pointer (some ⟨w.heap.size, 0, none⟩)]) ∧ w' = w.alloc (.cells #[.pointer p] 81) := by
  refine callsIn_of_wp Tryz.func52 rfl trivial ?_ rfl
  simp only [Tryz.ntmps52, List.size_toArray, List.length_cons, List.length_nil, Nat.reduceAdd, Nat.reduceSub, Array.replicate_succ, Array.replicate_zero, List.push_toArray, List.append_toArray, List.nil_append, List.cons_append]
  gi_wp2
  go_ret
  exact ⟨rfl, rfl⟩

set_option maxRecDepth 100000 in
set_option maxHeartbeats 2000000 in
/-- The function that expr.nodes hands back: it lays yield and the closure in boxes of their own, and goes down. -/
theorem nodesP1_in (n l Bp b o : Nat) (W : World) (R : Ending → World → Prop) (hBp : W.cell? ⟨Bp, 0, none⟩ = some (.pointer (some ⟨b, o, none⟩)))
    (hdown : ∀ W2, Boxed W2 W.heap.size 110 (.func (.yield l) #[] #[]) → Boxed W2 (W.heap.size + 1) 110 (downPV W.heap.size (W.heap.size + 1)) → Below W.heap.size W W2 → W2.heap.size = W.heap.size + 2 →
      CallsIn Fence.wide (n - 1) Tryz.prog 78 #[.int .i64 1, .pointer (some ⟨b, o, none⟩), .pointer (some ⟨W.heap.size, 0, none⟩), .pointer (some ⟨W.heap.size + 1, 0, none⟩)] W2 fun e W' => ∃ r, e = .returned (.bool r) ∧ R (.returned (.bool r)) W') :
    CallsIn Fence.wide n Tryz.prog 77 #[.func (.yield l) #[] #[], .pointer (some ⟨Bp, 0, none⟩)] W fun e W' => (∃ v, e = .returned v) ∧ ∃ r, R (.returned (.bool r)) W' := by
  have hdd : ∀ k : Nat, (Fence.wide.depth.isSome = true → 1 ≤ k) := fun k h => by cases h
  have h1 : Boxed (W.alloc (.cells #[.func (.yield l) #[] #[]] 110)) W.heap.size 110 (.func (.yield l) #[] #[]) := Boxed.new _ _ _
  have hlt : Bp < W.heap.size := by
    obtain ⟨ob, ho, -⟩ := cells_of_cell hBp
    exact (Array.getElem?_eq_some_iff.1 ho).1
  obtain ⟨A, hA⟩ : ∃ A, (W.alloc (.cells #[.func (.yield l) #[] #[]] 110)).alloc (.cells #[.nilFunc] 110) = A := ⟨_, rfl⟩
  have b1 : Boxed A W.heap.size 110 (.func (.yield l) #[] #[]) := hA ▸ h1.alloc _
  have b2 : Boxed A (W.heap.size + 1) 110 .nilFunc := by
    have := Boxed.new (W.alloc (.cells #[.func (.yield l) #[] #[]] 110)) 110 .nilFunc
    rw [World.size_alloc, hA] at this
    exact this
  have hB : Below W.heap.size W A := by rw [← hA]; exact ((Below.refl _ W).alloc (Nat.le_refl _) _).alloc (by simp) _
  have hsz : A.heap.size = W.heap.size + 2 := by rw [← hA]; simp
  have c2 := b2.cell
  have f2 := b2.frozen
  have b3 := b2.set (downPV W.heap.size (W.heap.size + 1))
  have b4 := b1.other (show W.heap.size ≠ W.heap.size + 1 by omega) (downPV W.heap.size (W.heap.size + 1))
  have hB3 : Below W.heap.size W (A.setCell ⟨W.heap.size + 1, 0, none⟩ (downPV W.heap.size (W.heap.size + 1))) := hB.setCell (p := ⟨W.heap.size + 1, 0, none⟩) (by simp) _
  have c3 := b3.cell
  have cp := (hB3.cell (p := ⟨Bp, 0, none⟩) hlt).trans hBp
  have hd := hdown _ b4 b3 hB3 (by rw [World.size_setCell]; exact hsz)
  clear hdown
  refine callsIn_of_wp Tryz.func77 rfl trivial ?_ rfl
  simp only [Tryz.ntmps77, List.size_toArray, List.length_cons, List.length_nil, Nat.reduceAdd, Nat.reduceSub, Array.replicate_succ, Array.replicate_zero, List.push_toArray, List.append_toArray, List.nil_append, List.cons_append]
  gi_wp2_with (refine ⟨trivial, hdd _, ?_⟩; gi_at_call 78; refine hd.mono ?_; rintro e W3 ⟨r, rfl, hr⟩)
  go_end0
  exact ⟨⟨_, rfl⟩, _, hr⟩
theorem NodeP.kept {T : Nat → Prop} {W W' : World} (h : Kp T W W') {b o : Nat} {x : Pt} (hb : T b) (hn : NodeP W b o x) : NodeP W' b o x :=
  ⟨h.cell (p := ⟨b, o, none⟩) hb hn.1, h.cell (p := ⟨b, o + 1, none⟩) hb hn.2.1, h.cell (p := ⟨b, o + 2, none⟩) hb hn.2.2.1, h.cell (p := ⟨b, o + 3, none⟩) hb hn.2.2.2.1, h.cell (p := ⟨b, o + 4, none⟩) hb hn.2.2.2.2.1, h.cell (p := ⟨b, o + 5, none⟩) hb hn.2.2.2.2.2⟩
theorem NodeP.ag {B : Nat} {W A : World} (h : Ag B W A) {b o : Nat} {x : Pt} (hn : NodeP W b o x) : NodeP A b o x := hn.of fun _ _ => h.cell _
/-- A pattern whose parts lie in such blocks. -/
def PT (T : Nat → Prop) (w : World) : Pt → Prop
  | .nil => True
  | .mk _ _ _ _ _ a n cap c => n ≤ cap ∧ cap ≤ 9223372036854775807 ∧ ∀ i, i < n → ∃ b o, a = some ⟨b, o, none⟩ ∧ T b ∧ NodeP w b (o + i * 6) (c i) ∧ PT T w (c i)
theorem pT_eq (T : Nat → Prop) (w : World) (x : Pt) : PT T w x ↔ x.n ≤ x.cap ∧ x.cap ≤ 9223372036854775807 ∧ ∀ i, i < x.n → ∃ b o, x.a = some ⟨b, o, none⟩ ∧ T b ∧ NodeP w b (o + i * 6) (x.c i) ∧ PT T w (x.c i) := by
  cases x with
  | nil => simp [PT, Pt.n, Pt.cap]
  | mk => rfl
theorem PT.kept {T : Nat → Prop} {W W' : World} (h : Kp T W W') : ∀ {x : Pt}, PT T W x → PT T W' x := by
  refine @(Pt.ind fun x ih hx => ?_)
  rw [pT_eq] at hx ⊢
  refine ⟨hx.1, hx.2.1, fun i hi => ?_⟩
  obtain ⟨b, o, e, hb, hn, hc⟩ := hx.2.2 i hi
  exact ⟨b, o, e, hb, hn.kept h hb, ih i hi hc⟩
theorem PT.of {T : Nat → Prop} {W W' : World} (h : ∀ p v, W.cell? p = some v → W'.cell? p = some v) : ∀ {x : Pt}, PT T W x → PT T W' x := by
  refine @(Pt.ind fun x ih hx => ?_)
  rw [pT_eq] at hx ⊢
  refine ⟨hx.1, hx.2.1, fun i hi => ?_⟩
  obtain ⟨b, o, e, hb, hn, hc⟩ := hx.2.2 i hi
  exact ⟨b, o, e, hb, ⟨h _ _ hn.1, h _ _ hn.2.1, h _ _ hn.2.2.1, h _ _ hn.2.2.2.1, h _ _ hn.2.2.2.2.1, h _ _ hn.2.2.2.2.2⟩, ih i hi hc⟩
theorem IsP.xt {T : Nat → Prop} {w : World} (hT : ∀ k, k < w.heap.size → T k) : ∀ {x : Pt}, IsP w x → PT T w x := by
  refine @(Pt.ind fun x ih hx => ?_)
  rw [isP_eq] at hx
  rw [pT_eq]
  refine ⟨hx.1, hx.2.1, fun i hi => ?_⟩
  obtain ⟨b, o, e, hn, hc⟩ := hx.2.2 i hi
  exact ⟨b, o, e, hT b hn.lt, hn, ih i hi hc⟩

theorem PIn.xt {n : Nat} {T : Nat → Prop} {w : World} (hT : ∀ k, k < n → T k) {x : Pt} (h : PIn n w x) : PT T w x := by
  revert h
  revert x
  refine @(Pt.ind fun x ih hx => ?_)
  rw [pIn_eq] at hx
  rw [pT_eq]
  refine ⟨hx.1, hx.2.1, fun i hi => ?_⟩
  obtain ⟨b, o, e, hb, hn, hc⟩ := hx.2.2 i hi
  exact ⟨b, o, e, hT b hb, hn, ih i hi hc⟩
/-- What a round of the range is handed. -/
structure VisP where
  d : Nat
  b : Nat
  o : Nat
  y : Pt
  pre : List (Nat × Pt)

/-- A range over all nodes, each once, in their order. -/
theorem nodesP_fold {n : Nat} {g : Operand} {ps : Array Tmp} {assign body : Code} {Q : Exit → Act → World → Prop} {a : Act} {w : World} (Bp b0 o0 : Nat) (x : Pt) (T : Nat → Prop) (J : List (Nat × Pt) → World → Prop) (Jx : Code → World → Prop)
    (hg : a.eval g = .func (.func 77) #[] #[.pointer (some ⟨Bp, 0, none⟩)]) (hps : ps.size = 2) (hBp : w.cell? ⟨Bp, 0, none⟩ = some (.pointer (some ⟨b0, o0, none⟩))) (hsm : x.size ≤ 1048576)
    (hT : ∀ k, T k → k < w.heap.size) (hb0 : T b0) (hN : NodeP w b0 o0 x) (hX : PT T w x)
    (hJ : ∀ pre W A, Ag w.heap.size W A → J pre W → J pre A) (hJd : ∀ pre W, J pre W → J pre W.drew) (h0 : ∀ W, Below w.heap.size w W → J [] W) (hJx : ∀ c W A, Ag w.heap.size W A → Jx c W → Jx c A)
    (a₁ : Nat → Nat → Nat → Act)
    (hassign : ∀ (l d b o : Nat) (W : World) (K : Act → World → Prop), K (a₁ d b o) W →
      assign.wpIn (Fence.wide.inRound l) (n - 1 - 1) Tryz.prog (Exit.then K (fun _ _ _ => False)) { tmps := (ps.zip #[.int .i64 d, .pointer (some ⟨b, o, none⟩)]).foldl (fun t (p, v) => t.setIfInBounds p v) a.tmps, defers := [] } W)
    (hbody : ∀ (l d b o : Nat) (y : Pt) (pre : List (Nat × Pt)) (W : World), T b → NodeP W b o y → PT T W y → J pre W → w.heap.size + 4 ≤ W.heap.size → (∃ post, pre ++ (d, y) :: post = visP 1 x) →
      body.wpIn (Fence.wide.inRound l) (n - 1 - 1) Tryz.prog (foldPost w.heap.size (fun k => T k ∨ k = w.heap.size + 2 ∨ k = w.heap.size + 3) (J (pre ++ [(d, y)])) Jx W) (a₁ d b o) W)
    (hdone : ∀ (D : Nat) (W : World), w.heap.size ≤ D → J (visP 1 x) W → W.heap[D]? = some (.deferred (some [])) → Q .normal { a with defers := { target := .collected D, args := #[] } :: a.defers } W)
    (hstop : ∀ (D : Nat) (c : Code) (W : World), w.heap.size ≤ D → Jx c W → W.heap[D]? = some (.deferred (some [])) → c.wpIn Fence.wide n Tryz.prog Q { a with defers := { target := .collected D, args := #[] } :: a.defers } W) :
    (Code.rangeFunc g ps assign body).wpIn Fence.wide n Tryz.prog Q a w := by
  obtain ⟨T', hT'⟩ : ∃ T' : Nat → Prop, T' = fun k => T k ∨ k = w.heap.size + 2 ∨ k = w.heap.size + 3 := ⟨_, rfl⟩
  have tT : ∀ k, T k → T' k := fun k hk => by rw [hT']; exact .inl hk
  refine wpIn_range (α := VisP) hg (enters_of Tryz.func77 (by kernel_rfl) rfl) (encs := fun v => #[.int .i64 v.d, .pointer (some ⟨v.b, v.o, none⟩)]) (fun _ => hps.symm)
    (fun v W => T v.b ∧ NodeP W v.b v.o v.y ∧ PT T W v.y ∧ J v.pre W ∧ w.heap.size + 4 ≤ W.heap.size ∧ ∃ post, v.pre ++ (v.d, v.y) :: post = visP 1 x)
    (fun v W W' => Kp T' W W' ∧ J (v.pre ++ [(v.d, v.y)]) W' ∧ w.heap.size + 4 ≤ W'.heap.size)
    (fun c _ _ W' => Jx c W') (J (visP 1 x)) Jx ?_ ?_ ?_ (fun W A h => hJ _ W A h) hJx (fun v => a₁ v.d v.b v.o) (fun l v W K hK => hassign l v.d v.b v.o W K hK) ?_ ?_ hdone hstop
  · rintro v W A hag ⟨h1, h2, h3, h4, h5, h6⟩
    exact ⟨h1, h2.ag hag, h3.of fun p v h => (hag.cell p).trans h, hJ _ _ _ hag h4, by rw [hag.size]; exact h5, h6⟩
  · rintro v W A A' W' hag hag' ⟨h1, h2, h3⟩
    exact ⟨Kp.ag hag hag' h1, hJ _ _ _ hag' h2, by rw [hag'.size]; exact h3⟩
  · rintro c v W A A' W' hag hag' h
    exact hJx _ _ _ hag' h
  · rintro l v W ⟨h1, h2, h3, h4, h5, h6⟩ _
    refine wpIn_mono (hbody l v.d v.b v.o v.y v.pre W h1 h2 h3 h4 h5 h6) ?_
    rintro e a3 W3 hp
    cases e with
    | normal => exact ⟨hp.1, by rw [hT']; exact hp.2.1, hp.2.2, Nat.le_trans h5 hp.1.size⟩
    | ret => exact hp
    | exit id => exact hp
    | goto t => exact hp
    | panic ch => exact hp.elim
    | outgrown => exact hp.elim
  · intro l Rec RecX W1 hB1 hs1 hrec1 hrec hrecx hY
    have hkT : Kp T w W1 := Kp.of_below hB1 hT
    have hlt : Bp < w.heap.size := by
      obtain ⟨ob, ho, -⟩ := cells_of_cell hBp
      exact (Array.getElem?_eq_some_iff.1 ho).1
    refine (nodesP1_in (n - 1) l Bp b0 o0 W1 (fun e W' => (e = .returned (.bool true) ∧ J (visP 1 x) W' ∧ Rec W') ∨ (e = .returned (.bool false) ∧ ∃ c, Jx c W' ∧ RecX c W')) ((hB1.cell (p := ⟨Bp, 0, none⟩) hlt).trans hBp) ?_).mono ?_
    · intro W2 by2 bd2 hB2 hs2
      have key := downP_any (ι := Nat × Pt × List (Nat × Pt)) l W1.heap.size (W1.heap.size + 1) (fun v => v.2.1.n) (fun v i => (v.1 + 1, v.2.1.c i, v.2.2 ++ (v.1, v.2.1) :: catN (fun i => visP (v.1 + 1) (v.2.1.c i)) i)) (fun v => v.2.1.size)
        (fun v b o d W => ((v.1 : Nat) : Int) = d ∧ T b ∧ NodeP W b o v.2.1 ∧ PT T W v.2.1 ∧ J v.2.2 W ∧ Rec W ∧ Boxed W W1.heap.size 110 (.func (.yield l) #[] #[]) ∧ Boxed W (W1.heap.size + 1) 110 (downPV W1.heap.size (W1.heap.size + 1)) ∧ w.heap.size + 4 ≤ W.heap.size ∧ (∃ post, v.2.2 ++ (visP v.1 v.2.1 ++ post) = visP 1 x) ∧ v.1 + v.2.1.size ≤ 1048577)
        (fun v b o d W a cap i Wi => a = v.2.1.a ∧ cap = v.2.1.cap ∧ ((v.1 : Nat) : Int) = d ∧ T b ∧ NodeP Wi b o v.2.1 ∧ PT T Wi v.2.1 ∧ J (v.2.2 ++ (v.1, v.2.1) :: catN (fun i => visP (v.1 + 1) (v.2.1.c i)) i) Wi ∧ Rec Wi ∧
          Boxed Wi W1.heap.size 110 (.func (.yield l) #[] #[]) ∧ Boxed Wi (W1.heap.size + 1) 110 (downPV W1.heap.size (W1.heap.size + 1)) ∧ w.heap.size + 4 ≤ Wi.heap.size ∧ Kp T' W Wi ∧ (∃ post, v.2.2 ++ (visP v.1 v.2.1 ++ post) = visP 1 x) ∧ v.1 + v.2.1.size ≤ 1048577)
        (fun v b o d W W' => J (v.2.2 ++ visP v.1 v.2.1) W' ∧ Rec W' ∧ Kp T' W W' ∧ w.heap.size + 4 ≤ W'.heap.size)
        (fun v b o d W W' => ∃ c, Jx c W' ∧ RecX c W')
        (fun v i hi => Pt.size_part v.2.1 i hi) (fun v b o d W h => h.2.2.2.2.2.2.1.cell) ?_ ?_ ?_ ?_ (x.size + 1) (1, x, []) (by simp) (n - 1 - 1) b0 o0 1 W2 ?_
      · refine key.mono ?_
        rintro e W' (⟨rfl, h1, h2, -⟩ | ⟨rfl, h⟩)
        · exact ⟨true, rfl, .inl ⟨rfl, by simpa using h1, h2⟩⟩
        · exact ⟨false, rfl, .inr ⟨rfl, h⟩⟩
      · rintro ⟨d', y, pre⟩ b o d W ⟨rfl, h1, h2, h3, h4, h5, h6, h7, h8, hN, hd⟩
        have hN' := hN
        obtain ⟨post, hpo⟩ := hN
        refine YieldAt.mono (hY 0 ⟨d', b, o, y, pre⟩ W ⟨h1, h2, h3, h4, h8, by rw [visP_eq d' y] at hpo; exact ⟨_, by simpa using hpo⟩⟩ h5) ?_
        rintro e W' (⟨rfl, ⟨k1, k2, k3⟩, k4, -⟩ | ⟨rfl, c, k1, k2⟩)
        · have kT : Kp T W W' := k1.mono tT
          exact .inl ⟨rfl, y.a, y.cap, rfl, rfl, rfl, h1, h2.kept kT h1, h3.kept kT, by simpa [catN] using k2, k4, k1.boxed (by rw [hT']; exact .inr (.inl (by omega))) h6, k1.boxed (by rw [hT']; exact .inr (.inr (by omega))) h7, k3, k1, hN', hd⟩
        · exact .inr ⟨rfl, c, k1, k2⟩
      · rintro ⟨d', y, pre⟩ b o d W a cap i Wi ⟨rfl, rfl, rfl, h1, h2, h3, h4, h5, h6, h7, h8, h9, hN⟩
        have := ((pT_eq _ _ _).1 h3)
        simp only at this
        exact ⟨by simp only; omega, h2.2.2.2.2.2, h7.cell⟩
      · rintro ⟨d', y, pre⟩ b o d W a cap i Wi ⟨rfl, rfl, rfl, h1, h2, h3, h4, h5, h6, h7, h8, h9, hN, hd⟩ hi
        obtain ⟨b', o', ea, hb', hn', hx'⟩ := ((pT_eq _ _ _).1 h3).2.2 i hi
        have hsp := y.size_part i hi
        have hw1 : IntKind.i64.wrap ((d' : Int) + 1) = ((d' + 1 : Nat) : Int) := by
          simp only at hd
          simp [IntKind.wrap, IntKind.bits, IntKind.signed]
          omega
        rw [hw1]
        refine ⟨b', o', ea, ⟨rfl, hb', hn', PT.of (W := Wi) (W' := Wi.drew) (fun _ _ h => h) hx', hJd _ _ h4, hrec Wi Wi.drew ⟨Nat.le_refl _, fun _ _ _ h _ => h⟩ h5, h6, h7, h8, ?_, by simp only at hd ⊢; omega⟩, ?_, fun W' h => h⟩
        · obtain ⟨post, hpo⟩ := hN
          obtain ⟨r, hr⟩ := catN_split (fun i => visP (d' + 1) (y.c i)) hi
          refine ⟨r ++ post, ?_⟩
          rw [visP_eq d' y] at hpo
          simp only at hpo ⊢
          rw [← hpo, hr]
          simp
        rintro W' ⟨k1, k2, k3, k4⟩
        have kk : Kp T' Wi W' := k3
        have kT : Kp T Wi W' := kk.mono tT
        exact ⟨rfl, rfl, rfl, h1, h2.kept kT h1, h3.kept kT, by simpa [catN] using k1, k2, kk.boxed (by rw [hT']; exact .inr (.inl (by omega))) h6, kk.boxed (by rw [hT']; exact .inr (.inr (by omega))) h7, k4, h9.trans kk, hN, hd⟩
      · rintro ⟨d', y, pre⟩ b o d W a cap Wi ⟨rfl, rfl, rfl, h1, h2, h3, h4, h5, h6, h7, h8, h9, hN, hd⟩
        exact ⟨by rw [visP_eq]; exact h4, h5, h9, h8⟩
      · have hB : Below w.heap.size w W2 := hB1.trans (hB2.mono (by omega))
        have kT : Kp T w W2 := Kp.of_below hB hT
        refine ⟨rfl, hb0, hN.kept kT hb0, hX.kept kT, h0 W2 hB, hrec W1 W2 ⟨by omega, fun k o hk ho _ => ?_⟩ hrec1, by2, bd2, by omega, ⟨[], by simp⟩, by simp only; omega⟩
        exact (hB2.block k (Array.getElem?_eq_some_iff.1 ho).1).trans ho
    · rintro e W' ⟨hv, r, (⟨-, h1, h2⟩ | ⟨-, h⟩)⟩
      · exact ⟨hv, .inl ⟨h1, h2⟩⟩
      · exact ⟨hv, .inr h⟩
end Go.Proofs.YtfnfegcjgnbgbaaGreatDoor
namespace Go.Proofs.YtfnfegcjgnbgbaaGreatDoor
open Go.RowKit Go.Shelf
attribute [local go_sem] Oper.semAt_some

set_option maxRecDepth 100000 in
set_option maxHeartbeats 4000000 in
theorem refSizeP_any : ∀ (x : Pt) (w : World), IsP w x → x.size ≤ 1048576 → Calls Tryz.prog 22 #[x.val] w fun e w' => e = .returned (.int .i64 x.size) ∧ Below w.heap.size w w' := by
  refine Pt.ind fun x ih w hX hsm => ?_
  obtain ⟨r, hr⟩ : ∃ r : Int, r = x.size := ⟨_, rfl⟩
  have HR : Hid (r = ((1 + sumN (fun i => (x.c i).size) x.n : Nat) : Int)) := by show r = _; rw [hr, x.size_eq]
  rw [← hr]
  have HI : Hid (∀ i, i < x.n → ∀ w, IsP w (x.c i) → Calls Tryz.prog 22 #[(x.c i).val] w fun e w' => e = .returned (.int .i64 (x.c i).size) ∧ Below w.heap.size w w') := fun i hi w h => ih i hi w h (by have := x.size_part i hi; omega)
  have HX : Hid (IsP w x) := hX
  have hlen := hX.len
  have HS : Hid (∀ k, k < x.n → 1 + sumN (fun i => (x.c i).size) k + (x.c k).size ≤ 1048576) := fun k hk => by have := sumN_part (f := fun i => (x.c i).size) hk; have := x.size_eq; omega
  obtain ⟨A, hA, hB0, hs, hN⟩ := boxP_one x w
  have HB : Hid (Below w.heap.size w A) := hB0
  have HN : Hid (NodeP A w.heap.size 0 x) := hN
  clear ih hX hr hB0 hN hsm
  go_enter Tryz.func22, Tryz.ntmps22
  go_wp2_with fail
  go_loopw [3, 4] (fun u v wr => ∃ k : Nat, k ≤ x.n ∧ u = .int .i64 ((1 + sumN (fun i => (x.c i).size) k : Nat) : Int) ∧ v = .int .i64 k ∧ Below A.heap.size A wr) (fun _ v _ => x.n - (intOf v).toNat)
  case atStart => exact ⟨0, Nat.zero_le _, rfl, rfl, Below.refl _ _⟩
  case round =>
    obtain ⟨k, hk, rfl, rfl, hB⟩ := hrel
    obtain ⟨-, -, -, -, -, c6⟩ := (nodeP_on HN.out (hB.mono (by omega))).at0
    have hw := HB.out.trans (hB.mono (by omega))
    by_cases hkn : k < x.n
    · obtain ⟨b, o, ea, hn, hx⟩ := (HX.out.later hw).part hkn
      rw [ea] at c6
      obtain ⟨d0, d1, d2, d3, d4, d5⟩ := hn
      have hc := HI.out k hkn wr hx
      have HK : Hid (k < x.n) := hkn
      have HQ : Hid (Below w.heap.size w wr) := hw
      have hb := HS.out k hkn
      have HE : Hid (1 + sumN (fun i => (x.c i).size) (k + 1) = 1 + sumN (fun i => (x.c i).size) k + (x.c k).size) := by show _ = _; simp only [sumN]; omega
      generalize 1 + sumN (fun i => (x.c i).size) k = p at hb HE ⊢
      generalize (x.c k).size = q at hc hb HE
      clear hx hw
      go_wp2_with (go_at_call 22; refine hc.mono ?_; rintro e w2 ⟨rfl, hB2⟩)
      exact ⟨⟨k + 1, HK.out, by rw [HE.out]; simp, by simp, hB.trans (hB2.mono hB.size)⟩, by have := HK.out; simp [intOf]; omega⟩
    · have hk' : k = x.n := by omega
      subst hk'
      go_wp2
      go_ret
      exact ⟨ret_int HR.out.symm, hw⟩
end Go.Proofs.YtfnfegcjgnbgbaaGreatDoor
