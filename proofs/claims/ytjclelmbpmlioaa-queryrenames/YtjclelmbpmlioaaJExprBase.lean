/-
  Conditions as they lie in memory; of no function.
  The closure of expr.nodes that goes down (nodes$1$1), for whatever is done at the nodes.
  expr.nodes: a range over all nodes of a condition that changes none of them.
  expr.Size.
  A range over slices.Backward of texts.
  A range over all nodes whose rounds may write: told by relations between worlds.
  slices.Clone of conditions: a row of nodes that a call owns.
  Conditions that lie apart: each row of parts in a block of its own, that may be written; of no function.
  The document's Size, light and awake.
  expr.alone: two nodes without their parts.
  expr.Order: by the first nodes that differ.
  expr.Same.
-/
import Derived.Test.YtjclelmbpmlioaaJNamesMath
import Derived.Test.YtjclelmbpmlioaaJTxt
import Derived.Test.YtjclelmbpmlioaaJExprRange
import Derived.BigQuiet
import Derived.RangeFuncNested
import Derived.RangeFuncBound
import Derived.RangeFuncCalls
import Derived.RangeFuncLeaves
import Derived.RangeFuncBox
import Derived.Shelf.Abstract
import Derived.Shelf.RegionOpen
import Derived.WalkKit
import Derived.OwnWalkIn
import Derived.TacticsInMore
import Derived.LoopNIn
import Derived.LoopIn
import Derived.Laws.EntriesVeiled
namespace Go.Proofs.Ytjclelmbpmlioaa
open Go.RowKit

abbrev X.slice (x : X) : Value := .slice x.a x.n x.cap
/-- A condition as a value. -/
abbrev X.val (x : X) : Value := .agg #[.int .i64 x.k, .int .i64 x.v.k, .int .i64 x.v.n, .string x.v.s, .string x.s, .string x.f, .slice x.a x.n x.cap]
/-- The seven cells of a node. -/
def Node (w : World) (b o : Nat) (x : X) : Prop :=
  w.cell? ⟨b, o, none⟩ = some (.int .i64 x.k) ∧ w.cell? ⟨b, o + 1, none⟩ = some (.int .i64 x.v.k) ∧ w.cell? ⟨b, o + 2, none⟩ = some (.int .i64 x.v.n) ∧ w.cell? ⟨b, o + 3, none⟩ = some (.string x.v.s) ∧
    w.cell? ⟨b, o + 4, none⟩ = some (.string x.s) ∧ w.cell? ⟨b, o + 5, none⟩ = some (.string x.f) ∧ w.cell? ⟨b, o + 6, none⟩ = some (.slice x.a x.n x.cap)
/-- All that lies below a condition. -/
def IsX (w : World) : X → Prop
  | .nil => True
  | .mk _ _ _ _ a n cap c => n ≤ cap ∧ cap ≤ 9223372036854775807 ∧ ∀ i, i < n → ∃ b o, a = some ⟨b, o, none⟩ ∧ Node w b (o + i * 7) (c i) ∧ IsX w (c i)
theorem isX_eq (w : World) (x : X) : IsX w x ↔ x.n ≤ x.cap ∧ x.cap ≤ 9223372036854775807 ∧ ∀ i, i < x.n → ∃ b o, x.a = some ⟨b, o, none⟩ ∧ Node w b (o + i * 7) (x.c i) ∧ IsX w (x.c i) := by
  cases x with
  | nil => simp [IsX, X.n, X.cap]
  | mk => rfl
theorem IsX.part {w : World} {x : X} (h : IsX w x) {i : Nat} (hi : i < x.n) : ∃ b o, x.a = some ⟨b, o, none⟩ ∧ Node w b (o + i * 7) (x.c i) ∧ IsX w (x.c i) := ((isX_eq w x).1 h).2.2 i hi
theorem IsX.len {w : World} {x : X} (h : IsX w x) : x.n ≤ 9223372036854775807 := by have := (isX_eq w x).1 h; omega
theorem Node.of {w w' : World} {b o : Nat} {x : X} (h : Node w b o x) (hk : ∀ j, j < 7 → w'.cell? ⟨b, o + j, none⟩ = w.cell? ⟨b, o + j, none⟩) : Node w' b o x :=
  ⟨(hk 0 (by omega)).trans h.1, (hk 1 (by omega)).trans h.2.1, (hk 2 (by omega)).trans h.2.2.1, (hk 3 (by omega)).trans h.2.2.2.1, (hk 4 (by omega)).trans h.2.2.2.2.1, (hk 5 (by omega)).trans h.2.2.2.2.2.1, (hk 6 (by omega)).trans h.2.2.2.2.2.2⟩
theorem Node.lt {w : World} {b o : Nat} {x : X} (h : Node w b o x) : b < w.heap.size := by
  have h0 := h.1
  simp only [World.cell?] at h0
  by_cases hb : b < w.heap.size
  · exact hb
  · rw [Array.getElem?_eq_none (by omega)] at h0
    cases h0
theorem Node.later {w w' : World} {b o : Nat} {x : X} (h : Node w b o x) (hB : Below w.heap.size w w') : Node w' b o x := h.of fun j _ => hB.cell (p := ⟨b, o + j, none⟩) h.lt
theorem IsX.later {w w' : World} (hB : Below w.heap.size w w') : ∀ {x : X}, IsX w x → IsX w' x
  | .nil, _ => trivial
  | .mk _ _ _ _ _ _ _ c, h => by
    obtain ⟨h1, h2, h3⟩ := h
    refine ⟨h1, h2, fun i hi => ?_⟩
    obtain ⟨b, o, e, hn, hx⟩ := h3 i hi
    exact ⟨b, o, e, hn.later hB, IsX.later hB hx⟩
/-- What lies below n₀ alone. -/
def XIn (n₀ : Nat) (w : World) : X → Prop
  | .nil => True
  | .mk _ _ _ _ a n cap c => n ≤ cap ∧ cap ≤ 9223372036854775807 ∧ ∀ i, i < n → ∃ b o, a = some ⟨b, o, none⟩ ∧ b < n₀ ∧ Node w b (o + i * 7) (c i) ∧ XIn n₀ w (c i)
theorem xIn_eq (n₀ : Nat) (w : World) (x : X) : XIn n₀ w x ↔ x.n ≤ x.cap ∧ x.cap ≤ 9223372036854775807 ∧ ∀ i, i < x.n → ∃ b o, x.a = some ⟨b, o, none⟩ ∧ b < n₀ ∧ Node w b (o + i * 7) (x.c i) ∧ XIn n₀ w (x.c i) := by
  cases x with
  | nil => simp [XIn, X.n, X.cap]
  | mk => rfl
theorem IsX.inn {w : World} : ∀ {x : X}, IsX w x → XIn w.heap.size w x
  | .nil, _ => trivial
  | .mk _ _ _ _ _ _ _ c, h => by
    obtain ⟨h1, h2, h3⟩ := h
    refine ⟨h1, h2, fun i hi => ?_⟩
    obtain ⟨b, o, e, hn, hx⟩ := h3 i hi
    exact ⟨b, o, e, hn.lt, hn, hx.inn⟩
theorem XIn.is {n₀ : Nat} {w : World} : ∀ {x : X}, XIn n₀ w x → IsX w x
  | .nil, _ => trivial
  | .mk _ _ _ _ _ _ _ c, h => by
    obtain ⟨h1, h2, h3⟩ := h
    refine ⟨h1, h2, fun i hi => ?_⟩
    obtain ⟨b, o, e, _, hn, hx⟩ := h3 i hi
    exact ⟨b, o, e, hn, hx.is⟩
theorem Node.below {n₀ : Nat} {w w' : World} {b o : Nat} {x : X} (h : Node w b o x) (hB : Below n₀ w w') (hb : b < n₀) : Node w' b o x := h.of fun j _ => hB.cell (p := ⟨b, o + j, none⟩) hb
theorem XIn.below {n₀ : Nat} {w w' : World} (hB : Below n₀ w w') : ∀ {x : X}, XIn n₀ w x → XIn n₀ w' x
  | .nil, _ => trivial
  | .mk _ _ _ _ _ _ _ c, h => by
    obtain ⟨h1, h2, h3⟩ := h
    refine ⟨h1, h2, fun i hi => ?_⟩
    obtain ⟨b, o, e, hb, hn, hx⟩ := h3 i hi
    exact ⟨b, o, e, hb, hn.below hB hb, XIn.below hB hx⟩
theorem XIn.mono {n₀ n₁ : Nat} {w : World} (hn : n₀ ≤ n₁) : ∀ {x : X}, XIn n₀ w x → XIn n₁ w x
  | .nil, _ => trivial
  | .mk _ _ _ _ _ _ _ c, h => by
    obtain ⟨h1, h2, h3⟩ := h
    refine ⟨h1, h2, fun i hi => ?_⟩
    obtain ⟨b, o, e, hb, hn', hx⟩ := h3 i hi
    exact ⟨b, o, e, by omega, hn', XIn.mono hn hx⟩
/-- Texts no longer than texts can be. -/
def XOk : X → Prop
  | .nil => True
  | .mk _ _ s f _ n _ c => s.size ≤ maxLen ∧ f.size ≤ maxLen ∧ ∀ i, i < n → XOk (c i)
theorem xOk_eq (x : X) : XOk x ↔ x.s.size ≤ maxLen ∧ x.f.size ≤ maxLen ∧ ∀ i, i < x.n → XOk (x.c i) := by
  cases x with
  | nil => exact ⟨fun _ => ⟨Nat.zero_le _, Nat.zero_le _, fun i hi => absurd hi (Nat.not_lt_zero _)⟩, fun _ => trivial⟩
  | mk => rfl
end Go.Proofs.Ytjclelmbpmlioaa
namespace Go.Proofs.Ytjclelmbpmlioaa
open Go.RowKit Go.Shelf
attribute [local go_sem] Oper.semAt_some

/-- The closure that goes down, as a value. -/
abbrev downV (By Bd : Nat) : Value := .func (.func 63) #[] #[.pointer (some ⟨By, 0, none⟩), .pointer (some ⟨Bd, 0, none⟩)]

set_option maxRecDepth 100000 in
set_option maxHeartbeats 4000000 in
theorem down_any {ι : Type} (l By Bd : Nat) (kids : ι → Nat) (kid : ι → Nat → ι) (rank : ι → Nat)
    (Pre : ι → Nat → Nat → Int → World → Prop) (Mid : ι → Nat → Nat → Int → World → Option Addr → Nat → Nat → World → Prop) (Post Stop : ι → Nat → Nat → Int → World → World → Prop)
    (hrank : ∀ v i, i < kids v → rank (kid v i) < rank v)
    (hP : ∀ v b o d W, Pre v b o d W → W.cell? ⟨By, 0, none⟩ = some (.func (.yield l) #[] #[]))
    (hY : ∀ v b o d W, Pre v b o d W → YieldAt Fence.wide 0 Try.prog l #[.int .i64 d, .pointer (some ⟨b, o, none⟩)] W fun e W' =>
      (e = .returned (.bool true) ∧ ∃ a cap, Mid v b o d W a cap 0 W') ∨ (e = .returned (.bool false) ∧ Stop v b o d W W'))
    (hL : ∀ v b o d W a cap i Wi, Mid v b o d W a cap i Wi → kids v ≤ 9223372036854775807 ∧ Wi.cell? ⟨b, o + 6, none⟩ = some (.slice a (kids v) cap) ∧ Wi.cell? ⟨Bd, 0, none⟩ = some (downV By Bd))
    (hC : ∀ v b o d W a cap i Wi, Mid v b o d W a cap i Wi → i < kids v → ∃ b' o', a = some ⟨b', o', none⟩ ∧ Pre (kid v i) b' (o' + i * 7) (IntKind.i64.wrap (d + 1)) Wi.drew ∧
      (∀ W', Post (kid v i) b' (o' + i * 7) (IntKind.i64.wrap (d + 1)) Wi.drew W' → Mid v b o d W a cap (i + 1) W') ∧ (∀ W', Stop (kid v i) b' (o' + i * 7) (IntKind.i64.wrap (d + 1)) Wi.drew W' → Stop v b o d W W'))
    (hE : ∀ v b o d W a cap Wi, Mid v b o d W a cap (kids v) Wi → Post v b o d W Wi) :
    ∀ (r : Nat) (v : ι), rank v < r → ∀ (n b o : Nat) (d : Int) (W : World), Pre v b o d W →
      CallsIn Fence.wide n Try.prog 63 #[.int .i64 d, .pointer (some ⟨b, o, none⟩), .pointer (some ⟨By, 0, none⟩), .pointer (some ⟨Bd, 0, none⟩)] W fun e W' =>
        (e = .returned (.bool true) ∧ Post v b o d W W') ∨ (e = .returned (.bool false) ∧ Stop v b o d W W') := by
  intro r
  induction r with
  | zero => intro v h; omega
  | succ r ih =>
    intro v hv n b o d W hpre
    have hdd : ∀ k : Nat, (Fence.wide.depth.isSome = true → 1 ≤ k) := fun k h => by cases h
    have hby := hP v b o d W hpre
    obtain ⟨fn, tmps, assign, body, hy, hR⟩ := yield_wide (n - 1) (hY v b o d W hpre)
    refine callsIn_of_wp Try.func63 rfl trivial ?_ rfl
    simp only [Try.ntmps63, List.size_toArray, List.length_cons, List.length_nil, Nat.reduceAdd, Nat.reduceSub, Array.replicate_succ, Array.replicate_zero, List.push_toArray, List.append_toArray, List.nil_append, List.cons_append]
    gi_wp2_with (first
      | ((try refine ⟨hdd _, ?_⟩); refine hR.mono ?_; clear hR; rintro e W1 (⟨rfl, a, cap, hm⟩ | ⟨rfl, hs⟩); (try (obtain ⟨hn0, hc6, hcd⟩ := hL v b o d W a cap 0 W1 hm))))
    · obtain ⟨hn1, -⟩ := hL v b o d W a cap 0 W1 hm
      gi_loopw [18] (fun u wr => ∃ i : Nat, i ≤ kids v ∧ u = .int .i64 i ∧ Mid v b o d W a cap i wr) (fun u _ => kids v - (intOf u).toNat)
      case atStart => exact ⟨0, Nat.zero_le _, rfl, hm⟩
      case round =>
        obtain ⟨i, hi, rfl, hmi⟩ := hrel
        obtain ⟨-, hc6i, hcdi⟩ := hL v b o d W a cap i wr hmi
        by_cases hin : i < kids v
        · obtain ⟨b', o', rfl, hp', hpost, hstop⟩ := hC v b o d W a cap i wr hmi hin
          have ihc := (ih (kid v i) (by have := hrank v i hin; omega) (n - 1) b' (o' + i * 7) _ wr.drew hp').mono (R' := fun e W2 => ∃ r, e = .returned (.bool r) ∧ ((r = true ∧ Mid v b o d W (some ⟨b', o', none⟩) cap (i + 1) W2) ∨ (r = false ∧ Stop v b o d W W2)))
            (fun e W2 h => h.elim (fun h => ⟨true, h.1, .inl ⟨rfl, hpost W2 h.2⟩⟩) (fun h => ⟨false, h.1, .inr ⟨rfl, hstop W2 h.2⟩⟩))
          clear ih hpost hstop
          have HQ : Hid (i < kids v) := hin
          gi_wp2
          gi_region_with ((refine ⟨trivial, hdd _, ?_⟩; gi_at_call 63; refine ihc.mono ?_; clear ihc; rintro e W2 ⟨r, rfl, hj⟩))
          all_goals (rcases hj with ⟨rfl, hj⟩ | ⟨rfl, hj⟩)
          all_goals gi_wp2
          all_goals first
            | (go_ret; exact .inr ⟨rfl, hj⟩)
            | exact ⟨⟨i + 1, HQ.out, by simp, hj⟩, by have := HQ.out; simp [intOf]; omega⟩
        · have hin' : i = kids v := by omega
          subst hin'
          gi_wp2
          go_ret
          exact .inl ⟨rfl, hE _ _ _ _ _ _ _ _ hmi⟩
    · gi_wp2
      go_ret
      exact .inr ⟨rfl, hs⟩
end Go.Proofs.Ytjclelmbpmlioaa
namespace Go.Proofs.Ytjclelmbpmlioaa
open Go.RowKit Go.Shelf
attribute [local go_sem] Oper.semAt_some

set_option maxRecDepth 100000 in
set_option maxHeartbeats 1000000 in
theorem nodes_in (n : Nat) (p : Option Addr) (w : World) :
    CallsIn Fence.wide n Try.prog 54 #[.pointer p] w fun e w' => e = .returned (.func (.func 62) #[] #[.pointer (some ⟨w.heap.size, 0, none⟩)]) ∧ w' = w.alloc (.cells #[.pointer p] 91) := by
  refine callsIn_of_wp Try.func54 rfl trivial ?_ rfl
  simp only [Try.ntmps54, List.size_toArray, List.length_cons, List.length_nil, Nat.reduceAdd, Nat.reduceSub, Array.replicate_succ, Array.replicate_zero, List.push_toArray, List.append_toArray, List.nil_append, List.cons_append]
  gi_wp2
  go_ret
  exact ⟨rfl, rfl⟩

set_option maxRecDepth 100000 in
set_option maxHeartbeats 2000000 in
/-- The function that expr.nodes hands back: it lays yield and the closure in boxes of their own, and goes down. -/
theorem nodes1_in (n l Bp b o : Nat) (W : World) (R : Ending → World → Prop) (hBp : W.cell? ⟨Bp, 0, none⟩ = some (.pointer (some ⟨b, o, none⟩)))
    (hdown : ∀ W2, Boxed W2 W.heap.size 98 (.func (.yield l) #[] #[]) → Boxed W2 (W.heap.size + 1) 98 (downV W.heap.size (W.heap.size + 1)) → Below W.heap.size W W2 → W2.heap.size = W.heap.size + 2 →
      CallsIn Fence.wide (n - 1) Try.prog 63 #[.int .i64 1, .pointer (some ⟨b, o, none⟩), .pointer (some ⟨W.heap.size, 0, none⟩), .pointer (some ⟨W.heap.size + 1, 0, none⟩)] W2 fun e W' => ∃ r, e = .returned (.bool r) ∧ R (.returned (.bool r)) W') :
    CallsIn Fence.wide n Try.prog 62 #[.func (.yield l) #[] #[], .pointer (some ⟨Bp, 0, none⟩)] W fun e W' => (∃ v, e = .returned v) ∧ ∃ r, R (.returned (.bool r)) W' := by
  have hdd : ∀ k : Nat, (Fence.wide.depth.isSome = true → 1 ≤ k) := fun k h => by cases h
  have h1 : Boxed (W.alloc (.cells #[.func (.yield l) #[] #[]] 98)) W.heap.size 98 (.func (.yield l) #[] #[]) := Boxed.new _ _ _
  have hlt : Bp < W.heap.size := by
    obtain ⟨ob, ho, -⟩ := cells_of_cell hBp
    exact (Array.getElem?_eq_some_iff.1 ho).1
  obtain ⟨A, hA⟩ : ∃ A, (W.alloc (.cells #[.func (.yield l) #[] #[]] 98)).alloc (.cells #[.nilFunc] 98) = A := ⟨_, rfl⟩
  have b1 : Boxed A W.heap.size 98 (.func (.yield l) #[] #[]) := hA ▸ h1.alloc _
  have b2 : Boxed A (W.heap.size + 1) 98 .nilFunc := by
    have := Boxed.new (W.alloc (.cells #[.func (.yield l) #[] #[]] 98)) 98 .nilFunc
    rw [World.size_alloc, hA] at this
    exact this
  have hB : Below W.heap.size W A := by rw [← hA]; exact ((Below.refl _ W).alloc (Nat.le_refl _) _).alloc (by simp) _
  have hsz : A.heap.size = W.heap.size + 2 := by rw [← hA]; simp
  have c2 := b2.cell
  have f2 := b2.frozen
  have b3 := b2.set (downV W.heap.size (W.heap.size + 1))
  have b4 := b1.other (show W.heap.size ≠ W.heap.size + 1 by omega) (downV W.heap.size (W.heap.size + 1))
  have hB3 : Below W.heap.size W (A.setCell ⟨W.heap.size + 1, 0, none⟩ (downV W.heap.size (W.heap.size + 1))) := hB.setCell (p := ⟨W.heap.size + 1, 0, none⟩) (by simp) _
  have c3 := b3.cell
  have cp := (hB3.cell (p := ⟨Bp, 0, none⟩) hlt).trans hBp
  have hd := hdown _ b4 b3 hB3 (by rw [World.size_setCell]; exact hsz)
  clear hdown
  refine callsIn_of_wp Try.func62 rfl trivial ?_ rfl
  simp only [Try.ntmps62, List.size_toArray, List.length_cons, List.length_nil, Nat.reduceAdd, Nat.reduceSub, Array.replicate_succ, Array.replicate_zero, List.push_toArray, List.append_toArray, List.nil_append, List.cons_append]
  gi_wp2_with (refine ⟨trivial, hdd _, ?_⟩; gi_at_call 63; refine hd.mono ?_; rintro e W3 ⟨r, rfl, hr⟩)
  go_end0
  exact ⟨⟨_, rfl⟩, _, hr⟩
theorem Node.kept {T : Nat → Prop} {W W' : World} (h : Kp T W W') {b o : Nat} {x : X} (hb : T b) (hn : Node W b o x) : Node W' b o x :=
  ⟨h.cell (p := ⟨b, o, none⟩) hb hn.1, h.cell (p := ⟨b, o + 1, none⟩) hb hn.2.1, h.cell (p := ⟨b, o + 2, none⟩) hb hn.2.2.1, h.cell (p := ⟨b, o + 3, none⟩) hb hn.2.2.2.1, h.cell (p := ⟨b, o + 4, none⟩) hb hn.2.2.2.2.1, h.cell (p := ⟨b, o + 5, none⟩) hb hn.2.2.2.2.2.1, h.cell (p := ⟨b, o + 6, none⟩) hb hn.2.2.2.2.2.2⟩
theorem Node.ag {B : Nat} {W A : World} (h : Ag B W A) {b o : Nat} {x : X} (hn : Node W b o x) : Node A b o x := hn.of fun _ _ => h.cell _
end Go.Proofs.Ytjclelmbpmlioaa
namespace Go.Proofs.Ytjclelmbpmlioaa
open Go.RowKit Go.Shelf
attribute [local go_sem] Oper.semAt_some

/-- The seven cells of a condition as one value. -/
abbrev X.cells (x : X) : Array Value := #[.int .i64 x.k, .int .i64 x.v.k, .int .i64 x.v.n, .string x.v.s, .string x.s, .string x.f, .slice x.a x.n x.cap]
theorem node_box {w : World} {B : Nat} {t : TypeId} {x : X} (h : w.heap[B]? = some (.cells x.cells t (0, 0))) : Node w B 0 x := by
  refine ⟨?_, ?_, ?_, ?_, ?_, ?_, ?_⟩ <;> simp [World.cell?, h]
theorem node_new (w : World) (t : TypeId) (x : X) : Node (w.alloc (.cells x.cells t)) w.heap.size 0 x := node_box (World.alloc_heap_new w _)
end Go.Proofs.Ytjclelmbpmlioaa
namespace Go.Proofs.Ytjclelmbpmlioaa
open Go.RowKit Go.Shelf
attribute [local go_sem] Oper.semAt_some

set_option maxRecDepth 100000 in
set_option maxHeartbeats 1000000 in
theorem backward_in (n : Nat) (a : Option Addr) (m cap : Nat) (w : World) :
    CallsIn Fence.wide n Try.prog 23 #[.slice a m cap] w fun e w' => e = .returned (.func (.func 41) #[] #[.pointer (some ⟨w.heap.size, 0, none⟩)]) ∧ w' = w.alloc (.cells #[.slice a m cap] 25) := by
  refine callsIn_of_wp Try.func23 rfl trivial ?_ rfl
  simp only [Try.ntmps23, List.size_toArray, List.length_cons, List.length_nil, Nat.reduceAdd, Nat.reduceSub, Array.replicate_succ, Array.replicate_zero, List.push_toArray, List.append_toArray, List.nil_append, List.cons_append]
  gi_wp2
  go_ret
  exact ⟨rfl, rfl⟩
theorem Txs.kept {T : Nat → Prop} {W W' : World} (h : Kp T W W') {a : Option Addr} {n : Nat} {S : Nat → ByteArray} (hT : ∀ b o, a = some ⟨b, o, none⟩ → T b) (hx : Txs W a n S) : Txs W' a n S := fun h0 => by
  obtain ⟨b, o, e, hc⟩ := hx h0
  exact ⟨b, o, e, fun j hj => h.cell (p := ⟨b, o + j, none⟩) (hT b o e) (hc j hj)⟩
theorem Txs.ag {B : Nat} {W A : World} (h : Ag B W A) {a : Option Addr} {n : Nat} {S : Nat → ByteArray} (hx : Txs W a n S) : Txs A a n S := fun h0 => by
  obtain ⟨b, o, e, hc⟩ := hx h0
  exact ⟨b, o, e, fun j hj => (h.cell _).trans (hc j hj)⟩

set_option maxRecDepth 100000 in
set_option maxHeartbeats 4000000 in
/-- The function that slices.Backward hands back: from the last down to the first. -/
theorem back1_in (n l Bs : Nat) (av : Option Addr) (m cap : Nat) (S : Nat → ByteArray) (J : Nat → World → Prop) (W : World) (hm : m ≤ 9223372036854775807) (h0 : J m W)
    (hB : ∀ k W, J k W → W.cell? ⟨Bs, 0, none⟩ = some (.slice av m cap) ∧ Txs W av m S)
    (hY : ∀ (m' k : Nat) (W : World), k < m → J (k + 1) W → YieldAt Fence.wide m' Try.prog l #[.int .i64 (k : Nat), .string (S k)] W fun e W' => e = .returned (.bool true) ∧ J k W') :
    CallsIn Fence.wide n Try.prog 41 #[.func (.yield l) #[] #[], .pointer (some ⟨Bs, 0, none⟩)] W fun e W' => (∃ v, e = .returned v) ∧ J 0 W' := by
  have hdd : ∀ k : Nat, (Fence.wide.depth.isSome = true → 1 ≤ k) := fun k h => by cases h
  have c0 := (hB m W h0).1
  refine callsIn_of_wp Try.func41 rfl trivial ?_ rfl
  simp only [Try.ntmps41, List.size_toArray, List.length_cons, List.length_nil, Nat.reduceAdd, Nat.reduceSub, Array.replicate_succ, Array.replicate_zero, List.push_toArray, List.append_toArray, List.nil_append, List.cons_append]
  gi_wp2
  gi_loopw [3] (fun u wr => ∃ k : Nat, k ≤ m ∧ u = .int .i64 ((k : Int) - 1) ∧ J k wr) (fun u _ => (intOf u + 1).toNat)
  case atStart => exact ⟨m, Nat.le_refl _, by go_num, h0⟩
  case round =>
    obtain ⟨k, hk, rfl, hj⟩ := hrel
    match k, hk, hj with
    | 0, hk, hj =>
      gi_wp2
      go_end0
      exact ⟨⟨_, rfl⟩, hj⟩
    | k + 1, hk, hj =>
      obtain ⟨c1, hx⟩ := hB _ _ hj
      obtain ⟨b, o, rfl, hc⟩ := hx (by omega)
      have c2 := hc k (by omega)
      have e1 : (((k + 1 : Nat) : Int) - 1) = (k : Int) := by omega
      obtain ⟨fn, tmps, assign, body, hy, hR⟩ := hY (n - 1) k wr (by omega) hj
      clear hc hx hY
      rw [e1]
      gi_wp2_with (first
        | ((try refine ⟨hdd _, ?_⟩); refine hR.mono ?_; clear hR; rintro e W1 ⟨rfl, hj1⟩))
      exact ⟨⟨k, by omega, by go_num, hj1⟩, by simp [intOf]⟩
/-- How a body that writes into no older cell may be left. -/
def lowPost (B : Nat) (J : World → Prop) (W : World) : Exit → Act → World → Prop
  | .normal, _, W' => KeepsFrom B W W' ∧ Kp (fun k => k < B) W W' ∧ J W'
  | _, _, _ => False
/-- A range over texts from the last to the first. -/
theorem back_fold {n : Nat} {g : Operand} {ps : Array Tmp} {assign body : Code} {Q : Exit → Act → World → Prop} {a : Act} {w : World} (Bs : Nat) (av : Option Addr) (m cap : Nat) (S : Nat → ByteArray) (J : Nat → World → Prop)
    (hg : a.eval g = .func (.func 41) #[] #[.pointer (some ⟨Bs, 0, none⟩)]) (hps : ps.size = 2) (hBs : Boxed w Bs 25 (.slice av m cap)) (hx : Txs w av m S) (hm : m ≤ 9223372036854775807)
    (hJ : ∀ k W A, Ag w.heap.size W A → J k W → J k A) (h0 : ∀ W, Below w.heap.size w W → J m W)
    (a₁ : Nat → Act)
    (hassign : ∀ (l k : Nat) (W : World) (K : Act → World → Prop), K (a₁ k) W →
      assign.wpIn (Fence.wide.inRound l) (n - 1 - 1) Try.prog (Exit.then K (fun _ _ _ => False)) { tmps := (ps.zip #[.int .i64 k, .string (S k)]).foldl (fun t (p, v) => t.setIfInBounds p v) a.tmps, defers := [] } W)
    (hbody : ∀ (l k : Nat) (W : World), k < m → J (k + 1) W → w.heap.size + 2 ≤ W.heap.size →
      body.wpIn (Fence.wide.inRound l) (n - 1 - 1) Try.prog (lowPost w.heap.size (J k) W) (a₁ k) W)
    (hdone : ∀ (D : Nat) (W : World), w.heap.size ≤ D → J 0 W → W.heap[D]? = some (.deferred (some [])) → Q .normal { a with defers := { target := .collected D, args := #[] } :: a.defers } W) :
    (Code.rangeFunc g ps assign body).wpIn Fence.wide n Try.prog Q a w := by
  have hlt : Bs < w.heap.size := hBs.lt
  refine wpIn_range (α := Nat) hg (enters_of Try.func41 (by kernel_rfl) rfl) (encs := fun k => #[.int .i64 k, .string (S k)]) (fun _ => hps.symm)
    (fun k W => k < m ∧ J (k + 1) W ∧ w.heap.size + 2 ≤ W.heap.size)
    (fun k W W' => Kp (fun k => k < w.heap.size) W W' ∧ J k W' ∧ w.heap.size + 2 ≤ W'.heap.size)
    (fun _ _ _ _ => False) (J 0) (fun _ _ => False) ?_ ?_ (fun _ _ _ _ _ _ _ _ h => h) (fun W A h => hJ _ W A h) (fun _ _ _ _ h => h) a₁ hassign ?_ ?_ hdone (fun _ _ _ _ h _ => h.elim)
  · rintro k W A hag ⟨h1, h2, h3⟩
    exact ⟨h1, hJ _ _ _ hag h2, by rw [hag.size]; exact h3⟩
  · rintro k W A A' W' hag hag' ⟨h1, h2, h3⟩
    exact ⟨Kp.ag hag hag' h1, hJ _ _ _ hag' h2, by rw [hag'.size]; exact h3⟩
  · rintro l k W ⟨h1, h2, h3⟩ _
    refine wpIn_mono (hbody l k W h1 h2 h3) ?_
    rintro e a3 W3 hp
    cases e with
    | normal => exact ⟨hp.1, hp.2.1, hp.2.2, Nat.le_trans h3 hp.1.size⟩
    | ret => exact hp.elim
    | exit id => exact hp.elim
    | goto t => exact hp.elim
    | panic ch => exact hp.elim
    | outgrown => exact hp.elim
  · intro l Rec RecX W1 hB1 hs1 hrec1 hrec hrecx hY
    refine (back1_in (n - 1) l Bs av m cap S (fun k W => J k W ∧ Rec W ∧ Kp (fun k => k < w.heap.size) w W ∧ w.heap.size + 2 ≤ W.heap.size) W1 hm ⟨h0 W1 hB1, hrec1, Kp.of_below hB1 fun _ h => h, by omega⟩ ?_ ?_).mono ?_
    · rintro k W ⟨h1, h2, h3, h4⟩
      refine ⟨(h3.boxed hlt hBs).cell, fun hm0 => (Txs.kept h3 (fun b o e => Txs.lt hx hm0 e) hx) hm0⟩
    · rintro m' k W hk ⟨h1, h2, h3, h4⟩
      refine YieldAt.mono (hY m' k W ⟨hk, h1, h4⟩ h2) ?_
      rintro e W' (⟨rfl, ⟨k1, k2, k3⟩, k4, -⟩ | ⟨rfl, c, k1, k2⟩)
      · exact ⟨rfl, k2, k4, h3.trans k1, k3⟩
      · exact k1.elim
    · rintro e W' ⟨hv, h1, h2, h3, h4⟩
      exact ⟨hv, .inl ⟨h1, h2⟩⟩
end Go.Proofs.Ytjclelmbpmlioaa
namespace Go.Proofs.Ytjclelmbpmlioaa
open Go.RowKit Go.Shelf
attribute [local go_sem] Oper.semAt_some

theorem nodes_walk {ι : Type} {n : Nat} {g : Operand} {ps : Array Tmp} {assign body : Code} {Q : Exit → Act → World → Prop} {a : Act} {w : World} (Bp b0 o0 : Nat) (v0 : ι) (kids : ι → Nat) (kid : ι → Nat → ι) (rank : ι → Nat)
    (Pre : ι → Nat → Nat → World → Prop) (Go : ι → Nat → Nat → World → World → Prop) (Mid : ι → Nat → Nat → World → Option Addr → Nat → Nat → World → Prop) (Post : ι → Nat → Nat → World → World → Prop)
    (hg : a.eval g = .func (.func 62) #[] #[.pointer (some ⟨Bp, 0, none⟩)]) (hps : ps.size = 2) (hBp : w.cell? ⟨Bp, 0, none⟩ = some (.pointer (some ⟨b0, o0, none⟩)))
    (hrank : ∀ v i, i < kids v → rank (kid v i) < rank v)
    (hPre : ∀ v b o W A, Ag w.heap.size W A → Pre v b o W → Pre v b o A)
    (hGo : ∀ v b o W A A' W', Ag w.heap.size W A → Ag w.heap.size A' W' → Go v b o A A' → Go v b o W W')
    (hPost : ∀ v b o W W' A, Ag w.heap.size W' A → Post v b o W W' → Post v b o W A)
    (h0 : ∀ W, Below w.heap.size w W → W.heap.size = w.heap.size + 4 → Pre v0 b0 o0 W)
    (a₁ : Int → Nat → Nat → Act)
    (hassign : ∀ (l : Nat) (d : Int) (b o : Nat) (W : World) (K : Act → World → Prop), K (a₁ d b o) W →
      assign.wpIn (Fence.wide.inRound l) (n - 1 - 1) Try.prog (Exit.then K (fun _ _ _ => False)) { tmps := (ps.zip #[.int .i64 d, .pointer (some ⟨b, o, none⟩)]).foldl (fun t (p, v) => t.setIfInBounds p v) a.tmps, defers := [] } W)
    (hbody : ∀ (l : Nat) (d : Int) (b o : Nat) (v : ι) (W : World), Pre v b o W → w.heap.size + 4 ≤ W.heap.size → (∃ u, Boxed W (w.heap.size + 2) 98 u) → (∃ u, Boxed W (w.heap.size + 3) 98 u) →
      body.wpIn (Fence.wide.inRound l) (n - 1 - 1) Try.prog (walkPost w.heap.size (Go v b o W) W) (a₁ d b o) W)
    (hM : ∀ v b o W W', Pre v b o W → Go v b o W W' → ∃ a cap, Mid v b o W a cap 0 W')
    (hL : ∀ v b o W a cap i Wi, Mid v b o W a cap i Wi → kids v ≤ 9223372036854775807 ∧ Wi.cell? ⟨b, o + 6, none⟩ = some (.slice a (kids v) cap))
    (hC : ∀ v b o W a cap i Wi, Mid v b o W a cap i Wi → i < kids v → ∃ b' o', a = some ⟨b', o', none⟩ ∧ Pre (kid v i) b' (o' + i * 7) Wi.drew ∧
      (∀ W', Post (kid v i) b' (o' + i * 7) Wi.drew W' → Mid v b o W a cap (i + 1) W'))
    (hE : ∀ v b o W a cap Wi, Mid v b o W a cap (kids v) Wi → Post v b o W Wi)
    (hdone : ∀ (D : Nat) (W2 W : World), w.heap.size ≤ D → Below w.heap.size w W2 → W2.heap.size = w.heap.size + 4 → Post v0 b0 o0 W2 W → W.heap[D]? = some (.deferred (some [])) → Q .normal { a with defers := { target := .collected D, args := #[] } :: a.defers } W) :
    (Code.rangeFunc g ps assign body).wpIn Fence.wide n Try.prog Q a w := by
  obtain ⟨T, hT⟩ : ∃ T : Nat → Prop, T = fun k => k = w.heap.size + 2 ∨ k = w.heap.size + 3 := ⟨_, rfl⟩
  refine wpIn_range (α := Got ι) hg (enters_of Try.func62 (by kernel_rfl) rfl) (encs := fun v => #[.int .i64 v.d, .pointer (some ⟨v.b, v.o, none⟩)]) (fun _ => hps.symm)
    (fun v W => Pre v.v v.b v.o W ∧ w.heap.size + 4 ≤ W.heap.size ∧ (∃ u, Boxed W (w.heap.size + 2) 98 u) ∧ ∃ u, Boxed W (w.heap.size + 3) 98 u)
    (fun v W W' => Kp T W W' ∧ Go v.v v.b v.o W W' ∧ w.heap.size + 4 ≤ W'.heap.size)
    (fun _ _ _ _ => False) (fun W => ∃ W2, Below w.heap.size w W2 ∧ W2.heap.size = w.heap.size + 4 ∧ Post v0 b0 o0 W2 W) (fun _ _ => False) ?_ ?_ (fun _ _ _ _ _ _ _ _ h => h) ?_ (fun _ _ _ _ h => h) (fun v => a₁ v.d v.b v.o) (fun l v W K hK => hassign l v.d v.b v.o W K hK) ?_ ?_
    (fun D W hD h hK => by obtain ⟨W2, h1, h2, h3⟩ := h; exact hdone D W2 W hD h1 h2 h3 hK) (fun _ _ _ _ h _ => h.elim)
  · rintro v W A hag ⟨h1, h2, ⟨u, h3⟩, u', h4⟩
    exact ⟨hPre _ _ _ _ _ hag h1, by rw [hag.size]; exact h2, ⟨u, hag.boxed h3⟩, u', hag.boxed h4⟩
  · rintro v W A A' W' hag hag' ⟨h1, h2, h3⟩
    exact ⟨Kp.ag hag hag' h1, hGo _ _ _ _ _ _ _ hag hag' h2, by rw [hag'.size]; exact h3⟩
  · rintro W A hag ⟨W2, h1, h2, h3⟩
    exact ⟨W2, h1, h2, hPost _ _ _ _ _ _ hag h3⟩
  · rintro l v W ⟨h1, h2, h3, h4⟩ _
    refine wpIn_mono (hbody l v.d v.b v.o v.v W h1 h2 h3 h4) ?_
    rintro e a3 W3 hp
    cases e with
    | normal => exact ⟨hp.1, by rw [hT]; exact hp.2.1, hp.2.2, Nat.le_trans h2 hp.1.size⟩
    | ret => exact hp.elim
    | exit id => exact hp.elim
    | goto t => exact hp.elim
    | panic ch => exact hp.elim
    | outgrown => exact hp.elim
  · intro l Rec RecX W1 hB1 hs1 hrec1 hrec hrecx hY
    have hlt : Bp < w.heap.size := by
      obtain ⟨ob, ho, -⟩ := cells_of_cell hBp
      exact (Array.getElem?_eq_some_iff.1 ho).1
    refine (nodes1_in (n - 1) l Bp b0 o0 W1 (fun e W' => e = .returned (.bool true) ∧ (∃ W2, Below w.heap.size w W2 ∧ W2.heap.size = w.heap.size + 4 ∧ Post v0 b0 o0 W2 W') ∧ Rec W') ((hB1.cell (p := ⟨Bp, 0, none⟩) hlt).trans hBp) ?_).mono ?_
    · intro W2 by2 bd2 hB2 hs2
      have hBW : Below w.heap.size w W2 := hB1.trans (hB2.mono (by omega))
      have key := down_any (ι := ι) l W1.heap.size (W1.heap.size + 1) kids kid rank
        (fun v b o _ W => Pre v b o W ∧ Rec W ∧ Boxed W W1.heap.size 98 (.func (.yield l) #[] #[]) ∧ Boxed W (W1.heap.size + 1) 98 (downV W1.heap.size (W1.heap.size + 1)) ∧ w.heap.size + 4 ≤ W.heap.size)
        (fun v b o _ W a cap i Wi => Mid v b o W a cap i Wi ∧ Rec Wi ∧ Boxed Wi W1.heap.size 98 (.func (.yield l) #[] #[]) ∧ Boxed Wi (W1.heap.size + 1) 98 (downV W1.heap.size (W1.heap.size + 1)) ∧ w.heap.size + 4 ≤ Wi.heap.size ∧ Kp T W Wi)
        (fun v b o _ W W' => Post v b o W W' ∧ Rec W' ∧ Kp T W W' ∧ w.heap.size + 4 ≤ W'.heap.size)
        (fun _ _ _ _ _ _ => False)
        hrank (fun v b o d W h => h.2.2.1.cell) ?_ ?_ ?_ ?_ (rank v0 + 1) v0 (by omega) (n - 1 - 1) b0 o0 1 W2 ?_
      · refine key.mono ?_
        rintro e W' (⟨rfl, h1, h2, -⟩ | ⟨rfl, h⟩)
        · exact ⟨true, rfl, rfl, ⟨W2, hBW, by omega, h1⟩, h2⟩
        · exact h.elim
      · rintro v b o d W ⟨h1, h5, h6, h7, h8⟩
        refine YieldAt.mono (hY 0 ⟨d, b, o, v⟩ W ⟨h1, h8, ⟨_, by rw [show w.heap.size + 2 = W1.heap.size by omega]; exact h6⟩, _, by rw [show w.heap.size + 3 = W1.heap.size + 1 by omega]; exact h7⟩ h5) ?_
        rintro e W' (⟨rfl, ⟨k1, k2, k3⟩, k4, -⟩ | ⟨rfl, c, k1, k2⟩)
        · obtain ⟨a', cap', hm⟩ := hM _ _ _ _ _ h1 k2
          exact .inl ⟨rfl, a', cap', hm, k4, k1.boxed (by rw [hT]; exact .inl (by omega)) h6, k1.boxed (by rw [hT]; exact .inr (by omega)) h7, k3, k1⟩
        · exact k1.elim
      · rintro v b o d W a' cap' i Wi ⟨h1, h5, h6, h7, h8, h9⟩
        obtain ⟨q1, q2⟩ := hL _ _ _ _ _ _ _ _ h1
        exact ⟨q1, q2, h7.cell⟩
      · rintro v b o d W a' cap' i Wi ⟨h1, h5, h6, h7, h8, h9⟩ hi
        obtain ⟨b', o', ea, hp, hq⟩ := hC _ _ _ _ _ _ _ _ h1 hi
        refine ⟨b', o', ea, ⟨hp, hrec Wi Wi.drew ⟨Nat.le_refl _, fun _ _ _ h _ => h⟩ h5, h6, h7, h8⟩, ?_, fun W' h => h⟩
        rintro W' ⟨k1, k2, k3, k4⟩
        have kk : Kp T Wi W' := k3
        exact ⟨hq W' k1, k2, kk.boxed (by rw [hT]; exact .inl (by omega)) h6, kk.boxed (by rw [hT]; exact .inr (by omega)) h7, k4, h9.trans kk⟩
      · rintro v b o d W a' cap' Wi ⟨h1, h5, h6, h7, h8, h9⟩
        exact ⟨hE _ _ _ _ _ _ _ h1, h5, h9, h8⟩
      · refine ⟨h0 W2 hBW (by omega), hrec W1 W2 ⟨by omega, fun k o hk ho _ => ?_⟩ hrec1, by2, bd2, by omega⟩
        exact (hB2.block k (Array.getElem?_eq_some_iff.1 ho).1).trans ho
    · rintro e W' ⟨hv, r, -, h1, h2⟩
      exact ⟨hv, .inl ⟨h1, h2⟩⟩
end Go.Proofs.Ytjclelmbpmlioaa
namespace Go.Proofs.Ytjclelmbpmlioaa
open Go.RowKit

/-- The cells of some nodes, one behind the other. -/
def rowX (c : Nat → X) : Nat → List Value
  | 0 => []
  | n + 1 => rowX c n ++ (c n).cells.toList
theorem rowX_len (c : Nat → X) : ∀ n, (rowX c n).length = n * 7
  | 0 => rfl
  | n + 1 => by rw [rowX, List.length_append, rowX_len c n]; simp; omega
theorem rowX_get (c : Nat → X) : ∀ n i j, i < n → j < 7 → (rowX c n)[i * 7 + j]? = (c i).cells[j]?
  | 0, _, _, h, _ => by omega
  | n + 1, i, j, h, hj => by
    rw [rowX]
    by_cases e : i = n
    · subst e
      rw [List.getElem?_append_right (by rw [rowX_len]; omega), rowX_len, show i * 7 + j - i * 7 = j by omega]
      simp
    · rw [List.getElem?_append_left (by rw [rowX_len]; omega)]
      exact rowX_get c n i j (by omega) hj
theorem rowX_one (c : Nat → X) : ∀ n, ∀ u ∈ rowX c n, u.oneCell' = true
  | 0, u, h => by simp [rowX] at h
  | n + 1, u, h => by
    rw [rowX, List.mem_append] at h
    rcases h with h | h
    · exact rowX_one c n u h
    · simp at h
      rcases h with rfl | rfl | rfl | rfl | rfl | rfl | rfl <;> rfl
theorem rowX_congr {c d : Nat → X} : ∀ {n : Nat}, (∀ i, i < n → c i = d i) → rowX c n = rowX d n
  | 0, _ => rfl
  | n + 1, h => by rw [rowX, rowX, rowX_congr fun i hi => h i (by omega), h n (by omega)]
theorem add_at (b o j : Nat) : (Addr.mk b o none).add j = ⟨b, o + j, none⟩ := by
  unfold Addr.add
  split
  · simp
  · rfl
/-- Nodes, one behind the other, as cells. -/
theorem nodes_cells {w : World} {b o n : Nat} {c : Nat → X} (h : ∀ i, i < n → Node w b (o + i * 7) (c i)) : ∀ j u, (rowX c n)[j]? = some u → w.cell? ((Addr.mk b o none).add j) = some u := by
  intro j u hu
  have hj : j < n * 7 := by have := (List.getElem?_eq_some_iff.1 hu).1; rwa [rowX_len] at this
  have hi : j / 7 < n := by omega
  have hm : j % 7 < 7 := Nat.mod_lt _ (by omega)
  have he : j / 7 * 7 + j % 7 = j := by omega
  have := rowX_get c n (j / 7) (j % 7) hi hm
  rw [he, hu] at this
  rw [add_at]
  obtain ⟨d0, d1, d2, d3, d4, d5, d6⟩ := h (j / 7) hi
  obtain ⟨m, hm'⟩ : ∃ m, m = j % 7 := ⟨_, rfl⟩
  rw [← hm'] at this hm he
  rw [show o + j = o + j / 7 * 7 + m by omega]
  match m, hm with
  | 0, _ => simp at this; rw [this]; exact d0
  | 1, _ => simp at this; rw [this]; exact d1
  | 2, _ => simp at this; rw [this]; exact d2
  | 3, _ => simp at this; rw [this]; exact d3
  | 4, _ => simp at this; rw [this]; exact d4
  | 5, _ => simp at this; rw [this]; exact d5
  | 6, _ => simp at this; rw [this]; exact d6
/-- A block of cells that may be written. -/
def Free (w : World) (b : Nat) : Prop := ∃ cur, w.heap[b]? = some (.cells cur 68 (0, 0))
theorem Free.frozen {w : World} {b : Nat} (h : Free w b) (o : Nat) : w.frozen? ⟨b, o, none⟩ = false := by
  obtain ⟨cur, h⟩ := h
  simp [World.frozen?, h]
/-- A row that a call owns, node by node. -/
theorem own_nodes {w : World} {base n : Nat} {v : Value} {c : Nat → X} (h : w.ownsRow base 68 7 v n (rowX c n)) :
    ∃ a cap, v = .slice a n cap ∧ n ≤ cap ∧ cap ≤ maxLen ∧ (0 < n → ∃ g, a = some ⟨g, 0, none⟩ ∧ base ≤ g ∧ g < w.heap.size ∧ Free w g ∧ ∀ i, i < n → Node w g (i * 7) (c i)) := by
  rcases h.2 with ⟨rfl, rfl⟩ | ⟨g, cap, cur, rfl, hg, hc, hnc, hcm, hs, ht⟩
  · exact ⟨none, 0, rfl, Nat.le_refl _, Nat.zero_le _, fun h => by omega⟩
  · refine ⟨_, cap, rfl, hnc, hcm, fun h0 => ⟨g, rfl, hg, (Array.getElem?_eq_some_iff.1 hc).1, ⟨cur, hc⟩, fun i hi => ?_⟩⟩
    have key : ∀ j, j < 7 → w.cell? ⟨g, i * 7 + j, none⟩ = (c i).cells[j]? := by
      intro j hj
      rw [← rowX_get c n i j hi hj, ← ht, List.getElem?_take_of_lt (by omega)]
      simp only [World.cell?, hc]
      rw [Array.getElem?_toList]
      rfl
    exact ⟨key 0 (by omega), key 1 (by omega), key 2 (by omega), key 3 (by omega), key 4 (by omega), key 5 (by omega), key 6 (by omega)⟩
theorem infoX : (Try.prog.info? 68).map (fun i => (i.zero, i.size, i.bytes)) = some (some (.agg #[.int .i64 0, .int .i64 0, .int .i64 0, .string ⟨#[]⟩, .string ⟨#[]⟩, .string ⟨#[]⟩, .slice none 0 0]), 7, 96) := by kernel_rfl
/-- Some nodes more behind a row that the call owns. -/
theorem push_x {w : World} {base n : Nat} {v : Value} {xs : List Value} (h : w.ownsRow base 68 7 v n xs) (hb : base ≤ w.heap.size) (p : Addr) (m k : Nat) (c : Nat → X) (hm : ∀ i, i < m → ∃ b o, p = ⟨b, o, none⟩ ∧ Node w b (o + i * 7) (c i)) (hn : n + m ≤ 1466015503658) :
    ∃ v' w', (Builtin.append_ #[38, 38] 38 #[v, .slice (some p) m k]).run Try.prog w = .ok v' w' ∧ w'.ownsRow base 68 7 v' (n + m) (xs ++ rowX c m) ∧ w.grownBy w' v.ownBlock := by
  obtain ⟨i0, hi, hz0, hz1, hz2⟩ := info_parts infoX
  obtain ⟨v', w', hrun, hown', hgrow, _⟩ := run_append_own (P := Try.prog) (w := w) base 38 38 68 i0 _ 7 96 Try.underlying38 hi hz0 hz1 hz2 rfl (by decide) v n xs h p m k (rowX c m) (rowX_len c m)
    (fun j u hu => by
      have h0 : 0 < m := by
        have := (List.getElem?_eq_some_iff.1 hu).1
        rw [rowX_len] at this
        omega
      obtain ⟨b, o, rfl, _⟩ := hm 0 h0
      refine nodes_cells (fun i hi => ?_) j u hu
      obtain ⟨b', o', e, hn'⟩ := hm i hi
      cases e
      exact hn') (rowX_one c m) (by unfold maxLen; omega) (by omega) hb
  exact ⟨v', w', hrun, hown', hgrow⟩
set_option maxRecDepth 100000 in
set_option maxHeartbeats 2000000 in
theorem clone_wide (a : Option Addr) (n cap : Nat) (c : Nat → X) (w : World) (h : ∀ i, i < n → ∃ b o, a = some ⟨b, o, none⟩ ∧ Node w b (o + i * 7) (c i)) (hn : n ≤ 1466015503658) :
    Calls Try.prog 61 #[.slice a n cap] w fun e w' => ∃ v, e = .returned v ∧ w'.ownsRow w.heap.size 68 7 v n (rowX c n) ∧ Below w.heap.size w w' := by
  cases a with
  | none =>
    obtain rfl : n = 0 := by
      by_cases h0 : 0 < n
      · obtain ⟨_, _, e, _⟩ := h 0 h0
        cases e
      · omega
    clear h
    have he : ∀ w : World, (binOp .eql 38 (.slice none 0 cap) (.slice none 0 0)).run Try.prog w = .ok (.bool true) w := fun _ => rfl
    go_enter Try.func61, Try.ntmps61
    go_wp2
    go_ret
    exact ⟨_, rfl, World.ownsRow_nil _ _ _ _, Below.refl _ _⟩
  | some x =>
    have hB0 : Below w.heap.size w (w.alloc (.cells #[] 68)) := (Below.refl _ _).alloc (Nat.le_refl _) _
    have hown0 : (w.alloc (.cells #[] 68)).ownsRow w.heap.size 68 7 (.slice (some ⟨w.heap.size, 0, none⟩) 0 0) 0 [] :=
      ⟨rfl, .inr ⟨w.heap.size, 0, #[], rfl, Nat.le_refl _, alloc_new w _, Nat.le_refl _, Nat.zero_le _, rfl, rfl⟩⟩
    obtain ⟨v1, w1, hrun1, hown1, hg1⟩ := push_x hown0 (by simp) x n cap c (fun i hi => by
      obtain ⟨b', o', e, hn'⟩ := h i hi
      cases e
      exact ⟨b', o', rfl, hn'.later hB0⟩) (by omega)
    simp only [Nat.zero_add, List.nil_append] at hown1
    have hB1 : Below w.heap.size w w1 := hB0.grown hg1 (by simp) (by intro k hk; simp [Value.ownBlock] at hk; omega)
    have HR1 : Hid (_ = _) := hrun1
    clear h hown0 hB0 hg1 hrun1
    have he : ∀ w : World, (binOp .eql 38 (.slice (some x) n cap) (.slice none 0 0)).run Try.prog w = .ok (.bool false) w := fun _ => rfl
    go_enter Try.func61, Try.ntmps61
    go_wp2_with (first | (at_builtin; refine wpList_append_run rfl (.tmp 5) (.tmp 6) 38 rfl _ _ _ rfl rfl HR1.out ?_))
    go_ret
    exact ⟨_, rfl, hown1, hB1⟩
end Go.Proofs.Ytjclelmbpmlioaa
namespace Go.Proofs.Ytjclelmbpmlioaa
open Go.RowKit

/-- The blocks in which a condition's parts lie. -/
def inX (k : Nat) : X → Prop
  | .nil => False
  | .mk _ _ _ _ a n _ c => (0 < n ∧ ∃ o, a = some ⟨k, o, none⟩) ∨ ∃ i, i < n ∧ inX k (c i)
theorem inX_eq (k : Nat) (x : X) : inX k x ↔ (0 < x.n ∧ ∃ o, x.a = some ⟨k, o, none⟩) ∨ ∃ i, i < x.n ∧ inX k (x.c i) := by
  cases x with
  | nil => simp [inX, X.n]
  | mk => rfl
/-- It lies apart. -/
def XA (w : World) : X → Prop
  | .nil => True
  | .mk _ _ _ _ a n cap c => n ≤ cap ∧ cap ≤ 9223372036854775807 ∧ ∀ i, i < n → ∃ b, a = some ⟨b, 0, none⟩ ∧ Free w b ∧ Node w b (i * 7) (c i) ∧ XA w (c i) ∧ ¬ inX b (c i) ∧ ∀ j, j < n → j ≠ i → ∀ k, inX k (c i) → ¬ inX k (c j)
theorem xA_eq (w : World) (x : X) : XA w x ↔ x.n ≤ x.cap ∧ x.cap ≤ 9223372036854775807 ∧ ∀ i, i < x.n → ∃ b, x.a = some ⟨b, 0, none⟩ ∧ Free w b ∧ Node w b (i * 7) (x.c i) ∧ XA w (x.c i) ∧ ¬ inX b (x.c i) ∧ ∀ j, j < x.n → j ≠ i → ∀ k, inX k (x.c i) → ¬ inX k (x.c j) := by
  cases x with
  | nil => simp [XA, X.n, X.cap]
  | mk => rfl
theorem XA.is {w : World} : ∀ {x : X}, XA w x → IsX w x := by
  refine @(X.ind fun x ih hx => ?_)
  rw [xA_eq] at hx
  rw [isX_eq]
  refine ⟨hx.1, hx.2.1, fun i hi => ?_⟩
  obtain ⟨b, e, _, hn, hc, _⟩ := hx.2.2 i hi
  exact ⟨b, 0, e, by simpa using hn, ih i hi hc⟩
theorem Free.kept {T : Nat → Prop} {W W' : World} (h : Kp T W W') {b : Nat} (hb : T b) (hf : Free W b) : Free W' b := by
  obtain ⟨cur, hc⟩ := hf
  exact ⟨cur, h b _ hb rfl hc⟩
theorem Free.lt {w : World} {b : Nat} (h : Free w b) : b < w.heap.size := by
  obtain ⟨cur, hc⟩ := h
  exact (Array.getElem?_eq_some_iff.1 hc).1
theorem Free.ne {w : World} {b k : Nat} {t : TypeId} {u : Value} (h : Free w b) (hb : Boxed w k t u) (ht : t ≠ 68) : b ≠ k := by
  rintro rfl
  obtain ⟨cur, hc⟩ := h
  have hb' : w.heap[b]? = some (.cells #[u] t (0, 0)) := hb
  rw [hc] at hb'
  injection hb' with e
  injection e with _ e2
  exact ht e2.symm
theorem XA.kept {T : Nat → Prop} {W W' : World} (h : Kp T W W') : ∀ {x : X}, (∀ k, inX k x → T k) → XA W x → XA W' x := by
  refine @(X.ind fun x ih hT hx => ?_)
  rw [xA_eq] at hx ⊢
  refine ⟨hx.1, hx.2.1, fun i hi => ?_⟩
  obtain ⟨b, e, hf, hn, hc, hr⟩ := hx.2.2 i hi
  have hb : T b := hT b ((inX_eq _ _).2 (.inl ⟨by omega, 0, e⟩))
  exact ⟨b, e, hf.kept h hb, hn.kept h hb, ih i hi (fun k hk => hT k ((inX_eq _ _).2 (.inr ⟨i, hi, hk⟩))) hc, hr⟩
theorem inX_lt {w : World} {k : Nat} : ∀ {x : X}, XA w x → inX k x → k < w.heap.size := by
  refine @(X.ind fun x ih hx hk => ?_)
  rw [xA_eq] at hx
  rcases (inX_eq _ _).1 hk with ⟨h0, o, e⟩ | ⟨i, hi, hk⟩
  · obtain ⟨b, e', hf, _⟩ := hx.2.2 0 h0
    rw [e] at e'
    cases e'
    exact hf.lt
  · obtain ⟨b, e', _, _, hc, _⟩ := hx.2.2 i hi
    exact ih i hi hc hk
theorem XA.later {w w' : World} {x : X} (hB : Below w.heap.size w w') (h : XA w x) : XA w' x :=
  h.kept (T := fun k => k < w.heap.size) (Kp.of_below hB fun _ hk => hk) fun _ hk => inX_lt h hk
theorem XA.ag {B : Nat} {W A : World} (h : Ag B W A) {x : X} (hx : XA W x) : XA A x := hx.kept (T := fun _ => True) (fun k o _ ho e => (h.cells k o ho).2 e) fun _ _ => trivial
theorem Free.ag {B : Nat} {W A : World} (h : Ag B W A) {b : Nat} (hf : Free W b) : Free A b := by
  obtain ⟨cur, hc⟩ := hf
  exact ⟨cur, (h.cells _ _ rfl).2 hc⟩
theorem Free.set {W : World} {k b o : Nat} {v : Value} (hf : Free W k) : Free (W.setCell ⟨b, o, none⟩ v) k := by
  obtain ⟨cur, hc⟩ := hf
  by_cases e : k = b
  · subst e
    refine ⟨cur.setIfInBounds o v, ?_⟩
    simp only [World.setCell, Array.getElem?_modify, if_pos, hc]
    rfl
  · exact ⟨cur, (Below.heap_setCell W ⟨b, o, none⟩ v k e).trans hc⟩
/-- What stays: all blocks but b and those in S; in b all cells but one; what may be written. -/
structure Kb (b j0 : Nat) (S : Nat → Prop) (W W' : World) : Prop where
  oth : Kp (fun k => k ≠ b ∧ ¬ S k) W W'
  own : ∀ j u, j ≠ j0 → W.cell? ⟨b, j, none⟩ = some u → W'.cell? ⟨b, j, none⟩ = some u
  free : ∀ k, Free W k → Free W' k
  size : W.heap.size ≤ W'.heap.size
theorem Kb.node {b j0 : Nat} {S : Nat → Prop} {W W' : World} (h : Kb b j0 S W W') {k o : Nat} {x : X} (hk : k ≠ b) (hS : ¬ S k) (hn : Node W k o x) : Node W' k o x := hn.kept h.oth ⟨hk, hS⟩
theorem Kb.near {b j0 : Nat} {S : Nat → Prop} {W W' : World} (h : Kb b j0 S W W') {o : Nat} {x : X} (ho : ∀ t, t < 7 → o + t ≠ j0) (hn : Node W b o x) : Node W' b o x :=
  ⟨h.own _ _ (ho 0 (by omega)) hn.1, h.own _ _ (ho 1 (by omega)) hn.2.1, h.own _ _ (ho 2 (by omega)) hn.2.2.1, h.own _ _ (ho 3 (by omega)) hn.2.2.2.1, h.own _ _ (ho 4 (by omega)) hn.2.2.2.2.1, h.own _ _ (ho 5 (by omega)) hn.2.2.2.2.2.1, h.own _ _ (ho 6 (by omega)) hn.2.2.2.2.2.2⟩
theorem Kb.set (b j0 : Nat) (S : Nat → Prop) (W : World) (v : Value) : Kb b j0 S W (W.setCell ⟨b, j0, none⟩ v) :=
  ⟨fun k _ hk _ e => (Below.heap_setCell W ⟨b, j0, none⟩ v k hk.1).trans e, fun j u hj hc => (World.cell?_setCell_other _ _ _ _ (by intro e; cases e; exact hj rfl)).trans hc, fun _ hf => hf.set, Nat.le_of_eq (World.size_setCell ..).symm⟩
theorem Kb.of_below (b j0 : Nat) (S : Nat → Prop) {W W' : World} (h : Below W.heap.size W W') : Kb b j0 S W W' :=
  ⟨fun k o _ _ e => (h.block k (Array.getElem?_eq_some_iff.1 e).1).trans e,
   fun j u _ hc => by
    obtain ⟨o, ho, _⟩ := cells_of_cell hc
    exact (h.cell (p := ⟨b, j, none⟩) (Array.getElem?_eq_some_iff.1 ho).1).trans hc,
   fun k hf => by
    have hl := hf.lt
    obtain ⟨cur, hc⟩ := hf
    exact ⟨cur, (h.block k hl).trans hc⟩, h.size⟩
theorem Kb.refl (b j0 : Nat) (S : Nat → Prop) (W : World) : Kb b j0 S W W := .of_below b j0 S (Below.refl _ _)
theorem Kb.trans {b j0 : Nat} {S : Nat → Prop} {A B C : World} (h : Kb b j0 S A B) (g : Kb b j0 S B C) : Kb b j0 S A C :=
  ⟨h.oth.trans g.oth, fun j u hj hc => g.own j u hj (h.own j u hj hc), fun k hf => g.free k (h.free k hf), Nat.le_trans h.size g.size⟩
theorem Kb.mono {b j0 : Nat} {S S' : Nat → Prop} {W W' : World} (h : Kb b j0 S W W') (hS : ∀ k, S k → S' k) : Kb b j0 S' W W' := ⟨h.oth.mono fun k hk => ⟨hk.1, fun hs => hk.2 (hS k hs)⟩, h.own, h.free, h.size⟩
theorem Kb.ag {B b j0 : Nat} {S : Nat → Prop} {W A A' W' : World} (h : Ag B W A) (h' : Ag B A' W') (g : Kb b j0 S A A') : Kb b j0 S W W' :=
  ⟨Kp.ag h h' g.oth, fun j u hj hc => (h'.cell _).trans (g.own j u hj ((h.cell _).trans hc)), fun k hf => (g.free k (hf.ag h)).ag h', by rw [h'.size, ← h.size]; exact g.size⟩
/-- What was done to a part in block g is done to the whole, if g is among what may change or was not there. -/
theorem Kb.part {b j0 g j1 : Nat} {S S' : Nat → Prop} {W Wi W' : World} (h : Kb b j0 S W Wi) (f : Kb g j1 S' Wi W') (hg : S g ∨ W.heap.size ≤ g) (hS : ∀ k, S' k → S k ∨ W.heap.size ≤ k) (_ : b < W.heap.size) (hb1 : b ≠ g) (hb2 : ¬ S' b) : Kb b j0 S W W' := by
  refine ⟨fun k o hk ho e => ?_, fun j u hj hc => ?_, fun k hf => f.free k (h.free k hf), Nat.le_trans h.size f.size⟩
  · have hl : k < W.heap.size := (Array.getElem?_eq_some_iff.1 e).1
    refine f.oth k o ⟨?_, ?_⟩ ho (h.oth k o hk ho e)
    · rintro rfl
      rcases hg with hg | hg
      · exact hk.2 hg
      · omega
    · intro hs
      rcases hS k hs with h1 | h1
      · exact hk.2 h1
      · omega
  · exact f.oth.cell (p := ⟨b, j, none⟩) ⟨hb1, hb2⟩ (h.own j u hj hc)
/-- The same node with its parts elsewhere. -/
abbrev X.at (v : X) (a : Option Addr) (cap : Nat) (c : Nat → X) : X := .mk v.k v.v v.s v.f a v.n cap c
theorem Node.at {w : World} {b o : Nat} {v : X} {a : Option Addr} {cap : Nat} {c c' : Nat → X} (h : Node w b o (v.at a cap c)) : Node w b o (v.at a cap c') := h
end Go.Proofs.Ytjclelmbpmlioaa
namespace Go.Proofs.Ytjclelmbpmlioaa
open Go.RowKit Go.Shelf

def szZ : X → Int
  | .nil => 1
  | .mk _ _ _ _ _ n _ c => accZ (fun i => szZ (c i)) n
theorem szZ_eq (x : X) : szZ x = accZ (fun i => szZ (x.c i)) x.n := by cases x <;> rfl
theorem Node.at0 {w : World} {B : Nat} {x : X} (h : Node w B 0 x) : w.cell? ⟨B, 0, none⟩ = some (.int .i64 x.k) ∧ w.cell? ⟨B, 1, none⟩ = some (.int .i64 x.v.k) ∧ w.cell? ⟨B, 2, none⟩ = some (.int .i64 x.v.n) ∧ w.cell? ⟨B, 3, none⟩ = some (.string x.v.s) ∧
    w.cell? ⟨B, 4, none⟩ = some (.string x.s) ∧ w.cell? ⟨B, 5, none⟩ = some (.string x.f) ∧ w.cell? ⟨B, 6, none⟩ = some (.slice x.a x.n x.cap) := by
  have := h
  simp only [Node, Nat.zero_add] at this
  exact this
/-- The box that holds a condition stays. -/
theorem node_on {w A W : World} {x : X} (hn : Node A w.heap.size 0 x) (hB : Below (w.heap.size + 1) A W) : Node W w.heap.size 0 x := hn.below hB (by omega)

set_option maxRecDepth 100000 in
set_option maxHeartbeats 4000000 in
theorem refSize_any : ∀ (x : X) (w : World), IsX w x → Calls Try.prog 33 #[x.val] w fun e w' => e = .returned (.int .i64 (szZ x)) ∧ Below w.heap.size w w' := by
  refine X.ind fun x ih w hX => ?_
  obtain ⟨r, hr⟩ : ∃ r, r = szZ x := ⟨_, rfl⟩
  have HR : Hid (r = accZ (fun i => szZ (x.c i)) x.n) := by show r = _; rw [hr, szZ_eq]
  rw [← hr]
  have HI : Hid (∀ i, i < x.n → ∀ w, IsX w (x.c i) → Calls Try.prog 33 #[(x.c i).val] w fun e w' => e = .returned (.int .i64 (szZ (x.c i))) ∧ Below w.heap.size w w') := ih
  have HX : Hid (IsX w x) := hX
  have hlen := hX.len
  obtain ⟨A, hA⟩ : ∃ A, w.alloc (.cells x.cells 68) = A := ⟨_, rfl⟩
  have HB : Hid (Below w.heap.size w A) := by show Below _ _ _; rw [← hA]; exact (Below.refl _ w).alloc (Nat.le_refl _) _
  have HN : Hid (Node A w.heap.size 0 x) := by show Node _ _ _ _; rw [← hA]; exact node_new w _ x
  have hs : A.heap.size = w.heap.size + 1 := by rw [← hA]; simp
  clear ih hX hr
  go_enter Try.func33, Try.ntmps33
  go_wp2_with fail
  go_loopw [3, 4] (fun u v wr => ∃ k : Nat, k ≤ x.n ∧ u = .int .i64 (accZ (fun i => szZ (x.c i)) k) ∧ v = .int .i64 k ∧ Below A.heap.size A wr) (fun _ v _ => x.n - (intOf v).toNat)
  case atStart => exact ⟨0, Nat.zero_le _, rfl, rfl, Below.refl _ _⟩
  case round =>
    obtain ⟨k, hk, rfl, rfl, hB⟩ := hrel
    obtain ⟨-, -, -, -, -, -, c6⟩ := (node_on HN.out (hB.mono (by omega))).at0
    have hw := HB.out.trans (hB.mono (by omega))
    by_cases hkn : k < x.n
    · obtain ⟨b, o, ea, hn, hx⟩ := (HX.out.later hw).part hkn
      rw [ea] at c6
      obtain ⟨d0, d1, d2, d3, d4, d5, d6⟩ := hn
      have hc := HI.out k hkn wr hx
      have HK : Hid (k < x.n) := hkn
      have HQ : Hid (Below w.heap.size w wr) := hw
      clear hx hw
      go_wp2_with (go_at_call 33; refine hc.mono ?_; rintro e w2 ⟨rfl, hB2⟩)
      exact ⟨⟨k + 1, HK.out, rfl, by simp, hB.trans (hB2.mono hB.size)⟩, by have := HK.out; simp [intOf]; omega⟩
    · have hk' : k = x.n := by omega
      subst hk'
      go_wp2
      go_ret
      exact ⟨ret_int HR.out.symm, hw⟩
end Go.Proofs.Ytjclelmbpmlioaa
namespace Go.Proofs.Ytjclelmbpmlioaa
open Go.RowKit

theorem lexN_not {f : Nat → Int} {k : Nat} (h0 : lexN f k = 0) (h : ¬ f k = 0) : ∀ {n : Nat}, k < n → lexN f n = f k
  | 0, hn => by omega
  | n + 1, hn => by
    by_cases e : k = n
    · subst e
      show (if lexN f k = 0 then f k else lexN f k) = f k
      rw [if_pos h0]
    · have := lexN_not h0 h (show k < n by omega)
      show (if lexN f n = 0 then f n else lexN f n) = f k
      rw [this, if_neg h]
/-- What alone tells. -/
def alZ (x y : X) : Int := orI (cmpI x.k y.k) (orI (ordV x.v y.v) (orI (cmpS x.s y.s) (orI (cmpS x.f y.f) (cmpI x.n y.n))))
theorem ordX_al (x y : X) : ordX x y = orI (alZ x y) (lexN (fun i => ordX (x.c i) (y.c i)) x.n) := by
  rw [ordX_eq]
  unfold alZ orI
  by_cases h1 : cmpI x.k y.k = 0
  · simp only [h1, if_true]
    by_cases h2 : ordV x.v y.v = 0
    · simp only [h2, if_true]
      by_cases h3 : cmpS x.s y.s = 0
      · simp only [h3, if_true]
        by_cases h4 : cmpS x.f y.f = 0
        · simp only [h4, if_true]
        · simp only [h4, if_false]
      · simp only [h3, if_false]
    · simp only [h2, if_false]
  · simp only [h1, if_false]
def five (a b c d e : Int) : Nat → Int
  | 0 => a
  | 1 => b
  | 2 => c
  | 3 => d
  | _ => e
theorem lex_five (a b c d e : Int) : lexN (five a b c d e) 5 = orI a (orI b (orI c (orI d e))) := by
  simp only [lexN, five]
  unfold orI
  by_cases h1 : a = 0 <;> by_cases h2 : b = 0 <;> by_cases h3 : c = 0 <;> by_cases h4 : d = 0 <;> simp [h1, h2, h3, h4]
/-- Two nodes in memory. -/
def Nodes (w : World) (b o : Nat) (x : X) (b' o' : Nat) (y : X) : Prop := Node w b o x ∧ Node w b' o' y
end Go.Proofs.Ytjclelmbpmlioaa
namespace Go.Proofs.Ytjclelmbpmlioaa
open Go.RowKit Go.Shelf
attribute [local go_sem] Oper.semAt_some

theorem alZ_len {x y : X} (h : alZ x y = 0) : x.n = y.n := by
  unfold alZ at h
  rw [orI_zero, orI_zero, orI_zero, orI_zero] at h
  have := cmpI_zero h.2.2.2.2
  omega
theorem orI_not {a b : Int} (h : ¬ a = 0) : orI a b = a := by unfold orI; rw [if_neg h]

end Go.Proofs.Ytjclelmbpmlioaa
namespace Go.Proofs.Ytjclelmbpmlioaa
open Go.RowKit

/-- Two conditions in boxes of their own. -/
theorem two_boxes (x y : X) (w : World) : ∃ A, (w.alloc (.cells x.cells 68)).alloc (.cells y.cells 68) = A ∧ Below w.heap.size w A ∧ A.heap.size = w.heap.size + 2 ∧ Node A w.heap.size 0 x ∧ Node A (w.heap.size + 1) 0 y := by
  refine ⟨_, rfl, ((Below.refl _ w).alloc (Nat.le_refl _) _).alloc (by simp) _, by simp, (node_new w _ x).later ((Below.refl _ _).alloc (Nat.le_refl _) _), ?_⟩
  have := node_new (w.alloc (.cells x.cells 68)) 68 y
  rwa [World.size_alloc] at this
end Go.Proofs.Ytjclelmbpmlioaa
