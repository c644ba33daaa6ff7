/-
  A region that draws its order, inside a fence and inside a round, held under a condition on the world: what yields its value in every world that meets it is taken first (Derived/OrdersHeld.lean's way, told of 'wpIn'). Of no function.
  The closure of able.nodes that goes down (nodes$1$1): each node with its way.
  Rows of notes; slices.Clone of whole numbers; the closure of able.Uses that notes (Uses$1).
  able.own; what a node notes; pat.Tail, told in one.
-/
import Derived.Test.YtfnfegcjgnbgbaaGreatDoorSFirstsMap
import Derived.Test.YtfnfegcjgnbgbaaGreatDoorSPatFresh
import Derived.OrdersHeld
import Derived.OrdersIn
import Derived.Deep.RegionHeld3
import Derived.Below
import Derived.Laws.OwnMore
namespace Go.Proofs.YtfnfegcjgnbgbaaGreatDoor
open Go.RowKit

section
variable {n : Nat} {P : Program} {ops : Array Oper} {Q : Exit → Act → World → Prop} {md : Region.Mode} {S : World → Prop}
def YieldsHI (P : Program) (ops : Array Oper) (S : World → Prop) (o : Oper) (v : Value) (a : Act) : Prop := YieldsIf P ops S o v a ∧ ∀ w, o.about P w a.eval = none
theorem YieldsHI.wpOpIn {i : Nat} {o : Oper} {v : Value} {a : Act} (hi : ops[i]? = some o) (hy : YieldsHI P ops S o v a) {K : Act → World → Prop} {w : World} (hS : S w) (h : K (a.put o.dst v) w) : wpOpIn Fence.wide n P ops Q i K a w := by
  unfold Go.wpOpIn
  simp only [hi]
  have hab : ∀ f, o.about P w a.eval = some f → Fence.wide.fn f := fun f hf => by rw [hy.2 w] at hf; cases hf
  rcases hy.1 with ⟨hw, hv⟩ | ⟨hw, rfl⟩
  · simp only [hw, if_true, Oper.wpIn, show Fence.wide.round = none from rfl, Oper.semAt_none, hv w hS, Oper.uponIn]; exact ⟨hab, h⟩
  · simp only [hw, Bool.false_eq_true, if_false]; exact ⟨hab, h⟩
theorem YieldsHI.of_same {o : Oper} {v : Value} {a a' : Act} (hy : YieldsHI P ops S o v a) (he : execOp a'.eval o = execOp a.eval o)
    (hw : Region.wanted o (yielded ops a'.tmps) = Region.wanted o (yielded ops a.tmps)) (hb : ∀ w, o.about P w a'.eval = o.about P w a.eval) : YieldsHI P ops S o v a' :=
  ⟨hy.1.of_same he hw, fun w => by rw [hb w]; exact hy.2 w⟩
theorem wpOpIn_putHI {j : Nat} {oi oj : Oper} {v : Value} (hj : ops[j]? = some oj) (hap : oi.apart ops oj = true)
    (hsi : ∀ cs b, oi.op ≠ .select cs b) (hsj : ∀ cs b, oj.op ≠ .select cs b)
    (hQ : ∀ c a w, Q (.panic c) (a.put oi.dst v) w → Q (.panic c) a w) {K : Act → World → Prop} {a : Act} {w : World}
    (hy : YieldsHI P ops S oi v a) (h : wpOpIn Fence.wide n P ops Q j K (a.put oi.dst v) w) :
    wpOpIn Fence.wide n P ops Q j (fun a' w' => YieldsHI P ops S oi v a' ∧ K (a'.put oi.dst v) w') a w := by
  obtain ⟨h1, h2, h3⟩ := Oper.apart_spec hap
  have hro : Fence.wide.round = none := rfl
  have keep : ∀ (a : Act), YieldsHI P ops S oi v a → ∀ u, YieldsHI P ops S oi v (a.put oj.dst u) := fun a hy u =>
    hy.of_same (execOp_put oi hsi a oj.dst u h3) (wanted_put oi a oj.dst u h3) (fun w => about_put oi w a oj.dst u h3)
  have keepD : ∀ d, YieldsHI P ops S oi v { a with defers := d :: a.defers } := fun d => hy.of_same rfl rfl (fun _ => rfl)
  unfold wpOpIn at *
  simp only [hj] at *
  rw [wanted_put oj a oi.dst v h1, about_put oj w a oi.dst v h1] at h
  split
  · rename_i hw
    simp only [hw, if_true] at h
    unfold Oper.wpIn at *
    rw [about_put oj w a oi.dst v h1] at h
    refine ⟨h.1, ?_⟩
    have h := h.2
    rw [hro, Oper.semAt_none, execOp_put oj hsj a oi.dst v h1] at h
    rw [hro, Oper.semAt_none]
    generalize (execOp a.eval oj).run P w = r at *
    cases r with
    | ok x w' =>
      cases x <;> simp only [Oper.uponIn] at h ⊢
      case value u => exact ⟨keep a hy u, by rw [← Act.put_comm a v u h2]; exact h⟩
      case skip => exact ⟨keep a hy _, by rw [← Act.put_comm a v undef h2]; exact h⟩
      case defer d =>
        refine ⟨keep _ (keepD d) _, ?_⟩
        rw [← Act.put_comm _ v undef h2, ← Act.put_defers]
        exact h
      case enter f args =>
        refine ⟨h.1, CallsIn.mono h.2 fun e w'' he => ?_⟩
        cases e with
        | returned u => exact ⟨keep a hy u, by rw [← Act.put_comm a v u h2]; exact he⟩
        | panicked c => exact hQ _ _ _ he
        | outgrown => exact he
      case row row args => exact ⟨h.1, RowsIn.mono h.2 fun u w'' he => ⟨keep a hy u, by rw [← Act.put_comm a v u h2]; exact he⟩⟩
      case round l f tmps assign body =>
        refine ⟨h.1, RoundIn.mono h.2 fun e w'' he => ?_⟩
        cases e with
        | returned u => exact ⟨keep a hy u, by rw [← Act.put_comm a v u h2]; exact he⟩
        | panicked c => exact hQ _ _ _ he
        | outgrown => exact he
    | halt x w' =>
      cases x <;> simp only [Oper.uponIn] at h ⊢
      case panic u => exact hQ _ _ _ h
  · rename_i hw
    simp only [hw] at h
    exact ⟨h.1, keep a hy _, by rw [← Act.put_comm a v undef h2]; exact h.2⟩
/-- Whatever order is picked from here on, and S holds behind every operation that is carried out. -/
def wpAnyHI (n : Nat) (P : Program) (md : Region.Mode) (ops : Array Oper) (Q : Exit → Act → World → Prop) (S : World → Prop) : Nat → Array Bool → Act → World → Prop
  | 0, listed, a, w => Region.ready md ops listed = [] ∧ Q .normal a w
  | fuel + 1, listed, a, w =>
    (Region.ready md ops listed = [] → Q .normal a w) ∧
    ∀ i ∈ Region.ready md ops listed, wpOpIn Fence.wide n P ops Q i (fun a' w' => S w' ∧ wpAnyHI n P md ops Q S fuel (listed.setIfInBounds i true) a' w') a w
theorem wpAnyIn_of_held : ∀ (fuel : Nat) (listed : Array Bool) (a : Act) (w : World), wpAnyHI n P md ops Q S fuel listed a w → wpAnyIn Fence.wide n P md ops Q fuel listed a w
  | 0, _, _, _, h => h
  | fuel + 1, _, _, _, h => ⟨h.1, fun i hi => wpOpIn_mono (fun a' w' h' => wpAnyIn_of_held fuel _ a' w' h'.2) (h.2 i hi)⟩
theorem wpAnyHI_first {i : Nat} {oi : Oper} {v : Value} (hi : ops[i]? = some oi) (hsel : ∀ (j : Nat) (o : Oper) cs b, ops[j]? = some o → o.op ≠ .select cs b)
    (hQ : ∀ c a w, Q (.panic c) (a.put oi.dst v) w → Q (.panic c) a w) :
    ∀ (fuel : Nat) (listed : Array Bool) (a : Act) (w : World),
      (∀ j oj, ops[j]? = some oj → j ≠ i → listed.getD j true = false → (∀ e ∈ oj.after, Region.binds md e = true → e.on ≠ i) → oi.apart ops oj = true) →
      i ∈ Region.ready md ops listed → YieldsHI P ops S oi v a → S w →
      wpAnyHI n P md ops Q S fuel (listed.setIfInBounds i true) (a.put oi.dst v) w → wpAnyHI n P md ops Q S (fuel + 1) listed a w := by
  intro fuel
  induction fuel with
  | zero =>
    intro listed a w _ hr hy hS H
    refine ⟨fun h => (by rw [h] at hr; cases hr), fun j hj => ?_⟩
    by_cases hji : j = i
    · subst hji; exact hy.wpOpIn hi hS ⟨hS, H⟩
    · have := ready_mono hj hji
      rw [H.1] at this
      cases this
  | succ fuel ih =>
    intro listed a w hfree hr hy hS H
    refine ⟨fun h => (by rw [h] at hr; cases hr), fun j hj => ?_⟩
    by_cases hji : j = i
    · subst hji; exact hy.wpOpIn hi hS ⟨hS, H⟩
    · have h1 := H.2 j (ready_mono hj hji)
      obtain ⟨hjun, oj, hoj, hall⟩ := mem_ready.1 hj
      have hnot : ∀ e ∈ oj.after, Region.binds md e = true → e.on ≠ i := fun e he hb heq => by
        have h1 := hall e he hb
        have h0 := (mem_ready.1 hr).1
        rw [heq] at h1
        rcases Nat.lt_or_ge i listed.size with h' | h'
        · simp [h'] at h0 h1; rw [h0] at h1; cases h1
        · simp [Array.getElem?_eq_none h'] at h1
      have h2 := wpOpIn_putHI hoj (hfree j oj hoj hji hjun hnot) (fun cs b => hsel i oi cs b hi) (fun cs b => hsel j oj cs b hoj) hQ hy h1
      have hfree' : ∀ k ok, ops[k]? = some ok → k ≠ i → (listed.setIfInBounds j true).getD k true = false →
          (∀ e ∈ ok.after, Region.binds md e = true → e.on ≠ i) → oi.apart ops ok = true := fun k ok hk hki hun hno => by
        refine hfree k ok hk hki ?_ hno
        by_cases hjk : j = k
        · subst hjk; exact hjun
        · rw [getD_set_ne true hjk] at hun; exact hun
      refine wpOpIn_mono (fun a' w' h3 => ⟨h3.2.1, ih (listed.setIfInBounds j true) a' w' hfree' (ready_mono hr (Ne.symm hji)) h3.1 h3.2.1 ?_⟩) h2
      rw [Array.setIfInBounds_comm _ _ hji]
      exact h3.2.2
theorem wpAnyHI_take {i : Nat} {oi : Oper} {v : Value} {fuel : Nat} {listed : Array Bool} {a : Act} {w : World} (hi : ops[i]? = some oi)
    (hs : Region.noSelect ops = true) (hf : Region.free md ops listed i = true) (hr : (Region.ready md ops listed).contains i = true)
    (hQ : ∀ c a w, Q (.panic c) (a.put oi.dst v) w → Q (.panic c) a w) (hy : YieldsHI P ops S oi v a) (hS : S w)
    (h : wpAnyHI n P md ops Q S fuel (listed.setIfInBounds i true) (a.put oi.dst v) w) : wpAnyHI n P md ops Q S (fuel + 1) listed a w :=
  wpAnyHI_first hi (Region.noSelect_spec hs) hQ fuel listed a w (Region.free_spec hi hf) (by simpa using hr) hy hS h
variable {fuel : Nat} {listed : Array Bool} {a b : Act} {w : World}
theorem si_put {α : Type} (l : List α) (i : Nat) (a : α) : l.toArray.setIfInBounds i a = (l.set i a).toArray := List.setIfInBounds_toArray ..
theorem si_0 {α : Type} (x y : α) (l : List α) : (x :: l).set 0 y = y :: l := List.set_cons_zero
theorem si_1 {α : Type} (x y : α) (l : List α) (n : Nat) : (x :: l).set (n + 1) y = x :: l.set n y := List.set_cons_succ
/-- One that yields in every world that meets the condition. -/
theorem tki (i : Nat) {k : Nat} {op : Op} {ty : TypeId} {ps af gd} {v : Value} (h : wpAnyHI n P md ops Q S fuel (listed.setIfInBounds i true) b w)
    (hi : ops[i]? = some ⟨some k, op, ty, ps, af, gd⟩ := by rfl) (hs : Region.noSelect ops = true := by kernel_rfl) (hf : Region.free md ops listed i = true := by kernel_rfl) (hr : (Region.ready md ops listed).contains i = true := by kernel_rfl)
    (hw : Region.wanted ⟨some k, op, ty, ps, af, gd⟩ (yielded ops a.tmps) = true := by rfl) (hy : ∀ w, S w → (execOp a.eval ⟨some k, op, ty, ps, af, gd⟩).run P w = .ok (.value v) w := by intro w9 hSw; go_simp; (try with_reducible rfl))
    (hab : ∀ w, Oper.about P w a.eval ⟨some k, op, ty, ps, af, gd⟩ = none := by intro w9; rfl)
    (hQ : ∀ c a w, Q (.panic c) (a.put (some k) v) w → Q (.panic c) a w := by exact fun _ _ _ h => h) (hS : S w := by assumption) (hb : a.put (some k) v = b := by ((try simp only [Act.put, si_put, si_0, si_1]); rfl)) : wpAnyHI n P md ops Q S (fuel + 1) listed a w :=
  wpAnyHI_take hi hs hf hr hQ ⟨.inl ⟨hw, hy⟩, hab⟩ hS (hb ▸ h)
/-- The one that comes up. -/
theorem rdi (i : Nat) {ds : Option Tmp} {op : Op} {ty : TypeId} {ps af gd}
    (h : ∀ K' : Act → World → Prop, Shut (∀ a w, S w → (S w → wpAnyHI n P md ops Q S fuel (listed.setIfInBounds i true) a w) → K' a w) → if Region.wanted ⟨ds, op, ty, ps, af, gd⟩ (yielded ops a.tmps) = true then Oper.wpIn Fence.wide n P ⟨ds, op, ty, ps, af, gd⟩ a w K' Q else (∀ f, Oper.about P w a.eval ⟨ds, op, ty, ps, af, gd⟩ = some f → Fence.wide.fn f) ∧ K' (a.put ds undef) w)
    (hr : Region.ready md ops listed = [i] := by kernel_rfl) (hi : ops[i]? = some ⟨ds, op, ty, ps, af, gd⟩ := by rfl) : wpAnyHI n P md ops Q S (fuel + 1) listed a w := by
  refine ⟨fun h0 => (by rw [hr] at h0; cases h0), fun j hj => ?_⟩
  rw [hr, List.mem_singleton] at hj
  subst hj
  exact wpOpIn_step hi fun K' hK => h K' (fun a w hS hW => hK a w ⟨hS, hW hS⟩)
/-- Two that may come up. -/
theorem rdi2 (i j : Nat) {ds ds' : Option Tmp} {op op' : Op} {ty ty' : TypeId} {ps af gd ps' af' gd'}
    (h : ∀ K' : Act → World → Prop, Shut (∀ a w, S w → (S w → wpAnyHI n P md ops Q S fuel (listed.setIfInBounds i true) a w) → K' a w) → if Region.wanted ⟨ds, op, ty, ps, af, gd⟩ (yielded ops a.tmps) = true then Oper.wpIn Fence.wide n P ⟨ds, op, ty, ps, af, gd⟩ a w K' Q else (∀ f, Oper.about P w a.eval ⟨ds, op, ty, ps, af, gd⟩ = some f → Fence.wide.fn f) ∧ K' (a.put ds undef) w)
    (h' : ∀ K' : Act → World → Prop, Shut (∀ a w, S w → (S w → wpAnyHI n P md ops Q S fuel (listed.setIfInBounds j true) a w) → K' a w) → if Region.wanted ⟨ds', op', ty', ps', af', gd'⟩ (yielded ops a.tmps) = true then Oper.wpIn Fence.wide n P ⟨ds', op', ty', ps', af', gd'⟩ a w K' Q else (∀ f, Oper.about P w a.eval ⟨ds', op', ty', ps', af', gd'⟩ = some f → Fence.wide.fn f) ∧ K' (a.put ds' undef) w)
    (hr : Region.ready md ops listed = [i, j] := by kernel_rfl) (hi : ops[i]? = some ⟨ds, op, ty, ps, af, gd⟩ := by rfl) (hj : ops[j]? = some ⟨ds', op', ty', ps', af', gd'⟩ := by rfl) : wpAnyHI n P md ops Q S (fuel + 1) listed a w := by
  refine ⟨fun h0 => (by rw [hr] at h0; cases h0), fun k hk => ?_⟩
  rw [hr] at hk
  rcases List.mem_cons.1 hk with e | hk
  · subst e
    exact wpOpIn_step hi fun K' hK => h K' (fun a w hS hW => hK a w ⟨hS, hW hS⟩)
  · rw [List.mem_singleton] at hk
    subst hk
    exact wpOpIn_step hj fun K' hK => h' K' (fun a w hS hW => hK a w ⟨hS, hW hS⟩)
/-- The end. -/
theorem dni (h : Q .normal a w) (hr : Region.ready md ops listed = [] := by kernel_rfl) : wpAnyHI n P md ops Q S fuel listed a w := by
  cases fuel with
  | zero => exact ⟨hr, h⟩
  | succ => exact ⟨fun _ => h, by rw [hr]; simp⟩
/-- The beginning. -/
theorem bgi {id : Nat} (S : World → Prop) (hS : S w.drew) (h : S w.drew → wpAnyHI n P .any ops Q S ops.size (Array.replicate ops.size false) a w.drew) (hm : P.follows .mixedOrders = true := by kernel_rfl) : (Code.region id ops true).wpIn Fence.wide n P Q a w :=
  wpIn_region_any hm (wpAnyIn_of_held _ _ _ _ (h hS))
/-- The beginning, of a region that is shown not to panic. -/
theorem bgp {id : Nat} (S : World → Prop) (hS : S w.drew) (h : S w.drew → wpAnyHI n P .any ops (NoPanic Q) S ops.size (Array.replicate ops.size false) a w.drew) (hm : P.follows .mixedOrders = true := by kernel_rfl) : (Code.region id ops true).wpIn Fence.wide n P Q a w :=
  wpIn_mono (bgi S hS h hm) NoPanic.imp
/-- The beginning, inside a round. -/
theorem bgr {id r : Nat} {l : List Oper} (S : World → Prop) (hS : S w.drew) (h : S w.drew → wpAnyHI n P .any l.toArray Q S l.toArray.size (Array.replicate l.toArray.size false) a w.drew) (hm : P.follows .mixedOrders = true := by kernel_rfl) (hc : calmB l = true := by kernel_rfl) : (Code.region id l.toArray true).wpIn (Fence.wide.inRound r) n P Q a w :=
  wpIn_region_any hm (wpAnyIn_round r hc _ _ _ _ (wpAnyIn_of_held _ _ _ _ (h hS)))
end
end Go.Proofs.YtfnfegcjgnbgbaaGreatDoor
namespace Go.Proofs.YtfnfegcjgnbgbaaGreatDoor
open Go.RowKit Go.Shelf
attribute [local go_sem] Oper.semAt_some

/-- The closure that goes down, as a value. -/
abbrev downWV (By Bd : Nat) : Value := .func (.func 57) #[] #[.pointer (some ⟨By, 0, none⟩), .pointer (some ⟨Bd, 0, none⟩)]
/-- A node with its way and the kind of what it is a part of, as cells and as a value. -/
abbrev ndCells (y : Pt) (v : Value) (ink : Int) : Array Value := #[.int .i64 y.k, .string y.s, .string y.t, .int .i64 y.lo, .int .i64 y.hi, .slice y.a y.n y.cap, v, .int .i64 ink]
abbrev ndVal (y : Pt) (v : Value) (ink : Int) : Value := .agg (ndCells y v ink)
theorem wpInOp_append {n : Nat} {P : Program} {w w' : World} {o : Oper} {a : Act} {K : Act → World → Prop} {Q : Exit → Act → World → Prop} (s x : Operand) (t : TypeId)
    (hop : o.op = Op.call { callee := Callee.builtin Builtin.append, args := #[s, x], argTypes := #[t, t] }) (v y v' : Value) (hs : a.eval s = v) (hx : a.eval x = y)
    (hrun : (Builtin.append_ #[t, t] o.type #[v, y]).run P w = .ok v' w') (hK : K (a.put o.dst v') w') : Oper.wpIn Fence.wide n P o a w K Q := by
  unfold Oper.wpIn
  refine ⟨fun f _ => trivial, ?_⟩
  simp [Oper.semAt_none, execOp, hop, resolve, invoke, builtin, hs, hx, hrun, Result.andThen]
  exact hK
theorem grown_drew {W W' : World} {r : Option Nat} (h : W.grownBy W' r) : W.grownBy W'.drew r := ⟨h.os, h.tape, h.output, h.size, h.block⟩
/-- The cells of a node with its way, in its box. -/
theorem nd_cells {W : World} {B : Nat} {y : Pt} {v : Value} {ink : Int} (h : W.heap[B]? = some (.cells (ndCells y v ink) 64 (0, 0))) :
    W.cell? ⟨B, 0, none⟩ = some (.int .i64 y.k) ∧ W.cell? ⟨B, 1, none⟩ = some (.string y.s) ∧ W.cell? ⟨B, 2, none⟩ = some (.string y.t) ∧ W.cell? ⟨B, 3, none⟩ = some (.int .i64 y.lo) ∧ W.cell? ⟨B, 4, none⟩ = some (.int .i64 y.hi) ∧
    W.cell? ⟨B, 5, none⟩ = some (.slice y.a y.n y.cap) ∧ W.cell? ⟨B, 6, none⟩ = some v ∧ W.cell? ⟨B, 7, none⟩ = some (.int .i64 ink) := by
  refine ⟨?_, ?_, ?_, ?_, ?_, ?_, ?_, ?_⟩ <;> simp [World.cell?, h]
set_option maxRecDepth 100000 in
set_option maxHeartbeats 4000000 in
theorem downW_any (l By Bd base : Nat) (T : Nat → Prop) (J : List VN → (Nat → Prop) → World → Prop) (all : List VN)
    (hT : ∀ k, T k → k < base)
    (hJ : ∀ pre K W W' r, W.grownBy W' r → (∀ k, r = some k → IntB W k ∧ ¬ K k ∧ base ≤ k) → J pre K W → J pre K W')
    (hKs : ∀ pre K W, J pre K W → ∀ k, K k → k < W.heap.size)
    (hY : ∀ (y : Pt) (v : Value) (way : List Int) (ink : Int) (pre : List VN) (K : Nat → Prop) (W : World), Wy W base v way → PT T W y → J pre K W → base ≤ W.heap.size → (∃ post, pre ++ (way, ink, y) :: post = all) →
      YieldAt Fence.wide 0 Tryz.prog l #[ndVal y v ink] W fun e W' => e = .returned (.bool true) ∧ Ks T W W' ∧ ∃ K' : Nat → Prop, (∀ k, K' k → K k ∨ W.heap.size ≤ k) ∧ J (pre ++ [(way, ink, y)]) K' W') :
    ∀ (r : Nat) (y : Pt), y.size < r → ∀ (n : Nat) (v : Value) (way : List Int) (ink : Int) (pre : List VN) (K : Nat → Prop) (W : World),
      Boxed W By 87 (.func (.yield l) #[] #[]) → Boxed W Bd 87 (downWV By Bd) → Wy W base v way → (∀ k, v.ownBlock = some k → ¬ K k) → PT T W y → J pre K W → base ≤ W.heap.size →
      way.length + y.deep ≤ 1048576 → (∃ post, pre ++ (visW way ink y ++ post) = all) →
      CallsIn Fence.wide n Tryz.prog 57 #[ndVal y v ink, .pointer (some ⟨By, 0, none⟩), .pointer (some ⟨Bd, 0, none⟩)] W fun e W' =>
        e = .returned (.bool true) ∧ Kw T base v way W W' ∧ ∃ K' : Nat → Prop, (∀ k, K' k → K k ∨ W.heap.size ≤ k) ∧ J (pre ++ visW way ink y) K' W' := by
  intro r
  induction r with
  | zero => intro y h; omega
  | succ r ih =>
    intro y hr n v way ink pre K W by0 bd0 hw hvK hy hj hb hdeep hall
    have hdd : ∀ k : Nat, (Fence.wide.depth.isSome = true → 1 ≤ k) := fun k h => by cases h
    obtain ⟨wa, wcap, hv, -, hwc, hwm⟩ := hw.shape
    have hv8 : wcap ≤ 9223372036854775807 := by simpa [maxLen] using hwm
    subst hv
    obtain ⟨A, hA⟩ : ∃ A, W.alloc (.cells (ndCells y (.slice wa way.length wcap) ink) 64) = A := ⟨_, rfl⟩
    have gA : W.grownBy A none := by rw [← hA]; exact World.grownBy_alloc _ _ _
    have xA : A.heap[W.heap.size]? = some (.cells (ndCells y (.slice wa way.length wcap) ink) 64 (0, 0)) := by rw [← hA]; exact alloc_new _ _
    have kA : Kw T base (.slice wa way.length wcap) way W A := Kw.grown hw gA
    have wA := kA.own
    have jA : J pre K A := hJ _ _ _ _ _ gA (fun k e => by cases e) hj
    have yA : PT T A y := PT.of (fun p u hp => (gA.cell hp (by simp))) hy
    have sA : A.heap.size = W.heap.size + 1 := by rw [← hA]; simp
    have byA : Boxed A By 87 (.func (.yield l) #[] #[]) := (gA.block _ by0.lt (by simp)).trans by0
    have bdA : Boxed A Bd 87 (downWV By Bd) := (gA.block _ bd0.lt (by simp)).trans bd0
    have hY1 := hY y (.slice wa way.length wcap) way ink pre K A wA yA jA (by omega) (by obtain ⟨post, h⟩ := hall; rw [visW_eq] at h; exact ⟨_, by simpa using h⟩)
    have HA : Hid (W.grownBy A none ∧ A.heap.size = W.heap.size + 1 ∧ Kw T base (.slice wa way.length wcap) way W A ∧ PT T A y) := ⟨gA, sA, kA, yA⟩
    obtain ⟨c0, hc0⟩ : ∃ c0, c0 = (W.alloc (.cells (ndCells y (.slice wa way.length wcap) ink) 64)).heap.size := ⟨_, rfl⟩
    obtain ⟨fn, tmps, assign, body, hyy, hR⟩ := yield_wide (n - 1) hY1
    have cby := byA.cell
    have XB : Hid (∀ W1, Ks T A W1 → W1.heap[W.heap.size]? = some (.cells (ndCells y (.slice wa way.length wcap) ink) 64 (0, 0))) := fun W1 h => h.block _ _ _ _ (.inr (by decide)) xA
    have BB : Hid (∀ W1, Ks T A W1 → Boxed W1 By 87 (.func (.yield l) #[] #[]) ∧ Boxed W1 Bd 87 (downWV By Bd)) := fun W1 h => ⟨h.block _ _ _ _ (.inr (by decide)) byA, h.block _ _ _ _ (.inr (by decide)) bdA⟩
    have hny := ((pT_eq _ _ _).1 hy)
    have hny1 : y.n ≤ 9223372036854775807 := by omega
    obtain ⟨x0, x1, x2, x3, x4, x5, x6, x7⟩ := nd_cells xA
    have HW : Hid (Wy W base (.slice wa way.length wcap) way ∧ (∀ k, (Value.slice wa way.length wcap).ownBlock = some k → ¬ K k) ∧ PT T W y ∧ J pre K W ∧ base ≤ W.heap.size ∧ way.length + y.deep ≤ 1048576 ∧ (∃ post, pre ++ (visW way ink y ++ post) = all) ∧ way.length ≤ wcap) := ⟨hw, hvK, hy, hj, hb, hdeep, hall, hwc⟩
    clear hw hvK hy hj hb hdeep hall hwc hwm gA sA kA yA wA jA xA by0 bd0 byA bdA hY hny hc0 hY1
    subst hA
    refine callsIn_of_wp Tryz.func57 rfl trivial ?_ rfl
    simp only [Tryz.ntmps57, List.size_toArray, List.length_cons, List.length_nil, Nat.reduceAdd, Nat.reduceSub, Array.replicate_succ, Array.replicate_zero, List.push_toArray, List.append_toArray, List.nil_append, List.cons_append]
    obtain ⟨M, hM⟩ : ∃ M : Nat → World → Prop, M = fun i wr => wr.heap[W.heap.size]? = some (.cells (ndCells y (.slice wa way.length wcap) ink) 64 (0, 0)) ∧ Boxed wr By 87 (.func (.yield l) #[] #[]) ∧ Boxed wr Bd 87 (downWV By Bd) ∧
      PT T wr y ∧ Kw T base (.slice wa way.length wcap) way W wr ∧ ∃ K' : Nat → Prop, (∀ k, K' k → K k ∨ W.heap.size ≤ k) ∧ J (pre ++ (way, ink, y) :: catN (fun i => visW (way ++ [(i : Int)]) y.k (y.c i)) i) K' wr := ⟨_, rfl⟩
    gi_wp2_with ((try refine ⟨hdd _, ?_⟩); refine hR.mono ?_; clear hR hyy cby x0 x1 x2 x3 x4 x5 x6 x7; rintro e W1 ⟨rfl, hks, K1, hk1, hj1⟩; obtain ⟨x0, x1, x2, x3, x4, x5, x6, x7⟩ := nd_cells (XB.out W1 hks))
    have m0 : M 0 W1 := by
      rw [hM]
      obtain ⟨gA, sA, kA, yA⟩ := HA.out
      refine ⟨XB.out W1 hks, (BB.out W1 hks).1, (BB.out W1 hks).2, ?_, kA.trans (hks.kw kA.own), K1, fun k hk => ?_, by simpa [catN] using hj1⟩
      · refine PT.kept (fun k o hk ho he => ?_) yA
        cases o with
        | cells c t f => exact hks.block k c t f (.inl hk) he
        | _ => cases ho
      · rcases hk1 k hk with h | h
        · exact .inl h
        · right; simp at h; omega
    clear x0 x1 x2 x3 x4 x5 x6 x7 hks hk1 hj1 HA XB BB
    gi_loopw [15] (fun u wr => ∃ i : Nat, i ≤ y.n ∧ u = .int .i64 i ∧ M i wr) (fun u _ => y.n - (intOf u).toNat)
    case atStart => exact ⟨0, Nat.zero_le _, rfl, m0⟩
    case round =>
      obtain ⟨i, hi, rfl, hmi⟩ := hrel
      by_cases hin : i < y.n
      · have HQ : Hid (i < y.n) := hin
        have HM : Hid (M i wr) := hmi
        rw [hM] at hmi
        obtain ⟨q1, q2, q3, q4, -⟩ := hmi
        obtain ⟨b', o', ea, hb', hn', hx'⟩ := ((pT_eq _ _ _).1 q4).2.2 i hin
        obtain ⟨p0, p1, p2, p3, p4, p5⟩ := hn'
        clear q1 q2 q3 q4 hx'
        gi_wp2
        obtain ⟨D, hD⟩ : ∃ D, (wr.alloc (.cells (y.c i).cells 24)).drew = D := ⟨_, rfl⟩
        have gD : wr.grownBy D none := by rw [← hD]; exact grown_drew (World.grownBy_alloc wr _ none)
        have pD : D.heap[wr.heap.size]? = some (.cells (y.c i).cells 24 (0, 0)) := by rw [← hD]; exact alloc_new _ _
        have sD : D.heap.size = wr.heap.size + 1 := by rw [← hD]; exact World.size_alloc _ _
        have HM2 := HM.out
        rw [hM] at HM2
        obtain ⟨q1, q2, q3, q4, q5, K2, q6, q7⟩ := HM2
        have xD := (gD.block _ (heap_lt q1) (by simp)).trans q1
        have byD : Boxed D By 87 (.func (.yield l) #[] #[]) := (gD.block _ q2.lt (by simp)).trans q2
        have bdD : Boxed D Bd 87 (downWV By Bd) := (gD.block _ q3.lt (by simp)).trans q3
        have yD : PT T D y := PT.of (fun p u hp => gD.cell hp (by simp)) q4
        have kD : Kw T base (.slice wa way.length wcap) way W D := q5.trans (Kw.grown q5.own gD)
        have jD := hJ _ _ _ _ _ gD (fun k e => by cases e) q7
        have kK := hKs _ _ _ q7
        refine bgi (fun w' => Boxed w' Bd 87 (downWV By Bd) ∧ w'.heap[W.heap.size]? = some (.cells (ndCells y (.slice wa way.length wcap) ink) 64 (0, 0)) ∧ w'.heap[wr.heap.size]? = some (.cells (y.c i).cells 24 (0, 0)))
          (by rw [hD]; exact ⟨bdD, xD, pD⟩) (fun hHeld => ?_)
        rw [hD] at hHeld ⊢
        clear hD q1 q2 q3 q4 q5 q7 p0 p1 p2 p3 p4 p5
        refine tki 0 ?_ (hy := by intro w9 hSw; obtain ⟨h1, -, -⟩ := hSw; have c := h1.cell; clear h1; go_simp; (try with_reducible rfl))
        refine tki 1 ?_ (hy := by intro w9 hSw; obtain ⟨-, -, h1⟩ := hSw; obtain ⟨c0, c1, c2, c3, c4, c5⟩ := nodeP_box h1; clear h1; go_simp; (try with_reducible rfl))
        refine tki 2 ?_
        refine tki 3 ?_ (hy := by intro w9 hSw; obtain ⟨-, h1, -⟩ := hSw; obtain ⟨x0, x1, x2, x3, x4, x5, x6, x7⟩ := nd_cells h1; clear h1; go_simp; (try with_reducible rfl))
        refine tki 4 ?_
        refine tki 7 ?_
        refine tki 8 ?_
        refine tki 9 ?_ (hy := by intro w9 hSw; obtain ⟨-, h1, -⟩ := hSw; obtain ⟨x0, x1, x2, x3, x4, x5, x6, x7⟩ := nd_cells h1; clear h1; go_simp; (try with_reducible rfl))
        refine rdi 5 (fun K3 hK3 => ?_)
        go_simp
        obtain ⟨E, hE⟩ : ∃ E, D.alloc (.cells #[.int .i64 i] 3) = E := ⟨_, rfl⟩
        have gE : D.grownBy E none := by rw [← hE]; exact World.grownBy_alloc _ _ _
        have iE : Boxed E (wr.heap.size + 1) 3 (.int .i64 i) := by rw [← hE, ← sD]; exact Boxed.new _ _ _
        have sE : E.heap.size = wr.heap.size + 2 := by rw [← hE, World.size_alloc, sD]
        have kE : Kw T base (.slice wa way.length wcap) way W E := kD.trans (Kw.grown kD.own gE)
        have jE := hJ _ _ _ _ _ gE (fun k e => by cases e) jD
        have byE : Boxed E By 87 (.func (.yield l) #[] #[]) := (gE.block _ byD.lt (by simp)).trans byD
        have yE : PT T E y := PT.of (fun p u hp => gE.cell hp (by simp)) yD
        obtain ⟨hw, hvK, hy, hj, hb, hdeep, hall, hwc⟩ := HW.out
        have hsz := kE.size
        rw [hE]
        refine hK3.out _ _ ⟨(gE.block _ bdD.lt (by simp)).trans bdD, (gE.block _ (heap_lt xD) (by simp)).trans xD, (gE.block _ (heap_lt pD) (by simp)).trans pD⟩ (fun hHeld => ?_)
        clear hK3 K3 hE
        obtain ⟨bdE, xE, pE⟩ := hHeld
        obtain ⟨v', F, hrun, hst⟩ := way_append kE.own (by omega) (by omega) iE
        obtain ⟨va, vc, hv', -, -, -⟩ := hst.own.shape
        rw [show (way ++ [(i : Int)]).length = way.length + 1 by simp] at hv'
        subst hv'
        have ne : ∀ (k : Nat) (c : Array Value) (t : TypeId) (f : Nat × Nat), E.heap[k]? = some (.cells c t f) → t ≠ 3 → F.heap[k]? = some (.cells c t f) := fun k c t f hc ht => by
          refine (hst.grown.block k (heap_lt hc) (fun e => ?_)).trans hc
          obtain ⟨cur, hcur⟩ := kE.own.intB e.symm
          rw [hc] at hcur
          injection hcur with hcur
          injection hcur with _ q
          exact ht q
        have bdF : Boxed F Bd 87 (downWV By Bd) := ne _ _ _ _ bdE (by decide)
        have byF : Boxed F By 87 (.func (.yield l) #[] #[]) := ne _ _ _ _ byE (by decide)
        have xF := ne _ _ _ _ xE (by decide)
        have pF := ne _ _ _ _ pE (by decide)
        have nKE : ∀ k, (Value.slice wa way.length wcap).ownBlock = some k → ¬ K2 k ∧ k < W.heap.size := fun k hk => by
          have hlt := (hw.lt k hk).2
          refine ⟨fun q => ?_, hlt⟩
          rcases q6 k q with h | h
          · exact hvK k hk h
          · omega
        have jF := hJ _ _ _ _ _ hst.grown (fun k hk => ⟨kE.own.intB hk, (nKE k hk).1, (kE.own.lt k hk).1⟩) jE
        have yF : PT T F y := by
          refine PT.kept (W := E) (fun k o hk ho he => ?_) yE
          refine (hst.grown.block k (heap_lt he) (fun e => ?_)).trans he
          have := (kE.own.lt k e.symm).1
          have := hT k hk
          omega
        have hsF := hst.grown.size
        have nKF : ∀ k, (Value.slice va (way.length + 1) vc).ownBlock = some k → ¬ K2 k := fun k hk => by
          rcases hst.at' with ⟨g, cap, e1, e2⟩ | e
          · rw [e2] at hk
            exact (nKE k (by rw [e1]; exact hk)).1
          · rw [e] at hk
            injection hk with hk
            intro q
            have := kK k q
            omega
        obtain ⟨b2, o2, -, -, -, yi⟩ := ((pT_eq _ _ _).1 yF).2.2 i HQ.out
        have key := ih (y.c i) (by have := y.size_part i HQ.out; omega) (n - 1) (.slice va (way.length + 1) vc) (way ++ [(i : Int)]) y.k _ K2 F byF bdF hst.own nKF yi jF (by omega)
          (by have := y.deep_part i HQ.out; simp; omega)
          (by
            obtain ⟨post, hpo⟩ := hall
            obtain ⟨r', hr'⟩ := catN_split (fun i => visW (way ++ [(i : Int)]) y.k (y.c i)) HQ.out
            refine ⟨r' ++ post, ?_⟩
            rw [visW_eq way] at hpo
            rw [← hpo, hr']
            simp)
        refine rdi 6 (fun K3 hK3 => ?_)
        rw [if_pos (by rfl)]
        refine wpInOp_append (.tmp 23) (.tmp 25) 39 rfl _ _ _ rfl rfl hrun ?_
        refine hK3.out _ _ ⟨bdF, xF, pF⟩ (fun hHeld => ?_)
        clear hK3 K3 hrun
        refine tki 10 ?_
        refine rdi 11 (fun K3 hK3 => ?_)
        go_simp
        refine ⟨trivial, hdd _, ?_⟩
        refine key.mono ?_
        clear key
        rintro e X ⟨rfl, hkX, K4, hk4, hj4⟩
        have bdX := hkX.other hst.own bdF (by decide) (by decide)
        have byX := hkX.other hst.own byF (by decide) (by decide)
        have xX := hkX.other hst.own xF (by decide) (by decide)
        have pX := hkX.other hst.own pF (by decide) (by decide)
        have kX : Kw T base (.slice wa way.length wcap) way W X := kE.trans (Kw.child hst hkX (fun a n c e => by injection e with e1 e2 e3; omega))
        have yX : PT T X y := by
          refine PT.kept (W := F) (fun k o hk ho he => ?_) yF
          cases o with
          | cells c t f =>
            refine hkX.block k c t f (fun e => ?_) (.inl hk) he
            have := (hst.own.lt k e).1
            have := hT k hk
            omega
          | _ => cases ho
        have mX : M (i + 1) X := by
          rw [hM]
          refine ⟨xX, byX, bdX, yX, kX, K4, fun k hk => ?_, by simpa [catN] using hj4⟩
          rcases hk4 k hk with h | h
          · exact q6 k h
          · right; omega
        go_simp
        refine hK3.out _ _ ⟨bdX, xX, pX⟩ (fun hHeld => ?_)
        clear hK3 K3
        refine tki 12 ?_
        refine dni ?_
        gi_wp2
        simp only [ea]
        refine ⟨⟨_, _, _, _, _, _, _, _, _, _, _, _, _, _, _, _, _, _, _, _, _, _, ⟨i + 1, HQ.out, by simp, mX⟩, rfl⟩, ?_⟩
        have := HQ.out
        simp [intOf]
        omega
      · have hin' : i = y.n := by omega
        subst hin'
        gi_wp2
        go_ret
        rw [hM] at hmi
        obtain ⟨-, -, -, -, q5, K2, q6, q7⟩ := hmi
        exact ⟨rfl, q5, K2, q6, by rw [visW_eq]; exact q7⟩
end Go.Proofs.YtfnfegcjgnbgbaaGreatDoor
namespace Go.Proofs.YtfnfegcjgnbgbaaGreatDoor
open Go.RowKit Go.Shelf
attribute [local go_sem] Oper.semAt_some

theorem infoNt : (Tryz.prog.info? 56).map (fun i => (i.zero, i.size, i.bytes)) = some (some (.agg #[.slice none 0 0, .int .i64 0]), 2, 32) := by kernel_rfl
/-- An append in a walk, by its run. -/
theorem wpList_app22 {P : Program} {w w' : World} {ops : Array Oper} {rest : List Oper} {o : Oper} {a : Act} {Q : Exit → Act → World → Prop} (hg : o.guard = none) (s x : Operand) (t : TypeId)
    (hop : o.op = Op.call { callee := Callee.builtin Builtin.append, args := #[s, x], argTypes := #[t, t] }) (v y v' : Value) (hs : a.eval s = v) (hx : a.eval x = y)
    (hrun : (Builtin.append_ #[t, t] o.type #[v, y]).run P w = .ok v' w') (hK : wpList P ops Q rest (a.put o.dst v') w') : wpList P ops Q (o :: rest) a w := by
  refine wpList_plain hg fun K hK' => ?_
  unfold Oper.wp
  simp [execOp, hop, resolve, invoke, builtin, hs, hx, hrun, Result.andThen]
  exact hK' _ _ hK
/-- A note: its way and its thing. -/
abbrev Nt := List Int × Int
def ntCells : List Value → List Nt → List Value
  | u :: us, n :: l => u :: .int .i64 n.2 :: ntCells us l
  | _, _ => []
theorem ntCells_snoc : ∀ {us : List Value} {l : List Nt} (u : Value) (n : Nt), us.length = l.length → ntCells (us ++ [u]) (l ++ [n]) = ntCells us l ++ [u, .int .i64 n.2]
  | [], [], _, _, _ => rfl
  | a :: us, b :: l, u, n, h => by simp only [List.cons_append, ntCells]; rw [ntCells_snoc u n (by simpa using h)]
/-- A row of notes that a call owns; K: where their ways lie. -/
structure Nts (W : World) (base : Nat) (K : Nat → Prop) (v : Value) (L : List Nt) (us : List Value) : Prop where
  len : us.length = L.length
  row : W.ownsRow base 56 2 v L.length (ntCells us L)
  way : ∀ (j : Nat) (u : Value) (n : Nt), us[j]? = some u → L[j]? = some n → Wy W base u n.1 ∧ ∀ k, u.ownBlock = some k → K k
theorem Nts.nil (W : World) (base : Nat) : Nts W base (fun _ => False) (.slice none 0 0) [] [] := ⟨rfl, World.ownsRow_nil _ _ _ _, fun j u n h => by cases h⟩
theorem own_same {W W' : World} {base n s : Nat} {t : TypeId} {v : Value} {xs : List Value} (h : W.ownsRow base t s v n xs) (hb : ∀ k c, v.ownBlock = some k → W.heap[k]? = some (.cells c t (0, 0)) → W'.heap[k]? = some (.cells c t (0, 0))) : W'.ownsRow base t s v n xs := by
  refine ⟨h.1, ?_⟩
  rcases h.2 with h2 | ⟨g, cap, cur, rfl, h1, h2, h3⟩
  · exact .inl h2
  · exact .inr ⟨g, cap, cur, rfl, h1, hb g cur rfl h2, h3⟩
theorem Nts.same {W W' : World} {base : Nat} {K K' : Nat → Prop} {v : Value} {L : List Nt} {us : List Value} (h : Nts W base K v L us) (hv : ∀ k c, v.ownBlock = some k → W.heap[k]? = some (.cells c 56 (0, 0)) → W'.heap[k]? = some (.cells c 56 (0, 0)))
    (hK : ∀ k c, K k → W.heap[k]? = some (.cells c 3 (0, 0)) → W'.heap[k]? = some (.cells c 3 (0, 0))) (hKK : ∀ k, K k → K' k) : Nts W' base K' v L us :=
  ⟨h.len, own_same h.row hv, fun j u n hu hn => ⟨(h.way j u n hu hn).1.same fun k c hk hc => hK k c ((h.way j u n hu hn).2 k hk) hc, fun k hk => hKK k ((h.way j u n hu hn).2 k hk)⟩⟩

set_option maxRecDepth 100000 in
set_option maxHeartbeats 2000000 in
theorem cloneI_any2 (v : Value) (way : List Int) (base : Nat) (W : World) (hw : Wy W base v way) (hn : way.length ≤ 1048576) :
    Calls Tryz.prog 27 #[v] W fun e W' => ∃ a cap, e = .returned (.slice a way.length cap) ∧ Wy W' W.heap.size (.slice a way.length cap) way ∧ Below W.heap.size W W' := by
  rcases hw.2 with ⟨rfl, e⟩ | ⟨g, cap, cur, rfl, h1, h2, h3, h4, h5, h6⟩
  · have : way = [] := List.eq_nil_of_length_eq_zero e
    subst this
    have he : ∀ w : World, (binOp .eql 39 (.slice none 0 0) (.slice none 0 0)).run Tryz.prog w = .ok (.bool true) w := fun _ => rfl
    clear hw hn
    go_enter Tryz.func27, Tryz.ntmps27
    go_wp2
    go_ret
    exact ⟨none, 0, rfl, World.ownsRow_nil _ _ _ _, Below.refl _ _⟩
  · obtain ⟨i0, hi, hz0, hz1, hz2⟩ := info_parts infoW
    obtain ⟨A, hA⟩ : ∃ A, W.alloc (.cells #[] 3) = A := ⟨_, rfl⟩
    have hB : Below W.heap.size W A := by rw [← hA]; exact (Below.refl _ W).alloc (Nat.le_refl _) _
    have ho : A.ownsRow W.heap.size 3 1 (.slice (some ⟨W.heap.size, 0, none⟩) 0 0) 0 [] := by
      rw [← hA]
      exact World.ownsRow_lit W #[] 0 (Nat.le_refl _) (by decide) rfl
    have hsz : A.heap.size = W.heap.size + 1 := by rw [← hA]; simp
    have hwA : Wy A base (.slice (some ⟨g, 0, none⟩) way.length cap) way := hw.same fun k c _ hc => (hB.block k (heap_lt hc)).trans hc
    obtain ⟨v', W', hrun, hown, hgr, -⟩ := run_append_own (P := Tryz.prog) (w := A) W.heap.size 39 39 3 i0 (.int .i64 0) 1 8 Tryz.underlying39 hi hz0 hz1 hz2 rfl (by decide) _ _ _ ho ⟨g, 0, none⟩ way.length cap (waysI way) (by simp [waysI])
      (hwA.cells rfl) (fun u hu => by simp only [waysI, List.mem_map] at hu; obtain ⟨z, -, rfl⟩ := hu; rfl) (by unfold maxLen; omega) (by omega) (by omega)
    have hB' : Below W.heap.size W W' := hB.trans ⟨hgr.os, hgr.tape, hgr.output, by have := hgr.size; omega, fun k hk => hgr.block k (by omega) (by simp [Value.ownBlock]; omega)⟩
    have hown' : Wy W' W.heap.size v' way := by simpa [Wy] using hown
    obtain ⟨a', cap', rfl, -⟩ := hown'.shape
    have he : ∀ w : World, (binOp .eql 39 (.slice (some ⟨g, 0, none⟩) way.length cap) (.slice none 0 0)).run Tryz.prog w = .ok (.bool false) w := fun _ => rfl
    subst hA
    have HR1 : Hid (_ = _) := hrun
    clear hw hn h2 h5 h6 h1 ho hwA hgr hsz hown hrun hi hz0 hz1 hz2
    go_enter Tryz.func27, Tryz.ntmps27
    go_wp2_with (first | (at_builtin; refine wpList_app22 rfl (.tmp 5) (.tmp 6) 39 rfl _ _ _ rfl rfl HR1.out ?_))
    go_ret
    exact ⟨_, _, rfl, hown', hB'⟩
/-- What the closure that notes may have changed: its list's box and row. -/
structure Nb (lb : Nat) (v : Value) (W W' : World) : Prop where
  os : W'.os = W.os
  tape : W'.tape = W.tape
  output : W'.output = W.output
  size : W.heap.size ≤ W'.heap.size
  block : ∀ k, k < W.heap.size → k ≠ lb → v.ownBlock ≠ some k → W'.heap[k]? = W.heap[k]?
theorem Nb.refl (lb : Nat) (v : Value) (W : World) : Nb lb v W W := ⟨rfl, rfl, rfl, Nat.le_refl _, fun _ _ _ _ => rfl⟩
/-- One note more. -/
theorem nts_push {W : World} {base : Nat} {K : Nat → Prop} {v : Value} {L : List Nt} {us : List Value} (h : Nts W base K v L us) (hb : base ≤ W.heap.size) (hL : L.length ≤ 1048576) {u : Value} {n : Nt} (hu : Wy W base u n.1) {g : Nat} {t : TypeId}
    (hg : W.heap[g]? = some (.cells #[u, .int .i64 n.2] t (0, 0))) :
    ∃ a' cap' W', (Builtin.append_ #[31, 31] 31 #[v, .slice (some ⟨g, 0, none⟩) 1 1]).run Tryz.prog W = .ok (.slice a' (L.length + 1) cap') W' ∧
      Nts W' base (fun k => K k ∨ u.ownBlock = some k) (.slice a' (L.length + 1) cap') (L ++ [n]) (us ++ [u]) ∧ W.grownBy W' v.ownBlock ∧ ((Value.slice a' (L.length + 1) cap').ownBlock = v.ownBlock ∨ (Value.slice a' (L.length + 1) cap').ownBlock = some W.heap.size) := by
  obtain ⟨i0, hi, hz0, hz1, hz2⟩ := info_parts infoNt
  obtain ⟨v', W', hrun, hown', hgrow, -, hblk⟩ := run_append_own_at (P := Tryz.prog) (w := W) base 31 31 56 i0 (.agg #[.slice none 0 0, .int .i64 0]) 2 32 Tryz.underlying31 hi hz0 hz1 hz2 rfl (by decide) v _ _ h.row ⟨g, 0, none⟩ 1 1 [u, .int .i64 n.2] rfl
    (fun j y hy => by
      match j, hy with
      | 0, hy => simp at hy; subst hy; simp [Addr.add, World.cell?, hg]
      | 1, hy => simp at hy; subst hy; simp [Addr.add, World.cell?, hg])
    (by
      obtain ⟨a, cap, e, -⟩ := hu.shape
      rw [e]
      simp [Value.oneCell']) (by unfold maxLen; omega) (by omega) hb
  have hrow : W'.ownsRow base 56 2 v' (L ++ [n]).length (ntCells (us ++ [u]) (L ++ [n])) := by rw [ntCells_snoc u n h.len, List.length_append]; exact hown'
  have hnt : ∀ (k : Nat) (c : Array Value), W.heap[k]? = some (.cells c 3 (0, 0)) → W'.heap[k]? = some (.cells c 3 (0, 0)) := fun k c hc => by
    refine (hgrow.block k (heap_lt hc) (fun e => ?_)).trans hc
    rcases h.row.2 with ⟨rfl, -⟩ | ⟨g', cap, cur, rfl, -, h2, -⟩
    · cases e
    · cases e
      rw [hc] at h2
      simp at h2
  obtain ⟨a', cap', rfl⟩ : ∃ a' cap', v' = .slice a' (L.length + 1) cap' := by
    rcases hown'.2 with ⟨rfl, e0⟩ | ⟨g', cap, cur, rfl, -⟩
    · exact absurd e0 (Nat.succ_ne_zero _)
    · exact ⟨_, _, rfl⟩
  refine ⟨a', cap', W', hrun, ⟨by simp [h.len], hrow, fun j u' n' hj hn => ?_⟩, hgrow, hblk⟩
  by_cases e : j < us.length
  · rw [List.getElem?_append_left e] at hj
    rw [List.getElem?_append_left (by rw [← h.len]; exact e)] at hn
    exact ⟨(h.way j u' n' hj hn).1.same fun k c _ hc => hnt k c hc, fun k hk => .inl ((h.way j u' n' hj hn).2 k hk)⟩
  · have hj' : j = us.length := by
      have := (List.getElem?_eq_some_iff.1 hj).1
      simp at this
      omega
    subst hj'
    rw [List.getElem?_append_right (Nat.le_refl _)] at hj
    rw [List.getElem?_append_right (by rw [h.len]; exact Nat.le_refl _)] at hn
    simp at hj
    simp [h.len] at hn
    subst hj hn
    exact ⟨hu.same fun k c _ hc => hnt k c hc, fun k hk => .inr hk⟩
set_option maxRecDepth 100000 in
set_option maxHeartbeats 2000000 in
theorem note_no (way : Value) (z : Int) (lb : Nat) (W : World) :
    Calls Tryz.prog 26 #[way, .int .i64 z, .bool false, .pointer (some ⟨lb, 0, none⟩)] W fun e W' => e = .returned (.tuple #[]) ∧ W' = W := by
  go_enter Tryz.func26, Tryz.ntmps26
  go_wp2
  go_end0
  exact ⟨rfl, rfl⟩
set_option maxRecDepth 100000 in
set_option maxHeartbeats 8000000 in
theorem note_in (n : Nat) (va : Option Addr) (cap : Nat) (way : List Int) (wb : Nat) (z : Int) (lb base : Nat) (K : Nat → Prop) (v0 : Value) (L : List Nt) (us : List Value) (W : World) (hw : Wy W wb (.slice va way.length cap) way) (hl : Boxed W lb 31 v0)
    (hN : Nts W base K v0 L us) (hb : base ≤ W.heap.size) (hL : L.length ≤ 1048576) (hwl : way.length ≤ 1048576) :
    CallsIn Fence.wide n Tryz.prog 26 #[.slice va way.length cap, .int .i64 z, .bool true, .pointer (some ⟨lb, 0, none⟩)] W fun e W' => e = .returned (.tuple #[]) ∧
      ∃ (v1 : Value) (K' : Nat → Prop) (us' : List Value), Boxed W' lb 31 v1 ∧ Nts W' base K' v1 (L ++ [(way, z)]) us' ∧ (∀ k, K' k → K k ∨ W.heap.size ≤ k) ∧ Nb lb v0 W W' := by
  have hdd : ∀ k : Nat, (Fence.wide.depth.isSome = true → 1 ≤ k) := fun k h => by cases h
  obtain ⟨m0, c0, a0, rfl⟩ : ∃ m0 c0 a0, v0 = .slice a0 m0 c0 := by
    rcases hN.row.2 with ⟨rfl, -⟩ | ⟨g, cap, cur, rfl, -⟩
    · exact ⟨_, _, _, rfl⟩
    · exact ⟨_, _, _, rfl⟩
  obtain ⟨D, hD⟩ : ∃ D, D = W.drew := ⟨_, rfl⟩
  have hBD : Below W.heap.size W D := by rw [hD]; exact (Below.refl _ W).drew
  have hwD : Wy D wb (.slice va way.length cap) way := by rw [hD]; exact hw
  have hc := callsIn_wide (n := n - 1) |>.2 (cloneI_any2 _ way wb D hwD hwl)
  have hlD : Boxed D lb 31 (.slice a0 m0 c0) := by rw [hD]; exact hl
  have key : ∀ (X : World) (a' : Option Addr) (cap' : Nat), Wy X D.heap.size (.slice a' way.length cap') way → Below D.heap.size D X → Boxed X lb 31 (.slice a0 m0 c0) ∧ Boxed (X.alloc (.cells #[.slice a' way.length cap', .int .i64 z] 56)) lb 31 (.slice a0 m0 c0) ∧ ∃ (G : World) (q : Option Addr × Nat) (Hq : Boxed G lb 31 (.slice a0 m0 c0)),
      Hid ((Builtin.append_ #[31, 31] 31 #[.slice a0 m0 c0, .slice (some ⟨X.heap.size, 0, none⟩) 1 1]).run Tryz.prog (X.alloc (.cells #[.slice a' way.length cap', .int .i64 z] 56)) = .ok (.slice q.1 (L.length + 1) q.2) G) ∧
      Hid ((Ending.returned (Value.tuple #[])) = .returned (.tuple #[]) ∧ ∃ (v1 : Value) (K' : Nat → Prop) (us' : List Value), Boxed (G.setCell ⟨lb, 0, none⟩ (.slice q.1 (L.length + 1) q.2)) lb 31 v1 ∧ Nts (G.setCell ⟨lb, 0, none⟩ (.slice q.1 (L.length + 1) q.2)) base K' v1 (L ++ [(way, z)]) us' ∧ (∀ k, K' k → K k ∨ W.heap.size ≤ k) ∧ Nb lb (.slice a0 m0 c0) W (G.setCell ⟨lb, 0, none⟩ (.slice q.1 (L.length + 1) q.2))) := by
    intro X a' cap' hu hBX
    have sD : D.heap.size = W.heap.size := by rw [hD]; rfl
    have hBWX : Below W.heap.size W X := hBD.trans (hBX.mono (by omega))
    have lX : Boxed X lb 31 (.slice a0 m0 c0) := (hBX.block lb hlD.lt).trans hlD
    obtain ⟨Y, hY⟩ : ∃ Y, X.alloc (.cells #[.slice a' way.length cap', .int .i64 z] 56) = Y := ⟨_, rfl⟩
    have hBY : Below X.heap.size X Y := by rw [← hY]; exact (Below.refl _ X).alloc (Nat.le_refl _) _
    have sY : Y.heap.size = X.heap.size + 1 := by rw [← hY]; simp
    have cY : Y.heap[X.heap.size]? = some (.cells #[.slice a' way.length cap', .int .i64 z] 56 (0, 0)) := by rw [← hY]; exact alloc_new _ _
    have lY : Boxed Y lb 31 (.slice a0 m0 c0) := (hBY.block lb lX.lt).trans lX
    have hBWY : Below W.heap.size W Y := hBWX.trans (hBY.mono hBWX.size)
    have uY : Wy Y base (.slice a' way.length cap') way := by
      have h1 : Wy Y D.heap.size (.slice a' way.length cap') way := hu.same fun k c _ hc => (hBY.block k (heap_lt hc)).trans hc
      refine ⟨h1.1, ?_⟩
      rcases h1.2 with h2 | ⟨g, cc, cur, e, q1, q2⟩
      · exact .inl h2
      · exact .inr ⟨g, cc, cur, e, by omega, q2⟩
    have nY : Nts Y base K (.slice a0 m0 c0) L us := hN.same (fun k c _ hc => (hBWY.block k (heap_lt hc)).trans hc) (fun k c _ hc => (hBWY.block k (heap_lt hc)).trans hc) (fun _ h => h)
    obtain ⟨q1, q2, G, hrun, nG, gG, bG⟩ := nts_push nY (by have := hBWY.size; omega) hL (n := (way, z)) uY cY
    have hsz := hBWX.size
    have lne : ∀ (k : Nat) (c : Array Value), (Value.slice a0 m0 c0).ownBlock = some k → Y.heap[k]? = some (.cells c 31 (0, 0)) → False := fun k c hk hc => by
      rcases nY.row.2 with ⟨e, -⟩ | ⟨g, cap, cur, e, -, h2, -⟩
      · rw [e] at hk; cases hk
      · rw [e] at hk; cases hk; rw [hc] at h2; simp at h2
    have lG : Boxed G lb 31 (.slice a0 m0 c0) := (gG.block lb lY.lt (fun e => lne lb _ e.symm lY)).trans lY
    have hne : ∀ (k : Nat) (c : Array Value) (t : TypeId), G.heap[k]? = some (.cells c t (0, 0)) → t ≠ 31 → (G.setCell ⟨lb, 0, none⟩ (.slice q1 (L.length + 1) q2)).heap[k]? = some (.cells c t (0, 0)) := fun k c t hc ht => by
      refine (Below.heap_setCell G ⟨lb, 0, none⟩ _ k (fun e => ?_)).trans hc
      have e' : k = lb := e
      subst e'
      have h2 : G.heap[k]? = some (.cells #[.slice a0 m0 c0] 31 (0, 0)) := lG
      rw [hc] at h2
      simp only [Option.some.injEq, Obj.cells.injEq] at h2
      exact ht h2.2.1
    rw [hY]
    refine ⟨lX, lY, G, (q1, q2), lG, hrun, rfl, _, _, _, lG.set _, nG.same (fun k c _ hc => hne k c _ hc (by decide)) (fun k c _ hc => hne k c _ hc (by decide)) (fun _ h => h), ?_, ?_⟩
    · rintro k (h | h)
      · exact .inl h
      · have := (hu.lt k h).1
        right; omega
    · refine ⟨gG.os.trans hBWY.os, gG.tape.trans hBWY.tape, gG.output.trans hBWY.output, ?_, fun k hk hkl hkv => ?_⟩
      · rw [World.size_setCell]
        have := gG.size
        have := hBWY.size
        omega
      · refine (Below.heap_setCell G ⟨lb, 0, none⟩ _ k (fun e => hkl e)).trans ((gG.block k (by have := hBWY.size; omega) (fun e => hkv e.symm)).trans (hBWY.block k hk))
  clear hw hl hN hb hL hwl hwD hBD
  have cl := hlD.cell
  refine callsIn_of_wp Tryz.func26 rfl trivial ?_ rfl
  simp only [Tryz.ntmps26, List.size_toArray, List.length_cons, List.length_nil, Nat.reduceAdd, Nat.reduceSub, Array.replicate_succ, Array.replicate_zero, List.push_toArray, List.append_toArray, List.nil_append, List.cons_append]
  gi_wp2
  refine bgi (fun _ => True) trivial (fun hHeld => ?_)
  rw [← hD]
  clear hD
  refine tki 1 ?_
  refine tki 3 ?_
  refine rdi2 0 2 (fun K1 hK1 => ?_) (fun K1 hK1 => ?_)
  · go_simp
    refine hK1.out _ _ trivial (fun hHeld => ?_)
    clear hK1 K1
    refine rdi 2 (fun K1 hK1 => ?_)
    go_simp
    refine ⟨trivial, hdd _, ?_⟩
    refine hc.mono ?_
    clear hc
    rintro e X ⟨a', cap', rfl, hu, hBX⟩
    go_simp
    refine hK1.out _ _ trivial (fun hHeld => ?_)
    clear hK1 K1
    obtain ⟨hbX, hbz, G, cG, H, HR, HF⟩ := key X a' cap' hu hBX
    refine tki 4 ?_
    refine rdi 5 (fun K1 hK1 => ?_)
    go_simp
    refine hK1.out _ _ trivial (fun hHeld => ?_)
    clear hK1 K1
    refine rdi 6 (fun K1 hK1 => ?_)
    rw [if_pos (by rfl)]
    refine wpInOp_append (.tmp 8) (.tmp 13) 31 rfl _ _ _ rfl rfl HR.out ?_
    refine hK1.out _ _ trivial (fun hHeld => ?_)
    clear hK1 K1
    (try simp only [Act.put, si_put, si_0, si_1])
    have clG := H.cell
    have flG := H.frozen
    refine rdi 7 (fun K1 hK1 => ?_)
    go_simp
    refine hK1.out _ _ trivial (fun hHeld => ?_)
    clear hK1 K1
    refine dni ?_
    gi_wp2
    go_end0
    exact ⟨rfl, HF.out.2⟩
  · go_simp
    refine ⟨trivial, hdd _, ?_⟩
    refine hc.mono ?_
    clear hc
    rintro e X ⟨a', cap', rfl, hu, hBX⟩
    go_simp
    refine hK1.out _ _ trivial (fun hHeld => ?_)
    clear hK1 K1
    obtain ⟨hbX, hbz, G, cG, H, HR, HF⟩ := key X a' cap' hu hBX
    refine tki 4 ?_
    have clX := hbX.cell
    have clY := hbz.cell
    refine rdi2 0 5 (fun K1 hK1 => ?_) (fun K1 hK1 => ?_)
    · go_simp
      refine hK1.out _ _ trivial (fun hHeld => ?_)
      clear hK1 K1
      refine rdi 5 (fun K1 hK1 => ?_)
      go_simp
      refine hK1.out _ _ trivial (fun hHeld => ?_)
      clear hK1 K1
      refine rdi 6 (fun K1 hK1 => ?_)
      rw [if_pos (by rfl)]
      refine wpInOp_append (.tmp 8) (.tmp 13) 31 rfl _ _ _ rfl rfl HR.out ?_
      refine hK1.out _ _ trivial (fun hHeld => ?_)
      clear hK1 K1
      (try simp only [Act.put, si_put, si_0, si_1])
      have clG := H.cell
      have flG := H.frozen
      refine rdi 7 (fun K1 hK1 => ?_)
      go_simp
      refine hK1.out _ _ trivial (fun hHeld => ?_)
      clear hK1 K1
      refine dni ?_
      gi_wp2
      go_end0
      exact ⟨rfl, HF.out.2⟩
    · go_simp
      refine hK1.out _ _ trivial (fun hHeld => ?_)
      clear hK1 K1
      refine rdi 0 (fun K1 hK1 => ?_)
      go_simp
      refine hK1.out _ _ trivial (fun hHeld => ?_)
      clear hK1 K1
      refine rdi 6 (fun K1 hK1 => ?_)
      rw [if_pos (by rfl)]
      refine wpInOp_append (.tmp 8) (.tmp 13) 31 rfl _ _ _ rfl rfl HR.out ?_
      refine hK1.out _ _ trivial (fun hHeld => ?_)
      clear hK1 K1
      (try simp only [Act.put, si_put, si_0, si_1])
      have clG := H.cell
      have flG := H.frozen
      refine rdi 7 (fun K1 hK1 => ?_)
      go_simp
      refine hK1.out _ _ trivial (fun hHeld => ?_)
      clear hK1 K1
      refine dni ?_
      gi_wp2
      go_end0
      exact ⟨rfl, HF.out.2⟩
/-- What a call of the closure that notes leaves. -/
def NoteAns (lb base : Nat) (K : Nat → Prop) (v0 : Value) (W : World) (L : List Nt) (e : Ending) (W' : World) : Prop :=
  e = .returned (.tuple #[]) ∧ ∃ (v1 : Value) (K' : Nat → Prop) (us' : List Value), Boxed W' lb 31 v1 ∧ Nts W' base K' v1 L us' ∧ (∀ k, K' k → K k ∨ W.heap.size ≤ k) ∧ Nb lb v0 W W'
theorem note_any (va : Option Addr) (m cap : Nat) (way : List Int) (wb : Nat) (z : Int) (b : Bool) (lb base : Nat) (K : Nat → Prop) (v0 : Value) (L : List Nt) (us : List Value) (W : World) (hw : Wy W wb (.slice va m cap) way) (hm : m = way.length) (hl : Boxed W lb 31 v0)
    (hN : Nts W base K v0 L us) (hb : base ≤ W.heap.size) (hL : L.length ≤ 1048576) (hwl : way.length ≤ 1048576) :
    Calls Tryz.prog 26 #[.slice va m cap, .int .i64 z, .bool b, .pointer (some ⟨lb, 0, none⟩)] W (NoteAns lb base K v0 W (L ++ if b = true then [(way, z)] else [])) := by
  subst hm
  cases b with
  | false =>
    refine (note_no _ z lb W).mono ?_
    rintro e W' ⟨rfl, rfl⟩
    exact ⟨rfl, v0, K, us, hl, by simpa using hN, fun k h => .inl h, Nb.refl _ _ _⟩
  | true => exact (callsIn_wide (n := 3)).1 (note_in 3 va cap way wb z lb base K v0 L us W hw hl hN hb hL hwl)
end Go.Proofs.YtfnfegcjgnbgbaaGreatDoor
namespace Go.Proofs.YtfnfegcjgnbgbaaGreatDoor
open Go.RowKit

/-- The PNot at the end; the zero pattern, if there is none. -/
def tlP (x : Pt) : Pt := if x.k = 2 ∧ 0 < x.n ∧ (x.c (x.n - 1)).k = 6 then x.c (x.n - 1) else .nil
theorem tail_one (x : Pt) (w : World) (hX : IsP w x) (hsm : x.size ≤ 1048576) : Calls Tryz.prog 28 #[x.val] w fun e w' => ∃ (y : Pt) (b : Bool), e = .returned (.tuple #[y.val, .bool b]) ∧ IsP w' y ∧ Sm y (tlP x) ∧ Below w.heap.size w w' := by
  by_cases h : x.k = 2 ∧ 0 < x.n ∧ (x.c (x.n - 1)).k = 6
  · have ht : HasTail x (x.n - 1) := ⟨h.1, by omega, h.2.2⟩
    refine (tail_yes x _ w hX hsm ht).mono ?_
    rintro e w' ⟨y, rfl, h1, h2, -, h3⟩
    exact ⟨y, true, rfl, h1.is, by rw [tlP, if_pos h]; exact h2, h3⟩
  · have ht : ∀ q, ¬ HasTail x q := fun q hq => h ⟨hq.1, by have := hq.2.1; omega, by rw [show x.n - 1 = q by have := hq.2.1; omega]; exact hq.2.2⟩
    refine (tail_no x w hX ht).mono ?_
    rintro e w' ⟨rfl, h3⟩
    exact ⟨.nil, false, rfl, trivial, by rw [tlP, if_neg h]; exact Sm.refl _, h3⟩
/-- What a node has of itself. -/
def ownZ (x t : Pt) : Int := if x.k = 2 then 1 else if x.k = 3 then 2 else if x.k = 4 then 3 else if x.k = 5 then (if x.lo = x.hi then 5 else 4) else if x.k = 6 then (if sameP x t = true then 7 else 6) else 0
theorem ownZ_sm {x t t' : Pt} (h : Sm t t') : ownZ x t = ownZ x t' := by unfold ownZ; rw [sameP_congr (Sm.refl x) h]
theorem boxP_two2 (x y : Pt) (w : World) : ∃ A, (w.alloc (.cells x.cells 24)).alloc (.cells y.cells 24) = A ∧ Below w.heap.size w A ∧ A.heap.size = w.heap.size + 2 ∧ NodeP A w.heap.size 0 x ∧ NodeP A (w.heap.size + 1) 0 y := by
  refine ⟨_, rfl, ((Below.refl _ w).alloc (Nat.le_refl _) _).alloc (by simp) _, by simp, (nodeP_new w 24 x).later ((Below.refl _ _).alloc (Nat.le_refl _) _), ?_⟩
  have := nodeP_new (w.alloc (.cells x.cells 24)) 24 y
  rwa [World.size_alloc] at this
set_option maxRecDepth 100000 in
set_option maxHeartbeats 4000000 in
theorem own_any (x t : Pt) (w : World) (hX : IsP w x) (hT : IsP w t) : Calls Tryz.prog 30 #[x.val, t.val] w fun e w' => e = .returned (.int .i64 (ownZ x t)) ∧ Below w.heap.size w w' := by
  obtain ⟨A, hA, hB, hs, hx, ht⟩ := boxP_two2 x t w
  obtain ⟨a0, a1, a2, a3, a4, a5⟩ := hx.at0
  obtain ⟨b0, b1, b2, b3, b4, b5⟩ := ht.at0
  have hc := samePat_any x t A (hX.later hB) (hT.later hB)
  have HB : Hid (Below w.heap.size w A) := hB
  have HS : Hid (A.heap.size = w.heap.size + 2) := hs
  clear hX hT hB hs hx ht
  unfold ownZ
  by_cases k2 : x.k = 2
  · have t2 : (x.k == 2) = true := by simp [k2]
    rw [if_pos k2]
    clear k2 hc
    go_enter Tryz.func30, Tryz.ntmps30
    go_wp2
    go_ret
    exact ⟨rfl, HB.out⟩
  have t2 : (x.k == 2) = false := by simp [k2]
  rw [if_neg k2]
  by_cases k3 : x.k = 3
  · have t3 : (x.k == 3) = true := by simp [k3]
    rw [if_pos k3]
    clear k2 k3 hc
    go_enter Tryz.func30, Tryz.ntmps30
    go_wp2
    go_ret
    exact ⟨rfl, HB.out⟩
  have t3 : (x.k == 3) = false := by simp [k3]
  rw [if_neg k3]
  by_cases k4 : x.k = 4
  · have t4 : (x.k == 4) = true := by simp [k4]
    rw [if_pos k4]
    clear k2 k3 k4 hc
    go_enter Tryz.func30, Tryz.ntmps30
    go_wp2
    go_ret
    exact ⟨rfl, HB.out⟩
  have t4 : (x.k == 4) = false := by simp [k4]
  rw [if_neg k4]
  by_cases k5 : x.k = 5
  · have t5 : (x.k == 5) = true := by simp [k5]
    rw [if_pos k5]
    clear k2 k3 k4 k5 hc
    by_cases hl : x.lo = x.hi
    · rw [if_pos hl]
      have tl : (x.lo == x.hi) = true := by simp [hl]
      clear hl
      go_enter Tryz.func30, Tryz.ntmps30
      go_wp2
      go_ret
      exact ⟨rfl, HB.out⟩
    · rw [if_neg hl]
      have tl : (x.lo == x.hi) = false := by simp [hl]
      clear hl
      go_enter Tryz.func30, Tryz.ntmps30
      go_wp2
      go_ret
      exact ⟨rfl, HB.out⟩
  have t5 : (x.k == 5) = false := by simp [k5]
  rw [if_neg k5]
  by_cases k6 : x.k = 6
  · have t6 : (x.k == 6) = true := by simp [k6]
    rw [if_pos k6]
    clear k2 k3 k4 k5 k6
    obtain ⟨b, hb⟩ : ∃ b, sameP x t = b := ⟨_, rfl⟩
    rw [hb] at hc ⊢
    clear hb
    cases b with
    | true =>
      rw [if_pos rfl]
      go_enter Tryz.func30, Tryz.ntmps30
      go_wp2_with (go_at_call 58; refine hc.mono ?_; clear hc; rintro e w1 ⟨rfl, hB1⟩)
      go_ret
      exact ⟨rfl, HB.out.trans (hB1.mono (by rw [HS.out]; omega))⟩
    | false =>
      rw [if_neg (by simp)]
      go_enter Tryz.func30, Tryz.ntmps30
      go_wp2_with (go_at_call 58; refine hc.mono ?_; clear hc; rintro e w1 ⟨rfl, hB1⟩)
      go_ret
      exact ⟨rfl, HB.out.trans (hB1.mono (by rw [HS.out]; omega))⟩
  have t6 : (x.k == 6) = false := by simp [k6]
  rw [if_neg k6]
  clear k2 k3 k4 k5 k6 hc
  go_enter Tryz.func30, Tryz.ntmps30
  go_wp2
  go_ret
  exact ⟨rfl, HB.out⟩
/-- What a node notes. -/
def ntsOf (t : Pt) (v : VN) : List Nt := (if thingB (ownZ v.2.2 t) = true then [(v.1, ownZ v.2.2 t)] else []) ++ (if (v.2.1 == 3 && v.2.2.k != 1) = true then [(v.1, 14)] else [])
theorem ntsOf_len (t : Pt) (v : VN) : (ntsOf t v).length ≤ 2 := by
  unfold ntsOf
  rw [List.length_append]
  split <;> split <;> simp
theorem ntsAll_len (t : Pt) : ∀ l : List VN, (l.flatMap (ntsOf t)).length ≤ 2 * l.length
  | [] => by simp
  | v :: l => by
    have h1 := ntsOf_len t v
    have h2 := ntsAll_len t l
    simp only [List.flatMap_cons, List.length_append, List.length_cons]
    omega
theorem visW_way : ∀ (x : Pt) (way : List Int) (ink : Int), ∀ v ∈ visW way ink x, v.1.length + v.2.2.deep ≤ way.length + x.deep := by
  refine Pt.ind fun x ih way ink v hv => ?_
  rw [visW_eq] at hv
  rcases List.mem_cons.1 hv with rfl | hv
  · exact Nat.le_refl _
  · obtain ⟨i, hi, hv⟩ := mem_catN.1 hv
    have h1 := ih i hi _ _ v hv
    have h2 := x.deep_part i hi
    simp at h1
    omega
end Go.Proofs.YtfnfegcjgnbgbaaGreatDoor
