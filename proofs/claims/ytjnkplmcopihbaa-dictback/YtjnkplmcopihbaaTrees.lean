/-
  Trees and what stays of memory: small facts that conditions and patterns share; of no function.
-/
import Derived.Test.YtjnkplmcopihbaaExprRange
import Derived.Shelf.Abstract
import Derived.Shelf.RegionOpen
import Derived.WalkKit
import Derived.OwnWalkIn
import Derived.TacticsInMore
import Derived.LoopNIn
import Derived.LoopIn
namespace Go.Proofs.Ytjnkplmcopihbaa
open Go.RowKit Go.Shelf

theorem alloc_old {w : World} {o : Obj} {r : Nat} (h : r < w.heap.size) : (w.alloc o).heap[r]? = w.heap[r]? := Below.heap_alloc w o r h
theorem alloc_new (w : World) (o : Obj) : (w.alloc o).heap[w.heap.size]? = some o := World.alloc_heap_new w o
theorem alloc2_new (w : World) (A B : Obj) : ((w.alloc A).alloc B).heap[w.heap.size + 1]? = some B := by
  have h := World.alloc_heap_new (w.alloc A) B
  rwa [World.size_alloc] at h
/-- The sum of the first. -/
def sumN (f : Nat → Nat) : Nat → Nat
  | 0 => 0
  | n + 1 => sumN f n + f n
/-- The greatest of the first. -/
def maxN (f : Nat → Nat) : Nat → Nat
  | 0 => 0
  | n + 1 => max (maxN f n) (f n)
theorem sumN_le {f : Nat → Nat} : ∀ {n i : Nat}, i < n → f i ≤ sumN f n
  | 0, _, h => by omega
  | n + 1, i, h => by
    simp only [sumN]
    by_cases e : i = n
    · subst e; omega
    · have := sumN_le (f := f) (show i < n by omega); omega
theorem round_wide {m m' : Nat} {P : Program} {l : Nat} {f : FuncId} {tmps : Array Value} {assign body : Code} {w : World} {R : Ending → World → Prop}
    (h : RoundIn Fence.wide m P l f tmps assign body w R) : RoundIn Fence.wide m' P l f tmps assign body w R := ⟨h.1, fun c cs _ => h.2 c cs (fun d h => by cases h)⟩
theorem yield_wide {m : Nat} (m' : Nat) {P : Program} {l : Nat} {args : Array Value} {W : World} {R : Ending → World → Prop} (h : YieldAt Fence.wide m P l args W R) : YieldAt Fence.wide m' P l args W R := by
  obtain ⟨fn, tmps, assign, body, hy, hR⟩ := h
  exact ⟨fn, tmps, assign, body, hy, round_wide hR⟩

/-- The first of some lists, one behind the other. -/
def catN {α : Type} (f : Nat → List α) : Nat → List α
  | 0 => []
  | n + 1 => catN f n ++ f n
theorem catN_len {α : Type} (f : Nat → List α) : ∀ {n i : Nat}, i < n → (catN f i).length + (f i).length ≤ (catN f n).length
  | 0, _, h => by omega
  | n + 1, i, h => by
    simp only [catN, List.length_append]
    by_cases e : i = n
    · subst e; omega
    · have := catN_len f (show i < n by omega); omega
theorem mem_catN {α : Type} {f : Nat → List α} {y : α} : ∀ {n : Nat}, y ∈ catN f n ↔ ∃ i, i < n ∧ y ∈ f i
  | 0 => by simp [catN]
  | n + 1 => by
    rw [catN, List.mem_append, mem_catN]
    constructor
    · rintro (⟨i, hi, h⟩ | h)
      · exact ⟨i, by omega, h⟩
      · exact ⟨n, by omega, h⟩
    · rintro ⟨i, hi, h⟩
      by_cases e : i = n
      · exact .inr (e ▸ h)
      · exact .inl ⟨i, by omega, h⟩
/-- Blocks of cells that stay as they are. -/
def Kp (T : Nat → Prop) (W W' : World) : Prop := ∀ (k : Nat) (o : Obj), T k → o.isCells = true → W.heap[k]? = some o → W'.heap[k]? = some o
theorem Kp.refl (T : Nat → Prop) (W : World) : Kp T W W := fun _ _ _ _ h => h
theorem Kp.trans {T : Nat → Prop} {A B C : World} (h : Kp T A B) (g : Kp T B C) : Kp T A C := fun k o hk ho e => g k o hk ho (h k o hk ho e)
theorem Kp.cell {T : Nat → Prop} {W W' : World} (h : Kp T W W') {p : Addr} {v : Value} (hp : T p.block) (hc : W.cell? p = some v) : W'.cell? p = some v := by
  obtain ⟨o, ho, hi⟩ := cells_of_cell hc
  rw [World.cell?_of_block (w := W) (w' := W') ((h _ _ hp hi ho).trans ho.symm)]
  exact hc
theorem Kp.ag {B : Nat} {T : Nat → Prop} {W A A' W' : World} (h : Ag B W A) (h' : Ag B A' W') (g : Kp T A A') : Kp T W W' := fun k o hk ho e => (h'.cells k o ho).2 (g k o hk ho ((h.cells k o ho).2 e))
theorem Kp.mono {T T' : Nat → Prop} {W W' : World} (h : Kp T W W') (hT : ∀ k, T' k → T k) : Kp T' W W' := fun k o hk => h k o (hT k hk)
theorem Kp.of_below {n : Nat} {T : Nat → Prop} {W W' : World} (h : Below n W W') (hT : ∀ k, T k → k < n) : Kp T W W' := fun k _ hk _ e => (h.block k (hT k hk)).trans e
theorem Kp.boxed {T : Nat → Prop} {W W' : World} (h : Kp T W W') {b : Nat} {t : TypeId} {v : Value} (hp : T b) (hb : Boxed W b t v) : Boxed W' b t v := h b _ hp rfl hb
theorem Boxed.kept_of {W W' : World} {n B : Nat} {t : TypeId} {v : Value} (h : Boxed W B t v) (hB : Below n W W') (hn : B < n) : Boxed W' B t v := (hB.block B hn).trans h
theorem Kp.set {T : Nat → Prop} {W : World} {b o : Nat} (v : Value) (h : ¬ T b) : Kp T W (W.setCell ⟨b, o, none⟩ v) := fun k _ hk _ e => (Below.heap_setCell W ⟨b, o, none⟩ v k (fun he => h (by have he' : k = b := he; rw [← he']; exact hk))).trans e
/-- One more, as the machine counts. -/
def cnt : Nat → Int
  | 0 => 0
  | n + 1 => wrap64 (cnt n + 1)

/-- The document's Size, as the machine counts. -/
def accZ (f : Nat → Int) : Nat → Int
  | 0 => 1
  | n + 1 => wrap64 (accZ f n + f n)
theorem heap_set {W : World} {b o : Nat} {v : Value} {c : Array Value} {t : TypeId} (h : W.heap[b]? = some (.cells c t (0, 0))) : (W.setCell ⟨b, o, none⟩ v).heap[b]? = some (.cells (c.setIfInBounds o v) t (0, 0)) := by
  simp only [World.setCell, Array.getElem?_modify, if_pos, h]
  rfl
theorem maxN_le {f : Nat → Nat} : ∀ {n i : Nat}, i < n → f i ≤ maxN f n
  | 0, _, h => by omega
  | n + 1, i, h => by
    simp only [maxN]
    by_cases e : i = n
    · subst e; omega
    · have := maxN_le (f := f) (show i < n by omega); omega
theorem own_laterS {w w' : World} {B e size n : Nat} {v : Value} {xs : List Value} (h : w.ownsRow B e size v n xs) (hb : Below w.heap.size w w') : w'.ownsRow B e size v n xs :=
  h.kept (row := none) ⟨hb.os, hb.tape, hb.output, hb.size, fun k hk _ => hb.block k hk⟩ (Classical.em _)
/-- How a body that changes no node may be left. -/
def foldPost (B : Nat) (T : Nat → Prop) (J : World → Prop) (Jx : Code → World → Prop) (W : World) : Exit → Act → World → Prop
  | .normal, _, W' => KeepsFrom B W W' ∧ Kp T W W' ∧ J W'
  | .ret, _, W' => KeepsFrom B W W' ∧ Jx .ret W'
  | .exit id, _, W' => KeepsFrom B W W' ∧ Jx (.exit id) W'
  | .goto t, _, W' => KeepsFrom B W W' ∧ Jx (.goto t) W'
  | .panic _, _, _ => False
  | .outgrown, _, _ => False
/-- How a body that does what it does to a node may be left. -/
def walkPost (B : Nat) (G : World → Prop) (W : World) : Exit → Act → World → Prop
  | .normal, _, W' => KeepsFrom B W W' ∧ Kp (fun k => k = B + 2 ∨ k = B + 3) W W' ∧ G W'
  | _, _, _ => False
/-- What a round is handed. -/
structure Got (ι : Type) where
  d : Int
  b : Nat
  o : Nat
  v : ι

theorem sumN_part {f : Nat → Nat} : ∀ {n i : Nat}, i < n → sumN f i + f i ≤ sumN f n
  | 0, _, h => by omega
  | n + 1, i, h => by
    simp only [sumN]
    by_cases e : i = n
    · subst e; omega
    · have := sumN_part (f := f) (show i < n by omega); omega
theorem wpOp_append_at {P : Program} {w w' : World} {o : Oper} {a : Act} {K : Act → World → Prop} {Q : Exit → Act → World → Prop} (s x : Operand) (t : TypeId)
    (hop : o.op = Op.call { callee := Callee.builtin Builtin.append, args := #[s, x], argTypes := #[t, t] }) (v y v' : Value) (hs : a.eval s = v) (hx : a.eval x = y)
    (hrun : (Builtin.append_ #[t, t] o.type #[v, y]).run P w = .ok v' w') (hK : K (a.put o.dst v') w') : Oper.wp P o a w K Q := by
  unfold Oper.wp
  simp [execOp, hop, resolve, invoke, builtin, hs, hx, hrun, Result.andThen]
  exact hK
end Go.Proofs.Ytjnkplmcopihbaa
