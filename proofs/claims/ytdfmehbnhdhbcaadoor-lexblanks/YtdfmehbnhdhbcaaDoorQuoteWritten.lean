/-
  word.written and word.Quote: any text, quoted.
-/
import Derived.Test.YtdfmehbnhdhbcaaDoorQuoteBehind
import Derived.Test.YtdfmehbnhdhbcaaDoorHeld
import Derived.Laws.BitsAllLaws
namespace Go.Proofs.YtdfmehbnhdhbcaaDoor
open Go.RowKit

/-- A literal of bytes. -/
theorem isBytes_lit (w : World) (l : List Int) (hb : ∀ c ∈ l, 0 ≤ c ∧ c ≤ 255) (hl : l.length ≤ 1000) : IsBytes (w.alloc (.cells (cellsOf l).toArray 5)) (some ⟨w.heap.size, 0, none⟩) l.length l.length l := by
  refine ⟨rfl, Nat.le_refl _, by unfold maxLen; omega, (by intro h; cases h), ?_, fun _ => ⟨w.heap.size, 0, rfl, ?_⟩⟩
  · intro j
    by_cases hj : j < l.length
    · simpa [hj] using hb l[j] (List.getElem_mem hj)
    · simp [Nat.not_lt.1 hj]
  · intro j hj
    rw [World.cell?_alloc_mark]
    simp [cellsOf, hj]
/-- .. appended onto what the call owns. -/
theorem append_lit {w : World} {base L : Nat} {v : Value} {l : List Int} (hown : w.ownsRow base 5 1 v L (cellsOf l)) (hb : base ≤ w.heap.size) (m : List Int) (hm : ∀ c ∈ m, 0 ≤ c ∧ c ≤ 255) (hl : m.length ≤ 1000) (hbd : L + m.length ≤ 140737488355328) :
    ∃ v' w', (Builtin.append_ #[33, 33] 33 #[v, .slice (some ⟨w.heap.size, 0, none⟩) m.length m.length]).run Tryd.prog (w.alloc (.cells (cellsOf m).toArray 5)) = .ok v' w' ∧
      w'.ownsRow base 5 1 v' (L + m.length) (cellsOf (l ++ m)) ∧ Below base w w' := by
  obtain ⟨v', w', hr, ho, hg⟩ := append_in (hown.alloc (.cells (cellsOf m).toArray 5)) (isBytes_lit w m hm hl) (by simp; omega) hbd
  exact ⟨v', w', hr, ho, ((Below.refl base w).alloc hb _).grown hg (by simp; omega) (fun k hk => (hown.lt k hk).1)⟩
theorem and15 (c : Int) (h0 : 0 ≤ c) (h1 : c ≤ 255) : bits .and .u8 c 15 = c % 16 := by
  have h : ∀ n : Fin 256, bits .and .u8 (n.val : Int) 15 = (n.val : Int) % 16 := by decide +kernel
  have := h ⟨c.toNat, by omega⟩
  rwa [show ((⟨c.toNat, by omega⟩ : Fin 256).val : Int) = c by show (c.toNat : Int) = c; omega] at this

/-- An append at a step of a region that draws its order, by its run. -/
theorem wpOp_append_run {P : Program} {w w' : World} {o : Oper} {a : Act} {K : Act → World → Prop} {Q : Exit → Act → World → Prop} (s x : Operand) (t : TypeId)
    (hop : o.op = Op.call { callee := Callee.builtin Builtin.append, args := #[s, x], argTypes := #[t, t] }) (v y v' : Value) (hs : a.eval s = v) (hx : a.eval x = y)
    (hrun : (Builtin.append_ #[t, t] o.type #[v, y]).run P w = .ok v' w') (hK : K (a.put o.dst v') w') : Oper.wp P o a w K Q := by
  unfold Oper.wp
  simp [execOp, hop, resolve, invoke, builtin, hs, hx, hrun, Result.andThen]
  exact hK
end Go.Proofs.YtdfmehbnhdhbcaaDoor
