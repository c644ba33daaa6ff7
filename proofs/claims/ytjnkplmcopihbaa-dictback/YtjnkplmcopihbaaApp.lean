/-
  'append' of a slice of bytes onto a row that the call owns; an append in a walk by its run; a slice of bytes in a later world; what is got of what was put.
-/
import Derived.Test.YtjnkplmcopihbaaConv
namespace Go.Proofs.Ytjnkplmcopihbaa
open Go.RowKit

/-- 'append' of a slice of bytes (nil too) onto a row that the call owns. -/
theorem append_in {w : World} {base L m c : Nat} {v : Value} {l ys : List Int} {a : Option Addr} (hown : w.ownsRow base 5 1 v L (cellsOf l)) (h : IsBytes w a m c ys) (hb : base ≤ w.heap.size) (hbd : L + m ≤ 140737488355328) :
    ∃ v' w', (Builtin.append_ #[53, 53] 53 #[v, .slice a m c]).run Try.prog w = .ok v' w' ∧ w'.ownsRow base 5 1 v' (L + m) (cellsOf (l ++ ys)) ∧ w.grownBy w' v.ownBlock := by
  obtain ⟨i0, hi, hz0, hz1, hz2⟩ := info_parts info5
  obtain ⟨hl, hmc, hmax, hnil, _, hc⟩ := h
  cases a with
  | none =>
    obtain rfl := hnil rfl
    obtain rfl : m = 0 := by omega
    have : ys = [] := List.eq_nil_of_length_eq_zero hl
    subst this
    refine ⟨v, w, run_append_owned_none (P := Try.prog) w base 53 53 5 i0 1 Try.underlying53 hi v L (cellsOf l) hown, by simpa using hown, World.grownBy.refl _ _⟩
  | some x =>
    have hcell : ∀ j u, (cellsOf ys)[j]? = some u → w.cell? (x.add j) = some u := by
      intro j u hj
      have hjm : j < m := by
        have := (List.getElem?_eq_some_iff.1 hj).1
        rw [cellsOf_length] at this
        omega
      obtain ⟨b, off, e, hcc⟩ := hc (by omega)
      cases e
      rw [addr_add, hcc j hjm]
      have hj' : j < ys.length := by omega
      simp [cellsOf, hj'] at hj
      simp [hj', hj]
    obtain ⟨v', w', r, o, g, _⟩ := run_append_own (P := Try.prog) w base 53 53 5 i0 (.int .u8 0) 1 1 Try.underlying53 hi hz0 hz1 hz2 rfl (by omega) v L (cellsOf l) hown x m c (cellsOf ys) (by rw [cellsOf_length]; omega) hcell (ints_oneCell .u8 ys) (by unfold maxLen; omega) (by omega) hb
    rw [← cellsOf_append] at o
    exact ⟨v', w', r, o, g⟩
/-- An append in a walk, by its run. -/
theorem wpList_append_run {P : Program} {w w' : World} {ops : Array Oper} {rest : List Oper} {o : Oper} {a : Act} {Q : Exit → Act → World → Prop} (hg : o.guard = none) (s x : Operand) (t : TypeId)
    (hop : o.op = Op.call { callee := Callee.builtin Builtin.append, args := #[s, x], argTypes := #[t, t] }) (v y v' : Value) (hs : a.eval s = v) (hx : a.eval x = y)
    (hrun : (Builtin.append_ #[t, t] o.type #[v, y]).run P w = .ok v' w') (hK : wpList P ops Q rest (a.put o.dst v') w') : wpList P ops Q (o :: rest) a w := by
  refine wpList_plain hg fun K hK' => ?_
  unfold Oper.wp
  simp [execOp, hop, resolve, invoke, builtin, hs, hx, hrun, Result.andThen]
  exact hK' _ _ hK
theorem IsBytes.later {w w' : World} {a : Option Addr} {len cap : Nat} {zs : List Int} (h : IsBytes w a len cap zs) (hb : Below w.heap.size w w') : IsBytes w' a len cap zs := by
  obtain ⟨h1, h2, h3, h4, h5, h6⟩ := h
  refine ⟨h1, h2, h3, h4, h5, fun h0 => ?_⟩
  obtain ⟨b, off, e, hc⟩ := h6 h0
  refine ⟨b, off, e, fun j hj => ?_⟩
  have hcj := hc j hj
  rw [hb.cell (p := ⟨b, off + j, none⟩) (World.block_lt_of_cell? w _ hcj), hcj]
/-- What is got of what was put. -/
theorem getZ_put (zs : List Int) (n : Nat) (r : List Int) (h : n < 18446744073709551616) : getZ (zs ++ (enc 10 n ++ r)) (zs.length : Int) = ((n : Int), ((zs.length + sz 10 n : Nat) : Int), 0) := by
  unfold getZ
  rw [if_neg (by simp; omega), Int.toNat_natCast, List.drop_left, dec_put n r h]
  simp
end Go.Proofs.Ytjnkplmcopihbaa
