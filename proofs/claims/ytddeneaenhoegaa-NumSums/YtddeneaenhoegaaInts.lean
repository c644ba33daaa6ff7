/-
  Slices of int64: what came in; what a call owns; 'append' onto it.
-/
import Derived.Test.YtddeneaenhoegaaRows
import Derived.WalkKit
import Derived.WalkLawsBesides
import Derived.WalkSpells
import Derived.OpenShut
import Derived.Below
import Derived.Deep.LoopGhost
import Derived.Outline
import Derived.Laws.AppendOwn
import Derived.OwnWalk
namespace Go.Proofs.Ytddeneaenhoegaa
open Go.RowKit

/-- A slice of int64 that came in: its elements are 'zs'. -/
def IsInts (w : World) (a : Option Addr) (len cap : Nat) (zs : List Int) : Prop :=
  zs.length = len ∧ len ≤ cap ∧ cap ≤ maxLen ∧ (a = none → cap = 0) ∧ (∀ c ∈ zs, -9223372036854775808 ≤ c ∧ c < 9223372036854775808) ∧
    (0 < len → ∃ b off, a = some ⟨b, off, none⟩ ∧ ∀ j, j < len → w.cell? ⟨b, off + j, none⟩ = some (.int .i64 (zs[j]?.getD 0)))
theorem addrI (b off j : Nat) : (⟨b, off, none⟩ : Addr).add j = ⟨b, off + j, none⟩ := by
  unfold Addr.add; split <;> simp_all
/-- What the kit's shell tells of a slice of int64, as 'IsInts'. -/
theorem isInts_of {w : World} {a : Option Addr} {len cap : Nat} {zs : List Int} (h : (a = none ∧ len = 0 ∧ cap = 0 ∧ zs = []) ∨ ∃ x, a = some x ∧ len ≤ cap ∧ cap ≤ maxLen ∧ zs.length = cap ∧ (∀ i, i < zs.length → w.cell? (x.add i) = some (.int .i64 (zs.getD i 0))) ∧ ∀ n ∈ zs, (Lit.int .i64 n).wf = true) : ∃ ys, IsInts w a len cap ys := by
  rcases h with ⟨rfl, rfl, rfl, rfl⟩ | ⟨x, rfl, hl, hm, hz, hcell, hwz⟩
  · exact ⟨[], rfl, Nat.le_refl _, Nat.zero_le _, fun _ => rfl, fun j => by simp, fun h => by omega⟩
  · refine ⟨zs.take len, by simp; omega, hl, hm, by simp, ?_, ?_⟩
    · intro c hc
      have := bounds_i64 (hwz c (List.mem_of_mem_take hc))
      omega
    · intro h0
      obtain ⟨b, off, spot⟩ := x
      have hspot : spot = none := by simpa [Addr.add] using World.cell?_spot (hcell 0 (by omega))
      subst hspot
      refine ⟨b, off, rfl, fun j hj => ?_⟩
      have := hcell j (by omega)
      rw [addrI] at this
      simpa [List.getElem?_take, hj, List.getD_eq_getElem?_getD] using this
theorem IsInts.later {w w' : World} {a : Option Addr} {len cap : Nat} {zs : List Int} (h : IsInts w a len cap zs) (hb : Below w.heap.size w w') : IsInts w' a len cap zs := by
  obtain ⟨h1, h2, h3, h4, h5, h6⟩ := h
  refine ⟨h1, h2, h3, h4, h5, fun h0 => ?_⟩
  obtain ⟨b, off, e, hc⟩ := h6 h0
  refine ⟨b, off, e, fun j hj => ?_⟩
  have hcj := hc j hj
  rw [hb.cell (p := ⟨b, off + j, none⟩) (World.block_lt_of_cell? w _ hcj), hcj]
/-- int64s as cells. -/
def cellsI (l : List Int) : List Value := l.map (Value.int .i64)
theorem cellsI_append (a b : List Int) : cellsI (a ++ b) = cellsI a ++ cellsI b := by simp [cellsI]
theorem cellsI_length (a : List Int) : (cellsI a).length = a.length := by simp [cellsI]
theorem infoI : (Try.prog.info? 2).map (fun i => (i.zero, i.size, i.bytes)) = some (some (.int .i64 0), 1, 8) := by kernel_rfl
/-- 'append' of a slice of int64 (nil too) onto a row that the call owns. -/
theorem append_ints {w : World} {base L m c : Nat} {v : Value} {l ys : List Int} {a : Option Addr} (hown : w.ownsRow base 2 1 v L (cellsI l)) (h : IsInts w a m c ys) (hb : base ≤ w.heap.size) (hbd : L + m ≤ 1048576) :
    ∃ v' w', (Builtin.append_ #[22, 22] 22 #[v, .slice a m c]).run Try.prog w = .ok v' w' ∧ w'.ownsRow base 2 1 v' (L + m) (cellsI (l ++ ys)) ∧ w.grownBy w' v.ownBlock := by
  obtain ⟨i0, hi, hz0, hz1, hz2⟩ := info_parts infoI
  obtain ⟨hl, hmc, hmax, hnil, _, hc⟩ := h
  cases a with
  | none =>
    obtain rfl := hnil rfl
    obtain rfl : m = 0 := by omega
    have : ys = [] := List.eq_nil_of_length_eq_zero hl
    subst this
    refine ⟨v, w, run_append_owned_none (P := Try.prog) w base 22 22 2 i0 1 Try.underlying22 hi v L (cellsI l) hown, by simpa using hown, World.grownBy.refl _ _⟩
  | some x =>
    have hcell : ∀ j u, (cellsI ys)[j]? = some u → w.cell? (x.add j) = some u := by
      intro j u hj
      have hjm : j < m := by
        have := (List.getElem?_eq_some_iff.1 hj).1
        rw [cellsI_length] at this
        omega
      obtain ⟨b, off, e, hcc⟩ := hc (by omega)
      cases e
      rw [addrI, hcc j hjm]
      have hj' : j < ys.length := by omega
      simp [cellsI, hj'] at hj
      simp [hj', hj]
    obtain ⟨v', w', r, o, g, _⟩ := run_append_own (P := Try.prog) w base 22 22 2 i0 (.int .i64 0) 1 8 Try.underlying22 hi hz0 hz1 hz2 rfl (by omega) v L (cellsI l) hown x m c (cellsI ys) (by rw [cellsI_length]; omega) hcell (ints_oneCell .i64 ys) (by unfold maxLen; omega) (by omega) hb
    rw [← cellsI_append] at o
    exact ⟨v', w', r, o, g⟩
/-- 'append([]int64{}, l...)'. -/
theorem copiedI {w : World} {a : Option Addr} {len cap : Nat} {zs : List Int} (hz : IsInts w a len cap zs) (hb : len ≤ 1048576) :
    ∃ (v : Value) (w' : World), (Builtin.append_ #[22, 22] 22 #[.slice (some ⟨w.heap.size, 0, none⟩) 0 0, .slice a len cap]).run Try.prog (w.alloc (.cells #[] 2)) = .ok v w' ∧
      w'.ownsRow w.heap.size 2 1 v len (cellsI zs) ∧ Below w.heap.size w w' := by
  have hB0 : Below w.heap.size w (w.alloc (.cells #[] 2)) := (Below.refl _ _).alloc (Nat.le_refl _) _
  have hown0 : (w.alloc (.cells #[] 2)).ownsRow w.heap.size 2 1 (.slice (some ⟨w.heap.size, 0, none⟩) 0 0) 0 (cellsI []) :=
    ⟨rfl, .inr ⟨w.heap.size, 0, #[], rfl, Nat.le_refl _, heap_alloc_new w _, Nat.le_refl _, Nat.zero_le _, rfl, rfl⟩⟩
  obtain ⟨v4, w4, r4, o4, g4⟩ := append_ints hown0 (hz.later hB0) (by simp) (by omega)
  simp only [Nat.zero_add, List.nil_append] at o4
  exact ⟨v4, w4, r4, o4, hB0.grown g4 (by simp) (by intro k hk; simp [Value.ownBlock] at hk; omega)⟩
/-- A row that the call owns, as a slice of int64 that is read. -/
theorem isInts_own {w : World} {base len : Nat} {v : Value} {l : List Int} (h : w.ownsRow base 2 1 v len (cellsI l)) (hb : ∀ c ∈ l, -9223372036854775808 ≤ c ∧ c < 9223372036854775808) : ∃ a cap, v = .slice a len cap ∧ IsInts w a len cap l := by
  obtain ⟨h1, h2⟩ := h
  rw [cellsI_length] at h1
  rcases h2 with ⟨rfl, rfl⟩ | ⟨g, cap, cur, rfl, _, hg, hle, hm, hsz, ht⟩
  · exact ⟨none, 0, rfl, by omega, Nat.le_refl _, Nat.zero_le _, fun _ => rfl, hb, fun h => by omega⟩
  · refine ⟨some ⟨g, 0, none⟩, cap, rfl, by omega, hle, hm, (by intro h; cases h), hb, fun _ => ⟨g, 0, rfl, fun j hj => ?_⟩⟩
    have hj1 : j < l.length := by omega
    have hj2 : cur.toList[j]? = some (.int .i64 l[j]) := by
      have : (cur.toList.take (len * 1))[j]? = some (.int .i64 l[j]) := by rw [ht]; simp [cellsI, hj1]
      rw [List.getElem?_take] at this
      split at this
      · exact this
      · cases this
    simp at hj2
    simp [World.cell?, hg, hj2, hj1]
/-- A part of a slice of int64; of an empty part nobody asks where it lies. -/
theorem isInts_part {w : World} {b off len cap : Nat} {zs : List Int} (h : IsInts w (some ⟨b, off, none⟩) len cap zs) (i j : Nat) (x : Addr) (hij : i ≤ j) (hj : j ≤ len) (hx : i < j → x = ⟨b, off + i, none⟩) :
    IsInts w (some x) (j - i) (cap - i) ((zs.drop i).take (j - i)) := by
  obtain ⟨h1, h2, h3, h4, h5, h6⟩ := h
  refine ⟨by simp; omega, by omega, by omega, (by intro h; cases h), fun c hc => h5 c (List.mem_of_mem_drop (List.mem_of_mem_take hc)), fun h0 => ⟨b, off + i, by rw [hx (by omega)], fun k hk => ?_⟩⟩
  obtain ⟨b', off', e, hc⟩ := h6 (by omega)
  cases e
  have := hc (i + k) (by omega)
  rw [← Nat.add_assoc] at this
  rw [this, List.getElem?_take, List.getElem?_drop, if_pos hk]
/-- An append in a walk, by its run. -/
theorem wpList_append_runI {P : Program} {w w' : World} {ops : Array Oper} {rest : List Oper} {o : Oper} {a : Act} {Q : Exit → Act → World → Prop} (hg : o.guard = none) (s x : Operand) (t : TypeId)
    (hop : o.op = Op.call { callee := Callee.builtin Builtin.append, args := #[s, x], argTypes := #[t, t] }) (v y v' : Value) (hs : a.eval s = v) (hx : a.eval x = y)
    (hrun : (Builtin.append_ #[t, t] o.type #[v, y]).run P w = .ok v' w') (hK : wpList P ops Q rest (a.put o.dst v') w') : wpList P ops Q (o :: rest) a w := by
  refine wpList_plain hg fun K hK' => ?_
  unfold Oper.wp
  simp [execOp, hop, resolve, invoke, builtin, hs, hx, hrun, Result.andThen]
  exact hK' _ _ hK
/-- An append at a step of a region that draws its order, by its run. -/
theorem wpOp_append_run {P : Program} {w w' : World} {o : Oper} {a : Act} {K : Act → World → Prop} {Q : Exit → Act → World → Prop} (s x : Operand) (t : TypeId)
    (hop : o.op = Op.call { callee := Callee.builtin Builtin.append, args := #[s, x], argTypes := #[t, t] }) (v y v' : Value) (hs : a.eval s = v) (hx : a.eval x = y)
    (hrun : (Builtin.append_ #[t, t] o.type #[v, y]).run P w = .ok v' w') (hK : K (a.put o.dst v') w') : Oper.wp P o a w K Q := by
  unfold Oper.wp
  simp [execOp, hop, resolve, invoke, builtin, hs, hx, hrun, Result.andThen]
  exact hK
/-- What is owned stays owned where nothing that was there turns. -/
theorem own_laterI {w w' : World} {B e size n : Nat} {v : Value} {xs : List Value} (h : w.ownsRow B e size v n xs) (hb : Below w.heap.size w w') : w'.ownsRow B e size v n xs :=
  h.kept (row := none) ⟨hb.os, hb.tape, hb.output, hb.size, fun k hk _ => hb.block k hk⟩ (Classical.em _)
end Go.Proofs.Ytddeneaenhoegaa
