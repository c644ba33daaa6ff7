/-
  A map from names to numbers, by what it tells; marks of loops that are done; of no function.
-/
import Derived.Test.YtjnkplmcopihbaaFirstsMap
namespace Go.Proofs.Ytjnkplmcopihbaa
open Go.RowKit Go.Shelf Go.Maps Go.WideMaps

/-- What the map tells of each name. -/
def MapsTo (P : ByteArray → Option Nat) (D : DataW Unit) : Prop :=
  (∀ s, P s = none → Maps.has D (keyS s) = false) ∧ ∀ s j, P s = some j → Maps.has D (keyS s) = true ∧ D.atKey (keyS s) zeroI = .lit (.int .i64 j)
theorem mapsTo_none : MapsTo (fun _ => none) (.map []) := ⟨fun _ _ => rfl, fun _ _ h => by cases h⟩
theorem MapsTo.put {P : ByteArray → Option Nat} {D : DataW Unit} (h : MapsTo P D) (hm : IsMap D) (s : ByteArray) (k : Nat) : MapsTo (fun t => if t = s then some k else P t) (D.put (keyS s) (.lit (.int .i64 k))) := by
  refine ⟨fun t ht => ?_, fun t j ht => ?_⟩
  · by_cases e : t = s
    · simp only [if_pos e] at ht; cases ht
    · simp only [if_neg e] at ht
      rw [has_put_other (keyS_ne e)]
      exact h.1 t ht
  · by_cases e : t = s
    · simp only [if_pos e] at ht
      cases ht
      subst e
      exact ⟨has_put_same hm (by simp [WideAt.IsKeyLit]) _, atKey_put_same hm (by simp [WideAt.IsKeyLit]) _ _⟩
    · simp only [if_neg e] at ht
      rw [has_put_other (keyS_ne e), atKey_put_other (keyS_ne e)]
      exact h.2 t j ht
theorem MapsTo.congr {P Q : ByteArray → Option Nat} {D : DataW Unit} (h : MapsTo P D) (e : ∀ s, Q s = P s) : MapsTo Q D := ⟨fun s hs => h.1 s ((e s).symm.trans hs), fun s j hs => h.2 s j ((e s).symm.trans hs)⟩
set_option maxRecDepth 100000 in
/-- A look-up with both answers. -/
theorem look_to {W : World} {M q : Nat} {D : DataW Unit} {P : ByteArray → Option Nat} {s : ByteArray} (ho : W.ownsMap Try.prog 9 (plainElem (H := Unit) Try.prog 3) M q D) (hF : MapsTo P D) (hs : s.size ≤ maxLen) :
    ∃ c : Int, (Instr.lookup 63 (.map (some M)) (.string s) true).run Try.prog W = .ok (.tuple #[.int .i64 c, .bool (P s).isSome]) W ∧ ∀ j : Nat, P s = some j → c = j := by
  have hkey : keyOf Try.prog 9 (.string s) = some (keyS s) := keyOf_string_mk Try.underlying9 hs
  obtain ⟨v, ps, hrun, hv⟩ := ho.look_ok str_law Try.underlying63 (z := .int .i64 0) rfl (plainElem_int Try.underlying3 (WalkArith.wf_i64 (by omega))) hkey
  obtain ⟨c, rfl, hc, hwc⟩ := plainElem_int_inv Try.underlying3 hv
  have hc' : D.atKey (keyS s) zeroI = .lit (.int .i64 c) := congrArg Prod.fst hc
  refine ⟨c, ?_, fun j hj => ?_⟩
  · rw [hrun]
    cases e : P s with
    | none => rw [hF.1 s e]; rfl
    | some j => rw [(hF.2 s j e).1]; rfl
  · have := (hF.2 s j hj).2
    rw [hc'] at this
    injection this with e
    injection e with _ e
set_option maxRecDepth 100000 in
/-- A look-up with one. -/
theorem look1_to {W : World} {M q : Nat} {D : DataW Unit} {P : ByteArray → Option Nat} {s : ByteArray} {j : Nat} (ho : W.ownsMap Try.prog 9 (plainElem (H := Unit) Try.prog 3) M q D) (hF : MapsTo P D) (hs : s.size ≤ maxLen) (hj : P s = some j) :
    (Instr.lookup 63 (.map (some M)) (.string s) false).run Try.prog W = .ok (.int .i64 j) W := by
  have hkey : keyOf Try.prog 9 (.string s) = some (keyS s) := keyOf_string_mk Try.underlying9 hs
  obtain ⟨c, hrun, hc, hwc⟩ := ho.lookup_int (q := .i64) str_law Try.underlying63 Try.underlying3 rfl hkey
  have h1 := (hF.2 s j hj).2
  have h2 : D.atKey (keyS s) zeroI = .lit (.int .i64 c) := hc
  rw [h2] at h1
  injection h1 with e
  injection e with _ e
  rw [hrun, e]
/-- An append at a step of a region that draws its order, inside a fence, by its run. -/
theorem wpOpIn_append_run {F : Fence} {n : Nat} {P : Program} {w w' : World} {o : Oper} {a : Act} {K : Act → World → Prop} {Q : Exit → Act → World → Prop} (s x : Operand) (t : TypeId)
    (hop : o.op = Op.call { callee := Callee.builtin Builtin.append, args := #[s, x], argTypes := #[t, t] }) (v y v' : Value) (hs : a.eval s = v) (hx : a.eval x = y)
    (hrun : (Builtin.append_ #[t, t] o.type #[v, y]).run P w = .ok v' w') (hK : K (a.put o.dst v') w') : Oper.wpIn F n P o a w K Q := by
  unfold Oper.wpIn
  refine ⟨?_, ?_⟩
  · simp [Oper.about, hop, resolve, Target.leads, Sem.run_pure]
  · rw [Oper.semAt_plain F _ _ (by rw [hop]; intro c hc'; cases hc')]
    simp [execOp, hop, resolve, invoke, builtin, hs, hx, hrun, Result.andThen]
    exact hK
theorem wpListIn_append_run {F : Fence} {n : Nat} {P : Program} {w w' : World} {ops : Array Oper} {rest : List Oper} {o : Oper} {a : Act} {Q : Exit → Act → World → Prop} (hg : o.guard = none) (s x : Operand) (t : TypeId)
    (hop : o.op = Op.call { callee := Callee.builtin Builtin.append, args := #[s, x], argTypes := #[t, t] }) (v y v' : Value) (hs : a.eval s = v) (hx : a.eval x = y)
    (hrun : (Builtin.append_ #[t, t] o.type #[v, y]).run P w = .ok v' w') (hK : wpListIn F n P ops Q rest (a.put o.dst v') w') : wpListIn F n P ops Q (o :: rest) a w :=
  wpListIn_plain hg fun _ hK' => wpOpIn_append_run s x t hop v y v' hs hx hrun (hK' _ _ hK)
set_option maxRecDepth 100000 in
/-- A look-up with both answers, in whatever world holds the map. -/
theorem look_all {W : World} {M q : Nat} {D : DataW Unit} {P : ByteArray → Option Nat} {s : ByteArray} (ho : W.ownsMap Try.prog 9 (plainElem (H := Unit) Try.prog 3) M q D) (hF : MapsTo P D) (hs : s.size ≤ maxLen) :
    ∃ c : Int, (∀ V : World, V.ownsMap Try.prog 9 (plainElem (H := Unit) Try.prog 3) M q D → (Instr.lookup 63 (.map (some M)) (.string s) true).run Try.prog V = .ok (.tuple #[.int .i64 c, .bool (P s).isSome]) V) ∧ ∀ j : Nat, P s = some j → c = j := by
  have hkey : keyOf Try.prog 9 (.string s) = some (keyS s) := keyOf_string_mk Try.underlying9 hs
  have one : ∀ V : World, V.ownsMap Try.prog 9 (plainElem (H := Unit) Try.prog 3) M q D → ∃ c : Int, (Instr.lookup 63 (.map (some M)) (.string s) true).run Try.prog V = .ok (.tuple #[.int .i64 c, .bool (P s).isSome]) V ∧ D.atKey (keyS s) zeroI = .lit (.int .i64 c) := fun V hV => by
    obtain ⟨v, ps, hrun, hv⟩ := hV.look_ok str_law Try.underlying63 (z := .int .i64 0) rfl (plainElem_int Try.underlying3 (WalkArith.wf_i64 (by omega))) hkey
    obtain ⟨c, rfl, hc, hwc⟩ := plainElem_int_inv Try.underlying3 hv
    refine ⟨c, ?_, congrArg Prod.fst hc⟩
    rw [hrun]
    cases e : P s with
    | none => rw [hF.1 s e]; rfl
    | some j => rw [(hF.2 s j e).1]; rfl
  obtain ⟨c, _, hc⟩ := one W ho
  refine ⟨c, fun V hV => ?_, fun j hj => ?_⟩
  · obtain ⟨c', h1, h2⟩ := one V hV
    rw [hc] at h2
    injection h2 with e
    injection e with _ e
    rw [e]; exact h1
  · have := (hF.2 s j hj).2
    rw [hc] at this
    injection this with e
    injection e with _ e
end Go.Proofs.Ytjnkplmcopihbaa
