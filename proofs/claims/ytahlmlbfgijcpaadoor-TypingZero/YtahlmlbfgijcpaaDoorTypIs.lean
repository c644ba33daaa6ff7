/-
  errors.Is upon the errors that typing makes: a sentinel, or one that is wrapped once for each part on the way.
-/
import Derived.Test.YtahlmlbfgijcpaaDoorRows
import Derived.WalkKit
import Derived.LaidEql
import Derived.Stop.Asserts
import Derived.RowKitTokens
namespace Go.Proofs.YtahlmlbfgijcpaaDoor
open Go.RowKit Go.Extern.Stop Go.Stop Go.Extern

/-- A sentinel of errors.New's make. -/
abbrev senV (a : Addr) : Value := .iface 109 (.pointer (some a))
/-- An error: a sentinel, or that of a part. -/
inductive Why where
  | base (a : Addr) : Why
  | part (i : Int) (y : Why) : Why
def Why.val : Why → Value
  | .base a => senV a
  | .part i y => .iface 71 (.agg #[.int .i64 i, y.val])
def Why.root : Why → Addr
  | .base a => a
  | .part _ y => y.root
theorem why_root : (Why.part 3 (.base ⟨0, 0, none⟩)).root = ⟨0, 0, none⟩ := rfl
theorem Tryd.isTypeOf (v : Value) (w : World) : (Extern.ReflectliteType.typeOf #[.iface 109 v]).run Tryd.prog w = .ok (.iface 95 (.agg #[.pointer (some ⟨2, 109, none⟩)])) w := by kernel_rfl
theorem Tryd.isComparable (w : World) : (callFunc 73 #[.agg #[.pointer (some ⟨2, 109, none⟩)]]).run Tryd.prog w = .ok (.value (.bool true)) w := by
  rw [@run_callFunc_extern Tryd.prog 73 _ (Extern.ReflectliteType.method fun t => do Go.Extern.Rtype.noPackHeld "Comparable" t; pure (.bool (← typeInfo t).comparable)) Tryd.func73 (by kernel_rfl) (by kernel_rfl) (by kernel_rfl) (by kernel_rfl)]
  kernel_rfl
theorem Tryd.isMethodComparable (v : Value) (w : World) : (Go.method 247 95 v "Comparable").run Tryd.prog w = .ok (73, v) w := by kernel_rfl
theorem Tryd.isComp : (Tryd.prog.info? 109).map (·.comparable) = some true := by kernel_rfl
theorem Tryd.isSize : (Tryd.prog.info? 135).map (·.size) = some 1 := by kernel_rfl
theorem Tryd.noIsE (v : Value) (xT : TypeId) (w : World) : (Instr.typeAssert (.iface 109 v) xT 97 true).run Tryd.prog w = .ok (.tuple #[.nilIface, .bool false]) w := run_typeAssert_lacksB Tryd.underlying97 (by kernel_rfl) (by kernel_rfl) v xT w
theorem Tryd.noUnwrapE (v : Value) (xT : TypeId) (w : World) : (Instr.typeAssert (.iface 109 v) xT 100 true).run Tryd.prog w = .ok (.tuple #[.nilIface, .bool false]) w := run_typeAssert_lacksB Tryd.underlying100 (by kernel_rfl) (by kernel_rfl) v xT w
theorem Tryd.noUnwrapsE (v : Value) (xT : TypeId) (w : World) : (Instr.typeAssert (.iface 109 v) xT 102 true).run Tryd.prog w = .ok (.tuple #[.nilIface, .bool false]) w := run_typeAssert_lacksB Tryd.underlying102 (by kernel_rfl) (by kernel_rfl) v xT w
theorem Tryd.noIsW (v : Value) (xT : TypeId) (w : World) : (Instr.typeAssert (.iface 71 v) xT 97 true).run Tryd.prog w = .ok (.tuple #[.nilIface, .bool false]) w := run_typeAssert_lacksB Tryd.underlying97 (by kernel_rfl) (by kernel_rfl) v xT w
theorem Tryd.hasUnwrapW (v : Value) (xT : TypeId) (w : World) : (Instr.typeAssert (.iface 71 v) xT 100 true).run Tryd.prog w = .ok (.tuple #[.iface 71 v, .bool true]) w := run_typeAssert_hasB Tryd.underlying100 (by kernel_rfl) v xT w
theorem Tryd.methodUnwrap (v : Value) (w : World) : (Go.method 247 71 v "Unwrap").run Tryd.prog w = .ok (69, v) w := by kernel_rfl

set_option maxHeartbeats 1000000 in
theorem unwrap_any (i : Int) (v : Value) (w : World) : Calls Tryd.prog 69 #[.agg #[.int .i64 i, v]] w fun e w' => e = .returned v ∧ Below w.heap.size w w' := by
  go_enter Tryd.func69, Tryd.ntmps69
  go_wp2
  exact bodyPost_ret (v := v) (by simp [results, Tryd.results69, go_sem]) rfl ⟨rfl, (Below.refl _ _).alloc (Nat.le_refl _) _⟩
set_option maxRecDepth 100000 in
set_option maxHeartbeats 1000000 in
theorem is_loop (y : Why) (b : Addr) (w : World) {ca cb : Array Value} {ta tb : TypeId} (ha : w.heap[y.root.block]? = some (.cells ca ta (0, 0))) (hb : w.heap[b.block]? = some (.cells cb tb (0, 0))) :
    Calls Tryd.prog 29 #[y.val, senV b, .bool true] w fun e w' => e = .returned (.bool (decide (y.root = b))) ∧ Below w.heap.size w w' := by
  obtain ⟨i, hi, hcmp⟩ := Option.map_eq_some_iff.1 Tryd.isComp
  obtain ⟨j, hj, hjs⟩ := Option.map_eq_some_iff.1 Tryd.isSize
  have nE := Tryd.noIsE
  have uE := Tryd.noUnwrapE
  have vE := Tryd.noUnwrapsE
  have nW := Tryd.noIsW
  have uW := Tryd.hasUnwrapW
  have mU := Tryd.methodUnwrap
  have HA : Hid (w.heap[y.root.block]? = _) := ha
  have HB : Hid (w.heap[b.block]? = _) := hb
  have HI : Hid (_ ∧ _ ∧ _ ∧ _) := And.intro hi (And.intro hcmp (And.intro hj hjs))
  clear ha hb hi hcmp hj hjs
  go_enter Tryd.func29, Tryd.ntmps29
  go_wp2
  go_loopw [0] (fun u wr => ∃ x : Why, u = x.val ∧ x.root = y.root ∧ Below w.heap.size w wr) (fun u _ => SizeOf.sizeOf u)
  case atStart => exact ⟨y, rfl, rfl, Below.refl _ _⟩
  case round =>
    obtain ⟨x, rfl, hr, hB⟩ := hrel
    have hA := (hB.block _ (Array.getElem?_eq_some_iff.1 HA.out).1).trans HA.out
    have hBb := (hB.block _ (Array.getElem?_eq_some_iff.1 HB.out).1).trans HB.out
    rw [← hr] at hA
    have HR : Hid (x.root = y.root) := hr
    clear hr
    obtain ⟨hi, hcmp, hj, hjs⟩ := HI.out
    cases x with
    | base a =>
      have hA : wr.heap[a.block]? = _ := hA
      by_cases e : a = b
      · subst e
        have heq := run_eql_iface_ptr_same (P := Tryd.prog) wr a Tryd.underlying40 Tryd.underlying109 hi hcmp hj
        clear hA hBb hi hcmp hj hjs
        simp only [Why.val]
        go_wp2
        go_ret
        exact ⟨by rw [← HR.out]; simp [Why.root], hB⟩
      · have heq := run_eql_iface_ptr_other (P := Tryd.prog) wr Tryd.underlying40 Tryd.underlying109 hi hcmp hj (by rw [hjs]; decide) e hA hBb
        have HE : Hid (¬ a = b) := e
        clear hA hBb hi hcmp hj hjs e
        simp only [Why.val]
        go_wp2
        go_ret
        exact ⟨by rw [← HR.out]; simp [Why.root, HE.out], hB⟩
    | part i1 x =>
      have hty := run_eql_iface_types (P := Tryd.prog) 71 109 (.agg #[.int .i64 i1, x.val]) (.pointer (some b)) Tryd.underlying40 (by decide) wr
      clear hA hBb hi hcmp hj hjs
      cases x with
      | base a1 =>
        simp only [Why.val] at hty ⊢
        go_wp2_with (first | (go_at_call 69; refine (unwrap_any i1 (senV a1) _).mono ?_; rintro e w2 ⟨rfl, hB2⟩))
        go_roundw
        case rel => exact ⟨.base a1, rfl, HR.out, hB.trans (hB2.mono hB.size)⟩
        case measure => simp; omega
      | part i2 x =>
        simp only [Why.val] at hty ⊢
        go_wp2_with (first | (go_at_call 69; refine (unwrap_any i1 (.iface 71 (.agg #[.int .i64 i2, x.val])) _).mono ?_; rintro e w2 ⟨rfl, hB2⟩))
        go_roundw
        case rel => exact ⟨.part i2 x, rfl, HR.out, hB.trans (hB2.mono hB.size)⟩
        case measure => simp; omega
set_option maxRecDepth 100000 in
set_option maxHeartbeats 1000000 in
/-- errors.Is of such an error and a sentinel: is it that one at the end? -/
theorem is_any (y : Why) (b : Addr) (w : World) {ca cb : Array Value} {ta tb : TypeId} (ha : w.heap[y.root.block]? = some (.cells ca ta (0, 0))) (hb : w.heap[b.block]? = some (.cells cb tb (0, 0))) :
    Calls Tryd.prog 16 #[y.val, senV b] w fun e w' => e = .returned (.bool (decide (y.root = b))) ∧ Below w.heap.size w w' := by
  have h8 := @run_callFunc_extern Tryd.prog 28 _ Extern.ReflectliteType.typeOf Tryd.func28 (by kernel_rfl) (by kernel_rfl) (by kernel_rfl) (by kernel_rfl)
  have tT := Tryd.isTypeOf
  have cT := Tryd.isComparable
  have mR := Tryd.isMethodComparable
  have C : Hid (Calls Tryd.prog 29 _ w _) := is_loop y b w ha hb
  clear ha hb
  cases y with
  | base a1 =>
    simp only [Why.val] at C ⊢
    go_enter Tryd.func16, Tryd.ntmps16
    go_wp2_with (first | (go_at_call 29; refine C.out.mono ?_; rintro e w2 ⟨rfl, hB2⟩))
    go_ret
    exact ⟨rfl, hB2⟩
  | part i1 x =>
    simp only [Why.val] at C ⊢
    go_enter Tryd.func16, Tryd.ntmps16
    go_wp2_with (first | (go_at_call 29; refine C.out.mono ?_; rintro e w2 ⟨rfl, hB2⟩))
    go_ret
    exact ⟨rfl, hB2⟩
set_option maxRecDepth 100000 in
set_option maxHeartbeats 1000000 in
theorem is_nil (b : Addr) (w : World) : Calls Tryd.prog 16 #[.nilIface, senV b] w fun e w' => e = .returned (.bool false) ∧ w' = w := by
  have hn := run_eql_iface_nil_left (P := Tryd.prog) w 109 (.pointer (some b)) Tryd.underlying40
  go_enter Tryd.func16, Tryd.ntmps16
  go_wp2
  go_ret
  exact ⟨rfl, rfl⟩
end Go.Proofs.YtahlmlbfgijcpaaDoor
