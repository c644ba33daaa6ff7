/-
  errors.Is upon the errors that typing makes: a sentinel, or one that is wrapped once for each part on the way.
  typing's two sentinels, and errno.
  What the rows' condition on typing's two variables gives the walks: two sentinels, one here, one there.
-/
import Derived.Test.YtahlmlbfgijcpaaGreatDoorCText
import Derived.Test.YtahlmlbfgijcpaaGreatDoorRows
import Derived.WalkKit
import Derived.LaidEql
import Derived.Stop.Asserts
import Derived.RowKitTokens
import Derived.Below
import Derived.ProofKit
import Derived.LaidMore
import Derived.OpenShut
import Derived.Stop.Joined
import Derived.Stop.LaidErr
import Derived.Stop.LaidTwo
namespace Go.Proofs.YtahlmlbfgijcpaaGreatDoor
open Go.RowKit Go.Extern.Stop Go.Stop Go.Extern

/-- A sentinel of errors.New's make. -/
abbrev senV (a : Addr) : Value := .iface 142 (.pointer (some a))
/-- An error: a sentinel, or that of a part. -/
inductive Why where
  | base (a : Addr) : Why
  | part (i : Int) (y : Why) : Why
def Why.val : Why → Value
  | .base a => senV a
  | .part i y => .iface 106 (.agg #[.int .i64 i, y.val])
def Why.root : Why → Addr
  | .base a => a
  | .part _ y => y.root
theorem why_root : (Why.part 3 (.base ⟨0, 0, none⟩)).root = ⟨0, 0, none⟩ := rfl
theorem Tryz.isTypeOf (v : Value) (w : World) : (Extern.ReflectliteType.typeOf #[.iface 142 v]).run Tryz.prog w = .ok (.iface 128 (.agg #[.pointer (some ⟨2, 142, none⟩)])) w := by kernel_rfl
theorem Tryz.isComparable (w : World) : (callFunc 110 #[.agg #[.pointer (some ⟨2, 142, none⟩)]]).run Tryz.prog w = .ok (.value (.bool true)) w := by
  rw [@run_callFunc_extern Tryz.prog 110 _ (Extern.ReflectliteType.method fun t => do Go.Extern.Rtype.noPackHeld "Comparable" t; pure (.bool (← typeInfo t).comparable)) Tryz.func110 (by kernel_rfl) (by kernel_rfl) (by kernel_rfl) (by kernel_rfl)]
  kernel_rfl
theorem Tryz.isMethodComparable (v : Value) (w : World) : (Go.method 280 128 v "Comparable").run Tryz.prog w = .ok (110, v) w := by kernel_rfl
theorem Tryz.isComp : (Tryz.prog.info? 142).map (·.comparable) = some true := by kernel_rfl
theorem Tryz.isSize : (Tryz.prog.info? 168).map (·.size) = some 1 := by kernel_rfl
theorem Tryz.noIsE (v : Value) (xT : TypeId) (w : World) : (Instr.typeAssert (.iface 142 v) xT 130 true).run Tryz.prog w = .ok (.tuple #[.nilIface, .bool false]) w := run_typeAssert_lacksB Tryz.underlying130 (by kernel_rfl) (by kernel_rfl) v xT w
theorem Tryz.noUnwrapE (v : Value) (xT : TypeId) (w : World) : (Instr.typeAssert (.iface 142 v) xT 133 true).run Tryz.prog w = .ok (.tuple #[.nilIface, .bool false]) w := run_typeAssert_lacksB Tryz.underlying133 (by kernel_rfl) (by kernel_rfl) v xT w
theorem Tryz.noUnwrapsE (v : Value) (xT : TypeId) (w : World) : (Instr.typeAssert (.iface 142 v) xT 135 true).run Tryz.prog w = .ok (.tuple #[.nilIface, .bool false]) w := run_typeAssert_lacksB Tryz.underlying135 (by kernel_rfl) (by kernel_rfl) v xT w
theorem Tryz.noIsW (v : Value) (xT : TypeId) (w : World) : (Instr.typeAssert (.iface 106 v) xT 130 true).run Tryz.prog w = .ok (.tuple #[.nilIface, .bool false]) w := run_typeAssert_lacksB Tryz.underlying130 (by kernel_rfl) (by kernel_rfl) v xT w
theorem Tryz.hasUnwrapW (v : Value) (xT : TypeId) (w : World) : (Instr.typeAssert (.iface 106 v) xT 133 true).run Tryz.prog w = .ok (.tuple #[.iface 106 v, .bool true]) w := run_typeAssert_hasB Tryz.underlying133 (by kernel_rfl) v xT w
theorem Tryz.methodUnwrap (v : Value) (w : World) : (Go.method 280 106 v "Unwrap").run Tryz.prog w = .ok (106, v) w := by kernel_rfl

set_option maxHeartbeats 1000000 in
theorem unwrap_any (i : Int) (v : Value) (w : World) : Calls Tryz.prog 106 #[.agg #[.int .i64 i, v]] w fun e w' => e = .returned v ∧ Below w.heap.size w w' := by
  go_enter Tryz.func106, Tryz.ntmps106
  go_wp2
  exact bodyPost_ret (v := v) (by simp [results, Tryz.results106, go_sem]) rfl ⟨rfl, (Below.refl _ _).alloc (Nat.le_refl _) _⟩
set_option maxRecDepth 100000 in
set_option maxHeartbeats 1000000 in
theorem is_loop (y : Why) (b : Addr) (w : World) {ca cb : Array Value} {ta tb : TypeId} (ha : w.heap[y.root.block]? = some (.cells ca ta (0, 0))) (hb : w.heap[b.block]? = some (.cells cb tb (0, 0))) :
    Calls Tryz.prog 60 #[y.val, senV b, .bool true] w fun e w' => e = .returned (.bool (decide (y.root = b))) ∧ Below w.heap.size w w' := by
  obtain ⟨i, hi, hcmp⟩ := Option.map_eq_some_iff.1 Tryz.isComp
  obtain ⟨j, hj, hjs⟩ := Option.map_eq_some_iff.1 Tryz.isSize
  have nE := Tryz.noIsE
  have uE := Tryz.noUnwrapE
  have vE := Tryz.noUnwrapsE
  have nW := Tryz.noIsW
  have uW := Tryz.hasUnwrapW
  have mU := Tryz.methodUnwrap
  have HA : Hid (w.heap[y.root.block]? = _) := ha
  have HB : Hid (w.heap[b.block]? = _) := hb
  have HI : Hid (_ ∧ _ ∧ _ ∧ _) := And.intro hi (And.intro hcmp (And.intro hj hjs))
  clear ha hb hi hcmp hj hjs
  go_enter Tryz.func60, Tryz.ntmps60
  go_wp2
  go_loopw [0] (fun u wr => ∃ x : Why, u = x.val ∧ x.root = y.root ∧ Below w.heap.size w wr) (fun u _ => SizeOf.sizeOf u)
  case atStart => exact ⟨y, rfl, rfl, Below.refl _ _⟩
  case round =>
    obtain ⟨x, rfl, hr, hB⟩ := hrel
    have hA := (hB.block _ (Array.getElem?_eq_some_iff.1 HA.out).1).trans HA.out
    have hBb := (hB.block _ (Array.getElem?_eq_some_iff.1 HB.out).1).trans HB.out
    rw [← hr] at hA
    have HR : Hid (x.root = y.root) := hr
    clear hr
    obtain ⟨hi, hcmp, hj, hjs⟩ := HI.out
    cases x with
    | base a =>
      have hA : wr.heap[a.block]? = _ := hA
      by_cases e : a = b
      · subst e
        have heq := run_eql_iface_ptr_same (P := Tryz.prog) wr a Tryz.underlying64 Tryz.underlying142 hi hcmp hj
        clear hA hBb hi hcmp hj hjs
        simp only [Why.val]
        go_wp2
        go_ret
        exact ⟨by rw [← HR.out]; simp [Why.root], hB⟩
      · have heq := run_eql_iface_ptr_other (P := Tryz.prog) wr Tryz.underlying64 Tryz.underlying142 hi hcmp hj (by rw [hjs]; decide) e hA hBb
        have HE : Hid (¬ a = b) := e
        clear hA hBb hi hcmp hj hjs e
        simp only [Why.val]
        go_wp2
        go_ret
        exact ⟨by rw [← HR.out]; simp [Why.root, HE.out], hB⟩
    | part i1 x =>
      have hty := run_eql_iface_types (P := Tryz.prog) 106 142 (.agg #[.int .i64 i1, x.val]) (.pointer (some b)) Tryz.underlying64 (by decide) wr
      clear hA hBb hi hcmp hj hjs
      cases x with
      | base a1 =>
        simp only [Why.val] at hty ⊢
        go_wp2_with (first | (go_at_call 106; refine (unwrap_any i1 (senV a1) _).mono ?_; rintro e w2 ⟨rfl, hB2⟩))
        go_roundw
        case rel => exact ⟨.base a1, rfl, HR.out, hB.trans (hB2.mono hB.size)⟩
        case measure => simp; omega
      | part i2 x =>
        simp only [Why.val] at hty ⊢
        go_wp2_with (first | (go_at_call 106; refine (unwrap_any i1 (.iface 106 (.agg #[.int .i64 i2, x.val])) _).mono ?_; rintro e w2 ⟨rfl, hB2⟩))
        go_roundw
        case rel => exact ⟨.part i2 x, rfl, HR.out, hB.trans (hB2.mono hB.size)⟩
        case measure => simp; omega
set_option maxRecDepth 100000 in
set_option maxHeartbeats 1000000 in
/-- errors.Is of such an error and a sentinel: is it that one at the end? -/
theorem is_any (y : Why) (b : Addr) (w : World) {ca cb : Array Value} {ta tb : TypeId} (ha : w.heap[y.root.block]? = some (.cells ca ta (0, 0))) (hb : w.heap[b.block]? = some (.cells cb tb (0, 0))) :
    Calls Tryz.prog 40 #[y.val, senV b] w fun e w' => e = .returned (.bool (decide (y.root = b))) ∧ Below w.heap.size w w' := by
  have h8 := @run_callFunc_extern Tryz.prog 59 _ Extern.ReflectliteType.typeOf Tryz.func59 (by kernel_rfl) (by kernel_rfl) (by kernel_rfl) (by kernel_rfl)
  have tT := Tryz.isTypeOf
  have cT := Tryz.isComparable
  have mR := Tryz.isMethodComparable
  have C : Hid (Calls Tryz.prog 60 _ w _) := is_loop y b w ha hb
  clear ha hb
  cases y with
  | base a1 =>
    simp only [Why.val] at C ⊢
    go_enter Tryz.func40, Tryz.ntmps40
    go_wp2_with (first | (go_at_call 60; refine C.out.mono ?_; rintro e w2 ⟨rfl, hB2⟩))
    go_ret
    exact ⟨rfl, hB2⟩
  | part i1 x =>
    simp only [Why.val] at C ⊢
    go_enter Tryz.func40, Tryz.ntmps40
    go_wp2_with (first | (go_at_call 60; refine C.out.mono ?_; rintro e w2 ⟨rfl, hB2⟩))
    go_ret
    exact ⟨rfl, hB2⟩
set_option maxRecDepth 100000 in
set_option maxHeartbeats 1000000 in
theorem is_nil (b : Addr) (w : World) : Calls Tryz.prog 40 #[.nilIface, senV b] w fun e w' => e = .returned (.bool false) ∧ w' = w := by
  have hn := run_eql_iface_nil_left (P := Tryz.prog) w 142 (.pointer (some b)) Tryz.underlying64
  go_enter Tryz.func40, Tryz.ntmps40
  go_wp2
  go_ret
  exact ⟨rfl, rfl⟩
end Go.Proofs.YtahlmlbfgijcpaaGreatDoor
namespace Go.Proofs.YtahlmlbfgijcpaaGreatDoor
open Go.RowKit

/-- What typing's two variables hold: two sentinels, one here, one there. -/
structure Sens (w : World) (N T : Addr) : Prop where
  vN : w.cell? ⟨1, 0, none⟩ = some (senV N)
  vT : w.cell? ⟨0, 0, none⟩ = some (senV T)
  bN : ∃ c t, w.heap[N.block]? = some (.cells c t (0, 0))
  bT : ∃ c t, w.heap[T.block]? = some (.cells c t (0, 0))
  ne : N ≠ T
theorem Sens.later {w w' : World} {N T : Addr} (h : Sens w N T) (hB : Below w.heap.size w w') : Sens w' N T := by
  refine ⟨cell_later h.vN hB, cell_later h.vT hB, ?_, ?_, h.ne⟩
  · obtain ⟨c, t, e⟩ := h.bN
    exact ⟨c, t, (hB.block _ (Array.getElem?_eq_some_iff.1 e).1).trans e⟩
  · obtain ⟨c, t, e⟩ := h.bT
    exact ⟨c, t, (hB.block _ (Array.getElem?_eq_some_iff.1 e).1).trans e⟩
/-- An error and its number. -/
def ErrIs (N T : Addr) (e : Int) (v : Value) : Prop :=
  (e = 0 ∧ v = .nilIface) ∨ (e = 6 ∧ ∃ y : Why, y.root = N ∧ v = y.val) ∨ (e = 5 ∧ ∃ y : Why, y.root = T ∧ v = y.val)
theorem ErrIs.nil {N T : Addr} {e : Int} {v : Value} (h : ErrIs N T e v) (h0 : e = 0) : v = .nilIface := by
  rcases h with ⟨_, h⟩ | ⟨h, _⟩ | ⟨h, _⟩
  · exact h
  · omega
  · omega
/-- An error that is one has a value of some type. -/
theorem ErrIs.some {N T : Addr} {e : Int} {v : Value} (h : ErrIs N T e v) (h0 : ¬ e = 0) : ∃ t u, v = .iface t u := by
  have key : ∀ y : Why, ∃ t u, y.val = .iface t u := fun y => by cases y <;> exact ⟨_, _, rfl⟩
  rcases h with ⟨h, _⟩ | ⟨_, y, _, rfl⟩ | ⟨_, y, _, rfl⟩
  · exact absurd h h0
  · exact key y
  · exact key y
/-- ... of a part. -/
theorem ErrIs.part {N T : Addr} {e : Int} {v : Value} (h : ErrIs N T e v) (h0 : ¬ e = 0) (i : Int) : ErrIs N T e (.iface 106 (.agg #[.int .i64 i, v])) := by
  rcases h with ⟨h, _⟩ | ⟨h, y, hr, rfl⟩ | ⟨h, y, hr, rfl⟩
  · exact absurd h h0
  · exact .inr (.inl ⟨h, .part i y, hr, rfl⟩)
  · exact .inr (.inr ⟨h, .part i y, hr, rfl⟩)
set_option maxHeartbeats 1000000 in
theorem errno_any (N T : Addr) (e : Int) (v : Value) (w : World) (hS : Sens w N T) (h : ErrIs N T e v) : Calls Tryz.prog 23 #[v] w fun r w' => r = .returned (.int .i64 e) ∧ Below w.heap.size w w' := by
  have HS : Hid (Sens w N T) := hS
  have gN := hS.vN
  have gT := hS.vT
  rcases h with ⟨rfl, rfl⟩ | ⟨rfl, y, hr, rfl⟩ | ⟨rfl, y, hr, rfl⟩
  · clear hS
    go_enter Tryz.func23, Tryz.ntmps23
    go_wp2_with (first | (go_at_call 40; refine (is_nil _ _).mono ?_; rintro e w2 ⟨rfl, rfl⟩))
    go_ret
    exact ⟨rfl, Below.refl _ _⟩
  · obtain ⟨c1, t1, b1⟩ := hS.bN
    have C : Hid (Calls Tryz.prog 40 #[y.val, senV N] w fun e w' => e = .returned (.bool true) ∧ Below w.heap.size w w') := by
      show Calls _ _ _ _ _
      have := is_any y N w (by rw [hr]; exact b1) b1
      simpa [hr] using this
    have HR : Hid (y.root = N) := hr
    clear hr b1 hS
    obtain ⟨v, hv⟩ : ∃ v, v = y.val := ⟨_, rfl⟩
    rw [← hv] at C ⊢
    clear hv
    go_enter Tryz.func23, Tryz.ntmps23
    go_wp2_with (first | (go_at_call 40; refine C.out.mono ?_; rintro e w2 ⟨rfl, hB2⟩))
    go_ret
    exact ⟨rfl, hB2⟩
  · obtain ⟨c1, t1, b1⟩ := hS.bN
    obtain ⟨c2, t2, b2⟩ := hS.bT
    have C : Hid (Calls Tryz.prog 40 #[y.val, senV N] w fun e w' => e = .returned (.bool false) ∧ Below w.heap.size w w') := by
      show Calls _ _ _ _ _
      have := is_any y N w (by rw [hr]; exact b2) b1
      simpa [hr, hS.ne.symm] using this
    have C2 : Hid (∀ d, Below w.heap.size w d → Calls Tryz.prog 40 #[y.val, senV T] d fun e w' => e = .returned (.bool true) ∧ Below d.heap.size d w') := fun d hd => by
      obtain ⟨c2, t2, b2⟩ := (HS.out.later hd).bT
      have := is_any y T d (by rw [hr]; exact b2) b2
      simpa [hr] using this
    clear hr b1 b2 hS
    obtain ⟨v, hv⟩ : ∃ v, v = y.val := ⟨_, rfl⟩
    rw [← hv] at C C2 ⊢
    clear hv
    go_enter Tryz.func23, Tryz.ntmps23
    go_wp2_with (first
      | (go_at_call 40; refine (C2.out _ hB2).mono ?_; rintro e w3 ⟨rfl, hB3⟩)
      | (go_at_call 40; refine C.out.mono ?_; rintro e w2 ⟨rfl, hB2⟩; have gT2 := cell_later gT hB2))
    go_ret
    exact ⟨rfl, hB2.trans (hB3.mono hB2.size)⟩
end Go.Proofs.YtahlmlbfgijcpaaGreatDoor
namespace Go.Proofs.YtahlmlbfgijcpaaGreatDoor
open Go.ChangeShapes Go.WideShapes Go.ChangeAt Go.RowKit

def laidL : List (String × DataW Unit) := [("haruspex/typing.errNone", Rows.laid_haruspex_typing_errNone), ("haruspex/typing.errType", Rows.laid_haruspex_typing_errType)]
theorem gNone : Tryz.prog.globalNamed "haruspex/typing.errNone" = some 1 := by kernel_rfl
theorem gType : Tryz.prog.globalNamed "haruspex/typing.errType" = some 0 := by kernel_rfl
theorem tNone : (Tryz.prog.globals[1]?).map (·.type) = some 64 := by kernel_rfl
theorem tType : (Tryz.prog.globals[0]?).map (·.type) = some 64 := by kernel_rfl
theorem cellsES : Tryz.prog.cellsOf 168 = 1 := by kernel_rfl
theorem cellsSt : Tryz.prog.cellsOf 9 = 1 := by kernel_rfl
theorem starES : "*" ++ "errors.errorString" = "*errors.errorString" := by decide
theorem rowES (u : TypeId) (h : Tryz.prog.typeName? 3 u = some "*errors.errorString") : u = 142 :=
  typeName_ptr_named (nm := "errors.errorString") (by rw [starES]; kernel_rfl) (by kernel_rfl) (by decide) u (by rw [starES]; exact h)
theorem cell_of_var {W : World} {name : String} {g : Nat} {v : Value} (hg : Tryz.prog.globalNamed name = some g) (hv : W.var? Tryz.prog name = some #[v]) : W.cell? ⟨g, 0, none⟩ = some v := by
  unfold World.var? at hv
  rw [hg] at hv
  simp only [Option.bind_some] at hv
  split at hv
  · rename_i c t f hh
    cases hv
    simp [World.cell?, hh]
  · cases hv
theorem sens_of_laid {W : World} (h : laidMetH Tryz.prog laidL W) : ∃ N T, Sens W N T := by
  have hL : laidMet Tryz.prog laidL W := h
  obtain ⟨a0, a1, s0, s1, c0, c1, t0, t1, hv0, hv1, _, _, _, _, _, _, hne, hb0, hb1⟩ := laid_sentinels2 hL gNone tNone gType tType Tryz.underlying64 rowES Tryz.underlying142 Tryz.underlying168 rfl rfl Tryz.underlying9 cellsES cellsSt
  exact ⟨a0, a1, cell_of_var gNone hv0, cell_of_var gType hv1, ⟨c0, t0, hb0⟩, ⟨c1, t1, hb1⟩, hne⟩
theorem door_met (os : Os) (args : Array Value) : laidMetH Tryz.prog laidL ((World.doorLaid Tryz.prog 400 os).forCall (fun _ _ => 0) ⟨#[], args, []⟩).memory :=
  laidMet_of_run' 8 (by kernel_rfl) (by kernel_rfl)
end Go.Proofs.YtahlmlbfgijcpaaGreatDoor
