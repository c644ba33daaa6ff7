/-
  A row of ints that a call owns, and one more behind it.
  errors.Is upon the errors that typing makes: a sentinel, or one that is wrapped once for each part on the way.
  typing's two sentinels, and errno.
  typing's parts: the kinds of a condition's parts, one after the other.
  schema.Find and schema.Field (P7.1): the first of that name, by a closure.
  typing's rules: what parts must be (all, alike, ordered, ruleOf).
  typing.ruleOf: which rule a kind of condition has.
  The document's right of conditions: where it is told by the node alone.
  typing's kind: what a right condition is.
-/
import Derived.Test.YtkfpgkohkhhlhaaGreatDoorRWlNodes
import Derived.Test.YtkfpgkohkhhlhaaGreatDoorRWlAs
import Derived.Test.YtkfpgkohkhhlhaaGreatDoorRValOrder
import Derived.Test.YtkfpgkohkhhlhaaGreatDoorRPatTail
import Derived.Test.YtkfpgkohkhhlhaaGreatDoorRExprAlone
import Derived.Test.YtkfpgkohkhhlhaaGreatDoorRExprRightPartsD
import Derived.Maps.AppendAt
import Derived.Test.YtkfpgkohkhhlhaaGreatDoorRows
import Derived.WalkKit
import Derived.LaidEql
import Derived.Stop.Asserts
import Derived.RowKitTokens
import Derived.Below
import Derived.BigQuiet
namespace Go.Proofs.YtkfpgkohkhhlhaaGreatDoor
open Go.RowKit

def rowI (K : Nat → Int) : Nat → List Value
  | 0 => []
  | n + 1 => rowI K n ++ [.int .i64 (K n)]
theorem rowI_len (K : Nat → Int) : ∀ n, (rowI K n).length = n
  | 0 => rfl
  | n + 1 => by simp [rowI, rowI_len K n]
theorem rowI_get (K : Nat → Int) : ∀ n i, i < n → (rowI K n)[i]? = some (.int .i64 (K i))
  | 0, _, h => by omega
  | n + 1, i, h => by
    rw [rowI]
    by_cases e : i = n
    · subst e
      rw [List.getElem?_append_right (by rw [rowI_len]; omega), rowI_len]
      simp
    · rw [List.getElem?_append_left (by rw [rowI_len]; omega)]
      exact rowI_get K n i (by omega)
theorem infoInt : (Tryz.prog.info? 3).map (fun i => (i.zero, i.size, i.bytes)) = some (some (.int .i64 0), 1, 8) := by kernel_rfl
theorem push_int {w : World} {base n : Nat} {v : Value} {xs : List Value} (h : w.ownsRow base 3 1 v n xs) (hb : base ≤ w.heap.size) (hn : n ≤ 2097152) (k : Int) :
    ∃ v' w', (Builtin.append_ #[39, 39] 39 #[v, .slice (some ⟨w.heap.size, 0, none⟩) 1 1]).run Tryz.prog (w.alloc (.cells #[.int .i64 k] 3)) = .ok v' w' ∧ w'.ownsRow base 3 1 v' (n + 1) (xs ++ [.int .i64 k]) ∧ Below base w w' := by
  obtain ⟨i0, hi, hz0, hz1, hz2⟩ := info_parts infoInt
  obtain ⟨v', w', hrun, hown', hgrow, _⟩ := run_append_own (P := Tryz.prog) (w := w.alloc (.cells #[.int .i64 k] 3)) base 39 39 3 i0 (.int .i64 0) 1 8 Tryz.underlying39 hi hz0 hz1 hz2 rfl (by decide) v _ _ (h.alloc _) ⟨w.heap.size, 0, none⟩ 1 1 [.int .i64 k] rfl
    (cell_one_new w (.int .i64 k) 3) (by simp [Value.oneCell']) (by unfold maxLen; omega) (by omega) (by simp; omega)
  exact ⟨v', w', hrun, hown', ((Below.refl base w).alloc hb _).grown hgrow (by simp; omega) fun k e => (h.lt k e).1⟩
theorem own_isI {w : World} {base n : Nat} {v : Value} {K : Nat → Int} (h : w.ownsRow base 3 1 v n (rowI K n)) : ∃ a cap, v = .slice a n cap ∧ IsI w a n K ∧ n ≤ cap := by
  rcases h.2 with ⟨rfl, rfl⟩ | ⟨g, cap, cur, rfl, hg, hc, hnc, hcm, hs, ht⟩
  · exact ⟨none, 0, rfl, fun h => by omega, Nat.le_refl _⟩
  · refine ⟨_, cap, rfl, fun _ => ⟨g, 0, rfl, fun j hj => ?_⟩, hnc⟩
    rw [← rowI_get K n j hj, ← ht, List.getElem?_take_of_lt (by omega)]
    simp only [World.cell?, hc, Nat.zero_add]
    rw [Array.getElem?_toList]
    rfl
theorem own_still {w w' : World} {B e size n : Nat} {v : Value} {xs : List Value} (h : w.ownsRow B e size v n xs) (hb : Below w.heap.size w w') : w'.ownsRow B e size v n xs :=
  h.kept (row := none) ⟨hb.os, hb.tape, hb.output, hb.size, fun k hk _ => hb.block k hk⟩ (Classical.em _)
end Go.Proofs.YtkfpgkohkhhlhaaGreatDoor
namespace Go.Proofs.YtkfpgkohkhhlhaaGreatDoor
open Go.RowKit Go.Extern.Stop Go.Stop Go.Extern

/-- A sentinel of errors.New's make. -/
abbrev senV (a : Addr) : Value := .iface 287 (.pointer (some a))
/-- An error: a sentinel, or that of a part. -/
inductive Why where
  | base (a : Addr) : Why
  | part (i : Int) (y : Why) : Why
def Why.val : Why → Value
  | .base a => senV a
  | .part i y => .iface 276 (.agg #[.int .i64 i, y.val])
def Why.root : Why → Addr
  | .base a => a
  | .part _ y => y.root
theorem Tryz.isTypeOf (v : Value) (w : World) : (Extern.ReflectliteType.typeOf #[.iface 287 v]).run Tryz.prog w = .ok (.iface 182 (.agg #[.pointer (some ⟨3, 287, none⟩)])) w := by kernel_rfl
theorem Tryz.isComparable (w : World) : (callFunc 249 #[.agg #[.pointer (some ⟨3, 287, none⟩)]]).run Tryz.prog w = .ok (.value (.bool true)) w := by
  rw [@run_callFunc_extern Tryz.prog 249 _ (Extern.ReflectliteType.method fun t => do Go.Extern.Rtype.noPackHeld "Comparable" t; pure (.bool (← typeInfo t).comparable)) Tryz.func249 (by kernel_rfl) (by kernel_rfl) (by kernel_rfl) (by kernel_rfl)]
  kernel_rfl
theorem Tryz.isMethodComparable (v : Value) (w : World) : (Go.method 419 182 v "Comparable").run Tryz.prog w = .ok (249, v) w := by kernel_rfl
theorem Tryz.isComp : (Tryz.prog.info? 287).map (·.comparable) = some true := by kernel_rfl
theorem Tryz.isSize : (Tryz.prog.info? 308).map (·.size) = some 1 := by kernel_rfl
theorem Tryz.noIsE (v : Value) (xT : TypeId) (w : World) : (Instr.typeAssert (.iface 287 v) xT 282 true).run Tryz.prog w = .ok (.tuple #[.nilIface, .bool false]) w := run_typeAssert_lacksB Tryz.underlying282 (by kernel_rfl) (by kernel_rfl) v xT w
theorem Tryz.noUnwrapE (v : Value) (xT : TypeId) (w : World) : (Instr.typeAssert (.iface 287 v) xT 190 true).run Tryz.prog w = .ok (.tuple #[.nilIface, .bool false]) w := run_typeAssert_lacksB Tryz.underlying190 (by kernel_rfl) (by kernel_rfl) v xT w
theorem Tryz.noUnwrapsE (v : Value) (xT : TypeId) (w : World) : (Instr.typeAssert (.iface 287 v) xT 191 true).run Tryz.prog w = .ok (.tuple #[.nilIface, .bool false]) w := run_typeAssert_lacksB Tryz.underlying191 (by kernel_rfl) (by kernel_rfl) v xT w
theorem Tryz.noIsW (v : Value) (xT : TypeId) (w : World) : (Instr.typeAssert (.iface 276 v) xT 282 true).run Tryz.prog w = .ok (.tuple #[.nilIface, .bool false]) w := run_typeAssert_lacksB Tryz.underlying282 (by kernel_rfl) (by kernel_rfl) v xT w
theorem Tryz.hasUnwrapW (v : Value) (xT : TypeId) (w : World) : (Instr.typeAssert (.iface 276 v) xT 190 true).run Tryz.prog w = .ok (.tuple #[.iface 276 v, .bool true]) w := run_typeAssert_hasB Tryz.underlying190 (by kernel_rfl) v xT w
theorem Tryz.methodUnwrap (v : Value) (w : World) : (Go.method 419 276 v "Unwrap").run Tryz.prog w = .ok (261, v) w := by kernel_rfl

set_option maxHeartbeats 1000000 in
theorem unwrap_any (i : Int) (v : Value) (w : World) : Calls Tryz.prog 261 #[.agg #[.int .i64 i, v]] w fun e w' => e = .returned v ∧ Below w.heap.size w w' := by
  go_enter Tryz.func261, Tryz.ntmps261
  go_wp2
  exact bodyPost_ret (v := v) (by simp [results, Tryz.results261, go_sem]) rfl ⟨rfl, (Below.refl _ _).alloc (Nat.le_refl _) _⟩
set_option maxRecDepth 100000 in
set_option maxHeartbeats 1000000 in
theorem is_loop (y : Why) (b : Addr) (w : World) {ca cb : Array Value} {ta tb : TypeId} (ha : w.heap[y.root.block]? = some (.cells ca ta (0, 0))) (hb : w.heap[b.block]? = some (.cells cb tb (0, 0))) :
    Calls Tryz.prog 216 #[y.val, senV b, .bool true] w fun e w' => e = .returned (.bool (decide (y.root = b))) ∧ Below w.heap.size w w' := by
  obtain ⟨i, hi, hcmp⟩ := Option.map_eq_some_iff.1 Tryz.isComp
  obtain ⟨j, hj, hjs⟩ := Option.map_eq_some_iff.1 Tryz.isSize
  have nE := Tryz.noIsE
  have uE := Tryz.noUnwrapE
  have vE := Tryz.noUnwrapsE
  have nW := Tryz.noIsW
  have uW := Tryz.hasUnwrapW
  have mU := Tryz.methodUnwrap
  have HA : Hid (w.heap[y.root.block]? = _) := ha
  have HB : Hid (w.heap[b.block]? = _) := hb
  have HI : Hid (_ ∧ _ ∧ _ ∧ _) := And.intro hi (And.intro hcmp (And.intro hj hjs))
  clear ha hb hi hcmp hj hjs
  go_enter Tryz.func216, Tryz.ntmps216
  go_wp2
  go_loopw [0] (fun u wr => ∃ x : Why, u = x.val ∧ x.root = y.root ∧ Below w.heap.size w wr) (fun u _ => SizeOf.sizeOf u)
  case atStart => exact ⟨y, rfl, rfl, Below.refl _ _⟩
  case round =>
    obtain ⟨x, rfl, hr, hB⟩ := hrel
    have hA := (hB.block _ (Array.getElem?_eq_some_iff.1 HA.out).1).trans HA.out
    have hBb := (hB.block _ (Array.getElem?_eq_some_iff.1 HB.out).1).trans HB.out
    rw [← hr] at hA
    have HR : Hid (x.root = y.root) := hr
    clear hr
    obtain ⟨hi, hcmp, hj, hjs⟩ := HI.out
    cases x with
    | base a =>
      have hA : wr.heap[a.block]? = _ := hA
      by_cases e : a = b
      · subst e
        have heq := run_eql_iface_ptr_same (P := Tryz.prog) wr a Tryz.underlying66 Tryz.underlying287 hi hcmp hj
        clear hA hBb hi hcmp hj hjs
        simp only [Why.val]
        go_wp2
        go_ret
        exact ⟨by rw [← HR.out]; simp [Why.root], hB⟩
      · have heq := run_eql_iface_ptr_other (P := Tryz.prog) wr Tryz.underlying66 Tryz.underlying287 hi hcmp hj (by rw [hjs]; decide) e hA hBb
        have HE : Hid (¬ a = b) := e
        clear hA hBb hi hcmp hj hjs e
        simp only [Why.val]
        go_wp2
        go_ret
        exact ⟨by rw [← HR.out]; simp [Why.root, HE.out], hB⟩
    | part i1 x =>
      have hty := run_eql_iface_types (P := Tryz.prog) 276 287 (.agg #[.int .i64 i1, x.val]) (.pointer (some b)) Tryz.underlying66 (by decide) wr
      clear hA hBb hi hcmp hj hjs
      cases x with
      | base a1 =>
        simp only [Why.val] at hty ⊢
        go_wp2_with (first | (go_at_call 261; refine (unwrap_any i1 (senV a1) _).mono ?_; rintro e w2 ⟨rfl, hB2⟩))
        go_roundw
        case rel => exact ⟨.base a1, rfl, HR.out, hB.trans (hB2.mono hB.size)⟩
        case measure => simp; omega
      | part i2 x =>
        simp only [Why.val] at hty ⊢
        go_wp2_with (first | (go_at_call 261; refine (unwrap_any i1 (.iface 276 (.agg #[.int .i64 i2, x.val])) _).mono ?_; rintro e w2 ⟨rfl, hB2⟩))
        go_roundw
        case rel => exact ⟨.part i2 x, rfl, HR.out, hB.trans (hB2.mono hB.size)⟩
        case measure => simp; omega
set_option maxRecDepth 100000 in
set_option maxHeartbeats 1000000 in
/-- errors.Is of such an error and a sentinel: is it that one at the end? -/
theorem is_any (y : Why) (b : Addr) (w : World) {ca cb : Array Value} {ta tb : TypeId} (ha : w.heap[y.root.block]? = some (.cells ca ta (0, 0))) (hb : w.heap[b.block]? = some (.cells cb tb (0, 0))) :
    Calls Tryz.prog 207 #[y.val, senV b] w fun e w' => e = .returned (.bool (decide (y.root = b))) ∧ Below w.heap.size w w' := by
  have h8 := @run_callFunc_extern Tryz.prog 123 _ Extern.ReflectliteType.typeOf Tryz.func123 (by kernel_rfl) (by kernel_rfl) (by kernel_rfl) (by kernel_rfl)
  have tT := Tryz.isTypeOf
  have cT := Tryz.isComparable
  have mR := Tryz.isMethodComparable
  have C : Hid (Calls Tryz.prog 216 _ w _) := is_loop y b w ha hb
  clear ha hb
  cases y with
  | base a1 =>
    simp only [Why.val] at C ⊢
    go_enter Tryz.func207, Tryz.ntmps207
    go_wp2_with (first | (go_at_call 216; refine C.out.mono ?_; rintro e w2 ⟨rfl, hB2⟩))
    go_ret
    exact ⟨rfl, hB2⟩
  | part i1 x =>
    simp only [Why.val] at C ⊢
    go_enter Tryz.func207, Tryz.ntmps207
    go_wp2_with (first | (go_at_call 216; refine C.out.mono ?_; rintro e w2 ⟨rfl, hB2⟩))
    go_ret
    exact ⟨rfl, hB2⟩
set_option maxRecDepth 100000 in
set_option maxHeartbeats 1000000 in
theorem is_nil (b : Addr) (w : World) : Calls Tryz.prog 207 #[.nilIface, senV b] w fun e w' => e = .returned (.bool false) ∧ w' = w := by
  have hn := run_eql_iface_nil_left (P := Tryz.prog) w 287 (.pointer (some b)) Tryz.underlying66
  go_enter Tryz.func207, Tryz.ntmps207
  go_wp2
  go_ret
  exact ⟨rfl, rfl⟩
end Go.Proofs.YtkfpgkohkhhlhaaGreatDoor
namespace Go.Proofs.YtkfpgkohkhhlhaaGreatDoor
open Go.RowKit

/-- What typing's two variables hold: two sentinels, one here, one there. -/
structure Sens (w : World) (N T : Addr) : Prop where
  vN : w.cell? ⟨2, 0, none⟩ = some (senV N)
  vT : w.cell? ⟨1, 0, none⟩ = some (senV T)
  bN : ∃ c t, w.heap[N.block]? = some (.cells c t (0, 0))
  bT : ∃ c t, w.heap[T.block]? = some (.cells c t (0, 0))
  ne : N ≠ T
theorem Sens.later {w w' : World} {N T : Addr} (h : Sens w N T) (hB : Below w.heap.size w w') : Sens w' N T := by
  refine ⟨cell_later h.vN hB, cell_later h.vT hB, ?_, ?_, h.ne⟩
  · obtain ⟨c, t, e⟩ := h.bN
    exact ⟨c, t, (hB.block _ (Array.getElem?_eq_some_iff.1 e).1).trans e⟩
  · obtain ⟨c, t, e⟩ := h.bT
    exact ⟨c, t, (hB.block _ (Array.getElem?_eq_some_iff.1 e).1).trans e⟩
/-- An error and its number. -/
def ErrIs (N T : Addr) (e : Int) (v : Value) : Prop :=
  (e = 0 ∧ v = .nilIface) ∨ (e = 6 ∧ ∃ y : Why, y.root = N ∧ v = y.val) ∨ (e = 5 ∧ ∃ y : Why, y.root = T ∧ v = y.val)
theorem ErrIs.nil {N T : Addr} {e : Int} {v : Value} (h : ErrIs N T e v) (h0 : e = 0) : v = .nilIface := by
  rcases h with ⟨_, h⟩ | ⟨h, _⟩ | ⟨h, _⟩
  · exact h
  · omega
  · omega
/-- An error that is one has a value of some type. -/
theorem ErrIs.some {N T : Addr} {e : Int} {v : Value} (h : ErrIs N T e v) (h0 : ¬ e = 0) : ∃ t u, v = .iface t u := by
  have key : ∀ y : Why, ∃ t u, y.val = .iface t u := fun y => by cases y <;> exact ⟨_, _, rfl⟩
  rcases h with ⟨h, _⟩ | ⟨_, y, _, rfl⟩ | ⟨_, y, _, rfl⟩
  · exact absurd h h0
  · exact key y
  · exact key y
/-- ... of a part. -/
theorem ErrIs.part {N T : Addr} {e : Int} {v : Value} (h : ErrIs N T e v) (h0 : ¬ e = 0) (i : Int) : ErrIs N T e (.iface 276 (.agg #[.int .i64 i, v])) := by
  rcases h with ⟨h, _⟩ | ⟨h, y, hr, rfl⟩ | ⟨h, y, hr, rfl⟩
  · exact absurd h h0
  · exact .inr (.inl ⟨h, .part i y, hr, rfl⟩)
  · exact .inr (.inr ⟨h, .part i y, hr, rfl⟩)
set_option maxHeartbeats 1000000 in
theorem errno_any (N T : Addr) (e : Int) (v : Value) (w : World) (hS : Sens w N T) (h : ErrIs N T e v) : Calls Tryz.prog 185 #[v] w fun r w' => r = .returned (.int .i64 e) ∧ Below w.heap.size w w' := by
  have HS : Hid (Sens w N T) := hS
  have gN := hS.vN
  have gT := hS.vT
  rcases h with ⟨rfl, rfl⟩ | ⟨rfl, y, hr, rfl⟩ | ⟨rfl, y, hr, rfl⟩
  · clear hS
    go_enter Tryz.func185, Tryz.ntmps185
    go_wp2_with (first | (go_at_call 207; refine (is_nil _ _).mono ?_; rintro e w2 ⟨rfl, rfl⟩))
    go_ret
    exact ⟨rfl, Below.refl _ _⟩
  · obtain ⟨c1, t1, b1⟩ := hS.bN
    have C : Hid (Calls Tryz.prog 207 #[y.val, senV N] w fun e w' => e = .returned (.bool true) ∧ Below w.heap.size w w') := by
      show Calls _ _ _ _ _
      have := is_any y N w (by rw [hr]; exact b1) b1
      simpa [hr] using this
    have HR : Hid (y.root = N) := hr
    clear hr b1 hS
    obtain ⟨v, hv⟩ : ∃ v, v = y.val := ⟨_, rfl⟩
    rw [← hv] at C ⊢
    clear hv
    go_enter Tryz.func185, Tryz.ntmps185
    go_wp2_with (first | (go_at_call 207; refine C.out.mono ?_; rintro e w2 ⟨rfl, hB2⟩))
    go_ret
    exact ⟨rfl, hB2⟩
  · obtain ⟨c1, t1, b1⟩ := hS.bN
    obtain ⟨c2, t2, b2⟩ := hS.bT
    have C : Hid (Calls Tryz.prog 207 #[y.val, senV N] w fun e w' => e = .returned (.bool false) ∧ Below w.heap.size w w') := by
      show Calls _ _ _ _ _
      have := is_any y N w (by rw [hr]; exact b2) b1
      simpa [hr, hS.ne.symm] using this
    have C2 : Hid (∀ d, Below w.heap.size w d → Calls Tryz.prog 207 #[y.val, senV T] d fun e w' => e = .returned (.bool true) ∧ Below d.heap.size d w') := fun d hd => by
      obtain ⟨c2, t2, b2⟩ := (HS.out.later hd).bT
      have := is_any y T d (by rw [hr]; exact b2) b2
      simpa [hr] using this
    clear hr b1 b2 hS
    obtain ⟨v, hv⟩ : ∃ v, v = y.val := ⟨_, rfl⟩
    rw [← hv] at C C2 ⊢
    clear hv
    go_enter Tryz.func185, Tryz.ntmps185
    go_wp2_with (first
      | (go_at_call 207; refine (C2.out _ hB2).mono ?_; rintro e w3 ⟨rfl, hB3⟩)
      | (go_at_call 207; refine C.out.mono ?_; rintro e w2 ⟨rfl, hB2⟩; have gT2 := cell_later gT hB2))
    go_ret
    exact ⟨rfl, hB2.trans (hB3.mono hB2.size)⟩
end Go.Proofs.YtkfpgkohkhhlhaaGreatDoor
namespace Go.Proofs.YtkfpgkohkhhlhaaGreatDoor
open Go.RowKit

/-- What kind answers of a part. -/
def KindC (nv : Value) (N T : Addr) (x : X) (K E : Int) (d : World) : Prop :=
  Calls Tryz.prog 184 #[nv, x.val] d fun e w' => ∃ v, e = .returned (.tuple #[.int .i64 K, v]) ∧ ErrIs N T E v ∧ Below d.heap.size d w'
set_option maxRecDepth 100000 in
set_option maxHeartbeats 4000000 in
theorem parts_ok (nv : Value) (N T : Addr) (x : X) (K E : Nat → Int) (w : World) (hX : IsX w x) (hn : x.n ≤ 1048576) (HK : ∀ i, i < x.n → ∀ d, Below w.heap.size w d → KindC nv N T (x.c i) (K i) (E i) d) (h0 : ∀ i, i < x.n → E i = 0) :
    Calls Tryz.prog 205 #[nv, x.slice] w fun e w' => ∃ a cap, e = .returned (.tuple #[.slice a x.n cap, .nilIface]) ∧ IsI w' a x.n K ∧ Below w.heap.size w w' := by
  have HX : Hid (IsX w x) := hX
  have HC : Hid (∀ i, i < x.n → ∀ d, _) := HK
  have H0 : Hid (∀ i, i < x.n → E i = 0) := h0
  clear hX HK h0
  go_enter Tryz.func205, Tryz.ntmps205
  go_wp2
  go_loopw [6, 13] (fun u iv wr => ∃ k : Nat, k ≤ x.n ∧ iv = .int .i64 k ∧ Hid (wr.ownsRow w.heap.size 3 1 u k (rowI K k)) ∧ Below w.heap.size w wr) (fun _ iv _ => x.n - (intOf iv).toNat)
  case atStart => exact ⟨0, Nat.zero_le _, rfl, World.ownsRow_nil _ _ _ _, Below.refl _ _⟩
  case round =>
    obtain ⟨k, hk, rfl, HO, hB⟩ := hrel
    by_cases hkn : k < x.n
    · obtain ⟨b, o, ha, hN, hx⟩ := (HX.out.later hB).part hkn
      obtain ⟨d0, d1, d2, d3, d4, d5, d6⟩ := hN
      have C : Hid (∀ d, Below w.heap.size w d → KindC nv N T (x.c k) (K k) (E k) d) := HC.out k hkn
      have E0 : Hid (E k = 0) := H0.out k hkn
      have ha' : x.slice = .slice (some ⟨b, o, none⟩) x.n x.cap := by rw [← ha]
      have HX1 : Hid (k + 1 ≤ x.n) := hkn
      obtain ⟨y, hy⟩ : ∃ y, y = x.c k := ⟨_, rfl⟩
      rw [← hy] at d0 d1 d2 d3 d4 d5 d6 C
      rw [ha']
      have hnz : k ≤ 2097152 := by omega
      clear ha ha' hx hy
      go_wp2_with (first
        | (at_builtin; obtain ⟨v3, w3, r3, o3, b3⟩ := push_int HO2.out hB3.size hnz (K k); refine wpList_append_run rfl (.tmp 30) (.tmp 32) 39 rfl _ _ _ rfl rfl r3 ?_)
        | (go_at_call 184; refine (C.out _ (hB.alloc hB.size _)).mono ?_; rintro e w2 ⟨v, rfl, he, hB2⟩; obtain rfl : v = .nilIface := he.nil E0.out; have HO2 : Hid (w2.ownsRow w.heap.size 3 1 _ k (rowI K k)) := own_still (HO.out.alloc _) hB2; have hB3 : Below w.heap.size w w2 := (hB.alloc hB.size _).trans (hB2.mono (by have := hB.size; simp; omega)); clear he))
      refine ⟨⟨k + 1, HX1.out, by simp, o3, hB3.trans b3⟩, ?_⟩
      have := HX1.out
      simp [intOf]
      omega
    · obtain rfl : k = x.n := by omega
      obtain ⟨a, cap, rfl, hI, hle⟩ := own_isI HO.out
      have HI : Hid (IsI wr a x.n K) := hI
      clear hI
      go_wp2
      exact bodyPost_ret (v := .tuple #[.slice a x.n cap, .nilIface]) (by simp [results, Tryz.results205, go_sem]) rfl ⟨a, cap, rfl, HI.out, hB⟩
set_option maxRecDepth 100000 in
set_option maxHeartbeats 4000000 in
theorem parts_err (nv : Value) (N T : Addr) (x : X) (K E : Nat → Int) (i : Nat) (w : World) (hX : IsX w x) (hn : x.n ≤ 1048576) (HK : ∀ i, i < x.n → ∀ d, Below w.heap.size w d → KindC nv N T (x.c i) (K i) (E i) d) (hi : i < x.n) (he : ¬ E i = 0) (h0 : ∀ j, j < i → E j = 0) :
    Calls Tryz.prog 205 #[nv, x.slice] w fun e w' => ∃ v, e = .returned (.tuple #[.slice none 0 0, v]) ∧ ErrIs N T (E i) v ∧ Below w.heap.size w w' := by
  have HX : Hid (IsX w x) := hX
  have HC : Hid (∀ i, i < x.n → ∀ d, _) := HK
  have H0 : Hid (∀ j, j < i → E j = 0) := h0
  have HE : Hid (¬ E i = 0) := he
  have HI : Hid (i < x.n) := hi
  clear hX HK h0 he
  go_enter Tryz.func205, Tryz.ntmps205
  go_wp2
  go_loopw [6, 13] (fun u iv wr => ∃ k : Nat, k ≤ i ∧ iv = .int .i64 k ∧ Hid (wr.ownsRow w.heap.size 3 1 u k (rowI K k)) ∧ Below w.heap.size w wr) (fun _ iv _ => i - (intOf iv).toNat)
  case atStart => exact ⟨0, Nat.zero_le _, rfl, World.ownsRow_nil _ _ _ _, Below.refl _ _⟩
  case round =>
    obtain ⟨k, hk, rfl, HO, hB⟩ := hrel
    have hkn : k < x.n := by omega
    obtain ⟨b, o, ha, hN, hx⟩ := (HX.out.later hB).part hkn
    obtain ⟨d0, d1, d2, d3, d4, d5, d6⟩ := hN
    have C : Hid (∀ d, Below w.heap.size w d → KindC nv N T (x.c k) (K k) (E k) d) := HC.out k hkn
    have ha' : x.slice = .slice (some ⟨b, o, none⟩) x.n x.cap := by rw [← ha]
    obtain ⟨y, hy⟩ : ∃ y, y = x.c k := ⟨_, rfl⟩
    rw [← hy] at d0 d1 d2 d3 d4 d5 d6 C
    rw [ha']
    have hnz : k ≤ 2097152 := by omega
    clear ha ha' hx hy
    by_cases hki : k = i
    · subst hki
      go_wp2_with (first
        | (go_at_call 184; refine (C.out _ (hB.alloc hB.size _)).mono ?_; rintro e w2 ⟨v, rfl, he, hB2⟩; have HV : Hid (ErrIs N T (E k) v) := he; obtain ⟨t1, u1, rfl⟩ := he.some HE.out; have hB3 : Below w.heap.size w w2 := (hB.alloc hB.size _).trans (hB2.mono (by have := hB.size; simp; omega)); clear he))
      exact bodyPost_ret (v := .tuple #[.slice none 0 0, .iface 276 (.agg #[.int .i64 (k : Nat), .iface t1 u1])]) (by simp [results, Tryz.results205, go_sem]) rfl ⟨_, rfl, HV.out.part HE.out k, hB3⟩
    · have E0 : Hid (E k = 0) := H0.out k (by omega)
      have HX1 : Hid (k + 1 ≤ i) := by show k + 1 ≤ i; omega
      go_wp2_with (first
        | (at_builtin; obtain ⟨v3, w3, r3, o3, b3⟩ := push_int HO2.out hB3.size hnz (K k); refine wpList_append_run rfl (.tmp 30) (.tmp 32) 39 rfl _ _ _ rfl rfl r3 ?_)
        | (go_at_call 184; refine (C.out _ (hB.alloc hB.size _)).mono ?_; rintro e w2 ⟨v, rfl, he, hB2⟩; obtain rfl : v = .nilIface := he.nil E0.out; have HO2 : Hid (w2.ownsRow w.heap.size 3 1 _ k (rowI K k)) := own_still (HO.out.alloc _) hB2; have hB3 : Below w.heap.size w w2 := (hB.alloc hB.size _).trans (hB2.mono (by have := hB.size; simp; omega)); clear he))
      refine ⟨⟨k + 1, HX1.out, by simp, o3, hB3.trans b3⟩, ?_⟩
      have := HX1.out
      simp [intOf]
      omega
end Go.Proofs.YtkfpgkohkhhlhaaGreatDoor
namespace Go.Proofs.YtkfpgkohkhhlhaaGreatDoor
open Go.RowKit

set_option maxHeartbeats 1000000 in
theorem find1_any (S s : ByteArray) (v : Value) (p : Nat) (w : World) (hp : w.cell? ⟨p, 0, none⟩ = some (.string s)) : Calls Tryz.prog 181 #[schV S v, .pointer (some ⟨p, 0, none⟩)] w fun e w' => e = .returned (.bool (decide (S = s))) ∧ Below w.heap.size w w' := by
  have hp1 := cell_new w (schO S v) _ _ hp
  clear hp
  go_enter Tryz.func181, Tryz.ntmps181
  go_wp2
  go_ret
  exact ⟨ret_bool (same_str S s), (Below.refl _ _).alloc (Nat.le_refl _) _⟩
set_option maxHeartbeats 1000000 in
theorem field1_any (S s : ByteArray) (k : Int) (p : Nat) (w : World) (hp : w.cell? ⟨p, 0, none⟩ = some (.string s)) : Calls Tryz.prog 219 #[fldV S k, .pointer (some ⟨p, 0, none⟩)] w fun e w' => e = .returned (.bool (decide (S = s))) ∧ Below w.heap.size w w' := by
  have hp1 := cell_new w (fldO S k) _ _ hp
  clear hp
  go_enter Tryz.func219, Tryz.ntmps219
  go_wp2
  go_ret
  exact ⟨ret_bool (same_str S s), (Below.refl _ _).alloc (Nat.le_refl _) _⟩

set_option maxRecDepth 100000 in
set_option maxHeartbeats 2000000 in
theorem indexS_some (a : Option Addr) (n cap i p : Nat) (Nm : Nat → ByteArray) (V : Nat → Value) (s : ByteArray) (w : World) (H : Row2 w a n Nm V) (hn : n ≤ 9223372036854775807) (hp : w.cell? ⟨p, 0, none⟩ = some (.string s)) (hi : i < n) (he : Nm i = s) (hl : ∀ j, j < i → ¬ Nm j = s) :
    Calls Tryz.prog 180 #[.slice a n cap, .func (.func 181) #[] #[.pointer (some ⟨p, 0, none⟩)]] w fun e w' => e = .returned (.int .i64 i) ∧ Below w.heap.size w w' := by
  obtain ⟨b, off, rfl, hc⟩ := H (by omega)
  have HC : Hid (∀ j, j < n → _) := hc
  have HE : Hid (Nm i = s) := he
  have HL : Hid (∀ j, j < i → ¬ Nm j = s) := hl
  have HP : Hid (w.cell? ⟨p, 0, none⟩ = some (.string s)) := hp
  clear H hc he hl hp
  go_enter Tryz.func180, Tryz.ntmps180
  go_wp2
  go_loopw [8] (fun v wr => ∃ k : Nat, k ≤ i ∧ v = .int .i64 k ∧ Below w.heap.size w wr) (fun v _ => i - (intOf v).toNat)
  case atStart => exact ⟨0, Nat.zero_le _, rfl, Below.refl _ _⟩
  case round =>
    obtain ⟨k, hk, rfl, hB⟩ := hrel
    have hkn : k < n := by omega
    have f0 := cell_later (HC.out k hkn).1.1 hB
    have f1 := cell_later (HC.out k hkn).1.2 hB
    have C : Hid (Calls Tryz.prog 181 _ wr _) := find1_any (Nm k) s (V k) p wr (cell_later HP.out hB)
    by_cases hki : k = i
    · subst hki
      rw [decide_eq_true HE.out] at C
      go_wp2_with (first | (go_at_call 181; refine C.out.mono ?_; rintro e w1 ⟨rfl, hB1⟩))
      try rw [Exit.noGoto_ret]
      go_ret
      exact ⟨rfl, hB.trans (hB1.mono hB.size)⟩
    · rw [decide_eq_false (HL.out k (by omega))] at C
      go_wp2_with (first | (go_at_call 181; refine C.out.mono ?_; rintro e w1 ⟨rfl, hB1⟩))
      go_roundw
      case rel => exact ⟨k + 1, by omega, by go_num, hB.trans (hB1.mono hB.size)⟩
      case measure => simp [intOf]; omega
set_option maxRecDepth 100000 in
set_option maxHeartbeats 2000000 in
theorem indexS_none (a : Option Addr) (n cap p : Nat) (Nm : Nat → ByteArray) (V : Nat → Value) (s : ByteArray) (w : World) (H : Row2 w a n Nm V) (hn : n ≤ 9223372036854775807) (hp : w.cell? ⟨p, 0, none⟩ = some (.string s)) (hl : ∀ j, j < n → ¬ Nm j = s) :
    Calls Tryz.prog 180 #[.slice a n cap, .func (.func 181) #[] #[.pointer (some ⟨p, 0, none⟩)]] w fun e w' => e = .returned (.int .i64 (-1)) ∧ Below w.heap.size w w' := by
  have HC : Hid (Row2 w a n Nm V) := H
  have HL : Hid (∀ j, j < n → ¬ Nm j = s) := hl
  have HP : Hid (w.cell? ⟨p, 0, none⟩ = some (.string s)) := hp
  clear H hl hp
  go_enter Tryz.func180, Tryz.ntmps180
  go_wp2
  go_loopw [8] (fun v wr => ∃ k : Nat, k ≤ n ∧ v = .int .i64 k ∧ Below w.heap.size w wr) (fun v _ => n - (intOf v).toNat)
  case atStart => exact ⟨0, Nat.zero_le _, rfl, Below.refl _ _⟩
  case round =>
    obtain ⟨k, hk, rfl, hB⟩ := hrel
    by_cases hkn : k < n
    · obtain ⟨b, off, rfl, hc⟩ := HC.out (by omega)
      have f0 := cell_later (hc k hkn).1.1 hB
      have f1 := cell_later (hc k hkn).1.2 hB
      have C : Hid (Calls Tryz.prog 181 _ wr _) := find1_any (Nm k) s (V k) p wr (cell_later HP.out hB)
      rw [decide_eq_false (HL.out k hkn)] at C
      clear hc
      go_wp2_with (first | (go_at_call 181; refine C.out.mono ?_; rintro e w1 ⟨rfl, hB1⟩))
      go_roundw
      case rel => exact ⟨k + 1, by omega, by go_num, hB.trans (hB1.mono hB.size)⟩
      case measure => simp [intOf]; omega
    · go_wp2
      go_ret
      exact ⟨rfl, hB⟩

set_option maxRecDepth 100000 in
set_option maxHeartbeats 2000000 in
theorem indexF_some (a : Option Addr) (n cap i p : Nat) (Nm : Nat → ByteArray) (K : Nat → Int) (s : ByteArray) (w : World) (H : Flds w a n Nm K) (hn : n ≤ 9223372036854775807) (hp : w.cell? ⟨p, 0, none⟩ = some (.string s)) (hi : i < n) (he : Nm i = s) (hl : ∀ j, j < i → ¬ Nm j = s) :
    Calls Tryz.prog 218 #[.slice a n cap, .func (.func 219) #[] #[.pointer (some ⟨p, 0, none⟩)]] w fun e w' => e = .returned (.int .i64 i) ∧ Below w.heap.size w w' := by
  obtain ⟨b, off, rfl, hc⟩ := H (by omega)
  have HC : Hid (∀ j, j < n → _) := hc
  have HE : Hid (Nm i = s) := he
  have HL : Hid (∀ j, j < i → ¬ Nm j = s) := hl
  have HP : Hid (w.cell? ⟨p, 0, none⟩ = some (.string s)) := hp
  clear H hc he hl hp
  go_enter Tryz.func218, Tryz.ntmps218
  go_wp2
  go_loopw [8] (fun v wr => ∃ k : Nat, k ≤ i ∧ v = .int .i64 k ∧ Below w.heap.size w wr) (fun v _ => i - (intOf v).toNat)
  case atStart => exact ⟨0, Nat.zero_le _, rfl, Below.refl _ _⟩
  case round =>
    obtain ⟨k, hk, rfl, hB⟩ := hrel
    have hkn : k < n := by omega
    have f0 := cell_later (HC.out k hkn).1.1 hB
    have f1 := cell_later (HC.out k hkn).1.2 hB
    have C : Hid (Calls Tryz.prog 219 _ wr _) := field1_any (Nm k) s (K k) p wr (cell_later HP.out hB)
    by_cases hki : k = i
    · subst hki
      rw [decide_eq_true HE.out] at C
      go_wp2_with (first | (go_at_call 219; refine C.out.mono ?_; rintro e w1 ⟨rfl, hB1⟩))
      try rw [Exit.noGoto_ret]
      go_ret
      exact ⟨rfl, hB.trans (hB1.mono hB.size)⟩
    · rw [decide_eq_false (HL.out k (by omega))] at C
      go_wp2_with (first | (go_at_call 219; refine C.out.mono ?_; rintro e w1 ⟨rfl, hB1⟩))
      go_roundw
      case rel => exact ⟨k + 1, by omega, by go_num, hB.trans (hB1.mono hB.size)⟩
      case measure => simp [intOf]; omega
set_option maxRecDepth 100000 in
set_option maxHeartbeats 2000000 in
theorem indexF_none (a : Option Addr) (n cap p : Nat) (Nm : Nat → ByteArray) (K : Nat → Int) (s : ByteArray) (w : World) (H : Flds w a n Nm K) (hn : n ≤ 9223372036854775807) (hp : w.cell? ⟨p, 0, none⟩ = some (.string s)) (hl : ∀ j, j < n → ¬ Nm j = s) :
    Calls Tryz.prog 218 #[.slice a n cap, .func (.func 219) #[] #[.pointer (some ⟨p, 0, none⟩)]] w fun e w' => e = .returned (.int .i64 (-1)) ∧ Below w.heap.size w w' := by
  have HC : Hid (Flds w a n Nm K) := H
  have HL : Hid (∀ j, j < n → ¬ Nm j = s) := hl
  have HP : Hid (w.cell? ⟨p, 0, none⟩ = some (.string s)) := hp
  clear H hl hp
  go_enter Tryz.func218, Tryz.ntmps218
  go_wp2
  go_loopw [8] (fun v wr => ∃ k : Nat, k ≤ n ∧ v = .int .i64 k ∧ Below w.heap.size w wr) (fun v _ => n - (intOf v).toNat)
  case atStart => exact ⟨0, Nat.zero_le _, rfl, Below.refl _ _⟩
  case round =>
    obtain ⟨k, hk, rfl, hB⟩ := hrel
    by_cases hkn : k < n
    · obtain ⟨b, off, rfl, hc⟩ := HC.out (by omega)
      have f0 := cell_later (hc k hkn).1.1 hB
      have f1 := cell_later (hc k hkn).1.2 hB
      have C : Hid (Calls Tryz.prog 219 _ wr _) := field1_any (Nm k) s (K k) p wr (cell_later HP.out hB)
      rw [decide_eq_false (HL.out k hkn)] at C
      clear hc
      go_wp2_with (first | (go_at_call 219; refine C.out.mono ?_; rintro e w1 ⟨rfl, hB1⟩))
      go_roundw
      case rel => exact ⟨k + 1, by omega, by go_num, hB.trans (hB1.mono hB.size)⟩
      case measure => simp [intOf]; omega
    · go_wp2
      go_ret
      exact ⟨rfl, hB⟩
end Go.Proofs.YtkfpgkohkhhlhaaGreatDoor
namespace Go.Proofs.YtkfpgkohkhhlhaaGreatDoor
open Go.RowKit

set_option maxHeartbeats 1000000 in
theorem all11_any (q k : Int) (p : Nat) (w : World) (hp : w.cell? ⟨p, 0, none⟩ = some (.int .i64 k)) : Calls Tryz.prog 222 #[.int .i64 q, .pointer (some ⟨p, 0, none⟩)] w fun e w' => e = .returned (.bool (!decide (q = k))) ∧ w' = w := by
  by_cases e : q = k
  · subst e
    go_enter Tryz.func222, Tryz.ntmps222
    go_wp2
    go_ret
    exact ⟨by simp, rfl⟩
  · have e2 : (q != k) = true := by simp [e]
    go_enter Tryz.func222, Tryz.ntmps222
    go_wp2
    go_ret
    exact ⟨by simp [e], rfl⟩
set_option maxRecDepth 100000 in
set_option maxHeartbeats 2000000 in
theorem indexI_some (a : Option Addr) (n cap i p : Nat) (K : Nat → Int) (k0 : Int) (w : World) (H : IsI w a n K) (hn : n ≤ 1048576) (hp : w.cell? ⟨p, 0, none⟩ = some (.int .i64 k0)) (hi : i < n) (he : ¬ K i = k0) (hl : ∀ j, j < i → K j = k0) :
    Calls Tryz.prog 224 #[.slice a n cap, .func (.func 222) #[] #[.pointer (some ⟨p, 0, none⟩)]] w fun e w' => e = .returned (.int .i64 i) ∧ w' = w := by
  obtain ⟨b, off, rfl, hc⟩ := H (by omega)
  have HC : Hid (∀ j, j < n → _) := hc
  have HE : Hid (¬ K i = k0) := he
  have HL : Hid (∀ j, j < i → K j = k0) := hl
  have HP : Hid (w.cell? ⟨p, 0, none⟩ = some (.int .i64 k0)) := hp
  clear H hc he hl hp
  go_enter Tryz.func224, Tryz.ntmps224
  go_wp2
  go_loopw [8] (fun v wr => ∃ k : Nat, k ≤ i ∧ v = .int .i64 k ∧ wr = w) (fun v _ => i - (intOf v).toNat)
  case atStart => exact ⟨0, Nat.zero_le _, rfl, rfl⟩
  case round =>
    obtain ⟨k, hk, rfl, rfl⟩ := hrel
    have hkn : k < n := by omega
    have f0 := HC.out k hkn
    have C : Hid (Calls Tryz.prog 222 _ wr _) := all11_any (K k) k0 p wr HP.out
    by_cases hki : k = i
    · subst hki
      rw [decide_eq_false HE.out] at C
      go_wp2_with (first | (go_at_call 222; refine C.out.mono ?_; rintro e w1 ⟨rfl, rfl⟩))
      try rw [Exit.noGoto_ret]
      go_ret
      exact ⟨rfl, rfl⟩
    · rw [decide_eq_true (HL.out k (by omega))] at C
      go_wp2_with (first | (go_at_call 222; refine C.out.mono ?_; rintro e w1 ⟨rfl, rfl⟩))
      go_roundw
      case rel => exact ⟨k + 1, by omega, by go_num, by first | rfl | trivial⟩
      case measure => simp [intOf]; omega
set_option maxRecDepth 100000 in
set_option maxHeartbeats 2000000 in
theorem indexI_none (a : Option Addr) (n cap p : Nat) (K : Nat → Int) (k0 : Int) (w : World) (H : IsI w a n K) (hn : n ≤ 1048576) (hp : w.cell? ⟨p, 0, none⟩ = some (.int .i64 k0)) (hl : ∀ j, j < n → K j = k0) :
    Calls Tryz.prog 224 #[.slice a n cap, .func (.func 222) #[] #[.pointer (some ⟨p, 0, none⟩)]] w fun e w' => e = .returned (.int .i64 (-1)) ∧ w' = w := by
  have HC : Hid (IsI w a n K) := H
  have HL : Hid (∀ j, j < n → K j = k0) := hl
  have HP : Hid (w.cell? ⟨p, 0, none⟩ = some (.int .i64 k0)) := hp
  clear H hl hp
  go_enter Tryz.func224, Tryz.ntmps224
  go_wp2
  go_loopw [8] (fun v wr => ∃ k : Nat, k ≤ n ∧ v = .int .i64 k ∧ wr = w) (fun v _ => n - (intOf v).toNat)
  case atStart => exact ⟨0, Nat.zero_le _, rfl, rfl⟩
  case round =>
    obtain ⟨k, hk, rfl, rfl⟩ := hrel
    by_cases hkn : k < n
    · obtain ⟨b, off, rfl, hc⟩ := HC.out (by omega)
      have f0 := hc k hkn
      have C : Hid (Calls Tryz.prog 222 _ wr _) := all11_any (K k) k0 p wr HP.out
      rw [decide_eq_true (HL.out k hkn)] at C
      clear hc
      go_wp2_with (first | (go_at_call 222; refine C.out.mono ?_; rintro e w1 ⟨rfl, rfl⟩))
      go_roundw
      case rel => exact ⟨k + 1, by omega, by go_num, by first | rfl | trivial⟩
      case measure => simp [intOf]; omega
    · go_wp2
      go_ret
      exact ⟨rfl, rfl⟩
set_option maxRecDepth 100000 in
set_option maxHeartbeats 2000000 in
theorem otherI_any (a : Option Addr) (n cap p : Nat) (K : Nat → Int) (k0 : Int) (w : World) (H : IsI w a n K) (hn : n ≤ 1048576) (hp : w.cell? ⟨p, 0, none⟩ = some (.int .i64 k0)) :
    Calls Tryz.prog 221 #[.slice a n cap, .func (.func 222) #[] #[.pointer (some ⟨p, 0, none⟩)]] w fun e w' => e = .returned (.bool (!allB K k0 n)) ∧ w' = w := by
  rcases allB_or K k0 n with h | ⟨i, h1, h2, h3⟩
  · rw [allB_yes h]
    have C : Hid (Calls Tryz.prog 224 _ w _) := indexI_none a n cap p K k0 w H hn hp h
    clear H hn hp h
    go_enter Tryz.func221, Tryz.ntmps221
    go_wp2_with (first | (go_at_call 224; refine C.out.mono ?_; rintro e w1 ⟨rfl, rfl⟩))
    go_ret
    exact ⟨rfl, rfl⟩
  · rw [allB_no h2 h1]
    have C : Hid (Calls Tryz.prog 224 _ w _) := indexI_some a n cap i p K k0 w H hn hp h1 h2 h3
    have h0 : (0 : Int) ≤ i := by omega
    clear H hn hp h1 h2 h3
    go_enter Tryz.func221, Tryz.ntmps221
    go_wp2_with (first | (go_at_call 224; refine C.out.mono ?_; rintro e w1 ⟨rfl, rfl⟩))
    go_ret
    exact ⟨by simp, rfl⟩
set_option maxRecDepth 100000 in
set_option maxHeartbeats 2000000 in
/-- The function that 'all' hands back. -/
theorem all1_any (a : Option Addr) (n cap p : Nat) (K : Nat → Int) (k0 : Int) (w : World) (H : IsI w a n K) (hn : n ≤ 1048576) (hp : w.cell? ⟨p, 0, none⟩ = some (.int .i64 k0)) :
    Calls Tryz.prog 220 #[.slice a n cap, .pointer (some ⟨p, 0, none⟩)] w fun e w' => e = .returned (.bool (allB K k0 n)) ∧ w' = w := by
  have C : Hid (Calls Tryz.prog 221 _ w _) := otherI_any a n cap p K k0 w H hn hp
  clear H hn hp
  generalize allB K k0 n = r at C ⊢
  cases r
  · go_enter Tryz.func220, Tryz.ntmps220
    go_wp2_with (first | (go_at_call 221; refine C.out.mono ?_; rintro e w1 ⟨rfl, rfl⟩))
    go_ret
    exact ⟨rfl, rfl⟩
  · go_enter Tryz.func220, Tryz.ntmps220
    go_wp2_with (first | (go_at_call 221; refine C.out.mono ?_; rintro e w1 ⟨rfl, rfl⟩))
    go_ret
    exact ⟨rfl, rfl⟩
set_option maxHeartbeats 1000000 in
theorem allT_any (k0 : Int) (w : World) : Calls Tryz.prog 213 #[.int .i64 k0] w fun e w' => e = .returned (.func (.func 220) #[] #[.pointer (some ⟨w.heap.size, 0, none⟩)]) ∧ w' = w.alloc (.cells #[.int .i64 k0] 3) := by
  go_enter Tryz.func213, Tryz.ntmps213
  go_wp2
  go_ret
  exact ⟨rfl, rfl⟩
theorem box_at (w : World) (k0 : Int) : (w.alloc (.cells #[.int .i64 k0] 3)).cell? ⟨w.heap.size, 0, none⟩ = some (.int .i64 k0) := by rw [World.cell?_alloc_at _ _ _ _ rfl]; rfl
set_option maxRecDepth 100000 in
set_option maxHeartbeats 2000000 in
theorem hasI_some (a : Option Addr) (n cap i : Nat) (K : Nat → Int) (k0 : Int) (w : World) (H : IsI w a n K) (hn : n ≤ 1048576) (hi : i < n) (he : K i = k0) (hl : ∀ j, j < i → ¬ K j = k0) :
    Calls Tryz.prog 225 #[.slice a n cap, .int .i64 k0] w fun e w' => e = .returned (.int .i64 i) ∧ w' = w := by
  obtain ⟨b, off, rfl, hc⟩ := H (by omega)
  have HC : Hid (∀ j, j < n → _) := hc
  have HE : Hid (K i = k0) := he
  have HL : Hid (∀ j, j < i → ¬ K j = k0) := hl
  clear H hc he hl
  go_enter Tryz.func225, Tryz.ntmps225
  go_wp2
  go_loopw [8] (fun v wr => ∃ k : Nat, k ≤ i ∧ v = .int .i64 k ∧ wr = w) (fun v _ => i - (intOf v).toNat)
  case atStart => exact ⟨0, Nat.zero_le _, rfl, rfl⟩
  case round =>
    obtain ⟨k, hk, rfl, rfl⟩ := hrel
    have hkn : k < n := by omega
    have f0 := HC.out k hkn
    by_cases hki : k = i
    · subst hki
      rw [HE.out] at f0
      go_wp2
      try rw [Exit.noGoto_ret]
      go_ret
      exact ⟨rfl, rfl⟩
    · have h1 : ¬ k0 = K k := fun h => HL.out k (by omega) h.symm
      go_wp2
      go_roundw
      case rel => exact ⟨k + 1, by omega, by go_num, by first | rfl | trivial⟩
      case measure => simp [intOf]; omega
set_option maxRecDepth 100000 in
set_option maxHeartbeats 2000000 in
theorem hasI_none (a : Option Addr) (n cap : Nat) (K : Nat → Int) (k0 : Int) (w : World) (H : IsI w a n K) (hn : n ≤ 1048576) (hl : ∀ j, j < n → ¬ K j = k0) :
    Calls Tryz.prog 225 #[.slice a n cap, .int .i64 k0] w fun e w' => e = .returned (.int .i64 (-1)) ∧ w' = w := by
  have HC : Hid (IsI w a n K) := H
  have HL : Hid (∀ j, j < n → ¬ K j = k0) := hl
  clear H hl
  go_enter Tryz.func225, Tryz.ntmps225
  go_wp2
  go_loopw [8] (fun v wr => ∃ k : Nat, k ≤ n ∧ v = .int .i64 k ∧ wr = w) (fun v _ => n - (intOf v).toNat)
  case atStart => exact ⟨0, Nat.zero_le _, rfl, rfl⟩
  case round =>
    obtain ⟨k, hk, rfl, rfl⟩ := hrel
    by_cases hkn : k < n
    · obtain ⟨b, off, rfl, hc⟩ := HC.out (by omega)
      have f0 := hc k hkn
      have h1 : ¬ k0 = K k := fun h => HL.out k hkn h.symm
      clear hc
      go_wp2
      go_roundw
      case rel => exact ⟨k + 1, by omega, by go_num, by first | rfl | trivial⟩
      case measure => simp [intOf]; omega
    · go_wp2
      go_ret
      exact ⟨rfl, rfl⟩
set_option maxRecDepth 100000 in
set_option maxHeartbeats 2000000 in
/-- Is a null among two? -/
theorem nullI_any (a : Option Addr) (cap : Nat) (K : Nat → Int) (w : World) (H : IsI w a 2 K) :
    Calls Tryz.prog 223 #[.slice a 2 cap, .int .i64 0] w fun e w' => e = .returned (.bool (decide (K 0 = 0) || decide (K 1 = 0))) ∧ w' = w := by
  have key : (∃ i : Nat, (decide (K 0 = 0) || decide (K 1 = 0)) = true ∧ Calls Tryz.prog 225 #[.slice a (2 : Nat) cap, .int .i64 0] w fun e w' => e = .returned (.int .i64 i) ∧ w' = w) ∨ ((decide (K 0 = 0) || decide (K 1 = 0)) = false ∧ Calls Tryz.prog 225 #[.slice a (2 : Nat) cap, .int .i64 0] w fun e w' => e = .returned (.int .i64 (-1)) ∧ w' = w) := by
    by_cases h0 : K 0 = 0
    · exact .inl ⟨0, by simp [h0], hasI_some a 2 cap 0 K 0 w H (by omega) (by omega) h0 fun j hj => by omega⟩
    · by_cases h1 : K 1 = 0
      · exact .inl ⟨1, by simp [h1], hasI_some a 2 cap 1 K 0 w H (by omega) (by omega) h1 fun j hj => (show j = 0 by omega) ▸ h0⟩
      · refine .inr ⟨by simp [h0, h1], hasI_none a 2 cap K 0 w H (by omega) fun j hj => ?_⟩
        match j, hj with
        | 0, _ => exact h0
        | 1, _ => exact h1
  clear H
  rcases key with ⟨i, e, c⟩ | ⟨e, c⟩
  · rw [e]
    have C : Hid (Calls Tryz.prog 225 _ w _) := c
    have h0 : (0 : Int) ≤ i := by omega
    clear c e
    go_enter Tryz.func223, Tryz.ntmps223
    go_wp2_with (first | (go_at_call 225; refine C.out.mono ?_; rintro e w1 ⟨rfl, rfl⟩))
    go_ret
    exact ⟨by simp, rfl⟩
  · rw [e]
    have C : Hid (Calls Tryz.prog 225 _ w _) := c
    clear c e
    go_enter Tryz.func223, Tryz.ntmps223
    go_wp2_with (first | (go_at_call 225; refine C.out.mono ?_; rintro e w1 ⟨rfl, rfl⟩))
    go_ret
    exact ⟨rfl, rfl⟩
set_option maxRecDepth 100000 in
set_option maxHeartbeats 2000000 in
theorem alike_any (a : Option Addr) (cap : Nat) (K : Nat → Int) (w : World) (H : IsI w a 2 K) :
    Calls Tryz.prog 214 #[.slice a 2 cap] w fun e w' => e = .returned (.bool (decide (K 0 = K 1) || (decide (K 0 = 0) || decide (K 1 = 0)))) ∧ Below w.heap.size w w' := by
  have C : Hid (∀ d, Below w.heap.size w d → Calls Tryz.prog 223 _ d _) := fun d hd => nullI_any a cap K d (H.later hd)
  obtain ⟨b, o, rfl, hc⟩ := H (by omega)
  have f0 := hc 0 (by omega)
  have f1 := hc 1 (by omega)
  rw [Nat.add_zero] at f0
  clear hc H
  by_cases h : K 0 = K 1
  · rw [decide_eq_true h]
    clear C
    rw [← h] at f1
    generalize K 0 = k0 at *
    go_enter Tryz.func214, Tryz.ntmps214
    go_wp2
    go_quiet (fail)
    go_wp2
    go_ret
    exact ⟨rfl, below_drewN (Below.refl _ _) _⟩
  · rw [decide_eq_false h]
    have h' : (K 0 == K 1) = false := by simp [h]
    generalize (decide (K 0 = 0) || decide (K 1 = 0)) = r at C ⊢
    go_enter Tryz.func214, Tryz.ntmps214
    go_wp2
    go_region_with (first | (go_at_call 223; refine (C.out _ (by first | exact Below.refl _ _ | exact (Below.refl _ _).drew| exact below_drewN (Below.refl _ _) _)).mono ?_; rintro e w1 ⟨rfl, rfl⟩))
    all_goals go_wp2
    all_goals go_ret
    all_goals exact ⟨rfl, (Below.refl _ _).drew⟩
set_option maxRecDepth 100000 in
set_option maxHeartbeats 2000000 in
theorem ordered_any (a : Option Addr) (n cap : Nat) (K : Nat → Int) (w : World) (H : IsI w a n K) (hn : n ≤ 1048576) :
    Calls Tryz.prog 215 #[.slice a n cap] w fun e w' => e = .returned (.bool (allB K 2 n || allB K 3 n)) ∧ Below w.heap.size w w' := by
  obtain ⟨w1, hw1⟩ : ∃ w1, w1 = w.alloc (.cells #[.int .i64 2] 3) := ⟨_, rfl⟩
  obtain ⟨w2, hw2⟩ : ∃ w2, w2 = w1.alloc (.cells #[.int .i64 3] 3) := ⟨_, rfl⟩
  have hB1 : Below w.heap.size w w1 := by rw [hw1]; exact (Below.refl _ _).alloc (Nat.le_refl _) _
  have hB2 : Below w1.heap.size w1 w2 := by rw [hw2]; exact (Below.refl _ _).alloc (Nat.le_refl _) _
  have C1 : Hid (Calls Tryz.prog 220 #[.slice a n cap, .pointer (some ⟨w.heap.size, 0, none⟩)] w1 fun e w' => e = .returned (.bool (allB K 2 n)) ∧ w' = w1) := all1_any a n cap w.heap.size K 2 w1 (H.later hB1) hn (by rw [hw1]; exact box_at w 2)
  have C2 : Hid (Calls Tryz.prog 220 #[.slice a n cap, .pointer (some ⟨w1.heap.size, 0, none⟩)] w2 fun e w' => e = .returned (.bool (allB K 3 n)) ∧ w' = w2) := all1_any a n cap w1.heap.size K 3 w2 ((H.later hB1).later hB2) hn (by rw [hw2]; exact box_at w1 3)
  have A1 : Hid (Calls Tryz.prog 213 #[.int .i64 2] w fun e w' => e = .returned (.func (.func 220) #[] #[.pointer (some ⟨w.heap.size, 0, none⟩)]) ∧ w' = w1) := by rw [hw1]; exact allT_any 2 w
  have A2 : Hid (Calls Tryz.prog 213 #[.int .i64 3] w1 fun e w' => e = .returned (.func (.func 220) #[] #[.pointer (some ⟨w1.heap.size, 0, none⟩)]) ∧ w' = w2) := by rw [hw2]; exact allT_any 3 w1
  clear H hn hw1 hw2
  generalize allB K 2 n = r at C1 ⊢
  generalize allB K 3 n = s at C2 ⊢
  cases r
  · go_enter Tryz.func215, Tryz.ntmps215
    go_wp2_with (first
      | (go_at_call 213; refine A2.out.mono ?_; rintro e w' ⟨rfl, rfl⟩)
      | (go_at_call 213; refine A1.out.mono ?_; rintro e w' ⟨rfl, rfl⟩)
      | (go_at_call 220; refine C2.out.mono ?_; rintro e w' ⟨rfl, rfl⟩)
      | (go_at_call 220; refine C1.out.mono ?_; rintro e w' ⟨rfl, rfl⟩))
    go_ret
    exact ⟨by simp, hB1.trans (hB2.mono hB1.size)⟩
  · go_enter Tryz.func215, Tryz.ntmps215
    go_wp2_with (first
      | (go_at_call 213; refine A1.out.mono ?_; rintro e w' ⟨rfl, rfl⟩)
      | (go_at_call 220; refine C1.out.mono ?_; rintro e w' ⟨rfl, rfl⟩))
    go_ret
    exact ⟨by simp, hB1⟩
end Go.Proofs.YtkfpgkohkhhlhaaGreatDoor
namespace Go.Proofs.YtkfpgkohkhhlhaaGreatDoor
open Go.RowKit

/-- The value of a rule: what it is, and what its parts must be. -/
abbrev ruleV (k : Int) (f : Value) : Value := .agg #[.int .i64 k, f]
abbrev allRuleV (p : Nat) : Value := .func (.func 220) #[] #[.pointer (some ⟨p, 0, none⟩)]
set_option maxRecDepth 100000 in
set_option maxHeartbeats 4000000 in
theorem ruleA (k : Int) (w : World) (h : k = 3 ∨ k = 4 ∨ k = 5 ∨ k = 6 ∨ k = 7 ∨ k = 8) : Calls Tryz.prog 206 #[.int .i64 k] w fun e w' => ∃ p, e = .returned (ruleV 2 (allRuleV p)) ∧ w'.cell? ⟨p, 0, none⟩ = some (.int .i64 2) ∧ Below w.heap.size w w' := by
  have A : Hid (∀ d : World, Calls Tryz.prog 213 _ d _) := fun d => allT_any 2 d
  rcases h with rfl | rfl | rfl | rfl | rfl | rfl
  all_goals (
    go_enter Tryz.func206, Tryz.ntmps206
    go_wp2_with (first | (go_at_call 213; refine (A.out _).mono ?_; rintro e w1 ⟨rfl, rfl⟩)))
  all_goals exact bodyPost_ret (v := ruleV 2 (allRuleV (w.heap.size + 1))) (by simp [results, Tryz.results206, go_sem]) rfl ⟨w.heap.size + 1, rfl, by have := box_at (w.alloc (.cells #[.int .i64 2, allRuleV (w.heap.size + 1)] 267)) 2; rwa [World.size_alloc] at this, ((Below.refl _ _).alloc (Nat.le_refl _) _).alloc (by simp) _⟩
set_option maxRecDepth 100000 in
set_option maxHeartbeats 4000000 in
theorem ruleB (k : Int) (w : World) (h : k = 9 ∨ k = 10) : Calls Tryz.prog 206 #[.int .i64 k] w fun e w' => e = .returned (ruleV 1 (.func (.func 214) #[] #[])) ∧ Below w.heap.size w w' := by
  rcases h with rfl | rfl
  all_goals (
    go_enter Tryz.func206, Tryz.ntmps206
    go_wp2)
  all_goals exact bodyPost_ret (v := ruleV 1 (.func (.func 214) #[] #[])) (by simp [results, Tryz.results206, go_sem]) rfl ⟨rfl, (Below.refl _ _).alloc (Nat.le_refl _) _⟩
set_option maxRecDepth 100000 in
set_option maxHeartbeats 4000000 in
theorem ruleC (k : Int) (w : World) (h : k = 11 ∨ k = 12 ∨ k = 13 ∨ k = 14) : Calls Tryz.prog 206 #[.int .i64 k] w fun e w' => e = .returned (ruleV 1 (.func (.func 215) #[] #[])) ∧ Below w.heap.size w w' := by
  rcases h with rfl | rfl | rfl | rfl
  all_goals (
    go_enter Tryz.func206, Tryz.ntmps206
    go_wp2)
  all_goals exact bodyPost_ret (v := ruleV 1 (.func (.func 215) #[] #[])) (by simp [results, Tryz.results206, go_sem]) rfl ⟨rfl, (Below.refl _ _).alloc (Nat.le_refl _) _⟩
set_option maxRecDepth 100000 in
set_option maxHeartbeats 4000000 in
theorem ruleD (k : Int) (w : World) (h : k = 15 ∨ k = 16 ∨ k = 17) : Calls Tryz.prog 206 #[.int .i64 k] w fun e w' => ∃ p, e = .returned (ruleV 1 (allRuleV p)) ∧ w'.cell? ⟨p, 0, none⟩ = some (.int .i64 1) ∧ Below w.heap.size w w' := by
  have A : Hid (∀ d : World, Calls Tryz.prog 213 _ d _) := fun d => allT_any 1 d
  rcases h with rfl | rfl | rfl
  all_goals (
    go_enter Tryz.func206, Tryz.ntmps206
    go_wp2_with (first | (go_at_call 213; refine (A.out _).mono ?_; rintro e w1 ⟨rfl, rfl⟩)))
  all_goals exact bodyPost_ret (v := ruleV 1 (allRuleV (w.heap.size + 1))) (by simp [results, Tryz.results206, go_sem]) rfl ⟨w.heap.size + 1, rfl, by have := box_at (w.alloc (.cells #[.int .i64 1, allRuleV (w.heap.size + 1)] 267)) 1; rwa [World.size_alloc] at this, ((Below.refl _ _).alloc (Nat.le_refl _) _).alloc (by simp) _⟩
end Go.Proofs.YtkfpgkohkhhlhaaGreatDoor
namespace Go.Proofs.YtkfpgkohkhhlhaaGreatDoor
open Go.RowKit

/-- A condition in a box of its own. -/
theorem one_box (x : X) (w : World) : ∃ A, w.alloc (.cells x.cells 54) = A ∧ Below w.heap.size w A ∧ A.heap.size = w.heap.size + 1 ∧ Node A w.heap.size 0 x :=
  ⟨_, rfl, (Below.refl _ w).alloc (Nat.le_refl _) _, by simp, node_new w _ x⟩
end Go.Proofs.YtkfpgkohkhhlhaaGreatDoor
namespace Go.Proofs.YtkfpgkohkhhlhaaGreatDoor
open Go.RowKit

/-- The field's kind, and what is handed back as its error. -/
def fldK (q : Option Int) : Int := q.getD 0
def fldE (N : Addr) (q : Option Int) : Value := if q.isSome then .nilIface else senV N
def FieldC (nv : Value) (N : Addr) (L : ByteArray → ByteArray → Option Int) (d : World) : Prop :=
  ∀ s f, s.size ≤ maxLen → Calls Tryz.prog 204 #[nv, .string s, .string f] d fun e w' => e = .returned (.tuple #[.int .i64 (fldK (L s f)), fldE N (L s f)]) ∧ Below d.heap.size d w'
set_option maxRecDepth 100000 in
set_option maxHeartbeats 4000000 in
theorem kind_const (nv : Value) (N T : Addr) (x : X) (w : World) (h1 : x.k = 1) : KindC nv N T x x.v.k 0 w := by
  obtain ⟨A, hA, hB, hs, hn⟩ := one_box x w
  obtain ⟨a0, a1, a2, a3, a4, a5, a6⟩ := hn.at0
  have h1' : (x.k == 1) = true := by simp [h1]
  have HB : Hid (Below w.heap.size w A) := hB
  clear hB hn h1
  unfold KindC
  go_enter Tryz.func184, Tryz.ntmps184
  go_wp2
  exact bodyPost_ret (v := .tuple #[.int .i64 x.v.k, .nilIface]) (by simp [results, Tryz.results184, go_sem]) rfl ⟨.nilIface, rfl, .inl ⟨rfl, rfl⟩, HB.out⟩
set_option maxRecDepth 100000 in
set_option maxHeartbeats 4000000 in
theorem kind_field (nv : Value) (N _ : Addr) (L : ByteArray → ByteArray → Option Int) (x : X) (w : World) (h2 : x.k = 2) (hsz : x.s.size ≤ maxLen) (HF : ∀ d, Below w.heap.size w d → FieldC nv N L d) :
    Calls Tryz.prog 184 #[nv, x.val] w fun e w' => e = .returned (.tuple #[.int .i64 (fldK (L x.s x.f)), fldE N (L x.s x.f)]) ∧ Below w.heap.size w w' := by
  obtain ⟨A, hA, hB, hs, hn⟩ := one_box x w
  obtain ⟨a0, a1, a2, a3, a4, a5, a6⟩ := hn.at0
  have h1' : (x.k == 1) = false := by simp [h2]
  have h2' : (x.k == 2) = true := by simp [h2]
  have HB : Hid (Below w.heap.size w A) := hB
  have C : Hid (Calls Tryz.prog 204 _ A _) := HF A hB x.s x.f hsz
  clear hB hn h2 HF hsz
  generalize L x.s x.f = q at C ⊢
  go_enter Tryz.func184, Tryz.ntmps184
  go_wp2_with (first | (go_at_call 204; refine C.out.mono ?_; rintro e w2 ⟨rfl, hB2⟩))
  exact bodyPost_ret (v := .tuple #[.int .i64 (fldK q), fldE N q]) (by simp [results, Tryz.results184, go_sem]) rfl ⟨rfl, HB.out.trans (hB2.mono HB.out.size)⟩
set_option maxRecDepth 100000 in
set_option maxHeartbeats 4000000 in
theorem kind_err (nv : Value) (N T : Addr) (x : X) (e : Int) (w : World) (h3 : 3 ≤ x.k) (h0 : ¬ e = 0) (HP : ∀ d, Below w.heap.size w d → Calls Tryz.prog 205 #[nv, x.slice] d fun r w' => ∃ v, r = .returned (.tuple #[.slice none 0 0, v]) ∧ ErrIs N T e v ∧ Below d.heap.size d w') : KindC nv N T x 0 e w := by
  obtain ⟨A, hA, hB, hs, hn⟩ := one_box x w
  obtain ⟨a0, a1, a2, a3, a4, a5, a6⟩ := hn.at0
  have h1' : (x.k == 1) = false := by simp; omega
  have h2' : (x.k == 2) = false := by simp; omega
  have HB : Hid (Below w.heap.size w A) := hB
  have C : Hid (Calls Tryz.prog 205 _ A _) := HP A hB
  have H0 : Hid (¬ e = 0) := h0
  clear hB hn h3 HP h0
  unfold KindC
  go_enter Tryz.func184, Tryz.ntmps184
  go_wp2_with (first | (go_at_call 205; refine C.out.mono ?_; rintro r w2 ⟨v, rfl, he, hB2⟩; have HV : Hid (ErrIs N T e v) := he; obtain ⟨t1, u1, rfl⟩ := he.some H0.out; clear he))
  exact bodyPost_ret (v := .tuple #[.int .i64 0, .iface t1 u1]) (by simp [results, Tryz.results184, go_sem]) rfl ⟨_, rfl, HV.out, HB.out.trans (hB2.mono HB.out.size)⟩
end Go.Proofs.YtkfpgkohkhhlhaaGreatDoor
