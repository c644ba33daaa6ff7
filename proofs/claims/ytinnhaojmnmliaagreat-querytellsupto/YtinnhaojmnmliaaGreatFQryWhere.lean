/-
  query.Where; the document's Light of queries; law13's awake.
  The document's Where and SameExpr; law13's 'names'.
-/
import Derived.Test.YtinnhaojmnmliaaGreatEBrief
import Derived.Test.YtinnhaojmnmliaaGreatFExprRename
import Derived.Test.YtinnhaojmnmliaaGreatFExprLight
import Derived.Test.YtinnhaojmnmliaaGreatFPatDown
import Derived.Test.YtinnhaojmnmliaaGreatFExprRefOrder
import Derived.BigQuiet
namespace Go.Proofs.YtinnhaojmnmliaaGreat
open Go.RowKit

theorem IsX.keptW {T : Nat → Prop} {W W' : World} (h : Kp T W W') : ∀ {x : X}, (∀ k, inX k x → T k) → IsX W x → IsX W' x := by
  refine @(X.ind fun x ih hT hx => ?_)
  rw [isX_eq] at hx ⊢
  refine ⟨hx.1, hx.2.1, fun i hi => ?_⟩
  obtain ⟨b, o, e, hn, hc⟩ := hx.2.2 i hi
  have hb : T b := hT b ((inX_eq _ _).2 (.inl ⟨by omega, o, e⟩))
  exact ⟨b, o, e, hn.kept h hb, ih i hi (fun k hk => hT k ((inX_eq _ _).2 (.inr ⟨i, hi, hk⟩))) hc⟩
theorem ren_none {g : ByteArray → ByteArray} (hg : ∀ s, g s = s) : ∀ x : X, ordX (renX g x) x = 0 := by
  refine X.ind fun x ih => ?_
  obtain ⟨p1, p2, p3, p4, p5, p6⟩ := renX_parts g x
  refine (ordX_zero _ _).2 ⟨p1, p2, ?_, p4, p5, fun i hi => by rw [p6]; exact ih i (p5 ▸ hi)⟩
  rw [p3, hg]
  simp
/-- What Where hands back: conditions as the parts of one. -/
def WhereAns (x : X) (w : World) (e : Ending) (w' : World) : Prop :=
  ∃ (a : Option Addr) (n cap : Nat) (c : Nat → X), e = .returned (.slice a n cap) ∧ IsX w' (X.mk 16 val0 ⟨#[]⟩ ⟨#[]⟩ a n cap c) ∧ n = (if x.k = 16 then x.n else 1) ∧ (∀ i, i < n → ordX (c i) (if x.k = 16 then x.c i else x) = 0) ∧ Below w.heap.size w w'
set_option maxRecDepth 100000 in
set_option maxHeartbeats 4000000 in
theorem whereQ_any (x : X) (w : World) (hX : IsX w x) (hsm : x.size ≤ 1048576) (hok : XOk x) : Calls Tryz.prog 7 #[x.val] w (WhereAns x w) := by
  have hB : Below w.heap.size w (w.alloc (.cells x.cells 32)) := (Below.refl _ _).alloc (Nat.le_refl _) _
  have C1 : Hid (Calls Tryz.prog 20 #[x.val, .slice none 0 0, .slice none 0 0] (w.alloc (.cells x.cells 32)) _) := renameN_any x none none 0 0 0 0 (fun _ => ⟨#[]⟩) (fun _ => ⟨#[]⟩) _ (hX.later hB) hsm hok (fun h => absurd h (Nat.lt_irrefl _)) (fun h => absurd h (Nat.lt_irrefl _)) (by omega) (by omega) (Nat.le_refl _) (by omega) (fun j hj => absurd hj (Nat.not_lt_zero _))
  have hx0 := alloc_new w (.cells x.cells 32)
  have HX0 : Hid _ := hx0
  obtain ⟨k0, k1, k2, k3, k4, k5, k6⟩ := (node_box hx0).at0
  clear hX hx0
  go_enter Tryz.func7, Tryz.ntmps7
  go_upto_region 2 with (first | (go_at_call 20; refine C1.out.mono ?_; rintro e W1 ⟨y, rfl, hXA, hord, hin, hB1⟩; have u0 := (hB1.block w.heap.size (by simp)).trans HX0.out; obtain ⟨e0, e1, e2, e3, e4, e5, e6⟩ := (node_box u0).at0; have ff : ∀ j, W1.frozen? ⟨w.heap.size, j, none⟩ = false := fun j => Free.frozen ⟨_, u0⟩ j; have f0 := ff 0; have f1 := ff 1; have f2 := ff 2; have f3 := ff 3; have f4 := ff 4; have f5 := ff 5; have f6 := ff 6; clear ff k0 k1 k2 k3 k4 k5 k6))
  clear e0 e1 e2 e3 e4 e5 e6 f0 f1 f2 f3 f4 f5 f6
  obtain ⟨W2, hW2⟩ : ∃ W2, set7 W1 w.heap.size y = W2 := ⟨_, rfl⟩
  have hW2' := hW2
  unfold set7 at hW2'
  rw [hW2']
  have hn2 : W2.heap[w.heap.size]? = some (.cells y.cells 32 (0, 0)) := by rw [← hW2]; exact heap_set7 u0
  have hs2 : W2.heap.size = W1.heap.size := by rw [← hW2]; simp
  have hlt : w.heap.size < W1.heap.size := by have := hB1.size; simp at this; omega
  have HX2 : Hid (IsX W2 y) := by
    show IsX W2 y
    rw [← hW2]
    exact hXA.is.keptW (T := fun k => k ≠ w.heap.size) (fun k o hk _ e => (heap_set7_other hk).trans e) fun k hk => by have := hin k hk; simp at this; omega
  have hB2 : Below w.heap.size w W2 := by rw [← hW2]; exact below_set7 (hB.trans (hB1.mono (by simp))) (Nat.le_refl _)
  have hid : ordX y x = 0 := (ordX_comp y _ x).1 hord (ren_none (fun s => rfl) x)
  obtain ⟨o1, o2, o3, o4, o5, o6⟩ := (ordX_zero _ _).1 hid
  obtain ⟨k0, k1, k2, k3, k4, k5, k6⟩ := (node_box hn2).at0
  have HID : Hid (ordX y x = 0) := hid
  have HO5 : Hid (y.n = x.n) := o5
  have HO6 : Hid (∀ i, i < y.n → ordX (y.c i) (x.c i) = 0) := o6
  have HO1 : Hid (y.k = x.k) := o1
  clear hW2' hW2 u0 hXA hord hin hB1 hB C1 HX0 hid o1 o2 o3 o4 o5 o6 hlt hs2 hn2
  by_cases h16 : y.k = 16
  · have t : (y.k == 16) = true := by simpa using h16
    have HK : Hid (x.k = 16) := HO1.out ▸ h16
    clear h16
    go_wp2
    go_ret
    refine ⟨y.a, y.n, y.cap, y.c, rfl, ?_, ?_, ?_, hB2⟩
    · have := HX2.out
      rw [isX_eq] at this ⊢
      exact this
    · rw [if_pos HK.out]; exact HO5.out
    · intro i hi
      rw [if_pos HK.out]
      exact HO6.out i hi
  · have t : (y.k == 16) = false := by simpa using h16
    have HK : Hid (¬ x.k = 16) := HO1.out ▸ h16
    clear h16
    go_wp2
    go_ret
    have hBl : Below W2.heap.size W2 (W2.alloc (.cells y.cells 32)) := (Below.refl _ _).alloc (Nat.le_refl _) _
    refine ⟨some ⟨W2.heap.size, 0, none⟩, 1, 1, fun _ => y, rfl, ⟨Nat.le_refl _, by omega, fun i hi => ⟨W2.heap.size, 0, rfl, ?_, HX2.out.later hBl⟩⟩, ?_, ?_, hB2.trans (hBl.mono hB2.size)⟩
    · obtain rfl : i = 0 := by omega
      exact node_box (alloc_new W2 (.cells y.cells 32))
    · rw [if_neg HK.out]
    · intro i hi
      rw [if_neg HK.out]
      exact HID.out
set_option maxRecDepth 100000 in
theorem awake13_any (w : World) : Calls Tryz.prog 6 #[] w fun e w' => e = .returned (.bool true) ∧ Below w.heap.size w w' := by
  have C1 : Hid (Calls Tryz.prog 7 #[.agg #[.int .i64 1, .int .i64 0, .int .i64 0, .string ⟨#[]⟩, .string ⟨#[]⟩, .string ⟨#[]⟩, .slice none 0 0]] w _) := whereQ_any (X.mk 1 val0 ⟨#[]⟩ ⟨#[]⟩ none 0 0 (fun _ => .nil)) w ⟨Nat.le_refl _, by omega, fun i hi => absurd hi (Nat.not_lt_zero _)⟩ (by simp [X.size, sumN]) ⟨Nat.zero_le _, Nat.zero_le _, fun i hi => absurd hi (Nat.not_lt_zero _)⟩
  go_enter Tryz.func6, Tryz.ntmps6
  go_wp2_with (first | (go_at_call 7; refine C1.out.mono ?_; rintro e W1 ⟨a, n, cap, c, rfl, _, hn, _, hB1⟩; rw [if_neg (by simp [X.k])] at hn; subst hn))
  go_ret
  exact ⟨rfl, hB1⟩
/-- One of the two. -/
def SomeB (w : World) (e : Ending) (w' : World) : Prop := ∃ b : Bool, e = .returned (.bool b) ∧ Below w.heap.size w w'
set_option maxRecDepth 100000 in
set_option maxHeartbeats 4000000 in
theorem lightQ_any (q : Qy) (w : World) (hQ : IsQ w q) (hsm : q.bulk ≤ 1048576) : Calls Tryz.prog 5 #[q.val] w (SomeB w) := by
  unfold Qy.bulk at hsm
  have hB0 : Below w.heap.size w (w.alloc (.cells q.cells 28)) := (Below.refl _ _).alloc (Nat.le_refl _) _
  have C1 : Hid (Calls Tryz.prog 18 #[q.p.val] (w.alloc (.cells q.cells 28)) _) := refSizeP_any q.p _ (hQ.p.later hB0) (by omega)
  have HI : Hid (∀ i, i < q.n → ∀ W, Below w.heap.size w W → Calls Tryz.prog 19 #[(q.c i).val] W fun e w' => e = .returned (.int .i64 (szZ (q.c i))) ∧ Below W.heap.size W w') := fun i hi W hW => by
    obtain ⟨_, _, _, _, h1⟩ := (hQ.x.later hW).part (x := q.x) hi
    exact refSize_any _ W h1
  have HQ : Hid (IsQ w q) := hQ
  have qb := QB.new w q
  have QB0 : Hid (QB (w.alloc (.cells q.cells 28)) w.heap.size q) := qb
  obtain ⟨⟨k0, k1, k2, k3, k4, k5⟩, -⟩ := qb.at0
  have hlen : q.n ≤ 9223372036854775807 := hQ.x.len
  have HB0 : Hid (Below w.heap.size w (w.alloc (.cells q.cells 28))) := hB0
  clear hQ qb hB0
  go_enter Tryz.func5, Tryz.ntmps5
  go_wp2_with (first | (go_at_call 18; refine C1.out.mono ?_; rintro e w1 ⟨rfl, hB1⟩))
  have hw1 : Below w.heap.size w w1 := HB0.out.trans (hB1.mono HB0.out.size)
  have QB1 : Hid (QB w1 w.heap.size q) := QB0.out.later hB1
  clear k0 k1 k2 k3 k4 k5 C1 QB0 HB0 hB1
  go_loopw [3, 4] (fun u v wr => ∃ (k : Nat) (z : Int), k ≤ q.n ∧ u = .int .i64 z ∧ v = .int .i64 k ∧ Below w1.heap.size w1 wr) (fun _ v _ => q.n - (intOf v).toNat)
  case atStart => exact ⟨0, _, Nat.zero_le _, rfl, rfl, Below.refl _ _⟩
  case round =>
    obtain ⟨k, z, hk, rfl, rfl, hB⟩ := hrel
    have hw := hw1.trans (hB.mono hw1.size)
    obtain ⟨-, c6, -, -, -, c10⟩ := (QB1.out.later hB).at0
    by_cases hkn : k < q.n
    · obtain ⟨b, o, ea, hn, -⟩ := (HQ.out.x.later hw).part (x := q.x) hkn
      have ea1 : q.a = some ⟨b, o, none⟩ := ea
      rw [ea1] at c6
      have hn1 : Node wr b (o + k * 7) (q.c k) := hn
      obtain ⟨d0, d1, d2, d3, d4, d5, d6⟩ := hn1
      have hc := HI.out k hkn wr hw
      have HKN : Hid (k < q.n) := hkn
      clear ea ea1 hn
      go_wp2_with (first | (go_at_call 19; refine hc.mono ?_; clear hc; rintro e w2 ⟨rfl, hB2⟩))
      refine ⟨⟨k + 1, _, HKN.out, rfl, by simp, hB.trans (hB2.mono hB.size)⟩, ?_⟩
      have := HKN.out
      simp [intOf]
      omega
    · obtain rfl : k = q.n := by omega
      go_wp2
      all_goals go_ret
      all_goals exact ⟨_, rfl, hw⟩
end Go.Proofs.YtinnhaojmnmliaaGreat
namespace Go.Proofs.YtinnhaojmnmliaaGreat
open Go.RowKit

set_option maxRecDepth 100000 in
set_option maxHeartbeats 4000000 in
theorem refWhereQ_any (x : X) (w : World) (hX : IsX w x) : Calls Tryz.prog 8 #[x.val] w (WhereAns x w) := by
  have hB : Below w.heap.size w (w.alloc (.cells x.cells 32)) := (Below.refl _ _).alloc (Nat.le_refl _) _
  have HX : Hid (IsX (w.alloc (.cells x.cells 32)) x) := hX.later hB
  have HB : Hid (Below w.heap.size w (w.alloc (.cells x.cells 32))) := hB
  have hx0 := alloc_new w (.cells x.cells 32)
  obtain ⟨k0, k1, k2, k3, k4, k5, k6⟩ := (node_box hx0).at0
  clear hX hx0 hB
  by_cases h16 : x.k = 16
  · have t : (x.k == 16) = true := by simpa using h16
    have HK : Hid (x.k = 16) := h16
    clear h16
    go_enter Tryz.func8, Tryz.ntmps8
    go_wp2
    go_ret
    refine ⟨x.a, x.n, x.cap, x.c, rfl, ?_, ?_, ?_, HB.out⟩
    · have := HX.out
      rw [isX_eq] at this ⊢
      exact this
    · rw [if_pos HK.out]
    · intro i hi
      rw [if_pos HK.out]
      exact ordX_self _
  · have t : (x.k == 16) = false := by simpa using h16
    have HK : Hid (¬ x.k = 16) := h16
    clear h16
    go_enter Tryz.func8, Tryz.ntmps8
    go_wp2
    go_ret
    obtain ⟨W2, hW2⟩ : ∃ W2, W2 = w.alloc (.cells x.cells 32) := ⟨_, rfl⟩
    have hs : W2.heap.size = w.heap.size + 1 := by rw [hW2]; simp
    have hBl : Below W2.heap.size W2 (W2.alloc (.cells x.cells 32)) := (Below.refl _ _).alloc (Nat.le_refl _) _
    have HX2 := HX.out
    have HB2 := HB.out
    rw [← hW2] at HX2 HB2
    refine ⟨some ⟨W2.heap.size, 0, none⟩, 1, 1, fun _ => x, by rw [hs]; rfl, ?_, ?_, ?_, ?_⟩
    · have : IsX (W2.alloc (.cells x.cells 32)) (X.mk 16 val0 ⟨#[]⟩ ⟨#[]⟩ (some ⟨W2.heap.size, 0, none⟩) 1 1 fun _ => x) := ⟨Nat.le_refl _, by omega, fun i hi => ⟨W2.heap.size, 0, rfl, by
        obtain rfl : i = 0 := by omega
        exact node_box (alloc_new W2 (.cells x.cells 32)), HX2.later hBl⟩⟩
      rw [hW2] at this
      rw [hW2]
      exact this
    · rw [if_neg HK.out]
    · intro i hi
      rw [if_neg HK.out]
      exact ordX_self _
    · have := HB2.trans (hBl.mono HB2.size)
      rw [hW2] at this
      exact this
set_option maxRecDepth 100000 in
set_option maxHeartbeats 4000000 in
theorem sameX13_any (x y : X) (w : World) (hX : IsX w x) (hY : IsX w y) : Calls Tryz.prog 9 #[x.val, y.val] w fun e w' => e = .returned (.bool (ordX x y == 0)) ∧ Below w.heap.size w w' := by
  obtain ⟨A, hA, hB, hs, hn, hm⟩ := two_boxes x y w
  obtain ⟨a0, a1, a2, a3, a4, a5, a6⟩ := hn.at0
  obtain ⟨b0, b1, b2, b3, b4, b5, b6⟩ := hm.at0
  have C1 : Hid (∀ d, Below A.heap.size A d → Calls Tryz.prog 21 #[x.val, y.val] d fun e w' => e = .returned (.bool (ordX x y == 0)) ∧ Below d.heap.size d w') := fun d h => refSameX_any x y d ((hX.later hB).later h) ((hY.later hB).later h)
  have HB : Hid (Below w.heap.size w A) := hB
  obtain ⟨z, hz⟩ : ∃ z, z = (ordX x y == 0) := ⟨_, rfl⟩
  rw [← hz] at C1 ⊢
  clear hX hY hB hn hm hz
  go_enter Tryz.func9, Tryz.ntmps9
  go_upto_region 1 with fail
  clear hA
  go_wp2_with (first | (go_at_call 21; refine (C1.out _ (Below.refl _ _)).mono ?_; rintro e w1 ⟨rfl, hB1⟩))
  go_ret
  exact ⟨rfl, HB.out.trans (hB1.mono HB.out.size)⟩
set_option maxRecDepth 100000 in
set_option maxHeartbeats 1000000 in
theorem names13_same (a a' : Option Addr) (n cap cap' : Nat) (S : Nat → ByteArray) (w : World) (h : Txs w a n S) (h' : Txs w a' n S) (hn : n ≤ 1048576) :
    Calls Tryz.prog 14 #[.slice a n cap, .slice a' n cap'] w fun e w' => e = .returned (.bool true) ∧ Below w.heap.size w w' := by
  have HT : Hid (Txs w a n S) := h
  have HU : Hid (Txs w a' n S) := h'
  clear h h'
  go_enter Tryz.func14, Tryz.ntmps14
  go_wp2
  go_loopw [5] (fun i wr => ∃ k : Nat, k ≤ n ∧ i = .int .i64 k ∧ Below w.heap.size w wr) (fun i _ => n - (intOf i).toNat)
  case atStart => exact ⟨0, Nat.zero_le _, rfl, Below.refl _ _⟩
  case round =>
    obtain ⟨k, hk, rfl, hB⟩ := hrel
    by_cases hkn : k < n
    · obtain ⟨b, o, rfl, hc⟩ := (HT.out.later hB) (by omega)
      obtain ⟨b', o', rfl, hc'⟩ := (HU.out.later hB) (by omega)
      have c := hc k hkn
      have c' := hc' k hkn
      have HK : Hid (k < n) := hkn
      clear hc hc'
      go_wp2_with fail
      go_quiet (fail)
      go_wp2
      go_roundw
      case rel => exact ⟨k + 1, HK.out, by go_num, bd hB _⟩
      case measure => have := HK.out; simp [intOf]; omega
    · obtain rfl : k = n := by omega
      go_wp2
      go_ret
      exact ⟨rfl, hB⟩
end Go.Proofs.YtinnhaojmnmliaaGreat
