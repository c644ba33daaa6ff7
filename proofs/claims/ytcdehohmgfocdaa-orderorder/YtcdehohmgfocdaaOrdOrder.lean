/-
  OrderOrder's walk: Whole is an order, Form does not hang on names.
-/
import Derived.Test.YtcdehohmgfocdaaOrdWide
import Derived.Test.YtcdehohmgfocdaaPatRefRename
namespace Go.Proofs.Ytcdehohmgfocdaa
open Go.RowKit

def threeP (x y z : Pt) : Nat → Pt
  | 0 => x
  | 1 => y
  | _ => z
theorem boxP_three (x y z : Pt) (w : World) : ∃ A, ((w.alloc (.cells x.cells 27)).alloc (.cells y.cells 27)).alloc (.cells z.cells 27) = A ∧ Below w.heap.size w A ∧ A.heap.size = w.heap.size + 3 ∧ NodeP A w.heap.size 0 x ∧ NodeP A (w.heap.size + 1) 0 y ∧ NodeP A (w.heap.size + 1 + 1) 0 z := by
  obtain ⟨B, hB, h1, h2, h3, h4⟩ := boxP_two x y w
  rw [hB]
  obtain ⟨A, hA, g1, g2, g3⟩ := boxP_one z B
  refine ⟨A, hA, h1.trans (g1.mono h1.size), by omega, h3.later g1, h4.later g1, ?_⟩
  rw [h2] at g3
  exact g3
theorem threeP_row {w : World} {x y z : Pt} (hX : IsP w x) (hY : IsP w y) (hZ : IsP w z) : ∃ A, w.alloc (.cells #[.int .i64 x.k, .string x.s, .string x.t, .int .i64 x.lo, .int .i64 x.hi, .slice x.a x.n x.cap, .int .i64 y.k, .string y.s, .string y.t, .int .i64 y.lo, .int .i64 y.hi, .slice y.a y.n y.cap, .int .i64 z.k, .string z.s, .string z.t, .int .i64 z.lo, .int .i64 z.hi, .slice z.a z.n z.cap] 27) = A ∧ Below w.heap.size w A ∧ Ps A (some ⟨w.heap.size, 0, none⟩) 3 (threeP x y z) := by
  have hB : ∀ o, Below w.heap.size w (w.alloc o) := fun o => (Below.refl _ w).alloc (Nat.le_refl _) o
  refine ⟨_, rfl, hB _, fun i hi => ⟨w.heap.size, 0, rfl, ?_⟩⟩
  match i, hi with
  | 0, _ => exact ⟨by refine ⟨?_, ?_, ?_, ?_, ?_, ?_⟩ <;> simp [threeP], hX.later (hB _)⟩
  | 1, _ => exact ⟨by refine ⟨?_, ?_, ?_, ?_, ?_, ?_⟩ <;> simp [threeP], hY.later (hB _)⟩
  | 2, _ => exact ⟨by refine ⟨?_, ?_, ?_, ?_, ?_, ?_⟩ <;> simp [threeP], hZ.later (hB _)⟩
set_option maxRecDepth 100000 in
set_option maxHeartbeats 2000000 in
theorem orderOrder_no (x y z : Pt) (a1 a2 : Option Addr) (m1 m2 c1 c2 : Nat) (w : World) (hX : IsP w x) (hY : IsP w y) (hZ : IsP w z) (hl : litB (threeP x y z) 3 = false) :
    Calls Try.prog 4 #[x.val, y.val, z.val, .slice a1 m1 c1, .slice a2 m2 c2] w fun e w' => e = .returned (.bool true) ∧ Below w.heap.size w w' := by
  obtain ⟨A, hA, hB, hs, hn, hm, hk⟩ := boxP_three x y z w
  obtain ⟨a0, a1', a2', a3, a4, a5⟩ := hn.at0
  obtain ⟨b0, b1, b2, b3, b4, b5⟩ := hm.at0
  obtain ⟨k0, k1, k2, k3, k4, k5⟩ := hk.at0
  obtain ⟨C, hC, hBC, hP⟩ := threeP_row (hX.later hB) (hY.later hB) (hZ.later hB)
  have HB : Hid (Below w.heap.size w C) := hB.trans (hBC.mono hB.size)
  have L1 : Hid (Calls Try.prog 6 #[.slice (some ⟨A.heap.size, 0, none⟩) 3 3] C fun e w' => e = .returned (.bool false) ∧ Below C.heap.size C w') := by
    have := lightW_any _ 3 3 _ C (by omega) hP
    rw [hl] at this
    exact this
  have W1 : Hid (∀ d, Calls Try.prog 8 #[] d fun e w' => e = .returned (.bool true) ∧ Below d.heap.size d w') := fun d => awake15_any d
  clear hB hn hm hk hX hY hZ hl hP hBC hs
  go_enter Try.func4, Try.ntmps4
  go_wp2_with (first
    | (go_at_call 6; refine L1.out.mono ?_; clear L1; rintro e w1 ⟨rfl, hB1⟩)
    | (go_at_call 8; refine (W1.out _).mono ?_; clear W1; rintro e w2 ⟨rfl, hB2⟩))
  go_ret
  exact ⟨rfl, HB.out.trans ((hB1.trans (hB2.mono hB1.size)).mono HB.out.size)⟩
set_option maxRecDepth 100000 in
set_option maxHeartbeats 16000000 in
theorem orderOrder_a (x y z : Pt) (a1 a2 : Option Addr) (m1 m2 c1 c2 : Nat) (S T : Nat → ByteArray) (w : World) (hX : IsP w x) (hY : IsP w y) (hZ : IsP w z) (sx : WdP x) (hS : Txs w a1 m1 S) (hT' : Txs w a2 m2 T) (hm1 : m1 ≤ 9223372036854775807) (hm2 : m2 ≤ 9223372036854775807)
    (hl : litB (threeP x y z) 3 = true) (hp : wholeP x y = (-1)) (hf : formP x y = 0) (hq : wholeP y z ≤ 0) :
    Calls Try.prog 4 #[x.val, y.val, z.val, .slice a1 m1 c1, .slice a2 m2 c2] w fun e w' => e = .returned (.bool true) ∧ Below w.heap.size w w' := by
  obtain ⟨A, hA, hB, hs, hn, hm, hk⟩ := boxP_three x y z w
  obtain ⟨a0, a1', a2', a3, a4, a5⟩ := hn.at0
  obtain ⟨b0, b1, b2, b3, b4, b5⟩ := hm.at0
  obtain ⟨k0, k1, k2, k3, k4, k5⟩ := hk.at0
  obtain ⟨C, hC, hBC, hP⟩ := threeP_row (hX.later hB) (hY.later hB) (hZ.later hB)
  have HB : Hid (Below w.heap.size w C) := hB.trans (hBC.mono hB.size)
  have NX : Hid (NodeP C w.heap.size 0 x) := hn.later hBC
  have NY : Hid (NodeP C (w.heap.size + 1) 0 y) := hm.later hBC
  have NZ : Hid (NodeP C (w.heap.size + 1 + 1) 0 z) := hk.later hBC
  have L1 : Hid (Calls Try.prog 6 #[.slice (some ⟨A.heap.size, 0, none⟩) 3 3] C fun e w' => e = .returned (.bool true) ∧ Below C.heap.size C w') := by
    have := lightW_any _ 3 3 _ C (by omega) hP
    rw [hl] at this
    exact this
  have W1 : Hid (∀ d, Calls Try.prog 8 #[] d fun e w' => e = .returned (.bool true) ∧ Below d.heap.size d w') := fun d => awake15_any d
  obtain ⟨q, hqq⟩ : ∃ q, q = wholeP y z := ⟨_, rfl⟩
  obtain ⟨r, hr⟩ : ∃ r, r = wholeP x z := ⟨_, rfl⟩
  rw [← hqq] at hq
  have hrr : r ≤ 0 := by rw [hr]; exact whole3.le (by rw [hp]; decide) (by rw [← hqq]; exact hq)
  have Kxy : Hid (∀ d, Below w.heap.size w d → Calls Try.prog 17 #[x.val, y.val] d fun e w' => e = .returned (.int .i64 (-1)) ∧ Below d.heap.size d w') := fun d h => by rw [← hp]; exact wholeP_any x y d (hX.later h) (hY.later h)
  have Kyz : Hid (∀ d, Below w.heap.size w d → Calls Try.prog 17 #[y.val, z.val] d fun e w' => e = .returned (.int .i64 q) ∧ Below d.heap.size d w') := fun d h => by rw [hqq]; exact wholeP_any y z d (hY.later h) (hZ.later h)
  have Kyx : Hid (∀ d, Below w.heap.size w d → Calls Try.prog 17 #[y.val, x.val] d fun e w' => e = .returned (.int .i64 1) ∧ Below d.heap.size d w') := fun d h => by
    have := wholeP_any y x d (hY.later h) (hX.later h)
    rw [whole3.turn x y, hp] at this
    exact this
  have Kxz : Hid (∀ d, Below w.heap.size w d → Calls Try.prog 17 #[x.val, z.val] d fun e w' => e = .returned (.int .i64 r) ∧ Below d.heap.size d w') := fun d h => by rw [hr]; exact wholeP_any x z d (hX.later h) (hZ.later h)
  have Ksm : Hid (∀ d, Below w.heap.size w d → Calls Try.prog 15 #[x.val, y.val] d fun e w' => e = .returned (.bool false) ∧ Below d.heap.size d w') := fun d h => by
    have := refSameP_any x y d (hX.later h) (hY.later h)
    rw [show sameP x y = false from (Bool.eq_false_iff.2 fun h => by rw [(whole_sm x y).2 h] at hp; cases hp)] at this
    exact this
  have Krn : Hid (∀ d, Below w.heap.size w d → Calls Try.prog 18 #[x.val, .slice a1 m1 c1, .slice a2 m2 c2] d fun e w' => ∃ g : Pt, e = .returned g.val ∧ Hid (IsP w' g ∧ formP x g = 0 ∧ formP g y = 0) ∧ Below d.heap.size d w') := fun d hd => by
    refine (refRenameP_wide a1 a2 m1 m2 c1 c2 S T hm1 hm2 x d (hX.later hd) sx (hS.later hd) (hT'.later hd)).mono ?_
    rintro e w' ⟨g, rfl, q1, q2, _, q3⟩
    have e0 : formP x g = 0 := form3.eq (form_ren _ x) (by rw [form3.turn, form_sm q2]; rfl)
    exact ⟨g, rfl, ⟨q1, e0, by rw [← hf]; exact (ord_left form3 tri_form e0).symm⟩, q3⟩
  have IX : Hid (∀ d, Below w.heap.size w d → IsP d x) := fun d h => hX.later h
  have IY : Hid (∀ d, Below w.heap.size w d → IsP d y) := fun d h => hY.later h
  have F3' : Hid (∀ d, Below w.heap.size w d → Calls Try.prog 19 #[x.val, y.val] d fun e w' => e = .returned (.int .i64 0) ∧ Below d.heap.size d w') := fun d h => by rw [← hf]; exact formP_any x y d (hX.later h) (hY.later h)
  clear hB hn hm hk hX hY hZ hl hP hBC hs sx hqq hr hp hf hS hT' hm1 hm2
  go_enter Try.func4, Try.ntmps4
  go_upto_region 7 with (first
    | (go_at_call 6; refine L1.out.mono ?_; clear L1; rintro e w1 ⟨rfl, hB1⟩; have h1 := HB.out.trans (hB1.mono HB.out.size); obtain ⟨a0, a1', a2', a3, a4, a5⟩ := (NX.out.later hB1).at0; obtain ⟨b0, b1, b2, b3, b4, b5⟩ := (NY.out.later hB1).at0)
    | (go_at_call 17; refine (Kxz.out _ h5).mono ?_; clear Kxz; rintro e w6 ⟨rfl, hB6⟩)
    | (go_at_call 17; refine (Kyx.out _ h4).mono ?_; clear Kyx; rintro e w5 ⟨rfl, hB5⟩; have h5 := h4.trans (hB5.mono h4.size); have g5 := g4.trans (hB5.mono g4.size); obtain ⟨a0, a1', a2', a3, a4, a5⟩ := (NX.out.later g5).at0; obtain ⟨k0, k1, k2, k3, k4, k5⟩ := (NZ.out.later g5).at0)
    | (go_at_call 15; refine (Ksm.out _ h3).mono ?_; clear Ksm; rintro e w4 ⟨rfl, hB4⟩; have h4 := h3.trans (hB4.mono h3.size); have g4 := g3.trans (hB4.mono g3.size); obtain ⟨a0, a1', a2', a3, a4, a5⟩ := (NX.out.later g4).at0; obtain ⟨b0, b1, b2, b3, b4, b5⟩ := (NY.out.later g4).at0)
    | (go_at_call 17; refine (Kyz.out _ h2).mono ?_; clear Kyz; rintro e w3 ⟨rfl, hB3⟩; have h3 := h2.trans (hB3.mono h2.size); have g3 := g2.trans (hB3.mono g2.size); obtain ⟨a0, a1', a2', a3, a4, a5⟩ := (NX.out.later g3).at0; obtain ⟨b0, b1, b2, b3, b4, b5⟩ := (NY.out.later g3).at0)
    | (go_at_call 17; refine (Kxy.out _ h1).mono ?_; clear Kxy; rintro e w2 ⟨rfl, hB2⟩; have h2 := h1.trans (hB2.mono h1.size); have g2 := hB1.trans (hB2.mono hB1.size); obtain ⟨b0, b1, b2, b3, b4, b5⟩ := (NY.out.later g2).at0; obtain ⟨k0, k1, k2, k3, k4, k5⟩ := (NZ.out.later g2).at0))
  have h6 := h5.trans (hB6.mono h5.size)
  have g6 := g5.trans (hB6.mono g5.size)
  obtain ⟨u0, u1, u2, u3, u4, u5⟩ := (NX.out.later g6).at0
  go_upto_region 8 with (go_at_call 18; refine (Krn.out _ h6).mono ?_; clear Krn; rintro e w7 ⟨g, rfl, hg, hB7⟩; obtain ⟨V, hV, hBV, -, hNV⟩ := boxP_one g w7)
  have h7 := h6.trans (hB7.mono h6.size)
  have g7 := g6.trans (hB7.mono g6.size)
  have HV : Hid (Below w.heap.size w V) := h7.trans (hBV.mono h7.size)
  have gV := g7.trans (hBV.mono g7.size)
  have PX : Hid (NodeP V w.heap.size 0 x) := NX.out.later gV
  have PY : Hid (NodeP V (w.heap.size + 1) 0 y) := NY.out.later gV
  have PD : Hid (NodeP V w7.heap.size 0 g) := hNV
  have F1 : Hid (∀ d, Below V.heap.size V d → Calls Try.prog 19 #[x.val, g.val] d fun e w' => e = .returned (.int .i64 0) ∧ Below d.heap.size d w') := fun d h => by
    have hd := HV.out.trans (h.mono HV.out.size)
    have := formP_any x g d (IX.out d hd) ((hg.out.1.later hBV).later h)
    rw [hg.out.2.1] at this
    exact this
  have F2 : Hid (∀ d, Below V.heap.size V d → Calls Try.prog 19 #[g.val, y.val] d fun e w' => e = .returned (.int .i64 0) ∧ Below d.heap.size d w') := fun d h => by
    have hd := HV.out.trans (h.mono HV.out.size)
    have := formP_any g y d ((hg.out.1.later hBV).later h) (IY.out d hd)
    rw [hg.out.2.2] at this
    exact this
  have F3 : Hid (∀ d, Below V.heap.size V d → Calls Try.prog 19 #[x.val, y.val] d fun e w' => e = .returned (.int .i64 0) ∧ Below d.heap.size d w') := fun d h => F3'.out d (HV.out.trans (h.mono HV.out.size))
  clear F3' IX IY hg h7 g7 gV hBV hNV hB7 h6 g6 NX NY NZ hA hC u0 u1 u2 u3 u4 u5
  refine wp_region_noPanic ?_
  refine wp_region_held_drew (S := fun w' => Below V.heap.size V w') (by kernel_rfl) ((Below.refl _ _).drew) (fun hHeld => ?_)
  have hT : Below V.heap.size V V.drew := hHeld
  obtain ⟨d, hdw⟩ : ∃ d, d = V.drew := ⟨_, rfl⟩
  rw [← hdw] at hHeld hT ⊢
  clear hdw
  refine wpAnyH_take (i := 0) (oi := ⟨some 59, Op.load 27 (Operand.tmp 5), 27, _, _, _⟩) (v := ?v0a) rfl (by kernel_rfl) (by kernel_rfl) (by kernel_rfl) (fun _ _ _ h => h) (Or.inl ⟨by rfl, ?hy0a⟩) hHeld ?rest0a
  case hy0a => intro w9 hSw; obtain ⟨d0, d1, d2, d3, d4, d5⟩ := (PX.out.later hSw).at0; go_simp; (try with_reducible rfl)
  try simp only [Act.put, List.setIfInBounds_toArray, List.set_cons_zero, List.set_cons_succ]
  refine wpAnyH_take (i := 1) (oi := ⟨some 60, Op.load 27 (Operand.tmp 13), 27, _, _, _⟩) (v := ?v1a) rfl (by kernel_rfl) (by kernel_rfl) (by kernel_rfl) (fun _ _ _ h => h) (Or.inl ⟨by rfl, ?hy1a⟩) hHeld ?rest1a
  case hy1a => intro w9 hSw; obtain ⟨d0, d1, d2, d3, d4, d5⟩ := (PD.out.later hSw).at0; go_simp; (try with_reducible rfl)
  try simp only [Act.put, List.setIfInBounds_toArray, List.set_cons_zero, List.set_cons_succ]
  refine wpAnyH_ready (rs := [2]) (by kernel_rfl) (by simp) ?_
  refine AllReadyH.cons (o := ⟨some 61, Op.call { callee := Callee.value (Operand.func 19), args := #[Operand.tmp 59, Operand.tmp 60], argTypes := #[27, 27] }, 3, _, _, _⟩) rfl (fun K hK => ?_) AllReadyH.nil
  go_simp
  refine (F1.out _ hT).mono ?_
  rintro e x2 ⟨rfl, hN2⟩
  go_wp2_with fail
  have hT2 : Below V.heap.size V x2 := hT.trans (hN2.mono hT.size)
  refine hK.out _ _ (hHeld.trans (hN2.mono hHeld.size)) (fun _ => held_up (S' := fun w' => Below x2.heap.size x2 w') (fun w' h' => (hHeld.trans (hN2.mono hHeld.size)).trans (h'.mono (Nat.le_trans hHeld.size hN2.size))) _ _ _ _ ?_)
  clear hK K hHeld hT
  have hT : Below V.heap.size V x2 := hT2
  have hHeld : Below x2.heap.size x2 x2 := Below.refl _ _
  clear hT2 hN2
  try simp only [Act.put, List.setIfInBounds_toArray, List.set_cons_zero, List.set_cons_succ]
  refine wpAnyH_take (i := 3) (oi := ⟨some 62, Op.binOp BinOp.eql 3 (Operand.tmp 61) (Operand.const (Value.int IntKind.i64 0)) 3, 4, _, _, _⟩) (v := ?v3a) rfl (by kernel_rfl) (by kernel_rfl) (by kernel_rfl) (fun _ _ _ h => h) (Or.inl ⟨by rfl, ?hy3a⟩) hHeld ?rest3a
  case hy3a => intro w9 hSw; go_simp; (try with_reducible rfl)
  try simp only [Act.put, List.setIfInBounds_toArray, List.set_cons_zero, List.set_cons_succ]
  refine wpAnyH_take (i := 4) (oi := ⟨some 63, Op.move (Operand.tmp 62), 4, _, _, _⟩) (v := ?v4a) rfl (by kernel_rfl) (by kernel_rfl) (by kernel_rfl) (fun _ _ _ h => h) (Or.inl ⟨by rfl, ?hy4a⟩) hHeld ?rest4a
  case hy4a => intro w9 hSw; go_simp; (try with_reducible rfl)
  try simp only [Act.put, List.setIfInBounds_toArray, List.set_cons_zero, List.set_cons_succ]
  refine wpAnyH_take (i := 5) (oi := ⟨some 64, Op.load 27 (Operand.tmp 13), 27, _, _, _⟩) (v := ?v5a) rfl (by kernel_rfl) (by kernel_rfl) (by kernel_rfl) (fun _ _ _ h => h) (Or.inl ⟨by rfl, ?hy5a⟩) hHeld ?rest5a
  case hy5a => intro w9 hSw; obtain ⟨d0, d1, d2, d3, d4, d5⟩ := (PD.out.later (hT.trans (hSw.mono hT.size))).at0; go_simp; (try with_reducible rfl)
  try simp only [Act.put, List.setIfInBounds_toArray, List.set_cons_zero, List.set_cons_succ]
  refine wpAnyH_take (i := 6) (oi := ⟨some 65, Op.load 27 (Operand.tmp 6), 27, _, _, _⟩) (v := ?v6a) rfl (by kernel_rfl) (by kernel_rfl) (by kernel_rfl) (fun _ _ _ h => h) (Or.inl ⟨by rfl, ?hy6a⟩) hHeld ?rest6a
  case hy6a => intro w9 hSw; obtain ⟨d0, d1, d2, d3, d4, d5⟩ := (PY.out.later (hT.trans (hSw.mono hT.size))).at0; go_simp; (try with_reducible rfl)
  try simp only [Act.put, List.setIfInBounds_toArray, List.set_cons_zero, List.set_cons_succ]
  refine wpAnyH_take (i := 8) (oi := ⟨some 67, Op.load 27 (Operand.tmp 5), 27, _, _, _⟩) (v := ?v8a) rfl (by kernel_rfl) (by kernel_rfl) (by kernel_rfl) (fun _ _ _ h => h) (Or.inl ⟨by rfl, ?hy8a⟩) hHeld ?rest8a
  case hy8a => intro w9 hSw; obtain ⟨d0, d1, d2, d3, d4, d5⟩ := (PX.out.later (hT.trans (hSw.mono hT.size))).at0; go_simp; (try with_reducible rfl)
  try simp only [Act.put, List.setIfInBounds_toArray, List.set_cons_zero, List.set_cons_succ]
  refine wpAnyH_take (i := 9) (oi := ⟨some 68, Op.load 27 (Operand.tmp 6), 27, _, _, _⟩) (v := ?v9a) rfl (by kernel_rfl) (by kernel_rfl) (by kernel_rfl) (fun _ _ _ h => h) (Or.inl ⟨by rfl, ?hy9a⟩) hHeld ?rest9a
  case hy9a => intro w9 hSw; obtain ⟨d0, d1, d2, d3, d4, d5⟩ := (PY.out.later (hT.trans (hSw.mono hT.size))).at0; go_simp; (try with_reducible rfl)
  try simp only [Act.put, List.setIfInBounds_toArray, List.set_cons_zero, List.set_cons_succ]
  refine wpAnyH_ready (rs := [7]) (by kernel_rfl) (by simp) ?_
  refine AllReadyH.cons (o := ⟨some 66, Op.call { callee := Callee.value (Operand.func 19), args := #[Operand.tmp 64, Operand.tmp 65], argTypes := #[27, 27] }, 3, _, _, _⟩) rfl (fun K hK => ?_) AllReadyH.nil
  go_simp
  refine (F2.out _ hT).mono ?_
  rintro e x7 ⟨rfl, hN7⟩
  go_wp2_with fail
  have hT7 : Below V.heap.size V x7 := hT.trans (hN7.mono hT.size)
  refine hK.out _ _ (hHeld.trans (hN7.mono hHeld.size)) (fun _ => held_up (S' := fun w' => Below x7.heap.size x7 w') (fun w' h' => (hHeld.trans (hN7.mono hHeld.size)).trans (h'.mono (Nat.le_trans hHeld.size hN7.size))) _ _ _ _ ?_)
  clear hK K hHeld hT
  have hT : Below V.heap.size V x7 := hT7
  have hHeld : Below x7.heap.size x7 x7 := Below.refl _ _
  clear hT7 hN7
  try simp only [Act.put, List.setIfInBounds_toArray, List.set_cons_zero, List.set_cons_succ]
  refine wpAnyH_ready (rs := [10]) (by kernel_rfl) (by simp) ?_
  refine AllReadyH.cons (o := ⟨some 69, Op.call { callee := Callee.value (Operand.func 19), args := #[Operand.tmp 67, Operand.tmp 68], argTypes := #[27, 27] }, 3, _, _, _⟩) rfl (fun K hK => ?_) AllReadyH.nil
  go_simp
  refine (F3.out _ hT).mono ?_
  rintro e x10 ⟨rfl, hN10⟩
  go_wp2_with fail
  have hT10 : Below V.heap.size V x10 := hT.trans (hN10.mono hT.size)
  refine hK.out _ _ (hHeld.trans (hN10.mono hHeld.size)) (fun _ => held_up (S' := fun w' => Below x10.heap.size x10 w') (fun w' h' => (hHeld.trans (hN10.mono hHeld.size)).trans (h'.mono (Nat.le_trans hHeld.size hN10.size))) _ _ _ _ ?_)
  clear hK K hHeld hT
  have hT : Below V.heap.size V x10 := hT10
  have hHeld : Below x10.heap.size x10 x10 := Below.refl _ _
  clear hT10 hN10
  try simp only [Act.put, List.setIfInBounds_toArray, List.set_cons_zero, List.set_cons_succ]
  refine wpAnyH_take (i := 11) (oi := ⟨some 70, Op.binOp BinOp.eql 3 (Operand.tmp 66) (Operand.tmp 69) 3, 4, _, _, _⟩) (v := ?v11a) rfl (by kernel_rfl) (by kernel_rfl) (by kernel_rfl) (fun _ _ _ h => h) (Or.inl ⟨by rfl, ?hy11a⟩) hHeld ?rest11a
  case hy11a => intro w9 hSw; go_simp; (try with_reducible rfl)
  try simp only [Act.put, List.setIfInBounds_toArray, List.set_cons_zero, List.set_cons_succ]
  refine wpAnyH_take (i := 12) (oi := ⟨some 71, Op.pick (Operand.tmp 63) (Operand.tmp 70) (Operand.const (Value.bool false)), 4, _, _, _⟩) (v := ?v12a) rfl (by kernel_rfl) (by kernel_rfl) (by kernel_rfl) (fun _ _ _ h => h) (Or.inl ⟨by rfl, ?hy12a⟩) hHeld ?rest12a
  case hy12a => intro w9 hSw; go_simp; (try with_reducible rfl)
  try simp only [Act.put, List.setIfInBounds_toArray, List.set_cons_zero, List.set_cons_succ]
  refine wpAnyH_take (i := 13) (oi := ⟨some 72, Op.move (Operand.tmp 71), 4, _, _, _⟩) (v := ?v13a) rfl (by kernel_rfl) (by kernel_rfl) (by kernel_rfl) (fun _ _ _ h => h) (Or.inl ⟨by rfl, ?hy13a⟩) hHeld ?rest13a
  case hy13a => intro w9 hSw; go_simp; (try with_reducible rfl)
  try simp only [Act.put, List.setIfInBounds_toArray, List.set_cons_zero, List.set_cons_succ]
  refine wpAnyH_take (i := 14) (oi := ⟨some 73, Op.load 27 (Operand.tmp 5), 27, _, _, _⟩) (v := ?v14a) rfl (by kernel_rfl) (by kernel_rfl) (by kernel_rfl) (fun _ _ _ h => h) (Or.inl ⟨by rfl, ?hy14a⟩) hHeld ?rest14a
  case hy14a => intro w9 hSw; obtain ⟨d0, d1, d2, d3, d4, d5⟩ := (PX.out.later (hT.trans (hSw.mono hT.size))).at0; go_simp; (try with_reducible rfl)
  try simp only [Act.put, List.setIfInBounds_toArray, List.set_cons_zero, List.set_cons_succ]
  refine wpAnyH_take (i := 15) (oi := ⟨some 74, Op.load 27 (Operand.tmp 6), 27, _, _, _⟩) (v := ?v15a) rfl (by kernel_rfl) (by kernel_rfl) (by kernel_rfl) (fun _ _ _ h => h) (Or.inl ⟨by rfl, ?hy15a⟩) hHeld ?rest15a
  case hy15a => intro w9 hSw; obtain ⟨d0, d1, d2, d3, d4, d5⟩ := (PY.out.later (hT.trans (hSw.mono hT.size))).at0; go_simp; (try with_reducible rfl)
  try simp only [Act.put, List.setIfInBounds_toArray, List.set_cons_zero, List.set_cons_succ]
  refine wpAnyH_ready (rs := [16]) (by kernel_rfl) (by simp) ?_
  refine AllReadyH.cons (o := ⟨some 75, Op.call { callee := Callee.value (Operand.func 19), args := #[Operand.tmp 73, Operand.tmp 74], argTypes := #[27, 27] }, 3, _, _, _⟩) rfl (fun K hK => ?_) AllReadyH.nil
  go_simp
  refine (F3.out _ hT).mono ?_
  rintro e x16 ⟨rfl, hN16⟩
  go_wp2_with fail
  have hT16 : Below V.heap.size V x16 := hT.trans (hN16.mono hT.size)
  refine hK.out _ _ (hHeld.trans (hN16.mono hHeld.size)) (fun _ => held_up (S' := fun w' => Below x16.heap.size x16 w') (fun w' h' => (hHeld.trans (hN16.mono hHeld.size)).trans (h'.mono (Nat.le_trans hHeld.size hN16.size))) _ _ _ _ ?_)
  clear hK K hHeld hT
  have hT : Below V.heap.size V x16 := hT16
  have hHeld : Below x16.heap.size x16 x16 := Below.refl _ _
  clear hT16 hN16
  try simp only [Act.put, List.setIfInBounds_toArray, List.set_cons_zero, List.set_cons_succ]
  refine wpAnyH_take (i := 17) (oi := ⟨some 76, Op.binOp BinOp.eql 3 (Operand.tmp 75) (Operand.const (Value.int IntKind.i64 0)) 3, 4, _, _, _⟩) (v := ?v17a) rfl (by kernel_rfl) (by kernel_rfl) (by kernel_rfl) (fun _ _ _ h => h) (Or.inl ⟨by rfl, ?hy17a⟩) hHeld ?rest17a
  case hy17a => intro w9 hSw; go_simp; (try with_reducible rfl)
  try simp only [Act.put, List.setIfInBounds_toArray, List.set_cons_zero, List.set_cons_succ]
  refine wpAnyH_take (i := 18) (oi := ⟨some 77, Op.move (Operand.tmp 76), 4, _, _, _⟩) (v := ?v18a) rfl (by kernel_rfl) (by kernel_rfl) (by kernel_rfl) (fun _ _ _ h => h) (Or.inl ⟨by rfl, ?hy18a⟩) hHeld ?rest18a
  case hy18a => intro w9 hSw; go_simp; (try with_reducible rfl)
  try simp only [Act.put, List.setIfInBounds_toArray, List.set_cons_zero, List.set_cons_succ]
  refine wpAnyH_take (i := 19) (oi := ⟨some 78, Op.load 27 (Operand.tmp 5), 27, _, _, _⟩) (v := undef) rfl (by kernel_rfl) (by kernel_rfl) (by kernel_rfl) (fun _ _ _ h => h) (Or.inr ⟨by rfl, rfl⟩) hHeld ?rest19a
  try simp only [Act.put, List.setIfInBounds_toArray, List.set_cons_zero, List.set_cons_succ]
  refine wpAnyH_take (i := 20) (oi := ⟨some 79, Op.load 27 (Operand.tmp 6), 27, _, _, _⟩) (v := undef) rfl (by kernel_rfl) (by kernel_rfl) (by kernel_rfl) (fun _ _ _ h => h) (Or.inr ⟨by rfl, rfl⟩) hHeld ?rest20a
  try simp only [Act.put, List.setIfInBounds_toArray, List.set_cons_zero, List.set_cons_succ]
  refine wpAnyH_take (i := 21) (oi := ⟨some 80, Op.call { callee := Callee.value (Operand.func 19), args := #[Operand.tmp 78, Operand.tmp 79], argTypes := #[27, 27] }, 3, _, _, _⟩) (v := undef) rfl (by kernel_rfl) (by kernel_rfl) (by kernel_rfl) (fun _ _ _ h => h) (Or.inr ⟨by rfl, rfl⟩) hHeld ?rest21a
  try simp only [Act.put, List.setIfInBounds_toArray, List.set_cons_zero, List.set_cons_succ]
  refine wpAnyH_take (i := 22) (oi := ⟨some 81, Op.move (Operand.tmp 11), 3, _, _, _⟩) (v := undef) rfl (by kernel_rfl) (by kernel_rfl) (by kernel_rfl) (fun _ _ _ h => h) (Or.inr ⟨by rfl, rfl⟩) hHeld ?rest22a
  try simp only [Act.put, List.setIfInBounds_toArray, List.set_cons_zero, List.set_cons_succ]
  refine wpAnyH_take (i := 23) (oi := ⟨some 82, Op.binOp BinOp.eql 3 (Operand.tmp 80) (Operand.tmp 81) 3, 4, _, _, _⟩) (v := undef) rfl (by kernel_rfl) (by kernel_rfl) (by kernel_rfl) (fun _ _ _ h => h) (Or.inr ⟨by rfl, rfl⟩) hHeld ?rest23a
  try simp only [Act.put, List.setIfInBounds_toArray, List.set_cons_zero, List.set_cons_succ]
  refine wpAnyH_take (i := 24) (oi := ⟨some 83, Op.pick (Operand.tmp 77) (Operand.const (Value.bool true)) (Operand.tmp 82), 4, _, _, _⟩) (v := ?v24a) rfl (by kernel_rfl) (by kernel_rfl) (by kernel_rfl) (fun _ _ _ h => h) (Or.inl ⟨by rfl, ?hy24a⟩) hHeld ?rest24a
  case hy24a => intro w9 hSw; go_simp; (try with_reducible rfl)
  try simp only [Act.put, List.setIfInBounds_toArray, List.set_cons_zero, List.set_cons_succ]
  refine wpAnyH_take (i := 25) (oi := ⟨some 84, Op.pick (Operand.tmp 72) (Operand.tmp 83) (Operand.const (Value.bool false)), 4, _, _, _⟩) (v := ?v25a) rfl (by kernel_rfl) (by kernel_rfl) (by kernel_rfl) (fun _ _ _ h => h) (Or.inl ⟨by rfl, ?hy25a⟩) hHeld ?rest25a
  case hy25a => intro w9 hSw; go_simp; (try with_reducible rfl)
  try simp only [Act.put, List.setIfInBounds_toArray, List.set_cons_zero, List.set_cons_succ]
  refine wpAnyH_take (i := 26) (oi := ⟨some 85, Op.move (Operand.tmp 84), 4, _, _, _⟩) (v := ?v26a) rfl (by kernel_rfl) (by kernel_rfl) (by kernel_rfl) (fun _ _ _ h => h) (Or.inl ⟨by rfl, ?hy26a⟩) hHeld ?rest26a
  case hy26a => intro w9 hSw; go_simp; (try with_reducible rfl)
  try simp only [Act.put, List.setIfInBounds_toArray, List.set_cons_zero, List.set_cons_succ]
  refine wpAnyH_ready (rs := [27]) (by kernel_rfl) (by simp) ?_
  refine AllReadyH.cons (o := ⟨some 86, Op.call { callee := Callee.value (Operand.func 8), args := #[], argTypes := #[] }, 4, _, _, _⟩) rfl (fun K hK => ?_) AllReadyH.nil
  go_simp
  refine (W1.out _).mono ?_
  rintro e x27 ⟨rfl, hN27⟩
  go_wp2_with fail
  have hT27 : Below V.heap.size V x27 := hT.trans (hN27.mono hT.size)
  refine hK.out _ _ (hHeld.trans (hN27.mono hHeld.size)) (fun _ => held_up (S' := fun w' => Below x27.heap.size x27 w') (fun w' h' => (hHeld.trans (hN27.mono hHeld.size)).trans (h'.mono (Nat.le_trans hHeld.size hN27.size))) _ _ _ _ ?_)
  clear hK K hHeld hT
  have hT : Below V.heap.size V x27 := hT27
  have hHeld : Below x27.heap.size x27 x27 := Below.refl _ _
  clear hT27 hN27
  try simp only [Act.put, List.setIfInBounds_toArray, List.set_cons_zero, List.set_cons_succ]
  refine wpAnyH_take (i := 28) (oi := ⟨some 87, Op.pick (Operand.tmp 85) (Operand.tmp 86) (Operand.const (Value.bool false)), 4, _, _, _⟩) (v := ?v28a) rfl (by kernel_rfl) (by kernel_rfl) (by kernel_rfl) (fun _ _ _ h => h) (Or.inl ⟨by rfl, ?hy28a⟩) hHeld ?rest28a
  case hy28a => intro w9 hSw; go_simp; (try with_reducible rfl)
  try simp only [Act.put, List.setIfInBounds_toArray, List.set_cons_zero, List.set_cons_succ]
  refine wpAnyH_take (i := 29) (oi := ⟨some 10, Op.assign (Operand.tmp 87), 4, _, _, _⟩) (v := ?v29a) rfl (by kernel_rfl) (by kernel_rfl) (by kernel_rfl) (fun _ _ _ h => h) (Or.inl ⟨by rfl, ?hy29a⟩) hHeld ?rest29a
  case hy29a => intro w9 hSw; go_simp; (try with_reducible rfl)
  try simp only [Act.put, List.setIfInBounds_toArray, List.set_cons_zero, List.set_cons_succ]
  refine wpAnyH_done (by kernel_rfl) ?_ _
  refine NoPanic.normal ?_
  go_wp2
  go_ret
  exact ⟨rfl, HV.out.trans (hT.mono HV.out.size)⟩
set_option maxRecDepth 100000 in
set_option maxHeartbeats 16000000 in
theorem orderOrder_b (x y z : Pt) (a1 a2 : Option Addr) (m1 m2 c1 c2 : Nat) (S T : Nat → ByteArray) (w : World) (hX : IsP w x) (hY : IsP w y) (hZ : IsP w z) (sx : WdP x) (hS : Txs w a1 m1 S) (hT' : Txs w a2 m2 T) (hm1 : m1 ≤ 9223372036854775807) (hm2 : m2 ≤ 9223372036854775807)
    (hl : litB (threeP x y z) 3 = true) (hp : wholeP x y = (-1)) (hf : formP x y = 0) (hq : ¬ wholeP y z ≤ 0) :
    Calls Try.prog 4 #[x.val, y.val, z.val, .slice a1 m1 c1, .slice a2 m2 c2] w fun e w' => e = .returned (.bool true) ∧ Below w.heap.size w w' := by
  obtain ⟨A, hA, hB, hs, hn, hm, hk⟩ := boxP_three x y z w
  obtain ⟨a0, a1', a2', a3, a4, a5⟩ := hn.at0
  obtain ⟨b0, b1, b2, b3, b4, b5⟩ := hm.at0
  obtain ⟨k0, k1, k2, k3, k4, k5⟩ := hk.at0
  obtain ⟨C, hC, hBC, hP⟩ := threeP_row (hX.later hB) (hY.later hB) (hZ.later hB)
  have HB : Hid (Below w.heap.size w C) := hB.trans (hBC.mono hB.size)
  have NX : Hid (NodeP C w.heap.size 0 x) := hn.later hBC
  have NY : Hid (NodeP C (w.heap.size + 1) 0 y) := hm.later hBC
  have NZ : Hid (NodeP C (w.heap.size + 1 + 1) 0 z) := hk.later hBC
  have L1 : Hid (Calls Try.prog 6 #[.slice (some ⟨A.heap.size, 0, none⟩) 3 3] C fun e w' => e = .returned (.bool true) ∧ Below C.heap.size C w') := by
    have := lightW_any _ 3 3 _ C (by omega) hP
    rw [hl] at this
    exact this
  have W1 : Hid (∀ d, Calls Try.prog 8 #[] d fun e w' => e = .returned (.bool true) ∧ Below d.heap.size d w') := fun d => awake15_any d
  obtain ⟨q, hqq⟩ : ∃ q, q = wholeP y z := ⟨_, rfl⟩
  obtain ⟨r, hr⟩ : ∃ r, r = wholeP x z := ⟨_, rfl⟩
  rw [← hqq] at hq
  have Kxy : Hid (∀ d, Below w.heap.size w d → Calls Try.prog 17 #[x.val, y.val] d fun e w' => e = .returned (.int .i64 (-1)) ∧ Below d.heap.size d w') := fun d h => by rw [← hp]; exact wholeP_any x y d (hX.later h) (hY.later h)
  have Kyz : Hid (∀ d, Below w.heap.size w d → Calls Try.prog 17 #[y.val, z.val] d fun e w' => e = .returned (.int .i64 q) ∧ Below d.heap.size d w') := fun d h => by rw [hqq]; exact wholeP_any y z d (hY.later h) (hZ.later h)
  have Kyx : Hid (∀ d, Below w.heap.size w d → Calls Try.prog 17 #[y.val, x.val] d fun e w' => e = .returned (.int .i64 1) ∧ Below d.heap.size d w') := fun d h => by
    have := wholeP_any y x d (hY.later h) (hX.later h)
    rw [whole3.turn x y, hp] at this
    exact this
  have Kxz : Hid (∀ d, Below w.heap.size w d → Calls Try.prog 17 #[x.val, z.val] d fun e w' => e = .returned (.int .i64 r) ∧ Below d.heap.size d w') := fun d h => by rw [hr]; exact wholeP_any x z d (hX.later h) (hZ.later h)
  have Ksm : Hid (∀ d, Below w.heap.size w d → Calls Try.prog 15 #[x.val, y.val] d fun e w' => e = .returned (.bool false) ∧ Below d.heap.size d w') := fun d h => by
    have := refSameP_any x y d (hX.later h) (hY.later h)
    rw [show sameP x y = false from (Bool.eq_false_iff.2 fun h => by rw [(whole_sm x y).2 h] at hp; cases hp)] at this
    exact this
  have Krn : Hid (∀ d, Below w.heap.size w d → Calls Try.prog 18 #[x.val, .slice a1 m1 c1, .slice a2 m2 c2] d fun e w' => ∃ g : Pt, e = .returned g.val ∧ Hid (IsP w' g ∧ formP x g = 0 ∧ formP g y = 0) ∧ Below d.heap.size d w') := fun d hd => by
    refine (refRenameP_wide a1 a2 m1 m2 c1 c2 S T hm1 hm2 x d (hX.later hd) sx (hS.later hd) (hT'.later hd)).mono ?_
    rintro e w' ⟨g, rfl, q1, q2, _, q3⟩
    have e0 : formP x g = 0 := form3.eq (form_ren _ x) (by rw [form3.turn, form_sm q2]; rfl)
    exact ⟨g, rfl, ⟨q1, e0, by rw [← hf]; exact (ord_left form3 tri_form e0).symm⟩, q3⟩
  have IX : Hid (∀ d, Below w.heap.size w d → IsP d x) := fun d h => hX.later h
  have IY : Hid (∀ d, Below w.heap.size w d → IsP d y) := fun d h => hY.later h
  have F3' : Hid (∀ d, Below w.heap.size w d → Calls Try.prog 19 #[x.val, y.val] d fun e w' => e = .returned (.int .i64 0) ∧ Below d.heap.size d w') := fun d h => by rw [← hf]; exact formP_any x y d (hX.later h) (hY.later h)
  clear hB hn hm hk hX hY hZ hl hP hBC hs sx hqq hr hp hf hS hT' hm1 hm2
  go_enter Try.func4, Try.ntmps4
  go_upto_region 7 with (first
    | (go_at_call 6; refine L1.out.mono ?_; clear L1; rintro e w1 ⟨rfl, hB1⟩; have h1 := HB.out.trans (hB1.mono HB.out.size); obtain ⟨a0, a1', a2', a3, a4, a5⟩ := (NX.out.later hB1).at0; obtain ⟨b0, b1, b2, b3, b4, b5⟩ := (NY.out.later hB1).at0)
    | (go_at_call 17; refine (Kxz.out _ h5).mono ?_; clear Kxz; rintro e w6 ⟨rfl, hB6⟩)
    | (go_at_call 17; refine (Kyx.out _ h4).mono ?_; clear Kyx; rintro e w5 ⟨rfl, hB5⟩; have h5 := h4.trans (hB5.mono h4.size); have g5 := g4.trans (hB5.mono g4.size); obtain ⟨a0, a1', a2', a3, a4, a5⟩ := (NX.out.later g5).at0; obtain ⟨k0, k1, k2, k3, k4, k5⟩ := (NZ.out.later g5).at0)
    | (go_at_call 15; refine (Ksm.out _ h3).mono ?_; clear Ksm; rintro e w4 ⟨rfl, hB4⟩; have h4 := h3.trans (hB4.mono h3.size); have g4 := g3.trans (hB4.mono g3.size); obtain ⟨a0, a1', a2', a3, a4, a5⟩ := (NX.out.later g4).at0; obtain ⟨b0, b1, b2, b3, b4, b5⟩ := (NY.out.later g4).at0)
    | (go_at_call 17; refine (Kyz.out _ h2).mono ?_; clear Kyz; rintro e w3 ⟨rfl, hB3⟩; have h3 := h2.trans (hB3.mono h2.size); have g3 := g2.trans (hB3.mono g2.size); obtain ⟨a0, a1', a2', a3, a4, a5⟩ := (NX.out.later g3).at0; obtain ⟨b0, b1, b2, b3, b4, b5⟩ := (NY.out.later g3).at0)
    | (go_at_call 17; refine (Kxy.out _ h1).mono ?_; clear Kxy; rintro e w2 ⟨rfl, hB2⟩; have h2 := h1.trans (hB2.mono h1.size); have g2 := hB1.trans (hB2.mono hB1.size); obtain ⟨b0, b1, b2, b3, b4, b5⟩ := (NY.out.later g2).at0; obtain ⟨k0, k1, k2, k3, k4, k5⟩ := (NZ.out.later g2).at0))
  have h6 := h5
  have g6 := g5
  obtain ⟨u0, u1, u2, u3, u4, u5⟩ := (NX.out.later g6).at0
  go_upto_region 8 with (go_at_call 18; refine (Krn.out _ h6).mono ?_; clear Krn; rintro e w7 ⟨g, rfl, hg, hB7⟩; obtain ⟨V, hV, hBV, -, hNV⟩ := boxP_one g w7)
  have h7 := h6.trans (hB7.mono h6.size)
  have g7 := g6.trans (hB7.mono g6.size)
  have HV : Hid (Below w.heap.size w V) := h7.trans (hBV.mono h7.size)
  have gV := g7.trans (hBV.mono g7.size)
  have PX : Hid (NodeP V w.heap.size 0 x) := NX.out.later gV
  have PY : Hid (NodeP V (w.heap.size + 1) 0 y) := NY.out.later gV
  have PD : Hid (NodeP V w7.heap.size 0 g) := hNV
  have F1 : Hid (∀ d, Below V.heap.size V d → Calls Try.prog 19 #[x.val, g.val] d fun e w' => e = .returned (.int .i64 0) ∧ Below d.heap.size d w') := fun d h => by
    have hd := HV.out.trans (h.mono HV.out.size)
    have := formP_any x g d (IX.out d hd) ((hg.out.1.later hBV).later h)
    rw [hg.out.2.1] at this
    exact this
  have F2 : Hid (∀ d, Below V.heap.size V d → Calls Try.prog 19 #[g.val, y.val] d fun e w' => e = .returned (.int .i64 0) ∧ Below d.heap.size d w') := fun d h => by
    have hd := HV.out.trans (h.mono HV.out.size)
    have := formP_any g y d ((hg.out.1.later hBV).later h) (IY.out d hd)
    rw [hg.out.2.2] at this
    exact this
  have F3 : Hid (∀ d, Below V.heap.size V d → Calls Try.prog 19 #[x.val, y.val] d fun e w' => e = .returned (.int .i64 0) ∧ Below d.heap.size d w') := fun d h => F3'.out d (HV.out.trans (h.mono HV.out.size))
  clear F3' IX IY hg h7 g7 gV hBV hNV hB7 h6 g6 NX NY NZ hA hC u0 u1 u2 u3 u4 u5
  refine wp_region_noPanic ?_
  refine wp_region_held_drew (S := fun w' => Below V.heap.size V w') (by kernel_rfl) ((Below.refl _ _).drew) (fun hHeld => ?_)
  have hT : Below V.heap.size V V.drew := hHeld
  obtain ⟨d, hdw⟩ : ∃ d, d = V.drew := ⟨_, rfl⟩
  rw [← hdw] at hHeld hT ⊢
  clear hdw
  refine wpAnyH_take (i := 0) (oi := ⟨some 59, Op.load 27 (Operand.tmp 5), 27, _, _, _⟩) (v := ?v0b) rfl (by kernel_rfl) (by kernel_rfl) (by kernel_rfl) (fun _ _ _ h => h) (Or.inl ⟨by rfl, ?hy0b⟩) hHeld ?rest0b
  case hy0b => intro w9 hSw; obtain ⟨d0, d1, d2, d3, d4, d5⟩ := (PX.out.later hSw).at0; go_simp; (try with_reducible rfl)
  try simp only [Act.put, List.setIfInBounds_toArray, List.set_cons_zero, List.set_cons_succ]
  refine wpAnyH_take (i := 1) (oi := ⟨some 60, Op.load 27 (Operand.tmp 13), 27, _, _, _⟩) (v := ?v1b) rfl (by kernel_rfl) (by kernel_rfl) (by kernel_rfl) (fun _ _ _ h => h) (Or.inl ⟨by rfl, ?hy1b⟩) hHeld ?rest1b
  case hy1b => intro w9 hSw; obtain ⟨d0, d1, d2, d3, d4, d5⟩ := (PD.out.later hSw).at0; go_simp; (try with_reducible rfl)
  try simp only [Act.put, List.setIfInBounds_toArray, List.set_cons_zero, List.set_cons_succ]
  refine wpAnyH_ready (rs := [2]) (by kernel_rfl) (by simp) ?_
  refine AllReadyH.cons (o := ⟨some 61, Op.call { callee := Callee.value (Operand.func 19), args := #[Operand.tmp 59, Operand.tmp 60], argTypes := #[27, 27] }, 3, _, _, _⟩) rfl (fun K hK => ?_) AllReadyH.nil
  go_simp
  refine (F1.out _ hT).mono ?_
  rintro e x2 ⟨rfl, hN2⟩
  go_wp2_with fail
  have hT2 : Below V.heap.size V x2 := hT.trans (hN2.mono hT.size)
  refine hK.out _ _ (hHeld.trans (hN2.mono hHeld.size)) (fun _ => held_up (S' := fun w' => Below x2.heap.size x2 w') (fun w' h' => (hHeld.trans (hN2.mono hHeld.size)).trans (h'.mono (Nat.le_trans hHeld.size hN2.size))) _ _ _ _ ?_)
  clear hK K hHeld hT
  have hT : Below V.heap.size V x2 := hT2
  have hHeld : Below x2.heap.size x2 x2 := Below.refl _ _
  clear hT2 hN2
  try simp only [Act.put, List.setIfInBounds_toArray, List.set_cons_zero, List.set_cons_succ]
  refine wpAnyH_take (i := 3) (oi := ⟨some 62, Op.binOp BinOp.eql 3 (Operand.tmp 61) (Operand.const (Value.int IntKind.i64 0)) 3, 4, _, _, _⟩) (v := ?v3b) rfl (by kernel_rfl) (by kernel_rfl) (by kernel_rfl) (fun _ _ _ h => h) (Or.inl ⟨by rfl, ?hy3b⟩) hHeld ?rest3b
  case hy3b => intro w9 hSw; go_simp; (try with_reducible rfl)
  try simp only [Act.put, List.setIfInBounds_toArray, List.set_cons_zero, List.set_cons_succ]
  refine wpAnyH_take (i := 4) (oi := ⟨some 63, Op.move (Operand.tmp 62), 4, _, _, _⟩) (v := ?v4b) rfl (by kernel_rfl) (by kernel_rfl) (by kernel_rfl) (fun _ _ _ h => h) (Or.inl ⟨by rfl, ?hy4b⟩) hHeld ?rest4b
  case hy4b => intro w9 hSw; go_simp; (try with_reducible rfl)
  try simp only [Act.put, List.setIfInBounds_toArray, List.set_cons_zero, List.set_cons_succ]
  refine wpAnyH_take (i := 5) (oi := ⟨some 64, Op.load 27 (Operand.tmp 13), 27, _, _, _⟩) (v := ?v5b) rfl (by kernel_rfl) (by kernel_rfl) (by kernel_rfl) (fun _ _ _ h => h) (Or.inl ⟨by rfl, ?hy5b⟩) hHeld ?rest5b
  case hy5b => intro w9 hSw; obtain ⟨d0, d1, d2, d3, d4, d5⟩ := (PD.out.later (hT.trans (hSw.mono hT.size))).at0; go_simp; (try with_reducible rfl)
  try simp only [Act.put, List.setIfInBounds_toArray, List.set_cons_zero, List.set_cons_succ]
  refine wpAnyH_take (i := 6) (oi := ⟨some 65, Op.load 27 (Operand.tmp 6), 27, _, _, _⟩) (v := ?v6b) rfl (by kernel_rfl) (by kernel_rfl) (by kernel_rfl) (fun _ _ _ h => h) (Or.inl ⟨by rfl, ?hy6b⟩) hHeld ?rest6b
  case hy6b => intro w9 hSw; obtain ⟨d0, d1, d2, d3, d4, d5⟩ := (PY.out.later (hT.trans (hSw.mono hT.size))).at0; go_simp; (try with_reducible rfl)
  try simp only [Act.put, List.setIfInBounds_toArray, List.set_cons_zero, List.set_cons_succ]
  refine wpAnyH_take (i := 8) (oi := ⟨some 67, Op.load 27 (Operand.tmp 5), 27, _, _, _⟩) (v := ?v8b) rfl (by kernel_rfl) (by kernel_rfl) (by kernel_rfl) (fun _ _ _ h => h) (Or.inl ⟨by rfl, ?hy8b⟩) hHeld ?rest8b
  case hy8b => intro w9 hSw; obtain ⟨d0, d1, d2, d3, d4, d5⟩ := (PX.out.later (hT.trans (hSw.mono hT.size))).at0; go_simp; (try with_reducible rfl)
  try simp only [Act.put, List.setIfInBounds_toArray, List.set_cons_zero, List.set_cons_succ]
  refine wpAnyH_take (i := 9) (oi := ⟨some 68, Op.load 27 (Operand.tmp 6), 27, _, _, _⟩) (v := ?v9b) rfl (by kernel_rfl) (by kernel_rfl) (by kernel_rfl) (fun _ _ _ h => h) (Or.inl ⟨by rfl, ?hy9b⟩) hHeld ?rest9b
  case hy9b => intro w9 hSw; obtain ⟨d0, d1, d2, d3, d4, d5⟩ := (PY.out.later (hT.trans (hSw.mono hT.size))).at0; go_simp; (try with_reducible rfl)
  try simp only [Act.put, List.setIfInBounds_toArray, List.set_cons_zero, List.set_cons_succ]
  refine wpAnyH_ready (rs := [7]) (by kernel_rfl) (by simp) ?_
  refine AllReadyH.cons (o := ⟨some 66, Op.call { callee := Callee.value (Operand.func 19), args := #[Operand.tmp 64, Operand.tmp 65], argTypes := #[27, 27] }, 3, _, _, _⟩) rfl (fun K hK => ?_) AllReadyH.nil
  go_simp
  refine (F2.out _ hT).mono ?_
  rintro e x7 ⟨rfl, hN7⟩
  go_wp2_with fail
  have hT7 : Below V.heap.size V x7 := hT.trans (hN7.mono hT.size)
  refine hK.out _ _ (hHeld.trans (hN7.mono hHeld.size)) (fun _ => held_up (S' := fun w' => Below x7.heap.size x7 w') (fun w' h' => (hHeld.trans (hN7.mono hHeld.size)).trans (h'.mono (Nat.le_trans hHeld.size hN7.size))) _ _ _ _ ?_)
  clear hK K hHeld hT
  have hT : Below V.heap.size V x7 := hT7
  have hHeld : Below x7.heap.size x7 x7 := Below.refl _ _
  clear hT7 hN7
  try simp only [Act.put, List.setIfInBounds_toArray, List.set_cons_zero, List.set_cons_succ]
  refine wpAnyH_ready (rs := [10]) (by kernel_rfl) (by simp) ?_
  refine AllReadyH.cons (o := ⟨some 69, Op.call { callee := Callee.value (Operand.func 19), args := #[Operand.tmp 67, Operand.tmp 68], argTypes := #[27, 27] }, 3, _, _, _⟩) rfl (fun K hK => ?_) AllReadyH.nil
  go_simp
  refine (F3.out _ hT).mono ?_
  rintro e x10 ⟨rfl, hN10⟩
  go_wp2_with fail
  have hT10 : Below V.heap.size V x10 := hT.trans (hN10.mono hT.size)
  refine hK.out _ _ (hHeld.trans (hN10.mono hHeld.size)) (fun _ => held_up (S' := fun w' => Below x10.heap.size x10 w') (fun w' h' => (hHeld.trans (hN10.mono hHeld.size)).trans (h'.mono (Nat.le_trans hHeld.size hN10.size))) _ _ _ _ ?_)
  clear hK K hHeld hT
  have hT : Below V.heap.size V x10 := hT10
  have hHeld : Below x10.heap.size x10 x10 := Below.refl _ _
  clear hT10 hN10
  try simp only [Act.put, List.setIfInBounds_toArray, List.set_cons_zero, List.set_cons_succ]
  refine wpAnyH_take (i := 11) (oi := ⟨some 70, Op.binOp BinOp.eql 3 (Operand.tmp 66) (Operand.tmp 69) 3, 4, _, _, _⟩) (v := ?v11b) rfl (by kernel_rfl) (by kernel_rfl) (by kernel_rfl) (fun _ _ _ h => h) (Or.inl ⟨by rfl, ?hy11b⟩) hHeld ?rest11b
  case hy11b => intro w9 hSw; go_simp; (try with_reducible rfl)
  try simp only [Act.put, List.setIfInBounds_toArray, List.set_cons_zero, List.set_cons_succ]
  refine wpAnyH_take (i := 12) (oi := ⟨some 71, Op.pick (Operand.tmp 63) (Operand.tmp 70) (Operand.const (Value.bool false)), 4, _, _, _⟩) (v := ?v12b) rfl (by kernel_rfl) (by kernel_rfl) (by kernel_rfl) (fun _ _ _ h => h) (Or.inl ⟨by rfl, ?hy12b⟩) hHeld ?rest12b
  case hy12b => intro w9 hSw; go_simp; (try with_reducible rfl)
  try simp only [Act.put, List.setIfInBounds_toArray, List.set_cons_zero, List.set_cons_succ]
  refine wpAnyH_take (i := 13) (oi := ⟨some 72, Op.move (Operand.tmp 71), 4, _, _, _⟩) (v := ?v13b) rfl (by kernel_rfl) (by kernel_rfl) (by kernel_rfl) (fun _ _ _ h => h) (Or.inl ⟨by rfl, ?hy13b⟩) hHeld ?rest13b
  case hy13b => intro w9 hSw; go_simp; (try with_reducible rfl)
  try simp only [Act.put, List.setIfInBounds_toArray, List.set_cons_zero, List.set_cons_succ]
  refine wpAnyH_take (i := 14) (oi := ⟨some 73, Op.load 27 (Operand.tmp 5), 27, _, _, _⟩) (v := ?v14b) rfl (by kernel_rfl) (by kernel_rfl) (by kernel_rfl) (fun _ _ _ h => h) (Or.inl ⟨by rfl, ?hy14b⟩) hHeld ?rest14b
  case hy14b => intro w9 hSw; obtain ⟨d0, d1, d2, d3, d4, d5⟩ := (PX.out.later (hT.trans (hSw.mono hT.size))).at0; go_simp; (try with_reducible rfl)
  try simp only [Act.put, List.setIfInBounds_toArray, List.set_cons_zero, List.set_cons_succ]
  refine wpAnyH_take (i := 15) (oi := ⟨some 74, Op.load 27 (Operand.tmp 6), 27, _, _, _⟩) (v := ?v15b) rfl (by kernel_rfl) (by kernel_rfl) (by kernel_rfl) (fun _ _ _ h => h) (Or.inl ⟨by rfl, ?hy15b⟩) hHeld ?rest15b
  case hy15b => intro w9 hSw; obtain ⟨d0, d1, d2, d3, d4, d5⟩ := (PY.out.later (hT.trans (hSw.mono hT.size))).at0; go_simp; (try with_reducible rfl)
  try simp only [Act.put, List.setIfInBounds_toArray, List.set_cons_zero, List.set_cons_succ]
  refine wpAnyH_ready (rs := [16]) (by kernel_rfl) (by simp) ?_
  refine AllReadyH.cons (o := ⟨some 75, Op.call { callee := Callee.value (Operand.func 19), args := #[Operand.tmp 73, Operand.tmp 74], argTypes := #[27, 27] }, 3, _, _, _⟩) rfl (fun K hK => ?_) AllReadyH.nil
  go_simp
  refine (F3.out _ hT).mono ?_
  rintro e x16 ⟨rfl, hN16⟩
  go_wp2_with fail
  have hT16 : Below V.heap.size V x16 := hT.trans (hN16.mono hT.size)
  refine hK.out _ _ (hHeld.trans (hN16.mono hHeld.size)) (fun _ => held_up (S' := fun w' => Below x16.heap.size x16 w') (fun w' h' => (hHeld.trans (hN16.mono hHeld.size)).trans (h'.mono (Nat.le_trans hHeld.size hN16.size))) _ _ _ _ ?_)
  clear hK K hHeld hT
  have hT : Below V.heap.size V x16 := hT16
  have hHeld : Below x16.heap.size x16 x16 := Below.refl _ _
  clear hT16 hN16
  try simp only [Act.put, List.setIfInBounds_toArray, List.set_cons_zero, List.set_cons_succ]
  refine wpAnyH_take (i := 17) (oi := ⟨some 76, Op.binOp BinOp.eql 3 (Operand.tmp 75) (Operand.const (Value.int IntKind.i64 0)) 3, 4, _, _, _⟩) (v := ?v17b) rfl (by kernel_rfl) (by kernel_rfl) (by kernel_rfl) (fun _ _ _ h => h) (Or.inl ⟨by rfl, ?hy17b⟩) hHeld ?rest17b
  case hy17b => intro w9 hSw; go_simp; (try with_reducible rfl)
  try simp only [Act.put, List.setIfInBounds_toArray, List.set_cons_zero, List.set_cons_succ]
  refine wpAnyH_take (i := 18) (oi := ⟨some 77, Op.move (Operand.tmp 76), 4, _, _, _⟩) (v := ?v18b) rfl (by kernel_rfl) (by kernel_rfl) (by kernel_rfl) (fun _ _ _ h => h) (Or.inl ⟨by rfl, ?hy18b⟩) hHeld ?rest18b
  case hy18b => intro w9 hSw; go_simp; (try with_reducible rfl)
  try simp only [Act.put, List.setIfInBounds_toArray, List.set_cons_zero, List.set_cons_succ]
  refine wpAnyH_take (i := 19) (oi := ⟨some 78, Op.load 27 (Operand.tmp 5), 27, _, _, _⟩) (v := undef) rfl (by kernel_rfl) (by kernel_rfl) (by kernel_rfl) (fun _ _ _ h => h) (Or.inr ⟨by rfl, rfl⟩) hHeld ?rest19b
  try simp only [Act.put, List.setIfInBounds_toArray, List.set_cons_zero, List.set_cons_succ]
  refine wpAnyH_take (i := 20) (oi := ⟨some 79, Op.load 27 (Operand.tmp 6), 27, _, _, _⟩) (v := undef) rfl (by kernel_rfl) (by kernel_rfl) (by kernel_rfl) (fun _ _ _ h => h) (Or.inr ⟨by rfl, rfl⟩) hHeld ?rest20b
  try simp only [Act.put, List.setIfInBounds_toArray, List.set_cons_zero, List.set_cons_succ]
  refine wpAnyH_take (i := 21) (oi := ⟨some 80, Op.call { callee := Callee.value (Operand.func 19), args := #[Operand.tmp 78, Operand.tmp 79], argTypes := #[27, 27] }, 3, _, _, _⟩) (v := undef) rfl (by kernel_rfl) (by kernel_rfl) (by kernel_rfl) (fun _ _ _ h => h) (Or.inr ⟨by rfl, rfl⟩) hHeld ?rest21b
  try simp only [Act.put, List.setIfInBounds_toArray, List.set_cons_zero, List.set_cons_succ]
  refine wpAnyH_take (i := 22) (oi := ⟨some 81, Op.move (Operand.tmp 11), 3, _, _, _⟩) (v := undef) rfl (by kernel_rfl) (by kernel_rfl) (by kernel_rfl) (fun _ _ _ h => h) (Or.inr ⟨by rfl, rfl⟩) hHeld ?rest22b
  try simp only [Act.put, List.setIfInBounds_toArray, List.set_cons_zero, List.set_cons_succ]
  refine wpAnyH_take (i := 23) (oi := ⟨some 82, Op.binOp BinOp.eql 3 (Operand.tmp 80) (Operand.tmp 81) 3, 4, _, _, _⟩) (v := undef) rfl (by kernel_rfl) (by kernel_rfl) (by kernel_rfl) (fun _ _ _ h => h) (Or.inr ⟨by rfl, rfl⟩) hHeld ?rest23b
  try simp only [Act.put, List.setIfInBounds_toArray, List.set_cons_zero, List.set_cons_succ]
  refine wpAnyH_take (i := 24) (oi := ⟨some 83, Op.pick (Operand.tmp 77) (Operand.const (Value.bool true)) (Operand.tmp 82), 4, _, _, _⟩) (v := ?v24b) rfl (by kernel_rfl) (by kernel_rfl) (by kernel_rfl) (fun _ _ _ h => h) (Or.inl ⟨by rfl, ?hy24b⟩) hHeld ?rest24b
  case hy24b => intro w9 hSw; go_simp; (try with_reducible rfl)
  try simp only [Act.put, List.setIfInBounds_toArray, List.set_cons_zero, List.set_cons_succ]
  refine wpAnyH_take (i := 25) (oi := ⟨some 84, Op.pick (Operand.tmp 72) (Operand.tmp 83) (Operand.const (Value.bool false)), 4, _, _, _⟩) (v := ?v25b) rfl (by kernel_rfl) (by kernel_rfl) (by kernel_rfl) (fun _ _ _ h => h) (Or.inl ⟨by rfl, ?hy25b⟩) hHeld ?rest25b
  case hy25b => intro w9 hSw; go_simp; (try with_reducible rfl)
  try simp only [Act.put, List.setIfInBounds_toArray, List.set_cons_zero, List.set_cons_succ]
  refine wpAnyH_take (i := 26) (oi := ⟨some 85, Op.move (Operand.tmp 84), 4, _, _, _⟩) (v := ?v26b) rfl (by kernel_rfl) (by kernel_rfl) (by kernel_rfl) (fun _ _ _ h => h) (Or.inl ⟨by rfl, ?hy26b⟩) hHeld ?rest26b
  case hy26b => intro w9 hSw; go_simp; (try with_reducible rfl)
  try simp only [Act.put, List.setIfInBounds_toArray, List.set_cons_zero, List.set_cons_succ]
  refine wpAnyH_ready (rs := [27]) (by kernel_rfl) (by simp) ?_
  refine AllReadyH.cons (o := ⟨some 86, Op.call { callee := Callee.value (Operand.func 8), args := #[], argTypes := #[] }, 4, _, _, _⟩) rfl (fun K hK => ?_) AllReadyH.nil
  go_simp
  refine (W1.out _).mono ?_
  rintro e x27 ⟨rfl, hN27⟩
  go_wp2_with fail
  have hT27 : Below V.heap.size V x27 := hT.trans (hN27.mono hT.size)
  refine hK.out _ _ (hHeld.trans (hN27.mono hHeld.size)) (fun _ => held_up (S' := fun w' => Below x27.heap.size x27 w') (fun w' h' => (hHeld.trans (hN27.mono hHeld.size)).trans (h'.mono (Nat.le_trans hHeld.size hN27.size))) _ _ _ _ ?_)
  clear hK K hHeld hT
  have hT : Below V.heap.size V x27 := hT27
  have hHeld : Below x27.heap.size x27 x27 := Below.refl _ _
  clear hT27 hN27
  try simp only [Act.put, List.setIfInBounds_toArray, List.set_cons_zero, List.set_cons_succ]
  refine wpAnyH_take (i := 28) (oi := ⟨some 87, Op.pick (Operand.tmp 85) (Operand.tmp 86) (Operand.const (Value.bool false)), 4, _, _, _⟩) (v := ?v28b) rfl (by kernel_rfl) (by kernel_rfl) (by kernel_rfl) (fun _ _ _ h => h) (Or.inl ⟨by rfl, ?hy28b⟩) hHeld ?rest28b
  case hy28b => intro w9 hSw; go_simp; (try with_reducible rfl)
  try simp only [Act.put, List.setIfInBounds_toArray, List.set_cons_zero, List.set_cons_succ]
  refine wpAnyH_take (i := 29) (oi := ⟨some 10, Op.assign (Operand.tmp 87), 4, _, _, _⟩) (v := ?v29b) rfl (by kernel_rfl) (by kernel_rfl) (by kernel_rfl) (fun _ _ _ h => h) (Or.inl ⟨by rfl, ?hy29b⟩) hHeld ?rest29b
  case hy29b => intro w9 hSw; go_simp; (try with_reducible rfl)
  try simp only [Act.put, List.setIfInBounds_toArray, List.set_cons_zero, List.set_cons_succ]
  refine wpAnyH_done (by kernel_rfl) ?_ _
  refine NoPanic.normal ?_
  go_wp2
  go_ret
  exact ⟨rfl, HV.out.trans (hT.mono HV.out.size)⟩
set_option maxRecDepth 100000 in
set_option maxHeartbeats 16000000 in
theorem orderOrder_c (x y z : Pt) (a1 a2 : Option Addr) (m1 m2 c1 c2 : Nat) (S T : Nat → ByteArray) (w : World) (hX : IsP w x) (hY : IsP w y) (hZ : IsP w z) (sx : WdP x) (hS : Txs w a1 m1 S) (hT' : Txs w a2 m2 T) (hm1 : m1 ≤ 9223372036854775807) (hm2 : m2 ≤ 9223372036854775807)
    (hl : litB (threeP x y z) 3 = true) (hp : wholeP x y = (-1)) (hf : formP x y = (-1)) (hq : wholeP y z ≤ 0) :
    Calls Try.prog 4 #[x.val, y.val, z.val, .slice a1 m1 c1, .slice a2 m2 c2] w fun e w' => e = .returned (.bool true) ∧ Below w.heap.size w w' := by
  obtain ⟨A, hA, hB, hs, hn, hm, hk⟩ := boxP_three x y z w
  obtain ⟨a0, a1', a2', a3, a4, a5⟩ := hn.at0
  obtain ⟨b0, b1, b2, b3, b4, b5⟩ := hm.at0
  obtain ⟨k0, k1, k2, k3, k4, k5⟩ := hk.at0
  obtain ⟨C, hC, hBC, hP⟩ := threeP_row (hX.later hB) (hY.later hB) (hZ.later hB)
  have HB : Hid (Below w.heap.size w C) := hB.trans (hBC.mono hB.size)
  have NX : Hid (NodeP C w.heap.size 0 x) := hn.later hBC
  have NY : Hid (NodeP C (w.heap.size + 1) 0 y) := hm.later hBC
  have NZ : Hid (NodeP C (w.heap.size + 1 + 1) 0 z) := hk.later hBC
  have L1 : Hid (Calls Try.prog 6 #[.slice (some ⟨A.heap.size, 0, none⟩) 3 3] C fun e w' => e = .returned (.bool true) ∧ Below C.heap.size C w') := by
    have := lightW_any _ 3 3 _ C (by omega) hP
    rw [hl] at this
    exact this
  have W1 : Hid (∀ d, Calls Try.prog 8 #[] d fun e w' => e = .returned (.bool true) ∧ Below d.heap.size d w') := fun d => awake15_any d
  obtain ⟨q, hqq⟩ : ∃ q, q = wholeP y z := ⟨_, rfl⟩
  obtain ⟨r, hr⟩ : ∃ r, r = wholeP x z := ⟨_, rfl⟩
  rw [← hqq] at hq
  have hrr : r ≤ 0 := by rw [hr]; exact whole3.le (by rw [hp]; decide) (by rw [← hqq]; exact hq)
  have Kxy : Hid (∀ d, Below w.heap.size w d → Calls Try.prog 17 #[x.val, y.val] d fun e w' => e = .returned (.int .i64 (-1)) ∧ Below d.heap.size d w') := fun d h => by rw [← hp]; exact wholeP_any x y d (hX.later h) (hY.later h)
  have Kyz : Hid (∀ d, Below w.heap.size w d → Calls Try.prog 17 #[y.val, z.val] d fun e w' => e = .returned (.int .i64 q) ∧ Below d.heap.size d w') := fun d h => by rw [hqq]; exact wholeP_any y z d (hY.later h) (hZ.later h)
  have Kyx : Hid (∀ d, Below w.heap.size w d → Calls Try.prog 17 #[y.val, x.val] d fun e w' => e = .returned (.int .i64 1) ∧ Below d.heap.size d w') := fun d h => by
    have := wholeP_any y x d (hY.later h) (hX.later h)
    rw [whole3.turn x y, hp] at this
    exact this
  have Kxz : Hid (∀ d, Below w.heap.size w d → Calls Try.prog 17 #[x.val, z.val] d fun e w' => e = .returned (.int .i64 r) ∧ Below d.heap.size d w') := fun d h => by rw [hr]; exact wholeP_any x z d (hX.later h) (hZ.later h)
  have Ksm : Hid (∀ d, Below w.heap.size w d → Calls Try.prog 15 #[x.val, y.val] d fun e w' => e = .returned (.bool false) ∧ Below d.heap.size d w') := fun d h => by
    have := refSameP_any x y d (hX.later h) (hY.later h)
    rw [show sameP x y = false from (Bool.eq_false_iff.2 fun h => by rw [(whole_sm x y).2 h] at hp; cases hp)] at this
    exact this
  have Krn : Hid (∀ d, Below w.heap.size w d → Calls Try.prog 18 #[x.val, .slice a1 m1 c1, .slice a2 m2 c2] d fun e w' => ∃ g : Pt, e = .returned g.val ∧ Hid (IsP w' g ∧ formP x g = 0 ∧ formP g y = (-1)) ∧ Below d.heap.size d w') := fun d hd => by
    refine (refRenameP_wide a1 a2 m1 m2 c1 c2 S T hm1 hm2 x d (hX.later hd) sx (hS.later hd) (hT'.later hd)).mono ?_
    rintro e w' ⟨g, rfl, q1, q2, _, q3⟩
    have e0 : formP x g = 0 := form3.eq (form_ren _ x) (by rw [form3.turn, form_sm q2]; rfl)
    exact ⟨g, rfl, ⟨q1, e0, by rw [← hf]; exact (ord_left form3 tri_form e0).symm⟩, q3⟩
  have IX : Hid (∀ d, Below w.heap.size w d → IsP d x) := fun d h => hX.later h
  have IY : Hid (∀ d, Below w.heap.size w d → IsP d y) := fun d h => hY.later h
  have F3' : Hid (∀ d, Below w.heap.size w d → Calls Try.prog 19 #[x.val, y.val] d fun e w' => e = .returned (.int .i64 (-1)) ∧ Below d.heap.size d w') := fun d h => by rw [← hf]; exact formP_any x y d (hX.later h) (hY.later h)
  clear hB hn hm hk hX hY hZ hl hP hBC hs sx hqq hr hp hf hS hT' hm1 hm2
  go_enter Try.func4, Try.ntmps4
  go_upto_region 7 with (first
    | (go_at_call 6; refine L1.out.mono ?_; clear L1; rintro e w1 ⟨rfl, hB1⟩; have h1 := HB.out.trans (hB1.mono HB.out.size); obtain ⟨a0, a1', a2', a3, a4, a5⟩ := (NX.out.later hB1).at0; obtain ⟨b0, b1, b2, b3, b4, b5⟩ := (NY.out.later hB1).at0)
    | (go_at_call 17; refine (Kxz.out _ h5).mono ?_; clear Kxz; rintro e w6 ⟨rfl, hB6⟩)
    | (go_at_call 17; refine (Kyx.out _ h4).mono ?_; clear Kyx; rintro e w5 ⟨rfl, hB5⟩; have h5 := h4.trans (hB5.mono h4.size); have g5 := g4.trans (hB5.mono g4.size); obtain ⟨a0, a1', a2', a3, a4, a5⟩ := (NX.out.later g5).at0; obtain ⟨k0, k1, k2, k3, k4, k5⟩ := (NZ.out.later g5).at0)
    | (go_at_call 15; refine (Ksm.out _ h3).mono ?_; clear Ksm; rintro e w4 ⟨rfl, hB4⟩; have h4 := h3.trans (hB4.mono h3.size); have g4 := g3.trans (hB4.mono g3.size); obtain ⟨a0, a1', a2', a3, a4, a5⟩ := (NX.out.later g4).at0; obtain ⟨b0, b1, b2, b3, b4, b5⟩ := (NY.out.later g4).at0)
    | (go_at_call 17; refine (Kyz.out _ h2).mono ?_; clear Kyz; rintro e w3 ⟨rfl, hB3⟩; have h3 := h2.trans (hB3.mono h2.size); have g3 := g2.trans (hB3.mono g2.size); obtain ⟨a0, a1', a2', a3, a4, a5⟩ := (NX.out.later g3).at0; obtain ⟨b0, b1, b2, b3, b4, b5⟩ := (NY.out.later g3).at0)
    | (go_at_call 17; refine (Kxy.out _ h1).mono ?_; clear Kxy; rintro e w2 ⟨rfl, hB2⟩; have h2 := h1.trans (hB2.mono h1.size); have g2 := hB1.trans (hB2.mono hB1.size); obtain ⟨b0, b1, b2, b3, b4, b5⟩ := (NY.out.later g2).at0; obtain ⟨k0, k1, k2, k3, k4, k5⟩ := (NZ.out.later g2).at0))
  have h6 := h5.trans (hB6.mono h5.size)
  have g6 := g5.trans (hB6.mono g5.size)
  obtain ⟨u0, u1, u2, u3, u4, u5⟩ := (NX.out.later g6).at0
  go_upto_region 8 with (go_at_call 18; refine (Krn.out _ h6).mono ?_; clear Krn; rintro e w7 ⟨g, rfl, hg, hB7⟩; obtain ⟨V, hV, hBV, -, hNV⟩ := boxP_one g w7)
  have h7 := h6.trans (hB7.mono h6.size)
  have g7 := g6.trans (hB7.mono g6.size)
  have HV : Hid (Below w.heap.size w V) := h7.trans (hBV.mono h7.size)
  have gV := g7.trans (hBV.mono g7.size)
  have PX : Hid (NodeP V w.heap.size 0 x) := NX.out.later gV
  have PY : Hid (NodeP V (w.heap.size + 1) 0 y) := NY.out.later gV
  have PD : Hid (NodeP V w7.heap.size 0 g) := hNV
  have F1 : Hid (∀ d, Below V.heap.size V d → Calls Try.prog 19 #[x.val, g.val] d fun e w' => e = .returned (.int .i64 0) ∧ Below d.heap.size d w') := fun d h => by
    have hd := HV.out.trans (h.mono HV.out.size)
    have := formP_any x g d (IX.out d hd) ((hg.out.1.later hBV).later h)
    rw [hg.out.2.1] at this
    exact this
  have F2 : Hid (∀ d, Below V.heap.size V d → Calls Try.prog 19 #[g.val, y.val] d fun e w' => e = .returned (.int .i64 (-1)) ∧ Below d.heap.size d w') := fun d h => by
    have hd := HV.out.trans (h.mono HV.out.size)
    have := formP_any g y d ((hg.out.1.later hBV).later h) (IY.out d hd)
    rw [hg.out.2.2] at this
    exact this
  have F3 : Hid (∀ d, Below V.heap.size V d → Calls Try.prog 19 #[x.val, y.val] d fun e w' => e = .returned (.int .i64 (-1)) ∧ Below d.heap.size d w') := fun d h => F3'.out d (HV.out.trans (h.mono HV.out.size))
  clear F3' IX IY hg h7 g7 gV hBV hNV hB7 h6 g6 NX NY NZ hA hC u0 u1 u2 u3 u4 u5
  refine wp_region_noPanic ?_
  refine wp_region_held_drew (S := fun w' => Below V.heap.size V w') (by kernel_rfl) ((Below.refl _ _).drew) (fun hHeld => ?_)
  have hT : Below V.heap.size V V.drew := hHeld
  obtain ⟨d, hdw⟩ : ∃ d, d = V.drew := ⟨_, rfl⟩
  rw [← hdw] at hHeld hT ⊢
  clear hdw
  refine wpAnyH_take (i := 0) (oi := ⟨some 59, Op.load 27 (Operand.tmp 5), 27, _, _, _⟩) (v := ?v0c) rfl (by kernel_rfl) (by kernel_rfl) (by kernel_rfl) (fun _ _ _ h => h) (Or.inl ⟨by rfl, ?hy0c⟩) hHeld ?rest0c
  case hy0c => intro w9 hSw; obtain ⟨d0, d1, d2, d3, d4, d5⟩ := (PX.out.later hSw).at0; go_simp; (try with_reducible rfl)
  try simp only [Act.put, List.setIfInBounds_toArray, List.set_cons_zero, List.set_cons_succ]
  refine wpAnyH_take (i := 1) (oi := ⟨some 60, Op.load 27 (Operand.tmp 13), 27, _, _, _⟩) (v := ?v1c) rfl (by kernel_rfl) (by kernel_rfl) (by kernel_rfl) (fun _ _ _ h => h) (Or.inl ⟨by rfl, ?hy1c⟩) hHeld ?rest1c
  case hy1c => intro w9 hSw; obtain ⟨d0, d1, d2, d3, d4, d5⟩ := (PD.out.later hSw).at0; go_simp; (try with_reducible rfl)
  try simp only [Act.put, List.setIfInBounds_toArray, List.set_cons_zero, List.set_cons_succ]
  refine wpAnyH_ready (rs := [2]) (by kernel_rfl) (by simp) ?_
  refine AllReadyH.cons (o := ⟨some 61, Op.call { callee := Callee.value (Operand.func 19), args := #[Operand.tmp 59, Operand.tmp 60], argTypes := #[27, 27] }, 3, _, _, _⟩) rfl (fun K hK => ?_) AllReadyH.nil
  go_simp
  refine (F1.out _ hT).mono ?_
  rintro e x2 ⟨rfl, hN2⟩
  go_wp2_with fail
  have hT2 : Below V.heap.size V x2 := hT.trans (hN2.mono hT.size)
  refine hK.out _ _ (hHeld.trans (hN2.mono hHeld.size)) (fun _ => held_up (S' := fun w' => Below x2.heap.size x2 w') (fun w' h' => (hHeld.trans (hN2.mono hHeld.size)).trans (h'.mono (Nat.le_trans hHeld.size hN2.size))) _ _ _ _ ?_)
  clear hK K hHeld hT
  have hT : Below V.heap.size V x2 := hT2
  have hHeld : Below x2.heap.size x2 x2 := Below.refl _ _
  clear hT2 hN2
  try simp only [Act.put, List.setIfInBounds_toArray, List.set_cons_zero, List.set_cons_succ]
  refine wpAnyH_take (i := 3) (oi := ⟨some 62, Op.binOp BinOp.eql 3 (Operand.tmp 61) (Operand.const (Value.int IntKind.i64 0)) 3, 4, _, _, _⟩) (v := ?v3c) rfl (by kernel_rfl) (by kernel_rfl) (by kernel_rfl) (fun _ _ _ h => h) (Or.inl ⟨by rfl, ?hy3c⟩) hHeld ?rest3c
  case hy3c => intro w9 hSw; go_simp; (try with_reducible rfl)
  try simp only [Act.put, List.setIfInBounds_toArray, List.set_cons_zero, List.set_cons_succ]
  refine wpAnyH_take (i := 4) (oi := ⟨some 63, Op.move (Operand.tmp 62), 4, _, _, _⟩) (v := ?v4c) rfl (by kernel_rfl) (by kernel_rfl) (by kernel_rfl) (fun _ _ _ h => h) (Or.inl ⟨by rfl, ?hy4c⟩) hHeld ?rest4c
  case hy4c => intro w9 hSw; go_simp; (try with_reducible rfl)
  try simp only [Act.put, List.setIfInBounds_toArray, List.set_cons_zero, List.set_cons_succ]
  refine wpAnyH_take (i := 5) (oi := ⟨some 64, Op.load 27 (Operand.tmp 13), 27, _, _, _⟩) (v := ?v5c) rfl (by kernel_rfl) (by kernel_rfl) (by kernel_rfl) (fun _ _ _ h => h) (Or.inl ⟨by rfl, ?hy5c⟩) hHeld ?rest5c
  case hy5c => intro w9 hSw; obtain ⟨d0, d1, d2, d3, d4, d5⟩ := (PD.out.later (hT.trans (hSw.mono hT.size))).at0; go_simp; (try with_reducible rfl)
  try simp only [Act.put, List.setIfInBounds_toArray, List.set_cons_zero, List.set_cons_succ]
  refine wpAnyH_take (i := 6) (oi := ⟨some 65, Op.load 27 (Operand.tmp 6), 27, _, _, _⟩) (v := ?v6c) rfl (by kernel_rfl) (by kernel_rfl) (by kernel_rfl) (fun _ _ _ h => h) (Or.inl ⟨by rfl, ?hy6c⟩) hHeld ?rest6c
  case hy6c => intro w9 hSw; obtain ⟨d0, d1, d2, d3, d4, d5⟩ := (PY.out.later (hT.trans (hSw.mono hT.size))).at0; go_simp; (try with_reducible rfl)
  try simp only [Act.put, List.setIfInBounds_toArray, List.set_cons_zero, List.set_cons_succ]
  refine wpAnyH_take (i := 8) (oi := ⟨some 67, Op.load 27 (Operand.tmp 5), 27, _, _, _⟩) (v := ?v8c) rfl (by kernel_rfl) (by kernel_rfl) (by kernel_rfl) (fun _ _ _ h => h) (Or.inl ⟨by rfl, ?hy8c⟩) hHeld ?rest8c
  case hy8c => intro w9 hSw; obtain ⟨d0, d1, d2, d3, d4, d5⟩ := (PX.out.later (hT.trans (hSw.mono hT.size))).at0; go_simp; (try with_reducible rfl)
  try simp only [Act.put, List.setIfInBounds_toArray, List.set_cons_zero, List.set_cons_succ]
  refine wpAnyH_take (i := 9) (oi := ⟨some 68, Op.load 27 (Operand.tmp 6), 27, _, _, _⟩) (v := ?v9c) rfl (by kernel_rfl) (by kernel_rfl) (by kernel_rfl) (fun _ _ _ h => h) (Or.inl ⟨by rfl, ?hy9c⟩) hHeld ?rest9c
  case hy9c => intro w9 hSw; obtain ⟨d0, d1, d2, d3, d4, d5⟩ := (PY.out.later (hT.trans (hSw.mono hT.size))).at0; go_simp; (try with_reducible rfl)
  try simp only [Act.put, List.setIfInBounds_toArray, List.set_cons_zero, List.set_cons_succ]
  refine wpAnyH_ready (rs := [7]) (by kernel_rfl) (by simp) ?_
  refine AllReadyH.cons (o := ⟨some 66, Op.call { callee := Callee.value (Operand.func 19), args := #[Operand.tmp 64, Operand.tmp 65], argTypes := #[27, 27] }, 3, _, _, _⟩) rfl (fun K hK => ?_) AllReadyH.nil
  go_simp
  refine (F2.out _ hT).mono ?_
  rintro e x7 ⟨rfl, hN7⟩
  go_wp2_with fail
  have hT7 : Below V.heap.size V x7 := hT.trans (hN7.mono hT.size)
  refine hK.out _ _ (hHeld.trans (hN7.mono hHeld.size)) (fun _ => held_up (S' := fun w' => Below x7.heap.size x7 w') (fun w' h' => (hHeld.trans (hN7.mono hHeld.size)).trans (h'.mono (Nat.le_trans hHeld.size hN7.size))) _ _ _ _ ?_)
  clear hK K hHeld hT
  have hT : Below V.heap.size V x7 := hT7
  have hHeld : Below x7.heap.size x7 x7 := Below.refl _ _
  clear hT7 hN7
  try simp only [Act.put, List.setIfInBounds_toArray, List.set_cons_zero, List.set_cons_succ]
  refine wpAnyH_ready (rs := [10]) (by kernel_rfl) (by simp) ?_
  refine AllReadyH.cons (o := ⟨some 69, Op.call { callee := Callee.value (Operand.func 19), args := #[Operand.tmp 67, Operand.tmp 68], argTypes := #[27, 27] }, 3, _, _, _⟩) rfl (fun K hK => ?_) AllReadyH.nil
  go_simp
  refine (F3.out _ hT).mono ?_
  rintro e x10 ⟨rfl, hN10⟩
  go_wp2_with fail
  have hT10 : Below V.heap.size V x10 := hT.trans (hN10.mono hT.size)
  refine hK.out _ _ (hHeld.trans (hN10.mono hHeld.size)) (fun _ => held_up (S' := fun w' => Below x10.heap.size x10 w') (fun w' h' => (hHeld.trans (hN10.mono hHeld.size)).trans (h'.mono (Nat.le_trans hHeld.size hN10.size))) _ _ _ _ ?_)
  clear hK K hHeld hT
  have hT : Below V.heap.size V x10 := hT10
  have hHeld : Below x10.heap.size x10 x10 := Below.refl _ _
  clear hT10 hN10
  try simp only [Act.put, List.setIfInBounds_toArray, List.set_cons_zero, List.set_cons_succ]
  refine wpAnyH_take (i := 11) (oi := ⟨some 70, Op.binOp BinOp.eql 3 (Operand.tmp 66) (Operand.tmp 69) 3, 4, _, _, _⟩) (v := ?v11c) rfl (by kernel_rfl) (by kernel_rfl) (by kernel_rfl) (fun _ _ _ h => h) (Or.inl ⟨by rfl, ?hy11c⟩) hHeld ?rest11c
  case hy11c => intro w9 hSw; go_simp; (try with_reducible rfl)
  try simp only [Act.put, List.setIfInBounds_toArray, List.set_cons_zero, List.set_cons_succ]
  refine wpAnyH_take (i := 12) (oi := ⟨some 71, Op.pick (Operand.tmp 63) (Operand.tmp 70) (Operand.const (Value.bool false)), 4, _, _, _⟩) (v := ?v12c) rfl (by kernel_rfl) (by kernel_rfl) (by kernel_rfl) (fun _ _ _ h => h) (Or.inl ⟨by rfl, ?hy12c⟩) hHeld ?rest12c
  case hy12c => intro w9 hSw; go_simp; (try with_reducible rfl)
  try simp only [Act.put, List.setIfInBounds_toArray, List.set_cons_zero, List.set_cons_succ]
  refine wpAnyH_take (i := 13) (oi := ⟨some 72, Op.move (Operand.tmp 71), 4, _, _, _⟩) (v := ?v13c) rfl (by kernel_rfl) (by kernel_rfl) (by kernel_rfl) (fun _ _ _ h => h) (Or.inl ⟨by rfl, ?hy13c⟩) hHeld ?rest13c
  case hy13c => intro w9 hSw; go_simp; (try with_reducible rfl)
  try simp only [Act.put, List.setIfInBounds_toArray, List.set_cons_zero, List.set_cons_succ]
  refine wpAnyH_take (i := 14) (oi := ⟨some 73, Op.load 27 (Operand.tmp 5), 27, _, _, _⟩) (v := ?v14c) rfl (by kernel_rfl) (by kernel_rfl) (by kernel_rfl) (fun _ _ _ h => h) (Or.inl ⟨by rfl, ?hy14c⟩) hHeld ?rest14c
  case hy14c => intro w9 hSw; obtain ⟨d0, d1, d2, d3, d4, d5⟩ := (PX.out.later (hT.trans (hSw.mono hT.size))).at0; go_simp; (try with_reducible rfl)
  try simp only [Act.put, List.setIfInBounds_toArray, List.set_cons_zero, List.set_cons_succ]
  refine wpAnyH_take (i := 15) (oi := ⟨some 74, Op.load 27 (Operand.tmp 6), 27, _, _, _⟩) (v := ?v15c) rfl (by kernel_rfl) (by kernel_rfl) (by kernel_rfl) (fun _ _ _ h => h) (Or.inl ⟨by rfl, ?hy15c⟩) hHeld ?rest15c
  case hy15c => intro w9 hSw; obtain ⟨d0, d1, d2, d3, d4, d5⟩ := (PY.out.later (hT.trans (hSw.mono hT.size))).at0; go_simp; (try with_reducible rfl)
  try simp only [Act.put, List.setIfInBounds_toArray, List.set_cons_zero, List.set_cons_succ]
  refine wpAnyH_ready (rs := [16]) (by kernel_rfl) (by simp) ?_
  refine AllReadyH.cons (o := ⟨some 75, Op.call { callee := Callee.value (Operand.func 19), args := #[Operand.tmp 73, Operand.tmp 74], argTypes := #[27, 27] }, 3, _, _, _⟩) rfl (fun K hK => ?_) AllReadyH.nil
  go_simp
  refine (F3.out _ hT).mono ?_
  rintro e x16 ⟨rfl, hN16⟩
  go_wp2_with fail
  have hT16 : Below V.heap.size V x16 := hT.trans (hN16.mono hT.size)
  refine hK.out _ _ (hHeld.trans (hN16.mono hHeld.size)) (fun _ => held_up (S' := fun w' => Below x16.heap.size x16 w') (fun w' h' => (hHeld.trans (hN16.mono hHeld.size)).trans (h'.mono (Nat.le_trans hHeld.size hN16.size))) _ _ _ _ ?_)
  clear hK K hHeld hT
  have hT : Below V.heap.size V x16 := hT16
  have hHeld : Below x16.heap.size x16 x16 := Below.refl _ _
  clear hT16 hN16
  try simp only [Act.put, List.setIfInBounds_toArray, List.set_cons_zero, List.set_cons_succ]
  refine wpAnyH_take (i := 17) (oi := ⟨some 76, Op.binOp BinOp.eql 3 (Operand.tmp 75) (Operand.const (Value.int IntKind.i64 0)) 3, 4, _, _, _⟩) (v := ?v17c) rfl (by kernel_rfl) (by kernel_rfl) (by kernel_rfl) (fun _ _ _ h => h) (Or.inl ⟨by rfl, ?hy17c⟩) hHeld ?rest17c
  case hy17c => intro w9 hSw; go_simp; (try with_reducible rfl)
  try simp only [Act.put, List.setIfInBounds_toArray, List.set_cons_zero, List.set_cons_succ]
  refine wpAnyH_take (i := 18) (oi := ⟨some 77, Op.move (Operand.tmp 76), 4, _, _, _⟩) (v := ?v18c) rfl (by kernel_rfl) (by kernel_rfl) (by kernel_rfl) (fun _ _ _ h => h) (Or.inl ⟨by rfl, ?hy18c⟩) hHeld ?rest18c
  case hy18c => intro w9 hSw; go_simp; (try with_reducible rfl)
  try simp only [Act.put, List.setIfInBounds_toArray, List.set_cons_zero, List.set_cons_succ]
  refine wpAnyH_take (i := 19) (oi := ⟨some 78, Op.load 27 (Operand.tmp 5), 27, _, _, _⟩) (v := ?v19c) rfl (by kernel_rfl) (by kernel_rfl) (by kernel_rfl) (fun _ _ _ h => h) (Or.inl ⟨by rfl, ?hy19c⟩) hHeld ?rest19c
  case hy19c => intro w9 hSw; obtain ⟨d0, d1, d2, d3, d4, d5⟩ := (PX.out.later (hT.trans (hSw.mono hT.size))).at0; go_simp; (try with_reducible rfl)
  try simp only [Act.put, List.setIfInBounds_toArray, List.set_cons_zero, List.set_cons_succ]
  refine wpAnyH_take (i := 20) (oi := ⟨some 79, Op.load 27 (Operand.tmp 6), 27, _, _, _⟩) (v := ?v20c) rfl (by kernel_rfl) (by kernel_rfl) (by kernel_rfl) (fun _ _ _ h => h) (Or.inl ⟨by rfl, ?hy20c⟩) hHeld ?rest20c
  case hy20c => intro w9 hSw; obtain ⟨d0, d1, d2, d3, d4, d5⟩ := (PY.out.later (hT.trans (hSw.mono hT.size))).at0; go_simp; (try with_reducible rfl)
  try simp only [Act.put, List.setIfInBounds_toArray, List.set_cons_zero, List.set_cons_succ]
  refine wpAnyH_take (i := 22) (oi := ⟨some 81, Op.move (Operand.tmp 11), 3, _, _, _⟩) (v := ?v22c) rfl (by kernel_rfl) (by kernel_rfl) (by kernel_rfl) (fun _ _ _ h => h) (Or.inl ⟨by rfl, ?hy22c⟩) hHeld ?rest22c
  case hy22c => intro w9 hSw; go_simp; (try with_reducible rfl)
  try simp only [Act.put, List.setIfInBounds_toArray, List.set_cons_zero, List.set_cons_succ]
  refine wpAnyH_ready (rs := [21]) (by kernel_rfl) (by simp) ?_
  refine AllReadyH.cons (o := ⟨some 80, Op.call { callee := Callee.value (Operand.func 19), args := #[Operand.tmp 78, Operand.tmp 79], argTypes := #[27, 27] }, 3, _, _, _⟩) rfl (fun K hK => ?_) AllReadyH.nil
  go_simp
  refine (F3.out _ hT).mono ?_
  rintro e x21 ⟨rfl, hN21⟩
  go_wp2_with fail
  have hT21 : Below V.heap.size V x21 := hT.trans (hN21.mono hT.size)
  refine hK.out _ _ (hHeld.trans (hN21.mono hHeld.size)) (fun _ => held_up (S' := fun w' => Below x21.heap.size x21 w') (fun w' h' => (hHeld.trans (hN21.mono hHeld.size)).trans (h'.mono (Nat.le_trans hHeld.size hN21.size))) _ _ _ _ ?_)
  clear hK K hHeld hT
  have hT : Below V.heap.size V x21 := hT21
  have hHeld : Below x21.heap.size x21 x21 := Below.refl _ _
  clear hT21 hN21
  try simp only [Act.put, List.setIfInBounds_toArray, List.set_cons_zero, List.set_cons_succ]
  refine wpAnyH_take (i := 23) (oi := ⟨some 82, Op.binOp BinOp.eql 3 (Operand.tmp 80) (Operand.tmp 81) 3, 4, _, _, _⟩) (v := ?v23c) rfl (by kernel_rfl) (by kernel_rfl) (by kernel_rfl) (fun _ _ _ h => h) (Or.inl ⟨by rfl, ?hy23c⟩) hHeld ?rest23c
  case hy23c => intro w9 hSw; go_simp; (try with_reducible rfl)
  try simp only [Act.put, List.setIfInBounds_toArray, List.set_cons_zero, List.set_cons_succ]
  refine wpAnyH_take (i := 24) (oi := ⟨some 83, Op.pick (Operand.tmp 77) (Operand.const (Value.bool true)) (Operand.tmp 82), 4, _, _, _⟩) (v := ?v24c) rfl (by kernel_rfl) (by kernel_rfl) (by kernel_rfl) (fun _ _ _ h => h) (Or.inl ⟨by rfl, ?hy24c⟩) hHeld ?rest24c
  case hy24c => intro w9 hSw; go_simp; (try with_reducible rfl)
  try simp only [Act.put, List.setIfInBounds_toArray, List.set_cons_zero, List.set_cons_succ]
  refine wpAnyH_take (i := 25) (oi := ⟨some 84, Op.pick (Operand.tmp 72) (Operand.tmp 83) (Operand.const (Value.bool false)), 4, _, _, _⟩) (v := ?v25c) rfl (by kernel_rfl) (by kernel_rfl) (by kernel_rfl) (fun _ _ _ h => h) (Or.inl ⟨by rfl, ?hy25c⟩) hHeld ?rest25c
  case hy25c => intro w9 hSw; go_simp; (try with_reducible rfl)
  try simp only [Act.put, List.setIfInBounds_toArray, List.set_cons_zero, List.set_cons_succ]
  refine wpAnyH_take (i := 26) (oi := ⟨some 85, Op.move (Operand.tmp 84), 4, _, _, _⟩) (v := ?v26c) rfl (by kernel_rfl) (by kernel_rfl) (by kernel_rfl) (fun _ _ _ h => h) (Or.inl ⟨by rfl, ?hy26c⟩) hHeld ?rest26c
  case hy26c => intro w9 hSw; go_simp; (try with_reducible rfl)
  try simp only [Act.put, List.setIfInBounds_toArray, List.set_cons_zero, List.set_cons_succ]
  refine wpAnyH_ready (rs := [27]) (by kernel_rfl) (by simp) ?_
  refine AllReadyH.cons (o := ⟨some 86, Op.call { callee := Callee.value (Operand.func 8), args := #[], argTypes := #[] }, 4, _, _, _⟩) rfl (fun K hK => ?_) AllReadyH.nil
  go_simp
  refine (W1.out _).mono ?_
  rintro e x27 ⟨rfl, hN27⟩
  go_wp2_with fail
  have hT27 : Below V.heap.size V x27 := hT.trans (hN27.mono hT.size)
  refine hK.out _ _ (hHeld.trans (hN27.mono hHeld.size)) (fun _ => held_up (S' := fun w' => Below x27.heap.size x27 w') (fun w' h' => (hHeld.trans (hN27.mono hHeld.size)).trans (h'.mono (Nat.le_trans hHeld.size hN27.size))) _ _ _ _ ?_)
  clear hK K hHeld hT
  have hT : Below V.heap.size V x27 := hT27
  have hHeld : Below x27.heap.size x27 x27 := Below.refl _ _
  clear hT27 hN27
  try simp only [Act.put, List.setIfInBounds_toArray, List.set_cons_zero, List.set_cons_succ]
  refine wpAnyH_take (i := 28) (oi := ⟨some 87, Op.pick (Operand.tmp 85) (Operand.tmp 86) (Operand.const (Value.bool false)), 4, _, _, _⟩) (v := ?v28c) rfl (by kernel_rfl) (by kernel_rfl) (by kernel_rfl) (fun _ _ _ h => h) (Or.inl ⟨by rfl, ?hy28c⟩) hHeld ?rest28c
  case hy28c => intro w9 hSw; go_simp; (try with_reducible rfl)
  try simp only [Act.put, List.setIfInBounds_toArray, List.set_cons_zero, List.set_cons_succ]
  refine wpAnyH_take (i := 29) (oi := ⟨some 10, Op.assign (Operand.tmp 87), 4, _, _, _⟩) (v := ?v29c) rfl (by kernel_rfl) (by kernel_rfl) (by kernel_rfl) (fun _ _ _ h => h) (Or.inl ⟨by rfl, ?hy29c⟩) hHeld ?rest29c
  case hy29c => intro w9 hSw; go_simp; (try with_reducible rfl)
  try simp only [Act.put, List.setIfInBounds_toArray, List.set_cons_zero, List.set_cons_succ]
  refine wpAnyH_done (by kernel_rfl) ?_ _
  refine NoPanic.normal ?_
  go_wp2
  go_ret
  exact ⟨rfl, HV.out.trans (hT.mono HV.out.size)⟩
set_option maxRecDepth 100000 in
set_option maxHeartbeats 16000000 in
theorem orderOrder_d (x y z : Pt) (a1 a2 : Option Addr) (m1 m2 c1 c2 : Nat) (S T : Nat → ByteArray) (w : World) (hX : IsP w x) (hY : IsP w y) (hZ : IsP w z) (sx : WdP x) (hS : Txs w a1 m1 S) (hT' : Txs w a2 m2 T) (hm1 : m1 ≤ 9223372036854775807) (hm2 : m2 ≤ 9223372036854775807)
    (hl : litB (threeP x y z) 3 = true) (hp : wholeP x y = (-1)) (hf : formP x y = (-1)) (hq : ¬ wholeP y z ≤ 0) :
    Calls Try.prog 4 #[x.val, y.val, z.val, .slice a1 m1 c1, .slice a2 m2 c2] w fun e w' => e = .returned (.bool true) ∧ Below w.heap.size w w' := by
  obtain ⟨A, hA, hB, hs, hn, hm, hk⟩ := boxP_three x y z w
  obtain ⟨a0, a1', a2', a3, a4, a5⟩ := hn.at0
  obtain ⟨b0, b1, b2, b3, b4, b5⟩ := hm.at0
  obtain ⟨k0, k1, k2, k3, k4, k5⟩ := hk.at0
  obtain ⟨C, hC, hBC, hP⟩ := threeP_row (hX.later hB) (hY.later hB) (hZ.later hB)
  have HB : Hid (Below w.heap.size w C) := hB.trans (hBC.mono hB.size)
  have NX : Hid (NodeP C w.heap.size 0 x) := hn.later hBC
  have NY : Hid (NodeP C (w.heap.size + 1) 0 y) := hm.later hBC
  have NZ : Hid (NodeP C (w.heap.size + 1 + 1) 0 z) := hk.later hBC
  have L1 : Hid (Calls Try.prog 6 #[.slice (some ⟨A.heap.size, 0, none⟩) 3 3] C fun e w' => e = .returned (.bool true) ∧ Below C.heap.size C w') := by
    have := lightW_any _ 3 3 _ C (by omega) hP
    rw [hl] at this
    exact this
  have W1 : Hid (∀ d, Calls Try.prog 8 #[] d fun e w' => e = .returned (.bool true) ∧ Below d.heap.size d w') := fun d => awake15_any d
  obtain ⟨q, hqq⟩ : ∃ q, q = wholeP y z := ⟨_, rfl⟩
  obtain ⟨r, hr⟩ : ∃ r, r = wholeP x z := ⟨_, rfl⟩
  rw [← hqq] at hq
  have Kxy : Hid (∀ d, Below w.heap.size w d → Calls Try.prog 17 #[x.val, y.val] d fun e w' => e = .returned (.int .i64 (-1)) ∧ Below d.heap.size d w') := fun d h => by rw [← hp]; exact wholeP_any x y d (hX.later h) (hY.later h)
  have Kyz : Hid (∀ d, Below w.heap.size w d → Calls Try.prog 17 #[y.val, z.val] d fun e w' => e = .returned (.int .i64 q) ∧ Below d.heap.size d w') := fun d h => by rw [hqq]; exact wholeP_any y z d (hY.later h) (hZ.later h)
  have Kyx : Hid (∀ d, Below w.heap.size w d → Calls Try.prog 17 #[y.val, x.val] d fun e w' => e = .returned (.int .i64 1) ∧ Below d.heap.size d w') := fun d h => by
    have := wholeP_any y x d (hY.later h) (hX.later h)
    rw [whole3.turn x y, hp] at this
    exact this
  have Kxz : Hid (∀ d, Below w.heap.size w d → Calls Try.prog 17 #[x.val, z.val] d fun e w' => e = .returned (.int .i64 r) ∧ Below d.heap.size d w') := fun d h => by rw [hr]; exact wholeP_any x z d (hX.later h) (hZ.later h)
  have Ksm : Hid (∀ d, Below w.heap.size w d → Calls Try.prog 15 #[x.val, y.val] d fun e w' => e = .returned (.bool false) ∧ Below d.heap.size d w') := fun d h => by
    have := refSameP_any x y d (hX.later h) (hY.later h)
    rw [show sameP x y = false from (Bool.eq_false_iff.2 fun h => by rw [(whole_sm x y).2 h] at hp; cases hp)] at this
    exact this
  have Krn : Hid (∀ d, Below w.heap.size w d → Calls Try.prog 18 #[x.val, .slice a1 m1 c1, .slice a2 m2 c2] d fun e w' => ∃ g : Pt, e = .returned g.val ∧ Hid (IsP w' g ∧ formP x g = 0 ∧ formP g y = (-1)) ∧ Below d.heap.size d w') := fun d hd => by
    refine (refRenameP_wide a1 a2 m1 m2 c1 c2 S T hm1 hm2 x d (hX.later hd) sx (hS.later hd) (hT'.later hd)).mono ?_
    rintro e w' ⟨g, rfl, q1, q2, _, q3⟩
    have e0 : formP x g = 0 := form3.eq (form_ren _ x) (by rw [form3.turn, form_sm q2]; rfl)
    exact ⟨g, rfl, ⟨q1, e0, by rw [← hf]; exact (ord_left form3 tri_form e0).symm⟩, q3⟩
  have IX : Hid (∀ d, Below w.heap.size w d → IsP d x) := fun d h => hX.later h
  have IY : Hid (∀ d, Below w.heap.size w d → IsP d y) := fun d h => hY.later h
  have F3' : Hid (∀ d, Below w.heap.size w d → Calls Try.prog 19 #[x.val, y.val] d fun e w' => e = .returned (.int .i64 (-1)) ∧ Below d.heap.size d w') := fun d h => by rw [← hf]; exact formP_any x y d (hX.later h) (hY.later h)
  clear hB hn hm hk hX hY hZ hl hP hBC hs sx hqq hr hp hf hS hT' hm1 hm2
  go_enter Try.func4, Try.ntmps4
  go_upto_region 7 with (first
    | (go_at_call 6; refine L1.out.mono ?_; clear L1; rintro e w1 ⟨rfl, hB1⟩; have h1 := HB.out.trans (hB1.mono HB.out.size); obtain ⟨a0, a1', a2', a3, a4, a5⟩ := (NX.out.later hB1).at0; obtain ⟨b0, b1, b2, b3, b4, b5⟩ := (NY.out.later hB1).at0)
    | (go_at_call 17; refine (Kxz.out _ h5).mono ?_; clear Kxz; rintro e w6 ⟨rfl, hB6⟩)
    | (go_at_call 17; refine (Kyx.out _ h4).mono ?_; clear Kyx; rintro e w5 ⟨rfl, hB5⟩; have h5 := h4.trans (hB5.mono h4.size); have g5 := g4.trans (hB5.mono g4.size); obtain ⟨a0, a1', a2', a3, a4, a5⟩ := (NX.out.later g5).at0; obtain ⟨k0, k1, k2, k3, k4, k5⟩ := (NZ.out.later g5).at0)
    | (go_at_call 15; refine (Ksm.out _ h3).mono ?_; clear Ksm; rintro e w4 ⟨rfl, hB4⟩; have h4 := h3.trans (hB4.mono h3.size); have g4 := g3.trans (hB4.mono g3.size); obtain ⟨a0, a1', a2', a3, a4, a5⟩ := (NX.out.later g4).at0; obtain ⟨b0, b1, b2, b3, b4, b5⟩ := (NY.out.later g4).at0)
    | (go_at_call 17; refine (Kyz.out _ h2).mono ?_; clear Kyz; rintro e w3 ⟨rfl, hB3⟩; have h3 := h2.trans (hB3.mono h2.size); have g3 := g2.trans (hB3.mono g2.size); obtain ⟨a0, a1', a2', a3, a4, a5⟩ := (NX.out.later g3).at0; obtain ⟨b0, b1, b2, b3, b4, b5⟩ := (NY.out.later g3).at0)
    | (go_at_call 17; refine (Kxy.out _ h1).mono ?_; clear Kxy; rintro e w2 ⟨rfl, hB2⟩; have h2 := h1.trans (hB2.mono h1.size); have g2 := hB1.trans (hB2.mono hB1.size); obtain ⟨b0, b1, b2, b3, b4, b5⟩ := (NY.out.later g2).at0; obtain ⟨k0, k1, k2, k3, k4, k5⟩ := (NZ.out.later g2).at0))
  have h6 := h5
  have g6 := g5
  obtain ⟨u0, u1, u2, u3, u4, u5⟩ := (NX.out.later g6).at0
  go_upto_region 8 with (go_at_call 18; refine (Krn.out _ h6).mono ?_; clear Krn; rintro e w7 ⟨g, rfl, hg, hB7⟩; obtain ⟨V, hV, hBV, -, hNV⟩ := boxP_one g w7)
  have h7 := h6.trans (hB7.mono h6.size)
  have g7 := g6.trans (hB7.mono g6.size)
  have HV : Hid (Below w.heap.size w V) := h7.trans (hBV.mono h7.size)
  have gV := g7.trans (hBV.mono g7.size)
  have PX : Hid (NodeP V w.heap.size 0 x) := NX.out.later gV
  have PY : Hid (NodeP V (w.heap.size + 1) 0 y) := NY.out.later gV
  have PD : Hid (NodeP V w7.heap.size 0 g) := hNV
  have F1 : Hid (∀ d, Below V.heap.size V d → Calls Try.prog 19 #[x.val, g.val] d fun e w' => e = .returned (.int .i64 0) ∧ Below d.heap.size d w') := fun d h => by
    have hd := HV.out.trans (h.mono HV.out.size)
    have := formP_any x g d (IX.out d hd) ((hg.out.1.later hBV).later h)
    rw [hg.out.2.1] at this
    exact this
  have F2 : Hid (∀ d, Below V.heap.size V d → Calls Try.prog 19 #[g.val, y.val] d fun e w' => e = .returned (.int .i64 (-1)) ∧ Below d.heap.size d w') := fun d h => by
    have hd := HV.out.trans (h.mono HV.out.size)
    have := formP_any g y d ((hg.out.1.later hBV).later h) (IY.out d hd)
    rw [hg.out.2.2] at this
    exact this
  have F3 : Hid (∀ d, Below V.heap.size V d → Calls Try.prog 19 #[x.val, y.val] d fun e w' => e = .returned (.int .i64 (-1)) ∧ Below d.heap.size d w') := fun d h => F3'.out d (HV.out.trans (h.mono HV.out.size))
  clear F3' IX IY hg h7 g7 gV hBV hNV hB7 h6 g6 NX NY NZ hA hC u0 u1 u2 u3 u4 u5
  refine wp_region_noPanic ?_
  refine wp_region_held_drew (S := fun w' => Below V.heap.size V w') (by kernel_rfl) ((Below.refl _ _).drew) (fun hHeld => ?_)
  have hT : Below V.heap.size V V.drew := hHeld
  obtain ⟨d, hdw⟩ : ∃ d, d = V.drew := ⟨_, rfl⟩
  rw [← hdw] at hHeld hT ⊢
  clear hdw
  refine wpAnyH_take (i := 0) (oi := ⟨some 59, Op.load 27 (Operand.tmp 5), 27, _, _, _⟩) (v := ?v0d) rfl (by kernel_rfl) (by kernel_rfl) (by kernel_rfl) (fun _ _ _ h => h) (Or.inl ⟨by rfl, ?hy0d⟩) hHeld ?rest0d
  case hy0d => intro w9 hSw; obtain ⟨d0, d1, d2, d3, d4, d5⟩ := (PX.out.later hSw).at0; go_simp; (try with_reducible rfl)
  try simp only [Act.put, List.setIfInBounds_toArray, List.set_cons_zero, List.set_cons_succ]
  refine wpAnyH_take (i := 1) (oi := ⟨some 60, Op.load 27 (Operand.tmp 13), 27, _, _, _⟩) (v := ?v1d) rfl (by kernel_rfl) (by kernel_rfl) (by kernel_rfl) (fun _ _ _ h => h) (Or.inl ⟨by rfl, ?hy1d⟩) hHeld ?rest1d
  case hy1d => intro w9 hSw; obtain ⟨d0, d1, d2, d3, d4, d5⟩ := (PD.out.later hSw).at0; go_simp; (try with_reducible rfl)
  try simp only [Act.put, List.setIfInBounds_toArray, List.set_cons_zero, List.set_cons_succ]
  refine wpAnyH_ready (rs := [2]) (by kernel_rfl) (by simp) ?_
  refine AllReadyH.cons (o := ⟨some 61, Op.call { callee := Callee.value (Operand.func 19), args := #[Operand.tmp 59, Operand.tmp 60], argTypes := #[27, 27] }, 3, _, _, _⟩) rfl (fun K hK => ?_) AllReadyH.nil
  go_simp
  refine (F1.out _ hT).mono ?_
  rintro e x2 ⟨rfl, hN2⟩
  go_wp2_with fail
  have hT2 : Below V.heap.size V x2 := hT.trans (hN2.mono hT.size)
  refine hK.out _ _ (hHeld.trans (hN2.mono hHeld.size)) (fun _ => held_up (S' := fun w' => Below x2.heap.size x2 w') (fun w' h' => (hHeld.trans (hN2.mono hHeld.size)).trans (h'.mono (Nat.le_trans hHeld.size hN2.size))) _ _ _ _ ?_)
  clear hK K hHeld hT
  have hT : Below V.heap.size V x2 := hT2
  have hHeld : Below x2.heap.size x2 x2 := Below.refl _ _
  clear hT2 hN2
  try simp only [Act.put, List.setIfInBounds_toArray, List.set_cons_zero, List.set_cons_succ]
  refine wpAnyH_take (i := 3) (oi := ⟨some 62, Op.binOp BinOp.eql 3 (Operand.tmp 61) (Operand.const (Value.int IntKind.i64 0)) 3, 4, _, _, _⟩) (v := ?v3d) rfl (by kernel_rfl) (by kernel_rfl) (by kernel_rfl) (fun _ _ _ h => h) (Or.inl ⟨by rfl, ?hy3d⟩) hHeld ?rest3d
  case hy3d => intro w9 hSw; go_simp; (try with_reducible rfl)
  try simp only [Act.put, List.setIfInBounds_toArray, List.set_cons_zero, List.set_cons_succ]
  refine wpAnyH_take (i := 4) (oi := ⟨some 63, Op.move (Operand.tmp 62), 4, _, _, _⟩) (v := ?v4d) rfl (by kernel_rfl) (by kernel_rfl) (by kernel_rfl) (fun _ _ _ h => h) (Or.inl ⟨by rfl, ?hy4d⟩) hHeld ?rest4d
  case hy4d => intro w9 hSw; go_simp; (try with_reducible rfl)
  try simp only [Act.put, List.setIfInBounds_toArray, List.set_cons_zero, List.set_cons_succ]
  refine wpAnyH_take (i := 5) (oi := ⟨some 64, Op.load 27 (Operand.tmp 13), 27, _, _, _⟩) (v := ?v5d) rfl (by kernel_rfl) (by kernel_rfl) (by kernel_rfl) (fun _ _ _ h => h) (Or.inl ⟨by rfl, ?hy5d⟩) hHeld ?rest5d
  case hy5d => intro w9 hSw; obtain ⟨d0, d1, d2, d3, d4, d5⟩ := (PD.out.later (hT.trans (hSw.mono hT.size))).at0; go_simp; (try with_reducible rfl)
  try simp only [Act.put, List.setIfInBounds_toArray, List.set_cons_zero, List.set_cons_succ]
  refine wpAnyH_take (i := 6) (oi := ⟨some 65, Op.load 27 (Operand.tmp 6), 27, _, _, _⟩) (v := ?v6d) rfl (by kernel_rfl) (by kernel_rfl) (by kernel_rfl) (fun _ _ _ h => h) (Or.inl ⟨by rfl, ?hy6d⟩) hHeld ?rest6d
  case hy6d => intro w9 hSw; obtain ⟨d0, d1, d2, d3, d4, d5⟩ := (PY.out.later (hT.trans (hSw.mono hT.size))).at0; go_simp; (try with_reducible rfl)
  try simp only [Act.put, List.setIfInBounds_toArray, List.set_cons_zero, List.set_cons_succ]
  refine wpAnyH_take (i := 8) (oi := ⟨some 67, Op.load 27 (Operand.tmp 5), 27, _, _, _⟩) (v := ?v8d) rfl (by kernel_rfl) (by kernel_rfl) (by kernel_rfl) (fun _ _ _ h => h) (Or.inl ⟨by rfl, ?hy8d⟩) hHeld ?rest8d
  case hy8d => intro w9 hSw; obtain ⟨d0, d1, d2, d3, d4, d5⟩ := (PX.out.later (hT.trans (hSw.mono hT.size))).at0; go_simp; (try with_reducible rfl)
  try simp only [Act.put, List.setIfInBounds_toArray, List.set_cons_zero, List.set_cons_succ]
  refine wpAnyH_take (i := 9) (oi := ⟨some 68, Op.load 27 (Operand.tmp 6), 27, _, _, _⟩) (v := ?v9d) rfl (by kernel_rfl) (by kernel_rfl) (by kernel_rfl) (fun _ _ _ h => h) (Or.inl ⟨by rfl, ?hy9d⟩) hHeld ?rest9d
  case hy9d => intro w9 hSw; obtain ⟨d0, d1, d2, d3, d4, d5⟩ := (PY.out.later (hT.trans (hSw.mono hT.size))).at0; go_simp; (try with_reducible rfl)
  try simp only [Act.put, List.setIfInBounds_toArray, List.set_cons_zero, List.set_cons_succ]
  refine wpAnyH_ready (rs := [7]) (by kernel_rfl) (by simp) ?_
  refine AllReadyH.cons (o := ⟨some 66, Op.call { callee := Callee.value (Operand.func 19), args := #[Operand.tmp 64, Operand.tmp 65], argTypes := #[27, 27] }, 3, _, _, _⟩) rfl (fun K hK => ?_) AllReadyH.nil
  go_simp
  refine (F2.out _ hT).mono ?_
  rintro e x7 ⟨rfl, hN7⟩
  go_wp2_with fail
  have hT7 : Below V.heap.size V x7 := hT.trans (hN7.mono hT.size)
  refine hK.out _ _ (hHeld.trans (hN7.mono hHeld.size)) (fun _ => held_up (S' := fun w' => Below x7.heap.size x7 w') (fun w' h' => (hHeld.trans (hN7.mono hHeld.size)).trans (h'.mono (Nat.le_trans hHeld.size hN7.size))) _ _ _ _ ?_)
  clear hK K hHeld hT
  have hT : Below V.heap.size V x7 := hT7
  have hHeld : Below x7.heap.size x7 x7 := Below.refl _ _
  clear hT7 hN7
  try simp only [Act.put, List.setIfInBounds_toArray, List.set_cons_zero, List.set_cons_succ]
  refine wpAnyH_ready (rs := [10]) (by kernel_rfl) (by simp) ?_
  refine AllReadyH.cons (o := ⟨some 69, Op.call { callee := Callee.value (Operand.func 19), args := #[Operand.tmp 67, Operand.tmp 68], argTypes := #[27, 27] }, 3, _, _, _⟩) rfl (fun K hK => ?_) AllReadyH.nil
  go_simp
  refine (F3.out _ hT).mono ?_
  rintro e x10 ⟨rfl, hN10⟩
  go_wp2_with fail
  have hT10 : Below V.heap.size V x10 := hT.trans (hN10.mono hT.size)
  refine hK.out _ _ (hHeld.trans (hN10.mono hHeld.size)) (fun _ => held_up (S' := fun w' => Below x10.heap.size x10 w') (fun w' h' => (hHeld.trans (hN10.mono hHeld.size)).trans (h'.mono (Nat.le_trans hHeld.size hN10.size))) _ _ _ _ ?_)
  clear hK K hHeld hT
  have hT : Below V.heap.size V x10 := hT10
  have hHeld : Below x10.heap.size x10 x10 := Below.refl _ _
  clear hT10 hN10
  try simp only [Act.put, List.setIfInBounds_toArray, List.set_cons_zero, List.set_cons_succ]
  refine wpAnyH_take (i := 11) (oi := ⟨some 70, Op.binOp BinOp.eql 3 (Operand.tmp 66) (Operand.tmp 69) 3, 4, _, _, _⟩) (v := ?v11d) rfl (by kernel_rfl) (by kernel_rfl) (by kernel_rfl) (fun _ _ _ h => h) (Or.inl ⟨by rfl, ?hy11d⟩) hHeld ?rest11d
  case hy11d => intro w9 hSw; go_simp; (try with_reducible rfl)
  try simp only [Act.put, List.setIfInBounds_toArray, List.set_cons_zero, List.set_cons_succ]
  refine wpAnyH_take (i := 12) (oi := ⟨some 71, Op.pick (Operand.tmp 63) (Operand.tmp 70) (Operand.const (Value.bool false)), 4, _, _, _⟩) (v := ?v12d) rfl (by kernel_rfl) (by kernel_rfl) (by kernel_rfl) (fun _ _ _ h => h) (Or.inl ⟨by rfl, ?hy12d⟩) hHeld ?rest12d
  case hy12d => intro w9 hSw; go_simp; (try with_reducible rfl)
  try simp only [Act.put, List.setIfInBounds_toArray, List.set_cons_zero, List.set_cons_succ]
  refine wpAnyH_take (i := 13) (oi := ⟨some 72, Op.move (Operand.tmp 71), 4, _, _, _⟩) (v := ?v13d) rfl (by kernel_rfl) (by kernel_rfl) (by kernel_rfl) (fun _ _ _ h => h) (Or.inl ⟨by rfl, ?hy13d⟩) hHeld ?rest13d
  case hy13d => intro w9 hSw; go_simp; (try with_reducible rfl)
  try simp only [Act.put, List.setIfInBounds_toArray, List.set_cons_zero, List.set_cons_succ]
  refine wpAnyH_take (i := 14) (oi := ⟨some 73, Op.load 27 (Operand.tmp 5), 27, _, _, _⟩) (v := ?v14d) rfl (by kernel_rfl) (by kernel_rfl) (by kernel_rfl) (fun _ _ _ h => h) (Or.inl ⟨by rfl, ?hy14d⟩) hHeld ?rest14d
  case hy14d => intro w9 hSw; obtain ⟨d0, d1, d2, d3, d4, d5⟩ := (PX.out.later (hT.trans (hSw.mono hT.size))).at0; go_simp; (try with_reducible rfl)
  try simp only [Act.put, List.setIfInBounds_toArray, List.set_cons_zero, List.set_cons_succ]
  refine wpAnyH_take (i := 15) (oi := ⟨some 74, Op.load 27 (Operand.tmp 6), 27, _, _, _⟩) (v := ?v15d) rfl (by kernel_rfl) (by kernel_rfl) (by kernel_rfl) (fun _ _ _ h => h) (Or.inl ⟨by rfl, ?hy15d⟩) hHeld ?rest15d
  case hy15d => intro w9 hSw; obtain ⟨d0, d1, d2, d3, d4, d5⟩ := (PY.out.later (hT.trans (hSw.mono hT.size))).at0; go_simp; (try with_reducible rfl)
  try simp only [Act.put, List.setIfInBounds_toArray, List.set_cons_zero, List.set_cons_succ]
  refine wpAnyH_ready (rs := [16]) (by kernel_rfl) (by simp) ?_
  refine AllReadyH.cons (o := ⟨some 75, Op.call { callee := Callee.value (Operand.func 19), args := #[Operand.tmp 73, Operand.tmp 74], argTypes := #[27, 27] }, 3, _, _, _⟩) rfl (fun K hK => ?_) AllReadyH.nil
  go_simp
  refine (F3.out _ hT).mono ?_
  rintro e x16 ⟨rfl, hN16⟩
  go_wp2_with fail
  have hT16 : Below V.heap.size V x16 := hT.trans (hN16.mono hT.size)
  refine hK.out _ _ (hHeld.trans (hN16.mono hHeld.size)) (fun _ => held_up (S' := fun w' => Below x16.heap.size x16 w') (fun w' h' => (hHeld.trans (hN16.mono hHeld.size)).trans (h'.mono (Nat.le_trans hHeld.size hN16.size))) _ _ _ _ ?_)
  clear hK K hHeld hT
  have hT : Below V.heap.size V x16 := hT16
  have hHeld : Below x16.heap.size x16 x16 := Below.refl _ _
  clear hT16 hN16
  try simp only [Act.put, List.setIfInBounds_toArray, List.set_cons_zero, List.set_cons_succ]
  refine wpAnyH_take (i := 17) (oi := ⟨some 76, Op.binOp BinOp.eql 3 (Operand.tmp 75) (Operand.const (Value.int IntKind.i64 0)) 3, 4, _, _, _⟩) (v := ?v17d) rfl (by kernel_rfl) (by kernel_rfl) (by kernel_rfl) (fun _ _ _ h => h) (Or.inl ⟨by rfl, ?hy17d⟩) hHeld ?rest17d
  case hy17d => intro w9 hSw; go_simp; (try with_reducible rfl)
  try simp only [Act.put, List.setIfInBounds_toArray, List.set_cons_zero, List.set_cons_succ]
  refine wpAnyH_take (i := 18) (oi := ⟨some 77, Op.move (Operand.tmp 76), 4, _, _, _⟩) (v := ?v18d) rfl (by kernel_rfl) (by kernel_rfl) (by kernel_rfl) (fun _ _ _ h => h) (Or.inl ⟨by rfl, ?hy18d⟩) hHeld ?rest18d
  case hy18d => intro w9 hSw; go_simp; (try with_reducible rfl)
  try simp only [Act.put, List.setIfInBounds_toArray, List.set_cons_zero, List.set_cons_succ]
  refine wpAnyH_take (i := 19) (oi := ⟨some 78, Op.load 27 (Operand.tmp 5), 27, _, _, _⟩) (v := ?v19d) rfl (by kernel_rfl) (by kernel_rfl) (by kernel_rfl) (fun _ _ _ h => h) (Or.inl ⟨by rfl, ?hy19d⟩) hHeld ?rest19d
  case hy19d => intro w9 hSw; obtain ⟨d0, d1, d2, d3, d4, d5⟩ := (PX.out.later (hT.trans (hSw.mono hT.size))).at0; go_simp; (try with_reducible rfl)
  try simp only [Act.put, List.setIfInBounds_toArray, List.set_cons_zero, List.set_cons_succ]
  refine wpAnyH_take (i := 20) (oi := ⟨some 79, Op.load 27 (Operand.tmp 6), 27, _, _, _⟩) (v := ?v20d) rfl (by kernel_rfl) (by kernel_rfl) (by kernel_rfl) (fun _ _ _ h => h) (Or.inl ⟨by rfl, ?hy20d⟩) hHeld ?rest20d
  case hy20d => intro w9 hSw; obtain ⟨d0, d1, d2, d3, d4, d5⟩ := (PY.out.later (hT.trans (hSw.mono hT.size))).at0; go_simp; (try with_reducible rfl)
  try simp only [Act.put, List.setIfInBounds_toArray, List.set_cons_zero, List.set_cons_succ]
  refine wpAnyH_take (i := 22) (oi := ⟨some 81, Op.move (Operand.tmp 11), 3, _, _, _⟩) (v := ?v22d) rfl (by kernel_rfl) (by kernel_rfl) (by kernel_rfl) (fun _ _ _ h => h) (Or.inl ⟨by rfl, ?hy22d⟩) hHeld ?rest22d
  case hy22d => intro w9 hSw; go_simp; (try with_reducible rfl)
  try simp only [Act.put, List.setIfInBounds_toArray, List.set_cons_zero, List.set_cons_succ]
  refine wpAnyH_ready (rs := [21]) (by kernel_rfl) (by simp) ?_
  refine AllReadyH.cons (o := ⟨some 80, Op.call { callee := Callee.value (Operand.func 19), args := #[Operand.tmp 78, Operand.tmp 79], argTypes := #[27, 27] }, 3, _, _, _⟩) rfl (fun K hK => ?_) AllReadyH.nil
  go_simp
  refine (F3.out _ hT).mono ?_
  rintro e x21 ⟨rfl, hN21⟩
  go_wp2_with fail
  have hT21 : Below V.heap.size V x21 := hT.trans (hN21.mono hT.size)
  refine hK.out _ _ (hHeld.trans (hN21.mono hHeld.size)) (fun _ => held_up (S' := fun w' => Below x21.heap.size x21 w') (fun w' h' => (hHeld.trans (hN21.mono hHeld.size)).trans (h'.mono (Nat.le_trans hHeld.size hN21.size))) _ _ _ _ ?_)
  clear hK K hHeld hT
  have hT : Below V.heap.size V x21 := hT21
  have hHeld : Below x21.heap.size x21 x21 := Below.refl _ _
  clear hT21 hN21
  try simp only [Act.put, List.setIfInBounds_toArray, List.set_cons_zero, List.set_cons_succ]
  refine wpAnyH_take (i := 23) (oi := ⟨some 82, Op.binOp BinOp.eql 3 (Operand.tmp 80) (Operand.tmp 81) 3, 4, _, _, _⟩) (v := ?v23d) rfl (by kernel_rfl) (by kernel_rfl) (by kernel_rfl) (fun _ _ _ h => h) (Or.inl ⟨by rfl, ?hy23d⟩) hHeld ?rest23d
  case hy23d => intro w9 hSw; go_simp; (try with_reducible rfl)
  try simp only [Act.put, List.setIfInBounds_toArray, List.set_cons_zero, List.set_cons_succ]
  refine wpAnyH_take (i := 24) (oi := ⟨some 83, Op.pick (Operand.tmp 77) (Operand.const (Value.bool true)) (Operand.tmp 82), 4, _, _, _⟩) (v := ?v24d) rfl (by kernel_rfl) (by kernel_rfl) (by kernel_rfl) (fun _ _ _ h => h) (Or.inl ⟨by rfl, ?hy24d⟩) hHeld ?rest24d
  case hy24d => intro w9 hSw; go_simp; (try with_reducible rfl)
  try simp only [Act.put, List.setIfInBounds_toArray, List.set_cons_zero, List.set_cons_succ]
  refine wpAnyH_take (i := 25) (oi := ⟨some 84, Op.pick (Operand.tmp 72) (Operand.tmp 83) (Operand.const (Value.bool false)), 4, _, _, _⟩) (v := ?v25d) rfl (by kernel_rfl) (by kernel_rfl) (by kernel_rfl) (fun _ _ _ h => h) (Or.inl ⟨by rfl, ?hy25d⟩) hHeld ?rest25d
  case hy25d => intro w9 hSw; go_simp; (try with_reducible rfl)
  try simp only [Act.put, List.setIfInBounds_toArray, List.set_cons_zero, List.set_cons_succ]
  refine wpAnyH_take (i := 26) (oi := ⟨some 85, Op.move (Operand.tmp 84), 4, _, _, _⟩) (v := ?v26d) rfl (by kernel_rfl) (by kernel_rfl) (by kernel_rfl) (fun _ _ _ h => h) (Or.inl ⟨by rfl, ?hy26d⟩) hHeld ?rest26d
  case hy26d => intro w9 hSw; go_simp; (try with_reducible rfl)
  try simp only [Act.put, List.setIfInBounds_toArray, List.set_cons_zero, List.set_cons_succ]
  refine wpAnyH_ready (rs := [27]) (by kernel_rfl) (by simp) ?_
  refine AllReadyH.cons (o := ⟨some 86, Op.call { callee := Callee.value (Operand.func 8), args := #[], argTypes := #[] }, 4, _, _, _⟩) rfl (fun K hK => ?_) AllReadyH.nil
  go_simp
  refine (W1.out _).mono ?_
  rintro e x27 ⟨rfl, hN27⟩
  go_wp2_with fail
  have hT27 : Below V.heap.size V x27 := hT.trans (hN27.mono hT.size)
  refine hK.out _ _ (hHeld.trans (hN27.mono hHeld.size)) (fun _ => held_up (S' := fun w' => Below x27.heap.size x27 w') (fun w' h' => (hHeld.trans (hN27.mono hHeld.size)).trans (h'.mono (Nat.le_trans hHeld.size hN27.size))) _ _ _ _ ?_)
  clear hK K hHeld hT
  have hT : Below V.heap.size V x27 := hT27
  have hHeld : Below x27.heap.size x27 x27 := Below.refl _ _
  clear hT27 hN27
  try simp only [Act.put, List.setIfInBounds_toArray, List.set_cons_zero, List.set_cons_succ]
  refine wpAnyH_take (i := 28) (oi := ⟨some 87, Op.pick (Operand.tmp 85) (Operand.tmp 86) (Operand.const (Value.bool false)), 4, _, _, _⟩) (v := ?v28d) rfl (by kernel_rfl) (by kernel_rfl) (by kernel_rfl) (fun _ _ _ h => h) (Or.inl ⟨by rfl, ?hy28d⟩) hHeld ?rest28d
  case hy28d => intro w9 hSw; go_simp; (try with_reducible rfl)
  try simp only [Act.put, List.setIfInBounds_toArray, List.set_cons_zero, List.set_cons_succ]
  refine wpAnyH_take (i := 29) (oi := ⟨some 10, Op.assign (Operand.tmp 87), 4, _, _, _⟩) (v := ?v29d) rfl (by kernel_rfl) (by kernel_rfl) (by kernel_rfl) (fun _ _ _ h => h) (Or.inl ⟨by rfl, ?hy29d⟩) hHeld ?rest29d
  case hy29d => intro w9 hSw; go_simp; (try with_reducible rfl)
  try simp only [Act.put, List.setIfInBounds_toArray, List.set_cons_zero, List.set_cons_succ]
  refine wpAnyH_done (by kernel_rfl) ?_ _
  refine NoPanic.normal ?_
  go_wp2
  go_ret
  exact ⟨rfl, HV.out.trans (hT.mono HV.out.size)⟩
set_option maxRecDepth 100000 in
set_option maxHeartbeats 16000000 in
theorem orderOrder_e (x y z : Pt) (a1 a2 : Option Addr) (m1 m2 c1 c2 : Nat) (S T : Nat → ByteArray) (w : World) (hX : IsP w x) (hY : IsP w y) (hZ : IsP w z) (sx : WdP x) (hS : Txs w a1 m1 S) (hT' : Txs w a2 m2 T) (hm1 : m1 ≤ 9223372036854775807) (hm2 : m2 ≤ 9223372036854775807)
    (hl : litB (threeP x y z) 3 = true) (hp : wholeP x y = 0) (hf : formP x y = 0) (hq : wholeP y z ≤ 0) :
    Calls Try.prog 4 #[x.val, y.val, z.val, .slice a1 m1 c1, .slice a2 m2 c2] w fun e w' => e = .returned (.bool true) ∧ Below w.heap.size w w' := by
  obtain ⟨A, hA, hB, hs, hn, hm, hk⟩ := boxP_three x y z w
  obtain ⟨a0, a1', a2', a3, a4, a5⟩ := hn.at0
  obtain ⟨b0, b1, b2, b3, b4, b5⟩ := hm.at0
  obtain ⟨k0, k1, k2, k3, k4, k5⟩ := hk.at0
  obtain ⟨C, hC, hBC, hP⟩ := threeP_row (hX.later hB) (hY.later hB) (hZ.later hB)
  have HB : Hid (Below w.heap.size w C) := hB.trans (hBC.mono hB.size)
  have NX : Hid (NodeP C w.heap.size 0 x) := hn.later hBC
  have NY : Hid (NodeP C (w.heap.size + 1) 0 y) := hm.later hBC
  have NZ : Hid (NodeP C (w.heap.size + 1 + 1) 0 z) := hk.later hBC
  have L1 : Hid (Calls Try.prog 6 #[.slice (some ⟨A.heap.size, 0, none⟩) 3 3] C fun e w' => e = .returned (.bool true) ∧ Below C.heap.size C w') := by
    have := lightW_any _ 3 3 _ C (by omega) hP
    rw [hl] at this
    exact this
  have W1 : Hid (∀ d, Calls Try.prog 8 #[] d fun e w' => e = .returned (.bool true) ∧ Below d.heap.size d w') := fun d => awake15_any d
  obtain ⟨q, hqq⟩ : ∃ q, q = wholeP y z := ⟨_, rfl⟩
  obtain ⟨r, hr⟩ : ∃ r, r = wholeP x z := ⟨_, rfl⟩
  rw [← hqq] at hq
  have hrr : r ≤ 0 := by rw [hr]; exact whole3.le (by rw [hp]; decide) (by rw [← hqq]; exact hq)
  have Kxy : Hid (∀ d, Below w.heap.size w d → Calls Try.prog 17 #[x.val, y.val] d fun e w' => e = .returned (.int .i64 0) ∧ Below d.heap.size d w') := fun d h => by rw [← hp]; exact wholeP_any x y d (hX.later h) (hY.later h)
  have Kyz : Hid (∀ d, Below w.heap.size w d → Calls Try.prog 17 #[y.val, z.val] d fun e w' => e = .returned (.int .i64 q) ∧ Below d.heap.size d w') := fun d h => by rw [hqq]; exact wholeP_any y z d (hY.later h) (hZ.later h)
  have Kyx : Hid (∀ d, Below w.heap.size w d → Calls Try.prog 17 #[y.val, x.val] d fun e w' => e = .returned (.int .i64 0) ∧ Below d.heap.size d w') := fun d h => by
    have := wholeP_any y x d (hY.later h) (hX.later h)
    rw [whole3.turn x y, hp] at this
    exact this
  have Kxz : Hid (∀ d, Below w.heap.size w d → Calls Try.prog 17 #[x.val, z.val] d fun e w' => e = .returned (.int .i64 r) ∧ Below d.heap.size d w') := fun d h => by rw [hr]; exact wholeP_any x z d (hX.later h) (hZ.later h)
  have Ksm : Hid (∀ d, Below w.heap.size w d → Calls Try.prog 15 #[x.val, y.val] d fun e w' => e = .returned (.bool true) ∧ Below d.heap.size d w') := fun d h => by
    have := refSameP_any x y d (hX.later h) (hY.later h)
    rw [show sameP x y = true from (whole_sm x y).1 hp] at this
    exact this
  have Krn : Hid (∀ d, Below w.heap.size w d → Calls Try.prog 18 #[x.val, .slice a1 m1 c1, .slice a2 m2 c2] d fun e w' => ∃ g : Pt, e = .returned g.val ∧ Hid (IsP w' g ∧ formP x g = 0 ∧ formP g y = 0) ∧ Below d.heap.size d w') := fun d hd => by
    refine (refRenameP_wide a1 a2 m1 m2 c1 c2 S T hm1 hm2 x d (hX.later hd) sx (hS.later hd) (hT'.later hd)).mono ?_
    rintro e w' ⟨g, rfl, q1, q2, _, q3⟩
    have e0 : formP x g = 0 := form3.eq (form_ren _ x) (by rw [form3.turn, form_sm q2]; rfl)
    exact ⟨g, rfl, ⟨q1, e0, by rw [← hf]; exact (ord_left form3 tri_form e0).symm⟩, q3⟩
  have IX : Hid (∀ d, Below w.heap.size w d → IsP d x) := fun d h => hX.later h
  have IY : Hid (∀ d, Below w.heap.size w d → IsP d y) := fun d h => hY.later h
  have F3' : Hid (∀ d, Below w.heap.size w d → Calls Try.prog 19 #[x.val, y.val] d fun e w' => e = .returned (.int .i64 0) ∧ Below d.heap.size d w') := fun d h => by rw [← hf]; exact formP_any x y d (hX.later h) (hY.later h)
  clear hB hn hm hk hX hY hZ hl hP hBC hs sx hqq hr hp hf hS hT' hm1 hm2
  go_enter Try.func4, Try.ntmps4
  go_upto_region 7 with (first
    | (go_at_call 6; refine L1.out.mono ?_; clear L1; rintro e w1 ⟨rfl, hB1⟩; have h1 := HB.out.trans (hB1.mono HB.out.size); obtain ⟨a0, a1', a2', a3, a4, a5⟩ := (NX.out.later hB1).at0; obtain ⟨b0, b1, b2, b3, b4, b5⟩ := (NY.out.later hB1).at0)
    | (go_at_call 17; refine (Kxz.out _ h5).mono ?_; clear Kxz; rintro e w6 ⟨rfl, hB6⟩)
    | (go_at_call 17; refine (Kyx.out _ h4).mono ?_; clear Kyx; rintro e w5 ⟨rfl, hB5⟩; have h5 := h4.trans (hB5.mono h4.size); have g5 := g4.trans (hB5.mono g4.size); obtain ⟨a0, a1', a2', a3, a4, a5⟩ := (NX.out.later g5).at0; obtain ⟨k0, k1, k2, k3, k4, k5⟩ := (NZ.out.later g5).at0)
    | (go_at_call 15; refine (Ksm.out _ h3).mono ?_; clear Ksm; rintro e w4 ⟨rfl, hB4⟩; have h4 := h3.trans (hB4.mono h3.size); have g4 := g3.trans (hB4.mono g3.size); obtain ⟨a0, a1', a2', a3, a4, a5⟩ := (NX.out.later g4).at0; obtain ⟨b0, b1, b2, b3, b4, b5⟩ := (NY.out.later g4).at0)
    | (go_at_call 17; refine (Kyz.out _ h2).mono ?_; clear Kyz; rintro e w3 ⟨rfl, hB3⟩; have h3 := h2.trans (hB3.mono h2.size); have g3 := g2.trans (hB3.mono g2.size); obtain ⟨a0, a1', a2', a3, a4, a5⟩ := (NX.out.later g3).at0; obtain ⟨b0, b1, b2, b3, b4, b5⟩ := (NY.out.later g3).at0)
    | (go_at_call 17; refine (Kxy.out _ h1).mono ?_; clear Kxy; rintro e w2 ⟨rfl, hB2⟩; have h2 := h1.trans (hB2.mono h1.size); have g2 := hB1.trans (hB2.mono hB1.size); obtain ⟨b0, b1, b2, b3, b4, b5⟩ := (NY.out.later g2).at0; obtain ⟨k0, k1, k2, k3, k4, k5⟩ := (NZ.out.later g2).at0))
  have h6 := h5.trans (hB6.mono h5.size)
  have g6 := g5.trans (hB6.mono g5.size)
  obtain ⟨u0, u1, u2, u3, u4, u5⟩ := (NX.out.later g6).at0
  go_upto_region 8 with (go_at_call 18; refine (Krn.out _ h6).mono ?_; clear Krn; rintro e w7 ⟨g, rfl, hg, hB7⟩; obtain ⟨V, hV, hBV, -, hNV⟩ := boxP_one g w7)
  have h7 := h6.trans (hB7.mono h6.size)
  have g7 := g6.trans (hB7.mono g6.size)
  have HV : Hid (Below w.heap.size w V) := h7.trans (hBV.mono h7.size)
  have gV := g7.trans (hBV.mono g7.size)
  have PX : Hid (NodeP V w.heap.size 0 x) := NX.out.later gV
  have PY : Hid (NodeP V (w.heap.size + 1) 0 y) := NY.out.later gV
  have PD : Hid (NodeP V w7.heap.size 0 g) := hNV
  have F1 : Hid (∀ d, Below V.heap.size V d → Calls Try.prog 19 #[x.val, g.val] d fun e w' => e = .returned (.int .i64 0) ∧ Below d.heap.size d w') := fun d h => by
    have hd := HV.out.trans (h.mono HV.out.size)
    have := formP_any x g d (IX.out d hd) ((hg.out.1.later hBV).later h)
    rw [hg.out.2.1] at this
    exact this
  have F2 : Hid (∀ d, Below V.heap.size V d → Calls Try.prog 19 #[g.val, y.val] d fun e w' => e = .returned (.int .i64 0) ∧ Below d.heap.size d w') := fun d h => by
    have hd := HV.out.trans (h.mono HV.out.size)
    have := formP_any g y d ((hg.out.1.later hBV).later h) (IY.out d hd)
    rw [hg.out.2.2] at this
    exact this
  have F3 : Hid (∀ d, Below V.heap.size V d → Calls Try.prog 19 #[x.val, y.val] d fun e w' => e = .returned (.int .i64 0) ∧ Below d.heap.size d w') := fun d h => F3'.out d (HV.out.trans (h.mono HV.out.size))
  clear F3' IX IY hg h7 g7 gV hBV hNV hB7 h6 g6 NX NY NZ hA hC u0 u1 u2 u3 u4 u5
  refine wp_region_noPanic ?_
  refine wp_region_held_drew (S := fun w' => Below V.heap.size V w') (by kernel_rfl) ((Below.refl _ _).drew) (fun hHeld => ?_)
  have hT : Below V.heap.size V V.drew := hHeld
  obtain ⟨d, hdw⟩ : ∃ d, d = V.drew := ⟨_, rfl⟩
  rw [← hdw] at hHeld hT ⊢
  clear hdw
  refine wpAnyH_take (i := 0) (oi := ⟨some 59, Op.load 27 (Operand.tmp 5), 27, _, _, _⟩) (v := ?v0e) rfl (by kernel_rfl) (by kernel_rfl) (by kernel_rfl) (fun _ _ _ h => h) (Or.inl ⟨by rfl, ?hy0e⟩) hHeld ?rest0e
  case hy0e => intro w9 hSw; obtain ⟨d0, d1, d2, d3, d4, d5⟩ := (PX.out.later hSw).at0; go_simp; (try with_reducible rfl)
  try simp only [Act.put, List.setIfInBounds_toArray, List.set_cons_zero, List.set_cons_succ]
  refine wpAnyH_take (i := 1) (oi := ⟨some 60, Op.load 27 (Operand.tmp 13), 27, _, _, _⟩) (v := ?v1e) rfl (by kernel_rfl) (by kernel_rfl) (by kernel_rfl) (fun _ _ _ h => h) (Or.inl ⟨by rfl, ?hy1e⟩) hHeld ?rest1e
  case hy1e => intro w9 hSw; obtain ⟨d0, d1, d2, d3, d4, d5⟩ := (PD.out.later hSw).at0; go_simp; (try with_reducible rfl)
  try simp only [Act.put, List.setIfInBounds_toArray, List.set_cons_zero, List.set_cons_succ]
  refine wpAnyH_ready (rs := [2]) (by kernel_rfl) (by simp) ?_
  refine AllReadyH.cons (o := ⟨some 61, Op.call { callee := Callee.value (Operand.func 19), args := #[Operand.tmp 59, Operand.tmp 60], argTypes := #[27, 27] }, 3, _, _, _⟩) rfl (fun K hK => ?_) AllReadyH.nil
  go_simp
  refine (F1.out _ hT).mono ?_
  rintro e x2 ⟨rfl, hN2⟩
  go_wp2_with fail
  have hT2 : Below V.heap.size V x2 := hT.trans (hN2.mono hT.size)
  refine hK.out _ _ (hHeld.trans (hN2.mono hHeld.size)) (fun _ => held_up (S' := fun w' => Below x2.heap.size x2 w') (fun w' h' => (hHeld.trans (hN2.mono hHeld.size)).trans (h'.mono (Nat.le_trans hHeld.size hN2.size))) _ _ _ _ ?_)
  clear hK K hHeld hT
  have hT : Below V.heap.size V x2 := hT2
  have hHeld : Below x2.heap.size x2 x2 := Below.refl _ _
  clear hT2 hN2
  try simp only [Act.put, List.setIfInBounds_toArray, List.set_cons_zero, List.set_cons_succ]
  refine wpAnyH_take (i := 3) (oi := ⟨some 62, Op.binOp BinOp.eql 3 (Operand.tmp 61) (Operand.const (Value.int IntKind.i64 0)) 3, 4, _, _, _⟩) (v := ?v3e) rfl (by kernel_rfl) (by kernel_rfl) (by kernel_rfl) (fun _ _ _ h => h) (Or.inl ⟨by rfl, ?hy3e⟩) hHeld ?rest3e
  case hy3e => intro w9 hSw; go_simp; (try with_reducible rfl)
  try simp only [Act.put, List.setIfInBounds_toArray, List.set_cons_zero, List.set_cons_succ]
  refine wpAnyH_take (i := 4) (oi := ⟨some 63, Op.move (Operand.tmp 62), 4, _, _, _⟩) (v := ?v4e) rfl (by kernel_rfl) (by kernel_rfl) (by kernel_rfl) (fun _ _ _ h => h) (Or.inl ⟨by rfl, ?hy4e⟩) hHeld ?rest4e
  case hy4e => intro w9 hSw; go_simp; (try with_reducible rfl)
  try simp only [Act.put, List.setIfInBounds_toArray, List.set_cons_zero, List.set_cons_succ]
  refine wpAnyH_take (i := 5) (oi := ⟨some 64, Op.load 27 (Operand.tmp 13), 27, _, _, _⟩) (v := ?v5e) rfl (by kernel_rfl) (by kernel_rfl) (by kernel_rfl) (fun _ _ _ h => h) (Or.inl ⟨by rfl, ?hy5e⟩) hHeld ?rest5e
  case hy5e => intro w9 hSw; obtain ⟨d0, d1, d2, d3, d4, d5⟩ := (PD.out.later (hT.trans (hSw.mono hT.size))).at0; go_simp; (try with_reducible rfl)
  try simp only [Act.put, List.setIfInBounds_toArray, List.set_cons_zero, List.set_cons_succ]
  refine wpAnyH_take (i := 6) (oi := ⟨some 65, Op.load 27 (Operand.tmp 6), 27, _, _, _⟩) (v := ?v6e) rfl (by kernel_rfl) (by kernel_rfl) (by kernel_rfl) (fun _ _ _ h => h) (Or.inl ⟨by rfl, ?hy6e⟩) hHeld ?rest6e
  case hy6e => intro w9 hSw; obtain ⟨d0, d1, d2, d3, d4, d5⟩ := (PY.out.later (hT.trans (hSw.mono hT.size))).at0; go_simp; (try with_reducible rfl)
  try simp only [Act.put, List.setIfInBounds_toArray, List.set_cons_zero, List.set_cons_succ]
  refine wpAnyH_take (i := 8) (oi := ⟨some 67, Op.load 27 (Operand.tmp 5), 27, _, _, _⟩) (v := ?v8e) rfl (by kernel_rfl) (by kernel_rfl) (by kernel_rfl) (fun _ _ _ h => h) (Or.inl ⟨by rfl, ?hy8e⟩) hHeld ?rest8e
  case hy8e => intro w9 hSw; obtain ⟨d0, d1, d2, d3, d4, d5⟩ := (PX.out.later (hT.trans (hSw.mono hT.size))).at0; go_simp; (try with_reducible rfl)
  try simp only [Act.put, List.setIfInBounds_toArray, List.set_cons_zero, List.set_cons_succ]
  refine wpAnyH_take (i := 9) (oi := ⟨some 68, Op.load 27 (Operand.tmp 6), 27, _, _, _⟩) (v := ?v9e) rfl (by kernel_rfl) (by kernel_rfl) (by kernel_rfl) (fun _ _ _ h => h) (Or.inl ⟨by rfl, ?hy9e⟩) hHeld ?rest9e
  case hy9e => intro w9 hSw; obtain ⟨d0, d1, d2, d3, d4, d5⟩ := (PY.out.later (hT.trans (hSw.mono hT.size))).at0; go_simp; (try with_reducible rfl)
  try simp only [Act.put, List.setIfInBounds_toArray, List.set_cons_zero, List.set_cons_succ]
  refine wpAnyH_ready (rs := [7]) (by kernel_rfl) (by simp) ?_
  refine AllReadyH.cons (o := ⟨some 66, Op.call { callee := Callee.value (Operand.func 19), args := #[Operand.tmp 64, Operand.tmp 65], argTypes := #[27, 27] }, 3, _, _, _⟩) rfl (fun K hK => ?_) AllReadyH.nil
  go_simp
  refine (F2.out _ hT).mono ?_
  rintro e x7 ⟨rfl, hN7⟩
  go_wp2_with fail
  have hT7 : Below V.heap.size V x7 := hT.trans (hN7.mono hT.size)
  refine hK.out _ _ (hHeld.trans (hN7.mono hHeld.size)) (fun _ => held_up (S' := fun w' => Below x7.heap.size x7 w') (fun w' h' => (hHeld.trans (hN7.mono hHeld.size)).trans (h'.mono (Nat.le_trans hHeld.size hN7.size))) _ _ _ _ ?_)
  clear hK K hHeld hT
  have hT : Below V.heap.size V x7 := hT7
  have hHeld : Below x7.heap.size x7 x7 := Below.refl _ _
  clear hT7 hN7
  try simp only [Act.put, List.setIfInBounds_toArray, List.set_cons_zero, List.set_cons_succ]
  refine wpAnyH_ready (rs := [10]) (by kernel_rfl) (by simp) ?_
  refine AllReadyH.cons (o := ⟨some 69, Op.call { callee := Callee.value (Operand.func 19), args := #[Operand.tmp 67, Operand.tmp 68], argTypes := #[27, 27] }, 3, _, _, _⟩) rfl (fun K hK => ?_) AllReadyH.nil
  go_simp
  refine (F3.out _ hT).mono ?_
  rintro e x10 ⟨rfl, hN10⟩
  go_wp2_with fail
  have hT10 : Below V.heap.size V x10 := hT.trans (hN10.mono hT.size)
  refine hK.out _ _ (hHeld.trans (hN10.mono hHeld.size)) (fun _ => held_up (S' := fun w' => Below x10.heap.size x10 w') (fun w' h' => (hHeld.trans (hN10.mono hHeld.size)).trans (h'.mono (Nat.le_trans hHeld.size hN10.size))) _ _ _ _ ?_)
  clear hK K hHeld hT
  have hT : Below V.heap.size V x10 := hT10
  have hHeld : Below x10.heap.size x10 x10 := Below.refl _ _
  clear hT10 hN10
  try simp only [Act.put, List.setIfInBounds_toArray, List.set_cons_zero, List.set_cons_succ]
  refine wpAnyH_take (i := 11) (oi := ⟨some 70, Op.binOp BinOp.eql 3 (Operand.tmp 66) (Operand.tmp 69) 3, 4, _, _, _⟩) (v := ?v11e) rfl (by kernel_rfl) (by kernel_rfl) (by kernel_rfl) (fun _ _ _ h => h) (Or.inl ⟨by rfl, ?hy11e⟩) hHeld ?rest11e
  case hy11e => intro w9 hSw; go_simp; (try with_reducible rfl)
  try simp only [Act.put, List.setIfInBounds_toArray, List.set_cons_zero, List.set_cons_succ]
  refine wpAnyH_take (i := 12) (oi := ⟨some 71, Op.pick (Operand.tmp 63) (Operand.tmp 70) (Operand.const (Value.bool false)), 4, _, _, _⟩) (v := ?v12e) rfl (by kernel_rfl) (by kernel_rfl) (by kernel_rfl) (fun _ _ _ h => h) (Or.inl ⟨by rfl, ?hy12e⟩) hHeld ?rest12e
  case hy12e => intro w9 hSw; go_simp; (try with_reducible rfl)
  try simp only [Act.put, List.setIfInBounds_toArray, List.set_cons_zero, List.set_cons_succ]
  refine wpAnyH_take (i := 13) (oi := ⟨some 72, Op.move (Operand.tmp 71), 4, _, _, _⟩) (v := ?v13e) rfl (by kernel_rfl) (by kernel_rfl) (by kernel_rfl) (fun _ _ _ h => h) (Or.inl ⟨by rfl, ?hy13e⟩) hHeld ?rest13e
  case hy13e => intro w9 hSw; go_simp; (try with_reducible rfl)
  try simp only [Act.put, List.setIfInBounds_toArray, List.set_cons_zero, List.set_cons_succ]
  refine wpAnyH_take (i := 14) (oi := ⟨some 73, Op.load 27 (Operand.tmp 5), 27, _, _, _⟩) (v := ?v14e) rfl (by kernel_rfl) (by kernel_rfl) (by kernel_rfl) (fun _ _ _ h => h) (Or.inl ⟨by rfl, ?hy14e⟩) hHeld ?rest14e
  case hy14e => intro w9 hSw; obtain ⟨d0, d1, d2, d3, d4, d5⟩ := (PX.out.later (hT.trans (hSw.mono hT.size))).at0; go_simp; (try with_reducible rfl)
  try simp only [Act.put, List.setIfInBounds_toArray, List.set_cons_zero, List.set_cons_succ]
  refine wpAnyH_take (i := 15) (oi := ⟨some 74, Op.load 27 (Operand.tmp 6), 27, _, _, _⟩) (v := ?v15e) rfl (by kernel_rfl) (by kernel_rfl) (by kernel_rfl) (fun _ _ _ h => h) (Or.inl ⟨by rfl, ?hy15e⟩) hHeld ?rest15e
  case hy15e => intro w9 hSw; obtain ⟨d0, d1, d2, d3, d4, d5⟩ := (PY.out.later (hT.trans (hSw.mono hT.size))).at0; go_simp; (try with_reducible rfl)
  try simp only [Act.put, List.setIfInBounds_toArray, List.set_cons_zero, List.set_cons_succ]
  refine wpAnyH_ready (rs := [16]) (by kernel_rfl) (by simp) ?_
  refine AllReadyH.cons (o := ⟨some 75, Op.call { callee := Callee.value (Operand.func 19), args := #[Operand.tmp 73, Operand.tmp 74], argTypes := #[27, 27] }, 3, _, _, _⟩) rfl (fun K hK => ?_) AllReadyH.nil
  go_simp
  refine (F3.out _ hT).mono ?_
  rintro e x16 ⟨rfl, hN16⟩
  go_wp2_with fail
  have hT16 : Below V.heap.size V x16 := hT.trans (hN16.mono hT.size)
  refine hK.out _ _ (hHeld.trans (hN16.mono hHeld.size)) (fun _ => held_up (S' := fun w' => Below x16.heap.size x16 w') (fun w' h' => (hHeld.trans (hN16.mono hHeld.size)).trans (h'.mono (Nat.le_trans hHeld.size hN16.size))) _ _ _ _ ?_)
  clear hK K hHeld hT
  have hT : Below V.heap.size V x16 := hT16
  have hHeld : Below x16.heap.size x16 x16 := Below.refl _ _
  clear hT16 hN16
  try simp only [Act.put, List.setIfInBounds_toArray, List.set_cons_zero, List.set_cons_succ]
  refine wpAnyH_take (i := 17) (oi := ⟨some 76, Op.binOp BinOp.eql 3 (Operand.tmp 75) (Operand.const (Value.int IntKind.i64 0)) 3, 4, _, _, _⟩) (v := ?v17e) rfl (by kernel_rfl) (by kernel_rfl) (by kernel_rfl) (fun _ _ _ h => h) (Or.inl ⟨by rfl, ?hy17e⟩) hHeld ?rest17e
  case hy17e => intro w9 hSw; go_simp; (try with_reducible rfl)
  try simp only [Act.put, List.setIfInBounds_toArray, List.set_cons_zero, List.set_cons_succ]
  refine wpAnyH_take (i := 18) (oi := ⟨some 77, Op.move (Operand.tmp 76), 4, _, _, _⟩) (v := ?v18e) rfl (by kernel_rfl) (by kernel_rfl) (by kernel_rfl) (fun _ _ _ h => h) (Or.inl ⟨by rfl, ?hy18e⟩) hHeld ?rest18e
  case hy18e => intro w9 hSw; go_simp; (try with_reducible rfl)
  try simp only [Act.put, List.setIfInBounds_toArray, List.set_cons_zero, List.set_cons_succ]
  refine wpAnyH_take (i := 19) (oi := ⟨some 78, Op.load 27 (Operand.tmp 5), 27, _, _, _⟩) (v := undef) rfl (by kernel_rfl) (by kernel_rfl) (by kernel_rfl) (fun _ _ _ h => h) (Or.inr ⟨by rfl, rfl⟩) hHeld ?rest19e
  try simp only [Act.put, List.setIfInBounds_toArray, List.set_cons_zero, List.set_cons_succ]
  refine wpAnyH_take (i := 20) (oi := ⟨some 79, Op.load 27 (Operand.tmp 6), 27, _, _, _⟩) (v := undef) rfl (by kernel_rfl) (by kernel_rfl) (by kernel_rfl) (fun _ _ _ h => h) (Or.inr ⟨by rfl, rfl⟩) hHeld ?rest20e
  try simp only [Act.put, List.setIfInBounds_toArray, List.set_cons_zero, List.set_cons_succ]
  refine wpAnyH_take (i := 21) (oi := ⟨some 80, Op.call { callee := Callee.value (Operand.func 19), args := #[Operand.tmp 78, Operand.tmp 79], argTypes := #[27, 27] }, 3, _, _, _⟩) (v := undef) rfl (by kernel_rfl) (by kernel_rfl) (by kernel_rfl) (fun _ _ _ h => h) (Or.inr ⟨by rfl, rfl⟩) hHeld ?rest21e
  try simp only [Act.put, List.setIfInBounds_toArray, List.set_cons_zero, List.set_cons_succ]
  refine wpAnyH_take (i := 22) (oi := ⟨some 81, Op.move (Operand.tmp 11), 3, _, _, _⟩) (v := undef) rfl (by kernel_rfl) (by kernel_rfl) (by kernel_rfl) (fun _ _ _ h => h) (Or.inr ⟨by rfl, rfl⟩) hHeld ?rest22e
  try simp only [Act.put, List.setIfInBounds_toArray, List.set_cons_zero, List.set_cons_succ]
  refine wpAnyH_take (i := 23) (oi := ⟨some 82, Op.binOp BinOp.eql 3 (Operand.tmp 80) (Operand.tmp 81) 3, 4, _, _, _⟩) (v := undef) rfl (by kernel_rfl) (by kernel_rfl) (by kernel_rfl) (fun _ _ _ h => h) (Or.inr ⟨by rfl, rfl⟩) hHeld ?rest23e
  try simp only [Act.put, List.setIfInBounds_toArray, List.set_cons_zero, List.set_cons_succ]
  refine wpAnyH_take (i := 24) (oi := ⟨some 83, Op.pick (Operand.tmp 77) (Operand.const (Value.bool true)) (Operand.tmp 82), 4, _, _, _⟩) (v := ?v24e) rfl (by kernel_rfl) (by kernel_rfl) (by kernel_rfl) (fun _ _ _ h => h) (Or.inl ⟨by rfl, ?hy24e⟩) hHeld ?rest24e
  case hy24e => intro w9 hSw; go_simp; (try with_reducible rfl)
  try simp only [Act.put, List.setIfInBounds_toArray, List.set_cons_zero, List.set_cons_succ]
  refine wpAnyH_take (i := 25) (oi := ⟨some 84, Op.pick (Operand.tmp 72) (Operand.tmp 83) (Operand.const (Value.bool false)), 4, _, _, _⟩) (v := ?v25e) rfl (by kernel_rfl) (by kernel_rfl) (by kernel_rfl) (fun _ _ _ h => h) (Or.inl ⟨by rfl, ?hy25e⟩) hHeld ?rest25e
  case hy25e => intro w9 hSw; go_simp; (try with_reducible rfl)
  try simp only [Act.put, List.setIfInBounds_toArray, List.set_cons_zero, List.set_cons_succ]
  refine wpAnyH_take (i := 26) (oi := ⟨some 85, Op.move (Operand.tmp 84), 4, _, _, _⟩) (v := ?v26e) rfl (by kernel_rfl) (by kernel_rfl) (by kernel_rfl) (fun _ _ _ h => h) (Or.inl ⟨by rfl, ?hy26e⟩) hHeld ?rest26e
  case hy26e => intro w9 hSw; go_simp; (try with_reducible rfl)
  try simp only [Act.put, List.setIfInBounds_toArray, List.set_cons_zero, List.set_cons_succ]
  refine wpAnyH_ready (rs := [27]) (by kernel_rfl) (by simp) ?_
  refine AllReadyH.cons (o := ⟨some 86, Op.call { callee := Callee.value (Operand.func 8), args := #[], argTypes := #[] }, 4, _, _, _⟩) rfl (fun K hK => ?_) AllReadyH.nil
  go_simp
  refine (W1.out _).mono ?_
  rintro e x27 ⟨rfl, hN27⟩
  go_wp2_with fail
  have hT27 : Below V.heap.size V x27 := hT.trans (hN27.mono hT.size)
  refine hK.out _ _ (hHeld.trans (hN27.mono hHeld.size)) (fun _ => held_up (S' := fun w' => Below x27.heap.size x27 w') (fun w' h' => (hHeld.trans (hN27.mono hHeld.size)).trans (h'.mono (Nat.le_trans hHeld.size hN27.size))) _ _ _ _ ?_)
  clear hK K hHeld hT
  have hT : Below V.heap.size V x27 := hT27
  have hHeld : Below x27.heap.size x27 x27 := Below.refl _ _
  clear hT27 hN27
  try simp only [Act.put, List.setIfInBounds_toArray, List.set_cons_zero, List.set_cons_succ]
  refine wpAnyH_take (i := 28) (oi := ⟨some 87, Op.pick (Operand.tmp 85) (Operand.tmp 86) (Operand.const (Value.bool false)), 4, _, _, _⟩) (v := ?v28e) rfl (by kernel_rfl) (by kernel_rfl) (by kernel_rfl) (fun _ _ _ h => h) (Or.inl ⟨by rfl, ?hy28e⟩) hHeld ?rest28e
  case hy28e => intro w9 hSw; go_simp; (try with_reducible rfl)
  try simp only [Act.put, List.setIfInBounds_toArray, List.set_cons_zero, List.set_cons_succ]
  refine wpAnyH_take (i := 29) (oi := ⟨some 10, Op.assign (Operand.tmp 87), 4, _, _, _⟩) (v := ?v29e) rfl (by kernel_rfl) (by kernel_rfl) (by kernel_rfl) (fun _ _ _ h => h) (Or.inl ⟨by rfl, ?hy29e⟩) hHeld ?rest29e
  case hy29e => intro w9 hSw; go_simp; (try with_reducible rfl)
  try simp only [Act.put, List.setIfInBounds_toArray, List.set_cons_zero, List.set_cons_succ]
  refine wpAnyH_done (by kernel_rfl) ?_ _
  refine NoPanic.normal ?_
  go_wp2
  go_ret
  exact ⟨rfl, HV.out.trans (hT.mono HV.out.size)⟩
set_option maxRecDepth 100000 in
set_option maxHeartbeats 16000000 in
theorem orderOrder_f (x y z : Pt) (a1 a2 : Option Addr) (m1 m2 c1 c2 : Nat) (S T : Nat → ByteArray) (w : World) (hX : IsP w x) (hY : IsP w y) (hZ : IsP w z) (sx : WdP x) (hS : Txs w a1 m1 S) (hT' : Txs w a2 m2 T) (hm1 : m1 ≤ 9223372036854775807) (hm2 : m2 ≤ 9223372036854775807)
    (hl : litB (threeP x y z) 3 = true) (hp : wholeP x y = 0) (hf : formP x y = 0) (hq : ¬ wholeP y z ≤ 0) :
    Calls Try.prog 4 #[x.val, y.val, z.val, .slice a1 m1 c1, .slice a2 m2 c2] w fun e w' => e = .returned (.bool true) ∧ Below w.heap.size w w' := by
  obtain ⟨A, hA, hB, hs, hn, hm, hk⟩ := boxP_three x y z w
  obtain ⟨a0, a1', a2', a3, a4, a5⟩ := hn.at0
  obtain ⟨b0, b1, b2, b3, b4, b5⟩ := hm.at0
  obtain ⟨k0, k1, k2, k3, k4, k5⟩ := hk.at0
  obtain ⟨C, hC, hBC, hP⟩ := threeP_row (hX.later hB) (hY.later hB) (hZ.later hB)
  have HB : Hid (Below w.heap.size w C) := hB.trans (hBC.mono hB.size)
  have NX : Hid (NodeP C w.heap.size 0 x) := hn.later hBC
  have NY : Hid (NodeP C (w.heap.size + 1) 0 y) := hm.later hBC
  have NZ : Hid (NodeP C (w.heap.size + 1 + 1) 0 z) := hk.later hBC
  have L1 : Hid (Calls Try.prog 6 #[.slice (some ⟨A.heap.size, 0, none⟩) 3 3] C fun e w' => e = .returned (.bool true) ∧ Below C.heap.size C w') := by
    have := lightW_any _ 3 3 _ C (by omega) hP
    rw [hl] at this
    exact this
  have W1 : Hid (∀ d, Calls Try.prog 8 #[] d fun e w' => e = .returned (.bool true) ∧ Below d.heap.size d w') := fun d => awake15_any d
  obtain ⟨q, hqq⟩ : ∃ q, q = wholeP y z := ⟨_, rfl⟩
  obtain ⟨r, hr⟩ : ∃ r, r = wholeP x z := ⟨_, rfl⟩
  rw [← hqq] at hq
  have Kxy : Hid (∀ d, Below w.heap.size w d → Calls Try.prog 17 #[x.val, y.val] d fun e w' => e = .returned (.int .i64 0) ∧ Below d.heap.size d w') := fun d h => by rw [← hp]; exact wholeP_any x y d (hX.later h) (hY.later h)
  have Kyz : Hid (∀ d, Below w.heap.size w d → Calls Try.prog 17 #[y.val, z.val] d fun e w' => e = .returned (.int .i64 q) ∧ Below d.heap.size d w') := fun d h => by rw [hqq]; exact wholeP_any y z d (hY.later h) (hZ.later h)
  have Kyx : Hid (∀ d, Below w.heap.size w d → Calls Try.prog 17 #[y.val, x.val] d fun e w' => e = .returned (.int .i64 0) ∧ Below d.heap.size d w') := fun d h => by
    have := wholeP_any y x d (hY.later h) (hX.later h)
    rw [whole3.turn x y, hp] at this
    exact this
  have Kxz : Hid (∀ d, Below w.heap.size w d → Calls Try.prog 17 #[x.val, z.val] d fun e w' => e = .returned (.int .i64 r) ∧ Below d.heap.size d w') := fun d h => by rw [hr]; exact wholeP_any x z d (hX.later h) (hZ.later h)
  have Ksm : Hid (∀ d, Below w.heap.size w d → Calls Try.prog 15 #[x.val, y.val] d fun e w' => e = .returned (.bool true) ∧ Below d.heap.size d w') := fun d h => by
    have := refSameP_any x y d (hX.later h) (hY.later h)
    rw [show sameP x y = true from (whole_sm x y).1 hp] at this
    exact this
  have Krn : Hid (∀ d, Below w.heap.size w d → Calls Try.prog 18 #[x.val, .slice a1 m1 c1, .slice a2 m2 c2] d fun e w' => ∃ g : Pt, e = .returned g.val ∧ Hid (IsP w' g ∧ formP x g = 0 ∧ formP g y = 0) ∧ Below d.heap.size d w') := fun d hd => by
    refine (refRenameP_wide a1 a2 m1 m2 c1 c2 S T hm1 hm2 x d (hX.later hd) sx (hS.later hd) (hT'.later hd)).mono ?_
    rintro e w' ⟨g, rfl, q1, q2, _, q3⟩
    have e0 : formP x g = 0 := form3.eq (form_ren _ x) (by rw [form3.turn, form_sm q2]; rfl)
    exact ⟨g, rfl, ⟨q1, e0, by rw [← hf]; exact (ord_left form3 tri_form e0).symm⟩, q3⟩
  have IX : Hid (∀ d, Below w.heap.size w d → IsP d x) := fun d h => hX.later h
  have IY : Hid (∀ d, Below w.heap.size w d → IsP d y) := fun d h => hY.later h
  have F3' : Hid (∀ d, Below w.heap.size w d → Calls Try.prog 19 #[x.val, y.val] d fun e w' => e = .returned (.int .i64 0) ∧ Below d.heap.size d w') := fun d h => by rw [← hf]; exact formP_any x y d (hX.later h) (hY.later h)
  clear hB hn hm hk hX hY hZ hl hP hBC hs sx hqq hr hp hf hS hT' hm1 hm2
  go_enter Try.func4, Try.ntmps4
  go_upto_region 7 with (first
    | (go_at_call 6; refine L1.out.mono ?_; clear L1; rintro e w1 ⟨rfl, hB1⟩; have h1 := HB.out.trans (hB1.mono HB.out.size); obtain ⟨a0, a1', a2', a3, a4, a5⟩ := (NX.out.later hB1).at0; obtain ⟨b0, b1, b2, b3, b4, b5⟩ := (NY.out.later hB1).at0)
    | (go_at_call 17; refine (Kxz.out _ h5).mono ?_; clear Kxz; rintro e w6 ⟨rfl, hB6⟩)
    | (go_at_call 17; refine (Kyx.out _ h4).mono ?_; clear Kyx; rintro e w5 ⟨rfl, hB5⟩; have h5 := h4.trans (hB5.mono h4.size); have g5 := g4.trans (hB5.mono g4.size); obtain ⟨a0, a1', a2', a3, a4, a5⟩ := (NX.out.later g5).at0; obtain ⟨k0, k1, k2, k3, k4, k5⟩ := (NZ.out.later g5).at0)
    | (go_at_call 15; refine (Ksm.out _ h3).mono ?_; clear Ksm; rintro e w4 ⟨rfl, hB4⟩; have h4 := h3.trans (hB4.mono h3.size); have g4 := g3.trans (hB4.mono g3.size); obtain ⟨a0, a1', a2', a3, a4, a5⟩ := (NX.out.later g4).at0; obtain ⟨b0, b1, b2, b3, b4, b5⟩ := (NY.out.later g4).at0)
    | (go_at_call 17; refine (Kyz.out _ h2).mono ?_; clear Kyz; rintro e w3 ⟨rfl, hB3⟩; have h3 := h2.trans (hB3.mono h2.size); have g3 := g2.trans (hB3.mono g2.size); obtain ⟨a0, a1', a2', a3, a4, a5⟩ := (NX.out.later g3).at0; obtain ⟨b0, b1, b2, b3, b4, b5⟩ := (NY.out.later g3).at0)
    | (go_at_call 17; refine (Kxy.out _ h1).mono ?_; clear Kxy; rintro e w2 ⟨rfl, hB2⟩; have h2 := h1.trans (hB2.mono h1.size); have g2 := hB1.trans (hB2.mono hB1.size); obtain ⟨b0, b1, b2, b3, b4, b5⟩ := (NY.out.later g2).at0; obtain ⟨k0, k1, k2, k3, k4, k5⟩ := (NZ.out.later g2).at0))
  have h6 := h5
  have g6 := g5
  obtain ⟨u0, u1, u2, u3, u4, u5⟩ := (NX.out.later g6).at0
  go_upto_region 8 with (go_at_call 18; refine (Krn.out _ h6).mono ?_; clear Krn; rintro e w7 ⟨g, rfl, hg, hB7⟩; obtain ⟨V, hV, hBV, -, hNV⟩ := boxP_one g w7)
  have h7 := h6.trans (hB7.mono h6.size)
  have g7 := g6.trans (hB7.mono g6.size)
  have HV : Hid (Below w.heap.size w V) := h7.trans (hBV.mono h7.size)
  have gV := g7.trans (hBV.mono g7.size)
  have PX : Hid (NodeP V w.heap.size 0 x) := NX.out.later gV
  have PY : Hid (NodeP V (w.heap.size + 1) 0 y) := NY.out.later gV
  have PD : Hid (NodeP V w7.heap.size 0 g) := hNV
  have F1 : Hid (∀ d, Below V.heap.size V d → Calls Try.prog 19 #[x.val, g.val] d fun e w' => e = .returned (.int .i64 0) ∧ Below d.heap.size d w') := fun d h => by
    have hd := HV.out.trans (h.mono HV.out.size)
    have := formP_any x g d (IX.out d hd) ((hg.out.1.later hBV).later h)
    rw [hg.out.2.1] at this
    exact this
  have F2 : Hid (∀ d, Below V.heap.size V d → Calls Try.prog 19 #[g.val, y.val] d fun e w' => e = .returned (.int .i64 0) ∧ Below d.heap.size d w') := fun d h => by
    have hd := HV.out.trans (h.mono HV.out.size)
    have := formP_any g y d ((hg.out.1.later hBV).later h) (IY.out d hd)
    rw [hg.out.2.2] at this
    exact this
  have F3 : Hid (∀ d, Below V.heap.size V d → Calls Try.prog 19 #[x.val, y.val] d fun e w' => e = .returned (.int .i64 0) ∧ Below d.heap.size d w') := fun d h => F3'.out d (HV.out.trans (h.mono HV.out.size))
  clear F3' IX IY hg h7 g7 gV hBV hNV hB7 h6 g6 NX NY NZ hA hC u0 u1 u2 u3 u4 u5
  refine wp_region_noPanic ?_
  refine wp_region_held_drew (S := fun w' => Below V.heap.size V w') (by kernel_rfl) ((Below.refl _ _).drew) (fun hHeld => ?_)
  have hT : Below V.heap.size V V.drew := hHeld
  obtain ⟨d, hdw⟩ : ∃ d, d = V.drew := ⟨_, rfl⟩
  rw [← hdw] at hHeld hT ⊢
  clear hdw
  refine wpAnyH_take (i := 0) (oi := ⟨some 59, Op.load 27 (Operand.tmp 5), 27, _, _, _⟩) (v := ?v0f) rfl (by kernel_rfl) (by kernel_rfl) (by kernel_rfl) (fun _ _ _ h => h) (Or.inl ⟨by rfl, ?hy0f⟩) hHeld ?rest0f
  case hy0f => intro w9 hSw; obtain ⟨d0, d1, d2, d3, d4, d5⟩ := (PX.out.later hSw).at0; go_simp; (try with_reducible rfl)
  try simp only [Act.put, List.setIfInBounds_toArray, List.set_cons_zero, List.set_cons_succ]
  refine wpAnyH_take (i := 1) (oi := ⟨some 60, Op.load 27 (Operand.tmp 13), 27, _, _, _⟩) (v := ?v1f) rfl (by kernel_rfl) (by kernel_rfl) (by kernel_rfl) (fun _ _ _ h => h) (Or.inl ⟨by rfl, ?hy1f⟩) hHeld ?rest1f
  case hy1f => intro w9 hSw; obtain ⟨d0, d1, d2, d3, d4, d5⟩ := (PD.out.later hSw).at0; go_simp; (try with_reducible rfl)
  try simp only [Act.put, List.setIfInBounds_toArray, List.set_cons_zero, List.set_cons_succ]
  refine wpAnyH_ready (rs := [2]) (by kernel_rfl) (by simp) ?_
  refine AllReadyH.cons (o := ⟨some 61, Op.call { callee := Callee.value (Operand.func 19), args := #[Operand.tmp 59, Operand.tmp 60], argTypes := #[27, 27] }, 3, _, _, _⟩) rfl (fun K hK => ?_) AllReadyH.nil
  go_simp
  refine (F1.out _ hT).mono ?_
  rintro e x2 ⟨rfl, hN2⟩
  go_wp2_with fail
  have hT2 : Below V.heap.size V x2 := hT.trans (hN2.mono hT.size)
  refine hK.out _ _ (hHeld.trans (hN2.mono hHeld.size)) (fun _ => held_up (S' := fun w' => Below x2.heap.size x2 w') (fun w' h' => (hHeld.trans (hN2.mono hHeld.size)).trans (h'.mono (Nat.le_trans hHeld.size hN2.size))) _ _ _ _ ?_)
  clear hK K hHeld hT
  have hT : Below V.heap.size V x2 := hT2
  have hHeld : Below x2.heap.size x2 x2 := Below.refl _ _
  clear hT2 hN2
  try simp only [Act.put, List.setIfInBounds_toArray, List.set_cons_zero, List.set_cons_succ]
  refine wpAnyH_take (i := 3) (oi := ⟨some 62, Op.binOp BinOp.eql 3 (Operand.tmp 61) (Operand.const (Value.int IntKind.i64 0)) 3, 4, _, _, _⟩) (v := ?v3f) rfl (by kernel_rfl) (by kernel_rfl) (by kernel_rfl) (fun _ _ _ h => h) (Or.inl ⟨by rfl, ?hy3f⟩) hHeld ?rest3f
  case hy3f => intro w9 hSw; go_simp; (try with_reducible rfl)
  try simp only [Act.put, List.setIfInBounds_toArray, List.set_cons_zero, List.set_cons_succ]
  refine wpAnyH_take (i := 4) (oi := ⟨some 63, Op.move (Operand.tmp 62), 4, _, _, _⟩) (v := ?v4f) rfl (by kernel_rfl) (by kernel_rfl) (by kernel_rfl) (fun _ _ _ h => h) (Or.inl ⟨by rfl, ?hy4f⟩) hHeld ?rest4f
  case hy4f => intro w9 hSw; go_simp; (try with_reducible rfl)
  try simp only [Act.put, List.setIfInBounds_toArray, List.set_cons_zero, List.set_cons_succ]
  refine wpAnyH_take (i := 5) (oi := ⟨some 64, Op.load 27 (Operand.tmp 13), 27, _, _, _⟩) (v := ?v5f) rfl (by kernel_rfl) (by kernel_rfl) (by kernel_rfl) (fun _ _ _ h => h) (Or.inl ⟨by rfl, ?hy5f⟩) hHeld ?rest5f
  case hy5f => intro w9 hSw; obtain ⟨d0, d1, d2, d3, d4, d5⟩ := (PD.out.later (hT.trans (hSw.mono hT.size))).at0; go_simp; (try with_reducible rfl)
  try simp only [Act.put, List.setIfInBounds_toArray, List.set_cons_zero, List.set_cons_succ]
  refine wpAnyH_take (i := 6) (oi := ⟨some 65, Op.load 27 (Operand.tmp 6), 27, _, _, _⟩) (v := ?v6f) rfl (by kernel_rfl) (by kernel_rfl) (by kernel_rfl) (fun _ _ _ h => h) (Or.inl ⟨by rfl, ?hy6f⟩) hHeld ?rest6f
  case hy6f => intro w9 hSw; obtain ⟨d0, d1, d2, d3, d4, d5⟩ := (PY.out.later (hT.trans (hSw.mono hT.size))).at0; go_simp; (try with_reducible rfl)
  try simp only [Act.put, List.setIfInBounds_toArray, List.set_cons_zero, List.set_cons_succ]
  refine wpAnyH_take (i := 8) (oi := ⟨some 67, Op.load 27 (Operand.tmp 5), 27, _, _, _⟩) (v := ?v8f) rfl (by kernel_rfl) (by kernel_rfl) (by kernel_rfl) (fun _ _ _ h => h) (Or.inl ⟨by rfl, ?hy8f⟩) hHeld ?rest8f
  case hy8f => intro w9 hSw; obtain ⟨d0, d1, d2, d3, d4, d5⟩ := (PX.out.later (hT.trans (hSw.mono hT.size))).at0; go_simp; (try with_reducible rfl)
  try simp only [Act.put, List.setIfInBounds_toArray, List.set_cons_zero, List.set_cons_succ]
  refine wpAnyH_take (i := 9) (oi := ⟨some 68, Op.load 27 (Operand.tmp 6), 27, _, _, _⟩) (v := ?v9f) rfl (by kernel_rfl) (by kernel_rfl) (by kernel_rfl) (fun _ _ _ h => h) (Or.inl ⟨by rfl, ?hy9f⟩) hHeld ?rest9f
  case hy9f => intro w9 hSw; obtain ⟨d0, d1, d2, d3, d4, d5⟩ := (PY.out.later (hT.trans (hSw.mono hT.size))).at0; go_simp; (try with_reducible rfl)
  try simp only [Act.put, List.setIfInBounds_toArray, List.set_cons_zero, List.set_cons_succ]
  refine wpAnyH_ready (rs := [7]) (by kernel_rfl) (by simp) ?_
  refine AllReadyH.cons (o := ⟨some 66, Op.call { callee := Callee.value (Operand.func 19), args := #[Operand.tmp 64, Operand.tmp 65], argTypes := #[27, 27] }, 3, _, _, _⟩) rfl (fun K hK => ?_) AllReadyH.nil
  go_simp
  refine (F2.out _ hT).mono ?_
  rintro e x7 ⟨rfl, hN7⟩
  go_wp2_with fail
  have hT7 : Below V.heap.size V x7 := hT.trans (hN7.mono hT.size)
  refine hK.out _ _ (hHeld.trans (hN7.mono hHeld.size)) (fun _ => held_up (S' := fun w' => Below x7.heap.size x7 w') (fun w' h' => (hHeld.trans (hN7.mono hHeld.size)).trans (h'.mono (Nat.le_trans hHeld.size hN7.size))) _ _ _ _ ?_)
  clear hK K hHeld hT
  have hT : Below V.heap.size V x7 := hT7
  have hHeld : Below x7.heap.size x7 x7 := Below.refl _ _
  clear hT7 hN7
  try simp only [Act.put, List.setIfInBounds_toArray, List.set_cons_zero, List.set_cons_succ]
  refine wpAnyH_ready (rs := [10]) (by kernel_rfl) (by simp) ?_
  refine AllReadyH.cons (o := ⟨some 69, Op.call { callee := Callee.value (Operand.func 19), args := #[Operand.tmp 67, Operand.tmp 68], argTypes := #[27, 27] }, 3, _, _, _⟩) rfl (fun K hK => ?_) AllReadyH.nil
  go_simp
  refine (F3.out _ hT).mono ?_
  rintro e x10 ⟨rfl, hN10⟩
  go_wp2_with fail
  have hT10 : Below V.heap.size V x10 := hT.trans (hN10.mono hT.size)
  refine hK.out _ _ (hHeld.trans (hN10.mono hHeld.size)) (fun _ => held_up (S' := fun w' => Below x10.heap.size x10 w') (fun w' h' => (hHeld.trans (hN10.mono hHeld.size)).trans (h'.mono (Nat.le_trans hHeld.size hN10.size))) _ _ _ _ ?_)
  clear hK K hHeld hT
  have hT : Below V.heap.size V x10 := hT10
  have hHeld : Below x10.heap.size x10 x10 := Below.refl _ _
  clear hT10 hN10
  try simp only [Act.put, List.setIfInBounds_toArray, List.set_cons_zero, List.set_cons_succ]
  refine wpAnyH_take (i := 11) (oi := ⟨some 70, Op.binOp BinOp.eql 3 (Operand.tmp 66) (Operand.tmp 69) 3, 4, _, _, _⟩) (v := ?v11f) rfl (by kernel_rfl) (by kernel_rfl) (by kernel_rfl) (fun _ _ _ h => h) (Or.inl ⟨by rfl, ?hy11f⟩) hHeld ?rest11f
  case hy11f => intro w9 hSw; go_simp; (try with_reducible rfl)
  try simp only [Act.put, List.setIfInBounds_toArray, List.set_cons_zero, List.set_cons_succ]
  refine wpAnyH_take (i := 12) (oi := ⟨some 71, Op.pick (Operand.tmp 63) (Operand.tmp 70) (Operand.const (Value.bool false)), 4, _, _, _⟩) (v := ?v12f) rfl (by kernel_rfl) (by kernel_rfl) (by kernel_rfl) (fun _ _ _ h => h) (Or.inl ⟨by rfl, ?hy12f⟩) hHeld ?rest12f
  case hy12f => intro w9 hSw; go_simp; (try with_reducible rfl)
  try simp only [Act.put, List.setIfInBounds_toArray, List.set_cons_zero, List.set_cons_succ]
  refine wpAnyH_take (i := 13) (oi := ⟨some 72, Op.move (Operand.tmp 71), 4, _, _, _⟩) (v := ?v13f) rfl (by kernel_rfl) (by kernel_rfl) (by kernel_rfl) (fun _ _ _ h => h) (Or.inl ⟨by rfl, ?hy13f⟩) hHeld ?rest13f
  case hy13f => intro w9 hSw; go_simp; (try with_reducible rfl)
  try simp only [Act.put, List.setIfInBounds_toArray, List.set_cons_zero, List.set_cons_succ]
  refine wpAnyH_take (i := 14) (oi := ⟨some 73, Op.load 27 (Operand.tmp 5), 27, _, _, _⟩) (v := ?v14f) rfl (by kernel_rfl) (by kernel_rfl) (by kernel_rfl) (fun _ _ _ h => h) (Or.inl ⟨by rfl, ?hy14f⟩) hHeld ?rest14f
  case hy14f => intro w9 hSw; obtain ⟨d0, d1, d2, d3, d4, d5⟩ := (PX.out.later (hT.trans (hSw.mono hT.size))).at0; go_simp; (try with_reducible rfl)
  try simp only [Act.put, List.setIfInBounds_toArray, List.set_cons_zero, List.set_cons_succ]
  refine wpAnyH_take (i := 15) (oi := ⟨some 74, Op.load 27 (Operand.tmp 6), 27, _, _, _⟩) (v := ?v15f) rfl (by kernel_rfl) (by kernel_rfl) (by kernel_rfl) (fun _ _ _ h => h) (Or.inl ⟨by rfl, ?hy15f⟩) hHeld ?rest15f
  case hy15f => intro w9 hSw; obtain ⟨d0, d1, d2, d3, d4, d5⟩ := (PY.out.later (hT.trans (hSw.mono hT.size))).at0; go_simp; (try with_reducible rfl)
  try simp only [Act.put, List.setIfInBounds_toArray, List.set_cons_zero, List.set_cons_succ]
  refine wpAnyH_ready (rs := [16]) (by kernel_rfl) (by simp) ?_
  refine AllReadyH.cons (o := ⟨some 75, Op.call { callee := Callee.value (Operand.func 19), args := #[Operand.tmp 73, Operand.tmp 74], argTypes := #[27, 27] }, 3, _, _, _⟩) rfl (fun K hK => ?_) AllReadyH.nil
  go_simp
  refine (F3.out _ hT).mono ?_
  rintro e x16 ⟨rfl, hN16⟩
  go_wp2_with fail
  have hT16 : Below V.heap.size V x16 := hT.trans (hN16.mono hT.size)
  refine hK.out _ _ (hHeld.trans (hN16.mono hHeld.size)) (fun _ => held_up (S' := fun w' => Below x16.heap.size x16 w') (fun w' h' => (hHeld.trans (hN16.mono hHeld.size)).trans (h'.mono (Nat.le_trans hHeld.size hN16.size))) _ _ _ _ ?_)
  clear hK K hHeld hT
  have hT : Below V.heap.size V x16 := hT16
  have hHeld : Below x16.heap.size x16 x16 := Below.refl _ _
  clear hT16 hN16
  try simp only [Act.put, List.setIfInBounds_toArray, List.set_cons_zero, List.set_cons_succ]
  refine wpAnyH_take (i := 17) (oi := ⟨some 76, Op.binOp BinOp.eql 3 (Operand.tmp 75) (Operand.const (Value.int IntKind.i64 0)) 3, 4, _, _, _⟩) (v := ?v17f) rfl (by kernel_rfl) (by kernel_rfl) (by kernel_rfl) (fun _ _ _ h => h) (Or.inl ⟨by rfl, ?hy17f⟩) hHeld ?rest17f
  case hy17f => intro w9 hSw; go_simp; (try with_reducible rfl)
  try simp only [Act.put, List.setIfInBounds_toArray, List.set_cons_zero, List.set_cons_succ]
  refine wpAnyH_take (i := 18) (oi := ⟨some 77, Op.move (Operand.tmp 76), 4, _, _, _⟩) (v := ?v18f) rfl (by kernel_rfl) (by kernel_rfl) (by kernel_rfl) (fun _ _ _ h => h) (Or.inl ⟨by rfl, ?hy18f⟩) hHeld ?rest18f
  case hy18f => intro w9 hSw; go_simp; (try with_reducible rfl)
  try simp only [Act.put, List.setIfInBounds_toArray, List.set_cons_zero, List.set_cons_succ]
  refine wpAnyH_take (i := 19) (oi := ⟨some 78, Op.load 27 (Operand.tmp 5), 27, _, _, _⟩) (v := undef) rfl (by kernel_rfl) (by kernel_rfl) (by kernel_rfl) (fun _ _ _ h => h) (Or.inr ⟨by rfl, rfl⟩) hHeld ?rest19f
  try simp only [Act.put, List.setIfInBounds_toArray, List.set_cons_zero, List.set_cons_succ]
  refine wpAnyH_take (i := 20) (oi := ⟨some 79, Op.load 27 (Operand.tmp 6), 27, _, _, _⟩) (v := undef) rfl (by kernel_rfl) (by kernel_rfl) (by kernel_rfl) (fun _ _ _ h => h) (Or.inr ⟨by rfl, rfl⟩) hHeld ?rest20f
  try simp only [Act.put, List.setIfInBounds_toArray, List.set_cons_zero, List.set_cons_succ]
  refine wpAnyH_take (i := 21) (oi := ⟨some 80, Op.call { callee := Callee.value (Operand.func 19), args := #[Operand.tmp 78, Operand.tmp 79], argTypes := #[27, 27] }, 3, _, _, _⟩) (v := undef) rfl (by kernel_rfl) (by kernel_rfl) (by kernel_rfl) (fun _ _ _ h => h) (Or.inr ⟨by rfl, rfl⟩) hHeld ?rest21f
  try simp only [Act.put, List.setIfInBounds_toArray, List.set_cons_zero, List.set_cons_succ]
  refine wpAnyH_take (i := 22) (oi := ⟨some 81, Op.move (Operand.tmp 11), 3, _, _, _⟩) (v := undef) rfl (by kernel_rfl) (by kernel_rfl) (by kernel_rfl) (fun _ _ _ h => h) (Or.inr ⟨by rfl, rfl⟩) hHeld ?rest22f
  try simp only [Act.put, List.setIfInBounds_toArray, List.set_cons_zero, List.set_cons_succ]
  refine wpAnyH_take (i := 23) (oi := ⟨some 82, Op.binOp BinOp.eql 3 (Operand.tmp 80) (Operand.tmp 81) 3, 4, _, _, _⟩) (v := undef) rfl (by kernel_rfl) (by kernel_rfl) (by kernel_rfl) (fun _ _ _ h => h) (Or.inr ⟨by rfl, rfl⟩) hHeld ?rest23f
  try simp only [Act.put, List.setIfInBounds_toArray, List.set_cons_zero, List.set_cons_succ]
  refine wpAnyH_take (i := 24) (oi := ⟨some 83, Op.pick (Operand.tmp 77) (Operand.const (Value.bool true)) (Operand.tmp 82), 4, _, _, _⟩) (v := ?v24f) rfl (by kernel_rfl) (by kernel_rfl) (by kernel_rfl) (fun _ _ _ h => h) (Or.inl ⟨by rfl, ?hy24f⟩) hHeld ?rest24f
  case hy24f => intro w9 hSw; go_simp; (try with_reducible rfl)
  try simp only [Act.put, List.setIfInBounds_toArray, List.set_cons_zero, List.set_cons_succ]
  refine wpAnyH_take (i := 25) (oi := ⟨some 84, Op.pick (Operand.tmp 72) (Operand.tmp 83) (Operand.const (Value.bool false)), 4, _, _, _⟩) (v := ?v25f) rfl (by kernel_rfl) (by kernel_rfl) (by kernel_rfl) (fun _ _ _ h => h) (Or.inl ⟨by rfl, ?hy25f⟩) hHeld ?rest25f
  case hy25f => intro w9 hSw; go_simp; (try with_reducible rfl)
  try simp only [Act.put, List.setIfInBounds_toArray, List.set_cons_zero, List.set_cons_succ]
  refine wpAnyH_take (i := 26) (oi := ⟨some 85, Op.move (Operand.tmp 84), 4, _, _, _⟩) (v := ?v26f) rfl (by kernel_rfl) (by kernel_rfl) (by kernel_rfl) (fun _ _ _ h => h) (Or.inl ⟨by rfl, ?hy26f⟩) hHeld ?rest26f
  case hy26f => intro w9 hSw; go_simp; (try with_reducible rfl)
  try simp only [Act.put, List.setIfInBounds_toArray, List.set_cons_zero, List.set_cons_succ]
  refine wpAnyH_ready (rs := [27]) (by kernel_rfl) (by simp) ?_
  refine AllReadyH.cons (o := ⟨some 86, Op.call { callee := Callee.value (Operand.func 8), args := #[], argTypes := #[] }, 4, _, _, _⟩) rfl (fun K hK => ?_) AllReadyH.nil
  go_simp
  refine (W1.out _).mono ?_
  rintro e x27 ⟨rfl, hN27⟩
  go_wp2_with fail
  have hT27 : Below V.heap.size V x27 := hT.trans (hN27.mono hT.size)
  refine hK.out _ _ (hHeld.trans (hN27.mono hHeld.size)) (fun _ => held_up (S' := fun w' => Below x27.heap.size x27 w') (fun w' h' => (hHeld.trans (hN27.mono hHeld.size)).trans (h'.mono (Nat.le_trans hHeld.size hN27.size))) _ _ _ _ ?_)
  clear hK K hHeld hT
  have hT : Below V.heap.size V x27 := hT27
  have hHeld : Below x27.heap.size x27 x27 := Below.refl _ _
  clear hT27 hN27
  try simp only [Act.put, List.setIfInBounds_toArray, List.set_cons_zero, List.set_cons_succ]
  refine wpAnyH_take (i := 28) (oi := ⟨some 87, Op.pick (Operand.tmp 85) (Operand.tmp 86) (Operand.const (Value.bool false)), 4, _, _, _⟩) (v := ?v28f) rfl (by kernel_rfl) (by kernel_rfl) (by kernel_rfl) (fun _ _ _ h => h) (Or.inl ⟨by rfl, ?hy28f⟩) hHeld ?rest28f
  case hy28f => intro w9 hSw; go_simp; (try with_reducible rfl)
  try simp only [Act.put, List.setIfInBounds_toArray, List.set_cons_zero, List.set_cons_succ]
  refine wpAnyH_take (i := 29) (oi := ⟨some 10, Op.assign (Operand.tmp 87), 4, _, _, _⟩) (v := ?v29f) rfl (by kernel_rfl) (by kernel_rfl) (by kernel_rfl) (fun _ _ _ h => h) (Or.inl ⟨by rfl, ?hy29f⟩) hHeld ?rest29f
  case hy29f => intro w9 hSw; go_simp; (try with_reducible rfl)
  try simp only [Act.put, List.setIfInBounds_toArray, List.set_cons_zero, List.set_cons_succ]
  refine wpAnyH_done (by kernel_rfl) ?_ _
  refine NoPanic.normal ?_
  go_wp2
  go_ret
  exact ⟨rfl, HV.out.trans (hT.mono HV.out.size)⟩
set_option maxRecDepth 100000 in
set_option maxHeartbeats 16000000 in
theorem orderOrder_g (x y z : Pt) (a1 a2 : Option Addr) (m1 m2 c1 c2 : Nat) (S T : Nat → ByteArray) (w : World) (hX : IsP w x) (hY : IsP w y) (hZ : IsP w z) (sx : WdP x) (hS : Txs w a1 m1 S) (hT' : Txs w a2 m2 T) (hm1 : m1 ≤ 9223372036854775807) (hm2 : m2 ≤ 9223372036854775807)
    (hl : litB (threeP x y z) 3 = true) (hp : wholeP x y = 1) (hf : formP x y = 0) :
    Calls Try.prog 4 #[x.val, y.val, z.val, .slice a1 m1 c1, .slice a2 m2 c2] w fun e w' => e = .returned (.bool true) ∧ Below w.heap.size w w' := by
  obtain ⟨A, hA, hB, hs, hn, hm, hk⟩ := boxP_three x y z w
  obtain ⟨a0, a1', a2', a3, a4, a5⟩ := hn.at0
  obtain ⟨b0, b1, b2, b3, b4, b5⟩ := hm.at0
  obtain ⟨k0, k1, k2, k3, k4, k5⟩ := hk.at0
  obtain ⟨C, hC, hBC, hP⟩ := threeP_row (hX.later hB) (hY.later hB) (hZ.later hB)
  have HB : Hid (Below w.heap.size w C) := hB.trans (hBC.mono hB.size)
  have NX : Hid (NodeP C w.heap.size 0 x) := hn.later hBC
  have NY : Hid (NodeP C (w.heap.size + 1) 0 y) := hm.later hBC
  have NZ : Hid (NodeP C (w.heap.size + 1 + 1) 0 z) := hk.later hBC
  have L1 : Hid (Calls Try.prog 6 #[.slice (some ⟨A.heap.size, 0, none⟩) 3 3] C fun e w' => e = .returned (.bool true) ∧ Below C.heap.size C w') := by
    have := lightW_any _ 3 3 _ C (by omega) hP
    rw [hl] at this
    exact this
  have W1 : Hid (∀ d, Calls Try.prog 8 #[] d fun e w' => e = .returned (.bool true) ∧ Below d.heap.size d w') := fun d => awake15_any d
  obtain ⟨q, hqq⟩ : ∃ q, q = wholeP y z := ⟨_, rfl⟩
  obtain ⟨r, hr⟩ : ∃ r, r = wholeP x z := ⟨_, rfl⟩
  have Kxy : Hid (∀ d, Below w.heap.size w d → Calls Try.prog 17 #[x.val, y.val] d fun e w' => e = .returned (.int .i64 1) ∧ Below d.heap.size d w') := fun d h => by rw [← hp]; exact wholeP_any x y d (hX.later h) (hY.later h)
  have Kyz : Hid (∀ d, Below w.heap.size w d → Calls Try.prog 17 #[y.val, z.val] d fun e w' => e = .returned (.int .i64 q) ∧ Below d.heap.size d w') := fun d h => by rw [hqq]; exact wholeP_any y z d (hY.later h) (hZ.later h)
  have Kyx : Hid (∀ d, Below w.heap.size w d → Calls Try.prog 17 #[y.val, x.val] d fun e w' => e = .returned (.int .i64 (-1)) ∧ Below d.heap.size d w') := fun d h => by
    have := wholeP_any y x d (hY.later h) (hX.later h)
    rw [whole3.turn x y, hp] at this
    exact this
  have Kxz : Hid (∀ d, Below w.heap.size w d → Calls Try.prog 17 #[x.val, z.val] d fun e w' => e = .returned (.int .i64 r) ∧ Below d.heap.size d w') := fun d h => by rw [hr]; exact wholeP_any x z d (hX.later h) (hZ.later h)
  have Ksm : Hid (∀ d, Below w.heap.size w d → Calls Try.prog 15 #[x.val, y.val] d fun e w' => e = .returned (.bool false) ∧ Below d.heap.size d w') := fun d h => by
    have := refSameP_any x y d (hX.later h) (hY.later h)
    rw [show sameP x y = false from (Bool.eq_false_iff.2 fun h => by rw [(whole_sm x y).2 h] at hp; cases hp)] at this
    exact this
  have Krn : Hid (∀ d, Below w.heap.size w d → Calls Try.prog 18 #[x.val, .slice a1 m1 c1, .slice a2 m2 c2] d fun e w' => ∃ g : Pt, e = .returned g.val ∧ Hid (IsP w' g ∧ formP x g = 0 ∧ formP g y = 0) ∧ Below d.heap.size d w') := fun d hd => by
    refine (refRenameP_wide a1 a2 m1 m2 c1 c2 S T hm1 hm2 x d (hX.later hd) sx (hS.later hd) (hT'.later hd)).mono ?_
    rintro e w' ⟨g, rfl, q1, q2, _, q3⟩
    have e0 : formP x g = 0 := form3.eq (form_ren _ x) (by rw [form3.turn, form_sm q2]; rfl)
    exact ⟨g, rfl, ⟨q1, e0, by rw [← hf]; exact (ord_left form3 tri_form e0).symm⟩, q3⟩
  have IX : Hid (∀ d, Below w.heap.size w d → IsP d x) := fun d h => hX.later h
  have IY : Hid (∀ d, Below w.heap.size w d → IsP d y) := fun d h => hY.later h
  have F3' : Hid (∀ d, Below w.heap.size w d → Calls Try.prog 19 #[x.val, y.val] d fun e w' => e = .returned (.int .i64 0) ∧ Below d.heap.size d w') := fun d h => by rw [← hf]; exact formP_any x y d (hX.later h) (hY.later h)
  clear hB hn hm hk hX hY hZ hl hP hBC hs sx hqq hr hp hf hS hT' hm1 hm2
  go_enter Try.func4, Try.ntmps4
  go_upto_region 7 with (first
    | (go_at_call 6; refine L1.out.mono ?_; clear L1; rintro e w1 ⟨rfl, hB1⟩; have h1 := HB.out.trans (hB1.mono HB.out.size); obtain ⟨a0, a1', a2', a3, a4, a5⟩ := (NX.out.later hB1).at0; obtain ⟨b0, b1, b2, b3, b4, b5⟩ := (NY.out.later hB1).at0)
    | (go_at_call 17; refine (Kxz.out _ h5).mono ?_; clear Kxz; rintro e w6 ⟨rfl, hB6⟩)
    | (go_at_call 17; refine (Kyx.out _ h4).mono ?_; clear Kyx; rintro e w5 ⟨rfl, hB5⟩; have h5 := h4.trans (hB5.mono h4.size); have g5 := g4.trans (hB5.mono g4.size); obtain ⟨a0, a1', a2', a3, a4, a5⟩ := (NX.out.later g5).at0; obtain ⟨k0, k1, k2, k3, k4, k5⟩ := (NZ.out.later g5).at0)
    | (go_at_call 15; refine (Ksm.out _ h3).mono ?_; clear Ksm; rintro e w4 ⟨rfl, hB4⟩; have h4 := h3.trans (hB4.mono h3.size); have g4 := g3.trans (hB4.mono g3.size); obtain ⟨a0, a1', a2', a3, a4, a5⟩ := (NX.out.later g4).at0; obtain ⟨b0, b1, b2, b3, b4, b5⟩ := (NY.out.later g4).at0)
    | (go_at_call 17; refine (Kyz.out _ h2).mono ?_; clear Kyz; rintro e w3 ⟨rfl, hB3⟩; have h3 := h2.trans (hB3.mono h2.size); have g3 := g2.trans (hB3.mono g2.size); obtain ⟨a0, a1', a2', a3, a4, a5⟩ := (NX.out.later g3).at0; obtain ⟨b0, b1, b2, b3, b4, b5⟩ := (NY.out.later g3).at0)
    | (go_at_call 17; refine (Kxy.out _ h1).mono ?_; clear Kxy; rintro e w2 ⟨rfl, hB2⟩; have h2 := h1.trans (hB2.mono h1.size); have g2 := hB1.trans (hB2.mono hB1.size); obtain ⟨b0, b1, b2, b3, b4, b5⟩ := (NY.out.later g2).at0; obtain ⟨k0, k1, k2, k3, k4, k5⟩ := (NZ.out.later g2).at0))
  have h6 := h5
  have g6 := g5
  obtain ⟨u0, u1, u2, u3, u4, u5⟩ := (NX.out.later g6).at0
  go_upto_region 8 with (go_at_call 18; refine (Krn.out _ h6).mono ?_; clear Krn; rintro e w7 ⟨g, rfl, hg, hB7⟩; obtain ⟨V, hV, hBV, -, hNV⟩ := boxP_one g w7)
  have h7 := h6.trans (hB7.mono h6.size)
  have g7 := g6.trans (hB7.mono g6.size)
  have HV : Hid (Below w.heap.size w V) := h7.trans (hBV.mono h7.size)
  have gV := g7.trans (hBV.mono g7.size)
  have PX : Hid (NodeP V w.heap.size 0 x) := NX.out.later gV
  have PY : Hid (NodeP V (w.heap.size + 1) 0 y) := NY.out.later gV
  have PD : Hid (NodeP V w7.heap.size 0 g) := hNV
  have F1 : Hid (∀ d, Below V.heap.size V d → Calls Try.prog 19 #[x.val, g.val] d fun e w' => e = .returned (.int .i64 0) ∧ Below d.heap.size d w') := fun d h => by
    have hd := HV.out.trans (h.mono HV.out.size)
    have := formP_any x g d (IX.out d hd) ((hg.out.1.later hBV).later h)
    rw [hg.out.2.1] at this
    exact this
  have F2 : Hid (∀ d, Below V.heap.size V d → Calls Try.prog 19 #[g.val, y.val] d fun e w' => e = .returned (.int .i64 0) ∧ Below d.heap.size d w') := fun d h => by
    have hd := HV.out.trans (h.mono HV.out.size)
    have := formP_any g y d ((hg.out.1.later hBV).later h) (IY.out d hd)
    rw [hg.out.2.2] at this
    exact this
  have F3 : Hid (∀ d, Below V.heap.size V d → Calls Try.prog 19 #[x.val, y.val] d fun e w' => e = .returned (.int .i64 0) ∧ Below d.heap.size d w') := fun d h => F3'.out d (HV.out.trans (h.mono HV.out.size))
  clear F3' IX IY hg h7 g7 gV hBV hNV hB7 h6 g6 NX NY NZ hA hC u0 u1 u2 u3 u4 u5
  refine wp_region_noPanic ?_
  refine wp_region_held_drew (S := fun w' => Below V.heap.size V w') (by kernel_rfl) ((Below.refl _ _).drew) (fun hHeld => ?_)
  have hT : Below V.heap.size V V.drew := hHeld
  obtain ⟨d, hdw⟩ : ∃ d, d = V.drew := ⟨_, rfl⟩
  rw [← hdw] at hHeld hT ⊢
  clear hdw
  refine wpAnyH_take (i := 0) (oi := ⟨some 59, Op.load 27 (Operand.tmp 5), 27, _, _, _⟩) (v := ?v0g) rfl (by kernel_rfl) (by kernel_rfl) (by kernel_rfl) (fun _ _ _ h => h) (Or.inl ⟨by rfl, ?hy0g⟩) hHeld ?rest0g
  case hy0g => intro w9 hSw; obtain ⟨d0, d1, d2, d3, d4, d5⟩ := (PX.out.later hSw).at0; go_simp; (try with_reducible rfl)
  try simp only [Act.put, List.setIfInBounds_toArray, List.set_cons_zero, List.set_cons_succ]
  refine wpAnyH_take (i := 1) (oi := ⟨some 60, Op.load 27 (Operand.tmp 13), 27, _, _, _⟩) (v := ?v1g) rfl (by kernel_rfl) (by kernel_rfl) (by kernel_rfl) (fun _ _ _ h => h) (Or.inl ⟨by rfl, ?hy1g⟩) hHeld ?rest1g
  case hy1g => intro w9 hSw; obtain ⟨d0, d1, d2, d3, d4, d5⟩ := (PD.out.later hSw).at0; go_simp; (try with_reducible rfl)
  try simp only [Act.put, List.setIfInBounds_toArray, List.set_cons_zero, List.set_cons_succ]
  refine wpAnyH_ready (rs := [2]) (by kernel_rfl) (by simp) ?_
  refine AllReadyH.cons (o := ⟨some 61, Op.call { callee := Callee.value (Operand.func 19), args := #[Operand.tmp 59, Operand.tmp 60], argTypes := #[27, 27] }, 3, _, _, _⟩) rfl (fun K hK => ?_) AllReadyH.nil
  go_simp
  refine (F1.out _ hT).mono ?_
  rintro e x2 ⟨rfl, hN2⟩
  go_wp2_with fail
  have hT2 : Below V.heap.size V x2 := hT.trans (hN2.mono hT.size)
  refine hK.out _ _ (hHeld.trans (hN2.mono hHeld.size)) (fun _ => held_up (S' := fun w' => Below x2.heap.size x2 w') (fun w' h' => (hHeld.trans (hN2.mono hHeld.size)).trans (h'.mono (Nat.le_trans hHeld.size hN2.size))) _ _ _ _ ?_)
  clear hK K hHeld hT
  have hT : Below V.heap.size V x2 := hT2
  have hHeld : Below x2.heap.size x2 x2 := Below.refl _ _
  clear hT2 hN2
  try simp only [Act.put, List.setIfInBounds_toArray, List.set_cons_zero, List.set_cons_succ]
  refine wpAnyH_take (i := 3) (oi := ⟨some 62, Op.binOp BinOp.eql 3 (Operand.tmp 61) (Operand.const (Value.int IntKind.i64 0)) 3, 4, _, _, _⟩) (v := ?v3g) rfl (by kernel_rfl) (by kernel_rfl) (by kernel_rfl) (fun _ _ _ h => h) (Or.inl ⟨by rfl, ?hy3g⟩) hHeld ?rest3g
  case hy3g => intro w9 hSw; go_simp; (try with_reducible rfl)
  try simp only [Act.put, List.setIfInBounds_toArray, List.set_cons_zero, List.set_cons_succ]
  refine wpAnyH_take (i := 4) (oi := ⟨some 63, Op.move (Operand.tmp 62), 4, _, _, _⟩) (v := ?v4g) rfl (by kernel_rfl) (by kernel_rfl) (by kernel_rfl) (fun _ _ _ h => h) (Or.inl ⟨by rfl, ?hy4g⟩) hHeld ?rest4g
  case hy4g => intro w9 hSw; go_simp; (try with_reducible rfl)
  try simp only [Act.put, List.setIfInBounds_toArray, List.set_cons_zero, List.set_cons_succ]
  refine wpAnyH_take (i := 5) (oi := ⟨some 64, Op.load 27 (Operand.tmp 13), 27, _, _, _⟩) (v := ?v5g) rfl (by kernel_rfl) (by kernel_rfl) (by kernel_rfl) (fun _ _ _ h => h) (Or.inl ⟨by rfl, ?hy5g⟩) hHeld ?rest5g
  case hy5g => intro w9 hSw; obtain ⟨d0, d1, d2, d3, d4, d5⟩ := (PD.out.later (hT.trans (hSw.mono hT.size))).at0; go_simp; (try with_reducible rfl)
  try simp only [Act.put, List.setIfInBounds_toArray, List.set_cons_zero, List.set_cons_succ]
  refine wpAnyH_take (i := 6) (oi := ⟨some 65, Op.load 27 (Operand.tmp 6), 27, _, _, _⟩) (v := ?v6g) rfl (by kernel_rfl) (by kernel_rfl) (by kernel_rfl) (fun _ _ _ h => h) (Or.inl ⟨by rfl, ?hy6g⟩) hHeld ?rest6g
  case hy6g => intro w9 hSw; obtain ⟨d0, d1, d2, d3, d4, d5⟩ := (PY.out.later (hT.trans (hSw.mono hT.size))).at0; go_simp; (try with_reducible rfl)
  try simp only [Act.put, List.setIfInBounds_toArray, List.set_cons_zero, List.set_cons_succ]
  refine wpAnyH_take (i := 8) (oi := ⟨some 67, Op.load 27 (Operand.tmp 5), 27, _, _, _⟩) (v := ?v8g) rfl (by kernel_rfl) (by kernel_rfl) (by kernel_rfl) (fun _ _ _ h => h) (Or.inl ⟨by rfl, ?hy8g⟩) hHeld ?rest8g
  case hy8g => intro w9 hSw; obtain ⟨d0, d1, d2, d3, d4, d5⟩ := (PX.out.later (hT.trans (hSw.mono hT.size))).at0; go_simp; (try with_reducible rfl)
  try simp only [Act.put, List.setIfInBounds_toArray, List.set_cons_zero, List.set_cons_succ]
  refine wpAnyH_take (i := 9) (oi := ⟨some 68, Op.load 27 (Operand.tmp 6), 27, _, _, _⟩) (v := ?v9g) rfl (by kernel_rfl) (by kernel_rfl) (by kernel_rfl) (fun _ _ _ h => h) (Or.inl ⟨by rfl, ?hy9g⟩) hHeld ?rest9g
  case hy9g => intro w9 hSw; obtain ⟨d0, d1, d2, d3, d4, d5⟩ := (PY.out.later (hT.trans (hSw.mono hT.size))).at0; go_simp; (try with_reducible rfl)
  try simp only [Act.put, List.setIfInBounds_toArray, List.set_cons_zero, List.set_cons_succ]
  refine wpAnyH_ready (rs := [7]) (by kernel_rfl) (by simp) ?_
  refine AllReadyH.cons (o := ⟨some 66, Op.call { callee := Callee.value (Operand.func 19), args := #[Operand.tmp 64, Operand.tmp 65], argTypes := #[27, 27] }, 3, _, _, _⟩) rfl (fun K hK => ?_) AllReadyH.nil
  go_simp
  refine (F2.out _ hT).mono ?_
  rintro e x7 ⟨rfl, hN7⟩
  go_wp2_with fail
  have hT7 : Below V.heap.size V x7 := hT.trans (hN7.mono hT.size)
  refine hK.out _ _ (hHeld.trans (hN7.mono hHeld.size)) (fun _ => held_up (S' := fun w' => Below x7.heap.size x7 w') (fun w' h' => (hHeld.trans (hN7.mono hHeld.size)).trans (h'.mono (Nat.le_trans hHeld.size hN7.size))) _ _ _ _ ?_)
  clear hK K hHeld hT
  have hT : Below V.heap.size V x7 := hT7
  have hHeld : Below x7.heap.size x7 x7 := Below.refl _ _
  clear hT7 hN7
  try simp only [Act.put, List.setIfInBounds_toArray, List.set_cons_zero, List.set_cons_succ]
  refine wpAnyH_ready (rs := [10]) (by kernel_rfl) (by simp) ?_
  refine AllReadyH.cons (o := ⟨some 69, Op.call { callee := Callee.value (Operand.func 19), args := #[Operand.tmp 67, Operand.tmp 68], argTypes := #[27, 27] }, 3, _, _, _⟩) rfl (fun K hK => ?_) AllReadyH.nil
  go_simp
  refine (F3.out _ hT).mono ?_
  rintro e x10 ⟨rfl, hN10⟩
  go_wp2_with fail
  have hT10 : Below V.heap.size V x10 := hT.trans (hN10.mono hT.size)
  refine hK.out _ _ (hHeld.trans (hN10.mono hHeld.size)) (fun _ => held_up (S' := fun w' => Below x10.heap.size x10 w') (fun w' h' => (hHeld.trans (hN10.mono hHeld.size)).trans (h'.mono (Nat.le_trans hHeld.size hN10.size))) _ _ _ _ ?_)
  clear hK K hHeld hT
  have hT : Below V.heap.size V x10 := hT10
  have hHeld : Below x10.heap.size x10 x10 := Below.refl _ _
  clear hT10 hN10
  try simp only [Act.put, List.setIfInBounds_toArray, List.set_cons_zero, List.set_cons_succ]
  refine wpAnyH_take (i := 11) (oi := ⟨some 70, Op.binOp BinOp.eql 3 (Operand.tmp 66) (Operand.tmp 69) 3, 4, _, _, _⟩) (v := ?v11g) rfl (by kernel_rfl) (by kernel_rfl) (by kernel_rfl) (fun _ _ _ h => h) (Or.inl ⟨by rfl, ?hy11g⟩) hHeld ?rest11g
  case hy11g => intro w9 hSw; go_simp; (try with_reducible rfl)
  try simp only [Act.put, List.setIfInBounds_toArray, List.set_cons_zero, List.set_cons_succ]
  refine wpAnyH_take (i := 12) (oi := ⟨some 71, Op.pick (Operand.tmp 63) (Operand.tmp 70) (Operand.const (Value.bool false)), 4, _, _, _⟩) (v := ?v12g) rfl (by kernel_rfl) (by kernel_rfl) (by kernel_rfl) (fun _ _ _ h => h) (Or.inl ⟨by rfl, ?hy12g⟩) hHeld ?rest12g
  case hy12g => intro w9 hSw; go_simp; (try with_reducible rfl)
  try simp only [Act.put, List.setIfInBounds_toArray, List.set_cons_zero, List.set_cons_succ]
  refine wpAnyH_take (i := 13) (oi := ⟨some 72, Op.move (Operand.tmp 71), 4, _, _, _⟩) (v := ?v13g) rfl (by kernel_rfl) (by kernel_rfl) (by kernel_rfl) (fun _ _ _ h => h) (Or.inl ⟨by rfl, ?hy13g⟩) hHeld ?rest13g
  case hy13g => intro w9 hSw; go_simp; (try with_reducible rfl)
  try simp only [Act.put, List.setIfInBounds_toArray, List.set_cons_zero, List.set_cons_succ]
  refine wpAnyH_take (i := 14) (oi := ⟨some 73, Op.load 27 (Operand.tmp 5), 27, _, _, _⟩) (v := ?v14g) rfl (by kernel_rfl) (by kernel_rfl) (by kernel_rfl) (fun _ _ _ h => h) (Or.inl ⟨by rfl, ?hy14g⟩) hHeld ?rest14g
  case hy14g => intro w9 hSw; obtain ⟨d0, d1, d2, d3, d4, d5⟩ := (PX.out.later (hT.trans (hSw.mono hT.size))).at0; go_simp; (try with_reducible rfl)
  try simp only [Act.put, List.setIfInBounds_toArray, List.set_cons_zero, List.set_cons_succ]
  refine wpAnyH_take (i := 15) (oi := ⟨some 74, Op.load 27 (Operand.tmp 6), 27, _, _, _⟩) (v := ?v15g) rfl (by kernel_rfl) (by kernel_rfl) (by kernel_rfl) (fun _ _ _ h => h) (Or.inl ⟨by rfl, ?hy15g⟩) hHeld ?rest15g
  case hy15g => intro w9 hSw; obtain ⟨d0, d1, d2, d3, d4, d5⟩ := (PY.out.later (hT.trans (hSw.mono hT.size))).at0; go_simp; (try with_reducible rfl)
  try simp only [Act.put, List.setIfInBounds_toArray, List.set_cons_zero, List.set_cons_succ]
  refine wpAnyH_ready (rs := [16]) (by kernel_rfl) (by simp) ?_
  refine AllReadyH.cons (o := ⟨some 75, Op.call { callee := Callee.value (Operand.func 19), args := #[Operand.tmp 73, Operand.tmp 74], argTypes := #[27, 27] }, 3, _, _, _⟩) rfl (fun K hK => ?_) AllReadyH.nil
  go_simp
  refine (F3.out _ hT).mono ?_
  rintro e x16 ⟨rfl, hN16⟩
  go_wp2_with fail
  have hT16 : Below V.heap.size V x16 := hT.trans (hN16.mono hT.size)
  refine hK.out _ _ (hHeld.trans (hN16.mono hHeld.size)) (fun _ => held_up (S' := fun w' => Below x16.heap.size x16 w') (fun w' h' => (hHeld.trans (hN16.mono hHeld.size)).trans (h'.mono (Nat.le_trans hHeld.size hN16.size))) _ _ _ _ ?_)
  clear hK K hHeld hT
  have hT : Below V.heap.size V x16 := hT16
  have hHeld : Below x16.heap.size x16 x16 := Below.refl _ _
  clear hT16 hN16
  try simp only [Act.put, List.setIfInBounds_toArray, List.set_cons_zero, List.set_cons_succ]
  refine wpAnyH_take (i := 17) (oi := ⟨some 76, Op.binOp BinOp.eql 3 (Operand.tmp 75) (Operand.const (Value.int IntKind.i64 0)) 3, 4, _, _, _⟩) (v := ?v17g) rfl (by kernel_rfl) (by kernel_rfl) (by kernel_rfl) (fun _ _ _ h => h) (Or.inl ⟨by rfl, ?hy17g⟩) hHeld ?rest17g
  case hy17g => intro w9 hSw; go_simp; (try with_reducible rfl)
  try simp only [Act.put, List.setIfInBounds_toArray, List.set_cons_zero, List.set_cons_succ]
  refine wpAnyH_take (i := 18) (oi := ⟨some 77, Op.move (Operand.tmp 76), 4, _, _, _⟩) (v := ?v18g) rfl (by kernel_rfl) (by kernel_rfl) (by kernel_rfl) (fun _ _ _ h => h) (Or.inl ⟨by rfl, ?hy18g⟩) hHeld ?rest18g
  case hy18g => intro w9 hSw; go_simp; (try with_reducible rfl)
  try simp only [Act.put, List.setIfInBounds_toArray, List.set_cons_zero, List.set_cons_succ]
  refine wpAnyH_take (i := 19) (oi := ⟨some 78, Op.load 27 (Operand.tmp 5), 27, _, _, _⟩) (v := undef) rfl (by kernel_rfl) (by kernel_rfl) (by kernel_rfl) (fun _ _ _ h => h) (Or.inr ⟨by rfl, rfl⟩) hHeld ?rest19g
  try simp only [Act.put, List.setIfInBounds_toArray, List.set_cons_zero, List.set_cons_succ]
  refine wpAnyH_take (i := 20) (oi := ⟨some 79, Op.load 27 (Operand.tmp 6), 27, _, _, _⟩) (v := undef) rfl (by kernel_rfl) (by kernel_rfl) (by kernel_rfl) (fun _ _ _ h => h) (Or.inr ⟨by rfl, rfl⟩) hHeld ?rest20g
  try simp only [Act.put, List.setIfInBounds_toArray, List.set_cons_zero, List.set_cons_succ]
  refine wpAnyH_take (i := 21) (oi := ⟨some 80, Op.call { callee := Callee.value (Operand.func 19), args := #[Operand.tmp 78, Operand.tmp 79], argTypes := #[27, 27] }, 3, _, _, _⟩) (v := undef) rfl (by kernel_rfl) (by kernel_rfl) (by kernel_rfl) (fun _ _ _ h => h) (Or.inr ⟨by rfl, rfl⟩) hHeld ?rest21g
  try simp only [Act.put, List.setIfInBounds_toArray, List.set_cons_zero, List.set_cons_succ]
  refine wpAnyH_take (i := 22) (oi := ⟨some 81, Op.move (Operand.tmp 11), 3, _, _, _⟩) (v := undef) rfl (by kernel_rfl) (by kernel_rfl) (by kernel_rfl) (fun _ _ _ h => h) (Or.inr ⟨by rfl, rfl⟩) hHeld ?rest22g
  try simp only [Act.put, List.setIfInBounds_toArray, List.set_cons_zero, List.set_cons_succ]
  refine wpAnyH_take (i := 23) (oi := ⟨some 82, Op.binOp BinOp.eql 3 (Operand.tmp 80) (Operand.tmp 81) 3, 4, _, _, _⟩) (v := undef) rfl (by kernel_rfl) (by kernel_rfl) (by kernel_rfl) (fun _ _ _ h => h) (Or.inr ⟨by rfl, rfl⟩) hHeld ?rest23g
  try simp only [Act.put, List.setIfInBounds_toArray, List.set_cons_zero, List.set_cons_succ]
  refine wpAnyH_take (i := 24) (oi := ⟨some 83, Op.pick (Operand.tmp 77) (Operand.const (Value.bool true)) (Operand.tmp 82), 4, _, _, _⟩) (v := ?v24g) rfl (by kernel_rfl) (by kernel_rfl) (by kernel_rfl) (fun _ _ _ h => h) (Or.inl ⟨by rfl, ?hy24g⟩) hHeld ?rest24g
  case hy24g => intro w9 hSw; go_simp; (try with_reducible rfl)
  try simp only [Act.put, List.setIfInBounds_toArray, List.set_cons_zero, List.set_cons_succ]
  refine wpAnyH_take (i := 25) (oi := ⟨some 84, Op.pick (Operand.tmp 72) (Operand.tmp 83) (Operand.const (Value.bool false)), 4, _, _, _⟩) (v := ?v25g) rfl (by kernel_rfl) (by kernel_rfl) (by kernel_rfl) (fun _ _ _ h => h) (Or.inl ⟨by rfl, ?hy25g⟩) hHeld ?rest25g
  case hy25g => intro w9 hSw; go_simp; (try with_reducible rfl)
  try simp only [Act.put, List.setIfInBounds_toArray, List.set_cons_zero, List.set_cons_succ]
  refine wpAnyH_take (i := 26) (oi := ⟨some 85, Op.move (Operand.tmp 84), 4, _, _, _⟩) (v := ?v26g) rfl (by kernel_rfl) (by kernel_rfl) (by kernel_rfl) (fun _ _ _ h => h) (Or.inl ⟨by rfl, ?hy26g⟩) hHeld ?rest26g
  case hy26g => intro w9 hSw; go_simp; (try with_reducible rfl)
  try simp only [Act.put, List.setIfInBounds_toArray, List.set_cons_zero, List.set_cons_succ]
  refine wpAnyH_ready (rs := [27]) (by kernel_rfl) (by simp) ?_
  refine AllReadyH.cons (o := ⟨some 86, Op.call { callee := Callee.value (Operand.func 8), args := #[], argTypes := #[] }, 4, _, _, _⟩) rfl (fun K hK => ?_) AllReadyH.nil
  go_simp
  refine (W1.out _).mono ?_
  rintro e x27 ⟨rfl, hN27⟩
  go_wp2_with fail
  have hT27 : Below V.heap.size V x27 := hT.trans (hN27.mono hT.size)
  refine hK.out _ _ (hHeld.trans (hN27.mono hHeld.size)) (fun _ => held_up (S' := fun w' => Below x27.heap.size x27 w') (fun w' h' => (hHeld.trans (hN27.mono hHeld.size)).trans (h'.mono (Nat.le_trans hHeld.size hN27.size))) _ _ _ _ ?_)
  clear hK K hHeld hT
  have hT : Below V.heap.size V x27 := hT27
  have hHeld : Below x27.heap.size x27 x27 := Below.refl _ _
  clear hT27 hN27
  try simp only [Act.put, List.setIfInBounds_toArray, List.set_cons_zero, List.set_cons_succ]
  refine wpAnyH_take (i := 28) (oi := ⟨some 87, Op.pick (Operand.tmp 85) (Operand.tmp 86) (Operand.const (Value.bool false)), 4, _, _, _⟩) (v := ?v28g) rfl (by kernel_rfl) (by kernel_rfl) (by kernel_rfl) (fun _ _ _ h => h) (Or.inl ⟨by rfl, ?hy28g⟩) hHeld ?rest28g
  case hy28g => intro w9 hSw; go_simp; (try with_reducible rfl)
  try simp only [Act.put, List.setIfInBounds_toArray, List.set_cons_zero, List.set_cons_succ]
  refine wpAnyH_take (i := 29) (oi := ⟨some 10, Op.assign (Operand.tmp 87), 4, _, _, _⟩) (v := ?v29g) rfl (by kernel_rfl) (by kernel_rfl) (by kernel_rfl) (fun _ _ _ h => h) (Or.inl ⟨by rfl, ?hy29g⟩) hHeld ?rest29g
  case hy29g => intro w9 hSw; go_simp; (try with_reducible rfl)
  try simp only [Act.put, List.setIfInBounds_toArray, List.set_cons_zero, List.set_cons_succ]
  refine wpAnyH_done (by kernel_rfl) ?_ _
  refine NoPanic.normal ?_
  go_wp2
  go_ret
  exact ⟨rfl, HV.out.trans (hT.mono HV.out.size)⟩
set_option maxRecDepth 100000 in
set_option maxHeartbeats 16000000 in
theorem orderOrder_h (x y z : Pt) (a1 a2 : Option Addr) (m1 m2 c1 c2 : Nat) (S T : Nat → ByteArray) (w : World) (hX : IsP w x) (hY : IsP w y) (hZ : IsP w z) (sx : WdP x) (hS : Txs w a1 m1 S) (hT' : Txs w a2 m2 T) (hm1 : m1 ≤ 9223372036854775807) (hm2 : m2 ≤ 9223372036854775807)
    (hl : litB (threeP x y z) 3 = true) (hp : wholeP x y = 1) (hf : formP x y = 1) :
    Calls Try.prog 4 #[x.val, y.val, z.val, .slice a1 m1 c1, .slice a2 m2 c2] w fun e w' => e = .returned (.bool true) ∧ Below w.heap.size w w' := by
  obtain ⟨A, hA, hB, hs, hn, hm, hk⟩ := boxP_three x y z w
  obtain ⟨a0, a1', a2', a3, a4, a5⟩ := hn.at0
  obtain ⟨b0, b1, b2, b3, b4, b5⟩ := hm.at0
  obtain ⟨k0, k1, k2, k3, k4, k5⟩ := hk.at0
  obtain ⟨C, hC, hBC, hP⟩ := threeP_row (hX.later hB) (hY.later hB) (hZ.later hB)
  have HB : Hid (Below w.heap.size w C) := hB.trans (hBC.mono hB.size)
  have NX : Hid (NodeP C w.heap.size 0 x) := hn.later hBC
  have NY : Hid (NodeP C (w.heap.size + 1) 0 y) := hm.later hBC
  have NZ : Hid (NodeP C (w.heap.size + 1 + 1) 0 z) := hk.later hBC
  have L1 : Hid (Calls Try.prog 6 #[.slice (some ⟨A.heap.size, 0, none⟩) 3 3] C fun e w' => e = .returned (.bool true) ∧ Below C.heap.size C w') := by
    have := lightW_any _ 3 3 _ C (by omega) hP
    rw [hl] at this
    exact this
  have W1 : Hid (∀ d, Calls Try.prog 8 #[] d fun e w' => e = .returned (.bool true) ∧ Below d.heap.size d w') := fun d => awake15_any d
  obtain ⟨q, hqq⟩ : ∃ q, q = wholeP y z := ⟨_, rfl⟩
  obtain ⟨r, hr⟩ : ∃ r, r = wholeP x z := ⟨_, rfl⟩
  have Kxy : Hid (∀ d, Below w.heap.size w d → Calls Try.prog 17 #[x.val, y.val] d fun e w' => e = .returned (.int .i64 1) ∧ Below d.heap.size d w') := fun d h => by rw [← hp]; exact wholeP_any x y d (hX.later h) (hY.later h)
  have Kyz : Hid (∀ d, Below w.heap.size w d → Calls Try.prog 17 #[y.val, z.val] d fun e w' => e = .returned (.int .i64 q) ∧ Below d.heap.size d w') := fun d h => by rw [hqq]; exact wholeP_any y z d (hY.later h) (hZ.later h)
  have Kyx : Hid (∀ d, Below w.heap.size w d → Calls Try.prog 17 #[y.val, x.val] d fun e w' => e = .returned (.int .i64 (-1)) ∧ Below d.heap.size d w') := fun d h => by
    have := wholeP_any y x d (hY.later h) (hX.later h)
    rw [whole3.turn x y, hp] at this
    exact this
  have Kxz : Hid (∀ d, Below w.heap.size w d → Calls Try.prog 17 #[x.val, z.val] d fun e w' => e = .returned (.int .i64 r) ∧ Below d.heap.size d w') := fun d h => by rw [hr]; exact wholeP_any x z d (hX.later h) (hZ.later h)
  have Ksm : Hid (∀ d, Below w.heap.size w d → Calls Try.prog 15 #[x.val, y.val] d fun e w' => e = .returned (.bool false) ∧ Below d.heap.size d w') := fun d h => by
    have := refSameP_any x y d (hX.later h) (hY.later h)
    rw [show sameP x y = false from (Bool.eq_false_iff.2 fun h => by rw [(whole_sm x y).2 h] at hp; cases hp)] at this
    exact this
  have Krn : Hid (∀ d, Below w.heap.size w d → Calls Try.prog 18 #[x.val, .slice a1 m1 c1, .slice a2 m2 c2] d fun e w' => ∃ g : Pt, e = .returned g.val ∧ Hid (IsP w' g ∧ formP x g = 0 ∧ formP g y = 1) ∧ Below d.heap.size d w') := fun d hd => by
    refine (refRenameP_wide a1 a2 m1 m2 c1 c2 S T hm1 hm2 x d (hX.later hd) sx (hS.later hd) (hT'.later hd)).mono ?_
    rintro e w' ⟨g, rfl, q1, q2, _, q3⟩
    have e0 : formP x g = 0 := form3.eq (form_ren _ x) (by rw [form3.turn, form_sm q2]; rfl)
    exact ⟨g, rfl, ⟨q1, e0, by rw [← hf]; exact (ord_left form3 tri_form e0).symm⟩, q3⟩
  have IX : Hid (∀ d, Below w.heap.size w d → IsP d x) := fun d h => hX.later h
  have IY : Hid (∀ d, Below w.heap.size w d → IsP d y) := fun d h => hY.later h
  have F3' : Hid (∀ d, Below w.heap.size w d → Calls Try.prog 19 #[x.val, y.val] d fun e w' => e = .returned (.int .i64 1) ∧ Below d.heap.size d w') := fun d h => by rw [← hf]; exact formP_any x y d (hX.later h) (hY.later h)
  clear hB hn hm hk hX hY hZ hl hP hBC hs sx hqq hr hp hf hS hT' hm1 hm2
  go_enter Try.func4, Try.ntmps4
  go_upto_region 7 with (first
    | (go_at_call 6; refine L1.out.mono ?_; clear L1; rintro e w1 ⟨rfl, hB1⟩; have h1 := HB.out.trans (hB1.mono HB.out.size); obtain ⟨a0, a1', a2', a3, a4, a5⟩ := (NX.out.later hB1).at0; obtain ⟨b0, b1, b2, b3, b4, b5⟩ := (NY.out.later hB1).at0)
    | (go_at_call 17; refine (Kxz.out _ h5).mono ?_; clear Kxz; rintro e w6 ⟨rfl, hB6⟩)
    | (go_at_call 17; refine (Kyx.out _ h4).mono ?_; clear Kyx; rintro e w5 ⟨rfl, hB5⟩; have h5 := h4.trans (hB5.mono h4.size); have g5 := g4.trans (hB5.mono g4.size); obtain ⟨a0, a1', a2', a3, a4, a5⟩ := (NX.out.later g5).at0; obtain ⟨k0, k1, k2, k3, k4, k5⟩ := (NZ.out.later g5).at0)
    | (go_at_call 15; refine (Ksm.out _ h3).mono ?_; clear Ksm; rintro e w4 ⟨rfl, hB4⟩; have h4 := h3.trans (hB4.mono h3.size); have g4 := g3.trans (hB4.mono g3.size); obtain ⟨a0, a1', a2', a3, a4, a5⟩ := (NX.out.later g4).at0; obtain ⟨b0, b1, b2, b3, b4, b5⟩ := (NY.out.later g4).at0)
    | (go_at_call 17; refine (Kyz.out _ h2).mono ?_; clear Kyz; rintro e w3 ⟨rfl, hB3⟩; have h3 := h2.trans (hB3.mono h2.size); have g3 := g2.trans (hB3.mono g2.size); obtain ⟨a0, a1', a2', a3, a4, a5⟩ := (NX.out.later g3).at0; obtain ⟨b0, b1, b2, b3, b4, b5⟩ := (NY.out.later g3).at0)
    | (go_at_call 17; refine (Kxy.out _ h1).mono ?_; clear Kxy; rintro e w2 ⟨rfl, hB2⟩; have h2 := h1.trans (hB2.mono h1.size); have g2 := hB1.trans (hB2.mono hB1.size); obtain ⟨b0, b1, b2, b3, b4, b5⟩ := (NY.out.later g2).at0; obtain ⟨k0, k1, k2, k3, k4, k5⟩ := (NZ.out.later g2).at0))
  have h6 := h5
  have g6 := g5
  obtain ⟨u0, u1, u2, u3, u4, u5⟩ := (NX.out.later g6).at0
  go_upto_region 8 with (go_at_call 18; refine (Krn.out _ h6).mono ?_; clear Krn; rintro e w7 ⟨g, rfl, hg, hB7⟩; obtain ⟨V, hV, hBV, -, hNV⟩ := boxP_one g w7)
  have h7 := h6.trans (hB7.mono h6.size)
  have g7 := g6.trans (hB7.mono g6.size)
  have HV : Hid (Below w.heap.size w V) := h7.trans (hBV.mono h7.size)
  have gV := g7.trans (hBV.mono g7.size)
  have PX : Hid (NodeP V w.heap.size 0 x) := NX.out.later gV
  have PY : Hid (NodeP V (w.heap.size + 1) 0 y) := NY.out.later gV
  have PD : Hid (NodeP V w7.heap.size 0 g) := hNV
  have F1 : Hid (∀ d, Below V.heap.size V d → Calls Try.prog 19 #[x.val, g.val] d fun e w' => e = .returned (.int .i64 0) ∧ Below d.heap.size d w') := fun d h => by
    have hd := HV.out.trans (h.mono HV.out.size)
    have := formP_any x g d (IX.out d hd) ((hg.out.1.later hBV).later h)
    rw [hg.out.2.1] at this
    exact this
  have F2 : Hid (∀ d, Below V.heap.size V d → Calls Try.prog 19 #[g.val, y.val] d fun e w' => e = .returned (.int .i64 1) ∧ Below d.heap.size d w') := fun d h => by
    have hd := HV.out.trans (h.mono HV.out.size)
    have := formP_any g y d ((hg.out.1.later hBV).later h) (IY.out d hd)
    rw [hg.out.2.2] at this
    exact this
  have F3 : Hid (∀ d, Below V.heap.size V d → Calls Try.prog 19 #[x.val, y.val] d fun e w' => e = .returned (.int .i64 1) ∧ Below d.heap.size d w') := fun d h => F3'.out d (HV.out.trans (h.mono HV.out.size))
  clear F3' IX IY hg h7 g7 gV hBV hNV hB7 h6 g6 NX NY NZ hA hC u0 u1 u2 u3 u4 u5
  refine wp_region_noPanic ?_
  refine wp_region_held_drew (S := fun w' => Below V.heap.size V w') (by kernel_rfl) ((Below.refl _ _).drew) (fun hHeld => ?_)
  have hT : Below V.heap.size V V.drew := hHeld
  obtain ⟨d, hdw⟩ : ∃ d, d = V.drew := ⟨_, rfl⟩
  rw [← hdw] at hHeld hT ⊢
  clear hdw
  refine wpAnyH_take (i := 0) (oi := ⟨some 59, Op.load 27 (Operand.tmp 5), 27, _, _, _⟩) (v := ?v0h) rfl (by kernel_rfl) (by kernel_rfl) (by kernel_rfl) (fun _ _ _ h => h) (Or.inl ⟨by rfl, ?hy0h⟩) hHeld ?rest0h
  case hy0h => intro w9 hSw; obtain ⟨d0, d1, d2, d3, d4, d5⟩ := (PX.out.later hSw).at0; go_simp; (try with_reducible rfl)
  try simp only [Act.put, List.setIfInBounds_toArray, List.set_cons_zero, List.set_cons_succ]
  refine wpAnyH_take (i := 1) (oi := ⟨some 60, Op.load 27 (Operand.tmp 13), 27, _, _, _⟩) (v := ?v1h) rfl (by kernel_rfl) (by kernel_rfl) (by kernel_rfl) (fun _ _ _ h => h) (Or.inl ⟨by rfl, ?hy1h⟩) hHeld ?rest1h
  case hy1h => intro w9 hSw; obtain ⟨d0, d1, d2, d3, d4, d5⟩ := (PD.out.later hSw).at0; go_simp; (try with_reducible rfl)
  try simp only [Act.put, List.setIfInBounds_toArray, List.set_cons_zero, List.set_cons_succ]
  refine wpAnyH_ready (rs := [2]) (by kernel_rfl) (by simp) ?_
  refine AllReadyH.cons (o := ⟨some 61, Op.call { callee := Callee.value (Operand.func 19), args := #[Operand.tmp 59, Operand.tmp 60], argTypes := #[27, 27] }, 3, _, _, _⟩) rfl (fun K hK => ?_) AllReadyH.nil
  go_simp
  refine (F1.out _ hT).mono ?_
  rintro e x2 ⟨rfl, hN2⟩
  go_wp2_with fail
  have hT2 : Below V.heap.size V x2 := hT.trans (hN2.mono hT.size)
  refine hK.out _ _ (hHeld.trans (hN2.mono hHeld.size)) (fun _ => held_up (S' := fun w' => Below x2.heap.size x2 w') (fun w' h' => (hHeld.trans (hN2.mono hHeld.size)).trans (h'.mono (Nat.le_trans hHeld.size hN2.size))) _ _ _ _ ?_)
  clear hK K hHeld hT
  have hT : Below V.heap.size V x2 := hT2
  have hHeld : Below x2.heap.size x2 x2 := Below.refl _ _
  clear hT2 hN2
  try simp only [Act.put, List.setIfInBounds_toArray, List.set_cons_zero, List.set_cons_succ]
  refine wpAnyH_take (i := 3) (oi := ⟨some 62, Op.binOp BinOp.eql 3 (Operand.tmp 61) (Operand.const (Value.int IntKind.i64 0)) 3, 4, _, _, _⟩) (v := ?v3h) rfl (by kernel_rfl) (by kernel_rfl) (by kernel_rfl) (fun _ _ _ h => h) (Or.inl ⟨by rfl, ?hy3h⟩) hHeld ?rest3h
  case hy3h => intro w9 hSw; go_simp; (try with_reducible rfl)
  try simp only [Act.put, List.setIfInBounds_toArray, List.set_cons_zero, List.set_cons_succ]
  refine wpAnyH_take (i := 4) (oi := ⟨some 63, Op.move (Operand.tmp 62), 4, _, _, _⟩) (v := ?v4h) rfl (by kernel_rfl) (by kernel_rfl) (by kernel_rfl) (fun _ _ _ h => h) (Or.inl ⟨by rfl, ?hy4h⟩) hHeld ?rest4h
  case hy4h => intro w9 hSw; go_simp; (try with_reducible rfl)
  try simp only [Act.put, List.setIfInBounds_toArray, List.set_cons_zero, List.set_cons_succ]
  refine wpAnyH_take (i := 5) (oi := ⟨some 64, Op.load 27 (Operand.tmp 13), 27, _, _, _⟩) (v := ?v5h) rfl (by kernel_rfl) (by kernel_rfl) (by kernel_rfl) (fun _ _ _ h => h) (Or.inl ⟨by rfl, ?hy5h⟩) hHeld ?rest5h
  case hy5h => intro w9 hSw; obtain ⟨d0, d1, d2, d3, d4, d5⟩ := (PD.out.later (hT.trans (hSw.mono hT.size))).at0; go_simp; (try with_reducible rfl)
  try simp only [Act.put, List.setIfInBounds_toArray, List.set_cons_zero, List.set_cons_succ]
  refine wpAnyH_take (i := 6) (oi := ⟨some 65, Op.load 27 (Operand.tmp 6), 27, _, _, _⟩) (v := ?v6h) rfl (by kernel_rfl) (by kernel_rfl) (by kernel_rfl) (fun _ _ _ h => h) (Or.inl ⟨by rfl, ?hy6h⟩) hHeld ?rest6h
  case hy6h => intro w9 hSw; obtain ⟨d0, d1, d2, d3, d4, d5⟩ := (PY.out.later (hT.trans (hSw.mono hT.size))).at0; go_simp; (try with_reducible rfl)
  try simp only [Act.put, List.setIfInBounds_toArray, List.set_cons_zero, List.set_cons_succ]
  refine wpAnyH_take (i := 8) (oi := ⟨some 67, Op.load 27 (Operand.tmp 5), 27, _, _, _⟩) (v := ?v8h) rfl (by kernel_rfl) (by kernel_rfl) (by kernel_rfl) (fun _ _ _ h => h) (Or.inl ⟨by rfl, ?hy8h⟩) hHeld ?rest8h
  case hy8h => intro w9 hSw; obtain ⟨d0, d1, d2, d3, d4, d5⟩ := (PX.out.later (hT.trans (hSw.mono hT.size))).at0; go_simp; (try with_reducible rfl)
  try simp only [Act.put, List.setIfInBounds_toArray, List.set_cons_zero, List.set_cons_succ]
  refine wpAnyH_take (i := 9) (oi := ⟨some 68, Op.load 27 (Operand.tmp 6), 27, _, _, _⟩) (v := ?v9h) rfl (by kernel_rfl) (by kernel_rfl) (by kernel_rfl) (fun _ _ _ h => h) (Or.inl ⟨by rfl, ?hy9h⟩) hHeld ?rest9h
  case hy9h => intro w9 hSw; obtain ⟨d0, d1, d2, d3, d4, d5⟩ := (PY.out.later (hT.trans (hSw.mono hT.size))).at0; go_simp; (try with_reducible rfl)
  try simp only [Act.put, List.setIfInBounds_toArray, List.set_cons_zero, List.set_cons_succ]
  refine wpAnyH_ready (rs := [7]) (by kernel_rfl) (by simp) ?_
  refine AllReadyH.cons (o := ⟨some 66, Op.call { callee := Callee.value (Operand.func 19), args := #[Operand.tmp 64, Operand.tmp 65], argTypes := #[27, 27] }, 3, _, _, _⟩) rfl (fun K hK => ?_) AllReadyH.nil
  go_simp
  refine (F2.out _ hT).mono ?_
  rintro e x7 ⟨rfl, hN7⟩
  go_wp2_with fail
  have hT7 : Below V.heap.size V x7 := hT.trans (hN7.mono hT.size)
  refine hK.out _ _ (hHeld.trans (hN7.mono hHeld.size)) (fun _ => held_up (S' := fun w' => Below x7.heap.size x7 w') (fun w' h' => (hHeld.trans (hN7.mono hHeld.size)).trans (h'.mono (Nat.le_trans hHeld.size hN7.size))) _ _ _ _ ?_)
  clear hK K hHeld hT
  have hT : Below V.heap.size V x7 := hT7
  have hHeld : Below x7.heap.size x7 x7 := Below.refl _ _
  clear hT7 hN7
  try simp only [Act.put, List.setIfInBounds_toArray, List.set_cons_zero, List.set_cons_succ]
  refine wpAnyH_ready (rs := [10]) (by kernel_rfl) (by simp) ?_
  refine AllReadyH.cons (o := ⟨some 69, Op.call { callee := Callee.value (Operand.func 19), args := #[Operand.tmp 67, Operand.tmp 68], argTypes := #[27, 27] }, 3, _, _, _⟩) rfl (fun K hK => ?_) AllReadyH.nil
  go_simp
  refine (F3.out _ hT).mono ?_
  rintro e x10 ⟨rfl, hN10⟩
  go_wp2_with fail
  have hT10 : Below V.heap.size V x10 := hT.trans (hN10.mono hT.size)
  refine hK.out _ _ (hHeld.trans (hN10.mono hHeld.size)) (fun _ => held_up (S' := fun w' => Below x10.heap.size x10 w') (fun w' h' => (hHeld.trans (hN10.mono hHeld.size)).trans (h'.mono (Nat.le_trans hHeld.size hN10.size))) _ _ _ _ ?_)
  clear hK K hHeld hT
  have hT : Below V.heap.size V x10 := hT10
  have hHeld : Below x10.heap.size x10 x10 := Below.refl _ _
  clear hT10 hN10
  try simp only [Act.put, List.setIfInBounds_toArray, List.set_cons_zero, List.set_cons_succ]
  refine wpAnyH_take (i := 11) (oi := ⟨some 70, Op.binOp BinOp.eql 3 (Operand.tmp 66) (Operand.tmp 69) 3, 4, _, _, _⟩) (v := ?v11h) rfl (by kernel_rfl) (by kernel_rfl) (by kernel_rfl) (fun _ _ _ h => h) (Or.inl ⟨by rfl, ?hy11h⟩) hHeld ?rest11h
  case hy11h => intro w9 hSw; go_simp; (try with_reducible rfl)
  try simp only [Act.put, List.setIfInBounds_toArray, List.set_cons_zero, List.set_cons_succ]
  refine wpAnyH_take (i := 12) (oi := ⟨some 71, Op.pick (Operand.tmp 63) (Operand.tmp 70) (Operand.const (Value.bool false)), 4, _, _, _⟩) (v := ?v12h) rfl (by kernel_rfl) (by kernel_rfl) (by kernel_rfl) (fun _ _ _ h => h) (Or.inl ⟨by rfl, ?hy12h⟩) hHeld ?rest12h
  case hy12h => intro w9 hSw; go_simp; (try with_reducible rfl)
  try simp only [Act.put, List.setIfInBounds_toArray, List.set_cons_zero, List.set_cons_succ]
  refine wpAnyH_take (i := 13) (oi := ⟨some 72, Op.move (Operand.tmp 71), 4, _, _, _⟩) (v := ?v13h) rfl (by kernel_rfl) (by kernel_rfl) (by kernel_rfl) (fun _ _ _ h => h) (Or.inl ⟨by rfl, ?hy13h⟩) hHeld ?rest13h
  case hy13h => intro w9 hSw; go_simp; (try with_reducible rfl)
  try simp only [Act.put, List.setIfInBounds_toArray, List.set_cons_zero, List.set_cons_succ]
  refine wpAnyH_take (i := 14) (oi := ⟨some 73, Op.load 27 (Operand.tmp 5), 27, _, _, _⟩) (v := ?v14h) rfl (by kernel_rfl) (by kernel_rfl) (by kernel_rfl) (fun _ _ _ h => h) (Or.inl ⟨by rfl, ?hy14h⟩) hHeld ?rest14h
  case hy14h => intro w9 hSw; obtain ⟨d0, d1, d2, d3, d4, d5⟩ := (PX.out.later (hT.trans (hSw.mono hT.size))).at0; go_simp; (try with_reducible rfl)
  try simp only [Act.put, List.setIfInBounds_toArray, List.set_cons_zero, List.set_cons_succ]
  refine wpAnyH_take (i := 15) (oi := ⟨some 74, Op.load 27 (Operand.tmp 6), 27, _, _, _⟩) (v := ?v15h) rfl (by kernel_rfl) (by kernel_rfl) (by kernel_rfl) (fun _ _ _ h => h) (Or.inl ⟨by rfl, ?hy15h⟩) hHeld ?rest15h
  case hy15h => intro w9 hSw; obtain ⟨d0, d1, d2, d3, d4, d5⟩ := (PY.out.later (hT.trans (hSw.mono hT.size))).at0; go_simp; (try with_reducible rfl)
  try simp only [Act.put, List.setIfInBounds_toArray, List.set_cons_zero, List.set_cons_succ]
  refine wpAnyH_ready (rs := [16]) (by kernel_rfl) (by simp) ?_
  refine AllReadyH.cons (o := ⟨some 75, Op.call { callee := Callee.value (Operand.func 19), args := #[Operand.tmp 73, Operand.tmp 74], argTypes := #[27, 27] }, 3, _, _, _⟩) rfl (fun K hK => ?_) AllReadyH.nil
  go_simp
  refine (F3.out _ hT).mono ?_
  rintro e x16 ⟨rfl, hN16⟩
  go_wp2_with fail
  have hT16 : Below V.heap.size V x16 := hT.trans (hN16.mono hT.size)
  refine hK.out _ _ (hHeld.trans (hN16.mono hHeld.size)) (fun _ => held_up (S' := fun w' => Below x16.heap.size x16 w') (fun w' h' => (hHeld.trans (hN16.mono hHeld.size)).trans (h'.mono (Nat.le_trans hHeld.size hN16.size))) _ _ _ _ ?_)
  clear hK K hHeld hT
  have hT : Below V.heap.size V x16 := hT16
  have hHeld : Below x16.heap.size x16 x16 := Below.refl _ _
  clear hT16 hN16
  try simp only [Act.put, List.setIfInBounds_toArray, List.set_cons_zero, List.set_cons_succ]
  refine wpAnyH_take (i := 17) (oi := ⟨some 76, Op.binOp BinOp.eql 3 (Operand.tmp 75) (Operand.const (Value.int IntKind.i64 0)) 3, 4, _, _, _⟩) (v := ?v17h) rfl (by kernel_rfl) (by kernel_rfl) (by kernel_rfl) (fun _ _ _ h => h) (Or.inl ⟨by rfl, ?hy17h⟩) hHeld ?rest17h
  case hy17h => intro w9 hSw; go_simp; (try with_reducible rfl)
  try simp only [Act.put, List.setIfInBounds_toArray, List.set_cons_zero, List.set_cons_succ]
  refine wpAnyH_take (i := 18) (oi := ⟨some 77, Op.move (Operand.tmp 76), 4, _, _, _⟩) (v := ?v18h) rfl (by kernel_rfl) (by kernel_rfl) (by kernel_rfl) (fun _ _ _ h => h) (Or.inl ⟨by rfl, ?hy18h⟩) hHeld ?rest18h
  case hy18h => intro w9 hSw; go_simp; (try with_reducible rfl)
  try simp only [Act.put, List.setIfInBounds_toArray, List.set_cons_zero, List.set_cons_succ]
  refine wpAnyH_take (i := 19) (oi := ⟨some 78, Op.load 27 (Operand.tmp 5), 27, _, _, _⟩) (v := ?v19h) rfl (by kernel_rfl) (by kernel_rfl) (by kernel_rfl) (fun _ _ _ h => h) (Or.inl ⟨by rfl, ?hy19h⟩) hHeld ?rest19h
  case hy19h => intro w9 hSw; obtain ⟨d0, d1, d2, d3, d4, d5⟩ := (PX.out.later (hT.trans (hSw.mono hT.size))).at0; go_simp; (try with_reducible rfl)
  try simp only [Act.put, List.setIfInBounds_toArray, List.set_cons_zero, List.set_cons_succ]
  refine wpAnyH_take (i := 20) (oi := ⟨some 79, Op.load 27 (Operand.tmp 6), 27, _, _, _⟩) (v := ?v20h) rfl (by kernel_rfl) (by kernel_rfl) (by kernel_rfl) (fun _ _ _ h => h) (Or.inl ⟨by rfl, ?hy20h⟩) hHeld ?rest20h
  case hy20h => intro w9 hSw; obtain ⟨d0, d1, d2, d3, d4, d5⟩ := (PY.out.later (hT.trans (hSw.mono hT.size))).at0; go_simp; (try with_reducible rfl)
  try simp only [Act.put, List.setIfInBounds_toArray, List.set_cons_zero, List.set_cons_succ]
  refine wpAnyH_take (i := 22) (oi := ⟨some 81, Op.move (Operand.tmp 11), 3, _, _, _⟩) (v := ?v22h) rfl (by kernel_rfl) (by kernel_rfl) (by kernel_rfl) (fun _ _ _ h => h) (Or.inl ⟨by rfl, ?hy22h⟩) hHeld ?rest22h
  case hy22h => intro w9 hSw; go_simp; (try with_reducible rfl)
  try simp only [Act.put, List.setIfInBounds_toArray, List.set_cons_zero, List.set_cons_succ]
  refine wpAnyH_ready (rs := [21]) (by kernel_rfl) (by simp) ?_
  refine AllReadyH.cons (o := ⟨some 80, Op.call { callee := Callee.value (Operand.func 19), args := #[Operand.tmp 78, Operand.tmp 79], argTypes := #[27, 27] }, 3, _, _, _⟩) rfl (fun K hK => ?_) AllReadyH.nil
  go_simp
  refine (F3.out _ hT).mono ?_
  rintro e x21 ⟨rfl, hN21⟩
  go_wp2_with fail
  have hT21 : Below V.heap.size V x21 := hT.trans (hN21.mono hT.size)
  refine hK.out _ _ (hHeld.trans (hN21.mono hHeld.size)) (fun _ => held_up (S' := fun w' => Below x21.heap.size x21 w') (fun w' h' => (hHeld.trans (hN21.mono hHeld.size)).trans (h'.mono (Nat.le_trans hHeld.size hN21.size))) _ _ _ _ ?_)
  clear hK K hHeld hT
  have hT : Below V.heap.size V x21 := hT21
  have hHeld : Below x21.heap.size x21 x21 := Below.refl _ _
  clear hT21 hN21
  try simp only [Act.put, List.setIfInBounds_toArray, List.set_cons_zero, List.set_cons_succ]
  refine wpAnyH_take (i := 23) (oi := ⟨some 82, Op.binOp BinOp.eql 3 (Operand.tmp 80) (Operand.tmp 81) 3, 4, _, _, _⟩) (v := ?v23h) rfl (by kernel_rfl) (by kernel_rfl) (by kernel_rfl) (fun _ _ _ h => h) (Or.inl ⟨by rfl, ?hy23h⟩) hHeld ?rest23h
  case hy23h => intro w9 hSw; go_simp; (try with_reducible rfl)
  try simp only [Act.put, List.setIfInBounds_toArray, List.set_cons_zero, List.set_cons_succ]
  refine wpAnyH_take (i := 24) (oi := ⟨some 83, Op.pick (Operand.tmp 77) (Operand.const (Value.bool true)) (Operand.tmp 82), 4, _, _, _⟩) (v := ?v24h) rfl (by kernel_rfl) (by kernel_rfl) (by kernel_rfl) (fun _ _ _ h => h) (Or.inl ⟨by rfl, ?hy24h⟩) hHeld ?rest24h
  case hy24h => intro w9 hSw; go_simp; (try with_reducible rfl)
  try simp only [Act.put, List.setIfInBounds_toArray, List.set_cons_zero, List.set_cons_succ]
  refine wpAnyH_take (i := 25) (oi := ⟨some 84, Op.pick (Operand.tmp 72) (Operand.tmp 83) (Operand.const (Value.bool false)), 4, _, _, _⟩) (v := ?v25h) rfl (by kernel_rfl) (by kernel_rfl) (by kernel_rfl) (fun _ _ _ h => h) (Or.inl ⟨by rfl, ?hy25h⟩) hHeld ?rest25h
  case hy25h => intro w9 hSw; go_simp; (try with_reducible rfl)
  try simp only [Act.put, List.setIfInBounds_toArray, List.set_cons_zero, List.set_cons_succ]
  refine wpAnyH_take (i := 26) (oi := ⟨some 85, Op.move (Operand.tmp 84), 4, _, _, _⟩) (v := ?v26h) rfl (by kernel_rfl) (by kernel_rfl) (by kernel_rfl) (fun _ _ _ h => h) (Or.inl ⟨by rfl, ?hy26h⟩) hHeld ?rest26h
  case hy26h => intro w9 hSw; go_simp; (try with_reducible rfl)
  try simp only [Act.put, List.setIfInBounds_toArray, List.set_cons_zero, List.set_cons_succ]
  refine wpAnyH_ready (rs := [27]) (by kernel_rfl) (by simp) ?_
  refine AllReadyH.cons (o := ⟨some 86, Op.call { callee := Callee.value (Operand.func 8), args := #[], argTypes := #[] }, 4, _, _, _⟩) rfl (fun K hK => ?_) AllReadyH.nil
  go_simp
  refine (W1.out _).mono ?_
  rintro e x27 ⟨rfl, hN27⟩
  go_wp2_with fail
  have hT27 : Below V.heap.size V x27 := hT.trans (hN27.mono hT.size)
  refine hK.out _ _ (hHeld.trans (hN27.mono hHeld.size)) (fun _ => held_up (S' := fun w' => Below x27.heap.size x27 w') (fun w' h' => (hHeld.trans (hN27.mono hHeld.size)).trans (h'.mono (Nat.le_trans hHeld.size hN27.size))) _ _ _ _ ?_)
  clear hK K hHeld hT
  have hT : Below V.heap.size V x27 := hT27
  have hHeld : Below x27.heap.size x27 x27 := Below.refl _ _
  clear hT27 hN27
  try simp only [Act.put, List.setIfInBounds_toArray, List.set_cons_zero, List.set_cons_succ]
  refine wpAnyH_take (i := 28) (oi := ⟨some 87, Op.pick (Operand.tmp 85) (Operand.tmp 86) (Operand.const (Value.bool false)), 4, _, _, _⟩) (v := ?v28h) rfl (by kernel_rfl) (by kernel_rfl) (by kernel_rfl) (fun _ _ _ h => h) (Or.inl ⟨by rfl, ?hy28h⟩) hHeld ?rest28h
  case hy28h => intro w9 hSw; go_simp; (try with_reducible rfl)
  try simp only [Act.put, List.setIfInBounds_toArray, List.set_cons_zero, List.set_cons_succ]
  refine wpAnyH_take (i := 29) (oi := ⟨some 10, Op.assign (Operand.tmp 87), 4, _, _, _⟩) (v := ?v29h) rfl (by kernel_rfl) (by kernel_rfl) (by kernel_rfl) (fun _ _ _ h => h) (Or.inl ⟨by rfl, ?hy29h⟩) hHeld ?rest29h
  case hy29h => intro w9 hSw; go_simp; (try with_reducible rfl)
  try simp only [Act.put, List.setIfInBounds_toArray, List.set_cons_zero, List.set_cons_succ]
  refine wpAnyH_done (by kernel_rfl) ?_ _
  refine NoPanic.normal ?_
  go_wp2
  go_ret
  exact ⟨rfl, HV.out.trans (hT.mono HV.out.size)⟩
theorem orderOrder_walk (x y z : Pt) (a1 a2 : Option Addr) (m1 m2 c1 c2 : Nat) (S T : Nat → ByteArray) (w : World) (hX : IsP w x) (hY : IsP w y) (hZ : IsP w z) (sx : WdP x) (hS : Txs w a1 m1 S) (hT' : Txs w a2 m2 T) (hm1 : m1 ≤ 9223372036854775807) (hm2 : m2 ≤ 9223372036854775807) :
    Calls Try.prog 4 #[x.val, y.val, z.val, .slice a1 m1 c1, .slice a2 m2 c2] w fun e w' => e = .returned (.bool true) ∧ Below w.heap.size w w' := by
  cases hl : litB (threeP x y z) 3 with
  | false => exact orderOrder_no x y z a1 a2 m1 m2 c1 c2 w hX hY hZ hl
  | true =>
    have key : ∀ p, wholeP x y = p → ¬ p = 0 → formP x y = 0 ∨ formP x y = p := fun p h hp => by
      by_cases e : formP x y = 0
      · exact .inl e
      · right
        rw [← h, wholeP, orI, if_neg e]
    rcases tri_whole x y with h | h | h
    · rcases key _ h (by decide) with f | f
      · by_cases hq : wholeP y z ≤ 0
        · exact orderOrder_a x y z a1 a2 m1 m2 c1 c2 S T w hX hY hZ sx hS hT' hm1 hm2 hl h f hq
        · exact orderOrder_b x y z a1 a2 m1 m2 c1 c2 S T w hX hY hZ sx hS hT' hm1 hm2 hl h f hq
      · by_cases hq : wholeP y z ≤ 0
        · exact orderOrder_c x y z a1 a2 m1 m2 c1 c2 S T w hX hY hZ sx hS hT' hm1 hm2 hl h f hq
        · exact orderOrder_d x y z a1 a2 m1 m2 c1 c2 S T w hX hY hZ sx hS hT' hm1 hm2 hl h f hq
    · have f : formP x y = 0 := (orI_zero.1 h).1
      by_cases hq : wholeP y z ≤ 0
      · exact orderOrder_e x y z a1 a2 m1 m2 c1 c2 S T w hX hY hZ sx hS hT' hm1 hm2 hl h f hq
      · exact orderOrder_f x y z a1 a2 m1 m2 c1 c2 S T w hX hY hZ sx hS hT' hm1 hm2 hl h f hq
    · rcases key _ h (by decide) with f | f
      · exact orderOrder_g x y z a1 a2 m1 m2 c1 c2 S T w hX hY hZ sx hS hT' hm1 hm2 hl h f
      · exact orderOrder_h x y z a1 a2 m1 m2 c1 c2 S T w hX hY hZ sx hS hT' hm1 hm2 hl h f
end Go.Proofs.Ytcdehohmgfocdaa
