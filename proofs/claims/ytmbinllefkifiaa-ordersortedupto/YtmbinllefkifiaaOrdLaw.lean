/-
  haruspexlaw15's light and awake; OrderTells' walk.
-/
import Derived.Test.YtmbinllefkifiaaOrdRef
import Derived.Test.YtmbinllefkifiaaPatSize
import Derived.Deep.DeepCutAuto
namespace Go.Proofs.Ytmbinllefkifiaa
open Go.RowKit

/-- A row of patterns. -/
def Ps (w : World) (a : Option Addr) (n : Nat) (c : Nat → Pt) : Prop := ∀ i, i < n → ∃ b o, a = some ⟨b, o, none⟩ ∧ NodeP w b (o + i * 6) (c i) ∧ IsP w (c i)
theorem Ps.later {w w' : World} {a : Option Addr} {n : Nat} {c : Nat → Pt} (h : Ps w a n c) (hB : Below w.heap.size w w') : Ps w' a n c := fun i hi => by
  obtain ⟨b, o, e, h1, h2⟩ := h i hi
  exact ⟨b, o, e, h1.later hB, h2.later hB⟩
/-- How many nodes. -/
abbrev sizes (c : Nat → Pt) (n : Nat) : Nat := sumN (fun i => (c i).size) n
theorem sizes_le (c : Nat → Pt) {k n : Nat} (h : k ≤ n) : sizes c k ≤ sizes c n := by
  induction n with
  | zero => obtain rfl : k = 0 := by omega
            exact Nat.le_refl _
  | succ n ih =>
    by_cases e : k = n + 1
    · rw [e]; exact Nat.le_refl _
    · have := ih (by omega)
      simp only [sizes, sumN] at this ⊢
      omega
set_option maxRecDepth 100000 in
set_option maxHeartbeats 4000000 in
theorem lightO_any (a : Option Addr) (n cap : Nat) (c : Nat → Pt) (w : World) (hn : n ≤ 1048576) (hP : Ps w a n c) (hs : ∀ i, i < n → (c i).size ≤ 1048576) :
    Calls Try.prog 7 #[.slice a n cap] w fun e w' => e = .returned (.bool (decide (sizes c n ≤ 600))) ∧ Below w.heap.size w w' := by
  obtain ⟨r, hr⟩ : ∃ r, r = decide (sizes c n ≤ 600) := ⟨_, rfl⟩
  rw [← hr]
  have HR : Hid (r = decide (sizes c n ≤ 600)) := hr
  have HP : Hid (Ps w a n c) := hP
  have HC : Hid (∀ i, i < n → ∀ d, Below w.heap.size w d → Calls Try.prog 23 #[(c i).val] d fun e w' => e = .returned (.int .i64 (c i).size) ∧ Below d.heap.size d w') := fun i hi d hd => by
    obtain ⟨_, _, _, _, h2⟩ := (hP.later hd) i hi
    exact refSizeP_any (c i) d h2 (hs i hi)
  have HS : Hid (∀ i, i < n → (c i).size ≤ 1048576) := hs
  clear hP hr hs
  go_enter Try.func7, Try.ntmps7
  go_wp2
  go_loopw [3, 4] (fun u v wr => ∃ k : Nat, k ≤ n ∧ u = .int .i64 ((sizes c k : Nat) : Int) ∧ v = .int .i64 k ∧ Hid (sizes c k ≤ 1049176) ∧ Below w.heap.size w wr) (fun _ v _ => n - (intOf v).toNat)
  case atStart => exact ⟨0, Nat.zero_le _, rfl, rfl, by show sizes c 0 ≤ _; simp [sizes, sumN], Below.refl _ _⟩
  case round =>
    obtain ⟨k, hk, rfl, rfl, HL, hB⟩ := hrel
    have hl := HL.out
    by_cases hkn : k < n
    · by_cases h6 : sizes c k ≤ 600
      · obtain ⟨b, o, rfl, hn1, _⟩ := (HP.out.later hB) k hkn
        obtain ⟨d0, d1, d2, d3, d4, d5⟩ := hn1
        have hc := HC.out k hkn wr hB
        have HK : Hid (k < n) := hkn
        have hb := HS.out k hkn
        have HE : Hid (sizes c (k + 1) = sizes c k + (c k).size) := rfl
        have h6' : ((sizes c k : Nat) : Int) ≤ 600 := by omega
        generalize sizes c k = p at hl h6' HE h6 ⊢
        generalize (c k).size = q at hc hb HE
        have HQ : Hid (p + q ≤ 1049176) := by show p + q ≤ _; omega
        clear hl HL
        go_wp2_with (go_at_call 23; refine hc.mono ?_; rintro e w2 ⟨rfl, hB2⟩)
        exact ⟨⟨k + 1, HK.out, by rw [HE.out]; simp, by simp, by show _ ≤ _; rw [HE.out]; exact HQ.out, hB.trans (hB2.mono hB.size)⟩, by have := HK.out; simp [intOf]; omega⟩
      · have h6' : ¬ ((sizes c k : Nat) : Int) ≤ 600 := by omega
        have HR' : Hid (r = false) := by
          show r = false
          rw [HR.out]
          have := sizes_le c hk
          exact decide_eq_false (by omega)
        clear HR
        generalize sizes c k = p at hl h6' h6 ⊢
        have h7 : decide ((p : Int) ≤ 600) = false := decide_eq_false h6'
        clear HL hl h6 h6'
        go_wp2
        go_ret
        exact ⟨ret_bool (by rw [HR'.out, ← h7]), hB⟩
    · obtain rfl : k = n := by omega
      have HR' : Hid (r = decide (((sizes c k : Nat) : Int) ≤ 600)) := by
        show r = _
        rw [HR.out]
        exact decide_eq_decide.2 (by omega)
      clear HR
      generalize sizes c k = p at hl HR' ⊢
      clear HL hl
      go_wp2
      go_ret
      exact ⟨ret_bool HR'.out.symm, hB⟩
def leafO (k : Int) : Pt := .mk k ⟨#[]⟩ ⟨#[]⟩ 0 0 none 0 0 (fun _ => .nil)
set_option maxRecDepth 100000 in
set_option maxHeartbeats 1000000 in
theorem awake15_any (w : World) : Calls Try.prog 8 #[] w fun e w' => e = .returned (.bool true) ∧ Below w.heap.size w w' := by
  have hc : Calls Try.prog 9 #[.agg #[.int .i64 1, .string ⟨#[]⟩, .string ⟨#[]⟩, .int .i64 0, .int .i64 0, .slice none 0 0], .agg #[.int .i64 2, .string ⟨#[]⟩, .string ⟨#[]⟩, .int .i64 0, .int .i64 0, .slice none 0 0]] w fun e w' => e = .returned (.int .i64 (-1)) ∧ Below w.heap.size w w' := by
    have := formP_any (leafO 1) (leafO 2) w ⟨by omega, by omega, fun i hi => by omega⟩ ⟨by omega, by omega, fun i hi => by omega⟩
    rw [show formP (leafO 1) (leafO 2) = -1 by simp [formP, leafO, alP, orI, cmpI, Pt.k]] at this
    exact this
  go_enter Try.func8, Try.ntmps8
  go_wp2_with (go_at_call 9; refine hc.mono ?_; rintro e w2 ⟨rfl, hB2⟩)
  go_ret
  exact ⟨rfl, hB2⟩
def twoP (x y : Pt) : Nat → Pt
  | 0 => x
  | _ => y
theorem twoP_row {w : World} {x y : Pt} (hX : IsP w x) (hY : IsP w y) : ∃ A, w.alloc (.cells #[.int .i64 x.k, .string x.s, .string x.t, .int .i64 x.lo, .int .i64 x.hi, .slice x.a x.n x.cap, .int .i64 y.k, .string y.s, .string y.t, .int .i64 y.lo, .int .i64 y.hi, .slice y.a y.n y.cap] 24) = A ∧ Below w.heap.size w A ∧ Ps A (some ⟨w.heap.size, 0, none⟩) 2 (twoP x y) := by
  have hB : ∀ o, Below w.heap.size w (w.alloc o) := fun o => (Below.refl _ w).alloc (Nat.le_refl _) o
  refine ⟨_, rfl, hB _, fun i hi => ⟨w.heap.size, 0, rfl, ?_⟩⟩
  match i, hi with
  | 0, _ => exact ⟨by refine ⟨?_, ?_, ?_, ?_, ?_, ?_⟩ <;> simp [twoP], hX.later (hB _)⟩
  | 1, _ => exact ⟨by refine ⟨?_, ?_, ?_, ?_, ?_, ?_⟩ <;> simp [twoP], hY.later (hB _)⟩
set_option maxRecDepth 100000 in
set_option maxHeartbeats 2000000 in
theorem orderTells_no (x y : Pt) (w : World) (hX : IsP w x) (hY : IsP w y) (sx : x.size ≤ 1048576) (sy : y.size ≤ 1048576) (hl : decide (sizes (twoP x y) 2 ≤ 600) = false) :
    Calls Try.prog 3 #[x.val, y.val] w fun e w' => e = .returned (.bool true) ∧ Below w.heap.size w w' := by
  obtain ⟨A, hA, hB, hs, hn, hm⟩ := boxP_two x y w
  obtain ⟨a0, a1, a2, a3, a4, a5⟩ := hn.at0
  obtain ⟨b0, b1, b2, b3, b4, b5⟩ := hm.at0
  obtain ⟨C, hC, hBC, hP⟩ := twoP_row (hX.later hB) (hY.later hB)
  have HB : Hid (Below w.heap.size w C) := hB.trans (hBC.mono hB.size)
  have L1 : Hid (Calls Try.prog 7 #[.slice (some ⟨A.heap.size, 0, none⟩) 2 2] C fun e w' => e = .returned (.bool false) ∧ Below C.heap.size C w') := by
    have := lightO_any _ 2 2 _ C (by omega) hP (fun i hi => by match i, hi with | 0, _ => exact sx | 1, _ => exact sy)
    rw [hl] at this
    exact this
  have W1 : Hid (∀ d, Calls Try.prog 8 #[] d fun e w' => e = .returned (.bool true) ∧ Below d.heap.size d w') := fun d => awake15_any d
  clear hB hn hm hX hY hl hP hBC hs
  go_enter Try.func3, Try.ntmps3
  go_wp2_with (first
    | (go_at_call 7; refine L1.out.mono ?_; clear L1; rintro e w1 ⟨rfl, hB1⟩)
    | (go_at_call 8; refine (W1.out _).mono ?_; clear W1; rintro e w2 ⟨rfl, hB2⟩))
  go_ret
  exact ⟨rfl, HB.out.trans ((hB1.trans (hB2.mono hB1.size)).mono HB.out.size)⟩
set_option maxRecDepth 100000 in
set_option maxHeartbeats 8000000 in
theorem orderTells_yes (x y : Pt) (w : World) (hX : IsP w x) (hY : IsP w y) (sx : x.size ≤ 1048576) (sy : y.size ≤ 1048576) (hl : decide (sizes (twoP x y) 2 ≤ 600) = true) :
    Calls Try.prog 3 #[x.val, y.val] w fun e w' => e = .returned (.bool true) ∧ Below w.heap.size w w' := by
  obtain ⟨A, hA, hB, hs, hn, hm⟩ := boxP_two x y w
  obtain ⟨a0, a1, a2, a3, a4, a5⟩ := hn.at0
  obtain ⟨b0, b1, b2, b3, b4, b5⟩ := hm.at0
  obtain ⟨C, hC, hBC, hP⟩ := twoP_row (hX.later hB) (hY.later hB)
  have HB : Hid (Below w.heap.size w C) := hB.trans (hBC.mono hB.size)
  have NX : Hid (NodeP C w.heap.size 0 x) := hn.later hBC
  have NY : Hid (NodeP C (w.heap.size + 1) 0 y) := hm.later hBC
  have L1 : Hid (Calls Try.prog 7 #[.slice (some ⟨A.heap.size, 0, none⟩) 2 2] C fun e w' => e = .returned (.bool true) ∧ Below C.heap.size C w') := by
    have := lightO_any _ 2 2 _ C (by omega) hP (fun i hi => by match i, hi with | 0, _ => exact sx | 1, _ => exact sy)
    rw [hl] at this
    exact this
  have W1 : Hid (∀ d, Calls Try.prog 8 #[] d fun e w' => e = .returned (.bool true) ∧ Below d.heap.size d w') := fun d => awake15_any d
  obtain ⟨q, hq⟩ : ∃ q, q = formP x y := ⟨_, rfl⟩
  obtain ⟨p, hp⟩ : ∃ p, p = wholeP x y := ⟨_, rfl⟩
  have C1' : Hid (∀ d, Below w.heap.size w d → Calls Try.prog 9 #[x.val, y.val] d fun e w' => e = .returned (.int .i64 q) ∧ Below d.heap.size d w') := fun d h => by rw [hq]; exact formP_any x y d (hX.later h) (hY.later h)
  have C2' : Hid (∀ d, Below w.heap.size w d → Calls Try.prog 10 #[x.val, y.val] d fun e w' => e = .returned (.int .i64 q) ∧ Below d.heap.size d w') := fun d h => by rw [hq]; exact refForm_any x y d (hX.later h) (hY.later h)
  have C3' : Hid (∀ d, Below w.heap.size w d → Calls Try.prog 11 #[x.val, y.val] d fun e w' => e = .returned (.int .i64 p) ∧ Below d.heap.size d w') := fun d h => by rw [hp]; exact wholeP_any x y d (hX.later h) (hY.later h)
  have C4' : Hid (∀ d, Below w.heap.size w d → Calls Try.prog 12 #[x.val, y.val] d fun e w' => e = .returned (.int .i64 p) ∧ Below d.heap.size d w') := fun d h => by rw [hp]; exact refWhole_any x y d (hX.later h) (hY.later h) sx sy
  clear hB hn hm hX hY hl hP hBC hs sx sy hq hp
  go_enter Try.func3, Try.ntmps3
  go_upto_region 3 with (first
    | (go_at_call 7; refine L1.out.mono ?_; clear L1; rintro e w1 ⟨rfl, hB1⟩))
  generalize w1 = W at *
  have HW : Hid (Below w.heap.size w W) := HB.out.trans (hB1.mono HB.out.size)
  have PX : Hid (NodeP W w.heap.size 0 x) := NX.out.later hB1
  have PY : Hid (NodeP W (w.heap.size + 1) 0 y) := NY.out.later hB1
  have C1 : Hid (∀ d, Below W.heap.size W d → _) := fun d h => C1'.out d (HW.out.trans (h.mono HW.out.size))
  have C2 : Hid (∀ d, Below W.heap.size W d → _) := fun d h => C2'.out d (HW.out.trans (h.mono HW.out.size))
  have C3 : Hid (∀ d, Below W.heap.size W d → _) := fun d h => C3'.out d (HW.out.trans (h.mono HW.out.size))
  have C4 : Hid (∀ d, Below W.heap.size W d → _) := fun d h => C4'.out d (HW.out.trans (h.mono HW.out.size))
  clear C1' C2' C3' C4' hB1 NX NY a0 a1 a2 a3 a4 a5 b0 b1 b2 b3 b4 b5 hA hC
  refine wp_region_noPanic ?_
  refine wp_region_held_drew (S := fun w' => Below W.heap.size W w') (by kernel_rfl) ((Below.refl _ _).drew) (fun hHeld => ?_)
  have hT : Below W.heap.size W W.drew := hHeld
  obtain ⟨d, hdw⟩ : ∃ d, d = W.drew := ⟨_, rfl⟩
  rw [← hdw] at hHeld hT ⊢
  clear hdw
  refine wpAnyH_take (i := 0) (oi := ⟨some 11, Op.load 24 (Operand.tmp 2), 24, _, _, _⟩) (v := ?v0) rfl (by kernel_rfl) (by kernel_rfl) (by kernel_rfl) (fun _ _ _ h => h) (Or.inl ⟨by rfl, ?hy0⟩) hHeld ?rest0
  case hy0 => intro w9 hSw; obtain ⟨d0, d1, d2, d3, d4, d5⟩ := (PX.out.later hSw).at0; go_simp; (try with_reducible rfl)
  try simp only [Act.put, List.setIfInBounds_toArray, List.set_cons_zero, List.set_cons_succ]
  refine wpAnyH_take (i := 1) (oi := ⟨some 12, Op.load 24 (Operand.tmp 3), 24, _, _, _⟩) (v := ?v1) rfl (by kernel_rfl) (by kernel_rfl) (by kernel_rfl) (fun _ _ _ h => h) (Or.inl ⟨by rfl, ?hy1⟩) hHeld ?rest1
  case hy1 => intro w9 hSw; obtain ⟨d0, d1, d2, d3, d4, d5⟩ := (PY.out.later hSw).at0; go_simp; (try with_reducible rfl)
  try simp only [Act.put, List.setIfInBounds_toArray, List.set_cons_zero, List.set_cons_succ]
  refine wpAnyH_take (i := 3) (oi := ⟨some 14, Op.load 24 (Operand.tmp 2), 24, _, _, _⟩) (v := ?v3) rfl (by kernel_rfl) (by kernel_rfl) (by kernel_rfl) (fun _ _ _ h => h) (Or.inl ⟨by rfl, ?hy3⟩) hHeld ?rest3
  case hy3 => intro w9 hSw; obtain ⟨d0, d1, d2, d3, d4, d5⟩ := (PX.out.later hSw).at0; go_simp; (try with_reducible rfl)
  try simp only [Act.put, List.setIfInBounds_toArray, List.set_cons_zero, List.set_cons_succ]
  refine wpAnyH_take (i := 4) (oi := ⟨some 15, Op.load 24 (Operand.tmp 3), 24, _, _, _⟩) (v := ?v4) rfl (by kernel_rfl) (by kernel_rfl) (by kernel_rfl) (fun _ _ _ h => h) (Or.inl ⟨by rfl, ?hy4⟩) hHeld ?rest4
  case hy4 => intro w9 hSw; obtain ⟨d0, d1, d2, d3, d4, d5⟩ := (PY.out.later hSw).at0; go_simp; (try with_reducible rfl)
  try simp only [Act.put, List.setIfInBounds_toArray, List.set_cons_zero, List.set_cons_succ]
  refine wpAnyH_ready (rs := [2]) (by kernel_rfl) (by simp) ?_
  refine AllReadyH.cons (o := ⟨some 13, Op.call { callee := Callee.value (Operand.func 9), args := #[Operand.tmp 11, Operand.tmp 12], argTypes := #[24, 24] }, 3, _, _, _⟩) rfl (fun K hK => ?_) AllReadyH.nil
  go_simp
  refine (C1.out _ hT).mono ?_
  rintro e x2 ⟨rfl, hN2⟩
  go_wp2_with fail
  have hT2 : Below W.heap.size W x2 := hT.trans (hN2.mono hT.size)
  refine hK.out _ _ (hHeld.trans (hN2.mono hHeld.size)) (fun _ => held_up (S' := fun w' => Below x2.heap.size x2 w') (fun w' h' => (hHeld.trans (hN2.mono hHeld.size)).trans (h'.mono (Nat.le_trans hHeld.size hN2.size))) _ _ _ _ ?_)
  clear hK K hHeld hT
  have hT : Below W.heap.size W x2 := hT2
  have hHeld : Below x2.heap.size x2 x2 := Below.refl _ _
  clear hT2 hN2
  try simp only [Act.put, List.setIfInBounds_toArray, List.set_cons_zero, List.set_cons_succ]
  refine wpAnyH_ready (rs := [5]) (by kernel_rfl) (by simp) ?_
  refine AllReadyH.cons (o := ⟨some 16, Op.call { callee := Callee.value (Operand.func 10), args := #[Operand.tmp 14, Operand.tmp 15], argTypes := #[24, 24] }, 3, _, _, _⟩) rfl (fun K hK => ?_) AllReadyH.nil
  go_simp
  refine (C2.out _ hT).mono ?_
  rintro e x5 ⟨rfl, hN5⟩
  go_wp2_with fail
  have hT5 : Below W.heap.size W x5 := hT.trans (hN5.mono hT.size)
  refine hK.out _ _ (hHeld.trans (hN5.mono hHeld.size)) (fun _ => held_up (S' := fun w' => Below x5.heap.size x5 w') (fun w' h' => (hHeld.trans (hN5.mono hHeld.size)).trans (h'.mono (Nat.le_trans hHeld.size hN5.size))) _ _ _ _ ?_)
  clear hK K hHeld hT
  have hT : Below W.heap.size W x5 := hT5
  have hHeld : Below x5.heap.size x5 x5 := Below.refl _ _
  clear hT5 hN5
  try simp only [Act.put, List.setIfInBounds_toArray, List.set_cons_zero, List.set_cons_succ]
  refine wpAnyH_take (i := 6) (oi := ⟨some 17, Op.binOp BinOp.eql 3 (Operand.tmp 13) (Operand.tmp 16) 3, 4, _, _, _⟩) (v := ?v6) rfl (by kernel_rfl) (by kernel_rfl) (by kernel_rfl) (fun _ _ _ h => h) (Or.inl ⟨by rfl, ?hy6⟩) hHeld ?rest6
  case hy6 => intro w9 hSw; go_simp; try rfl; (try with_reducible rfl)
  try simp only [Act.put, List.setIfInBounds_toArray, List.set_cons_zero, List.set_cons_succ]
  refine wpAnyH_take (i := 7) (oi := ⟨some 18, Op.move (Operand.tmp 17), 4, _, _, _⟩) (v := ?v7) rfl (by kernel_rfl) (by kernel_rfl) (by kernel_rfl) (fun _ _ _ h => h) (Or.inl ⟨by rfl, ?hy7⟩) hHeld ?rest7
  case hy7 => intro w9 hSw; go_simp; try rfl; (try with_reducible rfl)
  try simp only [Act.put, List.setIfInBounds_toArray, List.set_cons_zero, List.set_cons_succ]
  refine wpAnyH_take (i := 8) (oi := ⟨some 19, Op.load 24 (Operand.tmp 2), 24, _, _, _⟩) (v := ?v8) rfl (by kernel_rfl) (by kernel_rfl) (by kernel_rfl) (fun _ _ _ h => h) (Or.inl ⟨by rfl, ?hy8⟩) hHeld ?rest8
  case hy8 => intro w9 hSw; obtain ⟨d0, d1, d2, d3, d4, d5⟩ := (PX.out.later (hT.trans (hSw.mono hT.size))).at0; go_simp; (try with_reducible rfl)
  try simp only [Act.put, List.setIfInBounds_toArray, List.set_cons_zero, List.set_cons_succ]
  refine wpAnyH_take (i := 9) (oi := ⟨some 20, Op.load 24 (Operand.tmp 3), 24, _, _, _⟩) (v := ?v9) rfl (by kernel_rfl) (by kernel_rfl) (by kernel_rfl) (fun _ _ _ h => h) (Or.inl ⟨by rfl, ?hy9⟩) hHeld ?rest9
  case hy9 => intro w9 hSw; obtain ⟨d0, d1, d2, d3, d4, d5⟩ := (PY.out.later (hT.trans (hSw.mono hT.size))).at0; go_simp; (try with_reducible rfl)
  try simp only [Act.put, List.setIfInBounds_toArray, List.set_cons_zero, List.set_cons_succ]
  refine wpAnyH_take (i := 11) (oi := ⟨some 22, Op.load 24 (Operand.tmp 2), 24, _, _, _⟩) (v := ?v11) rfl (by kernel_rfl) (by kernel_rfl) (by kernel_rfl) (fun _ _ _ h => h) (Or.inl ⟨by rfl, ?hy11⟩) hHeld ?rest11
  case hy11 => intro w9 hSw; obtain ⟨d0, d1, d2, d3, d4, d5⟩ := (PX.out.later (hT.trans (hSw.mono hT.size))).at0; go_simp; (try with_reducible rfl)
  try simp only [Act.put, List.setIfInBounds_toArray, List.set_cons_zero, List.set_cons_succ]
  refine wpAnyH_take (i := 12) (oi := ⟨some 23, Op.load 24 (Operand.tmp 3), 24, _, _, _⟩) (v := ?v12) rfl (by kernel_rfl) (by kernel_rfl) (by kernel_rfl) (fun _ _ _ h => h) (Or.inl ⟨by rfl, ?hy12⟩) hHeld ?rest12
  case hy12 => intro w9 hSw; obtain ⟨d0, d1, d2, d3, d4, d5⟩ := (PY.out.later (hT.trans (hSw.mono hT.size))).at0; go_simp; (try with_reducible rfl)
  try simp only [Act.put, List.setIfInBounds_toArray, List.set_cons_zero, List.set_cons_succ]
  refine wpAnyH_ready (rs := [10]) (by kernel_rfl) (by simp) ?_
  refine AllReadyH.cons (o := ⟨some 21, Op.call { callee := Callee.value (Operand.func 11), args := #[Operand.tmp 19, Operand.tmp 20], argTypes := #[24, 24] }, 3, _, _, _⟩) rfl (fun K hK => ?_) AllReadyH.nil
  go_simp
  refine (C3.out _ hT).mono ?_
  rintro e x10 ⟨rfl, hN10⟩
  go_wp2_with fail
  have hT10 : Below W.heap.size W x10 := hT.trans (hN10.mono hT.size)
  refine hK.out _ _ (hHeld.trans (hN10.mono hHeld.size)) (fun _ => held_up (S' := fun w' => Below x10.heap.size x10 w') (fun w' h' => (hHeld.trans (hN10.mono hHeld.size)).trans (h'.mono (Nat.le_trans hHeld.size hN10.size))) _ _ _ _ ?_)
  clear hK K hHeld hT
  have hT : Below W.heap.size W x10 := hT10
  have hHeld : Below x10.heap.size x10 x10 := Below.refl _ _
  clear hT10 hN10
  try simp only [Act.put, List.setIfInBounds_toArray, List.set_cons_zero, List.set_cons_succ]
  refine wpAnyH_ready (rs := [13]) (by kernel_rfl) (by simp) ?_
  refine AllReadyH.cons (o := ⟨some 24, Op.call { callee := Callee.value (Operand.func 12), args := #[Operand.tmp 22, Operand.tmp 23], argTypes := #[24, 24] }, 3, _, _, _⟩) rfl (fun K hK => ?_) AllReadyH.nil
  go_simp
  refine (C4.out _ hT).mono ?_
  rintro e x13 ⟨rfl, hN13⟩
  go_wp2_with fail
  have hT13 : Below W.heap.size W x13 := hT.trans (hN13.mono hT.size)
  refine hK.out _ _ (hHeld.trans (hN13.mono hHeld.size)) (fun _ => held_up (S' := fun w' => Below x13.heap.size x13 w') (fun w' h' => (hHeld.trans (hN13.mono hHeld.size)).trans (h'.mono (Nat.le_trans hHeld.size hN13.size))) _ _ _ _ ?_)
  clear hK K hHeld hT
  have hT : Below W.heap.size W x13 := hT13
  have hHeld : Below x13.heap.size x13 x13 := Below.refl _ _
  clear hT13 hN13
  try simp only [Act.put, List.setIfInBounds_toArray, List.set_cons_zero, List.set_cons_succ]
  refine wpAnyH_take (i := 14) (oi := ⟨some 25, Op.binOp BinOp.eql 3 (Operand.tmp 21) (Operand.tmp 24) 3, 4, _, _, _⟩) (v := ?v14) rfl (by kernel_rfl) (by kernel_rfl) (by kernel_rfl) (fun _ _ _ h => h) (Or.inl ⟨by rfl, ?hy14⟩) hHeld ?rest14
  case hy14 => intro w9 hSw; go_simp; (try with_reducible rfl)
  try simp only [Act.put, List.setIfInBounds_toArray, List.set_cons_zero, List.set_cons_succ]
  refine wpAnyH_take (i := 15) (oi := ⟨some 26, Op.pick (Operand.tmp 18) (Operand.tmp 25) (Operand.const (Value.bool false)), 4, _, _, _⟩) (v := ?v15) rfl (by kernel_rfl) (by kernel_rfl) (by kernel_rfl) (fun _ _ _ h => h) (Or.inl ⟨by rfl, ?hy15⟩) hHeld ?rest15
  case hy15 => intro w9 hSw; go_simp; (try with_reducible rfl)
  try simp only [Act.put, List.setIfInBounds_toArray, List.set_cons_zero, List.set_cons_succ]
  refine wpAnyH_take (i := 16) (oi := ⟨some 27, Op.move (Operand.tmp 26), 4, _, _, _⟩) (v := ?v16) rfl (by kernel_rfl) (by kernel_rfl) (by kernel_rfl) (fun _ _ _ h => h) (Or.inl ⟨by rfl, ?hy16⟩) hHeld ?rest16
  case hy16 => intro w9 hSw; go_simp; (try with_reducible rfl)
  try simp only [Act.put, List.setIfInBounds_toArray, List.set_cons_zero, List.set_cons_succ]
  refine wpAnyH_ready (rs := [17]) (by kernel_rfl) (by simp) ?_
  refine AllReadyH.cons (o := ⟨some 28, Op.call { callee := Callee.value (Operand.func 8), args := #[], argTypes := #[] }, 4, _, _, _⟩) rfl (fun K hK => ?_) AllReadyH.nil
  go_simp
  refine (W1.out _).mono ?_
  rintro e x17 ⟨rfl, hN17⟩
  go_wp2_with fail
  have hT17 : Below W.heap.size W x17 := hT.trans (hN17.mono hT.size)
  refine hK.out _ _ (hHeld.trans (hN17.mono hHeld.size)) (fun _ => held_up (S' := fun w' => Below x17.heap.size x17 w') (fun w' h' => (hHeld.trans (hN17.mono hHeld.size)).trans (h'.mono (Nat.le_trans hHeld.size hN17.size))) _ _ _ _ ?_)
  clear hK K hHeld hT
  have hT : Below W.heap.size W x17 := hT17
  have hHeld : Below x17.heap.size x17 x17 := Below.refl _ _
  clear hT17 hN17
  try simp only [Act.put, List.setIfInBounds_toArray, List.set_cons_zero, List.set_cons_succ]
  refine wpAnyH_take (i := 18) (oi := ⟨some 29, Op.pick (Operand.tmp 27) (Operand.tmp 28) (Operand.const (Value.bool false)), 4, _, _, _⟩) (v := ?v18) rfl (by kernel_rfl) (by kernel_rfl) (by kernel_rfl) (fun _ _ _ h => h) (Or.inl ⟨by rfl, ?hy18⟩) hHeld ?rest18
  case hy18 => intro w9 hSw; go_simp; (try with_reducible rfl)
  try simp only [Act.put, List.setIfInBounds_toArray, List.set_cons_zero, List.set_cons_succ]
  refine wpAnyH_take (i := 19) (oi := ⟨some 4, Op.assign (Operand.tmp 29), 4, _, _, _⟩) (v := ?v19) rfl (by kernel_rfl) (by kernel_rfl) (by kernel_rfl) (fun _ _ _ h => h) (Or.inl ⟨by rfl, ?hy19⟩) hHeld ?rest19
  case hy19 => intro w9 hSw; go_simp; (try with_reducible rfl)
  try simp only [Act.put, List.setIfInBounds_toArray, List.set_cons_zero, List.set_cons_succ]
  refine wpAnyH_done (by kernel_rfl) ?_ _
  refine NoPanic.normal ?_
  go_wp2
  go_ret
  exact ⟨rfl, HW.out.trans (hT.mono HW.out.size)⟩
theorem orderTells_walk (x y : Pt) (w : World) (hX : IsP w x) (hY : IsP w y) (sx : x.size ≤ 1048576) (sy : y.size ≤ 1048576) : Calls Try.prog 3 #[x.val, y.val] w fun e w' => e = .returned (.bool true) ∧ Below w.heap.size w w' := by
  cases hl : decide (sizes (twoP x y) 2 ≤ 600) with
  | false => exact orderTells_no x y w hX hY sx sy hl
  | true => exact orderTells_yes x y w hX hY sx sy hl
end Go.Proofs.Ytmbinllefkifiaa
