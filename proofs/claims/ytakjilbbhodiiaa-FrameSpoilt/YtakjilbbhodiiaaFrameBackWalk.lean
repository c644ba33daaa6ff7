/-
  The walk of the law FrameBack: frames one behind the other are opened one by one.
-/
import Derived.Test.YtakjilbbhodiiaaAll
import Derived.Test.YtakjilbbhodiiaaArgs
namespace Go.Proofs.Ytakjilbbhodiiaa
open Go.RowKit

/-- A slice of slices of bytes that came in, by index. -/
def Rws (w : World) (a : Option Addr) (len : Nat) (A : Nat → Option Addr) (L C : Nat → Nat) (Z : Nat → List Int) : Prop :=
  0 < len → ∃ b off, a = some ⟨b, off, none⟩ ∧ ∀ j, j < len → w.cell? ⟨b, off + j, none⟩ = some (.slice (A j) (L j) (C j)) ∧ IsBytes w (A j) (L j) (C j) (Z j)

/-- What the shell tells of it. -/
theorem rws_of {w : World} {a : Option Addr} {len cap : Nat} {A : Nat → Option Addr} {L C : Nat → Nat} {Z : Nat → List Int} (h : (a = none ∧ len = 0 ∧ cap = 0) ∨ ∃ x, a = some x ∧ len ≤ cap ∧ cap ≤ maxLen ∧ ∀ r, r < cap → w.cell? (x.add r) = some (.slice (A r) (L r) (C r)) ∧ L r ≤ C r ∧ C r ≤ maxLen ∧ (Z r).length = C r ∧ (∀ n ∈ Z r, (Lit.int .u8 n).wf = true) ∧ (A r = none → C r = 0) ∧
    ∀ a', A r = some a' → ∀ c, c < C r → w.cell? (a'.add c) = some (.int .u8 ((Z r).getD c 0))) : ∃ Y, Rws w a len A L C Y := by
  rcases h with ⟨rfl, rfl, rfl⟩ | ⟨x, rfl, hl, hm, hrow⟩
  · exact ⟨Z, fun h => by omega⟩
  · have each : ∀ r, ∃ ys, r < len → IsBytes w (A r) (L r) (C r) ys := by
      intro r
      by_cases hr : r < len
      · obtain ⟨e1, e2, e3, e4, e5, e6, e7⟩ := hrow r (by omega)
        cases hA : A r with
        | none =>
          have hC := e6 hA
          have hL : L r = 0 := by omega
          rw [hC, hL]
          exact ⟨[], fun _ => isBytes_nil w⟩
        | some x' =>
          obtain ⟨ys, hy⟩ := isBytes_of (w := w) (a := some x') (len := L r) (cap := C r) (zs := Z r) (.inr ⟨x', rfl, e2, e3, e4, fun i hi => e7 x' hA i (by omega), e5⟩)
          exact ⟨ys, fun _ => hy⟩
      · exact ⟨[], fun h => absurd h hr⟩
    refine ⟨fun r => Classical.choose (each r), fun h0 => ?_⟩
    obtain ⟨b, off, spot⟩ := x
    have hspot : spot = none := by simpa [Addr.add] using World.cell?_spot (hrow 0 (by omega)).1
    subst hspot
    refine ⟨b, off, rfl, fun j hj => ⟨?_, Classical.choose_spec (each j) hj⟩⟩
    have e : (⟨b, off, none⟩ : Addr).add j = ⟨b, off + j, none⟩ := by unfold Addr.add; split <;> simp_all
    rw [← e]
    exact (hrow j (by omega)).1
/-- What was wrapped is opened. -/
theorem openZ_wrap (pre x post : List Int) (hx : x.length ≤ 65536) : openZ (pre ++ (wrapL x ++ post)) (pre.length : Int) = (x, ((pre.length + (wrapL x).length : Nat) : Int), 0) := by
  have hw : (wrapL x).length = sz 10 x.length + x.length + 4 := by
    unfold wrapL
    rw [List.length_append, List.length_append, enc_length]
    rfl
  have e : pre ++ (wrapL x ++ post) = pre ++ (enc 10 x.length ++ (x ++ (le4 (moreN 0 (enc 10 x.length ++ x)) ++ post))) := by simp [wrapL]
  have g := getZ_put pre x.length (x ++ (le4 (moreN 0 (enc 10 x.length ++ x)) ++ post)) (by omega)
  unfold openZ
  rw [e, g]
  have hd1 : (pre ++ (enc 10 x.length ++ (x ++ (le4 (moreN 0 (enc 10 x.length ++ x)) ++ post)))).drop pre.length = enc 10 x.length ++ (x ++ (le4 (moreN 0 (enc 10 x.length ++ x)) ++ post)) := List.drop_left ..
  have hd2 : (pre ++ (enc 10 x.length ++ (x ++ (le4 (moreN 0 (enc 10 x.length ++ x)) ++ post)))).drop (pre.length + sz 10 x.length) = x ++ (le4 (moreN 0 (enc 10 x.length ++ x)) ++ post) := by
    rw [← List.drop_drop, hd1, ← enc_length 10 x.length, List.drop_left]
  have hd3 : (pre ++ (enc 10 x.length ++ (x ++ (le4 (moreN 0 (enc 10 x.length ++ x)) ++ post)))).drop (pre.length + sz 10 x.length + x.length) = le4 (moreN 0 (enc 10 x.length ++ x)) ++ post := by
    rw [← List.drop_drop, hd2, List.drop_left]
  rw [if_neg (by simp), if_neg (by simp; omega), if_neg (by simp [enc_length, le4]; omega)]
  simp only [Int.toNat_natCast]
  rw [hd1, hd2, hd3]
  have t1 : (enc 10 x.length ++ (x ++ (le4 (moreN 0 (enc 10 x.length ++ x)) ++ post))).take (pre.length + sz 10 x.length - pre.length + x.length) = enc 10 x.length ++ x := by
    rw [← List.append_assoc, List.take_left' (by rw [List.length_append, enc_length]; omega)]
  rw [t1, List.take_left' (by rfl), List.take_left, if_pos rfl]
  refine Prod.ext rfl (Prod.ext ?_ rfl)
  dsimp only
  omega
theorem catTo_more (W : Nat → List Int) (m k : Nat) (h : m ≤ k) : ∃ r, catTo W k = catTo W m ++ r := by
  induction k with
  | zero => obtain rfl : m = 0 := by omega
            exact ⟨[], by simp⟩
  | succ k ih =>
    by_cases e : m = k + 1
    · subst e; exact ⟨[], by simp⟩
    · obtain ⟨r, hr⟩ := ih (by omega)
      exact ⟨r ++ W k, by rw [catTo, hr, List.append_assoc]⟩
theorem allFrom_wraps (Z : Nat → List Int) (k : Nat) (hZ : ∀ j, j < k → (Z j).length ≤ 65536) : ∀ (f m : Nat), m ≤ k → k - m < f →
    allFrom (catTo (fun j => wrapL (Z j)) k) f ((catTo (fun j => wrapL (Z j)) m).length : Int) ((List.range m).map Z) = ((List.range k).map Z, ((catTo (fun j => wrapL (Z j)) k).length : Int), 0)
  | 0, m, _, hf => by omega
  | f + 1, m, hm, hf => by
    rw [allFrom]
    by_cases e : m = k
    · subst e
      rw [if_neg (by omega)]
    · obtain ⟨r, hr⟩ := catTo_more (fun j => wrapL (Z j)) (m + 1) k (by omega)
      have hs : catTo (fun j => wrapL (Z j)) k = catTo (fun j => wrapL (Z j)) m ++ (wrapL (Z m) ++ r) := by rw [hr, catTo, List.append_assoc]
      have ho := openZ_wrap (catTo (fun j => wrapL (Z j)) m) (Z m) r (hZ m (by omega))
      rw [← hs] at ho
      have hlt : (catTo (fun j => wrapL (Z j)) m).length < (catTo (fun j => wrapL (Z j)) k).length := by
        rw [hs, List.length_append, List.length_append]
        have : (wrapL (Z m)).length = (enc 10 (Z m).length).length + (Z m).length + 4 := by
          unfold wrapL
          rw [List.length_append, List.length_append]
          rfl
        omega
      rw [if_pos (by omega), ho, if_neg (by simp)]
      have ih := allFrom_wraps Z k hZ f (m + 1) (by omega) (by omega)
      rw [catTo, List.length_append, List.range_succ, List.map_append] at ih
      exact ih
theorem allZ_wraps (Z : Nat → List Int) (k : Nat) (hZ : ∀ j, j < k → (Z j).length ≤ 65536) : allZ (catTo (fun j => wrapL (Z j)) k) = ((List.range k).map Z, ((catTo (fun j => wrapL (Z j)) k).length : Int), 0) := by
  have hk : ∀ m, m ≤ (catTo (fun j => wrapL (Z j)) m).length := by
    intro m
    induction m with
    | zero => exact Nat.zero_le _
    | succ m ih =>
      rw [catTo, List.length_append]
      have : (wrapL (Z m)).length = (enc 10 (Z m).length).length + (Z m).length + 4 := by
        unfold wrapL
        rw [List.length_append, List.length_append]
        rfl
      omega
  exact allFrom_wraps Z k hZ _ 0 (Nat.zero_le _) (by have := hk k; omega)
theorem wrapL_length (x : List Int) : (wrapL x).length ≤ x.length + 14 := by
  have : (wrapL x).length = (enc 10 x.length).length + x.length + 4 := by
    unfold wrapL
    rw [List.length_append, List.length_append]
    rfl
  rw [enc_length] at this
  have := sz_le 10 x.length
  omega
theorem catTo_bd (W : Nat → List Int) : ∀ k, (∀ j, j < k → ∀ c ∈ W j, 0 ≤ c ∧ c ≤ 255) → ∀ c ∈ catTo W k, 0 ≤ c ∧ c ≤ 255
  | 0, _ => by simp [catTo]
  | k + 1, h => bd_append (catTo_bd W k (fun j hj => h j (by omega))) (h k (by omega))
set_option maxRecDepth 100000 in
set_option maxHeartbeats 4000000 in
theorem back_walk (a : Option Addr) (len cap : Nat) (A : Nat → Option Addr) (L C : Nat → Nat) (Z : Nat → List Int) (w : World) (hR : Rws w a len A L C Z) :
    Calls Try.prog 5 #[.slice a len cap] w fun e w' => e = .returned (.bool true) ∧ Below w.heap.size w w' := by
  have HR : Hid (Rws w a len A L C Z) := hR
  clear hR
  obtain ⟨W, hW⟩ : ∃ W, (fun j => wrapL (Z j)) = W := ⟨_, rfl⟩
  have HW : Hid ((fun j => wrapL (Z j)) = W) := hW
  clear hW
  go_enter Try.func5, Try.ntmps5
  go_wp2
  go_loopw [3, 4] (fun v i wr => ∃ k : Nat, k ≤ 30 ∧ k ≤ len ∧ i = .int .i64 k ∧ (∀ j, j < k → (Z j).length ≤ 2000) ∧ (catTo W k).length ≤ 2014 * k ∧ Hid (wr.ownsRow w.heap.size 5 1 v (catTo W k).length (cellsOf (catTo W k))) ∧ Below w.heap.size w wr) (fun _ i _ => 30 - (intOf i).toNat)
  case atStart => exact ⟨0, by omega, by omega, rfl, by omega, by simp [catTo], World.ownsRow_nil _ _ _ _, Below.refl _ _⟩
  case round =>
    obtain ⟨k, hk30, hkl, rfl, hZ, hlen, ho, hB⟩ := hrel
    by_cases hgo : k < len ∧ k < 30
    · obtain ⟨g1, g2⟩ := hgo
      have g1' : (k : Int) < (len : Int) := by omega
      have g2' : (k : Int) < 30 := by omega
      obtain ⟨b, off, rfl, hcell⟩ := HR.out (by omega)
      have f1 := cell_later (hcell k g1).1 hB
      have i1 := (hcell k g1).2.later hB
      have hzl := i1.1
      have hbz := mem_bd i1.2.2.2.2.1
      have I1 : Hid (IsBytes wr (A k) (L k) (C k) (Z k)) := i1
      clear i1 hcell
      by_cases g3 : L k ≤ 2000
      · have g3' : (L k : Int) ≤ 2000 := by omega
        have c1 := wrap_ok _ _ _ _ _ I1.out (by omega)
        have C1 : Hid (Calls Try.prog 8 _ _ _) := c1
        clear c1
        have hwl := wrapL_length (Z k)
        go_wp2_with (first
          | (go_at_call 8; refine C1.out.mono ?_; clear C1; rintro e w1 ⟨v1, rfl, ho1, hB1⟩
             obtain ⟨a1, q1, e1, i2⟩ := isBytes_own ho1 (wrapL_bd _ hbz)
             subst e1
             have hB2 := hB.trans (hB1.mono hB.size)
             obtain ⟨v3, w3, r3, o3, gr3⟩ := append_in (own_below ho.out hB1) i2 hB2.size (by omega)
             have hB3 := hB2.grown gr3 hB2.size (fun j hj => ((own_below ho.out hB1).lt j hj).1))
          | (at_builtin; refine wpList_append_run rfl (.tmp 36) (.tmp 37) 22 rfl _ _ _ rfl rfl r3 ?_))
        go_roundw
        case rel =>
          have hcat : catTo W (k + 1) = catTo W k ++ wrapL (Z k) := by rw [catTo, ← HW.out]
          refine ⟨k + 1, by omega, by omega, by simp, fun j hj => ?_, by rw [hcat, List.length_append]; omega, ?_, hB3⟩
          · by_cases e : j = k
            · subst e; omega
            · exact hZ j (by omega)
          · rw [hcat, List.length_append]
            exact o3
        case measure => simp [intOf]; omega
      · have g3' : (2000 : Int) < (L k : Int) := by omega
        go_wp2_with (first | (go_at_call 14; refine (awake_any _).mono ?_; rintro e w8 ⟨rfl, hB8⟩))
        go_ret
        exact ⟨rfl, hB.trans (hB8.mono hB.size)⟩
    · have hall := allZ_wraps Z k (fun j hj => by have := hZ j hj; omega)
      rw [HW.out] at hall
      have hIZ : ∀ j, j < k → IsBytes w (A j) (L j) (C j) (Z j) := fun j hj => by
        obtain ⟨b, off, _, hcell⟩ := HR.out (by omega)
        exact (hcell j (by omega)).2
      have hcase : ¬ (k : Int) < (len : Int) ∨ ((k : Int) < (len : Int) ∧ ¬ (k : Int) < 30) := by omega
      rcases hcase with hx1 | ⟨hx1, hx2⟩
      ·
        have hkl' : (k : Int) ≤ (len : Int) := by omega
        obtain ⟨a3, q3, e3, i3⟩ := isBytes_own ho.out (catTo_bd W k (fun j hj => by rw [← HW.out]; exact wrapL_bd _ (mem_bd (hIZ j hj).2.2.2.2.1)))
        have C2 := all_any a3 _ q3 _ wr i3 (by omega)
        rw [hall] at C2
        dsimp only at C2
        subst e3
        clear i3 ho
        generalize (catTo W k).length = T at *
        go_wp2_with (first
          | (go_at_call 17; refine C2.mono ?_; clear C2; rintro e w1 ⟨v1, rfl, l1, hB1⟩
             obtain ⟨a1, q1, e1⟩ := l1.form
             rw [List.length_map, List.length_range] at e1
             subst e1))
        have HL : Hid (Lists w1 wr.heap.size (.slice a1 k q1) ((List.range k).map Z)) := l1
        clear l1
        have k1 := hB.trans (hB1.mono hB.size)
        go_loopw [10] (fun i wx => ∃ m : Nat, m ≤ k ∧ i = .int .i64 m ∧ Below w1.heap.size w1 wx) (fun i _ => k - (intOf i).toNat)
        case atStart => exact ⟨0, Nat.zero_le _, rfl, Below.refl _ _⟩
        case round =>
          obtain ⟨m, hm, rfl, hBm⟩ := hrel
          by_cases hml : m < k
          · have hm1 : (m : Int) < (k : Int) := by omega
            have hm2 : (m : Int) < (len : Int) := by omega
            obtain ⟨g1, q1', u1, e1, m1, n1, f1, o1⟩ := HL.out.get m (by simpa using hml)
            rw [List.length_map, List.length_range] at e1 m1
            injection e1 with e1 _ e1c
            subst e1 e1c
            obtain ⟨b, off, rfl, hcell⟩ := HR.out (by omega)
            have k2 := k1.trans (hBm.mono k1.size)
            have f2 := cell_later (hcell m (by omega)).1 k2
            have o2 := (hcell m (by omega)).2.later k2
            clear hcell
            have hget : ((List.range k).map Z)[m]?.getD [] = Z m := by simp [hml]
            rw [hget] at o1
            replace f1 := cell_later f1 hBm
            replace o1 := own_below o1 hBm
            obtain ⟨ua, uc, hu⟩ := own_slice o1
            subst hu
            go_wp2
            refine wp_region_noPanic ?_
            refine wp_region_held_drew (S := fun w' => Below wr.heap.size wr w') (by kernel_rfl) ((Below.refl _ _).drew) (fun hHeld => ?_)
            have hT : Below wr.heap.size wr wr.drew := hHeld
            refine wpAnyH_take (i := 0) (oi := ⟨some 78, Op.move (Operand.tmp 7), 37, _, _, _⟩) (v := ?v0a) rfl (by kernel_rfl) (by kernel_rfl) (by kernel_rfl) (fun _ _ _ h => h) (Or.inl ⟨by rfl, ?hy0a⟩) hHeld ?rest0a
            case hy0a => intro w9 hSw; go_simp; (try with_reducible rfl)
            try simp only [Act.put, List.setIfInBounds_toArray, List.set_cons_zero, List.set_cons_succ]
            refine wpAnyH_take (i := 1) (oi := ⟨some 79, Op.move (Operand.tmp 10), 3, _, _, _⟩) (v := ?v1a) rfl (by kernel_rfl) (by kernel_rfl) (by kernel_rfl) (fun _ _ _ h => h) (Or.inl ⟨by rfl, ?hy1a⟩) hHeld ?rest1a
            case hy1a => intro w9 hSw; go_simp; (try with_reducible rfl)
            try simp only [Act.put, List.setIfInBounds_toArray, List.set_cons_zero, List.set_cons_succ]
            refine wpAnyH_take (i := 2) (oi := ⟨some 80, Op.indexAddr 37 (Operand.tmp 78) (Operand.tmp 79), 0, _, _, _⟩) (v := ?v2a) rfl (by kernel_rfl) (by kernel_rfl) (by kernel_rfl) (fun _ _ _ h => h) (Or.inl ⟨by rfl, ?hy2a⟩) hHeld ?rest2a
            case hy2a => intro w9 hSw; have cc := cell_later f1 hSw; go_simp; (try with_reducible rfl)
            try simp only [Act.put, List.setIfInBounds_toArray, List.set_cons_zero, List.set_cons_succ]
            refine wpAnyH_take (i := 3) (oi := ⟨some 81, Op.load 22 (Operand.tmp 80), 22, _, _, _⟩) (v := ?v3a) rfl (by kernel_rfl) (by kernel_rfl) (by kernel_rfl) (fun _ _ _ h => h) (Or.inl ⟨by rfl, ?hy3a⟩) hHeld ?rest3a
            case hy3a => intro w9 hSw; have cc := cell_later f1 hSw; go_simp; (try with_reducible rfl)
            try simp only [Act.put, List.setIfInBounds_toArray, List.set_cons_zero, List.set_cons_succ]
            refine wpAnyH_take (i := 4) (oi := ⟨some 82, Op.convert 22 9 (Operand.tmp 81), 9, _, _, _⟩) (v := ?v4a) rfl (by kernel_rfl) (by kernel_rfl) (by kernel_rfl) (fun _ _ _ h => h) (Or.inl ⟨by rfl, ?hy4a⟩) hHeld ?rest4a
            case hy4a => intro w9 hSw; have cv := conv_own (own_below o1 hSw); go_simp; (try with_reducible rfl)
            try simp only [Act.put, List.setIfInBounds_toArray, List.set_cons_zero, List.set_cons_succ]
            refine wpAnyH_take (i := 5) (oi := ⟨some 83, Op.move (Operand.tmp 0), 37, _, _, _⟩) (v := ?v5a) rfl (by kernel_rfl) (by kernel_rfl) (by kernel_rfl) (fun _ _ _ h => h) (Or.inl ⟨by rfl, ?hy5a⟩) hHeld ?rest5a
            case hy5a => intro w9 hSw; go_simp; (try with_reducible rfl)
            try simp only [Act.put, List.setIfInBounds_toArray, List.set_cons_zero, List.set_cons_succ]
            refine wpAnyH_take (i := 6) (oi := ⟨some 84, Op.move (Operand.tmp 10), 3, _, _, _⟩) (v := ?v6a) rfl (by kernel_rfl) (by kernel_rfl) (by kernel_rfl) (fun _ _ _ h => h) (Or.inl ⟨by rfl, ?hy6a⟩) hHeld ?rest6a
            case hy6a => intro w9 hSw; go_simp; (try with_reducible rfl)
            try simp only [Act.put, List.setIfInBounds_toArray, List.set_cons_zero, List.set_cons_succ]
            refine wpAnyH_take (i := 7) (oi := ⟨some 85, Op.indexAddr 37 (Operand.tmp 83) (Operand.tmp 84), 0, _, _, _⟩) (v := ?v7a) rfl (by kernel_rfl) (by kernel_rfl) (by kernel_rfl) (fun _ _ _ h => h) (Or.inl ⟨by rfl, ?hy7a⟩) hHeld ?rest7a
            case hy7a => intro w9 hSw; have cc := cell_later f2 hSw; go_simp; (try with_reducible rfl)
            try simp only [Act.put, List.setIfInBounds_toArray, List.set_cons_zero, List.set_cons_succ]
            refine wpAnyH_take (i := 8) (oi := ⟨some 86, Op.load 22 (Operand.tmp 85), 22, _, _, _⟩) (v := ?v8a) rfl (by kernel_rfl) (by kernel_rfl) (by kernel_rfl) (fun _ _ _ h => h) (Or.inl ⟨by rfl, ?hy8a⟩) hHeld ?rest8a
            case hy8a => intro w9 hSw; have cc := cell_later f2 hSw; go_simp; (try with_reducible rfl)
            try simp only [Act.put, List.setIfInBounds_toArray, List.set_cons_zero, List.set_cons_succ]
            refine wpAnyH_take (i := 9) (oi := ⟨some 87, Op.convert 22 9 (Operand.tmp 86), 9, _, _, _⟩) (v := ?v9a) rfl (by kernel_rfl) (by kernel_rfl) (by kernel_rfl) (fun _ _ _ h => h) (Or.inl ⟨by rfl, ?hy9a⟩) hHeld ?rest9a
            case hy9a => intro w9 hSw; have cv := conv_in (o2.later hSw); go_simp; (try with_reducible rfl)
            try simp only [Act.put, List.setIfInBounds_toArray, List.set_cons_zero, List.set_cons_succ]
            refine wpAnyH_take (i := 10) (oi := ⟨some 88, Op.binOp BinOp.neq 9 (Operand.tmp 82) (Operand.tmp 87) 9, 4, _, _, _⟩) (v := ?v10a) rfl (by kernel_rfl) (by kernel_rfl) (by kernel_rfl) (fun _ _ _ h => h) (Or.inl ⟨by rfl, ?hy10a⟩) hHeld ?rest10a
            case hy10a => intro w9 hSw; go_simp; (try with_reducible rfl)
            try simp only [Act.put, List.setIfInBounds_toArray, List.set_cons_zero, List.set_cons_succ]
            refine wpAnyH_done (by kernel_rfl) ?_ _
            refine NoPanic.normal ?_
            go_wp2
            go_roundw
            case rel => exact ⟨m + 1, by omega, by go_num, hBm.trans (hT.mono hBm.size)⟩
            case measure => simp [intOf]; omega
          · obtain rfl : m = k := by omega
            go_wp2_with (first | (go_at_call 14; refine (awake_any _).mono ?_; rintro e w8 ⟨rfl, hB8⟩))
            go_ret
            have k2 := k1.trans (hBm.mono k1.size)
            exact ⟨rfl, k2.trans (hB8.mono k2.size)⟩
      ·
        have hkl' : (k : Int) ≤ (len : Int) := by omega
        obtain ⟨a3, q3, e3, i3⟩ := isBytes_own ho.out (catTo_bd W k (fun j hj => by rw [← HW.out]; exact wrapL_bd _ (mem_bd (hIZ j hj).2.2.2.2.1)))
        have C2 := all_any a3 _ q3 _ wr i3 (by omega)
        rw [hall] at C2
        dsimp only at C2
        subst e3
        clear i3 ho
        generalize (catTo W k).length = T at *
        go_wp2_with (first
          | (go_at_call 17; refine C2.mono ?_; clear C2; rintro e w1 ⟨v1, rfl, l1, hB1⟩
             obtain ⟨a1, q1, e1⟩ := l1.form
             rw [List.length_map, List.length_range] at e1
             subst e1))
        have HL : Hid (Lists w1 wr.heap.size (.slice a1 k q1) ((List.range k).map Z)) := l1
        clear l1
        have k1 := hB.trans (hB1.mono hB.size)
        go_loopw [10] (fun i wx => ∃ m : Nat, m ≤ k ∧ i = .int .i64 m ∧ Below w1.heap.size w1 wx) (fun i _ => k - (intOf i).toNat)
        case atStart => exact ⟨0, Nat.zero_le _, rfl, Below.refl _ _⟩
        case round =>
          obtain ⟨m, hm, rfl, hBm⟩ := hrel
          by_cases hml : m < k
          · have hm1 : (m : Int) < (k : Int) := by omega
            have hm2 : (m : Int) < (len : Int) := by omega
            obtain ⟨g1, q1', u1, e1, m1, n1, f1, o1⟩ := HL.out.get m (by simpa using hml)
            rw [List.length_map, List.length_range] at e1 m1
            injection e1 with e1 _ e1c
            subst e1 e1c
            obtain ⟨b, off, rfl, hcell⟩ := HR.out (by omega)
            have k2 := k1.trans (hBm.mono k1.size)
            have f2 := cell_later (hcell m (by omega)).1 k2
            have o2 := (hcell m (by omega)).2.later k2
            clear hcell
            have hget : ((List.range k).map Z)[m]?.getD [] = Z m := by simp [hml]
            rw [hget] at o1
            replace f1 := cell_later f1 hBm
            replace o1 := own_below o1 hBm
            obtain ⟨ua, uc, hu⟩ := own_slice o1
            subst hu
            go_wp2
            refine wp_region_noPanic ?_
            refine wp_region_held_drew (S := fun w' => Below wr.heap.size wr w') (by kernel_rfl) ((Below.refl _ _).drew) (fun hHeld => ?_)
            have hT : Below wr.heap.size wr wr.drew := hHeld
            refine wpAnyH_take (i := 0) (oi := ⟨some 78, Op.move (Operand.tmp 7), 37, _, _, _⟩) (v := ?v0b) rfl (by kernel_rfl) (by kernel_rfl) (by kernel_rfl) (fun _ _ _ h => h) (Or.inl ⟨by rfl, ?hy0b⟩) hHeld ?rest0b
            case hy0b => intro w9 hSw; go_simp; (try with_reducible rfl)
            try simp only [Act.put, List.setIfInBounds_toArray, List.set_cons_zero, List.set_cons_succ]
            refine wpAnyH_take (i := 1) (oi := ⟨some 79, Op.move (Operand.tmp 10), 3, _, _, _⟩) (v := ?v1b) rfl (by kernel_rfl) (by kernel_rfl) (by kernel_rfl) (fun _ _ _ h => h) (Or.inl ⟨by rfl, ?hy1b⟩) hHeld ?rest1b
            case hy1b => intro w9 hSw; go_simp; (try with_reducible rfl)
            try simp only [Act.put, List.setIfInBounds_toArray, List.set_cons_zero, List.set_cons_succ]
            refine wpAnyH_take (i := 2) (oi := ⟨some 80, Op.indexAddr 37 (Operand.tmp 78) (Operand.tmp 79), 0, _, _, _⟩) (v := ?v2b) rfl (by kernel_rfl) (by kernel_rfl) (by kernel_rfl) (fun _ _ _ h => h) (Or.inl ⟨by rfl, ?hy2b⟩) hHeld ?rest2b
            case hy2b => intro w9 hSw; have cc := cell_later f1 hSw; go_simp; (try with_reducible rfl)
            try simp only [Act.put, List.setIfInBounds_toArray, List.set_cons_zero, List.set_cons_succ]
            refine wpAnyH_take (i := 3) (oi := ⟨some 81, Op.load 22 (Operand.tmp 80), 22, _, _, _⟩) (v := ?v3b) rfl (by kernel_rfl) (by kernel_rfl) (by kernel_rfl) (fun _ _ _ h => h) (Or.inl ⟨by rfl, ?hy3b⟩) hHeld ?rest3b
            case hy3b => intro w9 hSw; have cc := cell_later f1 hSw; go_simp; (try with_reducible rfl)
            try simp only [Act.put, List.setIfInBounds_toArray, List.set_cons_zero, List.set_cons_succ]
            refine wpAnyH_take (i := 4) (oi := ⟨some 82, Op.convert 22 9 (Operand.tmp 81), 9, _, _, _⟩) (v := ?v4b) rfl (by kernel_rfl) (by kernel_rfl) (by kernel_rfl) (fun _ _ _ h => h) (Or.inl ⟨by rfl, ?hy4b⟩) hHeld ?rest4b
            case hy4b => intro w9 hSw; have cv := conv_own (own_below o1 hSw); go_simp; (try with_reducible rfl)
            try simp only [Act.put, List.setIfInBounds_toArray, List.set_cons_zero, List.set_cons_succ]
            refine wpAnyH_take (i := 5) (oi := ⟨some 83, Op.move (Operand.tmp 0), 37, _, _, _⟩) (v := ?v5b) rfl (by kernel_rfl) (by kernel_rfl) (by kernel_rfl) (fun _ _ _ h => h) (Or.inl ⟨by rfl, ?hy5b⟩) hHeld ?rest5b
            case hy5b => intro w9 hSw; go_simp; (try with_reducible rfl)
            try simp only [Act.put, List.setIfInBounds_toArray, List.set_cons_zero, List.set_cons_succ]
            refine wpAnyH_take (i := 6) (oi := ⟨some 84, Op.move (Operand.tmp 10), 3, _, _, _⟩) (v := ?v6b) rfl (by kernel_rfl) (by kernel_rfl) (by kernel_rfl) (fun _ _ _ h => h) (Or.inl ⟨by rfl, ?hy6b⟩) hHeld ?rest6b
            case hy6b => intro w9 hSw; go_simp; (try with_reducible rfl)
            try simp only [Act.put, List.setIfInBounds_toArray, List.set_cons_zero, List.set_cons_succ]
            refine wpAnyH_take (i := 7) (oi := ⟨some 85, Op.indexAddr 37 (Operand.tmp 83) (Operand.tmp 84), 0, _, _, _⟩) (v := ?v7b) rfl (by kernel_rfl) (by kernel_rfl) (by kernel_rfl) (fun _ _ _ h => h) (Or.inl ⟨by rfl, ?hy7b⟩) hHeld ?rest7b
            case hy7b => intro w9 hSw; have cc := cell_later f2 hSw; go_simp; (try with_reducible rfl)
            try simp only [Act.put, List.setIfInBounds_toArray, List.set_cons_zero, List.set_cons_succ]
            refine wpAnyH_take (i := 8) (oi := ⟨some 86, Op.load 22 (Operand.tmp 85), 22, _, _, _⟩) (v := ?v8b) rfl (by kernel_rfl) (by kernel_rfl) (by kernel_rfl) (fun _ _ _ h => h) (Or.inl ⟨by rfl, ?hy8b⟩) hHeld ?rest8b
            case hy8b => intro w9 hSw; have cc := cell_later f2 hSw; go_simp; (try with_reducible rfl)
            try simp only [Act.put, List.setIfInBounds_toArray, List.set_cons_zero, List.set_cons_succ]
            refine wpAnyH_take (i := 9) (oi := ⟨some 87, Op.convert 22 9 (Operand.tmp 86), 9, _, _, _⟩) (v := ?v9b) rfl (by kernel_rfl) (by kernel_rfl) (by kernel_rfl) (fun _ _ _ h => h) (Or.inl ⟨by rfl, ?hy9b⟩) hHeld ?rest9b
            case hy9b => intro w9 hSw; have cv := conv_in (o2.later hSw); go_simp; (try with_reducible rfl)
            try simp only [Act.put, List.setIfInBounds_toArray, List.set_cons_zero, List.set_cons_succ]
            refine wpAnyH_take (i := 10) (oi := ⟨some 88, Op.binOp BinOp.neq 9 (Operand.tmp 82) (Operand.tmp 87) 9, 4, _, _, _⟩) (v := ?v10b) rfl (by kernel_rfl) (by kernel_rfl) (by kernel_rfl) (fun _ _ _ h => h) (Or.inl ⟨by rfl, ?hy10b⟩) hHeld ?rest10b
            case hy10b => intro w9 hSw; go_simp; (try with_reducible rfl)
            try simp only [Act.put, List.setIfInBounds_toArray, List.set_cons_zero, List.set_cons_succ]
            refine wpAnyH_done (by kernel_rfl) ?_ _
            refine NoPanic.normal ?_
            go_wp2
            go_roundw
            case rel => exact ⟨m + 1, by omega, by go_num, hBm.trans (hT.mono hBm.size)⟩
            case measure => simp [intOf]; omega
          · obtain rfl : m = k := by omega
            go_wp2_with (first | (go_at_call 14; refine (awake_any _).mono ?_; rintro e w8 ⟨rfl, hB8⟩))
            go_ret
            have k2 := k1.trans (hBm.mono k1.size)
            exact ⟨rfl, k2.trans (hB8.mono k2.size)⟩
end Go.Proofs.Ytakjilbbhodiiaa
