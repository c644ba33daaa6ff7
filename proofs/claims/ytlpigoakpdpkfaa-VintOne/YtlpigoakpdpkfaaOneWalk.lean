/-
  The walk of the law VintOne, at every slice of bytes and every place.
-/
import Derived.Test.YtlpigoakpdpkfaaConv
import Derived.Test.YtlpigoakpdpkfaaHeld
namespace Go.Proofs.Ytlpigoakpdpkfaa
open Go.RowKit

set_option maxHeartbeats 400000 in
theorem one_err (a : Option Addr) (len cap : Nat) (zs : List Int) (p : Int) (w : World) (h : IsBytes w a len cap zs) (he : (getZ zs p).2.2 ≠ 0) :
    Calls Try.prog 6 #[.slice a len cap, .int .i64 p] w fun e w' => e = .returned (.bool true) ∧ Below w.heap.size w w' := by
  have c := get_any a len cap zs p w h
  have d := getZ_bd zs p h.2.2.2.2.1
  have hl := h.1
  have hcap := h.2.1
  have hmax := h.2.2.1
  unfold maxLen at hmax
  generalize getZ zs p = g at c d he
  obtain ⟨n, q, e⟩ := g
  dsimp only at c d he
  obtain ⟨_, _, d2, d3, _, _, dn⟩ := d
  obtain rfl := dn he
  have he' : (e != 0) = true := by simpa using he
  have hq : q ≤ (len : Int) := by omega
  have C : Hid (Calls Try.prog 19 _ _ _) := c
  clear c dn h he hl
  go_enter Try.func6, Try.ntmps6
  go_wp2_with (first | (go_at_call 19; refine C.out.mono ?_; rintro e w1 ⟨rfl, hw1⟩; replace hw1 := hw1.symm; subst hw1) | (go_at_call 18; refine (awake_any _).mono ?_; rintro e w1 ⟨rfl, hw1⟩; replace hw1 := hw1.symm; subst hw1))
  go_ret
  exact ⟨rfl, Below.refl _ _⟩

set_option maxHeartbeats 2000000 in
theorem one_ok (a : Option Addr) (len cap : Nat) (zs : List Int) (p : Int) (w : World) (h : IsBytes w a len cap zs) (he : (getZ zs p).2.2 = 0) :
    Calls Try.prog 6 #[.slice a len cap, .int .i64 p] w fun e w' => e = .returned (.bool true) ∧ Below w.heap.size w w' := by
  have hr := h.2.2.2.2.1
  have hl := h.1
  have hcap := h.2.1
  have hmax := h.2.2.1
  unfold maxLen at hmax
  have c := get_any a len cap zs p w h
  have d := getZ_bd zs p hr
  have ho : ¬ (p < 0 ∨ (zs.length : Int) < p) := by
    intro ho
    simp [getZ, if_pos ho] at he
  obtain ⟨q, rfl⟩ := Int.eq_ofNat_of_zero_le (a := p) (by omega)
  have eg : getZ zs (q : Int) = ((dec 0 0 (zs.drop q)).1, (q : Int) + ((dec 0 0 (zs.drop q)).2.1 : Int), ((dec 0 0 (zs.drop q)).2.2 : Int)) := by
    unfold getZ; rw [if_neg ho, Int.toNat_natCast]
  rw [eg] at c d he
  dsimp only at c d he
  obtain ⟨m, e1, e2, e3, _⟩ := enc_dec (zs.drop q) 0 0 (by omega) (fun c hc => mem_bd hr c (List.mem_of_mem_drop hc)) (by omega)
  rw [he] at c
  obtain ⟨d0, d1, _, d3, _⟩ := d
  clear eg he ho
  generalize (dec 0 0 (zs.drop q)).1 = n at c e1 d0 d1
  generalize (dec 0 0 (zs.drop q)).2.1 = k at c e2 e3 d3
  simp at e1
  subst e1
  simp only [Nat.sub_zero] at e3
  obtain ⟨P, hP⟩ : ∃ P, q + k = P := ⟨_, rfl⟩
  have hPi : (q : Int) + (k : Int) = (P : Int) := by omega
  rw [hPi] at c d3
  obtain rfl : k = P - q := by omega
  have hqP : q < P := by omega
  clear hPi hP
  obtain ⟨b, off, rfl, hcell⟩ := h.2.2.2.2.2 (by omega)
  have hcv : ∀ w', Below w.heap.size w w' → (convert 22 9 (.slice (some ⟨b, off + q, none⟩) (P - q) (cap - q))).run Try.prog w' = .ok (.string (strOf (enc 10 m))) w' := by
    intro w' hB
    have hk : (enc 10 m).length = P - q := by rw [← e3, List.length_take, List.length_drop]; omega
    refine conv_some w' _ _ _ _ (by omega) ?_
    intro j v hj
    have hjk : j < P - q := by
      have := (List.getElem?_eq_some_iff.1 hj).1
      rw [cellsOf_length] at this
      omega
    have hcj := hcell (q + j) (by omega)
    rw [addr_add, Nat.add_assoc, hB.cell (p := ⟨b, off + (q + j), none⟩) (World.block_lt_of_cell? w _ hcj), hcj]
    rw [← e3] at hj
    simp [cellsOf, hjk] at hj
    obtain ⟨u, hu, rfl⟩ := hj
    simp [hu]
  have cp : ∀ w1 : World, Calls Try.prog 8 #[.slice none 0 0, .int .u64 (m : Int)] w1 fun e w' =>
      ∃ v, e = .returned v ∧ (∀ w'', Below w'.heap.size w' w'' → (convert 22 9 v).run Try.prog w'' = .ok (.string (strOf (enc 10 m))) w'') ∧ Below w1.heap.size w1 w' := by
    intro w1
    refine (put_any none 0 0 [] m w1 ⟨rfl, Nat.le_refl _, Nat.zero_le _, fun _ => rfl, fun j => by simp, fun h => by omega⟩ (by omega) (by omega)).mono ?_
    rintro e w' ⟨rfl, hown, hB⟩
    exact ⟨_, rfl, fun w'' hB'' => conv_own (own_below hown hB''), hB⟩
  have C : Hid (Calls Try.prog 19 _ _ _) := c
  have CP : Hid (∀ w1 : World, Calls Try.prog 8 _ w1 _) := cp
  have g1 : (q : Int) < (P : Int) := by omega
  have g1' : (q : Int) ≤ (P : Int) := by omega
  have g2 : (P : Int) ≤ (len : Int) := by omega
  have g3 : (0 : Int) ≤ (q : Int) := by omega
  have g3' : (0 : Int) ≤ (P : Int) := by omega
  have g4 : ¬ cap = q := by omega
  have g5 : (P : Int) ≤ (cap : Int) := by omega
  clear c cp h hr hcell e3 e2
  go_enter Try.func6, Try.ntmps6
  go_wp2_with (first | (go_at_call 19; refine C.out.mono ?_; rintro e w1 ⟨rfl, hw1⟩; replace hw1 := hw1.symm; subst hw1) | (go_at_call 18; refine (awake_any _).mono ?_; rintro e w1 ⟨rfl, hw1⟩; replace hw1 := hw1.symm; subst hw1))
  refine wp_region_noPanic ?_
  refine wp_region_held_drew (S := fun w' => Below w.heap.size w w') (by kernel_rfl) ((Below.refl _ _).drew) (fun hHeld => ?_)
  refine wpAnyH_take (i := 0) (oi := ⟨some 32, Op.move (Operand.tmp 6), 3, _, _, _⟩) (v := ?v0) rfl (by kernel_rfl) (by kernel_rfl) (by kernel_rfl) (fun _ _ _ h => h) (Or.inl ⟨by rfl, ?hy0⟩) hHeld ?rest0
  case hy0 => intro w9 hSw; go_simp; (try with_reducible rfl)
  try simp only [Act.put, List.setIfInBounds_toArray, List.set_cons_zero, List.set_cons_succ]
  refine wpAnyH_take (i := 1) (oi := ⟨some 33, Op.move (Operand.tmp 1), 3, _, _, _⟩) (v := ?v1) rfl (by kernel_rfl) (by kernel_rfl) (by kernel_rfl) (fun _ _ _ h => h) (Or.inl ⟨by rfl, ?hy1⟩) hHeld ?rest1
  case hy1 => intro w9 hSw; go_simp; (try with_reducible rfl)
  try simp only [Act.put, List.setIfInBounds_toArray, List.set_cons_zero, List.set_cons_succ]
  refine wpAnyH_take (i := 2) (oi := ⟨some 34, Op.binOp BinOp.gtr 3 (Operand.tmp 32) (Operand.tmp 33) 3, 4, _, _, _⟩) (v := ?v2) rfl (by kernel_rfl) (by kernel_rfl) (by kernel_rfl) (fun _ _ _ h => h) (Or.inl ⟨by rfl, ?hy2⟩) hHeld ?rest2
  case hy2 => intro w9 hSw; go_simp; (try with_reducible rfl)
  try simp only [Act.put, List.setIfInBounds_toArray, List.set_cons_zero, List.set_cons_succ]
  refine wpAnyH_take (i := 3) (oi := ⟨some 35, Op.move (Operand.tmp 34), 4, _, _, _⟩) (v := ?v3) rfl (by kernel_rfl) (by kernel_rfl) (by kernel_rfl) (fun _ _ _ h => h) (Or.inl ⟨by rfl, ?hy3⟩) hHeld ?rest3
  case hy3 => intro w9 hSw; go_simp; (try with_reducible rfl)
  try simp only [Act.put, List.setIfInBounds_toArray, List.set_cons_zero, List.set_cons_succ]
  refine wpAnyH_take (i := 4) (oi := ⟨some 36, Op.move (Operand.tmp 6), 3, _, _, _⟩) (v := ?v4) rfl (by kernel_rfl) (by kernel_rfl) (by kernel_rfl) (fun _ _ _ h => h) (Or.inl ⟨by rfl, ?hy4⟩) hHeld ?rest4
  case hy4 => intro w9 hSw; go_simp; (try with_reducible rfl)
  try simp only [Act.put, List.setIfInBounds_toArray, List.set_cons_zero, List.set_cons_succ]
  refine wpAnyH_take (i := 5) (oi := ⟨some 37, Op.move (Operand.tmp 0), 22, _, _, _⟩) (v := ?v5) rfl (by kernel_rfl) (by kernel_rfl) (by kernel_rfl) (fun _ _ _ h => h) (Or.inl ⟨by rfl, ?hy5⟩) hHeld ?rest5
  case hy5 => intro w9 hSw; go_simp; (try with_reducible rfl)
  try simp only [Act.put, List.setIfInBounds_toArray, List.set_cons_zero, List.set_cons_succ]
  refine wpAnyH_take (i := 6) (oi := ⟨some 38, Op.call { callee := Callee.builtin Builtin.len, args := #[Operand.tmp 37], argTypes := #[22] }, 3, _, _, _⟩) (v := ?v6) rfl (by kernel_rfl) (by kernel_rfl) (by kernel_rfl) (fun _ _ _ h => h) (Or.inl ⟨by rfl, ?hy6⟩) hHeld ?rest6
  case hy6 => intro w9 hSw; go_simp; (try with_reducible rfl)
  try simp only [Act.put, List.setIfInBounds_toArray, List.set_cons_zero, List.set_cons_succ]
  refine wpAnyH_take (i := 7) (oi := ⟨some 39, Op.binOp BinOp.leq 3 (Operand.tmp 36) (Operand.tmp 38) 3, 4, _, _, _⟩) (v := ?v7) rfl (by kernel_rfl) (by kernel_rfl) (by kernel_rfl) (fun _ _ _ h => h) (Or.inl ⟨by rfl, ?hy7⟩) hHeld ?rest7
  case hy7 => intro w9 hSw; go_simp; (try with_reducible rfl)
  try simp only [Act.put, List.setIfInBounds_toArray, List.set_cons_zero, List.set_cons_succ]
  refine wpAnyH_take (i := 8) (oi := ⟨some 40, Op.pick (Operand.tmp 35) (Operand.tmp 39) (Operand.const (Value.bool false)), 4, _, _, _⟩) (v := ?v8) rfl (by kernel_rfl) (by kernel_rfl) (by kernel_rfl) (fun _ _ _ h => h) (Or.inl ⟨by rfl, ?hy8⟩) hHeld ?rest8
  case hy8 => intro w9 hSw; go_simp; (try with_reducible rfl)
  try simp only [Act.put, List.setIfInBounds_toArray, List.set_cons_zero, List.set_cons_succ]
  refine wpAnyH_take (i := 9) (oi := ⟨some 41, Op.move (Operand.tmp 40), 4, _, _, _⟩) (v := ?v9) rfl (by kernel_rfl) (by kernel_rfl) (by kernel_rfl) (fun _ _ _ h => h) (Or.inl ⟨by rfl, ?hy9⟩) hHeld ?rest9
  case hy9 => intro w9 hSw; go_simp; (try with_reducible rfl)
  try simp only [Act.put, List.setIfInBounds_toArray, List.set_cons_zero, List.set_cons_succ]
  refine wpAnyH_take (i := 10) (oi := ⟨some 42, Op.move (Operand.tmp 0), 22, _, _, _⟩) (v := ?v10) rfl (by kernel_rfl) (by kernel_rfl) (by kernel_rfl) (fun _ _ _ h => h) (Or.inl ⟨by rfl, ?hy10⟩) hHeld ?rest10
  case hy10 => intro w9 hSw; go_simp; (try with_reducible rfl)
  try simp only [Act.put, List.setIfInBounds_toArray, List.set_cons_zero, List.set_cons_succ]
  refine wpAnyH_take (i := 11) (oi := ⟨some 43, Op.move (Operand.tmp 1), 3, _, _, _⟩) (v := ?v11) rfl (by kernel_rfl) (by kernel_rfl) (by kernel_rfl) (fun _ _ _ h => h) (Or.inl ⟨by rfl, ?hy11⟩) hHeld ?rest11
  case hy11 => intro w9 hSw; go_simp; (try with_reducible rfl)
  try simp only [Act.put, List.setIfInBounds_toArray, List.set_cons_zero, List.set_cons_succ]
  refine wpAnyH_take (i := 12) (oi := ⟨some 44, Op.move (Operand.tmp 6), 3, _, _, _⟩) (v := ?v12) rfl (by kernel_rfl) (by kernel_rfl) (by kernel_rfl) (fun _ _ _ h => h) (Or.inl ⟨by rfl, ?hy12⟩) hHeld ?rest12
  case hy12 => intro w9 hSw; go_simp; (try with_reducible rfl)
  try simp only [Act.put, List.setIfInBounds_toArray, List.set_cons_zero, List.set_cons_succ]
  refine wpAnyH_take (i := 15) (oi := ⟨some 47, Op.move (Operand.tmp 5), 23, _, _, _⟩) (v := ?v15) rfl (by kernel_rfl) (by kernel_rfl) (by kernel_rfl) (fun _ _ _ h => h) (Or.inl ⟨by rfl, ?hy15⟩) hHeld ?rest15
  case hy15 => intro w9 hSw; go_simp; (try with_reducible rfl)
  try simp only [Act.put, List.setIfInBounds_toArray, List.set_cons_zero, List.set_cons_succ]
  refine wpAnyH_take (i := 13) (oi := ⟨some 45, Op.slice 22 (Operand.tmp 42) (some (Operand.tmp 43)) (some (Operand.tmp 44)) none, 22, _, _, _⟩) (v := ?v13) rfl (by kernel_rfl) (by kernel_rfl) (by kernel_rfl) (fun _ _ _ h => h) (Or.inl ⟨by rfl, ?hy13⟩) hHeld ?rest13
  case hy13 => intro w9 hSw; go_simp; (try with_reducible rfl)
  try simp only [Act.put, List.setIfInBounds_toArray, List.set_cons_zero, List.set_cons_succ]
  refine wpAnyH_take (i := 14) (oi := ⟨some 46, Op.convert 22 9 (Operand.tmp 45), 9, _, _, _⟩) (v := ?v14) rfl (by kernel_rfl) (by kernel_rfl) (by kernel_rfl) (fun _ _ _ h => h) (Or.inl ⟨by rfl, ?hy14⟩) hHeld ?rest14
  case hy14 => intro w9 hSw; go_simp; (try with_reducible rfl)
  try simp only [Act.put, List.setIfInBounds_toArray, List.set_cons_zero, List.set_cons_succ]
  refine wpAnyH_ready (rs := [16]) (by kernel_rfl) (by simp) ?_
  refine AllReadyH.cons (o := ⟨some 48, Op.call { callee := Callee.value (Operand.func 8), args := #[Operand.const (Value.slice none 0 0), Operand.tmp 47], argTypes := #[22, 23] }, 22, _, _, _⟩) rfl (fun K hK => ?_) AllReadyH.nil
  go_simp
  refine (CP.out _).mono ?_
  rintro e w2 ⟨v, rfl, hcv2, hB2⟩
  go_wp2_with fail
  refine hK.out _ _ (hHeld.trans hB2) (fun _ => held_up (S' := fun w' => Below w2.heap.size w2 w') (fun w' h' => (hHeld.trans hB2).trans (h'.mono (Nat.le_trans hHeld.size hB2.size))) _ _ _ _ ?_)
  clear hK K
  have hB3 : Below w.heap.size w w2 := hHeld.trans hB2
  clear hHeld
  have hHeld : Below w2.heap.size w2 w2 := Below.refl _ _
  try simp only [Act.put, List.setIfInBounds_toArray, List.set_cons_zero, List.set_cons_succ]
  refine wpAnyH_take (i := 17) (oi := ⟨some 49, Op.convert 22 9 (Operand.tmp 48), 9, _, _, _⟩) (v := ?v17) rfl (by kernel_rfl) (by kernel_rfl) (by kernel_rfl) (fun _ _ _ h => h) (Or.inl ⟨by rfl, ?hy17⟩) hHeld ?rest17
  case hy17 => intro w9 hSw; go_simp; (try with_reducible rfl)
  try simp only [Act.put, List.setIfInBounds_toArray, List.set_cons_zero, List.set_cons_succ]
  refine wpAnyH_take (i := 18) (oi := ⟨some 50, Op.binOp BinOp.eql 9 (Operand.tmp 46) (Operand.tmp 49) 9, 4, _, _, _⟩) (v := ?v18) rfl (by kernel_rfl) (by kernel_rfl) (by kernel_rfl) (fun _ _ _ h => h) (Or.inl ⟨by rfl, ?hy18⟩) hHeld ?rest18
  case hy18 => intro w9 hSw; go_simp; (try with_reducible rfl)
  try simp only [Act.put, List.setIfInBounds_toArray, List.set_cons_zero, List.set_cons_succ]
  refine wpAnyH_take (i := 19) (oi := ⟨some 51, Op.pick (Operand.tmp 41) (Operand.tmp 50) (Operand.const (Value.bool false)), 4, _, _, _⟩) (v := ?v19) rfl (by kernel_rfl) (by kernel_rfl) (by kernel_rfl) (fun _ _ _ h => h) (Or.inl ⟨by rfl, ?hy19⟩) hHeld ?rest19
  case hy19 => intro w9 hSw; go_simp; (try with_reducible rfl)
  try simp only [Act.put, List.setIfInBounds_toArray, List.set_cons_zero, List.set_cons_succ]
  refine wpAnyH_take (i := 20) (oi := ⟨some 52, Op.move (Operand.tmp 51), 4, _, _, _⟩) (v := ?v20) rfl (by kernel_rfl) (by kernel_rfl) (by kernel_rfl) (fun _ _ _ h => h) (Or.inl ⟨by rfl, ?hy20⟩) hHeld ?rest20
  case hy20 => intro w9 hSw; go_simp; (try with_reducible rfl)
  try simp only [Act.put, List.setIfInBounds_toArray, List.set_cons_zero, List.set_cons_succ]
  refine wpAnyH_ready (rs := [21]) (by kernel_rfl) (by simp) ?_
  refine AllReadyH.cons (o := ⟨some 53, Op.call { callee := Callee.value (Operand.func 18), args := #[], argTypes := #[] }, 4, _, _, _⟩) rfl (fun K hK => ?_) AllReadyH.nil
  go_simp
  refine (awake_any _).mono ?_
  rintro e w3 ⟨rfl, hw3⟩
  replace hw3 := hw3.symm
  subst hw3
  go_wp2_with fail
  refine hK.out _ _ hHeld (fun _ => ?_)
  clear hK K
  try simp only [Act.put, List.setIfInBounds_toArray, List.set_cons_zero, List.set_cons_succ]
  refine wpAnyH_take (i := 22) (oi := ⟨some 54, Op.pick (Operand.tmp 52) (Operand.tmp 53) (Operand.const (Value.bool false)), 4, _, _, _⟩) (v := ?v22) rfl (by kernel_rfl) (by kernel_rfl) (by kernel_rfl) (fun _ _ _ h => h) (Or.inl ⟨by rfl, ?hy22⟩) hHeld ?rest22
  case hy22 => intro w9 hSw; go_simp; (try with_reducible rfl)
  try simp only [Act.put, List.setIfInBounds_toArray, List.set_cons_zero, List.set_cons_succ]
  refine wpAnyH_take (i := 23) (oi := ⟨some 4, Op.assign (Operand.tmp 54), 4, _, _, _⟩) (v := ?v23) rfl (by kernel_rfl) (by kernel_rfl) (by kernel_rfl) (fun _ _ _ h => h) (Or.inl ⟨by rfl, ?hy23⟩) hHeld ?rest23
  case hy23 => intro w9 hSw; go_simp; (try with_reducible rfl)
  try simp only [Act.put, List.setIfInBounds_toArray, List.set_cons_zero, List.set_cons_succ]
  refine wpAnyH_done (by kernel_rfl) ?_ _
  refine NoPanic.normal ?_
  go_wp2
  go_ret
  exact ⟨rfl, hB3⟩
end Go.Proofs.Ytlpigoakpdpkfaa
