/-
  What a field has to be (schema.right): a name and a kind that null fits.
-/
import Derived.Test.YtelabjipclfpnaaSchBase
import Derived.Test.YtelabjipclfpnaaHeld
import Derived.Deep.RegionHeld3
namespace Go.Proofs.Ytelabjipclfpnaa
open Go.RowKit

theorem null_below (w : World) : Calls Try.prog 22 #[] w fun e w' => e = .returned (valV 0 0 ⟨#[]⟩) ∧ Below w.heap.size w w' :=
  (null_any w).mono fun e w' h => ⟨h.1, by rw [h.2]; exact (Below.refl _ _).alloc (Nat.le_refl _) _⟩
set_option maxHeartbeats 1000000 in
theorem fits_null (k : Int) (w : World) : Calls Try.prog 40 #[valV 0 0 ⟨#[]⟩, .int .i64 k] w fun e w' => e = .returned (.bool (kindB k)) ∧ Below w.heap.size w w' := by
  have hB0 : Below w.heap.size w (w.alloc (valO 0 0 ⟨#[]⟩)) := (Below.refl _ _).alloc (Nat.le_refl _) _
  have C : Hid (Calls Try.prog 48 _ _ _) := right_null0 (w.alloc (valO 0 0 ⟨#[]⟩))
  obtain ⟨f, hf⟩ : ∃ f, f = kindB k := ⟨_, rfl⟩
  rw [← hf]
  have HF : Hid (f = kindB k) := hf
  have HX : Hid ((w.alloc (valO 0 0 ⟨#[]⟩)).cell? ⟨w.heap.size, 0, none⟩ = some (.int .i64 0)) := by
    show (w.alloc (valO 0 0 ⟨#[]⟩)).cell? ⟨w.heap.size, 0, none⟩ = some (.int .i64 0)
    simp
  clear hf
  by_cases h1 : 1 ≤ k
  · by_cases h3 : k ≤ 3
    · go_enter Try.func40, Try.ntmps40
      go_wp2_with (first | (go_at_call 48; refine C.out.mono ?_; rintro e w1 ⟨rfl, hB1⟩; have f0 := cell_later HX.out hB1))
      go_ret
      exact ⟨ret_bool (by rw [HF.out]; simp [kindB, h1, h3]), bt hB0 hB1⟩
    · go_enter Try.func40, Try.ntmps40
      go_wp2_with (first | (go_at_call 48; refine C.out.mono ?_; rintro e w1 ⟨rfl, hB1⟩; have f0 := cell_later HX.out hB1))
      go_ret
      exact ⟨ret_bool (by rw [HF.out]; simp [kindB, h3]), bt hB0 hB1⟩
  · go_enter Try.func40, Try.ntmps40
    go_wp2_with (first | (go_at_call 48; refine C.out.mono ?_; rintro e w1 ⟨rfl, hB1⟩; have f0 := cell_later HX.out hB1))
    go_ret
    exact ⟨ret_bool (by rw [HF.out, kindB, decide_eq_false (by omega)]; rfl), bt hB0 hB1⟩

set_option maxRecDepth 100000 in
set_option maxHeartbeats 4000000 in
theorem rightF_yes (s : ByteArray) (k : Int) (w : World) (hs : nameB s = true) : Calls Try.prog 38 #[fldV s k] w fun e w' => e = .returned (.bool (kindB k)) ∧ Below w.heap.size w w' := by
  have C2 : Hid (∀ w, Calls Try.prog 36 #[.string s] w fun e w' => e = .returned (.bool true) ∧ Below w.heap.size w w') := fun w => by have := name_any s w; rwa [hs] at this
  have C7 : Hid (∀ w, Calls Try.prog 40 #[valV 0 0 ⟨#[]⟩, .int .i64 k] w fun e w' => e = .returned (.bool (kindB k)) ∧ Below w.heap.size w w') := fits_null k
  clear hs
  go_enter Try.func38, Try.ntmps38
  go_wp2_with fail
  have hW0 : Below w.heap.size w (w.alloc (fldO s k)) := (Below.refl _ w).alloc (Nat.le_refl _) _
  have HC : Hid ((w.alloc (fldO s k)).cell? ⟨w.heap.size, 0, none⟩ = some (.string s) ∧ (w.alloc (fldO s k)).cell? ⟨w.heap.size, 1, none⟩ = some (.int .i64 k)) := ⟨by simp, by simp⟩
  generalize w.alloc (fldO s k) = W at hW0 HC ⊢
  refine wp_region_noPanic ?_
  refine wp_region_held_drew (S := fun w' => Below W.heap.size W w') (by kernel_rfl) ((Below.refl _ _).drew) (fun hHeld => ?_)
  have hT : Below W.heap.size W W.drew := hHeld
  obtain ⟨d, hd⟩ : ∃ d, d = W.drew := ⟨_, rfl⟩
  rw [← hd] at hHeld hT ⊢
  clear hd
  refine wpAnyH_take (i := 0) (oi := ⟨some 3, Op.fieldAddr 52 (Operand.tmp 1) 0, 0, _, _, _⟩) (v := ?v0y) rfl (by kernel_rfl) (by kernel_rfl) (by kernel_rfl) (fun _ _ _ h => h) (Or.inl ⟨by rfl, ?hy0y⟩) hHeld ?rest0y
  case hy0y => intro w9 hSw; go_simp; (try with_reducible rfl)
  try simp only [Act.put, List.setIfInBounds_toArray, List.set_cons_zero, List.set_cons_succ]
  refine wpAnyH_take (i := 1) (oi := ⟨some 4, Op.load 9 (Operand.tmp 3), 9, _, _, _⟩) (v := ?v1y) rfl (by kernel_rfl) (by kernel_rfl) (by kernel_rfl) (fun _ _ _ h => h) (Or.inl ⟨by rfl, ?hy1y⟩) hHeld ?rest1y
  case hy1y => intro w9 hSw; have cc := cell_later HC.out.1 hSw; go_simp; (try with_reducible rfl)
  try simp only [Act.put, List.setIfInBounds_toArray, List.set_cons_zero, List.set_cons_succ]
  refine wpAnyH_ready (rs := [2]) (by kernel_rfl) (by simp) ?_
  refine AllReadyH.cons (o := ⟨some 5, Op.call { callee := Callee.value (Operand.func 36), args := #[Operand.tmp 4], argTypes := #[9] }, 4, _, _, _⟩) rfl (fun K hK => ?_) AllReadyH.nil
  go_simp
  refine (C2.out _).mono ?_
  rintro e x2 ⟨rfl, hN2⟩
  go_wp2_with fail
  have hT2 : Below W.heap.size W x2 := hT.trans (hN2.mono hT.size)
  refine hK.out _ _ (hHeld.trans (hN2.mono hHeld.size)) (fun _ => held_up (S' := fun w' => Below x2.heap.size x2 w') (fun w' h' => (hHeld.trans (hN2.mono hHeld.size)).trans (h'.mono (Nat.le_trans hHeld.size hN2.size))) _ _ _ _ ?_)
  clear hK K hHeld hT
  have hT : Below W.heap.size W x2 := hT2
  have hHeld : Below x2.heap.size x2 x2 := Below.refl _ _
  clear hT2 hN2
  try simp only [Act.put, List.setIfInBounds_toArray, List.set_cons_zero, List.set_cons_succ]
  refine wpAnyH_take (i := 3) (oi := ⟨some 6, Op.move (Operand.tmp 5), 4, _, _, _⟩) (v := ?v3y) rfl (by kernel_rfl) (by kernel_rfl) (by kernel_rfl) (fun _ _ _ h => h) (Or.inl ⟨by rfl, ?hy3y⟩) hHeld ?rest3y
  case hy3y => intro w9 hSw; go_simp; (try with_reducible rfl)
  try simp only [Act.put, List.setIfInBounds_toArray, List.set_cons_zero, List.set_cons_succ]
  refine wpAnyH_take (i := 5) (oi := ⟨some 8, Op.fieldAddr 52 (Operand.tmp 1) 1, 0, _, _, _⟩) (v := ?v5y) rfl (by kernel_rfl) (by kernel_rfl) (by kernel_rfl) (fun _ _ _ h => h) (Or.inl ⟨by rfl, ?hy5y⟩) hHeld ?rest5y
  case hy5y => intro w9 hSw; go_simp; (try with_reducible rfl)
  try simp only [Act.put, List.setIfInBounds_toArray, List.set_cons_zero, List.set_cons_succ]
  refine wpAnyH_take (i := 6) (oi := ⟨some 9, Op.load 3 (Operand.tmp 8), 3, _, _, _⟩) (v := ?v6y) rfl (by kernel_rfl) (by kernel_rfl) (by kernel_rfl) (fun _ _ _ h => h) (Or.inl ⟨by rfl, ?hy6y⟩) hHeld ?rest6y
  case hy6y => intro w9 hSw; have cc := cell_later HC.out.2 (bt hT hSw); go_simp; (try with_reducible rfl)
  try simp only [Act.put, List.setIfInBounds_toArray, List.set_cons_zero, List.set_cons_succ]
  refine wpAnyH_ready (rs := [4]) (by kernel_rfl) (by simp) ?_
  refine AllReadyH.cons (o := ⟨some 7, Op.call { callee := Callee.value (Operand.func 22), args := #[], argTypes := #[] }, 34, _, _, _⟩) rfl (fun K hK => ?_) AllReadyH.nil
  go_simp
  refine (null_below _).mono ?_
  rintro e x4 ⟨rfl, hN4⟩
  go_wp2_with fail
  have hT4 : Below W.heap.size W x4 := hT.trans (hN4.mono hT.size)
  refine hK.out _ _ (hHeld.trans (hN4.mono hHeld.size)) (fun _ => held_up (S' := fun w' => Below x4.heap.size x4 w') (fun w' h' => (hHeld.trans (hN4.mono hHeld.size)).trans (h'.mono (Nat.le_trans hHeld.size hN4.size))) _ _ _ _ ?_)
  clear hK K hHeld hT
  have hT : Below W.heap.size W x4 := hT4
  have hHeld : Below x4.heap.size x4 x4 := Below.refl _ _
  clear hT4 hN4
  try simp only [Act.put, List.setIfInBounds_toArray, List.set_cons_zero, List.set_cons_succ]
  refine wpAnyH_ready (rs := [7]) (by kernel_rfl) (by simp) ?_
  refine AllReadyH.cons (o := ⟨some 10, Op.call { callee := Callee.value (Operand.func 40), args := #[Operand.tmp 7, Operand.tmp 9], argTypes := #[34, 3] }, 4, _, _, _⟩) rfl (fun K hK => ?_) AllReadyH.nil
  go_simp
  refine (C7.out _).mono ?_
  rintro e x7 ⟨rfl, hN7⟩
  go_wp2_with fail
  have hT7 : Below W.heap.size W x7 := hT.trans (hN7.mono hT.size)
  refine hK.out _ _ (hHeld.trans (hN7.mono hHeld.size)) (fun _ => held_up (S' := fun w' => Below x7.heap.size x7 w') (fun w' h' => (hHeld.trans (hN7.mono hHeld.size)).trans (h'.mono (Nat.le_trans hHeld.size hN7.size))) _ _ _ _ ?_)
  clear hK K hHeld hT
  have hT : Below W.heap.size W x7 := hT7
  have hHeld : Below x7.heap.size x7 x7 := Below.refl _ _
  clear hT7 hN7
  try simp only [Act.put, List.setIfInBounds_toArray, List.set_cons_zero, List.set_cons_succ]
  refine wpAnyH_take (i := 8) (oi := ⟨some 11, Op.pick (Operand.tmp 6) (Operand.tmp 10) (Operand.const (Value.bool false)), 4, _, _, _⟩) (v := ?v8y) rfl (by kernel_rfl) (by kernel_rfl) (by kernel_rfl) (fun _ _ _ h => h) (Or.inl ⟨by rfl, ?hy8y⟩) hHeld ?rest8y
  case hy8y => intro w9 hSw; go_simp; (try with_reducible rfl)
  try simp only [Act.put, List.setIfInBounds_toArray, List.set_cons_zero, List.set_cons_succ]
  refine wpAnyH_take (i := 9) (oi := ⟨some 2, Op.assign (Operand.tmp 11), 4, _, _, _⟩) (v := ?v9y) rfl (by kernel_rfl) (by kernel_rfl) (by kernel_rfl) (fun _ _ _ h => h) (Or.inl ⟨by rfl, ?hy9y⟩) hHeld ?rest9y
  case hy9y => intro w9 hSw; go_simp; (try with_reducible rfl)
  try simp only [Act.put, List.setIfInBounds_toArray, List.set_cons_zero, List.set_cons_succ]
  refine wpAnyH_done (by kernel_rfl) ?_ _
  refine NoPanic.normal ?_
  go_wp2
  go_ret
  exact ⟨rfl, hW0.trans (hT.mono hW0.size)⟩
set_option maxRecDepth 100000 in
set_option maxHeartbeats 4000000 in
theorem rightF_not (s : ByteArray) (k : Int) (w : World) (hs : nameB s = false) : Calls Try.prog 38 #[fldV s k] w fun e w' => e = .returned (.bool false) ∧ Below w.heap.size w w' := by
  have C2 : Hid (∀ w, Calls Try.prog 36 #[.string s] w fun e w' => e = .returned (.bool false) ∧ Below w.heap.size w w') := fun w => by have := name_any s w; rwa [hs] at this
  clear hs
  go_enter Try.func38, Try.ntmps38
  go_wp2_with fail
  have hW0 : Below w.heap.size w (w.alloc (fldO s k)) := (Below.refl _ w).alloc (Nat.le_refl _) _
  have HC : Hid ((w.alloc (fldO s k)).cell? ⟨w.heap.size, 0, none⟩ = some (.string s) ∧ (w.alloc (fldO s k)).cell? ⟨w.heap.size, 1, none⟩ = some (.int .i64 k)) := ⟨by simp, by simp⟩
  generalize w.alloc (fldO s k) = W at hW0 HC ⊢
  refine wp_region_noPanic ?_
  refine wp_region_held_drew (S := fun w' => Below W.heap.size W w') (by kernel_rfl) ((Below.refl _ _).drew) (fun hHeld => ?_)
  have hT : Below W.heap.size W W.drew := hHeld
  obtain ⟨d, hd⟩ : ∃ d, d = W.drew := ⟨_, rfl⟩
  rw [← hd] at hHeld hT ⊢
  clear hd
  refine wpAnyH_take (i := 0) (oi := ⟨some 3, Op.fieldAddr 52 (Operand.tmp 1) 0, 0, _, _, _⟩) (v := ?v0n) rfl (by kernel_rfl) (by kernel_rfl) (by kernel_rfl) (fun _ _ _ h => h) (Or.inl ⟨by rfl, ?hy0n⟩) hHeld ?rest0n
  case hy0n => intro w9 hSw; go_simp; (try with_reducible rfl)
  try simp only [Act.put, List.setIfInBounds_toArray, List.set_cons_zero, List.set_cons_succ]
  refine wpAnyH_take (i := 1) (oi := ⟨some 4, Op.load 9 (Operand.tmp 3), 9, _, _, _⟩) (v := ?v1n) rfl (by kernel_rfl) (by kernel_rfl) (by kernel_rfl) (fun _ _ _ h => h) (Or.inl ⟨by rfl, ?hy1n⟩) hHeld ?rest1n
  case hy1n => intro w9 hSw; have cc := cell_later HC.out.1 hSw; go_simp; (try with_reducible rfl)
  try simp only [Act.put, List.setIfInBounds_toArray, List.set_cons_zero, List.set_cons_succ]
  refine wpAnyH_ready (rs := [2]) (by kernel_rfl) (by simp) ?_
  refine AllReadyH.cons (o := ⟨some 5, Op.call { callee := Callee.value (Operand.func 36), args := #[Operand.tmp 4], argTypes := #[9] }, 4, _, _, _⟩) rfl (fun K hK => ?_) AllReadyH.nil
  go_simp
  refine (C2.out _).mono ?_
  rintro e x2 ⟨rfl, hN2⟩
  go_wp2_with fail
  have hT2 : Below W.heap.size W x2 := hT.trans (hN2.mono hT.size)
  refine hK.out _ _ (hHeld.trans (hN2.mono hHeld.size)) (fun _ => held_up (S' := fun w' => Below x2.heap.size x2 w') (fun w' h' => (hHeld.trans (hN2.mono hHeld.size)).trans (h'.mono (Nat.le_trans hHeld.size hN2.size))) _ _ _ _ ?_)
  clear hK K hHeld hT
  have hT : Below W.heap.size W x2 := hT2
  have hHeld : Below x2.heap.size x2 x2 := Below.refl _ _
  clear hT2 hN2
  try simp only [Act.put, List.setIfInBounds_toArray, List.set_cons_zero, List.set_cons_succ]
  refine wpAnyH_take (i := 3) (oi := ⟨some 6, Op.move (Operand.tmp 5), 4, _, _, _⟩) (v := ?v3n) rfl (by kernel_rfl) (by kernel_rfl) (by kernel_rfl) (fun _ _ _ h => h) (Or.inl ⟨by rfl, ?hy3n⟩) hHeld ?rest3n
  case hy3n => intro w9 hSw; go_simp; (try with_reducible rfl)
  try simp only [Act.put, List.setIfInBounds_toArray, List.set_cons_zero, List.set_cons_succ]
  refine wpAnyH_take (i := 4) (oi := ⟨some 7, Op.call { callee := Callee.value (Operand.func 22), args := #[], argTypes := #[] }, 34, _, _, _⟩) (v := undef) rfl (by kernel_rfl) (by kernel_rfl) (by kernel_rfl) (fun _ _ _ h => h) (Or.inr ⟨by rfl, rfl⟩) hHeld ?rest4n
  try simp only [Act.put, List.setIfInBounds_toArray, List.set_cons_zero, List.set_cons_succ]
  refine wpAnyH_take (i := 5) (oi := ⟨some 8, Op.fieldAddr 52 (Operand.tmp 1) 1, 0, _, _, _⟩) (v := undef) rfl (by kernel_rfl) (by kernel_rfl) (by kernel_rfl) (fun _ _ _ h => h) (Or.inr ⟨by rfl, rfl⟩) hHeld ?rest5n
  try simp only [Act.put, List.setIfInBounds_toArray, List.set_cons_zero, List.set_cons_succ]
  refine wpAnyH_take (i := 6) (oi := ⟨some 9, Op.load 3 (Operand.tmp 8), 3, _, _, _⟩) (v := undef) rfl (by kernel_rfl) (by kernel_rfl) (by kernel_rfl) (fun _ _ _ h => h) (Or.inr ⟨by rfl, rfl⟩) hHeld ?rest6n
  try simp only [Act.put, List.setIfInBounds_toArray, List.set_cons_zero, List.set_cons_succ]
  refine wpAnyH_take (i := 7) (oi := ⟨some 10, Op.call { callee := Callee.value (Operand.func 40), args := #[Operand.tmp 7, Operand.tmp 9], argTypes := #[34, 3] }, 4, _, _, _⟩) (v := undef) rfl (by kernel_rfl) (by kernel_rfl) (by kernel_rfl) (fun _ _ _ h => h) (Or.inr ⟨by rfl, rfl⟩) hHeld ?rest7n
  try simp only [Act.put, List.setIfInBounds_toArray, List.set_cons_zero, List.set_cons_succ]
  refine wpAnyH_take (i := 8) (oi := ⟨some 11, Op.pick (Operand.tmp 6) (Operand.tmp 10) (Operand.const (Value.bool false)), 4, _, _, _⟩) (v := ?v8n) rfl (by kernel_rfl) (by kernel_rfl) (by kernel_rfl) (fun _ _ _ h => h) (Or.inl ⟨by rfl, ?hy8n⟩) hHeld ?rest8n
  case hy8n => intro w9 hSw; go_simp; (try with_reducible rfl)
  try simp only [Act.put, List.setIfInBounds_toArray, List.set_cons_zero, List.set_cons_succ]
  refine wpAnyH_take (i := 9) (oi := ⟨some 2, Op.assign (Operand.tmp 11), 4, _, _, _⟩) (v := ?v9n) rfl (by kernel_rfl) (by kernel_rfl) (by kernel_rfl) (fun _ _ _ h => h) (Or.inl ⟨by rfl, ?hy9n⟩) hHeld ?rest9n
  case hy9n => intro w9 hSw; go_simp; (try with_reducible rfl)
  try simp only [Act.put, List.setIfInBounds_toArray, List.set_cons_zero, List.set_cons_succ]
  refine wpAnyH_done (by kernel_rfl) ?_ _
  refine NoPanic.normal ?_
  go_wp2
  go_ret
  exact ⟨rfl, hW0.trans (hT.mono hW0.size)⟩
theorem rightF_any (s : ByteArray) (k : Int) (w : World) : Calls Try.prog 38 #[fldV s k] w fun e w' => e = .returned (.bool (rightF s k)) ∧ Below w.heap.size w w' := by
  unfold rightF
  cases hs : nameB s with
  | true => simpa using rightF_yes s k w hs
  | false => simpa using rightF_not s k w hs
end Go.Proofs.Ytelabjipclfpnaa
