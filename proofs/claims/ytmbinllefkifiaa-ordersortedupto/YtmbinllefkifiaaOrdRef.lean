/-
  The document's Form, vars and Whole (haruspexref15).
-/
import Derived.Test.YtmbinllefkifiaaOrdForm
import Derived.Test.YtmbinllefkifiaaExprRefOrder
import Derived.Test.YtmbinllefkifiaaTextRows
import Derived.Test.YtmbinllefkifiaaBulk
namespace Go.Proofs.Ytmbinllefkifiaa
open Go.RowKit

set_option maxHeartbeats 1000000 in
theorem refText_any (a b : ByteArray) (w : World) : Calls Try.prog 27 #[.string a, .string b] w fun e w' => e = .returned (.int .i64 (cmpS a b)) ∧ w' = w := by
  rcases cmpS_cases a b with ⟨h, h1, h2⟩ | ⟨h, h1⟩ | ⟨h, h1, h2⟩
  · rw [h]
    have h3 : (a.toList == b.toList) = false := by simpa using h2
    clear h2
    go_enter Try.func27, Try.ntmps27
    go_wp2
    go_ret
    exact ⟨rfl, rfl⟩
  · rw [h]
    have h3 : (a.toList == b.toList) = true := by simpa using h1
    clear h1
    go_enter Try.func27, Try.ntmps27
    go_wp2
    go_ret
    exact ⟨rfl, rfl⟩
  · rw [h]
    have h3 : (a.toList == b.toList) = false := by simpa using h2
    have h4 := less_not h1
    clear h2 h1
    go_enter Try.func27, Try.ntmps27
    go_wp2
    go_ret
    exact ⟨rfl, rfl⟩
set_option maxRecDepth 100000 in
set_option maxHeartbeats 8000000 in
theorem refForm_any : ∀ (x y : Pt) (w : World), IsP w x → IsP w y → Calls Try.prog 10 #[x.val, y.val] w fun e w' => e = .returned (.int .i64 (formP x y)) ∧ Below w.heap.size w w' := by
  refine Pt.ind fun x ih y w hX hY => ?_
  obtain ⟨r, hr⟩ : ∃ r, r = formP x y := ⟨_, rfl⟩
  rw [← hr]
  have HR : Hid (r = formP x y) := hr
  have HI : Hid (∀ i, i < x.n → ∀ w, IsP w (x.c i) → IsP w (y.c i) → Calls Try.prog 10 #[(x.c i).val, (y.c i).val] w fun e w' => e = .returned (.int .i64 (formP (x.c i) (y.c i))) ∧ Below w.heap.size w w') := fun i hi w h1 h2 => ih i hi (y.c i) w h1 h2
  have hlx := hX.len
  have hly := hY.len
  obtain ⟨W, hA, hB, hs, hn, hm⟩ := boxP_two x y w
  have HB : Hid (Below w.heap.size w W) := hB
  have HX : Hid (NodeP W w.heap.size 0 x) := hn
  have HY : Hid (NodeP W (w.heap.size + 1) 0 y) := hm
  have IX : Hid (∀ d, Below W.heap.size W d → IsP d x) := fun d h => (hX.later hB).later h
  have IY : Hid (∀ d, Below W.heap.size W d → IsP d y) := fun d h => (hY.later hB).later h
  clear ih hX hY hr hB hn hm
  go_enter Try.func10, Try.ntmps10
  go_wp2_with fail
  refine wp_region_noPanic ?_
  refine wp_region_held_drew (S := fun w' => Below W.heap.size W w') (by kernel_rfl) ((Below.refl _ _).drew) (fun hHeld => ?_)
  obtain ⟨d, hd⟩ : ∃ d, d = W.drew := ⟨_, rfl⟩
  rw [← hd] at hHeld ⊢
  clear hd
  refine wpAnyH_take (i := 0) (oi := ⟨some 9, Op.fieldAddr 24 (Operand.tmp 2) 0, 0, _, _, _⟩) (v := ?v0) rfl (by kernel_rfl) (by kernel_rfl) (by kernel_rfl) (fun _ _ _ h => h) (Or.inl ⟨by rfl, ?hy0⟩) hHeld ?rest0
  case hy0 => intro w9 hSw; go_simp; (try with_reducible rfl)
  try simp only [Act.put, List.setIfInBounds_toArray, List.set_cons_zero, List.set_cons_succ]
  refine wpAnyH_take (i := 1) (oi := ⟨some 10, Op.load 3 (Operand.tmp 9), 3, _, _, _⟩) (v := ?v1) rfl (by kernel_rfl) (by kernel_rfl) (by kernel_rfl) (fun _ _ _ h => h) (Or.inl ⟨by rfl, ?hy1⟩) hHeld ?rest1
  case hy1 => intro w9 hSw; have c0 := (HX.out.later hSw).at0.1; go_simp; (try with_reducible rfl)
  try simp only [Act.put, List.setIfInBounds_toArray, List.set_cons_zero, List.set_cons_succ]
  refine wpAnyH_take (i := 2) (oi := ⟨some 11, Op.fieldAddr 24 (Operand.tmp 3) 0, 0, _, _, _⟩) (v := ?v2) rfl (by kernel_rfl) (by kernel_rfl) (by kernel_rfl) (fun _ _ _ h => h) (Or.inl ⟨by rfl, ?hy2⟩) hHeld ?rest2
  case hy2 => intro w9 hSw; go_simp; (try with_reducible rfl)
  try simp only [Act.put, List.setIfInBounds_toArray, List.set_cons_zero, List.set_cons_succ]
  refine wpAnyH_take (i := 3) (oi := ⟨some 12, Op.load 3 (Operand.tmp 11), 3, _, _, _⟩) (v := ?v3) rfl (by kernel_rfl) (by kernel_rfl) (by kernel_rfl) (fun _ _ _ h => h) (Or.inl ⟨by rfl, ?hy3⟩) hHeld ?rest3
  case hy3 => intro w9 hSw; have c0 := (HY.out.later hSw).at0.1; go_simp; (try with_reducible rfl)
  try simp only [Act.put, List.setIfInBounds_toArray, List.set_cons_zero, List.set_cons_succ]
  refine wpAnyH_take (i := 5) (oi := ⟨some 14, Op.fieldAddr 24 (Operand.tmp 2) 2, 0, _, _, _⟩) (v := ?v5) rfl (by kernel_rfl) (by kernel_rfl) (by kernel_rfl) (fun _ _ _ h => h) (Or.inl ⟨by rfl, ?hy5⟩) hHeld ?rest5
  case hy5 => intro w9 hSw; go_simp; (try with_reducible rfl)
  try simp only [Act.put, List.setIfInBounds_toArray, List.set_cons_zero, List.set_cons_succ]
  refine wpAnyH_take (i := 6) (oi := ⟨some 15, Op.load 9 (Operand.tmp 14), 9, _, _, _⟩) (v := ?v6) rfl (by kernel_rfl) (by kernel_rfl) (by kernel_rfl) (fun _ _ _ h => h) (Or.inl ⟨by rfl, ?hy6⟩) hHeld ?rest6
  case hy6 => intro w9 hSw; have c0 := (HX.out.later hSw).at0.2.2.1; go_simp; (try with_reducible rfl)
  try simp only [Act.put, List.setIfInBounds_toArray, List.set_cons_zero, List.set_cons_succ]
  refine wpAnyH_take (i := 7) (oi := ⟨some 16, Op.fieldAddr 24 (Operand.tmp 3) 2, 0, _, _, _⟩) (v := ?v7) rfl (by kernel_rfl) (by kernel_rfl) (by kernel_rfl) (fun _ _ _ h => h) (Or.inl ⟨by rfl, ?hy7⟩) hHeld ?rest7
  case hy7 => intro w9 hSw; go_simp; (try with_reducible rfl)
  try simp only [Act.put, List.setIfInBounds_toArray, List.set_cons_zero, List.set_cons_succ]
  refine wpAnyH_take (i := 8) (oi := ⟨some 17, Op.load 9 (Operand.tmp 16), 9, _, _, _⟩) (v := ?v8) rfl (by kernel_rfl) (by kernel_rfl) (by kernel_rfl) (fun _ _ _ h => h) (Or.inl ⟨by rfl, ?hy8⟩) hHeld ?rest8
  case hy8 => intro w9 hSw; have c0 := (HY.out.later hSw).at0.2.2.1; go_simp; (try with_reducible rfl)
  try simp only [Act.put, List.setIfInBounds_toArray, List.set_cons_zero, List.set_cons_succ]
  refine wpAnyH_take (i := 10) (oi := ⟨some 19, Op.fieldAddr 24 (Operand.tmp 2) 3, 0, _, _, _⟩) (v := ?v10) rfl (by kernel_rfl) (by kernel_rfl) (by kernel_rfl) (fun _ _ _ h => h) (Or.inl ⟨by rfl, ?hy10⟩) hHeld ?rest10
  case hy10 => intro w9 hSw; go_simp; (try with_reducible rfl)
  try simp only [Act.put, List.setIfInBounds_toArray, List.set_cons_zero, List.set_cons_succ]
  refine wpAnyH_take (i := 11) (oi := ⟨some 20, Op.load 3 (Operand.tmp 19), 3, _, _, _⟩) (v := ?v11) rfl (by kernel_rfl) (by kernel_rfl) (by kernel_rfl) (fun _ _ _ h => h) (Or.inl ⟨by rfl, ?hy11⟩) hHeld ?rest11
  case hy11 => intro w9 hSw; have c0 := (HX.out.later hSw).at0.2.2.2.1; go_simp; (try with_reducible rfl)
  try simp only [Act.put, List.setIfInBounds_toArray, List.set_cons_zero, List.set_cons_succ]
  refine wpAnyH_take (i := 12) (oi := ⟨some 21, Op.fieldAddr 24 (Operand.tmp 3) 3, 0, _, _, _⟩) (v := ?v12) rfl (by kernel_rfl) (by kernel_rfl) (by kernel_rfl) (fun _ _ _ h => h) (Or.inl ⟨by rfl, ?hy12⟩) hHeld ?rest12
  case hy12 => intro w9 hSw; go_simp; (try with_reducible rfl)
  try simp only [Act.put, List.setIfInBounds_toArray, List.set_cons_zero, List.set_cons_succ]
  refine wpAnyH_take (i := 13) (oi := ⟨some 22, Op.load 3 (Operand.tmp 21), 3, _, _, _⟩) (v := ?v13) rfl (by kernel_rfl) (by kernel_rfl) (by kernel_rfl) (fun _ _ _ h => h) (Or.inl ⟨by rfl, ?hy13⟩) hHeld ?rest13
  case hy13 => intro w9 hSw; have c0 := (HY.out.later hSw).at0.2.2.2.1; go_simp; (try with_reducible rfl)
  try simp only [Act.put, List.setIfInBounds_toArray, List.set_cons_zero, List.set_cons_succ]
  refine wpAnyH_take (i := 15) (oi := ⟨some 24, Op.fieldAddr 24 (Operand.tmp 2) 4, 0, _, _, _⟩) (v := ?v15) rfl (by kernel_rfl) (by kernel_rfl) (by kernel_rfl) (fun _ _ _ h => h) (Or.inl ⟨by rfl, ?hy15⟩) hHeld ?rest15
  case hy15 => intro w9 hSw; go_simp; (try with_reducible rfl)
  try simp only [Act.put, List.setIfInBounds_toArray, List.set_cons_zero, List.set_cons_succ]
  refine wpAnyH_take (i := 16) (oi := ⟨some 25, Op.load 3 (Operand.tmp 24), 3, _, _, _⟩) (v := ?v16) rfl (by kernel_rfl) (by kernel_rfl) (by kernel_rfl) (fun _ _ _ h => h) (Or.inl ⟨by rfl, ?hy16⟩) hHeld ?rest16
  case hy16 => intro w9 hSw; have c0 := (HX.out.later hSw).at0.2.2.2.2.1; go_simp; (try with_reducible rfl)
  try simp only [Act.put, List.setIfInBounds_toArray, List.set_cons_zero, List.set_cons_succ]
  refine wpAnyH_take (i := 17) (oi := ⟨some 26, Op.fieldAddr 24 (Operand.tmp 3) 4, 0, _, _, _⟩) (v := ?v17) rfl (by kernel_rfl) (by kernel_rfl) (by kernel_rfl) (fun _ _ _ h => h) (Or.inl ⟨by rfl, ?hy17⟩) hHeld ?rest17
  case hy17 => intro w9 hSw; go_simp; (try with_reducible rfl)
  try simp only [Act.put, List.setIfInBounds_toArray, List.set_cons_zero, List.set_cons_succ]
  refine wpAnyH_take (i := 18) (oi := ⟨some 27, Op.load 3 (Operand.tmp 26), 3, _, _, _⟩) (v := ?v18) rfl (by kernel_rfl) (by kernel_rfl) (by kernel_rfl) (fun _ _ _ h => h) (Or.inl ⟨by rfl, ?hy18⟩) hHeld ?rest18
  case hy18 => intro w9 hSw; have c0 := (HY.out.later hSw).at0.2.2.2.2.1; go_simp; (try with_reducible rfl)
  try simp only [Act.put, List.setIfInBounds_toArray, List.set_cons_zero, List.set_cons_succ]
  refine wpAnyH_take (i := 20) (oi := ⟨some 29, Op.fieldAddr 24 (Operand.tmp 2) 5, 0, _, _, _⟩) (v := ?v20) rfl (by kernel_rfl) (by kernel_rfl) (by kernel_rfl) (fun _ _ _ h => h) (Or.inl ⟨by rfl, ?hy20⟩) hHeld ?rest20
  case hy20 => intro w9 hSw; go_simp; (try with_reducible rfl)
  try simp only [Act.put, List.setIfInBounds_toArray, List.set_cons_zero, List.set_cons_succ]
  refine wpAnyH_take (i := 21) (oi := ⟨some 30, Op.load 22 (Operand.tmp 29), 22, _, _, _⟩) (v := ?v21) rfl (by kernel_rfl) (by kernel_rfl) (by kernel_rfl) (fun _ _ _ h => h) (Or.inl ⟨by rfl, ?hy21⟩) hHeld ?rest21
  case hy21 => intro w9 hSw; have c0 := (HX.out.later hSw).at0.2.2.2.2.2; go_simp; (try with_reducible rfl)
  try simp only [Act.put, List.setIfInBounds_toArray, List.set_cons_zero, List.set_cons_succ]
  refine wpAnyH_take (i := 22) (oi := ⟨some 31, Op.call { callee := Callee.builtin Builtin.len, args := #[Operand.tmp 30], argTypes := #[22] }, 3, _, _, _⟩) (v := ?v22) rfl (by kernel_rfl) (by kernel_rfl) (by kernel_rfl) (fun _ _ _ h => h) (Or.inl ⟨by rfl, ?hy22⟩) hHeld ?rest22
  case hy22 => intro w9 hSw; go_simp; (try with_reducible rfl)
  try simp only [Act.put, List.setIfInBounds_toArray, List.set_cons_zero, List.set_cons_succ]
  refine wpAnyH_take (i := 23) (oi := ⟨some 32, Op.fieldAddr 24 (Operand.tmp 3) 5, 0, _, _, _⟩) (v := ?v23) rfl (by kernel_rfl) (by kernel_rfl) (by kernel_rfl) (fun _ _ _ h => h) (Or.inl ⟨by rfl, ?hy23⟩) hHeld ?rest23
  case hy23 => intro w9 hSw; go_simp; (try with_reducible rfl)
  try simp only [Act.put, List.setIfInBounds_toArray, List.set_cons_zero, List.set_cons_succ]
  refine wpAnyH_take (i := 24) (oi := ⟨some 33, Op.load 22 (Operand.tmp 32), 22, _, _, _⟩) (v := ?v24) rfl (by kernel_rfl) (by kernel_rfl) (by kernel_rfl) (fun _ _ _ h => h) (Or.inl ⟨by rfl, ?hy24⟩) hHeld ?rest24
  case hy24 => intro w9 hSw; have c0 := (HY.out.later hSw).at0.2.2.2.2.2; go_simp; (try with_reducible rfl)
  try simp only [Act.put, List.setIfInBounds_toArray, List.set_cons_zero, List.set_cons_succ]
  refine wpAnyH_take (i := 25) (oi := ⟨some 34, Op.call { callee := Callee.builtin Builtin.len, args := #[Operand.tmp 33], argTypes := #[22] }, 3, _, _, _⟩) (v := ?v25) rfl (by kernel_rfl) (by kernel_rfl) (by kernel_rfl) (fun _ _ _ h => h) (Or.inl ⟨by rfl, ?hy25⟩) hHeld ?rest25
  case hy25 => intro w9 hSw; go_simp; (try with_reducible rfl)
  try simp only [Act.put, List.setIfInBounds_toArray, List.set_cons_zero, List.set_cons_succ]
  refine wpAnyH_ready (rs := [4]) (by kernel_rfl) (by simp) ?_
  refine AllReadyH.cons (o := ⟨some 13, Op.call { callee := Callee.value (Operand.func 26), args := #[Operand.tmp 10, Operand.tmp 12], argTypes := #[3, 3] }, 3, _, _, _⟩) rfl (fun K hK => ?_) AllReadyH.nil
  go_simp
  refine (refNumber_any _ _ _).mono ?_
  rintro e x4 ⟨rfl, hx4⟩
  replace hx4 := hx4.symm
  subst hx4
  go_wp2_with fail
  refine hK.out _ _ hHeld (fun _ => ?_)
  clear hK K
  try simp only [Act.put, List.setIfInBounds_toArray, List.set_cons_zero, List.set_cons_succ]
  refine wpAnyH_ready (rs := [9]) (by kernel_rfl) (by simp) ?_
  refine AllReadyH.cons (o := ⟨some 18, Op.call { callee := Callee.value (Operand.func 27), args := #[Operand.tmp 15, Operand.tmp 17], argTypes := #[9, 9] }, 3, _, _, _⟩) rfl (fun K hK => ?_) AllReadyH.nil
  go_simp
  refine (refText_any _ _ _).mono ?_
  rintro e x9 ⟨rfl, hx9⟩
  replace hx9 := hx9.symm
  subst hx9
  go_wp2_with fail
  refine hK.out _ _ hHeld (fun _ => ?_)
  clear hK K
  try simp only [Act.put, List.setIfInBounds_toArray, List.set_cons_zero, List.set_cons_succ]
  refine wpAnyH_ready (rs := [14]) (by kernel_rfl) (by simp) ?_
  refine AllReadyH.cons (o := ⟨some 23, Op.call { callee := Callee.value (Operand.func 26), args := #[Operand.tmp 20, Operand.tmp 22], argTypes := #[3, 3] }, 3, _, _, _⟩) rfl (fun K hK => ?_) AllReadyH.nil
  go_simp
  refine (refNumber_any _ _ _).mono ?_
  rintro e x14 ⟨rfl, hx14⟩
  replace hx14 := hx14.symm
  subst hx14
  go_wp2_with fail
  refine hK.out _ _ hHeld (fun _ => ?_)
  clear hK K
  try simp only [Act.put, List.setIfInBounds_toArray, List.set_cons_zero, List.set_cons_succ]
  refine wpAnyH_ready (rs := [19]) (by kernel_rfl) (by simp) ?_
  refine AllReadyH.cons (o := ⟨some 28, Op.call { callee := Callee.value (Operand.func 26), args := #[Operand.tmp 25, Operand.tmp 27], argTypes := #[3, 3] }, 3, _, _, _⟩) rfl (fun K hK => ?_) AllReadyH.nil
  go_simp
  refine (refNumber_any _ _ _).mono ?_
  rintro e x19 ⟨rfl, hx19⟩
  replace hx19 := hx19.symm
  subst hx19
  go_wp2_with fail
  refine hK.out _ _ hHeld (fun _ => ?_)
  clear hK K
  try simp only [Act.put, List.setIfInBounds_toArray, List.set_cons_zero, List.set_cons_succ]
  refine wpAnyH_ready (rs := [26]) (by kernel_rfl) (by simp) ?_
  refine AllReadyH.cons (o := ⟨some 35, Op.call { callee := Callee.value (Operand.func 26), args := #[Operand.tmp 31, Operand.tmp 34], argTypes := #[3, 3] }, 3, _, _, _⟩) rfl (fun K hK => ?_) AllReadyH.nil
  go_simp
  refine (refNumber_any _ _ _).mono ?_
  rintro e x26 ⟨rfl, hx26⟩
  replace hx26 := hx26.symm
  subst hx26
  go_wp2_with fail
  refine hK.out _ _ hHeld (fun _ => ?_)
  clear hK K
  try simp only [Act.put, List.setIfInBounds_toArray, List.set_cons_zero, List.set_cons_succ]
  refine wpAnyH_ready (rs := [27]) (by kernel_rfl) (by simp) ?_
  refine AllReadyH.cons (o := ⟨some 36, Op.buildSlice 49 5 #[(0, Operand.tmp 13), (1, Operand.tmp 18), (2, Operand.tmp 23), (3, Operand.tmp 28), (4, Operand.tmp 35)], 49, _, _, _⟩) rfl (fun K hK => ?_) AllReadyH.nil
  go_simp
  have hT27 := hHeld.alloc hHeld.size (.cells #[.int .i64 (cmpI x.k y.k), .int .i64 (cmpS x.t y.t), .int .i64 (cmpI x.lo y.lo), .int .i64 (cmpI x.hi y.hi), .int .i64 (cmpI x.n y.n)] 3)
  refine hK.out _ _ hT27 (fun _ => ?_)
  clear hK K hHeld
  have hHeld := hT27
  clear hT27
  have HC : Hid (∀ k, k < 5 → (d.alloc (.cells #[.int .i64 (cmpI x.k y.k), .int .i64 (cmpS x.t y.t), .int .i64 (cmpI x.lo y.lo), .int .i64 (cmpI x.hi y.hi), .int .i64 (cmpI x.n y.n)] 3)).cell? ⟨d.heap.size, k, none⟩ = some (.int .i64 (five (cmpI x.k y.k) (cmpS x.t y.t) (cmpI x.lo y.lo) (cmpI x.hi y.hi) (cmpI x.n y.n) k))) := fun k hk => by match k, hk with | 0, _ => simp [five] | 1, _ => simp [five] | 2, _ => simp [five] | 3, _ => simp [five] | 4, _ => simp [five]
  generalize (d.alloc (.cells #[.int .i64 (cmpI x.k y.k), .int .i64 (cmpS x.t y.t), .int .i64 (cmpI x.lo y.lo), .int .i64 (cmpI x.hi y.hi), .int .i64 (cmpI x.n y.n)] 3)) = D at hHeld HC ⊢
  refine wpAnyH_take (i := 28) (oi := ⟨some 5, Op.assign (Operand.tmp 36), 49, _, _, _⟩) (v := ?v28) rfl (by kernel_rfl) (by kernel_rfl) (by kernel_rfl) (fun _ _ _ h => h) (Or.inl ⟨by rfl, ?hy28⟩) hHeld ?rest28
  case hy28 => intro w9 hSw; go_simp; (try with_reducible rfl)
  try simp only [Act.put, List.setIfInBounds_toArray, List.set_cons_zero, List.set_cons_succ]
  refine wpAnyH_done (by kernel_rfl) ?_ _
  refine NoPanic.normal ?_
  have hD := hHeld
  have HD : Hid (Below W.heap.size W D) := hD
  obtain ⟨V, hV⟩ : ∃ V, V = five (cmpI x.k y.k) (cmpS x.t y.t) (cmpI x.lo y.lo) (cmpI x.hi y.hi) (cmpI x.n y.n) := ⟨_, rfl⟩
  rw [← hV] at HC
  have HV : Hid (alP x y = lexN V 5) := by show alP x y = lexN V 5; rw [hV, lex_five]; rfl
  clear hV hD hHeld
  generalize d.heap.size = b9 at HC ⊢
  go_wp2
  go_loopw [6] (fun u wr => ∃ k : Nat, k ≤ 5 ∧ u = .int .i64 k ∧ Hid (lexN V k = 0) ∧ wr = D) (fun u _ => 5 - (intOf u).toNat)
  case atStart => exact ⟨0, Nat.zero_le _, rfl, rfl, rfl⟩
  case round =>
    obtain ⟨k, hk, rfl, H0, hwr⟩ := hrel
    obtain rfl : D = wr := hwr.symm
    by_cases hkn : k < 5
    · have c := HC.out k hkn
      have HK : Hid (k < 5) := hkn
      by_cases hv : V k = 0
      · have HW : Hid (V k = 0) := hv
        have hv' : (V k == 0) = true := by simpa using hv
        clear hv
        go_wp2
        go_roundw
        case rel => exact ⟨k + 1, HK.out, by go_num, by show (if lexN V k = 0 then V k else lexN V k) = 0; rw [if_pos H0.out]; exact HW.out, by first | trivial | rfl⟩
        case measure => have := HK.out; simp [intOf]; omega
      · have HW : Hid (¬ V k = 0) := hv
        have hv' : (V k == 0) = false := by simpa using hv
        clear hv
        go_wp2
        try rw [Exit.noGoto_ret]
        go_ret
        refine ⟨ret_int ?_, HB.out.trans (HD.out.mono HB.out.size)⟩
        have e : alP x y = V k := by rw [HV.out, lexN_not H0.out HW.out HK.out]
        rw [HR.out, formP_eq, orI_not (by rw [e]; exact HW.out), e]
    · obtain rfl : k = 5 := by omega
      have ez : alP x y = 0 := by rw [HV.out, H0.out]
      have hl := (alP_zero.1 ez).2.2.2.2
      have HR2 : Hid (r = lexN (fun i => formP (x.c i) (y.c i)) x.n) := by show r = _; rw [HR.out, formP_eq, ez]; rfl
      have hl' : Hid (x.n = y.n) := hl
      clear ez H0 hl
      go_wp2
      go_loopw [7] (fun u wz => ∃ k : Nat, k ≤ x.n ∧ u = .int .i64 k ∧ Hid (lexN (fun i => formP (x.c i) (y.c i)) k = 0) ∧ Below D.heap.size D wz) (fun u _ => x.n - (intOf u).toNat)
      case atStart => exact ⟨0, Nat.zero_le _, rfl, rfl, Below.refl _ _⟩
      case round =>
        obtain ⟨j, hj, rfl, G0, hBz⟩ := hrel
        have hWz := HD.out.trans (hBz.mono HD.out.size)
        obtain ⟨-, -, -, -, -, c6⟩ := (HX.out.later hWz).at0
        obtain ⟨-, -, -, -, -, e6⟩ := (HY.out.later hWz).at0
        by_cases hjn : j < x.n
        · have hjm : j < y.n := by have := hl'.out; omega
          obtain ⟨b, o, ea, hn, hx⟩ := (IX.out _ hWz).part hjn
          obtain ⟨b', o', ea', hn', hx'⟩ := (IY.out _ hWz).part hjm
          rw [ea] at c6
          rw [ea'] at e6
          have hc : Hid (∀ d, Below wr.heap.size wr d → Calls Try.prog 10 #[(x.c j).val, (y.c j).val] d fun e w' => e = .returned (.int .i64 (formP (x.c j) (y.c j))) ∧ Below d.heap.size d w') := fun d h => HI.out j hjn d (hx.later h) (hx'.later h)
          have N1 : Hid (NodeP wr b (o + j * 6) (x.c j)) := hn
          have N2 : Hid (NodeP wr b' (o' + j * 6) (y.c j)) := hn'
          have C6 : Hid (wr.cell? ⟨w.heap.size, 5, none⟩ = some (.slice (some ⟨b, o, none⟩) x.n x.cap)) := c6
          have E6 : Hid (wr.cell? ⟨w.heap.size + 1, 5, none⟩ = some (.slice (some ⟨b', o', none⟩) y.n y.cap)) := e6
          have HJ : Hid (j < x.n) := hjn
          obtain ⟨q, hq⟩ : ∃ q, q = formP (x.c j) (y.c j) := ⟨_, rfl⟩
          rw [← hq] at hc
          have HQ : Hid (q = formP (x.c j) (y.c j)) := hq
          clear hx hx' hn hn' hq hWz ea ea'
          go_wp2_with fail
          refine wp_region_noPanic ?_
          refine wp_region_held_drew (S := fun w' => Below wr.heap.size wr w') (by kernel_rfl) ((Below.refl _ _).drew) (fun hHeld => ?_)
          have hT : Below wr.heap.size wr wr.drew := hHeld
          obtain ⟨d, hd⟩ : ∃ d, d = wr.drew := ⟨_, rfl⟩
          rw [← hd] at hHeld hT ⊢
          clear hd
          refine wpAnyH_take (i := 0) (oi := ⟨some 66, Op.fieldAddr 24 (Operand.tmp 2) 5, 0, _, _, _⟩) (v := ?v0z) rfl (by kernel_rfl) (by kernel_rfl) (by kernel_rfl) (fun _ _ _ h => h) (Or.inl ⟨by rfl, ?hy0z⟩) hHeld ?rest0z
          case hy0z => intro w9 hSw; go_simp; (try with_reducible rfl)
          try simp only [Act.put, List.setIfInBounds_toArray, List.set_cons_zero, List.set_cons_succ]
          refine wpAnyH_take (i := 1) (oi := ⟨some 67, Op.load 22 (Operand.tmp 66), 22, _, _, _⟩) (v := ?v1z) rfl (by kernel_rfl) (by kernel_rfl) (by kernel_rfl) (fun _ _ _ h => h) (Or.inl ⟨by rfl, ?hy1z⟩) hHeld ?rest1z
          case hy1z => intro w9 hSw; have cc := cell_later C6.out hSw; go_simp; (try with_reducible rfl)
          try simp only [Act.put, List.setIfInBounds_toArray, List.set_cons_zero, List.set_cons_succ]
          refine wpAnyH_take (i := 2) (oi := ⟨some 68, Op.move (Operand.tmp 7), 3, _, _, _⟩) (v := ?v2z) rfl (by kernel_rfl) (by kernel_rfl) (by kernel_rfl) (fun _ _ _ h => h) (Or.inl ⟨by rfl, ?hy2z⟩) hHeld ?rest2z
          case hy2z => intro w9 hSw; go_simp; (try with_reducible rfl)
          try simp only [Act.put, List.setIfInBounds_toArray, List.set_cons_zero, List.set_cons_succ]
          refine wpAnyH_take (i := 3) (oi := ⟨some 69, Op.indexAddr 22 (Operand.tmp 67) (Operand.tmp 68), 0, _, _, _⟩) (v := ?v3z) rfl (by kernel_rfl) (by kernel_rfl) (by kernel_rfl) (fun _ _ _ h => h) (Or.inl ⟨by rfl, ?hy3z⟩) hHeld ?rest3z
          case hy3z => intro w9 hSw; go_simp; (try with_reducible rfl)
          try simp only [Act.put, List.setIfInBounds_toArray, List.set_cons_zero, List.set_cons_succ]
          refine wpAnyH_take (i := 4) (oi := ⟨some 70, Op.load 24 (Operand.tmp 69), 24, _, _, _⟩) (v := ?v4z) rfl (by kernel_rfl) (by kernel_rfl) (by kernel_rfl) (fun _ _ _ h => h) (Or.inl ⟨by rfl, ?hy4z⟩) hHeld ?rest4z
          case hy4z => intro w9 hSw; obtain ⟨d0, d1, d2, d3, d4, d5⟩ := N1.out.later hSw; go_simp; (try with_reducible rfl)
          try simp only [Act.put, List.setIfInBounds_toArray, List.set_cons_zero, List.set_cons_succ]
          refine wpAnyH_take (i := 5) (oi := ⟨some 71, Op.fieldAddr 24 (Operand.tmp 3) 5, 0, _, _, _⟩) (v := ?v5z) rfl (by kernel_rfl) (by kernel_rfl) (by kernel_rfl) (fun _ _ _ h => h) (Or.inl ⟨by rfl, ?hy5z⟩) hHeld ?rest5z
          case hy5z => intro w9 hSw; go_simp; (try with_reducible rfl)
          try simp only [Act.put, List.setIfInBounds_toArray, List.set_cons_zero, List.set_cons_succ]
          refine wpAnyH_take (i := 6) (oi := ⟨some 72, Op.load 22 (Operand.tmp 71), 22, _, _, _⟩) (v := ?v6z) rfl (by kernel_rfl) (by kernel_rfl) (by kernel_rfl) (fun _ _ _ h => h) (Or.inl ⟨by rfl, ?hy6z⟩) hHeld ?rest6z
          case hy6z => intro w9 hSw; have cc := cell_later E6.out hSw; go_simp; (try with_reducible rfl)
          try simp only [Act.put, List.setIfInBounds_toArray, List.set_cons_zero, List.set_cons_succ]
          refine wpAnyH_take (i := 7) (oi := ⟨some 73, Op.move (Operand.tmp 7), 3, _, _, _⟩) (v := ?v7z) rfl (by kernel_rfl) (by kernel_rfl) (by kernel_rfl) (fun _ _ _ h => h) (Or.inl ⟨by rfl, ?hy7z⟩) hHeld ?rest7z
          case hy7z => intro w9 hSw; go_simp; (try with_reducible rfl)
          try simp only [Act.put, List.setIfInBounds_toArray, List.set_cons_zero, List.set_cons_succ]
          refine wpAnyH_take (i := 8) (oi := ⟨some 74, Op.indexAddr 22 (Operand.tmp 72) (Operand.tmp 73), 0, _, _, _⟩) (v := ?v8z) rfl (by kernel_rfl) (by kernel_rfl) (by kernel_rfl) (fun _ _ _ h => h) (Or.inl ⟨by rfl, ?hy8z⟩) hHeld ?rest8z
          case hy8z => intro w9 hSw; go_simp; (try with_reducible rfl)
          try simp only [Act.put, List.setIfInBounds_toArray, List.set_cons_zero, List.set_cons_succ]
          refine wpAnyH_take (i := 9) (oi := ⟨some 75, Op.load 24 (Operand.tmp 74), 24, _, _, _⟩) (v := ?v9z) rfl (by kernel_rfl) (by kernel_rfl) (by kernel_rfl) (fun _ _ _ h => h) (Or.inl ⟨by rfl, ?hy9z⟩) hHeld ?rest9z
          case hy9z => intro w9 hSw; obtain ⟨d0, d1, d2, d3, d4, d5⟩ := N2.out.later hSw; go_simp; (try with_reducible rfl)
          try simp only [Act.put, List.setIfInBounds_toArray, List.set_cons_zero, List.set_cons_succ]
          refine wpAnyH_ready (rs := [10]) (by kernel_rfl) (by simp) ?_
          refine AllReadyH.cons (o := ⟨some 76, Op.call { callee := Callee.value (Operand.func 10), args := #[Operand.tmp 70, Operand.tmp 75], argTypes := #[24, 24] }, 3, _, _, _⟩) rfl (fun K hK => ?_) AllReadyH.nil
          go_simp
          refine (hc.out _ hHeld).mono ?_
          rintro e x10 ⟨rfl, hN10⟩
          go_wp2_with fail
          have hT10 : Below wr.heap.size wr x10 := hT.trans (hN10.mono hT.size)
          refine hK.out _ _ (hHeld.trans (hN10.mono hHeld.size)) (fun _ => held_up (S' := fun w' => Below x10.heap.size x10 w') (fun w' h' => (hHeld.trans (hN10.mono hHeld.size)).trans (h'.mono (Nat.le_trans hHeld.size hN10.size))) _ _ _ _ ?_)
          clear hK K hHeld hT
          have hT : Below wr.heap.size wr x10 := hT10
          have hHeld : Below x10.heap.size x10 x10 := Below.refl _ _
          clear hT10 hN10
          try simp only [Act.put, List.setIfInBounds_toArray, List.set_cons_zero, List.set_cons_succ]
          refine wpAnyH_take (i := 11) (oi := ⟨some 8, Op.assign (Operand.tmp 76), 3, _, _, _⟩) (v := ?v11z) rfl (by kernel_rfl) (by kernel_rfl) (by kernel_rfl) (fun _ _ _ h => h) (Or.inl ⟨by rfl, ?hy11z⟩) hHeld ?rest11z
          case hy11z => intro w9 hSw; go_simp; (try with_reducible rfl)
          try simp only [Act.put, List.setIfInBounds_toArray, List.set_cons_zero, List.set_cons_succ]
          refine wpAnyH_done (by kernel_rfl) ?_ _
          refine NoPanic.normal ?_
          have hB3 := hBz.trans (hT.mono hBz.size)
          by_cases hv : q = 0
          · have HW : Hid (q = 0) := hv
            have hv' : (q == 0) = true := by simpa using hv
            clear hv
            go_wp2
            go_roundw
            case rel => exact ⟨j + 1, HJ.out, by go_num, lexN_on G0.out (by rw [← HQ.out]; exact HW.out), hB3⟩
            case measure => have := HJ.out; simp [intOf]; omega
          · have HW : Hid (¬ q = 0) := hv
            have hv' : (q == 0) = false := by simpa using hv
            clear hv
            go_wp2
            try rw [Exit.noGoto_ret]
            go_ret
            refine ⟨ret_int ?_, HB.out.trans ((HD.out.trans (hB3.mono HD.out.size)).mono HB.out.size)⟩
            rw [HR2.out, lexN_not (f := fun i => formP (x.c i) (y.c i)) G0.out (by rw [← HQ.out]; exact HW.out) HJ.out]
            exact HQ.out
        · obtain rfl : j = x.n := by omega
          go_wp2
          go_ret
          exact ⟨ret_int (by rw [HR2.out, G0.out]), HB.out.trans ((HD.out.trans (hBz.mono HD.out.size)).mono HB.out.size)⟩
theorem own_lowO {w : World} {B B' e k n : Nat} {v : Value} {xs : List Value} (h : w.ownsRow B e k v n xs) (hB : B' ≤ B) : w.ownsRow B' e k v n xs := by
  obtain ⟨h1, h2⟩ := h
  refine ⟨h1, ?_⟩
  rcases h2 with h2 | ⟨g, cap, cur, h3, h4, h5⟩
  · exact .inl h2
  · exact .inr ⟨g, cap, cur, h3, by omega, h5⟩
/-- Some texts more behind a row that the call owns. -/
theorem push_strs {w : World} {base n : Nat} {v : Value} {l : List ByteArray} (h : w.ownsRow base 9 1 v n (cellsS l)) (hb : base ≤ w.heap.size) {base2 m : Nat} {v2 : Value} {l2 : List ByteArray} (h2 : w.ownsRow base2 9 1 v2 m (cellsS l2)) (hm : 0 < m) (hn : n + m ≤ 2097152) :
    ∃ v' w', (Builtin.append_ #[42, 42] 42 #[v, v2]).run Try.prog w = .ok v' w' ∧ w'.ownsRow base 9 1 v' (n + m) (cellsS (l ++ l2)) ∧ Below base w w' := by
  obtain ⟨a, cap, rfl, hx, hl, hc⟩ := own_txs h2
  obtain ⟨b, o, rfl, hcell⟩ := hx hm
  obtain ⟨i0, hi, hz0, hz1, hz2⟩ := info_parts infoS
  obtain ⟨v', w', hrun, hown', hgrow, _⟩ := run_append_own (P := Try.prog) (w := w) base 42 42 9 i0 (.string ⟨#[]⟩) 1 16 Try.underlying42 hi hz0 hz1 hz2 rfl (by decide) v _ _ h ⟨b, o, none⟩ m cap (cellsS l2) (by simp [cellsS, hl])
    (fun j u hu => by
      have hj : j < l2.length := by have := (List.getElem?_eq_some_iff.1 hu).1; simpa [cellsS] using this
      rw [add_none, hcell j (by omega)]
      simp [cellsS, hj] at hu
      simp [atS, hj, hu]) (by intro u hu; simp [cellsS] at hu; obtain ⟨s, _, rfl⟩ := hu; rfl) (by unfold maxLen; omega) (by omega) hb
  refine ⟨v', w', hrun, ?_, (Below.refl base w).grown hgrow hb fun k e => (h.lt k e).1⟩
  have e : cellsS (l ++ l2) = cellsS l ++ cellsS l2 := by simp [cellsS]
  rw [e]
  exact hown'
/-- The first Vars. -/
def vrsK (x : Pt) (k : Nat) : List ByteArray := x.s :: catN (fun i => vrs (x.c i)) k
theorem vrsK_len (x : Pt) : ∀ k, (vrsK x k).length = 1 + sumN (fun i => (x.c i).size) k
  | 0 => rfl
  | k + 1 => by
    have := vrsK_len x k
    simp only [vrsK, catN, sumN, List.length_cons, List.length_append, vrs_len] at this ⊢
    omega
set_option maxRecDepth 100000 in
set_option maxHeartbeats 8000000 in
theorem refVars_any : ∀ (x : Pt) (w : World), IsP w x → x.size ≤ 1048576 → Calls Try.prog 29 #[x.val] w fun e w' => ∃ v, e = .returned v ∧ w'.ownsRow w.heap.size 9 1 v x.size (cellsS (vrs x)) ∧ Below w.heap.size w w' := by
  refine Pt.ind fun x ih w hX hsm => ?_
  have HI : Hid (∀ i, i < x.n → ∀ w, IsP w (x.c i) → Calls Try.prog 29 #[(x.c i).val] w fun e w' => ∃ v, e = .returned v ∧ w'.ownsRow w.heap.size 9 1 v (x.c i).size (cellsS (vrs (x.c i))) ∧ Below w.heap.size w w') := fun i hi w h => ih i hi w h (by have := x.size_part i hi; omega)
  have HX : Hid (IsP w x) := hX
  have hlen := hX.len
  have HS : Hid (∀ k, k < x.n → 1 + sumN (fun i => (x.c i).size) k + (x.c k).size ≤ 1048576) := fun k hk => by have := sumN_part (f := fun i => (x.c i).size) hk; have := x.size_eq; omega
  obtain ⟨A, hA, hB0, hs, hN⟩ := boxP_one x w
  have HB : Hid (Below w.heap.size w A) := hB0
  have HN : Hid (NodeP A w.heap.size 0 x) := hN
  obtain ⟨-, c1, -, -, -, -⟩ := hN.at0
  have HE : Hid (1 + sumN (fun i => (x.c i).size) x.n = x.size ∧ vrsK x x.n = vrs x) := ⟨x.size_eq.symm, (vrs_eq x).symm⟩
  have O1 : Hid ((A.alloc (.cells #[.string x.s] 9)).ownsRow A.heap.size 9 1 (.slice (some ⟨A.heap.size, 0, none⟩) 1 1) 1 (cellsS (vrsK x 0))) :=
    ⟨rfl, .inr ⟨A.heap.size, 1, #[.string x.s], rfl, Nat.le_refl _, alloc_new A _, Nat.le_refl _, by unfold maxLen; omega, rfl, rfl⟩⟩
  have B1 : Hid (Below A.heap.size A (A.alloc (.cells #[.string x.s] 9))) := (Below.refl _ _).alloc (Nat.le_refl _) _
  have HSA : Hid (A.heap.size = w.heap.size + 1) := hs
  clear ih hX hB0 hN hsm hs
  go_enter Try.func29, Try.ntmps29
  go_wp2_with fail
  go_loopw [3, 4] (fun u v wr => ∃ k : Nat, k ≤ x.n ∧ Hid (wr.ownsRow A.heap.size 9 1 u (1 + sumN (fun i => (x.c i).size) k) (cellsS (vrsK x k))) ∧ v = .int .i64 k ∧ Below A.heap.size A wr) (fun _ v _ => x.n - (intOf v).toNat)
  case atStart => exact ⟨0, Nat.zero_le _, O1, rfl, B1.out⟩
  case round =>
    obtain ⟨k, hk, HO, rfl, hB⟩ := hrel
    obtain ⟨-, -, -, -, -, c6⟩ := (nodeP_on HN.out (hB.mono (by have := HSA.out; omega))).at0
    have hw := HB.out.trans (hB.mono (by have := HSA.out; omega))
    by_cases hkn : k < x.n
    · obtain ⟨b, o, ea, hn, hx⟩ := (HX.out.later hw).part hkn
      rw [ea] at c6
      obtain ⟨d0, d1, d2, d3, d4, d5⟩ := hn
      have hc := HI.out k hkn wr hx
      have HK : Hid (k < x.n) := hkn
      have hb := HS.out k hkn
      have HP : Hid (0 < (x.c k).size) := (x.c k).size_pos
      have HE2 : Hid (1 + sumN (fun i => (x.c i).size) (k + 1) = 1 + sumN (fun i => (x.c i).size) k + (x.c k).size ∧ vrsK x (k + 1) = vrsK x k ++ vrs (x.c k)) := ⟨by simp only [sumN]; omega, by simp [vrsK, catN]⟩
      generalize 1 + sumN (fun i => (x.c i).size) k = p at hb HE2 HO ⊢
      generalize (x.c k).size = q at hc hb HE2 HP
      have HBD : Hid (p + q ≤ 1048576) := hb
      clear hx hw hb ea
      go_wp2_with (first
        | (go_at_call 29; refine hc.mono ?_; rintro e w2 ⟨v2, rfl, own2, hB2⟩; obtain ⟨v3, w3, run3, own3, hB3⟩ := push_strs (own_laterS HO.out hB2) (Nat.le_trans hB.size hB2.size) own2 HP.out (by have := HBD.out; omega))
        | (at_builtin; refine wpList_append_run rfl (.tmp 15) (.tmp 21) 42 rfl _ _ _ rfl rfl run3 ?_))
      exact ⟨⟨k + 1, HK.out, by show World.ownsRow _ _ _ _ _ _ _; rw [HE2.out.1, HE2.out.2]; simpa using own3, by simp, (hB.trans (hB2.mono hB.size)).trans hB3⟩, by have := HK.out; simp [intOf]; omega⟩
    · have hk' : k = x.n := by omega
      subst hk'
      go_wp2
      go_ret
      refine ⟨_, rfl, ?_, hw⟩
      have := HO.out
      rw [HE.out.1, HE.out.2] at this
      exact own_lowO this (by have := HSA.out; omega)
set_option maxRecDepth 100000 in
set_option maxHeartbeats 8000000 in
theorem refWhole_any (x y : Pt) (w : World) (hX : IsP w x) (hY : IsP w y) (hx : x.size ≤ 1048576) (hy : y.size ≤ 1048576) : Calls Try.prog 12 #[x.val, y.val] w fun e w' => e = .returned (.int .i64 (wholeP x y)) ∧ Below w.heap.size w w' := by
  obtain ⟨A, hA, hB, hs, hn, hm⟩ := boxP_two x y w
  have HB : Hid (Below w.heap.size w A) := hB
  have HX : Hid (NodeP A w.heap.size 0 x) := hn
  have HY : Hid (NodeP A (w.heap.size + 1) 0 y) := hm
  have ca : Hid (Calls Try.prog 10 #[x.val, y.val] A fun e w' => e = .returned (.int .i64 (formP x y)) ∧ Below A.heap.size A w') := refForm_any x y A (hX.later hB) (hY.later hB)
  have HVx : Hid (∀ d, Below w.heap.size w d → Calls Try.prog 29 #[x.val] d fun e w' => ∃ v, e = .returned v ∧ w'.ownsRow d.heap.size 9 1 v x.size (cellsS (vrs x)) ∧ Below d.heap.size d w') := fun d hd => refVars_any x d (hX.later hd) hx
  have HVy : Hid (∀ d, Below w.heap.size w d → Calls Try.prog 29 #[y.val] d fun e w' => ∃ v, e = .returned v ∧ w'.ownsRow d.heap.size 9 1 v y.size (cellsS (vrs y)) ∧ Below d.heap.size d w') := fun d hd => refVars_any y d (hY.later hd) hy
  have EQ : Hid (formP x y = 0 → x.size = y.size ∧ varP x y = lexN (fun i => cmpS (atS (vrs x) i) (atS (vrs y) i)) x.size) := fun e => ⟨form_size x y e, by
    rw [← lexS_vrs x y e, lexS_lex _ _ (by rw [vrs_len, vrs_len, form_size x y e]), vrs_len]; rfl⟩
  have HR : Hid (wholeP x y = orI (formP x y) (varP x y)) := rfl
  have HM : Hid (x.size ≤ 1048576) := hx
  generalize wholeP x y = r at HR ⊢
  generalize formP x y = q at HR ca EQ
  generalize varP x y = l at HR EQ
  obtain ⟨a0, a1, a2, a3, a4, a5⟩ := hn.at0
  obtain ⟨b0, b1, b2, b3, b4, b5⟩ := hm.at0
  clear hX hY hB hn hm hs hx hy
  by_cases hz : q = 0
  · obtain ⟨es, el⟩ := EQ.out hz
    have HR' : Hid (r = lexN (fun i => cmpS (atS (vrs x) i) (atS (vrs y) i)) x.size) := by show r = _; rw [HR.out, hz, ← el]; rfl
    rw [← es] at HVy
    have hz' : (q != 0) = false := by simpa using hz
    clear EQ HR hz es el
    generalize x.size = n at HVx HVy HR' HM
    have hn : n ≤ 1048576 := HM.out
    go_enter Try.func12, Try.ntmps12
    go_wp2_with (first
      | (go_at_call 10; refine ca.out.mono ?_; rintro e w2 ⟨rfl, hB2⟩; have hA2 := HB.out.trans (hB2.mono HB.out.size); obtain ⟨c0, c1, c2, c3, c4, c5⟩ := (HX.out.later hB2).at0)
      | (go_at_call 29; refine (HVy.out _ (hA2.trans (hB3.mono hA2.size))).mono ?_; rintro e w4 ⟨v4, rfl, own4, hB4⟩; obtain ⟨p4, m4, rfl, t4, -, -⟩ := own_txs own4; have hB5 : Below w.heap.size w w4 := (hA2.trans (hB3.mono hA2.size)).trans (hB4.mono (hA2.trans (hB3.mono hA2.size)).size); have T3 : Hid (Txs w4 _ _ _) := t3.out.later hB4; have T4 : Hid (Txs w4 _ _ _) := t4; clear t4 own4)
      | (go_at_call 29; refine (HVx.out _ hA2).mono ?_; rintro e w3 ⟨v3, rfl, own3, hB3⟩; obtain ⟨p3, m3, rfl, t3', -, -⟩ := own_txs own3; have t3 : Hid (Txs w3 _ _ _) := t3'; clear t3' own3; obtain ⟨e0, e1, e2, e3, e4, e5⟩ := (HY.out.later (hB2.trans (hB3.mono hB2.size))).at0))
    go_loopw [8] (fun u wr => ∃ k : Nat, k ≤ n ∧ u = .int .i64 k ∧ Hid (lexN (fun i => cmpS (atS (vrs x) i) (atS (vrs y) i)) k = 0) ∧ Below w4.heap.size w4 wr) (fun u _ => n - (intOf u).toNat)
    case atStart => exact ⟨0, Nat.zero_le _, rfl, rfl, Below.refl _ _⟩
    case round =>
      obtain ⟨k, hk, rfl, H0, hBr⟩ := hrel
      have HBr : Hid (Below w4.heap.size w4 wr) := hBr
      by_cases hkn : k < n
      · obtain ⟨g3, o3, rfl, k3⟩ := (T3.out.later hBr) (by omega)
        obtain ⟨g4, o4, rfl, k4⟩ := (T4.out.later hBr) (by omega)
        have C1 : Hid (wr.cell? ⟨g3, o3 + k, none⟩ = some (.string (atS (vrs x) k))) := k3 k hkn
        have C2 : Hid (wr.cell? ⟨g4, o4 + k, none⟩ = some (.string (atS (vrs y) k))) := k4 k hkn
        have HK : Hid (k < n) := hkn
        obtain ⟨q2, hq⟩ : ∃ q2, q2 = cmpS (atS (vrs x) k) (atS (vrs y) k) := ⟨_, rfl⟩
        have HQ : Hid (q2 = cmpS (atS (vrs x) k) (atS (vrs y) k)) := hq
        have hc : Hid (∀ d, Calls Try.prog 27 #[.string (atS (vrs x) k), .string (atS (vrs y) k)] d fun e w' => e = .returned (.int .i64 q2) ∧ w' = d) := fun d => by rw [hq]; exact refText_any _ _ d
        generalize atS (vrs x) k = s1 at C1 hc
        generalize atS (vrs y) k = s2 at C2 hc
        clear k3 k4 hq hBr
        go_wp2_with fail
        refine wp_region_noPanic ?_
        refine wp_region_held_drew (S := fun w' => Below wr.heap.size wr w') (by kernel_rfl) ((Below.refl _ _).drew) (fun hHeld => ?_)
        obtain ⟨d, hd⟩ : ∃ d, d = wr.drew := ⟨_, rfl⟩
        rw [← hd] at hHeld ⊢
        clear hd
        refine wpAnyH_take (i := 0) (oi := ⟨some 32, Op.move (Operand.tmp 6), 42, _, _, _⟩) (v := ?v0) rfl (by kernel_rfl) (by kernel_rfl) (by kernel_rfl) (fun _ _ _ h => h) (Or.inl ⟨by rfl, ?hy0⟩) hHeld ?rest0
        case hy0 => intro w9 hSw; go_simp; (try with_reducible rfl)
        try simp only [Act.put, List.setIfInBounds_toArray, List.set_cons_zero, List.set_cons_succ]
        refine wpAnyH_take (i := 1) (oi := ⟨some 33, Op.move (Operand.tmp 8), 3, _, _, _⟩) (v := ?v1) rfl (by kernel_rfl) (by kernel_rfl) (by kernel_rfl) (fun _ _ _ h => h) (Or.inl ⟨by rfl, ?hy1⟩) hHeld ?rest1
        case hy1 => intro w9 hSw; go_simp; (try with_reducible rfl)
        try simp only [Act.put, List.setIfInBounds_toArray, List.set_cons_zero, List.set_cons_succ]
        refine wpAnyH_take (i := 2) (oi := ⟨some 34, Op.indexAddr 42 (Operand.tmp 32) (Operand.tmp 33), 0, _, _, _⟩) (v := ?v2) rfl (by kernel_rfl) (by kernel_rfl) (by kernel_rfl) (fun _ _ _ h => h) (Or.inl ⟨by rfl, ?hy2⟩) hHeld ?rest2
        case hy2 => intro w9 hSw; go_simp; (try with_reducible rfl)
        try simp only [Act.put, List.setIfInBounds_toArray, List.set_cons_zero, List.set_cons_succ]
        refine wpAnyH_take (i := 3) (oi := ⟨some 35, Op.load 9 (Operand.tmp 34), 9, _, _, _⟩) (v := ?v3) rfl (by kernel_rfl) (by kernel_rfl) (by kernel_rfl) (fun _ _ _ h => h) (Or.inl ⟨by rfl, ?hy3⟩) hHeld ?rest3
        case hy3 => intro w9 hSw; have cc := cell_later C1.out hSw; go_simp; (try with_reducible rfl)
        try simp only [Act.put, List.setIfInBounds_toArray, List.set_cons_zero, List.set_cons_succ]
        refine wpAnyH_take (i := 4) (oi := ⟨some 36, Op.move (Operand.tmp 7), 42, _, _, _⟩) (v := ?v4) rfl (by kernel_rfl) (by kernel_rfl) (by kernel_rfl) (fun _ _ _ h => h) (Or.inl ⟨by rfl, ?hy4⟩) hHeld ?rest4
        case hy4 => intro w9 hSw; go_simp; (try with_reducible rfl)
        try simp only [Act.put, List.setIfInBounds_toArray, List.set_cons_zero, List.set_cons_succ]
        refine wpAnyH_take (i := 5) (oi := ⟨some 37, Op.move (Operand.tmp 8), 3, _, _, _⟩) (v := ?v5) rfl (by kernel_rfl) (by kernel_rfl) (by kernel_rfl) (fun _ _ _ h => h) (Or.inl ⟨by rfl, ?hy5⟩) hHeld ?rest5
        case hy5 => intro w9 hSw; go_simp; (try with_reducible rfl)
        try simp only [Act.put, List.setIfInBounds_toArray, List.set_cons_zero, List.set_cons_succ]
        refine wpAnyH_take (i := 6) (oi := ⟨some 38, Op.indexAddr 42 (Operand.tmp 36) (Operand.tmp 37), 0, _, _, _⟩) (v := ?v6) rfl (by kernel_rfl) (by kernel_rfl) (by kernel_rfl) (fun _ _ _ h => h) (Or.inl ⟨by rfl, ?hy6⟩) hHeld ?rest6
        case hy6 => intro w9 hSw; go_simp; (try with_reducible rfl)
        try simp only [Act.put, List.setIfInBounds_toArray, List.set_cons_zero, List.set_cons_succ]
        refine wpAnyH_take (i := 7) (oi := ⟨some 39, Op.load 9 (Operand.tmp 38), 9, _, _, _⟩) (v := ?v7) rfl (by kernel_rfl) (by kernel_rfl) (by kernel_rfl) (fun _ _ _ h => h) (Or.inl ⟨by rfl, ?hy7⟩) hHeld ?rest7
        case hy7 => intro w9 hSw; have cc := cell_later C2.out hSw; go_simp; (try with_reducible rfl)
        try simp only [Act.put, List.setIfInBounds_toArray, List.set_cons_zero, List.set_cons_succ]
        refine wpAnyH_ready (rs := [8]) (by kernel_rfl) (by simp) ?_
        refine AllReadyH.cons (o := ⟨some 40, Op.call { callee := Callee.value (Operand.func 27), args := #[Operand.tmp 35, Operand.tmp 39], argTypes := #[9, 9] }, 3, _, _, _⟩) rfl (fun K hK => ?_) AllReadyH.nil
        go_simp
        refine (hc.out _).mono ?_
        rintro e x8 ⟨rfl, hx8⟩
        replace hx8 := hx8.symm
        subst hx8
        go_wp2_with fail
        refine hK.out _ _ hHeld (fun _ => ?_)
        clear hK K
        try simp only [Act.put, List.setIfInBounds_toArray, List.set_cons_zero, List.set_cons_succ]
        refine wpAnyH_take (i := 9) (oi := ⟨some 9, Op.assign (Operand.tmp 40), 3, _, _, _⟩) (v := ?v9) rfl (by kernel_rfl) (by kernel_rfl) (by kernel_rfl) (fun _ _ _ h => h) (Or.inl ⟨by rfl, ?hy9⟩) hHeld ?rest9
        case hy9 => intro w9 hSw; go_simp; (try with_reducible rfl)
        try simp only [Act.put, List.setIfInBounds_toArray, List.set_cons_zero, List.set_cons_succ]
        refine wpAnyH_done (by kernel_rfl) ?_ _
        refine NoPanic.normal ?_
        by_cases hv : q2 = 0
        · have HW : Hid (q2 = 0) := hv
          have hv' : (q2 != 0) = false := by simpa using hv
          clear hv
          go_wp2
          go_roundw
          case rel => exact ⟨k + 1, HK.out, by go_num, lexN_on H0.out (HQ.out.symm.trans HW.out), HBr.out.trans (hHeld.mono HBr.out.size)⟩
          case measure => have := HK.out; simp [intOf]; omega
        · have HW : Hid (¬ q2 = 0) := hv
          have hv' : (q2 != 0) = true := by simpa using hv
          clear hv
          go_wp2
          try rw [Exit.noGoto_ret]
          go_ret
          refine ⟨ret_int ?_, hB5.trans ((HBr.out.trans (hHeld.mono HBr.out.size)).mono hB5.size)⟩
          rw [HR'.out, lexN_not (f := fun i => cmpS (atS (vrs x) i) (atS (vrs y) i)) H0.out (by rw [← HQ.out]; exact HW.out) HK.out]
          exact HQ.out
      · obtain rfl : k = n := by omega
        go_wp2
        go_ret
        exact ⟨ret_int (by rw [HR'.out, H0.out]), hB5.trans (HBr.out.mono hB5.size)⟩
  · have HR' : Hid (r = q) := by show r = q; rw [HR.out, orI, if_neg hz]
    have hz' : (q != 0) = true := by simpa using hz
    clear EQ HR hz
    go_enter Try.func12, Try.ntmps12
    go_wp2_with (go_at_call 10; refine ca.out.mono ?_; rintro e w2 ⟨rfl, hB2⟩)
    go_ret
    exact ⟨ret_int HR'.out.symm, HB.out.trans (hB2.mono HB.out.size)⟩
end Go.Proofs.Ytmbinllefkifiaa
