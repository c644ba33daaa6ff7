/-
  The document's Order of conditions.
-/
import Derived.Test.YtjclelmbpmlioaaJBrief
import Derived.Test.YtjclelmbpmlioaaJExprRefRen
import Derived.Deep.DeepCutAuto
namespace Go.Proofs.Ytjclelmbpmlioaa
open Go.RowKit

theorem lexN_on {f : Nat → Int} {j : Nat} (h : lexN f j = 0) (g : f j = 0) : lexN f (j + 1) = 0 := by show (if lexN f j = 0 then f j else lexN f j) = 0; rw [if_pos h]; exact g
set_option maxRecDepth 100000 in
set_option maxHeartbeats 8000000 in
theorem refOrder_any : ∀ (x y : X) (w : World), IsX w x → IsX w y → Calls Try.prog 51 #[x.val, y.val] w fun e w' => e = .returned (.int .i64 (ordX x y)) ∧ Below w.heap.size w w' := by
  refine X.ind fun x ih y w hX hY => ?_
  obtain ⟨r, hr⟩ : ∃ r, r = ordX x y := ⟨_, rfl⟩
  rw [← hr]
  have HR : Hid (r = ordX x y) := hr
  have HI : Hid (∀ i, i < x.n → ∀ w, IsX w (x.c i) → IsX w (y.c i) → Calls Try.prog 51 #[(x.c i).val, (y.c i).val] w fun e w' => e = .returned (.int .i64 (ordX (x.c i) (y.c i))) ∧ Below w.heap.size w w') := fun i hi w h1 h2 => ih i hi (y.c i) w h1 h2
  have hlx := hX.len
  have hly := hY.len
  obtain ⟨W, hA, hB, hs, hn, hm⟩ := two_boxes x y w
  have HB : Hid (Below w.heap.size w W) := hB
  have HX : Hid (Node W w.heap.size 0 x) := hn
  have HY : Hid (Node W (w.heap.size + 1) 0 y) := hm
  have IX : Hid (∀ d, Below W.heap.size W d → IsX d x) := fun d h => (hX.later hB).later h
  have IY : Hid (∀ d, Below W.heap.size W d → IsX d y) := fun d h => (hY.later hB).later h
  clear ih hX hY hr hB hn hm
  go_enter Try.func51, Try.ntmps51
  go_wp2_with fail
  refine wp_region_noPanic ?_
  refine wp_region_held_drew (S := fun w' => Below W.heap.size W w') (by kernel_rfl) ((Below.refl _ _).drew) (fun hHeld => ?_)
  have hT : Below W.heap.size W W.drew := hHeld
  obtain ⟨d, hd⟩ : ∃ d, d = W.drew := ⟨_, rfl⟩
  rw [← hd] at hHeld hT ⊢
  clear hd
  refine wpAnyH_take (i := 0) (oi := ⟨some 9, .fieldAddr 68 (.tmp 2) 0, 0, _, _, _⟩) (v := ?v0) rfl (by kernel_rfl) (by kernel_rfl) (by kernel_rfl) (fun _ _ _ h => h) (Or.inl ⟨by rfl, ?hy0⟩) hHeld ?rest0
  case hy0 => intro w9 hSw; go_simp; (try with_reducible rfl)
  try simp only [Act.put, s_put, s_0, s_1]
  refine wpAnyH_take (i := 1) (oi := ⟨some 10, .load 3 (.tmp 9), 3, _, _, _⟩) (v := ?v1) rfl (by kernel_rfl) (by kernel_rfl) (by kernel_rfl) (fun _ _ _ h => h) (Or.inl ⟨by rfl, ?hy1⟩) hHeld ?rest1
  case hy1 => intro w9 hSw; have nn := (HX.out.later hSw).at0; have c0 := nn.1; clear nn; go_simp; (try with_reducible rfl)
  try simp only [Act.put, s_put, s_0, s_1]
  refine wpAnyH_take (i := 2) (oi := ⟨some 11, .fieldAddr 68 (.tmp 3) 0, 0, _, _, _⟩) (v := ?v2) rfl (by kernel_rfl) (by kernel_rfl) (by kernel_rfl) (fun _ _ _ h => h) (Or.inl ⟨by rfl, ?hy2⟩) hHeld ?rest2
  case hy2 => intro w9 hSw; go_simp; (try with_reducible rfl)
  try simp only [Act.put, s_put, s_0, s_1]
  refine wpAnyH_take (i := 3) (oi := ⟨some 12, .load 3 (.tmp 11), 3, _, _, _⟩) (v := ?v3) rfl (by kernel_rfl) (by kernel_rfl) (by kernel_rfl) (fun _ _ _ h => h) (Or.inl ⟨by rfl, ?hy3⟩) hHeld ?rest3
  case hy3 => intro w9 hSw; have nn := (HY.out.later hSw).at0; have c0 := nn.1; clear nn; go_simp; (try with_reducible rfl)
  try simp only [Act.put, s_put, s_0, s_1]
  refine wpAnyH_take (i := 5) (oi := ⟨some 14, .fieldAddr 68 (.tmp 2) 1, 0, _, _, _⟩) (v := ?v5) rfl (by kernel_rfl) (by kernel_rfl) (by kernel_rfl) (fun _ _ _ h => h) (Or.inl ⟨by rfl, ?hy5⟩) hHeld ?rest5
  case hy5 => intro w9 hSw; go_simp; (try with_reducible rfl)
  try simp only [Act.put, s_put, s_0, s_1]
  refine wpAnyH_take (i := 6) (oi := ⟨some 15, .load 66 (.tmp 14), 66, _, _, _⟩) (v := ?v6) rfl (by kernel_rfl) (by kernel_rfl) (by kernel_rfl) (fun _ _ _ h => h) (Or.inl ⟨by rfl, ?hy6⟩) hHeld ?rest6
  case hy6 => intro w9 hSw; have nn := (HX.out.later hSw).at0; have c0 := nn.2.1; have c1 := nn.2.2.1; have c2 := nn.2.2.2.1; clear nn; go_simp; (try with_reducible rfl)
  try simp only [Act.put, s_put, s_0, s_1]
  refine wpAnyH_take (i := 7) (oi := ⟨some 16, .fieldAddr 68 (.tmp 3) 1, 0, _, _, _⟩) (v := ?v7) rfl (by kernel_rfl) (by kernel_rfl) (by kernel_rfl) (fun _ _ _ h => h) (Or.inl ⟨by rfl, ?hy7⟩) hHeld ?rest7
  case hy7 => intro w9 hSw; go_simp; (try with_reducible rfl)
  try simp only [Act.put, s_put, s_0, s_1]
  refine wpAnyH_take (i := 8) (oi := ⟨some 17, .load 66 (.tmp 16), 66, _, _, _⟩) (v := ?v8) rfl (by kernel_rfl) (by kernel_rfl) (by kernel_rfl) (fun _ _ _ h => h) (Or.inl ⟨by rfl, ?hy8⟩) hHeld ?rest8
  case hy8 => intro w9 hSw; have nn := (HY.out.later hSw).at0; have c0 := nn.2.1; have c1 := nn.2.2.1; have c2 := nn.2.2.2.1; clear nn; go_simp; (try with_reducible rfl)
  try simp only [Act.put, s_put, s_0, s_1]
  refine wpAnyH_take (i := 10) (oi := ⟨some 19, .fieldAddr 68 (.tmp 2) 2, 0, _, _, _⟩) (v := ?v10) rfl (by kernel_rfl) (by kernel_rfl) (by kernel_rfl) (fun _ _ _ h => h) (Or.inl ⟨by rfl, ?hy10⟩) hHeld ?rest10
  case hy10 => intro w9 hSw; go_simp; (try with_reducible rfl)
  try simp only [Act.put, s_put, s_0, s_1]
  refine wpAnyH_take (i := 11) (oi := ⟨some 20, .load 9 (.tmp 19), 9, _, _, _⟩) (v := ?v11) rfl (by kernel_rfl) (by kernel_rfl) (by kernel_rfl) (fun _ _ _ h => h) (Or.inl ⟨by rfl, ?hy11⟩) hHeld ?rest11
  case hy11 => intro w9 hSw; have nn := (HX.out.later hSw).at0; have c0 := nn.2.2.2.2.1; clear nn; go_simp; (try with_reducible rfl)
  try simp only [Act.put, s_put, s_0, s_1]
  refine wpAnyH_take (i := 12) (oi := ⟨some 21, .fieldAddr 68 (.tmp 3) 2, 0, _, _, _⟩) (v := ?v12) rfl (by kernel_rfl) (by kernel_rfl) (by kernel_rfl) (fun _ _ _ h => h) (Or.inl ⟨by rfl, ?hy12⟩) hHeld ?rest12
  case hy12 => intro w9 hSw; go_simp; (try with_reducible rfl)
  try simp only [Act.put, s_put, s_0, s_1]
  refine wpAnyH_take (i := 13) (oi := ⟨some 22, .load 9 (.tmp 21), 9, _, _, _⟩) (v := ?v13) rfl (by kernel_rfl) (by kernel_rfl) (by kernel_rfl) (fun _ _ _ h => h) (Or.inl ⟨by rfl, ?hy13⟩) hHeld ?rest13
  case hy13 => intro w9 hSw; have nn := (HY.out.later hSw).at0; have c0 := nn.2.2.2.2.1; clear nn; go_simp; (try with_reducible rfl)
  try simp only [Act.put, s_put, s_0, s_1]
  refine wpAnyH_take (i := 15) (oi := ⟨some 24, .fieldAddr 68 (.tmp 2) 3, 0, _, _, _⟩) (v := ?v15) rfl (by kernel_rfl) (by kernel_rfl) (by kernel_rfl) (fun _ _ _ h => h) (Or.inl ⟨by rfl, ?hy15⟩) hHeld ?rest15
  case hy15 => intro w9 hSw; go_simp; (try with_reducible rfl)
  try simp only [Act.put, s_put, s_0, s_1]
  refine wpAnyH_take (i := 16) (oi := ⟨some 25, .load 9 (.tmp 24), 9, _, _, _⟩) (v := ?v16) rfl (by kernel_rfl) (by kernel_rfl) (by kernel_rfl) (fun _ _ _ h => h) (Or.inl ⟨by rfl, ?hy16⟩) hHeld ?rest16
  case hy16 => intro w9 hSw; have nn := (HX.out.later hSw).at0; have c0 := nn.2.2.2.2.2.1; clear nn; go_simp; (try with_reducible rfl)
  try simp only [Act.put, s_put, s_0, s_1]
  refine wpAnyH_take (i := 17) (oi := ⟨some 26, .fieldAddr 68 (.tmp 3) 3, 0, _, _, _⟩) (v := ?v17) rfl (by kernel_rfl) (by kernel_rfl) (by kernel_rfl) (fun _ _ _ h => h) (Or.inl ⟨by rfl, ?hy17⟩) hHeld ?rest17
  case hy17 => intro w9 hSw; go_simp; (try with_reducible rfl)
  try simp only [Act.put, s_put, s_0, s_1]
  refine wpAnyH_take (i := 18) (oi := ⟨some 27, .load 9 (.tmp 26), 9, _, _, _⟩) (v := ?v18) rfl (by kernel_rfl) (by kernel_rfl) (by kernel_rfl) (fun _ _ _ h => h) (Or.inl ⟨by rfl, ?hy18⟩) hHeld ?rest18
  case hy18 => intro w9 hSw; have nn := (HY.out.later hSw).at0; have c0 := nn.2.2.2.2.2.1; clear nn; go_simp; (try with_reducible rfl)
  try simp only [Act.put, s_put, s_0, s_1]
  refine wpAnyH_take (i := 20) (oi := ⟨some 29, .fieldAddr 68 (.tmp 2) 4, 0, _, _, _⟩) (v := ?v20) rfl (by kernel_rfl) (by kernel_rfl) (by kernel_rfl) (fun _ _ _ h => h) (Or.inl ⟨by rfl, ?hy20⟩) hHeld ?rest20
  case hy20 => intro w9 hSw; go_simp; (try with_reducible rfl)
  try simp only [Act.put, s_put, s_0, s_1]
  refine wpAnyH_take (i := 21) (oi := ⟨some 30, .load 38 (.tmp 29), 38, _, _, _⟩) (v := ?v21) rfl (by kernel_rfl) (by kernel_rfl) (by kernel_rfl) (fun _ _ _ h => h) (Or.inl ⟨by rfl, ?hy21⟩) hHeld ?rest21
  case hy21 => intro w9 hSw; have nn := (HX.out.later hSw).at0; have c0 := nn.2.2.2.2.2.2; clear nn; go_simp; (try with_reducible rfl)
  try simp only [Act.put, s_put, s_0, s_1]
  refine wpAnyH_take (i := 22) (oi := ⟨some 31, .call { callee := .builtin Builtin.len, args := #[.tmp 30], argTypes := #[38] }, 3, _, _, _⟩) (v := ?v22) rfl (by kernel_rfl) (by kernel_rfl) (by kernel_rfl) (fun _ _ _ h => h) (Or.inl ⟨by rfl, ?hy22⟩) hHeld ?rest22
  case hy22 => intro w9 hSw; go_simp; (try with_reducible rfl)
  try simp only [Act.put, s_put, s_0, s_1]
  refine wpAnyH_take (i := 23) (oi := ⟨some 32, .fieldAddr 68 (.tmp 3) 4, 0, _, _, _⟩) (v := ?v23) rfl (by kernel_rfl) (by kernel_rfl) (by kernel_rfl) (fun _ _ _ h => h) (Or.inl ⟨by rfl, ?hy23⟩) hHeld ?rest23
  case hy23 => intro w9 hSw; go_simp; (try with_reducible rfl)
  try simp only [Act.put, s_put, s_0, s_1]
  refine wpAnyH_take (i := 24) (oi := ⟨some 33, .load 38 (.tmp 32), 38, _, _, _⟩) (v := ?v24) rfl (by kernel_rfl) (by kernel_rfl) (by kernel_rfl) (fun _ _ _ h => h) (Or.inl ⟨by rfl, ?hy24⟩) hHeld ?rest24
  case hy24 => intro w9 hSw; have nn := (HY.out.later hSw).at0; have c0 := nn.2.2.2.2.2.2; clear nn; go_simp; (try with_reducible rfl)
  try simp only [Act.put, s_put, s_0, s_1]
  refine wpAnyH_take (i := 25) (oi := ⟨some 34, .call { callee := .builtin Builtin.len, args := #[.tmp 33], argTypes := #[38] }, 3, _, _, _⟩) (v := ?v25) rfl (by kernel_rfl) (by kernel_rfl) (by kernel_rfl) (fun _ _ _ h => h) (Or.inl ⟨by rfl, ?hy25⟩) hHeld ?rest25
  case hy25 => intro w9 hSw; go_simp; (try with_reducible rfl)
  try simp only [Act.put, s_put, s_0, s_1]
  refine wpAnyH_ready (rs := [4]) (by kernel_rfl) (by simp) ?_
  refine AllReadyH.cons (o := ⟨some 13, .call { callee := .value (.func 58), args := #[.tmp 10, .tmp 12], argTypes := #[3, 3] }, 3, _, _, _⟩) rfl (fun K hK => ?_) AllReadyH.nil
  go_simp
  refine (refNumber_any _ _ _).mono ?_
  rintro e x4 ⟨rfl, hx4⟩
  replace hx4 := hx4.symm
  subst hx4
  go_wp2_with fail
  refine hK.out _ _ hHeld (fun _ => ?_)
  clear hK K
  try simp only [Act.put, s_put, s_0, s_1]
  refine wpAnyH_ready (rs := [9]) (by kernel_rfl) (by simp) ?_
  refine AllReadyH.cons (o := ⟨some 18, .call { callee := .value (.func 59), args := #[.tmp 15, .tmp 17], argTypes := #[66, 66] }, 3, _, _, _⟩) rfl (fun K hK => ?_) AllReadyH.nil
  go_simp
  refine (refV_any _ _ _ _ _ _ _).mono ?_
  rintro e x9 ⟨rfl, hN9⟩
  go_wp2_with fail
  have hT9 : Below W.heap.size W x9 := hT.trans (hN9.mono hT.size)
  refine hK.out _ _ (hHeld.trans (hN9.mono hHeld.size)) (fun _ => held_up (S' := fun w' => Below x9.heap.size x9 w') (fun w' h' => (hHeld.trans (hN9.mono hHeld.size)).trans (h'.mono (Nat.le_trans hHeld.size hN9.size))) _ _ _ _ ?_)
  clear hK K hHeld hT
  have hT : Below W.heap.size W x9 := hT9
  have hHeld : Below x9.heap.size x9 x9 := Below.refl _ _
  clear hT9 hN9
  try simp only [Act.put, s_put, s_0, s_1]
  refine wpAnyH_ready (rs := [14]) (by kernel_rfl) (by simp) ?_
  refine AllReadyH.cons (o := ⟨some 23, .call { callee := .value (.func 60), args := #[.tmp 20, .tmp 22], argTypes := #[9, 9] }, 3, _, _, _⟩) rfl (fun K hK => ?_) AllReadyH.nil
  go_simp
  refine (refCompare_any _ _ _).mono ?_
  rintro e x14 ⟨rfl, hx14⟩
  replace hx14 := hx14.symm
  subst hx14
  go_wp2_with fail
  refine hK.out _ _ hHeld (fun _ => ?_)
  clear hK K
  try simp only [Act.put, s_put, s_0, s_1]
  refine wpAnyH_ready (rs := [19]) (by kernel_rfl) (by simp) ?_
  refine AllReadyH.cons (o := ⟨some 28, .call { callee := .value (.func 60), args := #[.tmp 25, .tmp 27], argTypes := #[9, 9] }, 3, _, _, _⟩) rfl (fun K hK => ?_) AllReadyH.nil
  go_simp
  refine (refCompare_any _ _ _).mono ?_
  rintro e x19 ⟨rfl, hx19⟩
  replace hx19 := hx19.symm
  subst hx19
  go_wp2_with fail
  refine hK.out _ _ hHeld (fun _ => ?_)
  clear hK K
  try simp only [Act.put, s_put, s_0, s_1]
  refine wpAnyH_ready (rs := [26]) (by kernel_rfl) (by simp) ?_
  refine AllReadyH.cons (o := ⟨some 35, .call { callee := .value (.func 58), args := #[.tmp 31, .tmp 34], argTypes := #[3, 3] }, 3, _, _, _⟩) rfl (fun K hK => ?_) AllReadyH.nil
  go_simp
  refine (refNumber_any _ _ _).mono ?_
  rintro e x26 ⟨rfl, hx26⟩
  replace hx26 := hx26.symm
  subst hx26
  go_wp2_with fail
  refine hK.out _ _ hHeld (fun _ => ?_)
  clear hK K
  try simp only [Act.put, s_put, s_0, s_1]
  refine wpAnyH_ready (rs := [27]) (by kernel_rfl) (by simp) ?_
  refine AllReadyH.cons (o := ⟨some 36, .buildSlice 31 5 #[(0, .tmp 13), (1, .tmp 18), (2, .tmp 23), (3, .tmp 28), (4, .tmp 35)], 31, _, _, _⟩) rfl (fun K hK => ?_) AllReadyH.nil
  go_simp
  have hT27 := hHeld.alloc hHeld.size (.cells #[.int .i64 (cmpI x.k y.k), .int .i64 (ordZ x.v.k x.v.n x.v.s y.v.k y.v.n y.v.s), .int .i64 (cmpS x.s y.s), .int .i64 (cmpS x.f y.f), .int .i64 (cmpI x.n y.n)] 3)
  refine hK.out _ _ hT27 (fun _ => ?_)
  clear hK K hHeld
  have hHeld := hT27
  clear hT27
  have HC : Hid (∀ k, k < 5 → (x9.alloc (.cells #[.int .i64 (cmpI x.k y.k), .int .i64 (ordZ x.v.k x.v.n x.v.s y.v.k y.v.n y.v.s), .int .i64 (cmpS x.s y.s), .int .i64 (cmpS x.f y.f), .int .i64 (cmpI x.n y.n)] 3)).cell? ⟨x9.heap.size, k, none⟩ = some (.int .i64 (five (cmpI x.k y.k) (ordZ x.v.k x.v.n x.v.s y.v.k y.v.n y.v.s) (cmpS x.s y.s) (cmpS x.f y.f) (cmpI x.n y.n) k))) := fun k hk => by match k, hk with | 0, _ => simp [five] | 1, _ => simp [five] | 2, _ => simp [five] | 3, _ => simp [five] | 4, _ => simp [five]
  generalize (x9.alloc (.cells #[.int .i64 (cmpI x.k y.k), .int .i64 (ordZ x.v.k x.v.n x.v.s y.v.k y.v.n y.v.s), .int .i64 (cmpS x.s y.s), .int .i64 (cmpS x.f y.f), .int .i64 (cmpI x.n y.n)] 3)) = D at hHeld HC ⊢
  refine wpAnyH_take (i := 28) (oi := ⟨some 5, .assign (.tmp 36), 31, _, _, _⟩) (v := ?v28) rfl (by kernel_rfl) (by kernel_rfl) (by kernel_rfl) (fun _ _ _ h => h) (Or.inl ⟨by rfl, ?hy28⟩) hHeld ?rest28
  case hy28 => intro w9 hSw; go_simp; (try with_reducible rfl)
  try simp only [Act.put, s_put, s_0, s_1]
  refine wpAnyH_done (by kernel_rfl) ?_ _
  refine NoPanic.normal ?_
  have hD := hT.trans (hHeld.mono hT.size)
  have HD : Hid (Below W.heap.size W D) := hD
  have hx9 : x9.heap.size < 9223372036854775808 ∨ True := .inr trivial
  clear hx9
  obtain ⟨V, hV⟩ : ∃ V, V = five (cmpI x.k y.k) (ordZ x.v.k x.v.n x.v.s y.v.k y.v.n y.v.s) (cmpS x.s y.s) (cmpS x.f y.f) (cmpI x.n y.n) := ⟨_, rfl⟩
  rw [← hV] at HC
  have HV : Hid (alZ x y = lexN V 5) := by show alZ x y = lexN V 5; rw [hV, lex_five]; rfl
  clear hV hD hHeld hT
  generalize x9.heap.size = b9 at HC ⊢
  go_wp2
  go_loopw [6] (fun u wr => ∃ k : Nat, k ≤ 5 ∧ u = .int .i64 k ∧ Hid (lexN V k = 0) ∧ wr = D) (fun u _ => 5 - (intOf u).toNat)
  case atStart => exact ⟨0, Nat.zero_le _, rfl, rfl, rfl⟩
  case round =>
    obtain ⟨k, hk, rfl, H0, hwr⟩ := hrel
    obtain rfl : D = wr := hwr.symm
    by_cases hkn : k < 5
    · have c := HC.out k hkn
      have HK : Hid (k < 5) := hkn
      by_cases hv : V k = 0
      · have HW : Hid (V k = 0) := hv
        have hv' : (V k == 0) = true := by simpa using hv
        clear hv
        go_wp2
        go_roundw
        case rel => exact ⟨k + 1, HK.out, by go_num, by show (if lexN V k = 0 then V k else lexN V k) = 0; rw [if_pos H0.out]; exact HW.out, by first | trivial | rfl⟩
        case measure => have := HK.out; simp [intOf]; omega
      · have HW : Hid (¬ V k = 0) := hv
        have hv' : (V k == 0) = false := by simpa using hv
        clear hv
        go_wp2
        try rw [Exit.noGoto_ret]
        go_ret
        refine ⟨ret_int ?_, HB.out.trans (HD.out.mono HB.out.size)⟩
        have e : alZ x y = V k := by rw [HV.out, lexN_not H0.out HW.out HK.out]
        rw [HR.out, ordX_al, orI_not (by rw [e]; exact HW.out), e]
    · obtain rfl : k = 5 := by omega
      have ez : alZ x y = 0 := by rw [HV.out, H0.out]
      have hl := alZ_len ez
      have HR2 : Hid (r = lexN (fun i => ordX (x.c i) (y.c i)) x.n) := by show r = _; rw [HR.out, ordX_al, ez]; rfl
      have hl' : Hid (x.n = y.n) := hl
      clear ez H0 hl
      go_wp2
      go_loopw [7] (fun u wz => ∃ k : Nat, k ≤ x.n ∧ u = .int .i64 k ∧ Hid (lexN (fun i => ordX (x.c i) (y.c i)) k = 0) ∧ Below D.heap.size D wz) (fun u _ => x.n - (intOf u).toNat)
      case atStart => exact ⟨0, Nat.zero_le _, rfl, rfl, Below.refl _ _⟩
      case round =>
        obtain ⟨j, hj, rfl, G0, hBz⟩ := hrel
        have hWz := HD.out.trans (hBz.mono HD.out.size)
        obtain ⟨-, -, -, -, -, -, c6⟩ := (HX.out.later hWz).at0
        obtain ⟨-, -, -, -, -, -, e6⟩ := (HY.out.later hWz).at0
        by_cases hjn : j < x.n
        · have hjm : j < y.n := by have := hl'.out; omega
          obtain ⟨b, o, ea, hn, hx⟩ := (IX.out _ hWz).part hjn
          obtain ⟨b', o', ea', hn', hx'⟩ := (IY.out _ hWz).part hjm
          rw [ea] at c6
          rw [ea'] at e6
          have hc : Hid (∀ d, Below wr.heap.size wr d → Calls Try.prog 51 #[(x.c j).val, (y.c j).val] d fun e w' => e = .returned (.int .i64 (ordX (x.c j) (y.c j))) ∧ Below d.heap.size d w') := fun d h => HI.out j hjn d (hx.later h) (hx'.later h)
          have N1 : Hid (Node wr b (o + j * 7) (x.c j)) := hn
          have N2 : Hid (Node wr b' (o' + j * 7) (y.c j)) := hn'
          have C6 : Hid (wr.cell? ⟨w.heap.size, 6, none⟩ = some (.slice (some ⟨b, o, none⟩) x.n x.cap)) := c6
          have E6 : Hid (wr.cell? ⟨w.heap.size + 1, 6, none⟩ = some (.slice (some ⟨b', o', none⟩) y.n y.cap)) := e6
          have HJ : Hid (j < x.n) := hjn
          obtain ⟨q, hq⟩ : ∃ q, q = ordX (x.c j) (y.c j) := ⟨_, rfl⟩
          rw [← hq] at hc
          have HQ : Hid (q = ordX (x.c j) (y.c j)) := hq
          clear hx hx' hn hn' hq hWz ea ea'
          go_wp2_with fail
          refine wp_region_noPanic ?_
          refine wp_region_held_drew (S := fun w' => Below wr.heap.size wr w') (by kernel_rfl) ((Below.refl _ _).drew) (fun hHeld => ?_)
          have hT : Below wr.heap.size wr wr.drew := hHeld
          obtain ⟨d, hd⟩ : ∃ d, d = wr.drew := ⟨_, rfl⟩
          rw [← hd] at hHeld hT ⊢
          clear hd
          refine wpAnyH_take (i := 0) (oi := ⟨some 66, .fieldAddr 68 (.tmp 2) 4, 0, _, _, _⟩) (v := ?v0z) rfl (by kernel_rfl) (by kernel_rfl) (by kernel_rfl) (fun _ _ _ h => h) (Or.inl ⟨by rfl, ?hy0z⟩) hHeld ?rest0z
          case hy0z => intro w9 hSw; go_simp; (try with_reducible rfl)
          try simp only [Act.put, s_put, s_0, s_1]
          refine wpAnyH_take (i := 1) (oi := ⟨some 67, .load 38 (.tmp 66), 38, _, _, _⟩) (v := ?v1z) rfl (by kernel_rfl) (by kernel_rfl) (by kernel_rfl) (fun _ _ _ h => h) (Or.inl ⟨by rfl, ?hy1z⟩) hHeld ?rest1z
          case hy1z => intro w9 hSw; have cc := cell_later C6.out hSw; go_simp; (try with_reducible rfl)
          try simp only [Act.put, s_put, s_0, s_1]
          refine wpAnyH_take (i := 2) (oi := ⟨some 68, .move (.tmp 7), 3, _, _, _⟩) (v := ?v2z) rfl (by kernel_rfl) (by kernel_rfl) (by kernel_rfl) (fun _ _ _ h => h) (Or.inl ⟨by rfl, ?hy2z⟩) hHeld ?rest2z
          case hy2z => intro w9 hSw; go_simp; (try with_reducible rfl)
          try simp only [Act.put, s_put, s_0, s_1]
          refine wpAnyH_take (i := 3) (oi := ⟨some 69, .indexAddr 38 (.tmp 67) (.tmp 68), 0, _, _, _⟩) (v := ?v3z) rfl (by kernel_rfl) (by kernel_rfl) (by kernel_rfl) (fun _ _ _ h => h) (Or.inl ⟨by rfl, ?hy3z⟩) hHeld ?rest3z
          case hy3z => intro w9 hSw; go_simp; (try with_reducible rfl)
          try simp only [Act.put, s_put, s_0, s_1]
          refine wpAnyH_take (i := 4) (oi := ⟨some 70, .load 68 (.tmp 69), 68, _, _, _⟩) (v := ?v4z) rfl (by kernel_rfl) (by kernel_rfl) (by kernel_rfl) (fun _ _ _ h => h) (Or.inl ⟨by rfl, ?hy4z⟩) hHeld ?rest4z
          case hy4z => intro w9 hSw; obtain ⟨d0, d1, d2, d3, d4, d5, d6⟩ := N1.out.later hSw; go_simp; (try with_reducible rfl)
          try simp only [Act.put, s_put, s_0, s_1]
          refine wpAnyH_take (i := 5) (oi := ⟨some 71, .fieldAddr 68 (.tmp 3) 4, 0, _, _, _⟩) (v := ?v5z) rfl (by kernel_rfl) (by kernel_rfl) (by kernel_rfl) (fun _ _ _ h => h) (Or.inl ⟨by rfl, ?hy5z⟩) hHeld ?rest5z
          case hy5z => intro w9 hSw; go_simp; (try with_reducible rfl)
          try simp only [Act.put, s_put, s_0, s_1]
          refine wpAnyH_take (i := 6) (oi := ⟨some 72, .load 38 (.tmp 71), 38, _, _, _⟩) (v := ?v6z) rfl (by kernel_rfl) (by kernel_rfl) (by kernel_rfl) (fun _ _ _ h => h) (Or.inl ⟨by rfl, ?hy6z⟩) hHeld ?rest6z
          case hy6z => intro w9 hSw; have cc := cell_later E6.out hSw; go_simp; (try with_reducible rfl)
          try simp only [Act.put, s_put, s_0, s_1]
          refine wpAnyH_take (i := 7) (oi := ⟨some 73, .move (.tmp 7), 3, _, _, _⟩) (v := ?v7z) rfl (by kernel_rfl) (by kernel_rfl) (by kernel_rfl) (fun _ _ _ h => h) (Or.inl ⟨by rfl, ?hy7z⟩) hHeld ?rest7z
          case hy7z => intro w9 hSw; go_simp; (try with_reducible rfl)
          try simp only [Act.put, s_put, s_0, s_1]
          refine wpAnyH_take (i := 8) (oi := ⟨some 74, .indexAddr 38 (.tmp 72) (.tmp 73), 0, _, _, _⟩) (v := ?v8z) rfl (by kernel_rfl) (by kernel_rfl) (by kernel_rfl) (fun _ _ _ h => h) (Or.inl ⟨by rfl, ?hy8z⟩) hHeld ?rest8z
          case hy8z => intro w9 hSw; go_simp; (try with_reducible rfl)
          try simp only [Act.put, s_put, s_0, s_1]
          refine wpAnyH_take (i := 9) (oi := ⟨some 75, .load 68 (.tmp 74), 68, _, _, _⟩) (v := ?v9z) rfl (by kernel_rfl) (by kernel_rfl) (by kernel_rfl) (fun _ _ _ h => h) (Or.inl ⟨by rfl, ?hy9z⟩) hHeld ?rest9z
          case hy9z => intro w9 hSw; obtain ⟨d0, d1, d2, d3, d4, d5, d6⟩ := N2.out.later hSw; go_simp; (try with_reducible rfl)
          try simp only [Act.put, s_put, s_0, s_1]
          refine wpAnyH_ready (rs := [10]) (by kernel_rfl) (by simp) ?_
          refine AllReadyH.cons (o := ⟨some 76, .call { callee := .value (.func 51), args := #[.tmp 70, .tmp 75], argTypes := #[68, 68] }, 3, _, _, _⟩) rfl (fun K hK => ?_) AllReadyH.nil
          go_simp
          refine (hc.out _ hHeld).mono ?_
          rintro e x10 ⟨rfl, hN10⟩
          go_wp2_with fail
          have hT10 : Below wr.heap.size wr x10 := hT.trans (hN10.mono hT.size)
          refine hK.out _ _ (hHeld.trans (hN10.mono hHeld.size)) (fun _ => held_up (S' := fun w' => Below x10.heap.size x10 w') (fun w' h' => (hHeld.trans (hN10.mono hHeld.size)).trans (h'.mono (Nat.le_trans hHeld.size hN10.size))) _ _ _ _ ?_)
          clear hK K hHeld hT
          have hT : Below wr.heap.size wr x10 := hT10
          have hHeld : Below x10.heap.size x10 x10 := Below.refl _ _
          clear hT10 hN10
          try simp only [Act.put, s_put, s_0, s_1]
          refine wpAnyH_take (i := 11) (oi := ⟨some 8, .assign (.tmp 76), 3, _, _, _⟩) (v := ?v11z) rfl (by kernel_rfl) (by kernel_rfl) (by kernel_rfl) (fun _ _ _ h => h) (Or.inl ⟨by rfl, ?hy11z⟩) hHeld ?rest11z
          case hy11z => intro w9 hSw; go_simp; (try with_reducible rfl)
          try simp only [Act.put, s_put, s_0, s_1]
          refine wpAnyH_done (by kernel_rfl) ?_ _
          refine NoPanic.normal ?_
          have hB3 := hBz.trans (hT.mono hBz.size)
          by_cases hv : q = 0
          · have HW : Hid (q = 0) := hv
            have hv' : (q == 0) = true := by simpa using hv
            clear hv
            go_wp2
            go_roundw
            case rel => exact ⟨j + 1, HJ.out, by go_num, lexN_on G0.out (by rw [← HQ.out]; exact HW.out), hB3⟩
            case measure => have := HJ.out; simp [intOf]; omega
          · have HW : Hid (¬ q = 0) := hv
            have hv' : (q == 0) = false := by simpa using hv
            clear hv
            go_wp2
            try rw [Exit.noGoto_ret]
            go_ret
            refine ⟨ret_int ?_, HB.out.trans ((HD.out.trans (hB3.mono HD.out.size)).mono HB.out.size)⟩
            rw [HR2.out, lexN_not (f := fun i => ordX (x.c i) (y.c i)) G0.out (by rw [← HQ.out]; exact HW.out) HJ.out]
            exact HQ.out
        · obtain rfl : j = x.n := by omega
          go_wp2
          go_ret
          exact ⟨ret_int (by rw [HR2.out, G0.out]), HB.out.trans ((HD.out.trans (hBz.mono HD.out.size)).mono HB.out.size)⟩
set_option maxRecDepth 100000 in
set_option maxHeartbeats 2000000 in
theorem refSameX_any (x y : X) (w : World) (hX : IsX w x) (hY : IsX w y) : Calls Try.prog 35 #[x.val, y.val] w fun e w' => e = .returned (.bool (ordX x y == 0)) ∧ Below w.heap.size w w' := by
  obtain ⟨A, hA, hB, hs, hn, hm⟩ := two_boxes x y w
  obtain ⟨a0, a1, a2, a3, a4, a5, a6⟩ := hn.at0
  obtain ⟨b0, b1, b2, b3, b4, b5, b6⟩ := hm.at0
  have hc := refOrder_any x y A (hX.later hB) (hY.later hB)
  have HB : Hid (Below w.heap.size w A) := hB
  clear hB hn hm hX hY
  go_enter Try.func35, Try.ntmps35
  go_wp2_with (go_at_call 51; refine hc.mono ?_; rintro e w2 ⟨rfl, hB2⟩)
  go_ret
  exact ⟨rfl, HB.out.trans (hB2.mono (by omega))⟩
end Go.Proofs.Ytjclelmbpmlioaa
