/-
  order.alone, order.Form, order.vars, order.Whole: by slices.CompareFunc, which is handed Form (vars) itself.
  order.copied, order.each of patterns, order.Sort.
  haruspexlaw15's awake; rows of patterns.
  The document's Size of a pattern, as the machine counts; haruspexlaw15's light at any size.
-/
import Derived.Test.YtcdehohmgfocdaaTBrief
import Derived.Test.YtcdehohmgfocdaaTOrdSt
import Derived.Test.YtcdehohmgfocdaaTPatRefSame
import Derived.Test.YtcdehohmgfocdaaTExprMath
import Derived.Test.YtcdehohmgfocdaaTPatCopied
import Derived.Deep.DeepCutAuto
namespace Go.Proofs.Ytcdehohmgfocdaa
open Go.RowKit

set_option maxRecDepth 100000 in
set_option maxHeartbeats 8000000 in
theorem aloneP_any (x y : Pt) (w : World) : Calls Try.prog 45 #[x.val, y.val] w fun e w' => e = .returned (.int .i64 (alP x y)) ∧ Below w.heap.size w w' := by
  obtain ⟨A, hA, hB, hs, hn, hm⟩ := boxP_two x y w
  have HX : Hid (NodeP A w.heap.size 0 x) := hn
  have HY : Hid (NodeP A (w.heap.size + 1) 0 y) := hm
  have HB : Hid (Below w.heap.size w A) := hB
  clear hn hm hB hs
  go_enter Try.func45, Try.ntmps45
  go_wp2_with fail
  refine wp_region_noPanic ?_
  refine wp_region_held_drew (S := fun w' => Below A.heap.size A w') (by kernel_rfl) ((Below.refl _ _).drew) (fun hHeld => ?_)
  obtain ⟨d, hd⟩ : ∃ d, d = A.drew := ⟨_, rfl⟩
  rw [← hd] at hHeld ⊢
  clear hd
  refine wpAnyH_take (i := 0) (oi := ⟨some 5, .fieldAddr 27 (.tmp 2) 0, 0, _, _, _⟩) (v := ?v0) rfl (by kernel_rfl) (by kernel_rfl) (by kernel_rfl) (fun _ _ _ h => h) (Or.inl ⟨by rfl, ?hy0⟩) hHeld ?rest0
  case hy0 => intro w9 hSw; go_simp; (try with_reducible rfl)
  try simp only [Act.put, s_put, s_0, s_1]
  refine wpAnyH_take (i := 1) (oi := ⟨some 6, .load 3 (.tmp 5), 3, _, _, _⟩) (v := ?v1) rfl (by kernel_rfl) (by kernel_rfl) (by kernel_rfl) (fun _ _ _ h => h) (Or.inl ⟨by rfl, ?hy1⟩) hHeld ?rest1
  case hy1 => intro w9 hSw; have c0 := (HX.out.later hSw).at0.1; go_simp; (try with_reducible rfl)
  try simp only [Act.put, s_put, s_0, s_1]
  refine wpAnyH_take (i := 2) (oi := ⟨some 7, .fieldAddr 27 (.tmp 3) 0, 0, _, _, _⟩) (v := ?v2) rfl (by kernel_rfl) (by kernel_rfl) (by kernel_rfl) (fun _ _ _ h => h) (Or.inl ⟨by rfl, ?hy2⟩) hHeld ?rest2
  case hy2 => intro w9 hSw; go_simp; (try with_reducible rfl)
  try simp only [Act.put, s_put, s_0, s_1]
  refine wpAnyH_take (i := 3) (oi := ⟨some 8, .load 3 (.tmp 7), 3, _, _, _⟩) (v := ?v3) rfl (by kernel_rfl) (by kernel_rfl) (by kernel_rfl) (fun _ _ _ h => h) (Or.inl ⟨by rfl, ?hy3⟩) hHeld ?rest3
  case hy3 => intro w9 hSw; have c0 := (HY.out.later hSw).at0.1; go_simp; (try with_reducible rfl)
  try simp only [Act.put, s_put, s_0, s_1]
  refine wpAnyH_take (i := 5) (oi := ⟨some 10, .fieldAddr 27 (.tmp 2) 2, 0, _, _, _⟩) (v := ?v5) rfl (by kernel_rfl) (by kernel_rfl) (by kernel_rfl) (fun _ _ _ h => h) (Or.inl ⟨by rfl, ?hy5⟩) hHeld ?rest5
  case hy5 => intro w9 hSw; go_simp; (try with_reducible rfl)
  try simp only [Act.put, s_put, s_0, s_1]
  refine wpAnyH_take (i := 6) (oi := ⟨some 11, .load 9 (.tmp 10), 9, _, _, _⟩) (v := ?v6) rfl (by kernel_rfl) (by kernel_rfl) (by kernel_rfl) (fun _ _ _ h => h) (Or.inl ⟨by rfl, ?hy6⟩) hHeld ?rest6
  case hy6 => intro w9 hSw; have c0 := (HX.out.later hSw).at0.2.2.1; go_simp; (try with_reducible rfl)
  try simp only [Act.put, s_put, s_0, s_1]
  refine wpAnyH_take (i := 7) (oi := ⟨some 12, .fieldAddr 27 (.tmp 3) 2, 0, _, _, _⟩) (v := ?v7) rfl (by kernel_rfl) (by kernel_rfl) (by kernel_rfl) (fun _ _ _ h => h) (Or.inl ⟨by rfl, ?hy7⟩) hHeld ?rest7
  case hy7 => intro w9 hSw; go_simp; (try with_reducible rfl)
  try simp only [Act.put, s_put, s_0, s_1]
  refine wpAnyH_take (i := 8) (oi := ⟨some 13, .load 9 (.tmp 12), 9, _, _, _⟩) (v := ?v8) rfl (by kernel_rfl) (by kernel_rfl) (by kernel_rfl) (fun _ _ _ h => h) (Or.inl ⟨by rfl, ?hy8⟩) hHeld ?rest8
  case hy8 => intro w9 hSw; have c0 := (HY.out.later hSw).at0.2.2.1; go_simp; (try with_reducible rfl)
  try simp only [Act.put, s_put, s_0, s_1]
  refine wpAnyH_take (i := 10) (oi := ⟨some 15, .fieldAddr 27 (.tmp 2) 3, 0, _, _, _⟩) (v := ?v10) rfl (by kernel_rfl) (by kernel_rfl) (by kernel_rfl) (fun _ _ _ h => h) (Or.inl ⟨by rfl, ?hy10⟩) hHeld ?rest10
  case hy10 => intro w9 hSw; go_simp; (try with_reducible rfl)
  try simp only [Act.put, s_put, s_0, s_1]
  refine wpAnyH_take (i := 11) (oi := ⟨some 16, .load 3 (.tmp 15), 3, _, _, _⟩) (v := ?v11) rfl (by kernel_rfl) (by kernel_rfl) (by kernel_rfl) (fun _ _ _ h => h) (Or.inl ⟨by rfl, ?hy11⟩) hHeld ?rest11
  case hy11 => intro w9 hSw; have c0 := (HX.out.later hSw).at0.2.2.2.1; go_simp; (try with_reducible rfl)
  try simp only [Act.put, s_put, s_0, s_1]
  refine wpAnyH_take (i := 12) (oi := ⟨some 17, .fieldAddr 27 (.tmp 3) 3, 0, _, _, _⟩) (v := ?v12) rfl (by kernel_rfl) (by kernel_rfl) (by kernel_rfl) (fun _ _ _ h => h) (Or.inl ⟨by rfl, ?hy12⟩) hHeld ?rest12
  case hy12 => intro w9 hSw; go_simp; (try with_reducible rfl)
  try simp only [Act.put, s_put, s_0, s_1]
  refine wpAnyH_take (i := 13) (oi := ⟨some 18, .load 3 (.tmp 17), 3, _, _, _⟩) (v := ?v13) rfl (by kernel_rfl) (by kernel_rfl) (by kernel_rfl) (fun _ _ _ h => h) (Or.inl ⟨by rfl, ?hy13⟩) hHeld ?rest13
  case hy13 => intro w9 hSw; have c0 := (HY.out.later hSw).at0.2.2.2.1; go_simp; (try with_reducible rfl)
  try simp only [Act.put, s_put, s_0, s_1]
  refine wpAnyH_take (i := 15) (oi := ⟨some 20, .fieldAddr 27 (.tmp 2) 4, 0, _, _, _⟩) (v := ?v15) rfl (by kernel_rfl) (by kernel_rfl) (by kernel_rfl) (fun _ _ _ h => h) (Or.inl ⟨by rfl, ?hy15⟩) hHeld ?rest15
  case hy15 => intro w9 hSw; go_simp; (try with_reducible rfl)
  try simp only [Act.put, s_put, s_0, s_1]
  refine wpAnyH_take (i := 16) (oi := ⟨some 21, .load 3 (.tmp 20), 3, _, _, _⟩) (v := ?v16) rfl (by kernel_rfl) (by kernel_rfl) (by kernel_rfl) (fun _ _ _ h => h) (Or.inl ⟨by rfl, ?hy16⟩) hHeld ?rest16
  case hy16 => intro w9 hSw; have c0 := (HX.out.later hSw).at0.2.2.2.2.1; go_simp; (try with_reducible rfl)
  try simp only [Act.put, s_put, s_0, s_1]
  refine wpAnyH_take (i := 17) (oi := ⟨some 22, .fieldAddr 27 (.tmp 3) 4, 0, _, _, _⟩) (v := ?v17) rfl (by kernel_rfl) (by kernel_rfl) (by kernel_rfl) (fun _ _ _ h => h) (Or.inl ⟨by rfl, ?hy17⟩) hHeld ?rest17
  case hy17 => intro w9 hSw; go_simp; (try with_reducible rfl)
  try simp only [Act.put, s_put, s_0, s_1]
  refine wpAnyH_take (i := 18) (oi := ⟨some 23, .load 3 (.tmp 22), 3, _, _, _⟩) (v := ?v18) rfl (by kernel_rfl) (by kernel_rfl) (by kernel_rfl) (fun _ _ _ h => h) (Or.inl ⟨by rfl, ?hy18⟩) hHeld ?rest18
  case hy18 => intro w9 hSw; have c0 := (HY.out.later hSw).at0.2.2.2.2.1; go_simp; (try with_reducible rfl)
  try simp only [Act.put, s_put, s_0, s_1]
  refine wpAnyH_take (i := 20) (oi := ⟨some 25, .fieldAddr 27 (.tmp 2) 5, 0, _, _, _⟩) (v := ?v20) rfl (by kernel_rfl) (by kernel_rfl) (by kernel_rfl) (fun _ _ _ h => h) (Or.inl ⟨by rfl, ?hy20⟩) hHeld ?rest20
  case hy20 => intro w9 hSw; go_simp; (try with_reducible rfl)
  try simp only [Act.put, s_put, s_0, s_1]
  refine wpAnyH_take (i := 21) (oi := ⟨some 26, .load 22 (.tmp 25), 22, _, _, _⟩) (v := ?v21) rfl (by kernel_rfl) (by kernel_rfl) (by kernel_rfl) (fun _ _ _ h => h) (Or.inl ⟨by rfl, ?hy21⟩) hHeld ?rest21
  case hy21 => intro w9 hSw; have c0 := (HX.out.later hSw).at0.2.2.2.2.2; go_simp; (try with_reducible rfl)
  try simp only [Act.put, s_put, s_0, s_1]
  refine wpAnyH_take (i := 22) (oi := ⟨some 27, .call { callee := .builtin Builtin.len, args := #[.tmp 26], argTypes := #[22] }, 3, _, _, _⟩) (v := ?v22) rfl (by kernel_rfl) (by kernel_rfl) (by kernel_rfl) (fun _ _ _ h => h) (Or.inl ⟨by rfl, ?hy22⟩) hHeld ?rest22
  case hy22 => intro w9 hSw; go_simp; (try with_reducible rfl)
  try simp only [Act.put, s_put, s_0, s_1]
  refine wpAnyH_take (i := 23) (oi := ⟨some 28, .fieldAddr 27 (.tmp 3) 5, 0, _, _, _⟩) (v := ?v23) rfl (by kernel_rfl) (by kernel_rfl) (by kernel_rfl) (fun _ _ _ h => h) (Or.inl ⟨by rfl, ?hy23⟩) hHeld ?rest23
  case hy23 => intro w9 hSw; go_simp; (try with_reducible rfl)
  try simp only [Act.put, s_put, s_0, s_1]
  refine wpAnyH_take (i := 24) (oi := ⟨some 29, .load 22 (.tmp 28), 22, _, _, _⟩) (v := ?v24) rfl (by kernel_rfl) (by kernel_rfl) (by kernel_rfl) (fun _ _ _ h => h) (Or.inl ⟨by rfl, ?hy24⟩) hHeld ?rest24
  case hy24 => intro w9 hSw; have c0 := (HY.out.later hSw).at0.2.2.2.2.2; go_simp; (try with_reducible rfl)
  try simp only [Act.put, s_put, s_0, s_1]
  refine wpAnyH_take (i := 25) (oi := ⟨some 30, .call { callee := .builtin Builtin.len, args := #[.tmp 29], argTypes := #[22] }, 3, _, _, _⟩) (v := ?v25) rfl (by kernel_rfl) (by kernel_rfl) (by kernel_rfl) (fun _ _ _ h => h) (Or.inl ⟨by rfl, ?hy25⟩) hHeld ?rest25
  case hy25 => intro w9 hSw; go_simp; (try with_reducible rfl)
  try simp only [Act.put, s_put, s_0, s_1]
  refine wpAnyH_ready (rs := [4]) (by kernel_rfl) (by simp) ?_
  refine AllReadyH.cons (o := ⟨some 9, .call { callee := .value (.func 68), args := #[.tmp 6, .tmp 8], argTypes := #[3, 3] }, 3, _, _, _⟩) rfl (fun K hK => ?_) AllReadyH.nil
  go_simp
  refine (cmpInt_any _ _ _).mono ?_
  rintro e x4 ⟨rfl, hx4⟩
  replace hx4 := hx4.symm
  subst hx4
  go_wp2_with fail
  refine hK.out _ _ hHeld (fun _ => ?_)
  clear hK K
  try simp only [Act.put, s_put, s_0, s_1]
  refine wpAnyH_ready (rs := [9]) (by kernel_rfl) (by simp) ?_
  refine AllReadyH.cons (o := ⟨some 14, .call { callee := .value (.func 66), args := #[.tmp 11, .tmp 13], argTypes := #[9, 9] }, 3, _, _, _⟩) rfl (fun K hK => ?_) AllReadyH.nil
  go_simp
  refine (cmpStr_any _ _ _).mono ?_
  rintro e x9 ⟨rfl, hx9⟩
  replace hx9 := hx9.symm
  subst hx9
  go_wp2_with fail
  refine hK.out _ _ hHeld (fun _ => ?_)
  clear hK K
  try simp only [Act.put, s_put, s_0, s_1]
  refine wpAnyH_ready (rs := [14]) (by kernel_rfl) (by simp) ?_
  refine AllReadyH.cons (o := ⟨some 19, .call { callee := .value (.func 68), args := #[.tmp 16, .tmp 18], argTypes := #[3, 3] }, 3, _, _, _⟩) rfl (fun K hK => ?_) AllReadyH.nil
  go_simp
  refine (cmpInt_any _ _ _).mono ?_
  rintro e x14 ⟨rfl, hx14⟩
  replace hx14 := hx14.symm
  subst hx14
  go_wp2_with fail
  refine hK.out _ _ hHeld (fun _ => ?_)
  clear hK K
  try simp only [Act.put, s_put, s_0, s_1]
  refine wpAnyH_ready (rs := [19]) (by kernel_rfl) (by simp) ?_
  refine AllReadyH.cons (o := ⟨some 24, .call { callee := .value (.func 68), args := #[.tmp 21, .tmp 23], argTypes := #[3, 3] }, 3, _, _, _⟩) rfl (fun K hK => ?_) AllReadyH.nil
  go_simp
  refine (cmpInt_any _ _ _).mono ?_
  rintro e x19 ⟨rfl, hx19⟩
  replace hx19 := hx19.symm
  subst hx19
  go_wp2_with fail
  refine hK.out _ _ hHeld (fun _ => ?_)
  clear hK K
  try simp only [Act.put, s_put, s_0, s_1]
  refine wpAnyH_ready (rs := [26]) (by kernel_rfl) (by simp) ?_
  refine AllReadyH.cons (o := ⟨some 31, .call { callee := .value (.func 68), args := #[.tmp 27, .tmp 30], argTypes := #[3, 3] }, 3, _, _, _⟩) rfl (fun K hK => ?_) AllReadyH.nil
  go_simp
  refine (cmpInt_any _ _ _).mono ?_
  rintro e x26 ⟨rfl, hx26⟩
  replace hx26 := hx26.symm
  subst hx26
  go_wp2_with fail
  refine hK.out _ _ hHeld (fun _ => ?_)
  clear hK K
  try simp only [Act.put, s_put, s_0, s_1]
  refine wpAnyH_ready (rs := [27]) (by kernel_rfl) (by simp) ?_
  refine AllReadyH.cons (o := ⟨some 32, .buildSlice 50 5 #[(0, .tmp 9), (1, .tmp 14), (2, .tmp 19), (3, .tmp 24), (4, .tmp 31)], 50, _, _, _⟩) rfl (fun K hK => ?_) AllReadyH.nil
  go_simp
  have hT27 := hHeld.alloc hHeld.size (.cells #[.int .i64 (cmpI x.k y.k), .int .i64 (cmpS x.t y.t), .int .i64 (cmpI x.lo y.lo), .int .i64 (cmpI x.hi y.hi), .int .i64 (cmpI x.n y.n)] 3)
  refine hK.out _ _ hT27 (fun _ => ?_)
  clear hK K hHeld
  have hHeld := hT27
  clear hT27
  have C28 : Calls Try.prog 67 #[.slice (some ⟨d.heap.size, 0, none⟩) 5 5] (d.alloc (.cells #[.int .i64 (cmpI x.k y.k), .int .i64 (cmpS x.t y.t), .int .i64 (cmpI x.lo y.lo), .int .i64 (cmpI x.hi y.hi), .int .i64 (cmpI x.n y.n)] 3)) fun e w' => e = .returned (.int .i64 (alP x y)) ∧ w' = (d.alloc (.cells #[.int .i64 (cmpI x.k y.k), .int .i64 (cmpS x.t y.t), .int .i64 (cmpI x.lo y.lo), .int .i64 (cmpI x.hi y.hi), .int .i64 (cmpI x.n y.n)] 3)) := by
    have h := or_any d.heap.size 5 (five (cmpI x.k y.k) (cmpS x.t y.t) (cmpI x.lo y.lo) (cmpI x.hi y.hi) (cmpI x.n y.n)) (d.alloc (.cells #[.int .i64 (cmpI x.k y.k), .int .i64 (cmpS x.t y.t), .int .i64 (cmpI x.lo y.lo), .int .i64 (cmpI x.hi y.hi), .int .i64 (cmpI x.n y.n)] 3)) (by omega) (fun k hk => by match k, hk with | 0, _ => simp [five] | 1, _ => simp [five] | 2, _ => simp [five] | 3, _ => simp [five] | 4, _ => simp [five])
    rw [lex_five] at h
    exact h
  generalize (d.alloc (.cells #[.int .i64 (cmpI x.k y.k), .int .i64 (cmpS x.t y.t), .int .i64 (cmpI x.lo y.lo), .int .i64 (cmpI x.hi y.hi), .int .i64 (cmpI x.n y.n)] 3)) = D at hHeld C28 ⊢
  refine wpAnyH_ready (rs := [28]) (by kernel_rfl) (by simp) ?_
  refine AllReadyH.cons (o := ⟨some 33, .call { callee := .value (.func 67), args := #[.tmp 32], argTypes := #[50] }, 3, _, _, _⟩) rfl (fun K hK => ?_) AllReadyH.nil
  go_simp
  refine (C28).mono ?_
  rintro e x28 ⟨rfl, hx28⟩
  replace hx28 := hx28.symm
  subst hx28
  go_wp2_with fail
  refine hK.out _ _ hHeld (fun _ => ?_)
  clear hK K
  try simp only [Act.put, s_put, s_0, s_1]
  refine wpAnyH_take (i := 29) (oi := ⟨some 4, .assign (.tmp 33), 3, _, _, _⟩) (v := ?v29) rfl (by kernel_rfl) (by kernel_rfl) (by kernel_rfl) (fun _ _ _ h => h) (Or.inl ⟨by rfl, ?hy29⟩) hHeld ?rest29
  case hy29 => intro w9 hSw; go_simp; (try with_reducible rfl)
  try simp only [Act.put, s_put, s_0, s_1]
  refine wpAnyH_done (by kernel_rfl) ?_ _
  refine NoPanic.normal ?_
  go_wp2
  go_ret
  exact ⟨rfl, HB.out.trans (hHeld.mono HB.out.size)⟩
theorem lexN_stop {f : Nat → Int} {k n : Nat} (h : ∀ i, i < k → f i = 0) (g : ¬ f k = 0) (hk : k < n) : lexN f n = f k := lexN_not (lexN_zero.2 h) g hk
set_option maxRecDepth 100000 in
set_option maxHeartbeats 4000000 in
theorem compareForm_any (a a' : Option Addr) (n cap cap' : Nat) (c c' : Nat → Pt) (w : World) (hn : n ≤ 9223372036854775807) (h1 : ∀ i, i < n → ∃ b o, a = some ⟨b, o, none⟩ ∧ NodeP w b (o + i * 6) (c i)) (h2 : ∀ i, i < n → ∃ b o, a' = some ⟨b, o, none⟩ ∧ NodeP w b (o + i * 6) (c' i))
    (hC : ∀ i, i < n → ∀ W, Below w.heap.size w W → Calls Try.prog 19 #[(c i).val, (c' i).val] W fun e w' => e = .returned (.int .i64 (formP (c i) (c' i))) ∧ Below W.heap.size W w') :
    Calls Try.prog 46 #[.slice a n cap, .slice a' n cap', .func (.func 19) #[] #[]] w fun e w' => e = .returned (.int .i64 (lexN (fun i => formP (c i) (c' i)) n)) ∧ Below w.heap.size w w' := by
  obtain ⟨r, hr⟩ : ∃ r, r = lexN (fun i => formP (c i) (c' i)) n := ⟨_, rfl⟩
  have HF : Hid (∀ k, k < n → (∀ i, i < k → formP (c i) (c' i) = 0) → ¬ formP (c k) (c' k) = 0 → r = formP (c k) (c' k)) := fun k hk h g => hr.trans (lexN_stop (f := fun i => formP (c i) (c' i)) h g hk)
  have HT : Hid ((∀ i, i < n → formP (c i) (c' i) = 0) → r = 0) := fun h => hr.trans (lexN_zero.2 h)
  rw [← hr]
  have HC : Hid (∀ i, i < n → ∀ W, Below w.heap.size w W → Calls Try.prog 19 #[(c i).val, (c' i).val] W fun e w' => e = .returned (.int .i64 (formP (c i) (c' i))) ∧ Below W.heap.size W w') := hC
  have H1 : Hid (∀ i, i < n → ∃ b o, a = some ⟨b, o, none⟩ ∧ NodeP w b (o + i * 6) (c i)) := h1
  have H2 : Hid (∀ i, i < n → ∃ b o, a' = some ⟨b, o, none⟩ ∧ NodeP w b (o + i * 6) (c' i)) := h2
  clear hr hC h1 h2
  go_enter Try.func46, Try.ntmps46
  go_wp2
  go_loopw [13] (fun u wr => ∃ k : Nat, k ≤ n ∧ u = .int .i64 k ∧ Hid (∀ i, i < k → formP (c i) (c' i) = 0) ∧ Below w.heap.size w wr) (fun u _ => n - (intOf u).toNat)
  case atStart => exact ⟨0, Nat.zero_le _, rfl, fun i hi => absurd hi (Nat.not_lt_zero _), Below.refl _ _⟩
  case round =>
    obtain ⟨k, hk, rfl, HK, hB⟩ := hrel
    by_cases hkn : k < n
    · obtain ⟨b, o, rfl, hn1⟩ := H1.out k hkn
      obtain ⟨b', o', rfl, hn2⟩ := H2.out k hkn
      obtain ⟨A, hA, hB2, hs, hm1, hm2⟩ := boxP_two (c k) (c' k) wr
      have hlt := hn1.lt
      have hlt2 := hn2.lt
      have q2 : NodeP (wr.alloc (.cells (c k).cells 27)) b' (o' + k * 6) (c' k) := (hn2.later hB).later ((Below.refl _ _).alloc (Nat.le_refl _) _)
      obtain ⟨d0, d1, d2, d3, d4, d5⟩ := hn1.later hB
      obtain ⟨f0, f1, f2, f3, f4, f5⟩ := q2
      obtain ⟨g0, g1, g2, g3, g4, g5⟩ := hm1.at0
      obtain ⟨i0, i1, i2, i3, i4, i5⟩ := hm2.at0
      have hc := HC.out k hkn A (hB.trans (hB2.mono hB.size))
      have HKN : Hid (k < n) := hkn
      have HB : Hid (Below w.heap.size w A) := hB.trans (hB2.mono hB.size)
      obtain ⟨q, hq⟩ : ∃ q, q = formP (c k) (c' k) := ⟨_, rfl⟩
      rw [← hq] at hc
      have HE : Hid (q = formP (c k) (c' k)) := hq
      clear hq hn1 hn2 hm1 hm2 hB2 hs hB
      by_cases hz : q = 0
      · have HZ : Hid (q = 0) := hz
        have hz' : (q != 0) = false := by simpa using hz
        clear hz
        go_wp2_with (go_at_call 19; refine hc.mono ?_; clear hc; rintro e w2 ⟨rfl, hB2⟩)
        go_roundw
        case rel =>
          refine ⟨k + 1, HKN.out, by go_num, fun i hi => ?_, HB.out.trans (hB2.mono HB.out.size)⟩
          by_cases e : i = k
          · rw [e, ← HE.out]; exact HZ.out
          · exact HK.out i (by omega)
        case measure => have := HKN.out; simp [intOf]; omega
      · have HZ : Hid (¬ q = 0) := hz
        have hz' : (q != 0) = true := by simpa using hz
        clear hz
        go_wp2_with (go_at_call 19; refine hc.mono ?_; clear hc; rintro e w2 ⟨rfl, hB2⟩)
        go_ret
        exact ⟨ret_int ((HF.out k HKN.out HK.out (by rw [← HE.out]; exact HZ.out)).trans HE.out.symm).symm, HB.out.trans (hB2.mono HB.out.size)⟩
    · obtain rfl : k = n := by omega
      go_wp2
      go_ret
      exact ⟨ret_int (HT.out HK.out).symm, hB⟩
set_option maxRecDepth 100000 in
set_option maxHeartbeats 8000000 in
theorem formP_any : ∀ (x y : Pt) (w : World), IsP w x → IsP w y → Calls Try.prog 19 #[x.val, y.val] w fun e w' => e = .returned (.int .i64 (formP x y)) ∧ Below w.heap.size w w' := by
  refine Pt.ind fun x ih y w hX hY => ?_
  obtain ⟨A, hA, hB, hs, hn, hm⟩ := boxP_two x y w
  have HB : Hid (Below w.heap.size w A) := hB
  have HX : Hid (NodeP A w.heap.size 0 x) := hn
  have HY : Hid (NodeP A (w.heap.size + 1) 0 y) := hm
  have EQ : Hid (x.n = y.n → ∀ d, Below w.heap.size w d → Calls Try.prog 46 #[.slice x.a x.n x.cap, .slice y.a y.n y.cap, .func (.func 19) #[] #[]] d fun e w' => e = .returned (.int .i64 (lexN (fun i => formP (x.c i) (y.c i)) x.n)) ∧ Below d.heap.size d w') := fun e d hw => by
    rw [← e]
    refine compareForm_any x.a y.a x.n x.cap y.cap x.c y.c d hX.len (fun i hi => ?_) (fun i hi => ?_) fun i hi W hW => ?_
    · obtain ⟨b, o, ea, h1, _⟩ := (hX.later hw).part hi
      exact ⟨b, o, ea, h1⟩
    · obtain ⟨b, o, ea, h1, _⟩ := (hY.later hw).part (e ▸ hi)
      exact ⟨b, o, ea, h1⟩
    · obtain ⟨_, _, _, _, h1⟩ := (hX.later (hw.trans (hW.mono hw.size))).part hi
      obtain ⟨_, _, _, _, h2⟩ := (hY.later (hw.trans (hW.mono hw.size))).part (e ▸ hi)
      exact ih i hi _ W h1 h2
  have HR : Hid (formP x y = orI (alP x y) (lexN (fun i => formP (x.c i) (y.c i)) x.n)) := formP_eq x y
  have HN : Hid (alP x y = 0 → x.n = y.n) := fun h => (alP_zero.1 h).2.2.2.2
  generalize formP x y = r at HR ⊢
  generalize lexN (fun i => formP (x.c i) (y.c i)) x.n = l at HR EQ
  have ca : Hid (∀ d, Calls Try.prog 45 #[x.val, y.val] d fun e w' => e = .returned (.int .i64 (alP x y)) ∧ Below d.heap.size d w') := fun d => aloneP_any x y d
  generalize alP x y = q at HR HN ca
  obtain ⟨a0, a1, a2, a3, a4, a5⟩ := hn.at0
  obtain ⟨b0, b1, b2, b3, b4, b5⟩ := hm.at0
  clear ih hX hY hB hn hm
  by_cases hz : q = 0
  · have hc := EQ.out (HN.out hz)
    have HR' : Hid (r = l) := by show r = l; rw [HR.out, hz]; rfl
    have hz' : (q != 0) = false := by simpa using hz
    have HC : Hid (_ : Prop) := hc
    have HS : Hid (A.heap.size = w.heap.size + 2) := hs
    clear EQ HR HN hz hc hs
    go_enter Try.func19, Try.ntmps19
    go_wp2_with (first
      | (go_at_call 45; refine (ca.out _).mono ?_; rintro e w2 ⟨rfl, hB2⟩; have c5 := ((HX.out.later hB2).at0).2.2.2.2.2; have e5 := ((HY.out.later hB2).at0).2.2.2.2.2)
      | (go_at_call 46; refine (HC.out _ (HB.out.trans (hB2.mono HB.out.size))).mono ?_; rintro e w3 ⟨rfl, hB3⟩))
    go_ret
    exact ⟨ret_int HR'.out.symm, (HB.out.trans (hB2.mono HB.out.size)).trans (hB3.mono (HB.out.trans (hB2.mono HB.out.size)).size)⟩
  · have HR' : Hid (r = q) := by show r = q; rw [HR.out, orI, if_neg hz]
    have hz' : (q != 0) = true := by simpa using hz
    clear EQ HR HN hz hs
    go_enter Try.func19, Try.ntmps19
    go_wp2_with (go_at_call 45; refine (ca.out _).mono ?_; rintro e w2 ⟨rfl, hB2⟩)
    go_ret
    exact ⟨ret_int HR'.out.symm, HB.out.trans (hB2.mono HB.out.size)⟩
end Go.Proofs.Ytcdehohmgfocdaa
namespace Go.Proofs.Ytcdehohmgfocdaa
open Go.RowKit

/-- A copy of x that lies in new memory. -/
def NewP (x : Pt) (d : World) (e : Ending) (w' : World) : Prop := ∃ q : Pt, e = .returned q.val ∧ Hid (IsP w' q ∧ Sm q x ∧ ∀ k, inP k q → d.heap.size ≤ k) ∧ Below d.heap.size d w'
theorem set_again {w2 : World} {B : Nat} {z q : Pt} (h : w2.heap[B]? = some (.cells z.cells 27 (0, 0))) : ∃ W, (((((w2.setCell ⟨B, 0, none⟩ (.int .i64 q.k)).setCell ⟨B, 1, none⟩ (.string q.s)).setCell ⟨B, 2, none⟩ (.string q.t)).setCell ⟨B, 3, none⟩ (.int .i64 q.lo)).setCell ⟨B, 4, none⟩ (.int .i64 q.hi)).setCell ⟨B, 5, none⟩ (.slice q.a q.n q.cap) = W ∧
    W.heap[B]? = some (.cells q.cells 27 (0, 0)) ∧ (∀ k, k ≠ B → W.heap[k]? = w2.heap[k]?) ∧ ∀ n w, n ≤ B → Below n w w2 → Below n w W :=
  ⟨_, rfl, heap_set6 (z := z) h, fun _ hk => heap_set6_other hk, fun _ _ hn hB => below_set6 hB hn⟩
theorem frozen_box {w : World} {B : Nat} {cs : Array Value} (h : w.heap[B]? = some (.cells cs 27 (0, 0))) : w.frozen? ⟨B, 0, none⟩ = false ∧ w.frozen? ⟨B, 1, none⟩ = false ∧ w.frozen? ⟨B, 2, none⟩ = false ∧ w.frozen? ⟨B, 3, none⟩ = false ∧ w.frozen? ⟨B, 4, none⟩ = false ∧ w.frozen? ⟨B, 5, none⟩ = false :=
  ⟨FreeP.frozen ⟨_, h⟩ _, FreeP.frozen ⟨_, h⟩ _, FreeP.frozen ⟨_, h⟩ _, FreeP.frozen ⟨_, h⟩ _, FreeP.frozen ⟨_, h⟩ _, FreeP.frozen ⟨_, h⟩ _⟩
theorem isP_other {w W : World} {q : Pt} {T : Nat → Prop} (h : IsP w q) (hT : ∀ k, inP k q → T k) (hk : ∀ k, T k → W.heap[k]? = w.heap[k]?) : IsP W q := h.kept (T := T) (fun k _ hk' _ e => (hk k hk').trans e) hT
set_option maxRecDepth 100000 in
set_option maxHeartbeats 8000000 in
theorem copiedO_any (x : Pt) (w : World) (hX : IsP w x) (hsm : WdP x) : Calls Try.prog 24 #[x.val] w (NewP x w) := by
  obtain ⟨A, hA, hB, hs, hn, hr⟩ := boxP_res x w
  have hb0 : A.heap[w.heap.size]? = some (.cells x.cells 27 (0, 0)) := by
    rw [← hA, alloc_old (by simp)]
    exact alloc_new w _
  obtain ⟨a0, a1, a2, a3, a4, a5⟩ := hn.at0
  have hc : Hid (Calls Try.prog 49 #[x.val, .slice none 0 0] A fun e w' => ∃ q : Pt, e = .returned (.tuple #[q.val, .bool true]) ∧ PA w' q ∧ Sm q x ∧ (∀ k, inP k q → A.heap.size ≤ k) ∧ Below A.heap.size A w') := at_yesW x x none 0 0 (fun _ => 0) A (hX.later hB) hsm (fun h => absurd h (Nat.lt_irrefl _)) (by omega) rfl
  have HB : Hid (Below w.heap.size w A) := hB
  have HS : Hid (A.heap.size = w.heap.size + 2) := hs
  have H0 : Hid (A.heap[w.heap.size]? = some (.cells x.cells 27 (0, 0))) := hb0
  have H1 : Hid (A.heap[w.heap.size + 1]? = some (.cells zeroP 27 (0, 0))) := hr
  clear hB hn hr hX hb0 hs
  unfold NewP
  go_enter Try.func24, Try.ntmps24
  go_wp2_with (go_at_call 49; refine hc.out.mono ?_; clear hc; rintro e w2 ⟨q, rfl, hPA, hSm, hin, hB2⟩; have k0 := (hB2.block w.heap.size (by have := HS.out; omega)).trans H0.out; have k1 := (hB2.block (w.heap.size + 1) (by have := HS.out; omega)).trans H1.out; obtain ⟨W, hW, hW0, hWo, hWB⟩ := set_again (q := q) k0; have k1' := (hWo (w.heap.size + 1) (by omega)).trans k1; obtain ⟨c0, c1, c2, c3, c4, c5⟩ := (nodeP_box k0).at0; obtain ⟨f0, f1, f2, f3, f4, f5⟩ := frozen_box k0; obtain ⟨d0, d1, d2, d3, d4, d5⟩ := (nodeP_box hW0).at0; obtain ⟨e0, e1, e2, e3, e4, e5⟩ := (nodeP_box (x := .nil) k1').at0; obtain ⟨g0, g1, g2, g3, g4, g5⟩ := frozen_box k1')
  have hblk : (set6 W (w.heap.size + 1) q).heap[w.heap.size + 1]? = some (.cells q.cells 27 (0, 0)) := heap_set6 (z := .nil) k1'
  refine bodyPost_ret (results_cell_row rfl _ _ (w.heap.size + 1) 27 _ (0, 0) _ rfl hblk Try.underlying27 rfl (by kernel_rfl)) rfl ?_
  have hs := HS.out
  have hBw : Below w.heap.size w w2 := HB.out.trans (hB2.mono HB.out.size)
  refine ⟨q, rfl, ⟨isP_other (T := fun k => w.heap.size + 2 ≤ k) hPA.is (fun k hk => by have := hin k hk; omega) (fun k hk => (heap_set6_other (by omega)).trans (hWo k (by omega))), hSm, fun k hk => by have := hin k hk; omega⟩, below_set6 (hWB _ _ (Nat.le_refl _) hBw) (by omega)⟩
set_option maxRecDepth 100000 in
set_option maxHeartbeats 8000000 in
theorem eachPP_any (a : Option Addr) (n cap : Nat) (D : Nat → Pt) (w : World) (hn : n ≤ 1759218604390) (hR : ∀ i, i < n → ∃ b o, a = some ⟨b, o, none⟩ ∧ NodeP w b (o + i * 6) (D i))
    (hC : ∀ i, i < n → ∀ d, Below w.heap.size w d → Calls Try.prog 24 #[(D i).val] d (NewP (D i) d)) :
    Calls Try.prog 22 #[.slice a n cap, .func (.func 24) #[] #[]] w fun e w' => ∃ (a' : Option Addr) (cap' : Nat) (c : Nat → Pt), e = .returned (.slice a' n cap') ∧ Hid (GrownP w.heap.size w' (.slice a' n cap') n c ∧ ∀ i, i < n → Sm (c i) (D i)) ∧ Below w.heap.size w w' := by
  have HR : Hid (∀ i, i < n → ∃ b o, a = some ⟨b, o, none⟩ ∧ NodeP w b (o + i * 6) (D i)) := hR
  have HC : Hid (∀ i, i < n → ∀ d, Below w.heap.size w d → Calls Try.prog 24 #[(D i).val] d (NewP (D i) d)) := hC
  clear hR hC
  go_enter Try.func22, Try.ntmps22
  go_wp2
  go_loopw [5, 10] (fun u v wr => ∃ (k : Nat) (a' : Option Addr) (cap' : Nat) (c : Nat → Pt), k ≤ n ∧ u = .slice a' k cap' ∧ v = .int .i64 k ∧ Hid (GrownP w.heap.size wr (.slice a' k cap') k c ∧ ∀ i, i < k → Sm (c i) (D i)) ∧ Below w.heap.size w wr) (fun _ v _ => n - (intOf v).toNat)
  case atStart => exact ⟨0, none, 0, fun _ => .nil, Nat.zero_le _, rfl, rfl, ⟨grownP_nil _ _ _, fun i hi => absurd hi (Nat.not_lt_zero _)⟩, Below.refl _ _⟩
  case round =>
    obtain ⟨k, a', cap', c, hk, rfl, rfl, HG, hB⟩ := hrel
    by_cases hkn : k < n
    · obtain ⟨b, o, rfl, hn1⟩ := HR.out k hkn
      obtain ⟨A, hA, hBA, -, hm1⟩ := boxP_one (D k) wr
      obtain ⟨d0, d1, d2, d3, d4, d5⟩ := hn1.later hB
      obtain ⟨g0, g1, g2, g3, g4, g5⟩ := hm1.at0
      have HK : Hid (k < n) := hkn
      have HB0 : Hid (Below w.heap.size w A) := hB.trans (hBA.mono hB.size)
      have HG2 : Hid (GrownP w.heap.size A (.slice a' k cap') k c) := HG.out.1.later hBA
      have hc : Hid (Calls Try.prog 24 #[(D k).val] A (NewP (D k) A)) := HC.out k hkn A HB0.out
      have HLT : Hid (∀ q, (Value.slice a' k cap').ownBlock = some q → q < A.heap.size) := fun q e => (HG2.out.1.lt q e).2
      have hk6 : Hid (k ≤ 1759218604390) := by show k ≤ _; omega
      clear hn1 hBA hm1
      go_wp2_with (first
        | (go_at_call 24; refine hc.out.mono ?_; clear hc; rintro e w2 ⟨q, rfl, hq, hB2⟩; obtain ⟨a3, cap3, w3, run3, G3, hB3, -⟩ := (HG2.out.later hB2).push (HB0.out.trans (hB2.mono HB0.out.size)).size hk6.out q hq.out.1 (fun z hz => ⟨Nat.le_trans HB0.out.size (hq.out.2.2 z hz), fun e => by have := HLT.out z e; have := hq.out.2.2 z hz; omega⟩); have R3 : Hid (_ = _) := run3; have HG3 : Hid (GrownP _ _ _ _ _) := G3; have HB3 : Hid (Below w.heap.size w w3) := (HB0.out.trans (hB2.mono HB0.out.size)).trans hB3; clear run3 G3 hB3)
        | (at_builtin; refine wpList_append_run rfl (.tmp 14) (.tmp 18) 22 rfl _ _ _ rfl rfl R3.out ?_))
      go_roundw
      case rel =>
        refine ⟨k + 1, a3, cap3, _, HK.out, rfl, by go_num, ⟨HG3.out, fun i hi => ?_⟩, HB3.out⟩
        by_cases e : i = k
        · subst e
          rw [updP_same]
          exact hq.out.2.1
        · rw [updP_other e]
          exact HG.out.2 i (by omega)
      case measure => have := HK.out; simp [intOf]; omega
    · obtain rfl : k = n := by omega
      go_wp2
      go_ret
      exact ⟨a', cap', c, rfl, HG, hB⟩

/-- Sort's answer. -/
def SortAns (L : List Pt) (d : World) (e : Ending) (w' : World) : Prop := ∃ (a' : Option Addr) (cap' : Nat) (c : Nat → Pt) (r : List Pt), e = .returned (.slice a' L.length cap') ∧ Hid (GrownP d.heap.size w' (.slice a' L.length cap') L.length c ∧ St formP L r ∧ (∀ i, i < L.length → Sm (c i) (r.getD i .nil)) ∧ L.length ≤ cap' ∧ cap' ≤ maxLen) ∧ Below d.heap.size d w'
set_option maxRecDepth 100000 in
set_option maxHeartbeats 4000000 in
theorem sortO_any (a : Option Addr) (cap : Nat) (L : List Pt) (w : World) (hR : 0 < L.length → ∃ b o, a = some ⟨b, o, none⟩ ∧ RwP w b o L) (hI : ∀ x ∈ L, IsP w x ∧ WdP x) (hc : L.length ≤ cap) (hm : cap ≤ 9223372036854775807) (hn : L.length ≤ 1759218604390) :
    Calls Try.prog 9 #[.slice a L.length cap] w (SortAns L w) := by
  have hS := sortedP_any formP form3 L.length a cap L w rfl hR hc hm hn fun x hx y hy d hd => formP_any x y d ((hI x hx).1.later hd) ((hI y hy).1.later hd)
  have HI : Hid (∀ x ∈ L, IsP w x ∧ WdP x) := hI
  obtain ⟨n, hnn⟩ : ∃ n, n = L.length := ⟨_, rfl⟩
  have HN : Hid (n = L.length) := hnn
  have hE : Hid (∀ (v : Value) (r : List Pt) (d : World), Hid (d.ownsRow w.heap.size 27 6 v n (rowLP r) ∧ St formP L r) → Below w.heap.size w d → Calls Try.prog 22 #[v, .func (.func 24) #[] #[]] d fun e w' => ∃ (a' : Option Addr) (cap' : Nat) (c : Nat → Pt), e = .returned (.slice a' n cap') ∧ Hid (GrownP d.heap.size w' (.slice a' n cap') n c ∧ ∀ i, i < n → Sm (c i) (r.getD i .nil)) ∧ Below d.heap.size d w') := fun v r d hr hd => by
    have hl := hr.out.2.perm.length_eq
    rw [← hnn] at hl
    have hv : ∃ a cap, v = .slice a n cap ∧ ∀ i, i < n → ∃ b o, a = some ⟨b, o, none⟩ ∧ NodeP d b (o + i * 6) (r.getD i .nil) := by
      by_cases h0 : 0 < n
      · obtain ⟨g, cap, rfl, _, _, _, _, hg⟩ := ownLP hr.out.1 hl h0
        refine ⟨_, cap, rfl, fun i hi => ⟨g, 0, rfl, hg i _ (by simp [show i < r.length by omega])⟩⟩
      · obtain rfl : n = 0 := by omega
        rcases hr.out.1.2 with ⟨rfl, _⟩ | ⟨g, cap, _, rfl, _⟩
        · exact ⟨none, 0, rfl, fun i hi => absurd hi (Nat.not_lt_zero _)⟩
        · exact ⟨_, cap, rfl, fun i hi => absurd hi (Nat.not_lt_zero _)⟩
    obtain ⟨a, cap, rfl, hrow⟩ := hv
    refine eachPP_any a n cap (fun i => r.getD i .nil) d (by omega) hrow fun i hi W hW => ?_
    have hm : r.getD i .nil ∈ L := by
      rw [← hr.out.2.perm.mem_iff, List.getD_eq_getElem?_getD, List.getElem?_eq_getElem (show i < r.length by omega)]
      exact List.getElem_mem _
    exact copiedO_any _ W ((hI _ hm).1.later (hd.trans (hW.mono hd.size))) (hI _ hm).2
  rw [← hnn] at hS
  unfold SortAns
  rw [← hnn]
  clear hR hI hc hm hn hnn
  go_enter Try.func9, Try.ntmps9
  go_wp2_with (first
    | (go_at_call 23; refine hS.mono ?_; clear hS; rintro e w2 ⟨v, r, rfl, hr, hB2⟩)
    | (go_at_call 22; refine (hE.out _ r _ hr hB2).mono ?_; rintro e w3 ⟨a3, cap3, c3, rfl, h3, hB3⟩))
  go_ret
  obtain ⟨a4, cap4, e4, q1, q2, _⟩ := ownP_nodes h3.out.1.1
  cases e4
  exact ⟨_, _, c3, r, rfl, ⟨⟨own_low15 h3.out.1.1 hB2.size, fun j hj => ⟨(h3.out.1.2 j hj).1, fun k hk => ⟨Nat.le_trans hB2.size ((h3.out.1.2 j hj).2 k hk).1, ((h3.out.1.2 j hj).2 k hk).2⟩⟩⟩, hr.out.2, h3.out.2, q1, q2⟩, hB2.trans (hB3.mono hB2.size)⟩
end Go.Proofs.Ytcdehohmgfocdaa
namespace Go.Proofs.Ytcdehohmgfocdaa
open Go.RowKit

/-- A row of patterns. -/
def Ps (w : World) (a : Option Addr) (n : Nat) (c : Nat → Pt) : Prop := ∀ i, i < n → ∃ b o, a = some ⟨b, o, none⟩ ∧ NodeP w b (o + i * 6) (c i) ∧ IsP w (c i)
theorem Ps.later {w w' : World} {a : Option Addr} {n : Nat} {c : Nat → Pt} (h : Ps w a n c) (hB : Below w.heap.size w w') : Ps w' a n c := fun i hi => by
  obtain ⟨b, o, e, h1, h2⟩ := h i hi
  exact ⟨b, o, e, h1.later hB, h2.later hB⟩
def leafO (k : Int) : Pt := .mk k ⟨#[]⟩ ⟨#[]⟩ 0 0 none 0 0 (fun _ => .nil)
set_option maxRecDepth 100000 in
set_option maxHeartbeats 1000000 in
theorem awake15_any (w : World) : Calls Try.prog 8 #[] w fun e w' => e = .returned (.bool true) ∧ Below w.heap.size w w' := by
  have hc : Calls Try.prog 19 #[.agg #[.int .i64 1, .string ⟨#[]⟩, .string ⟨#[]⟩, .int .i64 0, .int .i64 0, .slice none 0 0], .agg #[.int .i64 2, .string ⟨#[]⟩, .string ⟨#[]⟩, .int .i64 0, .int .i64 0, .slice none 0 0]] w fun e w' => e = .returned (.int .i64 (-1)) ∧ Below w.heap.size w w' := by
    have := formP_any (leafO 1) (leafO 2) w ⟨by omega, by omega, fun i hi => by omega⟩ ⟨by omega, by omega, fun i hi => by omega⟩
    rw [show formP (leafO 1) (leafO 2) = -1 by simp [formP, leafO, alP, orI, cmpI, Pt.k]] at this
    exact this
  go_enter Try.func8, Try.ntmps8
  go_wp2_with (go_at_call 19; refine hc.mono ?_; rintro e w2 ⟨rfl, hB2⟩)
  go_ret
  exact ⟨rfl, hB2⟩
end Go.Proofs.Ytcdehohmgfocdaa
namespace Go.Proofs.Ytcdehohmgfocdaa
open Go.RowKit

def szP : Pt → Int
  | .nil => 1
  | .mk _ _ _ _ _ _ n _ c => accZ (fun i => szP (c i)) n
theorem szP_eq (x : Pt) : szP x = accZ (fun i => szP (x.c i)) x.n := by cases x <;> rfl
set_option maxRecDepth 100000 in
set_option maxHeartbeats 4000000 in
theorem refSizeP_wide : ∀ (x : Pt) (w : World), IsP w x → Calls Try.prog 20 #[x.val] w fun e w' => e = .returned (.int .i64 (szP x)) ∧ Below w.heap.size w w' := by
  refine Pt.ind fun x ih w hX => ?_
  obtain ⟨r, hr⟩ : ∃ r, r = szP x := ⟨_, rfl⟩
  have HR : Hid (r = accZ (fun i => szP (x.c i)) x.n) := by show r = _; rw [hr, szP_eq]
  rw [← hr]
  have HI : Hid (∀ i, i < x.n → ∀ w, IsP w (x.c i) → Calls Try.prog 20 #[(x.c i).val] w fun e w' => e = .returned (.int .i64 (szP (x.c i))) ∧ Below w.heap.size w w') := ih
  have HX : Hid (IsP w x) := hX
  have hlen := hX.len
  obtain ⟨A, hA, hB0, hs, hN⟩ := boxP_one x w
  have HB : Hid (Below w.heap.size w A) := hB0
  have HN : Hid (NodeP A w.heap.size 0 x) := hN
  clear ih hX hr hB0 hN
  go_enter Try.func20, Try.ntmps20
  go_wp2_with fail
  go_loopw [3, 4] (fun u v wr => ∃ k : Nat, k ≤ x.n ∧ u = .int .i64 (accZ (fun i => szP (x.c i)) k) ∧ v = .int .i64 k ∧ Below A.heap.size A wr) (fun _ v _ => x.n - (intOf v).toNat)
  case atStart => exact ⟨0, Nat.zero_le _, rfl, rfl, Below.refl _ _⟩
  case round =>
    obtain ⟨k, hk, rfl, rfl, hB⟩ := hrel
    obtain ⟨-, -, -, -, -, c6⟩ := (nodeP_on HN.out (hB.mono (by omega))).at0
    have hw := HB.out.trans (hB.mono (by omega))
    by_cases hkn : k < x.n
    · obtain ⟨b, o, ea, hn, hx⟩ := (HX.out.later hw).part hkn
      rw [ea] at c6
      obtain ⟨d0, d1, d2, d3, d4, d5⟩ := hn
      have hc := HI.out k hkn wr hx
      have HK : Hid (k < x.n) := hkn
      have HQ : Hid (Below w.heap.size w wr) := hw
      clear hx hw
      go_wp2_with (go_at_call 20; refine hc.mono ?_; rintro e w2 ⟨rfl, hB2⟩)
      exact ⟨⟨k + 1, HK.out, rfl, by simp, hB.trans (hB2.mono hB.size)⟩, by have := HK.out; simp [intOf]; omega⟩
    · have hk' : k = x.n := by omega
      subst hk'
      go_wp2
      go_ret
      exact ⟨ret_int HR.out.symm, hw⟩
/-- What light has counted. -/
def litZ (c : Nat → Pt) : Nat → Int
  | 0 => 0
  | n + 1 => wrap64 (litZ c n + szP (c n))
/-- Are they small enough, as the machine counts? -/
def litB (c : Nat → Pt) (n : Nat) : Bool := decide (∀ k, k < n + 1 → litZ c k ≤ 600)
theorem litB_no {c : Nat → Pt} {n k : Nat} (hk : k ≤ n) (h : ¬ litZ c k ≤ 600) : litB c n = false := decide_eq_false fun h' => h (h' k (by omega))
theorem litB_end {c : Nat → Pt} {n : Nat} (h : ∀ k, k < n → litZ c k ≤ 600) : litB c n = decide (litZ c n ≤ 600) := by
  refine decide_eq_decide.2 ⟨fun h' => h' n (by omega), fun h' k hk => ?_⟩
  by_cases e : k = n
  · rw [e]; exact h'
  · exact h k (by omega)
set_option maxRecDepth 100000 in
set_option maxHeartbeats 4000000 in
theorem lightW_any (a : Option Addr) (n cap : Nat) (c : Nat → Pt) (w : World) (hn : n ≤ 9223372036854775807) (hP : Ps w a n c) :
    Calls Try.prog 6 #[.slice a n cap] w fun e w' => e = .returned (.bool (litB c n)) ∧ Below w.heap.size w w' := by
  obtain ⟨r, hr⟩ : ∃ r, r = litB c n := ⟨_, rfl⟩
  rw [← hr]
  have HR : Hid (r = litB c n) := hr
  have HP : Hid (Ps w a n c) := hP
  have HC : Hid (∀ i, i < n → ∀ d, Below w.heap.size w d → Calls Try.prog 20 #[(c i).val] d fun e w' => e = .returned (.int .i64 (szP (c i))) ∧ Below d.heap.size d w') := fun i hi d hd => by
    obtain ⟨_, _, _, _, h2⟩ := (hP.later hd) i hi
    exact refSizeP_wide (c i) d h2
  clear hP hr
  go_enter Try.func6, Try.ntmps6
  go_wp2
  go_loopw [3, 4] (fun u v wr => ∃ k : Nat, k ≤ n ∧ u = .int .i64 (litZ c k) ∧ v = .int .i64 k ∧ Hid (∀ j, j < k → litZ c j ≤ 600) ∧ Below w.heap.size w wr) (fun _ v _ => n - (intOf v).toNat)
  case atStart => exact ⟨0, Nat.zero_le _, rfl, rfl, fun j hj => absurd hj (Nat.not_lt_zero _), Below.refl _ _⟩
  case round =>
    obtain ⟨k, hk, rfl, rfl, HL, hB⟩ := hrel
    by_cases hkn : k < n
    · by_cases h6 : litZ c k ≤ 600
      · obtain ⟨b, o, rfl, hn1, _⟩ := (HP.out.later hB) k hkn
        obtain ⟨d0, d1, d2, d3, d4, d5⟩ := hn1
        have hc := HC.out k hkn wr hB
        have HK : Hid (k < n) := hkn
        have HL2 : Hid (∀ j, j < k + 1 → litZ c j ≤ 600) := fun j hj => by
          by_cases e : j = k
          · rw [e]; exact h6
          · exact HL.out j (by omega)
        have HE : Hid (litZ c (k + 1) = wrap64 (litZ c k + szP (c k))) := rfl
        generalize litZ c k = p at h6 HE ⊢
        generalize szP (c k) = q at hc HE
        clear HL
        go_wp2_with (go_at_call 20; refine hc.mono ?_; rintro e w2 ⟨rfl, hB2⟩)
        exact ⟨⟨k + 1, HK.out, by rw [HE.out], by simp, HL2, hB.trans (hB2.mono hB.size)⟩, by have := HK.out; simp [intOf]; omega⟩
      · have HR' : Hid (r = false) := by
          show r = false
          rw [HR.out]
          exact litB_no hk h6
        clear HR
        generalize litZ c k = p at h6 ⊢
        have h7 : decide (p ≤ 600) = false := decide_eq_false h6
        clear HL h6
        go_wp2
        go_ret
        exact ⟨ret_bool (by rw [HR'.out, ← h7]), hB⟩
    · obtain rfl : k = n := by omega
      have HR' : Hid (r = decide (litZ c k ≤ 600)) := by
        show r = _
        rw [HR.out]
        exact litB_end HL.out
      clear HR
      generalize litZ c k = p at HR' ⊢
      clear HL
      go_wp2
      go_ret
      exact ⟨ret_bool HR'.out.symm, hB⟩
end Go.Proofs.Ytcdehohmgfocdaa
