/-
  Which pattern is less, with and without names; plain facts, of no function.
  order.alone, order.Form, order.vars, order.Whole: by slices.CompareFunc, which is handed Form (vars) itself.
  A map of names' first places; a name's new name; what is older and stays; of no function.
  A slice of texts, by index.
-/
import Derived.Test.YtcdehohmgfocdaaSBrief
import Derived.Test.YtcdehohmgfocdaaSPatMath
import Derived.Test.YtcdehohmgfocdaaSNamesMath
import Derived.Test.YtcdehohmgfocdaaSPatSame
import Derived.Test.YtcdehohmgfocdaaSExprAlone
import Derived.Test.YtcdehohmgfocdaaSTrees
import Derived.Maps.OwnSet
import Derived.Maps.OwnIn
import Derived.Maps.Views
namespace Go.Proofs.Ytcdehohmgfocdaa
open Go.RowKit

/-- Two nodes without their Vars and parts, but for how many these are. -/
def alP (x y : Pt) : Int := orI (cmpI x.k y.k) (orI (cmpS x.t y.t) (orI (cmpI x.lo y.lo) (orI (cmpI x.hi y.hi) (cmpI x.n y.n))))
/-- Form's answer. -/
def formP : Pt → Pt → Int
  | .nil, y => orI (alP .nil y) 0
  | .mk k s t lo hi a n cap c, y => orI (alP (.mk k s t lo hi a n cap c) y) (lexN (fun i => formP (c i) (y.c i)) n)
theorem formP_eq (x y : Pt) : formP x y = orI (alP x y) (lexN (fun i => formP (x.c i) (y.c i)) x.n) := by
  cases x with
  | nil => rfl
  | mk => rfl
/-- By the Vars of all nodes. -/
def varP : Pt → Pt → Int
  | .nil, y => orI (cmpS ⟨#[]⟩ y.s) 0
  | .mk _ s _ _ _ _ n _ c, y => orI (cmpS s y.s) (lexN (fun i => varP (c i) (y.c i)) n)
theorem varP_eq (x y : Pt) : varP x y = orI (cmpS x.s y.s) (lexN (fun i => varP (x.c i) (y.c i)) x.n) := by
  cases x with
  | nil => rfl
  | mk => rfl
/-- Whole's answer. -/
def wholeP (x y : Pt) : Int := orI (formP x y) (varP x y)
theorem alP_zero {x y : Pt} : alP x y = 0 ↔ x.k = y.k ∧ x.t = y.t ∧ x.lo = y.lo ∧ x.hi = y.hi ∧ x.n = y.n := by
  unfold alP
  rw [orI_zero, orI_zero, orI_zero, orI_zero]
  constructor
  · rintro ⟨h1, h2, h3, h4, h5⟩
    exact ⟨cmpI_zero h1, cmpS_zero h2, cmpI_zero h3, cmpI_zero h4, by have := cmpI_zero h5; omega⟩
  · rintro ⟨h1, h2, h3, h4, h5⟩
    rw [h1, h2, h3, h4, h5]
    exact ⟨cmpI_self _, cmpS_self _, cmpI_self _, cmpI_self _, cmpI_self _⟩
theorem alP_turn (x y : Pt) : alP y x = -alP x y :=
  orI_turn (cmpI_turn _ _) fun _ => orI_turn (cmpS_turn _ _) fun _ => orI_turn (cmpI_turn _ _) fun _ => orI_turn (cmpI_turn _ _) fun _ => cmpI_turn _ _
theorem alP_comp (x y z : Pt) : Comp (alP x y) (alP y z) (alP x z) :=
  (cmpI_comp _ _ _).or fun _ _ => (cmpS_comp _ _ _).or fun _ _ => (cmpI_comp _ _ _).or fun _ _ => (cmpI_comp _ _ _).or fun _ _ => cmpI_comp _ _ _
theorem formP_zero (x y : Pt) : formP x y = 0 ↔ x.k = y.k ∧ x.t = y.t ∧ x.lo = y.lo ∧ x.hi = y.hi ∧ x.n = y.n ∧ ∀ i, i < x.n → formP (x.c i) (y.c i) = 0 := by
  rw [formP_eq, orI_zero, lexN_zero, alP_zero]
  simp only [and_assoc]
theorem form3 : Ord3 formP := by
  refine ⟨?_, ?_⟩
  · refine Pt.ind fun x ih y => ?_
    rw [formP_eq, formP_eq x]
    refine orI_turn (alP_turn _ _) fun h => ?_
    rw [← (alP_zero.1 h).2.2.2.2]
    exact lexN_turn fun i hi => ih i hi (y.c i)
  · refine Pt.ind fun x ih y z => ?_
    rw [formP_eq x y, formP_eq y z, formP_eq x z]
    refine (alP_comp _ _ _).or fun h _ => ?_
    rw [← (alP_zero.1 h).2.2.2.2]
    exact Comp.lex fun i hi => ih i hi (y.c i) (z.c i)
theorem varP_turn : ∀ x y : Pt, formP x y = 0 → varP y x = -varP x y := by
  refine Pt.ind fun x ih y h => ?_
  obtain ⟨_, _, _, _, h5, h6⟩ := (formP_zero _ _).1 h
  rw [varP_eq, varP_eq x]
  refine orI_turn (cmpS_turn _ _) fun _ => ?_
  rw [← h5]
  exact lexN_turn fun i hi => ih i hi (y.c i) (h6 i hi)
theorem varP_comp : ∀ x y z : Pt, formP x y = 0 → formP y z = 0 → Comp (varP x y) (varP y z) (varP x z) := by
  refine Pt.ind fun x ih y z h g => ?_
  obtain ⟨_, _, _, _, h5, h6⟩ := (formP_zero _ _).1 h
  obtain ⟨_, _, _, _, g5, g6⟩ := (formP_zero _ _).1 g
  rw [varP_eq x y, varP_eq y z, varP_eq x z]
  refine (cmpS_comp _ _ _).or fun _ _ => ?_
  rw [← h5]
  exact Comp.lex fun i hi => ih i hi (y.c i) (z.c i) (h6 i hi) (g6 i (by omega))
theorem whole3 : Ord3 wholeP :=
  ⟨fun x y => orI_turn (form3.turn x y) fun h => varP_turn x y h, fun x y z => (form3.comp x y z).or fun h g => varP_comp x y z h g⟩
theorem whole_sm : ∀ x y : Pt, wholeP x y = 0 ↔ Sm x y := by
  refine Pt.ind fun x ih y => ?_
  unfold wholeP at ih ⊢
  rw [orI_zero, formP_zero, varP_eq, orI_zero, lexN_zero, sm_iff]
  constructor
  · rintro ⟨⟨h1, h2, h3, h4, h5, h6⟩, h7, h8⟩
    exact ⟨h1, cmpS_zero h7, h2, h3, h4, h5, fun i hi => (ih i hi _).1 (orI_zero.2 ⟨h6 i hi, h8 i hi⟩)⟩
  · rintro ⟨h1, h2, h3, h4, h5, h6, h7⟩
    refine ⟨⟨h1, h3, h4, h5, h6, fun i hi => (orI_zero.1 ((ih i hi _).2 (h7 i hi))).1⟩, by rw [h2]; exact cmpS_self _, fun i hi => (orI_zero.1 ((ih i hi _).2 (h7 i hi))).2⟩
theorem ordX3 : Ord3 ordX := ⟨ordX_turn, ordX_comp⟩
end Go.Proofs.Ytcdehohmgfocdaa
namespace Go.Proofs.Ytcdehohmgfocdaa
open Go.RowKit

set_option maxRecDepth 100000 in
set_option maxHeartbeats 8000000 in
theorem aloneP_any (x y : Pt) (w : World) : Calls Try.prog 45 #[x.val, y.val] w fun e w' => e = .returned (.int .i64 (alP x y)) ∧ Below w.heap.size w w' := by
  obtain ⟨A, hA, hB, hs, hn, hm⟩ := boxP_two x y w
  have HX : Hid (NodeP A w.heap.size 0 x) := hn
  have HY : Hid (NodeP A (w.heap.size + 1) 0 y) := hm
  have HB : Hid (Below w.heap.size w A) := hB
  clear hn hm hB hs
  go_enter Try.func45, Try.ntmps45
  go_wp2_with fail
  refine wp_region_noPanic ?_
  refine wp_region_held_drew (S := fun w' => Below A.heap.size A w') (by kernel_rfl) ((Below.refl _ _).drew) (fun hHeld => ?_)
  obtain ⟨d, hd⟩ : ∃ d, d = A.drew := ⟨_, rfl⟩
  rw [← hd] at hHeld ⊢
  clear hd
  refine wpAnyH_take (i := 0) (oi := ⟨some 5, .fieldAddr 27 (.tmp 2) 0, 0, _, _, _⟩) (v := ?v0) rfl (by kernel_rfl) (by kernel_rfl) (by kernel_rfl) (fun _ _ _ h => h) (Or.inl ⟨by rfl, ?hy0⟩) hHeld ?rest0
  case hy0 => intro w9 hSw; go_simp; (try with_reducible rfl)
  try simp only [Act.put, s_put, s_0, s_1]
  refine wpAnyH_take (i := 1) (oi := ⟨some 6, .load 3 (.tmp 5), 3, _, _, _⟩) (v := ?v1) rfl (by kernel_rfl) (by kernel_rfl) (by kernel_rfl) (fun _ _ _ h => h) (Or.inl ⟨by rfl, ?hy1⟩) hHeld ?rest1
  case hy1 => intro w9 hSw; have c0 := (HX.out.later hSw).at0.1; go_simp; (try with_reducible rfl)
  try simp only [Act.put, s_put, s_0, s_1]
  refine wpAnyH_take (i := 2) (oi := ⟨some 7, .fieldAddr 27 (.tmp 3) 0, 0, _, _, _⟩) (v := ?v2) rfl (by kernel_rfl) (by kernel_rfl) (by kernel_rfl) (fun _ _ _ h => h) (Or.inl ⟨by rfl, ?hy2⟩) hHeld ?rest2
  case hy2 => intro w9 hSw; go_simp; (try with_reducible rfl)
  try simp only [Act.put, s_put, s_0, s_1]
  refine wpAnyH_take (i := 3) (oi := ⟨some 8, .load 3 (.tmp 7), 3, _, _, _⟩) (v := ?v3) rfl (by kernel_rfl) (by kernel_rfl) (by kernel_rfl) (fun _ _ _ h => h) (Or.inl ⟨by rfl, ?hy3⟩) hHeld ?rest3
  case hy3 => intro w9 hSw; have c0 := (HY.out.later hSw).at0.1; go_simp; (try with_reducible rfl)
  try simp only [Act.put, s_put, s_0, s_1]
  refine wpAnyH_take (i := 5) (oi := ⟨some 10, .fieldAddr 27 (.tmp 2) 2, 0, _, _, _⟩) (v := ?v5) rfl (by kernel_rfl) (by kernel_rfl) (by kernel_rfl) (fun _ _ _ h => h) (Or.inl ⟨by rfl, ?hy5⟩) hHeld ?rest5
  case hy5 => intro w9 hSw; go_simp; (try with_reducible rfl)
  try simp only [Act.put, s_put, s_0, s_1]
  refine wpAnyH_take (i := 6) (oi := ⟨some 11, .load 9 (.tmp 10), 9, _, _, _⟩) (v := ?v6) rfl (by kernel_rfl) (by kernel_rfl) (by kernel_rfl) (fun _ _ _ h => h) (Or.inl ⟨by rfl, ?hy6⟩) hHeld ?rest6
  case hy6 => intro w9 hSw; have c0 := (HX.out.later hSw).at0.2.2.1; go_simp; (try with_reducible rfl)
  try simp only [Act.put, s_put, s_0, s_1]
  refine wpAnyH_take (i := 7) (oi := ⟨some 12, .fieldAddr 27 (.tmp 3) 2, 0, _, _, _⟩) (v := ?v7) rfl (by kernel_rfl) (by kernel_rfl) (by kernel_rfl) (fun _ _ _ h => h) (Or.inl ⟨by rfl, ?hy7⟩) hHeld ?rest7
  case hy7 => intro w9 hSw; go_simp; (try with_reducible rfl)
  try simp only [Act.put, s_put, s_0, s_1]
  refine wpAnyH_take (i := 8) (oi := ⟨some 13, .load 9 (.tmp 12), 9, _, _, _⟩) (v := ?v8) rfl (by kernel_rfl) (by kernel_rfl) (by kernel_rfl) (fun _ _ _ h => h) (Or.inl ⟨by rfl, ?hy8⟩) hHeld ?rest8
  case hy8 => intro w9 hSw; have c0 := (HY.out.later hSw).at0.2.2.1; go_simp; (try with_reducible rfl)
  try simp only [Act.put, s_put, s_0, s_1]
  refine wpAnyH_take (i := 10) (oi := ⟨some 15, .fieldAddr 27 (.tmp 2) 3, 0, _, _, _⟩) (v := ?v10) rfl (by kernel_rfl) (by kernel_rfl) (by kernel_rfl) (fun _ _ _ h => h) (Or.inl ⟨by rfl, ?hy10⟩) hHeld ?rest10
  case hy10 => intro w9 hSw; go_simp; (try with_reducible rfl)
  try simp only [Act.put, s_put, s_0, s_1]
  refine wpAnyH_take (i := 11) (oi := ⟨some 16, .load 3 (.tmp 15), 3, _, _, _⟩) (v := ?v11) rfl (by kernel_rfl) (by kernel_rfl) (by kernel_rfl) (fun _ _ _ h => h) (Or.inl ⟨by rfl, ?hy11⟩) hHeld ?rest11
  case hy11 => intro w9 hSw; have c0 := (HX.out.later hSw).at0.2.2.2.1; go_simp; (try with_reducible rfl)
  try simp only [Act.put, s_put, s_0, s_1]
  refine wpAnyH_take (i := 12) (oi := ⟨some 17, .fieldAddr 27 (.tmp 3) 3, 0, _, _, _⟩) (v := ?v12) rfl (by kernel_rfl) (by kernel_rfl) (by kernel_rfl) (fun _ _ _ h => h) (Or.inl ⟨by rfl, ?hy12⟩) hHeld ?rest12
  case hy12 => intro w9 hSw; go_simp; (try with_reducible rfl)
  try simp only [Act.put, s_put, s_0, s_1]
  refine wpAnyH_take (i := 13) (oi := ⟨some 18, .load 3 (.tmp 17), 3, _, _, _⟩) (v := ?v13) rfl (by kernel_rfl) (by kernel_rfl) (by kernel_rfl) (fun _ _ _ h => h) (Or.inl ⟨by rfl, ?hy13⟩) hHeld ?rest13
  case hy13 => intro w9 hSw; have c0 := (HY.out.later hSw).at0.2.2.2.1; go_simp; (try with_reducible rfl)
  try simp only [Act.put, s_put, s_0, s_1]
  refine wpAnyH_take (i := 15) (oi := ⟨some 20, .fieldAddr 27 (.tmp 2) 4, 0, _, _, _⟩) (v := ?v15) rfl (by kernel_rfl) (by kernel_rfl) (by kernel_rfl) (fun _ _ _ h => h) (Or.inl ⟨by rfl, ?hy15⟩) hHeld ?rest15
  case hy15 => intro w9 hSw; go_simp; (try with_reducible rfl)
  try simp only [Act.put, s_put, s_0, s_1]
  refine wpAnyH_take (i := 16) (oi := ⟨some 21, .load 3 (.tmp 20), 3, _, _, _⟩) (v := ?v16) rfl (by kernel_rfl) (by kernel_rfl) (by kernel_rfl) (fun _ _ _ h => h) (Or.inl ⟨by rfl, ?hy16⟩) hHeld ?rest16
  case hy16 => intro w9 hSw; have c0 := (HX.out.later hSw).at0.2.2.2.2.1; go_simp; (try with_reducible rfl)
  try simp only [Act.put, s_put, s_0, s_1]
  refine wpAnyH_take (i := 17) (oi := ⟨some 22, .fieldAddr 27 (.tmp 3) 4, 0, _, _, _⟩) (v := ?v17) rfl (by kernel_rfl) (by kernel_rfl) (by kernel_rfl) (fun _ _ _ h => h) (Or.inl ⟨by rfl, ?hy17⟩) hHeld ?rest17
  case hy17 => intro w9 hSw; go_simp; (try with_reducible rfl)
  try simp only [Act.put, s_put, s_0, s_1]
  refine wpAnyH_take (i := 18) (oi := ⟨some 23, .load 3 (.tmp 22), 3, _, _, _⟩) (v := ?v18) rfl (by kernel_rfl) (by kernel_rfl) (by kernel_rfl) (fun _ _ _ h => h) (Or.inl ⟨by rfl, ?hy18⟩) hHeld ?rest18
  case hy18 => intro w9 hSw; have c0 := (HY.out.later hSw).at0.2.2.2.2.1; go_simp; (try with_reducible rfl)
  try simp only [Act.put, s_put, s_0, s_1]
  refine wpAnyH_take (i := 20) (oi := ⟨some 25, .fieldAddr 27 (.tmp 2) 5, 0, _, _, _⟩) (v := ?v20) rfl (by kernel_rfl) (by kernel_rfl) (by kernel_rfl) (fun _ _ _ h => h) (Or.inl ⟨by rfl, ?hy20⟩) hHeld ?rest20
  case hy20 => intro w9 hSw; go_simp; (try with_reducible rfl)
  try simp only [Act.put, s_put, s_0, s_1]
  refine wpAnyH_take (i := 21) (oi := ⟨some 26, .load 22 (.tmp 25), 22, _, _, _⟩) (v := ?v21) rfl (by kernel_rfl) (by kernel_rfl) (by kernel_rfl) (fun _ _ _ h => h) (Or.inl ⟨by rfl, ?hy21⟩) hHeld ?rest21
  case hy21 => intro w9 hSw; have c0 := (HX.out.later hSw).at0.2.2.2.2.2; go_simp; (try with_reducible rfl)
  try simp only [Act.put, s_put, s_0, s_1]
  refine wpAnyH_take (i := 22) (oi := ⟨some 27, .call { callee := .builtin Builtin.len, args := #[.tmp 26], argTypes := #[22] }, 3, _, _, _⟩) (v := ?v22) rfl (by kernel_rfl) (by kernel_rfl) (by kernel_rfl) (fun _ _ _ h => h) (Or.inl ⟨by rfl, ?hy22⟩) hHeld ?rest22
  case hy22 => intro w9 hSw; go_simp; (try with_reducible rfl)
  try simp only [Act.put, s_put, s_0, s_1]
  refine wpAnyH_take (i := 23) (oi := ⟨some 28, .fieldAddr 27 (.tmp 3) 5, 0, _, _, _⟩) (v := ?v23) rfl (by kernel_rfl) (by kernel_rfl) (by kernel_rfl) (fun _ _ _ h => h) (Or.inl ⟨by rfl, ?hy23⟩) hHeld ?rest23
  case hy23 => intro w9 hSw; go_simp; (try with_reducible rfl)
  try simp only [Act.put, s_put, s_0, s_1]
  refine wpAnyH_take (i := 24) (oi := ⟨some 29, .load 22 (.tmp 28), 22, _, _, _⟩) (v := ?v24) rfl (by kernel_rfl) (by kernel_rfl) (by kernel_rfl) (fun _ _ _ h => h) (Or.inl ⟨by rfl, ?hy24⟩) hHeld ?rest24
  case hy24 => intro w9 hSw; have c0 := (HY.out.later hSw).at0.2.2.2.2.2; go_simp; (try with_reducible rfl)
  try simp only [Act.put, s_put, s_0, s_1]
  refine wpAnyH_take (i := 25) (oi := ⟨some 30, .call { callee := .builtin Builtin.len, args := #[.tmp 29], argTypes := #[22] }, 3, _, _, _⟩) (v := ?v25) rfl (by kernel_rfl) (by kernel_rfl) (by kernel_rfl) (fun _ _ _ h => h) (Or.inl ⟨by rfl, ?hy25⟩) hHeld ?rest25
  case hy25 => intro w9 hSw; go_simp; (try with_reducible rfl)
  try simp only [Act.put, s_put, s_0, s_1]
  refine wpAnyH_ready (rs := [4]) (by kernel_rfl) (by simp) ?_
  refine AllReadyH.cons (o := ⟨some 9, .call { callee := .value (.func 68), args := #[.tmp 6, .tmp 8], argTypes := #[3, 3] }, 3, _, _, _⟩) rfl (fun K hK => ?_) AllReadyH.nil
  go_simp
  refine (cmpInt_any _ _ _).mono ?_
  rintro e x4 ⟨rfl, hx4⟩
  replace hx4 := hx4.symm
  subst hx4
  go_wp2_with fail
  refine hK.out _ _ hHeld (fun _ => ?_)
  clear hK K
  try simp only [Act.put, s_put, s_0, s_1]
  refine wpAnyH_ready (rs := [9]) (by kernel_rfl) (by simp) ?_
  refine AllReadyH.cons (o := ⟨some 14, .call { callee := .value (.func 66), args := #[.tmp 11, .tmp 13], argTypes := #[9, 9] }, 3, _, _, _⟩) rfl (fun K hK => ?_) AllReadyH.nil
  go_simp
  refine (cmpStr_any _ _ _).mono ?_
  rintro e x9 ⟨rfl, hx9⟩
  replace hx9 := hx9.symm
  subst hx9
  go_wp2_with fail
  refine hK.out _ _ hHeld (fun _ => ?_)
  clear hK K
  try simp only [Act.put, s_put, s_0, s_1]
  refine wpAnyH_ready (rs := [14]) (by kernel_rfl) (by simp) ?_
  refine AllReadyH.cons (o := ⟨some 19, .call { callee := .value (.func 68), args := #[.tmp 16, .tmp 18], argTypes := #[3, 3] }, 3, _, _, _⟩) rfl (fun K hK => ?_) AllReadyH.nil
  go_simp
  refine (cmpInt_any _ _ _).mono ?_
  rintro e x14 ⟨rfl, hx14⟩
  replace hx14 := hx14.symm
  subst hx14
  go_wp2_with fail
  refine hK.out _ _ hHeld (fun _ => ?_)
  clear hK K
  try simp only [Act.put, s_put, s_0, s_1]
  refine wpAnyH_ready (rs := [19]) (by kernel_rfl) (by simp) ?_
  refine AllReadyH.cons (o := ⟨some 24, .call { callee := .value (.func 68), args := #[.tmp 21, .tmp 23], argTypes := #[3, 3] }, 3, _, _, _⟩) rfl (fun K hK => ?_) AllReadyH.nil
  go_simp
  refine (cmpInt_any _ _ _).mono ?_
  rintro e x19 ⟨rfl, hx19⟩
  replace hx19 := hx19.symm
  subst hx19
  go_wp2_with fail
  refine hK.out _ _ hHeld (fun _ => ?_)
  clear hK K
  try simp only [Act.put, s_put, s_0, s_1]
  refine wpAnyH_ready (rs := [26]) (by kernel_rfl) (by simp) ?_
  refine AllReadyH.cons (o := ⟨some 31, .call { callee := .value (.func 68), args := #[.tmp 27, .tmp 30], argTypes := #[3, 3] }, 3, _, _, _⟩) rfl (fun K hK => ?_) AllReadyH.nil
  go_simp
  refine (cmpInt_any _ _ _).mono ?_
  rintro e x26 ⟨rfl, hx26⟩
  replace hx26 := hx26.symm
  subst hx26
  go_wp2_with fail
  refine hK.out _ _ hHeld (fun _ => ?_)
  clear hK K
  try simp only [Act.put, s_put, s_0, s_1]
  refine wpAnyH_ready (rs := [27]) (by kernel_rfl) (by simp) ?_
  refine AllReadyH.cons (o := ⟨some 32, .buildSlice 50 5 #[(0, .tmp 9), (1, .tmp 14), (2, .tmp 19), (3, .tmp 24), (4, .tmp 31)], 50, _, _, _⟩) rfl (fun K hK => ?_) AllReadyH.nil
  go_simp
  have hT27 := hHeld.alloc hHeld.size (.cells #[.int .i64 (cmpI x.k y.k), .int .i64 (cmpS x.t y.t), .int .i64 (cmpI x.lo y.lo), .int .i64 (cmpI x.hi y.hi), .int .i64 (cmpI x.n y.n)] 3)
  refine hK.out _ _ hT27 (fun _ => ?_)
  clear hK K hHeld
  have hHeld := hT27
  clear hT27
  have C28 : Calls Try.prog 67 #[.slice (some ⟨d.heap.size, 0, none⟩) 5 5] (d.alloc (.cells #[.int .i64 (cmpI x.k y.k), .int .i64 (cmpS x.t y.t), .int .i64 (cmpI x.lo y.lo), .int .i64 (cmpI x.hi y.hi), .int .i64 (cmpI x.n y.n)] 3)) fun e w' => e = .returned (.int .i64 (alP x y)) ∧ w' = (d.alloc (.cells #[.int .i64 (cmpI x.k y.k), .int .i64 (cmpS x.t y.t), .int .i64 (cmpI x.lo y.lo), .int .i64 (cmpI x.hi y.hi), .int .i64 (cmpI x.n y.n)] 3)) := by
    have h := or_any d.heap.size 5 (five (cmpI x.k y.k) (cmpS x.t y.t) (cmpI x.lo y.lo) (cmpI x.hi y.hi) (cmpI x.n y.n)) (d.alloc (.cells #[.int .i64 (cmpI x.k y.k), .int .i64 (cmpS x.t y.t), .int .i64 (cmpI x.lo y.lo), .int .i64 (cmpI x.hi y.hi), .int .i64 (cmpI x.n y.n)] 3)) (by omega) (fun k hk => by match k, hk with | 0, _ => simp [five] | 1, _ => simp [five] | 2, _ => simp [five] | 3, _ => simp [five] | 4, _ => simp [five])
    rw [lex_five] at h
    exact h
  generalize (d.alloc (.cells #[.int .i64 (cmpI x.k y.k), .int .i64 (cmpS x.t y.t), .int .i64 (cmpI x.lo y.lo), .int .i64 (cmpI x.hi y.hi), .int .i64 (cmpI x.n y.n)] 3)) = D at hHeld C28 ⊢
  refine wpAnyH_ready (rs := [28]) (by kernel_rfl) (by simp) ?_
  refine AllReadyH.cons (o := ⟨some 33, .call { callee := .value (.func 67), args := #[.tmp 32], argTypes := #[50] }, 3, _, _, _⟩) rfl (fun K hK => ?_) AllReadyH.nil
  go_simp
  refine (C28).mono ?_
  rintro e x28 ⟨rfl, hx28⟩
  replace hx28 := hx28.symm
  subst hx28
  go_wp2_with fail
  refine hK.out _ _ hHeld (fun _ => ?_)
  clear hK K
  try simp only [Act.put, s_put, s_0, s_1]
  refine wpAnyH_take (i := 29) (oi := ⟨some 4, .assign (.tmp 33), 3, _, _, _⟩) (v := ?v29) rfl (by kernel_rfl) (by kernel_rfl) (by kernel_rfl) (fun _ _ _ h => h) (Or.inl ⟨by rfl, ?hy29⟩) hHeld ?rest29
  case hy29 => intro w9 hSw; go_simp; (try with_reducible rfl)
  try simp only [Act.put, s_put, s_0, s_1]
  refine wpAnyH_done (by kernel_rfl) ?_ _
  refine NoPanic.normal ?_
  go_wp2
  go_ret
  exact ⟨rfl, HB.out.trans (hHeld.mono HB.out.size)⟩
theorem lexN_stop {f : Nat → Int} {k n : Nat} (h : ∀ i, i < k → f i = 0) (g : ¬ f k = 0) (hk : k < n) : lexN f n = f k := lexN_not (lexN_zero.2 h) g hk
set_option maxRecDepth 100000 in
set_option maxHeartbeats 4000000 in
theorem compareForm_any (a a' : Option Addr) (n cap cap' : Nat) (c c' : Nat → Pt) (w : World) (hn : n ≤ 9223372036854775807) (h1 : ∀ i, i < n → ∃ b o, a = some ⟨b, o, none⟩ ∧ NodeP w b (o + i * 6) (c i)) (h2 : ∀ i, i < n → ∃ b o, a' = some ⟨b, o, none⟩ ∧ NodeP w b (o + i * 6) (c' i))
    (hC : ∀ i, i < n → ∀ W, Below w.heap.size w W → Calls Try.prog 19 #[(c i).val, (c' i).val] W fun e w' => e = .returned (.int .i64 (formP (c i) (c' i))) ∧ Below W.heap.size W w') :
    Calls Try.prog 46 #[.slice a n cap, .slice a' n cap', .func (.func 19) #[] #[]] w fun e w' => e = .returned (.int .i64 (lexN (fun i => formP (c i) (c' i)) n)) ∧ Below w.heap.size w w' := by
  obtain ⟨r, hr⟩ : ∃ r, r = lexN (fun i => formP (c i) (c' i)) n := ⟨_, rfl⟩
  have HF : Hid (∀ k, k < n → (∀ i, i < k → formP (c i) (c' i) = 0) → ¬ formP (c k) (c' k) = 0 → r = formP (c k) (c' k)) := fun k hk h g => hr.trans (lexN_stop (f := fun i => formP (c i) (c' i)) h g hk)
  have HT : Hid ((∀ i, i < n → formP (c i) (c' i) = 0) → r = 0) := fun h => hr.trans (lexN_zero.2 h)
  rw [← hr]
  have HC : Hid (∀ i, i < n → ∀ W, Below w.heap.size w W → Calls Try.prog 19 #[(c i).val, (c' i).val] W fun e w' => e = .returned (.int .i64 (formP (c i) (c' i))) ∧ Below W.heap.size W w') := hC
  have H1 : Hid (∀ i, i < n → ∃ b o, a = some ⟨b, o, none⟩ ∧ NodeP w b (o + i * 6) (c i)) := h1
  have H2 : Hid (∀ i, i < n → ∃ b o, a' = some ⟨b, o, none⟩ ∧ NodeP w b (o + i * 6) (c' i)) := h2
  clear hr hC h1 h2
  go_enter Try.func46, Try.ntmps46
  go_wp2
  go_loopw [13] (fun u wr => ∃ k : Nat, k ≤ n ∧ u = .int .i64 k ∧ Hid (∀ i, i < k → formP (c i) (c' i) = 0) ∧ Below w.heap.size w wr) (fun u _ => n - (intOf u).toNat)
  case atStart => exact ⟨0, Nat.zero_le _, rfl, fun i hi => absurd hi (Nat.not_lt_zero _), Below.refl _ _⟩
  case round =>
    obtain ⟨k, hk, rfl, HK, hB⟩ := hrel
    by_cases hkn : k < n
    · obtain ⟨b, o, rfl, hn1⟩ := H1.out k hkn
      obtain ⟨b', o', rfl, hn2⟩ := H2.out k hkn
      obtain ⟨A, hA, hB2, hs, hm1, hm2⟩ := boxP_two (c k) (c' k) wr
      have hlt := hn1.lt
      have hlt2 := hn2.lt
      have q2 : NodeP (wr.alloc (.cells (c k).cells 27)) b' (o' + k * 6) (c' k) := (hn2.later hB).later ((Below.refl _ _).alloc (Nat.le_refl _) _)
      obtain ⟨d0, d1, d2, d3, d4, d5⟩ := hn1.later hB
      obtain ⟨f0, f1, f2, f3, f4, f5⟩ := q2
      obtain ⟨g0, g1, g2, g3, g4, g5⟩ := hm1.at0
      obtain ⟨i0, i1, i2, i3, i4, i5⟩ := hm2.at0
      have hc := HC.out k hkn A (hB.trans (hB2.mono hB.size))
      have HKN : Hid (k < n) := hkn
      have HB : Hid (Below w.heap.size w A) := hB.trans (hB2.mono hB.size)
      obtain ⟨q, hq⟩ : ∃ q, q = formP (c k) (c' k) := ⟨_, rfl⟩
      rw [← hq] at hc
      have HE : Hid (q = formP (c k) (c' k)) := hq
      clear hq hn1 hn2 hm1 hm2 hB2 hs hB
      by_cases hz : q = 0
      · have HZ : Hid (q = 0) := hz
        have hz' : (q != 0) = false := by simpa using hz
        clear hz
        go_wp2_with (go_at_call 19; refine hc.mono ?_; clear hc; rintro e w2 ⟨rfl, hB2⟩)
        go_roundw
        case rel =>
          refine ⟨k + 1, HKN.out, by go_num, fun i hi => ?_, HB.out.trans (hB2.mono HB.out.size)⟩
          by_cases e : i = k
          · rw [e, ← HE.out]; exact HZ.out
          · exact HK.out i (by omega)
        case measure => have := HKN.out; simp [intOf]; omega
      · have HZ : Hid (¬ q = 0) := hz
        have hz' : (q != 0) = true := by simpa using hz
        clear hz
        go_wp2_with (go_at_call 19; refine hc.mono ?_; clear hc; rintro e w2 ⟨rfl, hB2⟩)
        go_ret
        exact ⟨ret_int ((HF.out k HKN.out HK.out (by rw [← HE.out]; exact HZ.out)).trans HE.out.symm).symm, HB.out.trans (hB2.mono HB.out.size)⟩
    · obtain rfl : k = n := by omega
      go_wp2
      go_ret
      exact ⟨ret_int (HT.out HK.out).symm, hB⟩
set_option maxRecDepth 100000 in
set_option maxHeartbeats 4000000 in
theorem compareVars_any (a a' : Option Addr) (n cap cap' : Nat) (c c' : Nat → Pt) (w : World) (hn : n ≤ 9223372036854775807) (h1 : ∀ i, i < n → ∃ b o, a = some ⟨b, o, none⟩ ∧ NodeP w b (o + i * 6) (c i)) (h2 : ∀ i, i < n → ∃ b o, a' = some ⟨b, o, none⟩ ∧ NodeP w b (o + i * 6) (c' i))
    (hC : ∀ i, i < n → ∀ W, Below w.heap.size w W → Calls Try.prog 43 #[(c i).val, (c' i).val] W fun e w' => e = .returned (.int .i64 (varP (c i) (c' i))) ∧ Below W.heap.size W w') :
    Calls Try.prog 46 #[.slice a n cap, .slice a' n cap', .func (.func 43) #[] #[]] w fun e w' => e = .returned (.int .i64 (lexN (fun i => varP (c i) (c' i)) n)) ∧ Below w.heap.size w w' := by
  obtain ⟨r, hr⟩ : ∃ r, r = lexN (fun i => varP (c i) (c' i)) n := ⟨_, rfl⟩
  have HF : Hid (∀ k, k < n → (∀ i, i < k → varP (c i) (c' i) = 0) → ¬ varP (c k) (c' k) = 0 → r = varP (c k) (c' k)) := fun k hk h g => hr.trans (lexN_stop (f := fun i => varP (c i) (c' i)) h g hk)
  have HT : Hid ((∀ i, i < n → varP (c i) (c' i) = 0) → r = 0) := fun h => hr.trans (lexN_zero.2 h)
  rw [← hr]
  have HC : Hid (∀ i, i < n → ∀ W, Below w.heap.size w W → Calls Try.prog 43 #[(c i).val, (c' i).val] W fun e w' => e = .returned (.int .i64 (varP (c i) (c' i))) ∧ Below W.heap.size W w') := hC
  have H1 : Hid (∀ i, i < n → ∃ b o, a = some ⟨b, o, none⟩ ∧ NodeP w b (o + i * 6) (c i)) := h1
  have H2 : Hid (∀ i, i < n → ∃ b o, a' = some ⟨b, o, none⟩ ∧ NodeP w b (o + i * 6) (c' i)) := h2
  clear hr hC h1 h2
  go_enter Try.func46, Try.ntmps46
  go_wp2
  go_loopw [13] (fun u wr => ∃ k : Nat, k ≤ n ∧ u = .int .i64 k ∧ Hid (∀ i, i < k → varP (c i) (c' i) = 0) ∧ Below w.heap.size w wr) (fun u _ => n - (intOf u).toNat)
  case atStart => exact ⟨0, Nat.zero_le _, rfl, fun i hi => absurd hi (Nat.not_lt_zero _), Below.refl _ _⟩
  case round =>
    obtain ⟨k, hk, rfl, HK, hB⟩ := hrel
    by_cases hkn : k < n
    · obtain ⟨b, o, rfl, hn1⟩ := H1.out k hkn
      obtain ⟨b', o', rfl, hn2⟩ := H2.out k hkn
      obtain ⟨A, hA, hB2, hs, hm1, hm2⟩ := boxP_two (c k) (c' k) wr
      have hlt := hn1.lt
      have hlt2 := hn2.lt
      have q2 : NodeP (wr.alloc (.cells (c k).cells 27)) b' (o' + k * 6) (c' k) := (hn2.later hB).later ((Below.refl _ _).alloc (Nat.le_refl _) _)
      obtain ⟨d0, d1, d2, d3, d4, d5⟩ := hn1.later hB
      obtain ⟨f0, f1, f2, f3, f4, f5⟩ := q2
      obtain ⟨g0, g1, g2, g3, g4, g5⟩ := hm1.at0
      obtain ⟨i0, i1, i2, i3, i4, i5⟩ := hm2.at0
      have hc := HC.out k hkn A (hB.trans (hB2.mono hB.size))
      have HKN : Hid (k < n) := hkn
      have HB : Hid (Below w.heap.size w A) := hB.trans (hB2.mono hB.size)
      obtain ⟨q, hq⟩ : ∃ q, q = varP (c k) (c' k) := ⟨_, rfl⟩
      rw [← hq] at hc
      have HE : Hid (q = varP (c k) (c' k)) := hq
      clear hq hn1 hn2 hm1 hm2 hB2 hs hB
      by_cases hz : q = 0
      · have HZ : Hid (q = 0) := hz
        have hz' : (q != 0) = false := by simpa using hz
        clear hz
        go_wp2_with (go_at_call 43; refine hc.mono ?_; clear hc; rintro e w2 ⟨rfl, hB2⟩)
        go_roundw
        case rel =>
          refine ⟨k + 1, HKN.out, by go_num, fun i hi => ?_, HB.out.trans (hB2.mono HB.out.size)⟩
          by_cases e : i = k
          · rw [e, ← HE.out]; exact HZ.out
          · exact HK.out i (by omega)
        case measure => have := HKN.out; simp [intOf]; omega
      · have HZ : Hid (¬ q = 0) := hz
        have hz' : (q != 0) = true := by simpa using hz
        clear hz
        go_wp2_with (go_at_call 43; refine hc.mono ?_; clear hc; rintro e w2 ⟨rfl, hB2⟩)
        go_ret
        exact ⟨ret_int ((HF.out k HKN.out HK.out (by rw [← HE.out]; exact HZ.out)).trans HE.out.symm).symm, HB.out.trans (hB2.mono HB.out.size)⟩
    · obtain rfl : k = n := by omega
      go_wp2
      go_ret
      exact ⟨ret_int (HT.out HK.out).symm, hB⟩
set_option maxRecDepth 100000 in
set_option maxHeartbeats 8000000 in
theorem formP_any : ∀ (x y : Pt) (w : World), IsP w x → IsP w y → Calls Try.prog 19 #[x.val, y.val] w fun e w' => e = .returned (.int .i64 (formP x y)) ∧ Below w.heap.size w w' := by
  refine Pt.ind fun x ih y w hX hY => ?_
  obtain ⟨A, hA, hB, hs, hn, hm⟩ := boxP_two x y w
  have HB : Hid (Below w.heap.size w A) := hB
  have HX : Hid (NodeP A w.heap.size 0 x) := hn
  have HY : Hid (NodeP A (w.heap.size + 1) 0 y) := hm
  have EQ : Hid (x.n = y.n → ∀ d, Below w.heap.size w d → Calls Try.prog 46 #[.slice x.a x.n x.cap, .slice y.a y.n y.cap, .func (.func 19) #[] #[]] d fun e w' => e = .returned (.int .i64 (lexN (fun i => formP (x.c i) (y.c i)) x.n)) ∧ Below d.heap.size d w') := fun e d hw => by
    rw [← e]
    refine compareForm_any x.a y.a x.n x.cap y.cap x.c y.c d hX.len (fun i hi => ?_) (fun i hi => ?_) fun i hi W hW => ?_
    · obtain ⟨b, o, ea, h1, _⟩ := (hX.later hw).part hi
      exact ⟨b, o, ea, h1⟩
    · obtain ⟨b, o, ea, h1, _⟩ := (hY.later hw).part (e ▸ hi)
      exact ⟨b, o, ea, h1⟩
    · obtain ⟨_, _, _, _, h1⟩ := (hX.later (hw.trans (hW.mono hw.size))).part hi
      obtain ⟨_, _, _, _, h2⟩ := (hY.later (hw.trans (hW.mono hw.size))).part (e ▸ hi)
      exact ih i hi _ W h1 h2
  have HR : Hid (formP x y = orI (alP x y) (lexN (fun i => formP (x.c i) (y.c i)) x.n)) := formP_eq x y
  have HN : Hid (alP x y = 0 → x.n = y.n) := fun h => (alP_zero.1 h).2.2.2.2
  generalize formP x y = r at HR ⊢
  generalize lexN (fun i => formP (x.c i) (y.c i)) x.n = l at HR EQ
  have ca : Hid (∀ d, Calls Try.prog 45 #[x.val, y.val] d fun e w' => e = .returned (.int .i64 (alP x y)) ∧ Below d.heap.size d w') := fun d => aloneP_any x y d
  generalize alP x y = q at HR HN ca
  obtain ⟨a0, a1, a2, a3, a4, a5⟩ := hn.at0
  obtain ⟨b0, b1, b2, b3, b4, b5⟩ := hm.at0
  clear ih hX hY hB hn hm
  by_cases hz : q = 0
  · have hc := EQ.out (HN.out hz)
    have HR' : Hid (r = l) := by show r = l; rw [HR.out, hz]; rfl
    have hz' : (q != 0) = false := by simpa using hz
    have HC : Hid (_ : Prop) := hc
    have HS : Hid (A.heap.size = w.heap.size + 2) := hs
    clear EQ HR HN hz hc hs
    go_enter Try.func19, Try.ntmps19
    go_wp2_with (first
      | (go_at_call 45; refine (ca.out _).mono ?_; rintro e w2 ⟨rfl, hB2⟩; have c5 := ((HX.out.later hB2).at0).2.2.2.2.2; have e5 := ((HY.out.later hB2).at0).2.2.2.2.2)
      | (go_at_call 46; refine (HC.out _ (HB.out.trans (hB2.mono HB.out.size))).mono ?_; rintro e w3 ⟨rfl, hB3⟩))
    go_ret
    exact ⟨ret_int HR'.out.symm, (HB.out.trans (hB2.mono HB.out.size)).trans (hB3.mono (HB.out.trans (hB2.mono HB.out.size)).size)⟩
  · have HR' : Hid (r = q) := by show r = q; rw [HR.out, orI, if_neg hz]
    have hz' : (q != 0) = true := by simpa using hz
    clear EQ HR HN hz hs
    go_enter Try.func19, Try.ntmps19
    go_wp2_with (go_at_call 45; refine (ca.out _).mono ?_; rintro e w2 ⟨rfl, hB2⟩)
    go_ret
    exact ⟨ret_int HR'.out.symm, HB.out.trans (hB2.mono HB.out.size)⟩
set_option maxRecDepth 100000 in
set_option maxHeartbeats 8000000 in
theorem varP_any : ∀ (x y : Pt) (w : World), formP x y = 0 → IsP w x → IsP w y → Calls Try.prog 43 #[x.val, y.val] w fun e w' => e = .returned (.int .i64 (varP x y)) ∧ Below w.heap.size w w' := by
  refine Pt.ind fun x ih y w hF hX hY => ?_
  have hN := ((formP_zero _ _).1 hF).2.2.2.2.1
  have hP := ((formP_zero _ _).1 hF).2.2.2.2.2
  obtain ⟨A, hA, hB, hs, hn, hm⟩ := boxP_two x y w
  have HB : Hid (Below w.heap.size w A) := hB
  have EQ : Hid (Calls Try.prog 46 #[.slice x.a x.n x.cap, .slice y.a y.n y.cap, .func (.func 43) #[] #[]] A fun e w' => e = .returned (.int .i64 (lexN (fun i => varP (x.c i) (y.c i)) x.n)) ∧ Below A.heap.size A w') := by
    show Calls _ _ _ _ _
    rw [← hN]
    refine compareVars_any x.a y.a x.n x.cap y.cap x.c y.c A hX.len (fun i hi => ?_) (fun i hi => ?_) fun i hi W hW => ?_
    · obtain ⟨b, o, ea, h1, _⟩ := (hX.later hB).part hi
      exact ⟨b, o, ea, h1⟩
    · obtain ⟨b, o, ea, h1, _⟩ := (hY.later hB).part (hN ▸ hi)
      exact ⟨b, o, ea, h1⟩
    · obtain ⟨_, _, _, _, h1⟩ := (hX.later (hB.trans (hW.mono hB.size))).part hi
      obtain ⟨_, _, _, _, h2⟩ := (hY.later (hB.trans (hW.mono hB.size))).part (hN ▸ hi)
      exact ih i hi _ W (hP i hi) h1 h2
  have HR : Hid (varP x y = orI (cmpS x.s y.s) (lexN (fun i => varP (x.c i) (y.c i)) x.n)) := varP_eq x y
  generalize varP x y = r at HR ⊢
  generalize lexN (fun i => varP (x.c i) (y.c i)) x.n = l at HR EQ
  obtain ⟨a0, a1, a2, a3, a4, a5⟩ := hn.at0
  obtain ⟨b0, b1, b2, b3, b4, b5⟩ := hm.at0
  have ca : Hid (∀ d, Calls Try.prog 66 #[.string x.s, .string y.s] d fun e w' => e = .returned (.int .i64 (cmpS x.s y.s)) ∧ w' = d) := fun d => cmpStr_any x.s y.s d
  generalize cmpS x.s y.s = q at HR ca
  clear ih hX hY hB hn hm hN hP hF hs
  by_cases hz : q = 0
  · have HR' : Hid (r = l) := by show r = l; rw [HR.out, hz]; rfl
    have hz' : (q != 0) = false := by simpa using hz
    clear HR hz
    go_enter Try.func43, Try.ntmps43
    go_wp2_with (first
      | (go_at_call 66; refine (ca.out _).mono ?_; rintro e w2 ⟨rfl, rfl⟩)
      | (go_at_call 46; refine EQ.out.mono ?_; rintro e w3 ⟨rfl, hB3⟩))
    go_ret
    exact ⟨ret_int HR'.out.symm, HB.out.trans (hB3.mono HB.out.size)⟩
  · have HR' : Hid (r = q) := by show r = q; rw [HR.out, orI, if_neg hz]
    have hz' : (q != 0) = true := by simpa using hz
    clear EQ HR hz
    go_enter Try.func43, Try.ntmps43
    go_wp2_with (go_at_call 66; refine (ca.out _).mono ?_; rintro e w2 ⟨rfl, rfl⟩)
    go_ret
    exact ⟨ret_int HR'.out.symm, HB.out⟩
set_option maxRecDepth 100000 in
set_option maxHeartbeats 8000000 in
theorem wholeP_any (x y : Pt) (w : World) (hX : IsP w x) (hY : IsP w y) : Calls Try.prog 17 #[x.val, y.val] w fun e w' => e = .returned (.int .i64 (wholeP x y)) ∧ Below w.heap.size w w' := by
  obtain ⟨A, hA, hB, hs, hn, hm⟩ := boxP_two x y w
  have HB : Hid (Below w.heap.size w A) := hB
  have HX : Hid (NodeP A w.heap.size 0 x) := hn
  have HY : Hid (NodeP A (w.heap.size + 1) 0 y) := hm
  have ca : Hid (Calls Try.prog 19 #[x.val, y.val] A fun e w' => e = .returned (.int .i64 (formP x y)) ∧ Below A.heap.size A w') := formP_any x y A (hX.later hB) (hY.later hB)
  have EQ : Hid (formP x y = 0 → ∀ d, Below w.heap.size w d → Calls Try.prog 43 #[x.val, y.val] d fun e w' => e = .returned (.int .i64 (varP x y)) ∧ Below d.heap.size d w') := fun e d hw => varP_any x y d e (hX.later hw) (hY.later hw)
  have HR : Hid (wholeP x y = orI (formP x y) (varP x y)) := rfl
  generalize wholeP x y = r at HR ⊢
  generalize formP x y = q at HR ca EQ
  generalize varP x y = l at HR EQ
  obtain ⟨a0, a1, a2, a3, a4, a5⟩ := hn.at0
  obtain ⟨b0, b1, b2, b3, b4, b5⟩ := hm.at0
  clear hX hY hB hn hm hs
  by_cases hz : q = 0
  · have HC : Hid (_ : Prop) := EQ.out hz
    have HR' : Hid (r = l) := by show r = l; rw [HR.out, hz]; rfl
    have hz' : (q != 0) = false := by simpa using hz
    clear EQ HR hz
    go_enter Try.func17, Try.ntmps17
    go_wp2_with (first
      | (go_at_call 19; refine ca.out.mono ?_; rintro e w2 ⟨rfl, hB2⟩; obtain ⟨c0, c1, c2, c3, c4, c5⟩ := (HX.out.later hB2).at0; obtain ⟨e0, e1, e2, e3, e4, e5⟩ := (HY.out.later hB2).at0)
      | (go_at_call 43; refine (HC.out _ (HB.out.trans (hB2.mono HB.out.size))).mono ?_; rintro e w3 ⟨rfl, hB3⟩))
    go_ret
    exact ⟨ret_int HR'.out.symm, (HB.out.trans (hB2.mono HB.out.size)).trans (hB3.mono (HB.out.trans (hB2.mono HB.out.size)).size)⟩
  · have HR' : Hid (r = q) := by show r = q; rw [HR.out, orI, if_neg hz]
    have hz' : (q != 0) = true := by simpa using hz
    clear EQ HR hz
    go_enter Try.func17, Try.ntmps17
    go_wp2_with (go_at_call 19; refine ca.out.mono ?_; rintro e w2 ⟨rfl, hB2⟩)
    go_ret
    exact ⟨ret_int HR'.out.symm, HB.out.trans (hB2.mono HB.out.size)⟩
end Go.Proofs.Ytcdehohmgfocdaa
namespace Go.Proofs.Ytcdehohmgfocdaa
open Go.RowKit Go.Shelf Go.Maps Go.WideMaps

abbrev zeroI : DataW Unit := .lit (.int .i64 0)
/-- What the map tells of the names from the i-th on: each one's first place. -/
structure Firsts (S : Nat → ByteArray) (n i : Nat) (D : DataW Unit) : Prop where
  hit : ∀ j, i ≤ j → j < n → (∀ j', i ≤ j' → j' < j → S j' ≠ S j) → Maps.has D (keyS (S j)) = true ∧ D.atKey (keyS (S j)) zeroI = .lit (.int .i64 j)
  miss : ∀ s, (∀ j, i ≤ j → j < n → S j ≠ s) → Maps.has D (keyS s) = false
theorem firsts_none (S : Nat → ByteArray) (n : Nat) : Firsts S n n (.map []) := ⟨fun j h1 h2 => by omega, fun _ _ => rfl⟩
theorem Firsts.more {S : Nat → ByteArray} {n i : Nat} {D : DataW Unit} (h : Firsts S n (i + 1) D) (hm : IsMap D) (hi : i < n) : Firsts S n i (D.put (keyS (S i)) (.lit (.int .i64 i))) := by
  refine ⟨fun j h1 h2 h3 => ?_, fun s hs => ?_⟩
  · by_cases e : j = i
    · subst e
      exact ⟨has_put_same hm (by simp [WideAt.IsKeyLit]) _, atKey_put_same hm (by simp [WideAt.IsKeyLit]) _ _⟩
    · have hne : S i ≠ S j := h3 i (Nat.le_refl _) (by omega)
      obtain ⟨q1, q2⟩ := h.hit j (by omega) h2 fun j' h4 h5 => h3 j' (by omega) h5
      rw [has_put_other (keyS_ne fun q => hne q.symm), atKey_put_other (keyS_ne fun q => hne q.symm)]
      exact ⟨q1, q2⟩
  · have hne : S i ≠ s := hs i (Nat.le_refl _) hi
    rw [has_put_other (keyS_ne fun q => hne q.symm)]
    exact h.miss s fun j h1 h2 => hs j (by omega) h2
theorem ownsMap_ag {B : Nat} {W A : World} (h : Ag B W A) {b n : Nat} {D : DataW Unit} (hb : b < B) (ho : W.ownsMap Try.prog 9 (plainElem (H := Unit) Try.prog 3) b n D) : A.ownsMap Try.prog 9 (plainElem (H := Unit) Try.prog 3) b n D := by
  obtain ⟨es, clock, h1, h2⟩ := ho
  exact ⟨es, clock, (h.low b hb).trans h1, h2⟩
theorem ownsMap_below {B : Nat} {W A : World} (h : Below B W A) {b n : Nat} {D : DataW Unit} (hb : b < B) (ho : W.ownsMap Try.prog 9 (plainElem (H := Unit) Try.prog 3) b n D) : A.ownsMap Try.prog 9 (plainElem (H := Unit) Try.prog 3) b n D := by
  obtain ⟨es, clock, h1, h2⟩ := ho
  exact ⟨es, clock, (h.block b hb).trans h1, h2⟩
/-- The first place of a name. -/
def fstS (S : Nat → ByteArray) (s : ByteArray) : Nat → Option Nat
  | 0 => none
  | n + 1 => match fstS S s n with
    | some j => some j
    | none => if S n = s then some n else none
theorem fstS_some {S : Nat → ByteArray} {s : ByteArray} : ∀ {n j : Nat}, fstS S s n = some j → j < n ∧ S j = s ∧ ∀ j', j' < j → S j' ≠ s
  | 0, _, h => by simp [fstS] at h
  | n + 1, j, h => by
    have none_of : ∀ {n}, fstS S s n = none → ∀ j', j' < n → S j' ≠ s := by
      intro n
      induction n with
      | zero => intro _ j' hj; omega
      | succ n ih =>
        intro h j' hj
        simp only [fstS] at h
        cases e : fstS S s n with
        | some q => rw [e] at h; cases h
        | none =>
          rw [e] at h
          simp only at h
          by_cases hs : S n = s
          · rw [if_pos hs] at h; cases h
          · by_cases ej : j' = n
            · subst ej; exact hs
            · exact ih e j' (by omega)
    simp only [fstS] at h
    cases e : fstS S s n with
    | some q =>
      rw [e] at h
      simp only at h
      cases h
      obtain ⟨h1, h2, h3⟩ := fstS_some e
      exact ⟨by omega, h2, h3⟩
    | none =>
      rw [e] at h
      simp only at h
      by_cases hs : S n = s
      · rw [if_pos hs] at h
        cases h
        exact ⟨by omega, hs, none_of e⟩
      · rw [if_neg hs] at h; cases h
theorem fstS_none {S : Nat → ByteArray} {s : ByteArray} : ∀ {n : Nat}, fstS S s n = none → ∀ j', j' < n → S j' ≠ s
  | 0, _, j', hj => by omega
  | n + 1, h, j', hj => by
    simp only [fstS] at h
    cases e : fstS S s n with
    | some q => rw [e] at h; cases h
    | none =>
      rw [e] at h
      simp only at h
      by_cases hs : S n = s
      · rw [if_pos hs] at h; cases h
      · by_cases ej : j' = n
        · subst ej; exact hs
        · exact fstS_none e j' (by omega)
/-- A name's new name. -/
def nameX (S T : Nat → ByteArray) (n : Nat) (s : ByteArray) : ByteArray := match fstS S s n with
  | some j => T j
  | none => s
/-- What is older than N1 stays, but for one block. -/
structure Lb (N1 B0 : Nat) (W W' : World) : Prop where
  os : W'.os = W.os
  tape : W'.tape = W.tape
  output : W'.output = W.output
  size : W.heap.size ≤ W'.heap.size
  block : ∀ k, k < N1 → k ≠ B0 → W'.heap[k]? = W.heap[k]?
theorem Lb.refl (N1 B0 : Nat) (W : World) : Lb N1 B0 W W := ⟨rfl, rfl, rfl, Nat.le_refl _, fun _ _ _ => rfl⟩
theorem Lb.trans {N1 B0 : Nat} {A B C : World} (h : Lb N1 B0 A B) (g : Lb N1 B0 B C) : Lb N1 B0 A C :=
  ⟨g.os.trans h.os, g.tape.trans h.tape, g.output.trans h.output, Nat.le_trans h.size g.size, fun k h1 h2 => (g.block k h1 h2).trans (h.block k h1 h2)⟩
theorem Lb.ag {N1 B0 B : Nat} {W A A' W' : World} (h : Ag B W A) (h' : Ag B A' W') (hN : N1 ≤ B) (g : Lb N1 B0 A A') : Lb N1 B0 W W' :=
  ⟨h'.os.trans (g.os.trans h.os), h'.tape.trans (g.tape.trans h.tape), h'.output.trans (g.output.trans h.output), by rw [h'.size, ← h.size]; exact g.size, fun k h1 h2 => (h'.low k (by omega)).trans ((g.block k h1 h2).trans (h.low k (by omega)))⟩
theorem Lb.set {N1 B0 b o : Nat} {W : World} {v : Value} (hb : b = B0 ∨ N1 ≤ b) : Lb N1 B0 W (W.setCell ⟨b, o, none⟩ v) :=
  ⟨rfl, rfl, rfl, Nat.le_of_eq (World.size_setCell ..).symm, fun k h1 h2 => Below.heap_setCell W ⟨b, o, none⟩ v k (fun e => by have e' : k = b := e; omega)⟩
theorem Lb.below {N1 B0 n : Nat} {W W' : World} (h : Lb N1 B0 W W') (hn : n ≤ N1) (hB : n ≤ B0) : Below n W W' := ⟨h.os, h.tape, h.output, h.size, fun k hk => h.block k (by omega) (by omega)⟩
theorem Lb.of_below {N1 B0 : Nat} {W W' : World} (h : Below N1 W W') : Lb N1 B0 W W' := ⟨h.os, h.tape, h.output, h.size, fun k hk _ => h.block k hk⟩

set_option maxRecDepth 100000 in
/-- What the map tells of a name. -/
theorem look_at {W : World} {M q : Nat} {D : DataW Unit} {S : Nat → ByteArray} {s : ByteArray} (ho : W.ownsMap Try.prog 9 (plainElem (H := Unit) Try.prog 3) M q D) (hF : Firsts S q 0 D) (hs : s.size ≤ maxLen) :
    ∃ c : Int, (Instr.lookup 82 (.map (some M)) (.string s) true).run Try.prog W = .ok (.tuple #[.int .i64 c, .bool (fstS S s q).isSome]) W ∧ ∀ j, fstS S s q = some j → c = j := by
  have hkey : keyOf Try.prog 9 (.string s) = some (keyS s) := keyOf_string_mk Try.underlying9 hs
  obtain ⟨v, ps, hrun, hv⟩ := ho.look_ok str_law Try.underlying82 (z := .int .i64 0) rfl (plainElem_int Try.underlying3 (WalkArith.wf_i64 (by omega))) hkey
  obtain ⟨c, rfl, hc, hwc⟩ := plainElem_int_inv Try.underlying3 hv
  have hc' : D.atKey (keyS s) zeroI = .lit (.int .i64 c) := congrArg Prod.fst hc
  refine ⟨c, ?_, fun j hj => ?_⟩
  · rw [hrun]
    cases e : fstS S s q with
    | none => rw [hF.miss s fun j _ hj => fstS_none e j hj]; rfl
    | some j =>
      obtain ⟨h1, h2, h3⟩ := fstS_some e
      have := (hF.hit j (Nat.zero_le _) h1 fun j' _ hj' => by rw [h2]; exact h3 j' hj').1
      rw [h2] at this
      rw [this]
      rfl
  · obtain ⟨h1, h2, h3⟩ := fstS_some hj
    have := (hF.hit j (Nat.zero_le _) h1 fun j' _ hj' => by rw [h2]; exact h3 j' hj').2
    rw [h2, hc'] at this
    injection this with e
    injection e with _ e
theorem Lb.boxed {N1 B0 : Nat} {W W' : World} (h : Lb N1 B0 W W') {b : Nat} {t : TypeId} {v : Value} (hb : Boxed W b t v) (h1 : b < N1) (h2 : b ≠ B0) : Boxed W' b t v := (h.block b h1 h2).trans hb
theorem Lb.map {N1 B0 : Nat} {W W' : World} (h : Lb N1 B0 W W') {b n : Nat} {D : DataW Unit} (h1 : b < N1) (h2 : b ≠ B0) (ho : W.ownsMap Try.prog 9 (plainElem (H := Unit) Try.prog 3) b n D) : W'.ownsMap Try.prog 9 (plainElem (H := Unit) Try.prog 3) b n D := by
  obtain ⟨es, clock, q1, q2⟩ := ho
  exact ⟨es, clock, (h.block b h1 h2).trans q1, q2⟩
end Go.Proofs.Ytcdehohmgfocdaa
namespace Go.Proofs.Ytcdehohmgfocdaa
open Go.RowKit

/-- A slice of texts, by index. -/
def Txs (w : World) (a : Option Addr) (n : Nat) (S : Nat → ByteArray) : Prop := 0 < n → ∃ b o, a = some ⟨b, o, none⟩ ∧ ∀ j, j < n → w.cell? ⟨b, o + j, none⟩ = some (.string (S j))
theorem Txs.later {w w' : World} {a : Option Addr} {n : Nat} {S : Nat → ByteArray} (h : Txs w a n S) (hB : Below w.heap.size w w') : Txs w' a n S := fun h0 => by
  obtain ⟨b, o, e, hc⟩ := h h0
  exact ⟨b, o, e, fun j hj => cell_later (hc j hj) hB⟩
theorem Txs.lt {W : World} {a : Option Addr} {n : Nat} {S : Nat → ByteArray} (hx : Txs W a n S) (h0 : 0 < n) {b o : Nat} (e : a = some ⟨b, o, none⟩) : b < W.heap.size := by
  obtain ⟨b', o', e', hc⟩ := hx h0
  rw [e] at e'
  cases e'
  exact World.block_lt_of_cell? W _ (hc 0 h0)
end Go.Proofs.Ytcdehohmgfocdaa
