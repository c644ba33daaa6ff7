/-
  expr.alone: two nodes without their parts.
  expr.pairs and expr.Order.
  expr.Order: by the first nodes that differ.
  expr.Same.
-/
import Derived.Test.YtcdehohmgfocdaaSBrief
import Derived.Test.YtcdehohmgfocdaaSExprBase
namespace Go.Proofs.Ytcdehohmgfocdaa
open Go.RowKit

theorem lexN_not {f : Nat → Int} {k : Nat} (h0 : lexN f k = 0) (h : ¬ f k = 0) : ∀ {n : Nat}, k < n → lexN f n = f k
  | 0, hn => by omega
  | n + 1, hn => by
    by_cases e : k = n
    · subst e
      show (if lexN f k = 0 then f k else lexN f k) = f k
      rw [if_pos h0]
    · have := lexN_not h0 h (show k < n by omega)
      show (if lexN f n = 0 then f n else lexN f n) = f k
      rw [this, if_neg h]
set_option maxRecDepth 100000 in
set_option maxHeartbeats 1000000 in
/-- cmp.Or: the first that is not 0. -/
theorem or_any (b n : Nat) (V : Nat → Int) (w : World) (hn : n ≤ 9223372036854775807) (hc : ∀ k, k < n → w.cell? ⟨b, k, none⟩ = some (.int .i64 (V k))) :
    Calls Try.prog 67 #[.slice (some ⟨b, 0, none⟩) n n] w fun e w' => e = .returned (.int .i64 (lexN V n)) ∧ w' = w := by
  obtain ⟨r, hr⟩ : ∃ r, r = lexN V n := ⟨_, rfl⟩
  rw [← hr]
  have HR : Hid (r = lexN V n) := hr
  have HC : Hid (∀ k, k < n → w.cell? ⟨b, k, none⟩ = some (.int .i64 (V k))) := hc
  clear hc hr
  go_enter Try.func67, Try.ntmps67
  go_wp2
  go_loopw [8] (fun u wr => ∃ k : Nat, k ≤ n ∧ u = .int .i64 k ∧ Hid (lexN V k = 0) ∧ wr = w) (fun u _ => n - (intOf u).toNat)
  case atStart => exact ⟨0, Nat.zero_le _, rfl, rfl, rfl⟩
  case round =>
    obtain ⟨k, hk, rfl, H0, rfl⟩ := hrel
    by_cases hkn : k < n
    · have c := HC.out k hkn
      have HK : Hid (k < n) := hkn
      by_cases hv : V k = 0
      · have HV : Hid (V k = 0) := hv
        have hv' : (V k == 0) = true := by simpa using hv
        clear hv
        go_wp2
        go_roundw
        case rel => exact ⟨k + 1, HK.out, by go_num, by show (if lexN V k = 0 then V k else lexN V k) = 0; rw [if_pos H0.out]; exact HV.out, by first | trivial | rfl⟩
        case measure => have := HK.out; simp [intOf]; omega
      · have HV : Hid (¬ V k = 0) := hv
        have hv' : (V k == 0) = false := by simpa using hv
        clear hv
        go_wp2
        try rw [Exit.noGoto_ret]
        go_ret
        exact ⟨ret_int (by rw [HR.out, lexN_not H0.out HV.out HK.out]), rfl⟩
    · obtain rfl : k = n := by omega
      go_wp2
      go_ret
      exact ⟨ret_int (by rw [HR.out, H0.out]), rfl⟩
/-- What alone tells. -/
def alZ (x y : X) : Int := orI (cmpI x.k y.k) (orI (ordV x.v y.v) (orI (cmpS x.s y.s) (orI (cmpS x.f y.f) (cmpI x.n y.n))))
theorem ordX_al (x y : X) : ordX x y = orI (alZ x y) (lexN (fun i => ordX (x.c i) (y.c i)) x.n) := by
  rw [ordX_eq]
  unfold alZ orI
  by_cases h1 : cmpI x.k y.k = 0
  · simp only [h1, if_true]
    by_cases h2 : ordV x.v y.v = 0
    · simp only [h2, if_true]
      by_cases h3 : cmpS x.s y.s = 0
      · simp only [h3, if_true]
        by_cases h4 : cmpS x.f y.f = 0
        · simp only [h4, if_true]
        · simp only [h4, if_false]
      · simp only [h3, if_false]
    · simp only [h2, if_false]
  · simp only [h1, if_false]
def five (a b c d e : Int) : Nat → Int
  | 0 => a
  | 1 => b
  | 2 => c
  | 3 => d
  | _ => e
theorem lex_five (a b c d e : Int) : lexN (five a b c d e) 5 = orI a (orI b (orI c (orI d e))) := by
  simp only [lexN, five]
  unfold orI
  by_cases h1 : a = 0 <;> by_cases h2 : b = 0 <;> by_cases h3 : c = 0 <;> by_cases h4 : d = 0 <;> simp [h1, h2, h3, h4]
/-- Two nodes in memory. -/
def Nodes (w : World) (b o : Nat) (x : X) (b' o' : Nat) (y : X) : Prop := Node w b o x ∧ Node w b' o' y
set_option maxRecDepth 100000 in
set_option maxHeartbeats 8000000 in
theorem alone_any (b o b' o' : Nat) (x y : X) (w : World) (hx : Node w b o x) (hy : Node w b' o' y) :
    Calls Try.prog 60 #[.pointer (some ⟨b, o, none⟩), .pointer (some ⟨b', o', none⟩)] w fun e w' => e = .returned (.int .i64 (alZ x y)) ∧ Below w.heap.size w w' := by
  have HX : Hid (Node w b o x) := hx
  have HY : Hid (Node w b' o' y) := hy
  clear hx hy
  obtain ⟨W, hW⟩ : ∃ W, W = w := ⟨_, rfl⟩
  rw [← hW] at HX HY ⊢
  clear hW
  go_enter Try.func60, Try.ntmps60
  go_wp2_with fail
  refine wp_region_noPanic ?_
  refine wp_region_held_drew (S := fun w' => Below W.heap.size W w') (by kernel_rfl) ((Below.refl _ _).drew) (fun hHeld => ?_)
  have hT : Below W.heap.size W W.drew := hHeld
  obtain ⟨d, hd⟩ : ∃ d, d = W.drew := ⟨_, rfl⟩
  rw [← hd] at hHeld hT ⊢
  clear hd
  refine wpAnyH_take (i := 0) (oi := ⟨some 5, .move (.tmp 0), 80, _, _, _⟩) (v := ?v0) rfl (by kernel_rfl) (by kernel_rfl) (by kernel_rfl) (fun _ _ _ h => h) (Or.inl ⟨by rfl, ?hy0⟩) hHeld ?rest0
  case hy0 => intro w9 hSw; go_simp; (try with_reducible rfl)
  try simp only [Act.put, s_put, s_0, s_1]
  refine wpAnyH_take (i := 1) (oi := ⟨some 6, .nilCheck (.tmp 5), 0, _, _, _⟩) (v := ?v1) rfl (by kernel_rfl) (by kernel_rfl) (by kernel_rfl) (fun _ _ _ h => h) (Or.inl ⟨by rfl, ?hy1⟩) hHeld ?rest1
  case hy1 => intro w9 hSw; go_simp; (try with_reducible rfl)
  try simp only [Act.put, s_put, s_0, s_1]
  refine wpAnyH_take (i := 2) (oi := ⟨some 7, .fieldAddr 39 (.tmp 6) 0, 0, _, _, _⟩) (v := ?v2) rfl (by kernel_rfl) (by kernel_rfl) (by kernel_rfl) (fun _ _ _ h => h) (Or.inl ⟨by rfl, ?hy2⟩) hHeld ?rest2
  case hy2 => intro w9 hSw; go_simp; (try with_reducible rfl)
  try simp only [Act.put, s_put, s_0, s_1]
  refine wpAnyH_take (i := 3) (oi := ⟨some 8, .load 3 (.tmp 7), 3, _, _, _⟩) (v := ?v3) rfl (by kernel_rfl) (by kernel_rfl) (by kernel_rfl) (fun _ _ _ h => h) (Or.inl ⟨by rfl, ?hy3⟩) hHeld ?rest3
  case hy3 => intro w9 hSw; have nn := HX.out.later hSw; have c0 := nn.1; clear nn; go_simp; (try with_reducible rfl)
  try simp only [Act.put, s_put, s_0, s_1]
  refine wpAnyH_take (i := 4) (oi := ⟨some 9, .move (.tmp 1), 80, _, _, _⟩) (v := ?v4) rfl (by kernel_rfl) (by kernel_rfl) (by kernel_rfl) (fun _ _ _ h => h) (Or.inl ⟨by rfl, ?hy4⟩) hHeld ?rest4
  case hy4 => intro w9 hSw; go_simp; (try with_reducible rfl)
  try simp only [Act.put, s_put, s_0, s_1]
  refine wpAnyH_take (i := 5) (oi := ⟨some 10, .nilCheck (.tmp 9), 0, _, _, _⟩) (v := ?v5) rfl (by kernel_rfl) (by kernel_rfl) (by kernel_rfl) (fun _ _ _ h => h) (Or.inl ⟨by rfl, ?hy5⟩) hHeld ?rest5
  case hy5 => intro w9 hSw; go_simp; (try with_reducible rfl)
  try simp only [Act.put, s_put, s_0, s_1]
  refine wpAnyH_take (i := 6) (oi := ⟨some 11, .fieldAddr 39 (.tmp 10) 0, 0, _, _, _⟩) (v := ?v6) rfl (by kernel_rfl) (by kernel_rfl) (by kernel_rfl) (fun _ _ _ h => h) (Or.inl ⟨by rfl, ?hy6⟩) hHeld ?rest6
  case hy6 => intro w9 hSw; go_simp; (try with_reducible rfl)
  try simp only [Act.put, s_put, s_0, s_1]
  refine wpAnyH_take (i := 7) (oi := ⟨some 12, .load 3 (.tmp 11), 3, _, _, _⟩) (v := ?v7) rfl (by kernel_rfl) (by kernel_rfl) (by kernel_rfl) (fun _ _ _ h => h) (Or.inl ⟨by rfl, ?hy7⟩) hHeld ?rest7
  case hy7 => intro w9 hSw; have nn := HY.out.later hSw; have c0 := nn.1; clear nn; go_simp; (try with_reducible rfl)
  try simp only [Act.put, s_put, s_0, s_1]
  refine wpAnyH_take (i := 9) (oi := ⟨some 14, .move (.tmp 0), 80, _, _, _⟩) (v := ?v9) rfl (by kernel_rfl) (by kernel_rfl) (by kernel_rfl) (fun _ _ _ h => h) (Or.inl ⟨by rfl, ?hy9⟩) hHeld ?rest9
  case hy9 => intro w9 hSw; go_simp; (try with_reducible rfl)
  try simp only [Act.put, s_put, s_0, s_1]
  refine wpAnyH_take (i := 10) (oi := ⟨some 15, .nilCheck (.tmp 14), 0, _, _, _⟩) (v := ?v10) rfl (by kernel_rfl) (by kernel_rfl) (by kernel_rfl) (fun _ _ _ h => h) (Or.inl ⟨by rfl, ?hy10⟩) hHeld ?rest10
  case hy10 => intro w9 hSw; go_simp; (try with_reducible rfl)
  try simp only [Act.put, s_put, s_0, s_1]
  refine wpAnyH_take (i := 11) (oi := ⟨some 16, .fieldAddr 39 (.tmp 15) 1, 0, _, _, _⟩) (v := ?v11) rfl (by kernel_rfl) (by kernel_rfl) (by kernel_rfl) (fun _ _ _ h => h) (Or.inl ⟨by rfl, ?hy11⟩) hHeld ?rest11
  case hy11 => intro w9 hSw; go_simp; (try with_reducible rfl)
  try simp only [Act.put, s_put, s_0, s_1]
  refine wpAnyH_take (i := 12) (oi := ⟨some 17, .load 37 (.tmp 16), 37, _, _, _⟩) (v := ?v12) rfl (by kernel_rfl) (by kernel_rfl) (by kernel_rfl) (fun _ _ _ h => h) (Or.inl ⟨by rfl, ?hy12⟩) hHeld ?rest12
  case hy12 => intro w9 hSw; have nn := HX.out.later hSw; have c0 := nn.2.1; have c1 := nn.2.2.1; have c2 := nn.2.2.2.1; clear nn; go_simp; (try with_reducible rfl)
  try simp only [Act.put, s_put, s_0, s_1]
  refine wpAnyH_take (i := 13) (oi := ⟨some 18, .move (.tmp 1), 80, _, _, _⟩) (v := ?v13) rfl (by kernel_rfl) (by kernel_rfl) (by kernel_rfl) (fun _ _ _ h => h) (Or.inl ⟨by rfl, ?hy13⟩) hHeld ?rest13
  case hy13 => intro w9 hSw; go_simp; (try with_reducible rfl)
  try simp only [Act.put, s_put, s_0, s_1]
  refine wpAnyH_take (i := 14) (oi := ⟨some 19, .nilCheck (.tmp 18), 0, _, _, _⟩) (v := ?v14) rfl (by kernel_rfl) (by kernel_rfl) (by kernel_rfl) (fun _ _ _ h => h) (Or.inl ⟨by rfl, ?hy14⟩) hHeld ?rest14
  case hy14 => intro w9 hSw; go_simp; (try with_reducible rfl)
  try simp only [Act.put, s_put, s_0, s_1]
  refine wpAnyH_take (i := 15) (oi := ⟨some 20, .fieldAddr 39 (.tmp 19) 1, 0, _, _, _⟩) (v := ?v15) rfl (by kernel_rfl) (by kernel_rfl) (by kernel_rfl) (fun _ _ _ h => h) (Or.inl ⟨by rfl, ?hy15⟩) hHeld ?rest15
  case hy15 => intro w9 hSw; go_simp; (try with_reducible rfl)
  try simp only [Act.put, s_put, s_0, s_1]
  refine wpAnyH_take (i := 16) (oi := ⟨some 21, .load 37 (.tmp 20), 37, _, _, _⟩) (v := ?v16) rfl (by kernel_rfl) (by kernel_rfl) (by kernel_rfl) (fun _ _ _ h => h) (Or.inl ⟨by rfl, ?hy16⟩) hHeld ?rest16
  case hy16 => intro w9 hSw; have nn := HY.out.later hSw; have c0 := nn.2.1; have c1 := nn.2.2.1; have c2 := nn.2.2.2.1; clear nn; go_simp; (try with_reducible rfl)
  try simp only [Act.put, s_put, s_0, s_1]
  refine wpAnyH_take (i := 18) (oi := ⟨some 23, .move (.tmp 0), 80, _, _, _⟩) (v := ?v18) rfl (by kernel_rfl) (by kernel_rfl) (by kernel_rfl) (fun _ _ _ h => h) (Or.inl ⟨by rfl, ?hy18⟩) hHeld ?rest18
  case hy18 => intro w9 hSw; go_simp; (try with_reducible rfl)
  try simp only [Act.put, s_put, s_0, s_1]
  refine wpAnyH_take (i := 19) (oi := ⟨some 24, .nilCheck (.tmp 23), 0, _, _, _⟩) (v := ?v19) rfl (by kernel_rfl) (by kernel_rfl) (by kernel_rfl) (fun _ _ _ h => h) (Or.inl ⟨by rfl, ?hy19⟩) hHeld ?rest19
  case hy19 => intro w9 hSw; go_simp; (try with_reducible rfl)
  try simp only [Act.put, s_put, s_0, s_1]
  refine wpAnyH_take (i := 20) (oi := ⟨some 25, .fieldAddr 39 (.tmp 24) 2, 0, _, _, _⟩) (v := ?v20) rfl (by kernel_rfl) (by kernel_rfl) (by kernel_rfl) (fun _ _ _ h => h) (Or.inl ⟨by rfl, ?hy20⟩) hHeld ?rest20
  case hy20 => intro w9 hSw; go_simp; (try with_reducible rfl)
  try simp only [Act.put, s_put, s_0, s_1]
  refine wpAnyH_take (i := 21) (oi := ⟨some 26, .load 9 (.tmp 25), 9, _, _, _⟩) (v := ?v21) rfl (by kernel_rfl) (by kernel_rfl) (by kernel_rfl) (fun _ _ _ h => h) (Or.inl ⟨by rfl, ?hy21⟩) hHeld ?rest21
  case hy21 => intro w9 hSw; have nn := HX.out.later hSw; have c0 := nn.2.2.2.2.1; clear nn; go_simp; (try with_reducible rfl)
  try simp only [Act.put, s_put, s_0, s_1]
  refine wpAnyH_take (i := 22) (oi := ⟨some 27, .move (.tmp 1), 80, _, _, _⟩) (v := ?v22) rfl (by kernel_rfl) (by kernel_rfl) (by kernel_rfl) (fun _ _ _ h => h) (Or.inl ⟨by rfl, ?hy22⟩) hHeld ?rest22
  case hy22 => intro w9 hSw; go_simp; (try with_reducible rfl)
  try simp only [Act.put, s_put, s_0, s_1]
  refine wpAnyH_take (i := 23) (oi := ⟨some 28, .nilCheck (.tmp 27), 0, _, _, _⟩) (v := ?v23) rfl (by kernel_rfl) (by kernel_rfl) (by kernel_rfl) (fun _ _ _ h => h) (Or.inl ⟨by rfl, ?hy23⟩) hHeld ?rest23
  case hy23 => intro w9 hSw; go_simp; (try with_reducible rfl)
  try simp only [Act.put, s_put, s_0, s_1]
  refine wpAnyH_take (i := 24) (oi := ⟨some 29, .fieldAddr 39 (.tmp 28) 2, 0, _, _, _⟩) (v := ?v24) rfl (by kernel_rfl) (by kernel_rfl) (by kernel_rfl) (fun _ _ _ h => h) (Or.inl ⟨by rfl, ?hy24⟩) hHeld ?rest24
  case hy24 => intro w9 hSw; go_simp; (try with_reducible rfl)
  try simp only [Act.put, s_put, s_0, s_1]
  refine wpAnyH_take (i := 25) (oi := ⟨some 30, .load 9 (.tmp 29), 9, _, _, _⟩) (v := ?v25) rfl (by kernel_rfl) (by kernel_rfl) (by kernel_rfl) (fun _ _ _ h => h) (Or.inl ⟨by rfl, ?hy25⟩) hHeld ?rest25
  case hy25 => intro w9 hSw; have nn := HY.out.later hSw; have c0 := nn.2.2.2.2.1; clear nn; go_simp; (try with_reducible rfl)
  try simp only [Act.put, s_put, s_0, s_1]
  refine wpAnyH_take (i := 27) (oi := ⟨some 32, .move (.tmp 0), 80, _, _, _⟩) (v := ?v27) rfl (by kernel_rfl) (by kernel_rfl) (by kernel_rfl) (fun _ _ _ h => h) (Or.inl ⟨by rfl, ?hy27⟩) hHeld ?rest27
  case hy27 => intro w9 hSw; go_simp; (try with_reducible rfl)
  try simp only [Act.put, s_put, s_0, s_1]
  refine wpAnyH_take (i := 28) (oi := ⟨some 33, .nilCheck (.tmp 32), 0, _, _, _⟩) (v := ?v28) rfl (by kernel_rfl) (by kernel_rfl) (by kernel_rfl) (fun _ _ _ h => h) (Or.inl ⟨by rfl, ?hy28⟩) hHeld ?rest28
  case hy28 => intro w9 hSw; go_simp; (try with_reducible rfl)
  try simp only [Act.put, s_put, s_0, s_1]
  refine wpAnyH_take (i := 29) (oi := ⟨some 34, .fieldAddr 39 (.tmp 33) 3, 0, _, _, _⟩) (v := ?v29) rfl (by kernel_rfl) (by kernel_rfl) (by kernel_rfl) (fun _ _ _ h => h) (Or.inl ⟨by rfl, ?hy29⟩) hHeld ?rest29
  case hy29 => intro w9 hSw; go_simp; (try with_reducible rfl)
  try simp only [Act.put, s_put, s_0, s_1]
  refine wpAnyH_take (i := 30) (oi := ⟨some 35, .load 9 (.tmp 34), 9, _, _, _⟩) (v := ?v30) rfl (by kernel_rfl) (by kernel_rfl) (by kernel_rfl) (fun _ _ _ h => h) (Or.inl ⟨by rfl, ?hy30⟩) hHeld ?rest30
  case hy30 => intro w9 hSw; have nn := HX.out.later hSw; have c0 := nn.2.2.2.2.2.1; clear nn; go_simp; (try with_reducible rfl)
  try simp only [Act.put, s_put, s_0, s_1]
  refine wpAnyH_take (i := 31) (oi := ⟨some 36, .move (.tmp 1), 80, _, _, _⟩) (v := ?v31) rfl (by kernel_rfl) (by kernel_rfl) (by kernel_rfl) (fun _ _ _ h => h) (Or.inl ⟨by rfl, ?hy31⟩) hHeld ?rest31
  case hy31 => intro w9 hSw; go_simp; (try with_reducible rfl)
  try simp only [Act.put, s_put, s_0, s_1]
  refine wpAnyH_take (i := 32) (oi := ⟨some 37, .nilCheck (.tmp 36), 0, _, _, _⟩) (v := ?v32) rfl (by kernel_rfl) (by kernel_rfl) (by kernel_rfl) (fun _ _ _ h => h) (Or.inl ⟨by rfl, ?hy32⟩) hHeld ?rest32
  case hy32 => intro w9 hSw; go_simp; (try with_reducible rfl)
  try simp only [Act.put, s_put, s_0, s_1]
  refine wpAnyH_take (i := 33) (oi := ⟨some 38, .fieldAddr 39 (.tmp 37) 3, 0, _, _, _⟩) (v := ?v33) rfl (by kernel_rfl) (by kernel_rfl) (by kernel_rfl) (fun _ _ _ h => h) (Or.inl ⟨by rfl, ?hy33⟩) hHeld ?rest33
  case hy33 => intro w9 hSw; go_simp; (try with_reducible rfl)
  try simp only [Act.put, s_put, s_0, s_1]
  refine wpAnyH_take (i := 34) (oi := ⟨some 39, .load 9 (.tmp 38), 9, _, _, _⟩) (v := ?v34) rfl (by kernel_rfl) (by kernel_rfl) (by kernel_rfl) (fun _ _ _ h => h) (Or.inl ⟨by rfl, ?hy34⟩) hHeld ?rest34
  case hy34 => intro w9 hSw; have nn := HY.out.later hSw; have c0 := nn.2.2.2.2.2.1; clear nn; go_simp; (try with_reducible rfl)
  try simp only [Act.put, s_put, s_0, s_1]
  refine wpAnyH_take (i := 36) (oi := ⟨some 41, .move (.tmp 0), 80, _, _, _⟩) (v := ?v36) rfl (by kernel_rfl) (by kernel_rfl) (by kernel_rfl) (fun _ _ _ h => h) (Or.inl ⟨by rfl, ?hy36⟩) hHeld ?rest36
  case hy36 => intro w9 hSw; go_simp; (try with_reducible rfl)
  try simp only [Act.put, s_put, s_0, s_1]
  refine wpAnyH_take (i := 37) (oi := ⟨some 42, .nilCheck (.tmp 41), 0, _, _, _⟩) (v := ?v37) rfl (by kernel_rfl) (by kernel_rfl) (by kernel_rfl) (fun _ _ _ h => h) (Or.inl ⟨by rfl, ?hy37⟩) hHeld ?rest37
  case hy37 => intro w9 hSw; go_simp; (try with_reducible rfl)
  try simp only [Act.put, s_put, s_0, s_1]
  refine wpAnyH_take (i := 38) (oi := ⟨some 43, .fieldAddr 39 (.tmp 42) 4, 0, _, _, _⟩) (v := ?v38) rfl (by kernel_rfl) (by kernel_rfl) (by kernel_rfl) (fun _ _ _ h => h) (Or.inl ⟨by rfl, ?hy38⟩) hHeld ?rest38
  case hy38 => intro w9 hSw; go_simp; (try with_reducible rfl)
  try simp only [Act.put, s_put, s_0, s_1]
  refine wpAnyH_take (i := 39) (oi := ⟨some 44, .load 23 (.tmp 43), 23, _, _, _⟩) (v := ?v39) rfl (by kernel_rfl) (by kernel_rfl) (by kernel_rfl) (fun _ _ _ h => h) (Or.inl ⟨by rfl, ?hy39⟩) hHeld ?rest39
  case hy39 => intro w9 hSw; have nn := HX.out.later hSw; have c0 := nn.2.2.2.2.2.2; clear nn; go_simp; (try with_reducible rfl)
  try simp only [Act.put, s_put, s_0, s_1]
  refine wpAnyH_take (i := 40) (oi := ⟨some 45, .call { callee := .builtin Builtin.len, args := #[.tmp 44], argTypes := #[23] }, 3, _, _, _⟩) (v := ?v40) rfl (by kernel_rfl) (by kernel_rfl) (by kernel_rfl) (fun _ _ _ h => h) (Or.inl ⟨by rfl, ?hy40⟩) hHeld ?rest40
  case hy40 => intro w9 hSw; go_simp; (try with_reducible rfl)
  try simp only [Act.put, s_put, s_0, s_1]
  refine wpAnyH_take (i := 41) (oi := ⟨some 46, .move (.tmp 1), 80, _, _, _⟩) (v := ?v41) rfl (by kernel_rfl) (by kernel_rfl) (by kernel_rfl) (fun _ _ _ h => h) (Or.inl ⟨by rfl, ?hy41⟩) hHeld ?rest41
  case hy41 => intro w9 hSw; go_simp; (try with_reducible rfl)
  try simp only [Act.put, s_put, s_0, s_1]
  refine wpAnyH_take (i := 42) (oi := ⟨some 47, .nilCheck (.tmp 46), 0, _, _, _⟩) (v := ?v42) rfl (by kernel_rfl) (by kernel_rfl) (by kernel_rfl) (fun _ _ _ h => h) (Or.inl ⟨by rfl, ?hy42⟩) hHeld ?rest42
  case hy42 => intro w9 hSw; go_simp; (try with_reducible rfl)
  try simp only [Act.put, s_put, s_0, s_1]
  refine wpAnyH_take (i := 43) (oi := ⟨some 48, .fieldAddr 39 (.tmp 47) 4, 0, _, _, _⟩) (v := ?v43) rfl (by kernel_rfl) (by kernel_rfl) (by kernel_rfl) (fun _ _ _ h => h) (Or.inl ⟨by rfl, ?hy43⟩) hHeld ?rest43
  case hy43 => intro w9 hSw; go_simp; (try with_reducible rfl)
  try simp only [Act.put, s_put, s_0, s_1]
  refine wpAnyH_take (i := 44) (oi := ⟨some 49, .load 23 (.tmp 48), 23, _, _, _⟩) (v := ?v44) rfl (by kernel_rfl) (by kernel_rfl) (by kernel_rfl) (fun _ _ _ h => h) (Or.inl ⟨by rfl, ?hy44⟩) hHeld ?rest44
  case hy44 => intro w9 hSw; have nn := HY.out.later hSw; have c0 := nn.2.2.2.2.2.2; clear nn; go_simp; (try with_reducible rfl)
  try simp only [Act.put, s_put, s_0, s_1]
  refine wpAnyH_take (i := 45) (oi := ⟨some 50, .call { callee := .builtin Builtin.len, args := #[.tmp 49], argTypes := #[23] }, 3, _, _, _⟩) (v := ?v45) rfl (by kernel_rfl) (by kernel_rfl) (by kernel_rfl) (fun _ _ _ h => h) (Or.inl ⟨by rfl, ?hy45⟩) hHeld ?rest45
  case hy45 => intro w9 hSw; go_simp; (try with_reducible rfl)
  try simp only [Act.put, s_put, s_0, s_1]
  refine wpAnyH_ready (rs := [8]) (by kernel_rfl) (by simp) ?_
  refine AllReadyH.cons (o := ⟨some 13, .call { callee := .value (.func 68), args := #[.tmp 8, .tmp 12], argTypes := #[3, 3] }, 3, _, _, _⟩) rfl (fun K hK => ?_) AllReadyH.nil
  go_simp
  refine (cmpInt_any _ _ _).mono ?_
  rintro e x8 ⟨rfl, hx8⟩
  replace hx8 := hx8.symm
  subst hx8
  go_wp2_with fail
  refine hK.out _ _ hHeld (fun _ => ?_)
  clear hK K
  try simp only [Act.put, s_put, s_0, s_1]
  refine wpAnyH_ready (rs := [17]) (by kernel_rfl) (by simp) ?_
  refine AllReadyH.cons (o := ⟨some 22, .call { callee := .value (.func 83), args := #[.tmp 17, .tmp 21], argTypes := #[37, 37] }, 3, _, _, _⟩) rfl (fun K hK => ?_) AllReadyH.nil
  go_simp
  refine (order_any _ _ _ _ _ _ _).mono ?_
  rintro e x17 ⟨rfl, hN17⟩
  go_wp2_with fail
  have hT17 : Below W.heap.size W x17 := hT.trans (hN17.mono hT.size)
  refine hK.out _ _ (hHeld.trans (hN17.mono hHeld.size)) (fun _ => held_up (S' := fun w' => Below x17.heap.size x17 w') (fun w' h' => (hHeld.trans (hN17.mono hHeld.size)).trans (h'.mono (Nat.le_trans hHeld.size hN17.size))) _ _ _ _ ?_)
  clear hK K hHeld hT
  have hT : Below W.heap.size W x17 := hT17
  have hHeld : Below x17.heap.size x17 x17 := Below.refl _ _
  clear hT17 hN17
  try simp only [Act.put, s_put, s_0, s_1]
  refine wpAnyH_ready (rs := [26]) (by kernel_rfl) (by simp) ?_
  refine AllReadyH.cons (o := ⟨some 31, .call { callee := .value (.func 66), args := #[.tmp 26, .tmp 30], argTypes := #[9, 9] }, 3, _, _, _⟩) rfl (fun K hK => ?_) AllReadyH.nil
  go_simp
  refine (cmpStr_any _ _ _).mono ?_
  rintro e x26 ⟨rfl, hx26⟩
  replace hx26 := hx26.symm
  subst hx26
  go_wp2_with fail
  refine hK.out _ _ hHeld (fun _ => ?_)
  clear hK K
  try simp only [Act.put, s_put, s_0, s_1]
  refine wpAnyH_ready (rs := [35]) (by kernel_rfl) (by simp) ?_
  refine AllReadyH.cons (o := ⟨some 40, .call { callee := .value (.func 66), args := #[.tmp 35, .tmp 39], argTypes := #[9, 9] }, 3, _, _, _⟩) rfl (fun K hK => ?_) AllReadyH.nil
  go_simp
  refine (cmpStr_any _ _ _).mono ?_
  rintro e x35 ⟨rfl, hx35⟩
  replace hx35 := hx35.symm
  subst hx35
  go_wp2_with fail
  refine hK.out _ _ hHeld (fun _ => ?_)
  clear hK K
  try simp only [Act.put, s_put, s_0, s_1]
  refine wpAnyH_ready (rs := [46]) (by kernel_rfl) (by simp) ?_
  refine AllReadyH.cons (o := ⟨some 51, .call { callee := .value (.func 68), args := #[.tmp 45, .tmp 50], argTypes := #[3, 3] }, 3, _, _, _⟩) rfl (fun K hK => ?_) AllReadyH.nil
  go_simp
  refine (cmpInt_any _ _ _).mono ?_
  rintro e x46 ⟨rfl, hx46⟩
  replace hx46 := hx46.symm
  subst hx46
  go_wp2_with fail
  refine hK.out _ _ hHeld (fun _ => ?_)
  clear hK K
  try simp only [Act.put, s_put, s_0, s_1]
  refine wpAnyH_ready (rs := [47]) (by kernel_rfl) (by simp) ?_
  refine AllReadyH.cons (o := ⟨some 52, .buildSlice 50 5 #[(0, .tmp 13), (1, .tmp 22), (2, .tmp 31), (3, .tmp 40), (4, .tmp 51)], 50, _, _, _⟩) rfl (fun K hK => ?_) AllReadyH.nil
  go_simp
  have hT47 := hHeld.alloc hHeld.size (.cells #[.int .i64 (cmpI x.k y.k), .int .i64 (ordZ x.v.k x.v.n x.v.s y.v.k y.v.n y.v.s), .int .i64 (cmpS x.s y.s), .int .i64 (cmpS x.f y.f), .int .i64 (cmpI x.n y.n)] 3)
  refine hK.out _ _ hT47 (fun _ => ?_)
  clear hK K hHeld
  have hHeld := hT47
  clear hT47
  have C48 : Calls Try.prog 67 #[.slice (some ⟨x17.heap.size, 0, none⟩) 5 5] (x17.alloc (.cells #[.int .i64 (cmpI x.k y.k), .int .i64 (ordZ x.v.k x.v.n x.v.s y.v.k y.v.n y.v.s), .int .i64 (cmpS x.s y.s), .int .i64 (cmpS x.f y.f), .int .i64 (cmpI x.n y.n)] 3)) fun e w' => e = .returned (.int .i64 (alZ x y)) ∧ w' = (x17.alloc (.cells #[.int .i64 (cmpI x.k y.k), .int .i64 (ordZ x.v.k x.v.n x.v.s y.v.k y.v.n y.v.s), .int .i64 (cmpS x.s y.s), .int .i64 (cmpS x.f y.f), .int .i64 (cmpI x.n y.n)] 3)) := by
    have h := or_any x17.heap.size 5 (five (cmpI x.k y.k) (ordZ x.v.k x.v.n x.v.s y.v.k y.v.n y.v.s) (cmpS x.s y.s) (cmpS x.f y.f) (cmpI x.n y.n)) (x17.alloc (.cells #[.int .i64 (cmpI x.k y.k), .int .i64 (ordZ x.v.k x.v.n x.v.s y.v.k y.v.n y.v.s), .int .i64 (cmpS x.s y.s), .int .i64 (cmpS x.f y.f), .int .i64 (cmpI x.n y.n)] 3)) (by omega) (fun k hk => by match k, hk with | 0, _ => simp [five] | 1, _ => simp [five] | 2, _ => simp [five] | 3, _ => simp [five] | 4, _ => simp [five])
    rw [lex_five] at h
    exact h
  generalize (x17.alloc (.cells #[.int .i64 (cmpI x.k y.k), .int .i64 (ordZ x.v.k x.v.n x.v.s y.v.k y.v.n y.v.s), .int .i64 (cmpS x.s y.s), .int .i64 (cmpS x.f y.f), .int .i64 (cmpI x.n y.n)] 3)) = D at hHeld C48 ⊢
  refine wpAnyH_ready (rs := [48]) (by kernel_rfl) (by simp) ?_
  refine AllReadyH.cons (o := ⟨some 53, .call { callee := .value (.func 67), args := #[.tmp 52], argTypes := #[50] }, 3, _, _, _⟩) rfl (fun K hK => ?_) AllReadyH.nil
  go_simp
  refine (C48).mono ?_
  rintro e x48 ⟨rfl, hx48⟩
  replace hx48 := hx48.symm
  subst hx48
  go_wp2_with fail
  refine hK.out _ _ hHeld (fun _ => ?_)
  clear hK K
  try simp only [Act.put, s_put, s_0, s_1]
  refine wpAnyH_take (i := 49) (oi := ⟨some 4, .assign (.tmp 53), 3, _, _, _⟩) (v := ?v49) rfl (by kernel_rfl) (by kernel_rfl) (by kernel_rfl) (fun _ _ _ h => h) (Or.inl ⟨by rfl, ?hy49⟩) hHeld ?rest49
  case hy49 => intro w9 hSw; go_simp; (try with_reducible rfl)
  try simp only [Act.put, s_put, s_0, s_1]
  refine wpAnyH_done (by kernel_rfl) ?_ _
  refine NoPanic.normal ?_
  go_wp2
  go_ret
  exact ⟨rfl, hT.trans (hHeld.mono hT.size)⟩
end Go.Proofs.Ytcdehohmgfocdaa
namespace Go.Proofs.Ytcdehohmgfocdaa
open Go.RowKit Go.Shelf
attribute [local go_sem] Oper.semAt_some

abbrev downP (By Bd : Nat) : Value := .func (.func 82) #[] #[.pointer (some ⟨By, 0, none⟩), .pointer (some ⟨Bd, 0, none⟩)]

set_option maxRecDepth 100000 in
set_option maxHeartbeats 4000000 in
theorem downTwo_any {ι : Type} (l By Bd : Nat) (kids : ι → Nat) (kid : ι → Nat → ι) (rank : ι → Nat)
    (Pre : ι → Nat → Nat → Nat → Nat → World → Prop) (Mid : ι → Nat → Nat → Nat → Nat → World → Option Addr → Nat → Option Addr → Nat → Nat → World → Prop) (Post Stop : ι → Nat → Nat → Nat → Nat → World → World → Prop)
    (hrank : ∀ v i, i < kids v → rank (kid v i) < rank v)
    (hP : ∀ v b o b' o' W, Pre v b o b' o' W → W.cell? ⟨By, 0, none⟩ = some (.func (.yield l) #[] #[]))
    (hY : ∀ v b o b' o' W, Pre v b o b' o' W → YieldAt Fence.wide 0 Try.prog l #[.pointer (some ⟨b, o, none⟩), .pointer (some ⟨b', o', none⟩)] W fun e W' =>
      (e = .returned (.bool true) ∧ ∃ a cap a' cap', Mid v b o b' o' W a cap a' cap' 0 W'.drew) ∨ (e = .returned (.bool false) ∧ Stop v b o b' o' W W'))
    (hL : ∀ v b o b' o' W a cap a' cap' i Wi, Mid v b o b' o' W a cap a' cap' i Wi → kids v ≤ 9223372036854775807 ∧ Wi.cell? ⟨b, o + 6, none⟩ = some (.slice a (kids v) cap) ∧ Wi.cell? ⟨b', o' + 6, none⟩ = some (.slice a' (kids v) cap') ∧ Wi.cell? ⟨Bd, 0, none⟩ = some (downP By Bd))
    (hC : ∀ v b o b' o' W a cap a' cap' i Wi, Mid v b o b' o' W a cap a' cap' i Wi → i < kids v → ∃ c p c' p', a = some ⟨c, p, none⟩ ∧ a' = some ⟨c', p', none⟩ ∧ Pre (kid v i) c (p + i * 7) c' (p' + i * 7) Wi.drew ∧
      (∀ W', Post (kid v i) c (p + i * 7) c' (p' + i * 7) Wi.drew W' → Mid v b o b' o' W a cap a' cap' (i + 1) W') ∧ (∀ W', Stop (kid v i) c (p + i * 7) c' (p' + i * 7) Wi.drew W' → Stop v b o b' o' W W'))
    (hE : ∀ v b o b' o' W a cap a' cap' Wi, Mid v b o b' o' W a cap a' cap' (kids v) Wi → Post v b o b' o' W Wi) :
    ∀ (r : Nat) (v : ι), rank v < r → ∀ (n b o b' o' : Nat) (W : World), Pre v b o b' o' W →
      CallsIn Fence.wide n Try.prog 82 #[.pointer (some ⟨b, o, none⟩), .pointer (some ⟨b', o', none⟩), .pointer (some ⟨By, 0, none⟩), .pointer (some ⟨Bd, 0, none⟩)] W fun e W' =>
        (e = .returned (.bool true) ∧ Post v b o b' o' W W') ∨ (e = .returned (.bool false) ∧ Stop v b o b' o' W W') := by
  intro r
  induction r with
  | zero => intro v h; omega
  | succ r ih =>
    intro v hv n b o b' o' W hpre
    have hdd : ∀ k : Nat, (Fence.wide.depth.isSome = true → 1 ≤ k) := fun k h => by cases h
    have hby := hP v b o b' o' W hpre
    obtain ⟨fn, tmps, assign, body, hy, hR⟩ := yield_wide (n - 1) (hY v b o b' o' W hpre)
    refine callsIn_of_wp Try.func82 rfl trivial ?_ rfl
    simp only [Try.ntmps82, List.size_toArray, List.length_cons, List.length_nil, Nat.reduceAdd, Nat.reduceSub, Array.replicate_succ, Array.replicate_zero, List.push_toArray, List.append_toArray, List.nil_append, List.cons_append]
    gi_wp2_with (first
      | ((try refine ⟨hdd _, ?_⟩); refine hR.mono ?_; clear hR; rintro e W1 (⟨rfl, a, cap, a', cap', hm⟩ | ⟨rfl, hs⟩)))
    · obtain ⟨hn1, hc6, hc6', hcd⟩ := hL v b o b' o' W a cap a' cap' 0 W1.drew hm
      have hm1 : min (kids v : Int) (kids v : Int) = kids v := by omega
      have d6 : W1.cell? ⟨b, o + 6, none⟩ = some (.slice a (kids v) cap) := hc6
      have d6' : W1.cell? ⟨b', o' + 6, none⟩ = some (.slice a' (kids v) cap') := hc6'
      gi_region
      all_goals gi_wp2
      gi_loopw [24] (fun u wr => ∃ i : Nat, i ≤ kids v ∧ u = .int .i64 i ∧ Mid v b o b' o' W a cap a' cap' i wr) (fun u _ => kids v - (intOf u).toNat)
      case atStart => exact ⟨0, Nat.zero_le _, rfl, hm⟩
      case round =>
        obtain ⟨i, hi, rfl, hmi⟩ := hrel
        obtain ⟨-, hc6i, hc6i', hcdi⟩ := hL v b o b' o' W a cap a' cap' i wr hmi
        by_cases hin : i < kids v
        · obtain ⟨c, p, c', p', rfl, rfl, hp', hpost, hstop⟩ := hC v b o b' o' W a cap a' cap' i wr hmi hin
          have ihc := (ih (kid v i) (by have := hrank v i hin; omega) (n - 1) c (p + i * 7) c' (p' + i * 7) wr.drew hp').mono (R' := fun e W2 => ∃ r, e = .returned (.bool r) ∧ ((r = true ∧ Mid v b o b' o' W (some ⟨c, p, none⟩) cap (some ⟨c', p', none⟩) cap' (i + 1) W2) ∨ (r = false ∧ Stop v b o b' o' W W2)))
            (fun e W2 h => h.elim (fun h => ⟨true, h.1, .inl ⟨rfl, hpost W2 h.2⟩⟩) (fun h => ⟨false, h.1, .inr ⟨rfl, hstop W2 h.2⟩⟩))
          clear ih hpost hstop
          have HQ : Hid (i < kids v) := hin
          gi_wp2
          gi_region_with ((refine ⟨trivial, hdd _, ?_⟩; gi_at_call 82; refine ihc.mono ?_; clear ihc; rintro e W2 ⟨r, rfl, hj⟩))
          all_goals (rcases hj with ⟨rfl, hj⟩ | ⟨rfl, hj⟩)
          all_goals gi_wp2
          all_goals first
            | (go_ret; exact .inr ⟨rfl, hj⟩)
            | exact ⟨⟨i + 1, HQ.out, by simp, hj⟩, by have := HQ.out; simp [intOf]; omega⟩
        · have hin' : i = kids v := by omega
          subst hin'
          gi_wp2
          go_ret
          exact .inl ⟨rfl, hE _ _ _ _ _ _ _ _ _ _ _ hmi⟩
    · gi_wp2
      go_ret
      exact .inr ⟨rfl, hs⟩

set_option maxRecDepth 100000 in
set_option maxHeartbeats 1000000 in
theorem pairs_in (n : Nat) (p q : Option Addr) (w : World) :
    CallsIn Fence.wide n Try.prog 59 #[.pointer p, .pointer q] w fun e w' => e = .returned (.func (.func 81) #[] #[.pointer (some ⟨w.heap.size, 0, none⟩), .pointer (some ⟨w.heap.size + 1, 0, none⟩)]) ∧ w' = (w.alloc (.cells #[.pointer p] 80)).alloc (.cells #[.pointer q] 80) := by
  refine callsIn_of_wp Try.func59 rfl trivial ?_ rfl
  simp only [Try.ntmps59, List.size_toArray, List.length_cons, List.length_nil, Nat.reduceAdd, Nat.reduceSub, Array.replicate_succ, Array.replicate_zero, List.push_toArray, List.append_toArray, List.nil_append, List.cons_append]
  gi_wp2
  go_ret
  exact ⟨rfl, rfl⟩

set_option maxRecDepth 100000 in
set_option maxHeartbeats 2000000 in
theorem pairs1_in (n l Bp b o Bq b' o' : Nat) (W : World) (R : Ending → World → Prop) (hBp : W.cell? ⟨Bp, 0, none⟩ = some (.pointer (some ⟨b, o, none⟩))) (hBq : W.cell? ⟨Bq, 0, none⟩ = some (.pointer (some ⟨b', o', none⟩)))
    (hdown : ∀ W2, Boxed W2 W.heap.size 102 (.func (.yield l) #[] #[]) → Boxed W2 (W.heap.size + 1) 102 (downP W.heap.size (W.heap.size + 1)) → Below W.heap.size W W2 → W2.heap.size = W.heap.size + 2 →
      CallsIn Fence.wide (n - 1) Try.prog 82 #[.pointer (some ⟨b, o, none⟩), .pointer (some ⟨b', o', none⟩), .pointer (some ⟨W.heap.size, 0, none⟩), .pointer (some ⟨W.heap.size + 1, 0, none⟩)] W2 fun e W' => ∃ r, e = .returned (.bool r) ∧ R (.returned (.bool r)) W') :
    CallsIn Fence.wide n Try.prog 81 #[.func (.yield l) #[] #[], .pointer (some ⟨Bp, 0, none⟩), .pointer (some ⟨Bq, 0, none⟩)] W fun e W' => (∃ v, e = .returned v) ∧ ∃ r, R (.returned (.bool r)) W' := by
  have hdd : ∀ k : Nat, (Fence.wide.depth.isSome = true → 1 ≤ k) := fun k h => by cases h
  have h1 : Boxed (W.alloc (.cells #[.func (.yield l) #[] #[]] 102)) W.heap.size 102 (.func (.yield l) #[] #[]) := Boxed.new _ _ _
  have hlt : Bp < W.heap.size := by
    obtain ⟨ob, ho, -⟩ := cells_of_cell hBp
    exact (Array.getElem?_eq_some_iff.1 ho).1
  have hlt' : Bq < W.heap.size := by
    obtain ⟨ob, ho, -⟩ := cells_of_cell hBq
    exact (Array.getElem?_eq_some_iff.1 ho).1
  obtain ⟨A, hA⟩ : ∃ A, (W.alloc (.cells #[.func (.yield l) #[] #[]] 102)).alloc (.cells #[.nilFunc] 102) = A := ⟨_, rfl⟩
  have b1 : Boxed A W.heap.size 102 (.func (.yield l) #[] #[]) := hA ▸ h1.alloc _
  have b2 : Boxed A (W.heap.size + 1) 102 .nilFunc := by
    have := Boxed.new (W.alloc (.cells #[.func (.yield l) #[] #[]] 102)) 102 .nilFunc
    rw [World.size_alloc, hA] at this
    exact this
  have hB : Below W.heap.size W A := by rw [← hA]; exact ((Below.refl _ W).alloc (Nat.le_refl _) _).alloc (by simp) _
  have hsz : A.heap.size = W.heap.size + 2 := by rw [← hA]; simp
  have c2 := b2.cell
  have f2 := b2.frozen
  have b3 := b2.set (downP W.heap.size (W.heap.size + 1))
  have b4 := b1.other (show W.heap.size ≠ W.heap.size + 1 by omega) (downP W.heap.size (W.heap.size + 1))
  have hB3 : Below W.heap.size W (A.setCell ⟨W.heap.size + 1, 0, none⟩ (downP W.heap.size (W.heap.size + 1))) := hB.setCell (p := ⟨W.heap.size + 1, 0, none⟩) (by simp) _
  have c3 := b3.cell
  have cp := (hB3.cell (p := ⟨Bp, 0, none⟩) hlt).trans hBp
  have cq := (hB3.cell (p := ⟨Bq, 0, none⟩) hlt').trans hBq
  have hd := hdown _ b4 b3 hB3 (by rw [World.size_setCell]; exact hsz)
  clear hdown
  refine callsIn_of_wp Try.func81 rfl trivial ?_ rfl
  simp only [Try.ntmps81, List.size_toArray, List.length_cons, List.length_nil, Nat.reduceAdd, Nat.reduceSub, Array.replicate_succ, Array.replicate_zero, List.push_toArray, List.append_toArray, List.nil_append, List.cons_append]
  gi_wp2_with (refine ⟨trivial, hdd _, ?_⟩; gi_at_call 82; refine hd.mono ?_; rintro e W3 ⟨r, rfl, hr⟩)
  go_end0
  exact ⟨⟨_, rfl⟩, _, hr⟩

end Go.Proofs.Ytcdehohmgfocdaa
namespace Go.Proofs.Ytcdehohmgfocdaa
open Go.RowKit Go.Shelf
attribute [local go_sem] Oper.semAt_some

/-- What a round of the range over pairs is handed. -/
structure Vis2 where
  b : Nat
  o : Nat
  x : X
  b' : Nat
  o' : Nat
  y : X
theorem alZ_len {x y : X} (h : alZ x y = 0) : x.n = y.n := by
  unfold alZ at h
  rw [orI_zero, orI_zero, orI_zero, orI_zero] at h
  have := cmpI_zero h.2.2.2.2
  omega
theorem orI_not {a b : Int} (h : ¬ a = 0) : orI a b = a := by unfold orI; rw [if_neg h]

set_option maxRecDepth 100000 in
set_option maxHeartbeats 4000000 in
theorem orderX_in (n : Nat) (x y : X) (w : World) (hX : IsX w x) (hY : IsX w y) :
    CallsIn Fence.wide n Try.prog 36 #[x.val, y.val] w fun e w' => e = .returned (.int .i64 (ordX x y)) ∧ Below w.heap.size w w' := by
  have hdd : ∀ k : Nat, (Fence.wide.depth.isSome = true → 1 ≤ k) := fun k h => by cases h
  obtain ⟨A, hA⟩ : ∃ A, ((((w.alloc (.cells x.cells 39)).alloc (.cells y.cells 39)).alloc (.cells #[.int .i64 0] 3)).alloc (.cells #[.pointer (some ⟨w.heap.size, 0, none⟩)] 80)).alloc (.cells #[.pointer (some ⟨w.heap.size + 1, 0, none⟩)] 80) = A := ⟨_, rfl⟩
  have hsz : A.heap.size = w.heap.size + 5 := by rw [← hA]; simp
  have hB : Below w.heap.size w A := by rw [← hA]; exact (((((Below.refl _ w).alloc (Nat.le_refl _) _).alloc (by simp) _).alloc (by first | (simp; done) | (simp; omega)) _).alloc (by first | (simp; done) | (simp; omega)) _).alloc (by first | (simp; done) | (simp; omega)) _
  have hnx : Node A w.heap.size 0 x := by
    rw [← hA]
    exact (node_new w 39 x).later (((((Below.refl _ _).alloc (Nat.le_refl _) _).alloc (by simp) _).alloc (by first | (simp; done) | (simp; omega)) _).alloc (by first | (simp; done) | (simp; omega)) _)
  have hny : Node A (w.heap.size + 1) 0 y := by
    have := (node_new (w.alloc (.cells x.cells 39)) 39 y).later ((((Below.refl _ _).alloc (Nat.le_refl _) (.cells #[.int .i64 0] 3)).alloc (by simp) (.cells #[.pointer (some ⟨w.heap.size, 0, none⟩)] 80)).alloc (by first | (simp; done) | (simp; omega)) (.cells #[.pointer (some ⟨w.heap.size + 1, 0, none⟩)] 80))
    rw [World.size_alloc, hA] at this
    exact this
  have hbr : Boxed A (w.heap.size + 1 + 1) 3 (.int .i64 0) := by
    have := ((Boxed.new ((w.alloc (.cells x.cells 39)).alloc (.cells y.cells 39)) 3 (.int .i64 0)).alloc (.cells #[.pointer (some ⟨w.heap.size, 0, none⟩)] 80)).alloc (.cells #[.pointer (some ⟨w.heap.size + 1, 0, none⟩)] 80)
    rw [World.size_alloc, World.size_alloc, hA] at this
    exact this
  have hbp : Boxed A (w.heap.size + 1 + 1 + 1) 80 (.pointer (some ⟨w.heap.size, 0, none⟩)) := by
    have := (Boxed.new (((w.alloc (.cells x.cells 39)).alloc (.cells y.cells 39)).alloc (.cells #[.int .i64 0] 3)) 80 (.pointer (some ⟨w.heap.size, 0, none⟩))).alloc (.cells #[.pointer (some ⟨w.heap.size + 1, 0, none⟩)] 80)
    rw [World.size_alloc, World.size_alloc, World.size_alloc, hA] at this
    exact this
  have hbq : Boxed A (w.heap.size + 1 + 1 + 1 + 1) 80 (.pointer (some ⟨w.heap.size + 1, 0, none⟩)) := by
    have := Boxed.new ((((w.alloc (.cells x.cells 39)).alloc (.cells y.cells 39)).alloc (.cells #[.int .i64 0] 3)).alloc (.cells #[.pointer (some ⟨w.heap.size, 0, none⟩)] 80)) 80 (.pointer (some ⟨w.heap.size + 1, 0, none⟩))
    rw [World.size_alloc, World.size_alloc, World.size_alloc, World.size_alloc, hA] at this
    exact this
  have cp := hbp.cell
  have cq := hbq.cell
  have lp := hbp.lt
  obtain ⟨T, hT⟩ : ∃ T : Nat → Prop, T = fun k => k < w.heap.size + 2 := ⟨_, rfl⟩
  have hTb : ∀ k, k < w.heap.size + 2 → T k := fun k hk => by rw [hT]; exact hk
  have hTl : ∀ k, T k → k < w.heap.size + 2 := fun k hk => by rw [hT] at hk; exact hk
  have hxt : XT T A x := XIn.xt (n := w.heap.size) (fun k hk => hTb k (by omega)) (hX.inn.below hB)
  have hyt : XT T A y := XIn.xt (n := w.heap.size) (fun k hk => hTb k (by omega)) (hY.inn.below hB)
  obtain ⟨T', hT'⟩ : ∃ T' : Nat → Prop, T' = fun k => T k ∨ k = w.heap.size + 7 ∨ k = w.heap.size + 8 := ⟨_, rfl⟩
  have tT : ∀ k, T k → T' k := fun k hk => by rw [hT']; exact .inl hk
  have tB : T' (A.heap.size + 2) := by rw [hT']; exact .inr (.inl (by omega))
  have tD : T' (A.heap.size + 2 + 1) := by rw [hT']; exact .inr (.inr (by omega))
  refine callsIn_of_wp_marks Try.func36 rfl trivial ?_ rfl
  simp only [Try.ntmps36, List.size_toArray, List.length_cons, List.length_nil, Nat.reduceAdd, Nat.reduceSub, Array.replicate_succ, Array.replicate_zero, List.push_toArray, List.append_toArray, List.nil_append, List.cons_append]
  gi_wp2_with (refine ⟨trivial, hdd _, ?_⟩; gi_at_call 59; refine (pairs_in _ _ _ _).mono ?_; rintro e w' ⟨rfl, rfl⟩)
  refine wpIn_range (α := Vis2) (gf := 81) (lb := #[.pointer (some ⟨w.heap.size + 1 + 1 + 1, 0, none⟩), .pointer (some ⟨w.heap.size + 1 + 1 + 1 + 1, 0, none⟩)]) rfl (enters_of Try.func81 (by kernel_rfl) rfl) (encs := fun v => #[.pointer (some ⟨v.b, v.o, none⟩), .pointer (some ⟨v.b', v.o', none⟩)]) (fun _ => rfl)
    (fun v W => T v.b ∧ Node W v.b v.o v.x ∧ T v.b' ∧ Node W v.b' v.o' v.y ∧ Boxed W (w.heap.size + 1 + 1) 3 (.int .i64 0) ∧ Below w.heap.size w W ∧ A.heap.size + 4 ≤ W.heap.size)
    (fun v W W' => alZ v.x v.y = 0 ∧ Kp T' W W' ∧ Boxed W' (w.heap.size + 1 + 1) 3 (.int .i64 0) ∧ Below w.heap.size w W' ∧ A.heap.size + 4 ≤ W'.heap.size)
    (fun c v _ W' => c = .ret ∧ ¬ alZ v.x v.y = 0 ∧ Boxed W' (w.heap.size + 1 + 1) 3 (.int .i64 (alZ v.x v.y)) ∧ Below w.heap.size w W')
    (fun W' => ordX x y = 0 ∧ Boxed W' (w.heap.size + 1 + 1) 3 (.int .i64 0) ∧ Below w.heap.size w W')
    (fun c W' => c = .ret ∧ ¬ ordX x y = 0 ∧ Boxed W' (w.heap.size + 1 + 1) 3 (.int .i64 (ordX x y)) ∧ Below w.heap.size w W')
    ?_ ?_ ?_ ?_ ?_
    (fun v => { tmps := #[x.val, y.val, .pointer (some ⟨w.heap.size, 0, none⟩), .pointer (some ⟨w.heap.size + 1, 0, none⟩), .pointer (some ⟨w.heap.size + 1 + 1, 0, none⟩), .pointer (some ⟨v.b, v.o, none⟩), .pointer (some ⟨v.b', v.o', none⟩), undef,
        .func (.func 81) #[] #[.pointer (some ⟨w.heap.size + 1 + 1 + 1, 0, none⟩), .pointer (some ⟨w.heap.size + 1 + 1 + 1 + 1, 0, none⟩)], .pointer (some ⟨v.b, v.o, none⟩), .pointer (some ⟨v.b', v.o', none⟩), undef, undef, undef, undef, undef, undef], defers := [] }) ?_ ?_ ?_ ?_ ?_
  · rintro v W B hag ⟨h1, h2, h3, h4, h5, h6, h7⟩
    exact ⟨h1, h2.ag hag, h3, h4.ag hag, hag.boxed h5, hag.below (by omega) h6, by rw [hag.size]; exact h7⟩
  · rintro v W B B' W' hag hag' ⟨h1, h2, h3, h4, h5⟩
    exact ⟨h1, Kp.ag hag hag' h2, hag'.boxed h3, hag'.below (by omega) h4, by rw [hag'.size]; exact h5⟩
  · rintro c v W B B' W' hag hag' ⟨h1, h2, h3, h4⟩
    exact ⟨h1, h2, hag'.boxed h3, hag'.below (by omega) h4⟩
  · rintro W B hag ⟨h1, h2, h3⟩
    exact ⟨h1, hag.boxed h2, hag.below (by omega) h3⟩
  · rintro c W B hag ⟨h1, h2, h3, h4⟩
    exact ⟨h1, h2, hag.boxed h3, hag.below (by omega) h4⟩
  · intro l v W K hK
    gi_wp2
    exact hK
  · rintro l ⟨b, o, x', b', o', y'⟩ W ⟨h1, h2, h3, h4, h5, h6, h7⟩ -
    simp only at h1 h2 h3 h4 ⊢
    have ca := alone_any b o b' o' x' y' W h2 h4
    have HH : Hid (Boxed W (w.heap.size + 1 + 1) 3 (.int .i64 0) ∧ Below w.heap.size w W ∧ A.heap.size + 4 ≤ W.heap.size) := ⟨h5, h6, h7⟩
    have HA : Hid (A.heap.size = w.heap.size + 5) := hsz
    obtain ⟨c, hc⟩ : ∃ c, c = alZ x' y' := ⟨_, rfl⟩
    rw [← hc] at ca
    clear h1 h2 h3 h4 h5 h6 h7 hA hsz hB hnx hny hbr hbp hbq cp cq lp hxt hyt hX hY
    have HC : Hid (c = alZ x' y') := hc
    clear hc
    by_cases hz : c = 0
    · have hz' : (c == 0) = true := by simpa using hz
      have HZ : Hid (c = 0) := hz
      clear hz
      gi_wp2_with (refine ⟨trivial, hdd _, ?_⟩; gi_at_call 60; refine (CallsIn.inRound l (callsIn_wide.2 ca)).mono ?_; rintro e w2 ⟨rfl, hB2⟩)
      obtain ⟨h5, h6, h7⟩ := HH.out
      have hA := HA.out
      exact ⟨⟨hB2.size, fun k o hk ho _ => (hB2.block k (Array.getElem?_eq_some_iff.1 ho).1).trans ho⟩, HC.out ▸ HZ.out, fun k o hk _ ho => (hB2.block k (Array.getElem?_eq_some_iff.1 ho).1).trans ho, Boxed.kept_of h5 hB2 (Boxed.lt h5), h6.trans (hB2.mono h6.size), Nat.le_trans h7 hB2.size⟩
    · have hz' : (c == 0) = false := by simpa using hz
      have HZ : Hid (¬ c = 0) := hz
      clear hz
      gi_wp2_with (refine ⟨trivial, hdd _, ?_⟩; gi_at_call 60; refine (CallsIn.inRound l (callsIn_wide.2 ca)).mono ?_; rintro e w2 ⟨rfl, hB2⟩; have b5 := Boxed.kept_of HH.out.1 hB2 (Boxed.lt HH.out.1); have c5 := b5.cell; have f5 := b5.frozen)
      obtain ⟨h5, h6, h7⟩ := HH.out
      have hA := HA.out
      exact ⟨(KeepsFrom.trans ⟨hB2.size, fun k o hk ho _ => (hB2.block k (Array.getElem?_eq_some_iff.1 ho).1).trans ho⟩ ((KeepsOthers.setCell _ _ _).from _)), rfl, HC.out ▸ HZ.out, by have := b5.set (.int .i64 c); rw [HC.out] at this ⊢; exact this, (h6.trans (hB2.mono h6.size)).setCell (p := ⟨w.heap.size + 1 + 1, 0, none⟩) (by simp; omega) _⟩
  · intro l Rec RecX W1 hB1 hs1 hrec1 hrec hrecx hYd
    have hkT : Kp T A W1 := Kp.of_below hB1 (fun k hk => by have := hTl k hk; omega)
    refine (pairs1_in (n - 1) l (w.heap.size + 1 + 1 + 1) w.heap.size 0 (w.heap.size + 1 + 1 + 1 + 1) (w.heap.size + 1) 0 W1 (fun e W' => (e = .returned (.bool true) ∧ ordX x y = 0 ∧ Boxed W' (w.heap.size + 1 + 1) 3 (.int .i64 0) ∧ Below w.heap.size w W' ∧ Rec W') ∨
      (e = .returned (.bool false) ∧ ¬ ordX x y = 0 ∧ Boxed W' (w.heap.size + 1 + 1) 3 (.int .i64 (ordX x y)) ∧ Below w.heap.size w W' ∧ RecX .ret W')) ((hB1.cell (p := ⟨w.heap.size + 1 + 1 + 1, 0, none⟩) (by simp; omega)).trans cp) ((hB1.cell (p := ⟨w.heap.size + 1 + 1 + 1 + 1, 0, none⟩) (by simp; omega)).trans cq) ?_).mono ?_
    · intro W2 by2 bd2 hB2 hs2
      have key := downTwo_any (ι := X × X) l W1.heap.size (W1.heap.size + 1) (fun v => v.1.n) (fun v i => (v.1.c i, v.2.c i)) (fun v => v.1.size)
        (fun v b o b' o' W => T b ∧ Node W b o v.1 ∧ XT T W v.1 ∧ T b' ∧ Node W b' o' v.2 ∧ XT T W v.2 ∧ Boxed W (w.heap.size + 1 + 1) 3 (.int .i64 0) ∧ Below w.heap.size w W ∧ A.heap.size + 4 ≤ W.heap.size ∧ Rec W ∧
          Boxed W W1.heap.size 102 (.func (.yield l) #[] #[]) ∧ Boxed W (W1.heap.size + 1) 102 (downP W1.heap.size (W1.heap.size + 1)))
        (fun v b o b' o' W a cap a' cap' i Wi => a = v.1.a ∧ cap = v.1.cap ∧ a' = v.2.a ∧ cap' = v.2.cap ∧ alZ v.1 v.2 = 0 ∧ (∀ j, j < i → ordX (v.1.c j) (v.2.c j) = 0) ∧ Kp T' W Wi ∧
          (T b ∧ Node Wi b o v.1 ∧ XT T Wi v.1 ∧ T b' ∧ Node Wi b' o' v.2 ∧ XT T Wi v.2 ∧ Boxed Wi (w.heap.size + 1 + 1) 3 (.int .i64 0) ∧ Below w.heap.size w Wi ∧ A.heap.size + 4 ≤ Wi.heap.size ∧ Rec Wi ∧
            Boxed Wi W1.heap.size 102 (.func (.yield l) #[] #[]) ∧ Boxed Wi (W1.heap.size + 1) 102 (downP W1.heap.size (W1.heap.size + 1))))
        (fun v b o b' o' W W' => ordX v.1 v.2 = 0 ∧ Kp T' W W' ∧ Boxed W' (w.heap.size + 1 + 1) 3 (.int .i64 0) ∧ Below w.heap.size w W' ∧ A.heap.size + 4 ≤ W'.heap.size ∧ Rec W')
        (fun v b o b' o' W W' => ¬ ordX v.1 v.2 = 0 ∧ Boxed W' (w.heap.size + 1 + 1) 3 (.int .i64 (ordX v.1 v.2)) ∧ Below w.heap.size w W' ∧ RecX .ret W')
        (fun v i hi => X.size_part v.1 i hi) (fun v b o b' o' W h => h.2.2.2.2.2.2.2.2.2.2.1.cell) ?_ ?_ ?_ ?_ (x.size + 1) (x, y) (by simp) (n - 1 - 1) w.heap.size 0 (w.heap.size + 1) 0 W2 ?_
      · refine key.mono ?_
        rintro e W' (⟨rfl, h1, h2, h3, h4, h5, h6⟩ | ⟨rfl, h1, h2, h3, h4⟩)
        · exact ⟨true, rfl, .inl ⟨rfl, h1, h3, h4, h6⟩⟩
        · exact ⟨false, rfl, .inr ⟨rfl, h1, h2, h3, h4⟩⟩
      · rintro ⟨x', y'⟩ b o b' o' W ⟨h1, h2, h3, h4, h5, h6, h7, h8, h9, h10, h11, h12⟩
        refine YieldAt.mono (hYd 0 ⟨b, o, x', b', o', y'⟩ W ⟨h1, h2, h4, h5, h7, h8, h9⟩ h10) ?_
        rintro e W' (⟨rfl, ⟨k1, k2, k3, k4, k5⟩, k6, -⟩ | ⟨rfl, c, ⟨rfl, k1, k2, k3⟩, k4⟩)
        · have kT : Kp T W W' := k2.mono tT
          have kd : Kp T W W'.drew := kT
          refine .inl ⟨rfl, x'.a, x'.cap, y'.a, y'.cap, rfl, rfl, rfl, rfl, k1, fun j hj => by omega, k2, h1, h2.kept kd h1, h3.kept kd, h4, h5.kept kd h4, h6.kept kd, k3, k4.drew, k5, hrec W' W'.drew ⟨Nat.le_refl _, fun _ _ _ h _ => h⟩ k6, ?_, ?_⟩
          · exact k2.boxed (hs1 ▸ tB) h11
          · exact k2.boxed (hs1 ▸ tD) h12
        · refine .inr ⟨rfl, ?_, ?_, k3, k4⟩
          · rw [ordX_al, orI_not k1]; exact k1
          · rw [ordX_al, orI_not k1]; exact k2
      · rintro ⟨x', y'⟩ b o b' o' W a cap a' cap' i Wi ⟨rfl, rfl, rfl, rfl, e0, e1, kk, h1, h2, h3, h4, h5, h6, h7, h8, h9, h10, h11, h12⟩
        have := ((xT_eq _ _ _).1 h3)
        have hl := alZ_len e0
        simp only at this hl e0 h2 h5 ⊢
        exact ⟨by omega, h2.2.2.2.2.2.2, by rw [hl]; exact h5.2.2.2.2.2.2, h12.cell⟩
      · rintro ⟨x', y'⟩ b o b' o' W a cap a' cap' i Wi ⟨rfl, rfl, rfl, rfl, e0, e1, kk, h1, h2, h3, h4, h5, h6, h7, h8, h9, h10, h11, h12⟩ hi
        have hl := alZ_len e0
        simp only at hl e0 e1 hi h2 h3 h5 h6 ⊢
        obtain ⟨c, p, ea, hb, hn, hx⟩ := ((xT_eq _ _ _).1 h3).2.2 i hi
        obtain ⟨c', p', ea', hb', hn', hx'⟩ := ((xT_eq _ _ _).1 h6).2.2 i (by omega)
        refine ⟨c, p, c', p', ea, ea', ⟨hb, hn, XT.of (W := Wi) (W' := Wi.drew) (fun _ _ h => h) hx, hb', hn', XT.of (W := Wi) (W' := Wi.drew) (fun _ _ h => h) hx', h7, h8.drew, h9, hrec Wi Wi.drew ⟨Nat.le_refl _, fun _ _ _ h _ => h⟩ h10, h11, h12⟩, ?_, ?_⟩
        · rintro W' ⟨k1, k2, k3, k4, k5, k6⟩
          have k2' : Kp T' Wi W' := k2
          have kT : Kp T Wi W' := k2'.mono tT
          refine ⟨trivial, trivial, trivial, trivial, e0, fun j hj => ?_, kk.trans k2', h1, h2.kept kT h1, h3.kept kT, h4, h5.kept kT h4, h6.kept kT, k3, k4, k5, k6, k2'.boxed (hs1 ▸ tB) h11, k2'.boxed (hs1 ▸ tD) h12⟩
          by_cases e : j = i
          · subst e; exact k1
          · exact e1 j (by omega)
        · rintro W' ⟨k1, k2, k3, k4⟩
          have e : ordX x' y' = ordX (x'.c i) (y'.c i) := by
            rw [ordX_al, e0]
            show lexN _ _ = _
            exact lexN_not (f := fun i => ordX (x'.c i) (y'.c i)) (lexN_zero.2 e1) k1 hi
          rw [e]
          exact ⟨k1, k2, k3, k4⟩
      · rintro ⟨x', y'⟩ b o b' o' W a cap a' cap' Wi ⟨rfl, rfl, rfl, rfl, e0, e1, kk, h1, h2, h3, h4, h5, h6, h7, h8, h9, h10, h11, h12⟩
        refine ⟨?_, kk, h7, h8, h9, h10⟩
        simp only at e0 e1 ⊢
        rw [ordX_al, e0]
        show lexN _ _ = 0
        exact lexN_zero.2 e1
      · have hBA : Below A.heap.size A W2 := hB1.trans (hB2.mono (by omega))
        have kT : Kp T A W2 := Kp.of_below hBA (fun k hk => by have := hTl k hk; omega)
        refine ⟨hTb _ (by omega), hnx.kept kT (hTb _ (by omega)), hxt.kept kT, hTb _ (by omega), hny.kept kT (hTb _ (by omega)), hyt.kept kT, Boxed.kept_of hbr hBA (by omega), hB.trans (hBA.mono (by omega)), by omega, hrec W1 W2 ⟨by omega, fun k o hk ho _ => (hB2.block k (Array.getElem?_eq_some_iff.1 ho).1).trans ho⟩ hrec1, by2, bd2⟩
    · rintro e W' ⟨hv, r, (⟨-, h1, h2, h3, h4⟩ | ⟨-, h1, h2, h3, h4⟩)⟩
      · exact ⟨hv, .inl ⟨⟨h1, h2, h3⟩, h4⟩⟩
      · exact ⟨hv, .inr ⟨.ret, ⟨rfl, h1, h2, h3⟩, h4⟩⟩
  · rintro D W hD ⟨h0, h1, h2⟩ hK
    have c1 := h1.cell
    have f1 := h1.frozen
    have hK' : (W.setCell ⟨w.heap.size + 1 + 1, 0, none⟩ (.int .i64 0)).heap[D]? = some (.deferred (some [])) := (KeepsOthers.setCell _ _ _).same D _ hK rfl
    have hc5 := cell_kept (h1.set (.int .i64 0)).cell (grownBy_putObj' _ D (.deferred none)) (fun r e => by cases e; exact ⟨_, hK', rfl⟩)
    gi_wp2
    refine ⟨by simp, .inl ⟨_, _, rfl, run_takeDeferred hK', ?_⟩⟩
    refine ⟨.int .i64 0, ?_, by rw [h0], (h2.setCell (p := ⟨w.heap.size + 1 + 1, 0, none⟩) (by simp; omega) _).trans (belowK_b (w := w) (Nat.le_refl _) _ D _ _ (by omega) hK' rfl rfl)⟩
    simp [results, Try.f36, go_sem, hc5]
  · rintro D c W hD ⟨rfl, h0, h1, h2⟩ hK
    have hc5 := cell_kept h1.cell (grownBy_putObj' _ D (.deferred none)) (fun r e => by cases e; exact ⟨_, hK, rfl⟩)
    gi_wp2
    refine ⟨by simp, .inl ⟨_, _, rfl, run_takeDeferred hK, ?_⟩⟩
    refine ⟨.int .i64 (ordX x y), ?_, rfl, h2.trans (belowK_b (w := w) (Nat.le_refl _) _ D _ _ (by omega) hK rfl rfl)⟩
    simp [results, Try.f36, go_sem, hc5]
theorem orderX_any (x y : X) (w : World) (hX : IsX w x) (hY : IsX w y) : Calls Try.prog 36 #[x.val, y.val] w fun e w' => e = .returned (.int .i64 (ordX x y)) ∧ Below w.heap.size w w' :=
  (callsIn_wide (n := 3)).1 (orderX_in 3 x y w hX hY)
end Go.Proofs.Ytcdehohmgfocdaa
namespace Go.Proofs.Ytcdehohmgfocdaa
open Go.RowKit

/-- Two conditions in boxes of their own. -/
theorem two_boxes (x y : X) (w : World) : ∃ A, (w.alloc (.cells x.cells 39)).alloc (.cells y.cells 39) = A ∧ Below w.heap.size w A ∧ A.heap.size = w.heap.size + 2 ∧ Node A w.heap.size 0 x ∧ Node A (w.heap.size + 1) 0 y := by
  refine ⟨_, rfl, ((Below.refl _ w).alloc (Nat.le_refl _) _).alloc (by simp) _, by simp, (node_new w _ x).later ((Below.refl _ _).alloc (Nat.le_refl _) _), ?_⟩
  have := node_new (w.alloc (.cells x.cells 39)) 39 y
  rwa [World.size_alloc] at this
set_option maxRecDepth 100000 in
set_option maxHeartbeats 2000000 in
theorem sameX_any (x y : X) (w : World) (hX : IsX w x) (hY : IsX w y) : Calls Try.prog 37 #[x.val, y.val] w fun e w' => e = .returned (.bool (ordX x y == 0)) ∧ Below w.heap.size w w' := by
  obtain ⟨A, hA, hB, hs, hn, hm⟩ := two_boxes x y w
  obtain ⟨a0, a1, a2, a3, a4, a5, a6⟩ := hn.at0
  obtain ⟨b0, b1, b2, b3, b4, b5, b6⟩ := hm.at0
  have hc := orderX_any x y A (hX.later hB) (hY.later hB)
  have HB : Hid (Below w.heap.size w A) := hB
  clear hB hn hm hX hY
  go_enter Try.func37, Try.ntmps37
  go_wp2_with (go_at_call 36; refine hc.mono ?_; rintro e w2 ⟨rfl, hB2⟩)
  go_ret
  exact ⟨rfl, HB.out.trans (hB2.mono (by omega))⟩
end Go.Proofs.Ytcdehohmgfocdaa
