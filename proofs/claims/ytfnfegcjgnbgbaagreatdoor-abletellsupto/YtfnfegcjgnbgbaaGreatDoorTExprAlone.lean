/-
  expr.alone: two nodes without their parts.
-/
import Derived.Test.YtfnfegcjgnbgbaaGreatDoorTBrief
import Derived.Test.YtfnfegcjgnbgbaaGreatDoorTExprMath
namespace Go.Proofs.YtfnfegcjgnbgbaaGreatDoor
open Go.RowKit

theorem lexN_not {f : Nat → Int} {k : Nat} (h0 : lexN f k = 0) (h : ¬ f k = 0) : ∀ {n : Nat}, k < n → lexN f n = f k
  | 0, hn => by omega
  | n + 1, hn => by
    by_cases e : k = n
    · subst e
      show (if lexN f k = 0 then f k else lexN f k) = f k
      rw [if_pos h0]
    · have := lexN_not h0 h (show k < n by omega)
      show (if lexN f n = 0 then f n else lexN f n) = f k
      rw [this, if_neg h]
set_option maxRecDepth 100000 in
set_option maxHeartbeats 1000000 in
/-- cmp.Or: the first that is not 0. -/
theorem or_any (b n : Nat) (V : Nat → Int) (w : World) (hn : n ≤ 9223372036854775807) (hc : ∀ k, k < n → w.cell? ⟨b, k, none⟩ = some (.int .i64 (V k))) :
    Calls Tryz.prog 110 #[.slice (some ⟨b, 0, none⟩) n n] w fun e w' => e = .returned (.int .i64 (lexN V n)) ∧ w' = w := by
  obtain ⟨r, hr⟩ : ∃ r, r = lexN V n := ⟨_, rfl⟩
  rw [← hr]
  have HR : Hid (r = lexN V n) := hr
  have HC : Hid (∀ k, k < n → w.cell? ⟨b, k, none⟩ = some (.int .i64 (V k))) := hc
  clear hc hr
  go_enter Tryz.func110, Tryz.ntmps110
  go_wp2
  go_loopw [8] (fun u wr => ∃ k : Nat, k ≤ n ∧ u = .int .i64 k ∧ Hid (lexN V k = 0) ∧ wr = w) (fun u _ => n - (intOf u).toNat)
  case atStart => exact ⟨0, Nat.zero_le _, rfl, rfl, rfl⟩
  case round =>
    obtain ⟨k, hk, rfl, H0, rfl⟩ := hrel
    by_cases hkn : k < n
    · have c := HC.out k hkn
      have HK : Hid (k < n) := hkn
      by_cases hv : V k = 0
      · have HV : Hid (V k = 0) := hv
        have hv' : (V k == 0) = true := by simpa using hv
        clear hv
        go_wp2
        go_roundw
        case rel => exact ⟨k + 1, HK.out, by go_num, by show (if lexN V k = 0 then V k else lexN V k) = 0; rw [if_pos H0.out]; exact HV.out, by first | trivial | rfl⟩
        case measure => have := HK.out; simp [intOf]; omega
      · have HV : Hid (¬ V k = 0) := hv
        have hv' : (V k == 0) = false := by simpa using hv
        clear hv
        go_wp2
        try rw [Exit.noGoto_ret]
        go_ret
        exact ⟨ret_int (by rw [HR.out, lexN_not H0.out HV.out HK.out]), rfl⟩
    · obtain rfl : k = n := by omega
      go_wp2
      go_ret
      exact ⟨ret_int (by rw [HR.out, H0.out]), rfl⟩
/-- What alone tells. -/
def alZ (x y : X) : Int := orI (cmpI x.k y.k) (orI (ordV x.v y.v) (orI (cmpS x.s y.s) (orI (cmpS x.f y.f) (cmpI x.n y.n))))
def five (a b c d e : Int) : Nat → Int
  | 0 => a
  | 1 => b
  | 2 => c
  | 3 => d
  | _ => e
theorem lex_five (a b c d e : Int) : lexN (five a b c d e) 5 = orI a (orI b (orI c (orI d e))) := by
  simp only [lexN, five]
  unfold orI
  by_cases h1 : a = 0 <;> by_cases h2 : b = 0 <;> by_cases h3 : c = 0 <;> by_cases h4 : d = 0 <;> simp [h1, h2, h3, h4]
/-- Two nodes in memory. -/
def Nodes (w : World) (b o : Nat) (x : X) (b' o' : Nat) (y : X) : Prop := Node w b o x ∧ Node w b' o' y
set_option maxRecDepth 100000 in
set_option maxHeartbeats 8000000 in
theorem alone_any (b o b' o' : Nat) (x y : X) (w : World) (hx : Node w b o x) (hy : Node w b' o' y) :
    Calls Tryz.prog 104 #[.pointer (some ⟨b, o, none⟩), .pointer (some ⟨b', o', none⟩)] w fun e w' => e = .returned (.int .i64 (alZ x y)) ∧ Below w.heap.size w w' := by
  have HX : Hid (Node w b o x) := hx
  have HY : Hid (Node w b' o' y) := hy
  clear hx hy
  obtain ⟨W, hW⟩ : ∃ W, W = w := ⟨_, rfl⟩
  rw [← hW] at HX HY ⊢
  clear hW
  go_enter Tryz.func104, Tryz.ntmps104
  go_wp2_with fail
  refine wp_region_noPanic ?_
  refine wp_region_held_drew (S := fun w' => Below W.heap.size W w') (by kernel_rfl) ((Below.refl _ _).drew) (fun hHeld => ?_)
  have hT : Below W.heap.size W W.drew := hHeld
  obtain ⟨d, hd⟩ : ∃ d, d = W.drew := ⟨_, rfl⟩
  rw [← hd] at hHeld hT ⊢
  clear hd
  refine wpAnyH_take (i := 0) (oi := ⟨some 5, .move (.tmp 0), 123, _, _, _⟩) (v := ?v0) rfl (by kernel_rfl) (by kernel_rfl) (by kernel_rfl) (fun _ _ _ h => h) (Or.inl ⟨by rfl, ?hy0⟩) hHeld ?rest0
  case hy0 => intro w9 hSw; go_simp; (try with_reducible rfl)
  try simp only [Act.put, s_put, s_0, s_1]
  refine wpAnyH_take (i := 1) (oi := ⟨some 6, .nilCheck (.tmp 5), 0, _, _, _⟩) (v := ?v1) rfl (by kernel_rfl) (by kernel_rfl) (by kernel_rfl) (fun _ _ _ h => h) (Or.inl ⟨by rfl, ?hy1⟩) hHeld ?rest1
  case hy1 => intro w9 hSw; go_simp; (try with_reducible rfl)
  try simp only [Act.put, s_put, s_0, s_1]
  refine wpAnyH_take (i := 2) (oi := ⟨some 7, .fieldAddr 51 (.tmp 6) 0, 0, _, _, _⟩) (v := ?v2) rfl (by kernel_rfl) (by kernel_rfl) (by kernel_rfl) (fun _ _ _ h => h) (Or.inl ⟨by rfl, ?hy2⟩) hHeld ?rest2
  case hy2 => intro w9 hSw; go_simp; (try with_reducible rfl)
  try simp only [Act.put, s_put, s_0, s_1]
  refine wpAnyH_take (i := 3) (oi := ⟨some 8, .load 3 (.tmp 7), 3, _, _, _⟩) (v := ?v3) rfl (by kernel_rfl) (by kernel_rfl) (by kernel_rfl) (fun _ _ _ h => h) (Or.inl ⟨by rfl, ?hy3⟩) hHeld ?rest3
  case hy3 => intro w9 hSw; have nn := HX.out.later hSw; have c0 := nn.1; clear nn; go_simp; (try with_reducible rfl)
  try simp only [Act.put, s_put, s_0, s_1]
  refine wpAnyH_take (i := 4) (oi := ⟨some 9, .move (.tmp 1), 123, _, _, _⟩) (v := ?v4) rfl (by kernel_rfl) (by kernel_rfl) (by kernel_rfl) (fun _ _ _ h => h) (Or.inl ⟨by rfl, ?hy4⟩) hHeld ?rest4
  case hy4 => intro w9 hSw; go_simp; (try with_reducible rfl)
  try simp only [Act.put, s_put, s_0, s_1]
  refine wpAnyH_take (i := 5) (oi := ⟨some 10, .nilCheck (.tmp 9), 0, _, _, _⟩) (v := ?v5) rfl (by kernel_rfl) (by kernel_rfl) (by kernel_rfl) (fun _ _ _ h => h) (Or.inl ⟨by rfl, ?hy5⟩) hHeld ?rest5
  case hy5 => intro w9 hSw; go_simp; (try with_reducible rfl)
  try simp only [Act.put, s_put, s_0, s_1]
  refine wpAnyH_take (i := 6) (oi := ⟨some 11, .fieldAddr 51 (.tmp 10) 0, 0, _, _, _⟩) (v := ?v6) rfl (by kernel_rfl) (by kernel_rfl) (by kernel_rfl) (fun _ _ _ h => h) (Or.inl ⟨by rfl, ?hy6⟩) hHeld ?rest6
  case hy6 => intro w9 hSw; go_simp; (try with_reducible rfl)
  try simp only [Act.put, s_put, s_0, s_1]
  refine wpAnyH_take (i := 7) (oi := ⟨some 12, .load 3 (.tmp 11), 3, _, _, _⟩) (v := ?v7) rfl (by kernel_rfl) (by kernel_rfl) (by kernel_rfl) (fun _ _ _ h => h) (Or.inl ⟨by rfl, ?hy7⟩) hHeld ?rest7
  case hy7 => intro w9 hSw; have nn := HY.out.later hSw; have c0 := nn.1; clear nn; go_simp; (try with_reducible rfl)
  try simp only [Act.put, s_put, s_0, s_1]
  refine wpAnyH_take (i := 9) (oi := ⟨some 14, .move (.tmp 0), 123, _, _, _⟩) (v := ?v9) rfl (by kernel_rfl) (by kernel_rfl) (by kernel_rfl) (fun _ _ _ h => h) (Or.inl ⟨by rfl, ?hy9⟩) hHeld ?rest9
  case hy9 => intro w9 hSw; go_simp; (try with_reducible rfl)
  try simp only [Act.put, s_put, s_0, s_1]
  refine wpAnyH_take (i := 10) (oi := ⟨some 15, .nilCheck (.tmp 14), 0, _, _, _⟩) (v := ?v10) rfl (by kernel_rfl) (by kernel_rfl) (by kernel_rfl) (fun _ _ _ h => h) (Or.inl ⟨by rfl, ?hy10⟩) hHeld ?rest10
  case hy10 => intro w9 hSw; go_simp; (try with_reducible rfl)
  try simp only [Act.put, s_put, s_0, s_1]
  refine wpAnyH_take (i := 11) (oi := ⟨some 16, .fieldAddr 51 (.tmp 15) 1, 0, _, _, _⟩) (v := ?v11) rfl (by kernel_rfl) (by kernel_rfl) (by kernel_rfl) (fun _ _ _ h => h) (Or.inl ⟨by rfl, ?hy11⟩) hHeld ?rest11
  case hy11 => intro w9 hSw; go_simp; (try with_reducible rfl)
  try simp only [Act.put, s_put, s_0, s_1]
  refine wpAnyH_take (i := 12) (oi := ⟨some 17, .load 49 (.tmp 16), 49, _, _, _⟩) (v := ?v12) rfl (by kernel_rfl) (by kernel_rfl) (by kernel_rfl) (fun _ _ _ h => h) (Or.inl ⟨by rfl, ?hy12⟩) hHeld ?rest12
  case hy12 => intro w9 hSw; have nn := HX.out.later hSw; have c0 := nn.2.1; have c1 := nn.2.2.1; have c2 := nn.2.2.2.1; clear nn; go_simp; (try with_reducible rfl)
  try simp only [Act.put, s_put, s_0, s_1]
  refine wpAnyH_take (i := 13) (oi := ⟨some 18, .move (.tmp 1), 123, _, _, _⟩) (v := ?v13) rfl (by kernel_rfl) (by kernel_rfl) (by kernel_rfl) (fun _ _ _ h => h) (Or.inl ⟨by rfl, ?hy13⟩) hHeld ?rest13
  case hy13 => intro w9 hSw; go_simp; (try with_reducible rfl)
  try simp only [Act.put, s_put, s_0, s_1]
  refine wpAnyH_take (i := 14) (oi := ⟨some 19, .nilCheck (.tmp 18), 0, _, _, _⟩) (v := ?v14) rfl (by kernel_rfl) (by kernel_rfl) (by kernel_rfl) (fun _ _ _ h => h) (Or.inl ⟨by rfl, ?hy14⟩) hHeld ?rest14
  case hy14 => intro w9 hSw; go_simp; (try with_reducible rfl)
  try simp only [Act.put, s_put, s_0, s_1]
  refine wpAnyH_take (i := 15) (oi := ⟨some 20, .fieldAddr 51 (.tmp 19) 1, 0, _, _, _⟩) (v := ?v15) rfl (by kernel_rfl) (by kernel_rfl) (by kernel_rfl) (fun _ _ _ h => h) (Or.inl ⟨by rfl, ?hy15⟩) hHeld ?rest15
  case hy15 => intro w9 hSw; go_simp; (try with_reducible rfl)
  try simp only [Act.put, s_put, s_0, s_1]
  refine wpAnyH_take (i := 16) (oi := ⟨some 21, .load 49 (.tmp 20), 49, _, _, _⟩) (v := ?v16) rfl (by kernel_rfl) (by kernel_rfl) (by kernel_rfl) (fun _ _ _ h => h) (Or.inl ⟨by rfl, ?hy16⟩) hHeld ?rest16
  case hy16 => intro w9 hSw; have nn := HY.out.later hSw; have c0 := nn.2.1; have c1 := nn.2.2.1; have c2 := nn.2.2.2.1; clear nn; go_simp; (try with_reducible rfl)
  try simp only [Act.put, s_put, s_0, s_1]
  refine wpAnyH_take (i := 18) (oi := ⟨some 23, .move (.tmp 0), 123, _, _, _⟩) (v := ?v18) rfl (by kernel_rfl) (by kernel_rfl) (by kernel_rfl) (fun _ _ _ h => h) (Or.inl ⟨by rfl, ?hy18⟩) hHeld ?rest18
  case hy18 => intro w9 hSw; go_simp; (try with_reducible rfl)
  try simp only [Act.put, s_put, s_0, s_1]
  refine wpAnyH_take (i := 19) (oi := ⟨some 24, .nilCheck (.tmp 23), 0, _, _, _⟩) (v := ?v19) rfl (by kernel_rfl) (by kernel_rfl) (by kernel_rfl) (fun _ _ _ h => h) (Or.inl ⟨by rfl, ?hy19⟩) hHeld ?rest19
  case hy19 => intro w9 hSw; go_simp; (try with_reducible rfl)
  try simp only [Act.put, s_put, s_0, s_1]
  refine wpAnyH_take (i := 20) (oi := ⟨some 25, .fieldAddr 51 (.tmp 24) 2, 0, _, _, _⟩) (v := ?v20) rfl (by kernel_rfl) (by kernel_rfl) (by kernel_rfl) (fun _ _ _ h => h) (Or.inl ⟨by rfl, ?hy20⟩) hHeld ?rest20
  case hy20 => intro w9 hSw; go_simp; (try with_reducible rfl)
  try simp only [Act.put, s_put, s_0, s_1]
  refine wpAnyH_take (i := 21) (oi := ⟨some 26, .load 9 (.tmp 25), 9, _, _, _⟩) (v := ?v21) rfl (by kernel_rfl) (by kernel_rfl) (by kernel_rfl) (fun _ _ _ h => h) (Or.inl ⟨by rfl, ?hy21⟩) hHeld ?rest21
  case hy21 => intro w9 hSw; have nn := HX.out.later hSw; have c0 := nn.2.2.2.2.1; clear nn; go_simp; (try with_reducible rfl)
  try simp only [Act.put, s_put, s_0, s_1]
  refine wpAnyH_take (i := 22) (oi := ⟨some 27, .move (.tmp 1), 123, _, _, _⟩) (v := ?v22) rfl (by kernel_rfl) (by kernel_rfl) (by kernel_rfl) (fun _ _ _ h => h) (Or.inl ⟨by rfl, ?hy22⟩) hHeld ?rest22
  case hy22 => intro w9 hSw; go_simp; (try with_reducible rfl)
  try simp only [Act.put, s_put, s_0, s_1]
  refine wpAnyH_take (i := 23) (oi := ⟨some 28, .nilCheck (.tmp 27), 0, _, _, _⟩) (v := ?v23) rfl (by kernel_rfl) (by kernel_rfl) (by kernel_rfl) (fun _ _ _ h => h) (Or.inl ⟨by rfl, ?hy23⟩) hHeld ?rest23
  case hy23 => intro w9 hSw; go_simp; (try with_reducible rfl)
  try simp only [Act.put, s_put, s_0, s_1]
  refine wpAnyH_take (i := 24) (oi := ⟨some 29, .fieldAddr 51 (.tmp 28) 2, 0, _, _, _⟩) (v := ?v24) rfl (by kernel_rfl) (by kernel_rfl) (by kernel_rfl) (fun _ _ _ h => h) (Or.inl ⟨by rfl, ?hy24⟩) hHeld ?rest24
  case hy24 => intro w9 hSw; go_simp; (try with_reducible rfl)
  try simp only [Act.put, s_put, s_0, s_1]
  refine wpAnyH_take (i := 25) (oi := ⟨some 30, .load 9 (.tmp 29), 9, _, _, _⟩) (v := ?v25) rfl (by kernel_rfl) (by kernel_rfl) (by kernel_rfl) (fun _ _ _ h => h) (Or.inl ⟨by rfl, ?hy25⟩) hHeld ?rest25
  case hy25 => intro w9 hSw; have nn := HY.out.later hSw; have c0 := nn.2.2.2.2.1; clear nn; go_simp; (try with_reducible rfl)
  try simp only [Act.put, s_put, s_0, s_1]
  refine wpAnyH_take (i := 27) (oi := ⟨some 32, .move (.tmp 0), 123, _, _, _⟩) (v := ?v27) rfl (by kernel_rfl) (by kernel_rfl) (by kernel_rfl) (fun _ _ _ h => h) (Or.inl ⟨by rfl, ?hy27⟩) hHeld ?rest27
  case hy27 => intro w9 hSw; go_simp; (try with_reducible rfl)
  try simp only [Act.put, s_put, s_0, s_1]
  refine wpAnyH_take (i := 28) (oi := ⟨some 33, .nilCheck (.tmp 32), 0, _, _, _⟩) (v := ?v28) rfl (by kernel_rfl) (by kernel_rfl) (by kernel_rfl) (fun _ _ _ h => h) (Or.inl ⟨by rfl, ?hy28⟩) hHeld ?rest28
  case hy28 => intro w9 hSw; go_simp; (try with_reducible rfl)
  try simp only [Act.put, s_put, s_0, s_1]
  refine wpAnyH_take (i := 29) (oi := ⟨some 34, .fieldAddr 51 (.tmp 33) 3, 0, _, _, _⟩) (v := ?v29) rfl (by kernel_rfl) (by kernel_rfl) (by kernel_rfl) (fun _ _ _ h => h) (Or.inl ⟨by rfl, ?hy29⟩) hHeld ?rest29
  case hy29 => intro w9 hSw; go_simp; (try with_reducible rfl)
  try simp only [Act.put, s_put, s_0, s_1]
  refine wpAnyH_take (i := 30) (oi := ⟨some 35, .load 9 (.tmp 34), 9, _, _, _⟩) (v := ?v30) rfl (by kernel_rfl) (by kernel_rfl) (by kernel_rfl) (fun _ _ _ h => h) (Or.inl ⟨by rfl, ?hy30⟩) hHeld ?rest30
  case hy30 => intro w9 hSw; have nn := HX.out.later hSw; have c0 := nn.2.2.2.2.2.1; clear nn; go_simp; (try with_reducible rfl)
  try simp only [Act.put, s_put, s_0, s_1]
  refine wpAnyH_take (i := 31) (oi := ⟨some 36, .move (.tmp 1), 123, _, _, _⟩) (v := ?v31) rfl (by kernel_rfl) (by kernel_rfl) (by kernel_rfl) (fun _ _ _ h => h) (Or.inl ⟨by rfl, ?hy31⟩) hHeld ?rest31
  case hy31 => intro w9 hSw; go_simp; (try with_reducible rfl)
  try simp only [Act.put, s_put, s_0, s_1]
  refine wpAnyH_take (i := 32) (oi := ⟨some 37, .nilCheck (.tmp 36), 0, _, _, _⟩) (v := ?v32) rfl (by kernel_rfl) (by kernel_rfl) (by kernel_rfl) (fun _ _ _ h => h) (Or.inl ⟨by rfl, ?hy32⟩) hHeld ?rest32
  case hy32 => intro w9 hSw; go_simp; (try with_reducible rfl)
  try simp only [Act.put, s_put, s_0, s_1]
  refine wpAnyH_take (i := 33) (oi := ⟨some 38, .fieldAddr 51 (.tmp 37) 3, 0, _, _, _⟩) (v := ?v33) rfl (by kernel_rfl) (by kernel_rfl) (by kernel_rfl) (fun _ _ _ h => h) (Or.inl ⟨by rfl, ?hy33⟩) hHeld ?rest33
  case hy33 => intro w9 hSw; go_simp; (try with_reducible rfl)
  try simp only [Act.put, s_put, s_0, s_1]
  refine wpAnyH_take (i := 34) (oi := ⟨some 39, .load 9 (.tmp 38), 9, _, _, _⟩) (v := ?v34) rfl (by kernel_rfl) (by kernel_rfl) (by kernel_rfl) (fun _ _ _ h => h) (Or.inl ⟨by rfl, ?hy34⟩) hHeld ?rest34
  case hy34 => intro w9 hSw; have nn := HY.out.later hSw; have c0 := nn.2.2.2.2.2.1; clear nn; go_simp; (try with_reducible rfl)
  try simp only [Act.put, s_put, s_0, s_1]
  refine wpAnyH_take (i := 36) (oi := ⟨some 41, .move (.tmp 0), 123, _, _, _⟩) (v := ?v36) rfl (by kernel_rfl) (by kernel_rfl) (by kernel_rfl) (fun _ _ _ h => h) (Or.inl ⟨by rfl, ?hy36⟩) hHeld ?rest36
  case hy36 => intro w9 hSw; go_simp; (try with_reducible rfl)
  try simp only [Act.put, s_put, s_0, s_1]
  refine wpAnyH_take (i := 37) (oi := ⟨some 42, .nilCheck (.tmp 41), 0, _, _, _⟩) (v := ?v37) rfl (by kernel_rfl) (by kernel_rfl) (by kernel_rfl) (fun _ _ _ h => h) (Or.inl ⟨by rfl, ?hy37⟩) hHeld ?rest37
  case hy37 => intro w9 hSw; go_simp; (try with_reducible rfl)
  try simp only [Act.put, s_put, s_0, s_1]
  refine wpAnyH_take (i := 38) (oi := ⟨some 43, .fieldAddr 51 (.tmp 42) 4, 0, _, _, _⟩) (v := ?v38) rfl (by kernel_rfl) (by kernel_rfl) (by kernel_rfl) (fun _ _ _ h => h) (Or.inl ⟨by rfl, ?hy38⟩) hHeld ?rest38
  case hy38 => intro w9 hSw; go_simp; (try with_reducible rfl)
  try simp only [Act.put, s_put, s_0, s_1]
  refine wpAnyH_take (i := 39) (oi := ⟨some 44, .load 25 (.tmp 43), 25, _, _, _⟩) (v := ?v39) rfl (by kernel_rfl) (by kernel_rfl) (by kernel_rfl) (fun _ _ _ h => h) (Or.inl ⟨by rfl, ?hy39⟩) hHeld ?rest39
  case hy39 => intro w9 hSw; have nn := HX.out.later hSw; have c0 := nn.2.2.2.2.2.2; clear nn; go_simp; (try with_reducible rfl)
  try simp only [Act.put, s_put, s_0, s_1]
  refine wpAnyH_take (i := 40) (oi := ⟨some 45, .call { callee := .builtin Builtin.len, args := #[.tmp 44], argTypes := #[25] }, 3, _, _, _⟩) (v := ?v40) rfl (by kernel_rfl) (by kernel_rfl) (by kernel_rfl) (fun _ _ _ h => h) (Or.inl ⟨by rfl, ?hy40⟩) hHeld ?rest40
  case hy40 => intro w9 hSw; go_simp; (try with_reducible rfl)
  try simp only [Act.put, s_put, s_0, s_1]
  refine wpAnyH_take (i := 41) (oi := ⟨some 46, .move (.tmp 1), 123, _, _, _⟩) (v := ?v41) rfl (by kernel_rfl) (by kernel_rfl) (by kernel_rfl) (fun _ _ _ h => h) (Or.inl ⟨by rfl, ?hy41⟩) hHeld ?rest41
  case hy41 => intro w9 hSw; go_simp; (try with_reducible rfl)
  try simp only [Act.put, s_put, s_0, s_1]
  refine wpAnyH_take (i := 42) (oi := ⟨some 47, .nilCheck (.tmp 46), 0, _, _, _⟩) (v := ?v42) rfl (by kernel_rfl) (by kernel_rfl) (by kernel_rfl) (fun _ _ _ h => h) (Or.inl ⟨by rfl, ?hy42⟩) hHeld ?rest42
  case hy42 => intro w9 hSw; go_simp; (try with_reducible rfl)
  try simp only [Act.put, s_put, s_0, s_1]
  refine wpAnyH_take (i := 43) (oi := ⟨some 48, .fieldAddr 51 (.tmp 47) 4, 0, _, _, _⟩) (v := ?v43) rfl (by kernel_rfl) (by kernel_rfl) (by kernel_rfl) (fun _ _ _ h => h) (Or.inl ⟨by rfl, ?hy43⟩) hHeld ?rest43
  case hy43 => intro w9 hSw; go_simp; (try with_reducible rfl)
  try simp only [Act.put, s_put, s_0, s_1]
  refine wpAnyH_take (i := 44) (oi := ⟨some 49, .load 25 (.tmp 48), 25, _, _, _⟩) (v := ?v44) rfl (by kernel_rfl) (by kernel_rfl) (by kernel_rfl) (fun _ _ _ h => h) (Or.inl ⟨by rfl, ?hy44⟩) hHeld ?rest44
  case hy44 => intro w9 hSw; have nn := HY.out.later hSw; have c0 := nn.2.2.2.2.2.2; clear nn; go_simp; (try with_reducible rfl)
  try simp only [Act.put, s_put, s_0, s_1]
  refine wpAnyH_take (i := 45) (oi := ⟨some 50, .call { callee := .builtin Builtin.len, args := #[.tmp 49], argTypes := #[25] }, 3, _, _, _⟩) (v := ?v45) rfl (by kernel_rfl) (by kernel_rfl) (by kernel_rfl) (fun _ _ _ h => h) (Or.inl ⟨by rfl, ?hy45⟩) hHeld ?rest45
  case hy45 => intro w9 hSw; go_simp; (try with_reducible rfl)
  try simp only [Act.put, s_put, s_0, s_1]
  refine wpAnyH_ready (rs := [8]) (by kernel_rfl) (by simp) ?_
  refine AllReadyH.cons (o := ⟨some 13, .call { callee := .value (.func 111), args := #[.tmp 8, .tmp 12], argTypes := #[3, 3] }, 3, _, _, _⟩) rfl (fun K hK => ?_) AllReadyH.nil
  go_simp
  refine (cmpInt_any _ _ _).mono ?_
  rintro e x8 ⟨rfl, hx8⟩
  replace hx8 := hx8.symm
  subst hx8
  go_wp2_with fail
  refine hK.out _ _ hHeld (fun _ => ?_)
  clear hK K
  try simp only [Act.put, s_put, s_0, s_1]
  refine wpAnyH_ready (rs := [17]) (by kernel_rfl) (by simp) ?_
  refine AllReadyH.cons (o := ⟨some 22, .call { callee := .value (.func 112), args := #[.tmp 17, .tmp 21], argTypes := #[49, 49] }, 3, _, _, _⟩) rfl (fun K hK => ?_) AllReadyH.nil
  go_simp
  refine (order_any _ _ _ _ _ _ _).mono ?_
  rintro e x17 ⟨rfl, hN17⟩
  go_wp2_with fail
  have hT17 : Below W.heap.size W x17 := hT.trans (hN17.mono hT.size)
  refine hK.out _ _ (hHeld.trans (hN17.mono hHeld.size)) (fun _ => held_up (S' := fun w' => Below x17.heap.size x17 w') (fun w' h' => (hHeld.trans (hN17.mono hHeld.size)).trans (h'.mono (Nat.le_trans hHeld.size hN17.size))) _ _ _ _ ?_)
  clear hK K hHeld hT
  have hT : Below W.heap.size W x17 := hT17
  have hHeld : Below x17.heap.size x17 x17 := Below.refl _ _
  clear hT17 hN17
  try simp only [Act.put, s_put, s_0, s_1]
  refine wpAnyH_ready (rs := [26]) (by kernel_rfl) (by simp) ?_
  refine AllReadyH.cons (o := ⟨some 31, .call { callee := .value (.func 113), args := #[.tmp 26, .tmp 30], argTypes := #[9, 9] }, 3, _, _, _⟩) rfl (fun K hK => ?_) AllReadyH.nil
  go_simp
  refine (cmpStr_any _ _ _).mono ?_
  rintro e x26 ⟨rfl, hx26⟩
  replace hx26 := hx26.symm
  subst hx26
  go_wp2_with fail
  refine hK.out _ _ hHeld (fun _ => ?_)
  clear hK K
  try simp only [Act.put, s_put, s_0, s_1]
  refine wpAnyH_ready (rs := [35]) (by kernel_rfl) (by simp) ?_
  refine AllReadyH.cons (o := ⟨some 40, .call { callee := .value (.func 113), args := #[.tmp 35, .tmp 39], argTypes := #[9, 9] }, 3, _, _, _⟩) rfl (fun K hK => ?_) AllReadyH.nil
  go_simp
  refine (cmpStr_any _ _ _).mono ?_
  rintro e x35 ⟨rfl, hx35⟩
  replace hx35 := hx35.symm
  subst hx35
  go_wp2_with fail
  refine hK.out _ _ hHeld (fun _ => ?_)
  clear hK K
  try simp only [Act.put, s_put, s_0, s_1]
  refine wpAnyH_ready (rs := [46]) (by kernel_rfl) (by simp) ?_
  refine AllReadyH.cons (o := ⟨some 51, .call { callee := .value (.func 111), args := #[.tmp 45, .tmp 50], argTypes := #[3, 3] }, 3, _, _, _⟩) rfl (fun K hK => ?_) AllReadyH.nil
  go_simp
  refine (cmpInt_any _ _ _).mono ?_
  rintro e x46 ⟨rfl, hx46⟩
  replace hx46 := hx46.symm
  subst hx46
  go_wp2_with fail
  refine hK.out _ _ hHeld (fun _ => ?_)
  clear hK K
  try simp only [Act.put, s_put, s_0, s_1]
  refine wpAnyH_ready (rs := [47]) (by kernel_rfl) (by simp) ?_
  refine AllReadyH.cons (o := ⟨some 52, .buildSlice 39 5 #[(0, .tmp 13), (1, .tmp 22), (2, .tmp 31), (3, .tmp 40), (4, .tmp 51)], 39, _, _, _⟩) rfl (fun K hK => ?_) AllReadyH.nil
  go_simp
  have hT47 := hHeld.alloc hHeld.size (.cells #[.int .i64 (cmpI x.k y.k), .int .i64 (ordZ x.v.k x.v.n x.v.s y.v.k y.v.n y.v.s), .int .i64 (cmpS x.s y.s), .int .i64 (cmpS x.f y.f), .int .i64 (cmpI x.n y.n)] 3)
  refine hK.out _ _ hT47 (fun _ => ?_)
  clear hK K hHeld
  have hHeld := hT47
  clear hT47
  have C48 : Calls Tryz.prog 110 #[.slice (some ⟨x17.heap.size, 0, none⟩) 5 5] (x17.alloc (.cells #[.int .i64 (cmpI x.k y.k), .int .i64 (ordZ x.v.k x.v.n x.v.s y.v.k y.v.n y.v.s), .int .i64 (cmpS x.s y.s), .int .i64 (cmpS x.f y.f), .int .i64 (cmpI x.n y.n)] 3)) fun e w' => e = .returned (.int .i64 (alZ x y)) ∧ w' = (x17.alloc (.cells #[.int .i64 (cmpI x.k y.k), .int .i64 (ordZ x.v.k x.v.n x.v.s y.v.k y.v.n y.v.s), .int .i64 (cmpS x.s y.s), .int .i64 (cmpS x.f y.f), .int .i64 (cmpI x.n y.n)] 3)) := by
    have h := or_any x17.heap.size 5 (five (cmpI x.k y.k) (ordZ x.v.k x.v.n x.v.s y.v.k y.v.n y.v.s) (cmpS x.s y.s) (cmpS x.f y.f) (cmpI x.n y.n)) (x17.alloc (.cells #[.int .i64 (cmpI x.k y.k), .int .i64 (ordZ x.v.k x.v.n x.v.s y.v.k y.v.n y.v.s), .int .i64 (cmpS x.s y.s), .int .i64 (cmpS x.f y.f), .int .i64 (cmpI x.n y.n)] 3)) (by omega) (fun k hk => by match k, hk with | 0, _ => simp [five] | 1, _ => simp [five] | 2, _ => simp [five] | 3, _ => simp [five] | 4, _ => simp [five])
    rw [lex_five] at h
    exact h
  generalize (x17.alloc (.cells #[.int .i64 (cmpI x.k y.k), .int .i64 (ordZ x.v.k x.v.n x.v.s y.v.k y.v.n y.v.s), .int .i64 (cmpS x.s y.s), .int .i64 (cmpS x.f y.f), .int .i64 (cmpI x.n y.n)] 3)) = D at hHeld C48 ⊢
  refine wpAnyH_ready (rs := [48]) (by kernel_rfl) (by simp) ?_
  refine AllReadyH.cons (o := ⟨some 53, .call { callee := .value (.func 110), args := #[.tmp 52], argTypes := #[39] }, 3, _, _, _⟩) rfl (fun K hK => ?_) AllReadyH.nil
  go_simp
  refine (C48).mono ?_
  rintro e x48 ⟨rfl, hx48⟩
  replace hx48 := hx48.symm
  subst hx48
  go_wp2_with fail
  refine hK.out _ _ hHeld (fun _ => ?_)
  clear hK K
  try simp only [Act.put, s_put, s_0, s_1]
  refine wpAnyH_take (i := 49) (oi := ⟨some 4, .assign (.tmp 53), 3, _, _, _⟩) (v := ?v49) rfl (by kernel_rfl) (by kernel_rfl) (by kernel_rfl) (fun _ _ _ h => h) (Or.inl ⟨by rfl, ?hy49⟩) hHeld ?rest49
  case hy49 => intro w9 hSw; go_simp; (try with_reducible rfl)
  try simp only [Act.put, s_put, s_0, s_1]
  refine wpAnyH_done (by kernel_rfl) ?_ _
  refine NoPanic.normal ?_
  go_wp2
  go_ret
  exact ⟨rfl, hT.trans (hHeld.mono hT.size)⟩
end Go.Proofs.YtfnfegcjgnbgbaaGreatDoor
