/-
  expr.alone: two nodes without their parts.
  Names, folded texts: of no program (but for what a rune is in the model).
  word.Name and its small functions: a range over a text's runes is a walk over its bytes.
  What a right condition is, node by node; plain facts.
  slices.ContainsFunc of a condition's parts: is one of the same kind?
-/
import Derived.Test.YtkfpgkohkhhlhaaGreatDoorRBrief
import Derived.Test.YtkfpgkohkhhlhaaGreatDoorRValOrder
import Derived.Test.YtkfpgkohkhhlhaaGreatDoorRWlAs
import Derived.Test.YtkfpgkohkhhlhaaGreatDoorRPatBase
import Derived.Lib.SpaceUEq
import Derived.BigQuiet
namespace Go.Proofs.YtkfpgkohkhhlhaaGreatDoor
open Go.RowKit

theorem lexN_not {f : Nat → Int} {k : Nat} (h0 : lexN f k = 0) (h : ¬ f k = 0) : ∀ {n : Nat}, k < n → lexN f n = f k
  | 0, hn => by omega
  | n + 1, hn => by
    by_cases e : k = n
    · subst e
      show (if lexN f k = 0 then f k else lexN f k) = f k
      rw [if_pos h0]
    · have := lexN_not h0 h (show k < n by omega)
      show (if lexN f n = 0 then f n else lexN f n) = f k
      rw [this, if_neg h]
set_option maxRecDepth 100000 in
set_option maxHeartbeats 1000000 in
/-- cmp.Or: the first that is not 0. -/
theorem or_any (b n : Nat) (V : Nat → Int) (w : World) (hn : n ≤ 9223372036854775807) (hc : ∀ k, k < n → w.cell? ⟨b, k, none⟩ = some (.int .i64 (V k))) :
    Calls Tryz.prog 196 #[.slice (some ⟨b, 0, none⟩) n n] w fun e w' => e = .returned (.int .i64 (lexN V n)) ∧ w' = w := by
  obtain ⟨r, hr⟩ : ∃ r, r = lexN V n := ⟨_, rfl⟩
  rw [← hr]
  have HR : Hid (r = lexN V n) := hr
  have HC : Hid (∀ k, k < n → w.cell? ⟨b, k, none⟩ = some (.int .i64 (V k))) := hc
  clear hc hr
  go_enter Tryz.func196, Tryz.ntmps196
  go_wp2
  go_loopw [8] (fun u wr => ∃ k : Nat, k ≤ n ∧ u = .int .i64 k ∧ Hid (lexN V k = 0) ∧ wr = w) (fun u _ => n - (intOf u).toNat)
  case atStart => exact ⟨0, Nat.zero_le _, rfl, rfl, rfl⟩
  case round =>
    obtain ⟨k, hk, rfl, H0, rfl⟩ := hrel
    by_cases hkn : k < n
    · have c := HC.out k hkn
      have HK : Hid (k < n) := hkn
      by_cases hv : V k = 0
      · have HV : Hid (V k = 0) := hv
        have hv' : (V k == 0) = true := by simpa using hv
        clear hv
        go_wp2
        go_roundw
        case rel => exact ⟨k + 1, HK.out, by go_num, by show (if lexN V k = 0 then V k else lexN V k) = 0; rw [if_pos H0.out]; exact HV.out, by first | trivial | rfl⟩
        case measure => have := HK.out; simp [intOf]; omega
      · have HV : Hid (¬ V k = 0) := hv
        have hv' : (V k == 0) = false := by simpa using hv
        clear hv
        go_wp2
        try rw [Exit.noGoto_ret]
        go_ret
        exact ⟨ret_int (by rw [HR.out, lexN_not H0.out HV.out HK.out]), rfl⟩
    · obtain rfl : k = n := by omega
      go_wp2
      go_ret
      exact ⟨ret_int (by rw [HR.out, H0.out]), rfl⟩
/-- What alone tells. -/
def alZ (x y : X) : Int := orI (cmpI x.k y.k) (orI (ordV x.v y.v) (orI (cmpS x.s y.s) (orI (cmpS x.f y.f) (cmpI x.n y.n))))
def five (a b c d e : Int) : Nat → Int
  | 0 => a
  | 1 => b
  | 2 => c
  | 3 => d
  | _ => e
theorem lex_five (a b c d e : Int) : lexN (five a b c d e) 5 = orI a (orI b (orI c (orI d e))) := by
  simp only [lexN, five]
  unfold orI
  by_cases h1 : a = 0 <;> by_cases h2 : b = 0 <;> by_cases h3 : c = 0 <;> by_cases h4 : d = 0 <;> simp [h1, h2, h3, h4]
/-- Two nodes in memory. -/
def Nodes (w : World) (b o : Nat) (x : X) (b' o' : Nat) (y : X) : Prop := Node w b o x ∧ Node w b' o' y
set_option maxRecDepth 100000 in
set_option maxHeartbeats 8000000 in
theorem alone_any (b o b' o' : Nat) (x y : X) (w : World) (hx : Node w b o x) (hy : Node w b' o' y) :
    Calls Tryz.prog 173 #[.pointer (some ⟨b, o, none⟩), .pointer (some ⟨b', o', none⟩)] w fun e w' => e = .returned (.int .i64 (alZ x y)) ∧ Below w.heap.size w w' := by
  have HX : Hid (Node w b o x) := hx
  have HY : Hid (Node w b' o' y) := hy
  clear hx hy
  obtain ⟨W, hW⟩ : ∃ W, W = w := ⟨_, rfl⟩
  rw [← hW] at HX HY ⊢
  clear hW
  go_enter Tryz.func173, Tryz.ntmps173
  go_wp2_with fail
  refine wp_region_noPanic ?_
  refine wp_region_held_drew (S := fun w' => Below W.heap.size W w') (by kernel_rfl) ((Below.refl _ _).drew) (fun hHeld => ?_)
  have hT : Below W.heap.size W W.drew := hHeld
  obtain ⟨d, hd⟩ : ∃ d, d = W.drew := ⟨_, rfl⟩
  rw [← hd] at hHeld hT ⊢
  clear hd
  refine wpAnyH_take (i := 0) (oi := ⟨some 5, .move (.tmp 0), 157, _, _, _⟩) (v := ?v0) rfl (by kernel_rfl) (by kernel_rfl) (by kernel_rfl) (fun _ _ _ h => h) (Or.inl ⟨by rfl, ?hy0⟩) hHeld ?rest0
  case hy0 => intro w9 hSw; go_simp; (try with_reducible rfl)
  try simp only [Act.put, s_put, s_0, s_1]
  refine wpAnyH_take (i := 1) (oi := ⟨some 6, .nilCheck (.tmp 5), 0, _, _, _⟩) (v := ?v1) rfl (by kernel_rfl) (by kernel_rfl) (by kernel_rfl) (fun _ _ _ h => h) (Or.inl ⟨by rfl, ?hy1⟩) hHeld ?rest1
  case hy1 => intro w9 hSw; go_simp; (try with_reducible rfl)
  try simp only [Act.put, s_put, s_0, s_1]
  refine wpAnyH_take (i := 2) (oi := ⟨some 7, .fieldAddr 54 (.tmp 6) 0, 0, _, _, _⟩) (v := ?v2) rfl (by kernel_rfl) (by kernel_rfl) (by kernel_rfl) (fun _ _ _ h => h) (Or.inl ⟨by rfl, ?hy2⟩) hHeld ?rest2
  case hy2 => intro w9 hSw; go_simp; (try with_reducible rfl)
  try simp only [Act.put, s_put, s_0, s_1]
  refine wpAnyH_take (i := 3) (oi := ⟨some 8, .load 3 (.tmp 7), 3, _, _, _⟩) (v := ?v3) rfl (by kernel_rfl) (by kernel_rfl) (by kernel_rfl) (fun _ _ _ h => h) (Or.inl ⟨by rfl, ?hy3⟩) hHeld ?rest3
  case hy3 => intro w9 hSw; have nn := HX.out.later hSw; have c0 := nn.1; clear nn; go_simp; (try with_reducible rfl)
  try simp only [Act.put, s_put, s_0, s_1]
  refine wpAnyH_take (i := 4) (oi := ⟨some 9, .move (.tmp 1), 157, _, _, _⟩) (v := ?v4) rfl (by kernel_rfl) (by kernel_rfl) (by kernel_rfl) (fun _ _ _ h => h) (Or.inl ⟨by rfl, ?hy4⟩) hHeld ?rest4
  case hy4 => intro w9 hSw; go_simp; (try with_reducible rfl)
  try simp only [Act.put, s_put, s_0, s_1]
  refine wpAnyH_take (i := 5) (oi := ⟨some 10, .nilCheck (.tmp 9), 0, _, _, _⟩) (v := ?v5) rfl (by kernel_rfl) (by kernel_rfl) (by kernel_rfl) (fun _ _ _ h => h) (Or.inl ⟨by rfl, ?hy5⟩) hHeld ?rest5
  case hy5 => intro w9 hSw; go_simp; (try with_reducible rfl)
  try simp only [Act.put, s_put, s_0, s_1]
  refine wpAnyH_take (i := 6) (oi := ⟨some 11, .fieldAddr 54 (.tmp 10) 0, 0, _, _, _⟩) (v := ?v6) rfl (by kernel_rfl) (by kernel_rfl) (by kernel_rfl) (fun _ _ _ h => h) (Or.inl ⟨by rfl, ?hy6⟩) hHeld ?rest6
  case hy6 => intro w9 hSw; go_simp; (try with_reducible rfl)
  try simp only [Act.put, s_put, s_0, s_1]
  refine wpAnyH_take (i := 7) (oi := ⟨some 12, .load 3 (.tmp 11), 3, _, _, _⟩) (v := ?v7) rfl (by kernel_rfl) (by kernel_rfl) (by kernel_rfl) (fun _ _ _ h => h) (Or.inl ⟨by rfl, ?hy7⟩) hHeld ?rest7
  case hy7 => intro w9 hSw; have nn := HY.out.later hSw; have c0 := nn.1; clear nn; go_simp; (try with_reducible rfl)
  try simp only [Act.put, s_put, s_0, s_1]
  refine wpAnyH_take (i := 9) (oi := ⟨some 14, .move (.tmp 0), 157, _, _, _⟩) (v := ?v9) rfl (by kernel_rfl) (by kernel_rfl) (by kernel_rfl) (fun _ _ _ h => h) (Or.inl ⟨by rfl, ?hy9⟩) hHeld ?rest9
  case hy9 => intro w9 hSw; go_simp; (try with_reducible rfl)
  try simp only [Act.put, s_put, s_0, s_1]
  refine wpAnyH_take (i := 10) (oi := ⟨some 15, .nilCheck (.tmp 14), 0, _, _, _⟩) (v := ?v10) rfl (by kernel_rfl) (by kernel_rfl) (by kernel_rfl) (fun _ _ _ h => h) (Or.inl ⟨by rfl, ?hy10⟩) hHeld ?rest10
  case hy10 => intro w9 hSw; go_simp; (try with_reducible rfl)
  try simp only [Act.put, s_put, s_0, s_1]
  refine wpAnyH_take (i := 11) (oi := ⟨some 16, .fieldAddr 54 (.tmp 15) 1, 0, _, _, _⟩) (v := ?v11) rfl (by kernel_rfl) (by kernel_rfl) (by kernel_rfl) (fun _ _ _ h => h) (Or.inl ⟨by rfl, ?hy11⟩) hHeld ?rest11
  case hy11 => intro w9 hSw; go_simp; (try with_reducible rfl)
  try simp only [Act.put, s_put, s_0, s_1]
  refine wpAnyH_take (i := 12) (oi := ⟨some 17, .load 52 (.tmp 16), 52, _, _, _⟩) (v := ?v12) rfl (by kernel_rfl) (by kernel_rfl) (by kernel_rfl) (fun _ _ _ h => h) (Or.inl ⟨by rfl, ?hy12⟩) hHeld ?rest12
  case hy12 => intro w9 hSw; have nn := HX.out.later hSw; have c0 := nn.2.1; have c1 := nn.2.2.1; have c2 := nn.2.2.2.1; clear nn; go_simp; (try with_reducible rfl)
  try simp only [Act.put, s_put, s_0, s_1]
  refine wpAnyH_take (i := 13) (oi := ⟨some 18, .move (.tmp 1), 157, _, _, _⟩) (v := ?v13) rfl (by kernel_rfl) (by kernel_rfl) (by kernel_rfl) (fun _ _ _ h => h) (Or.inl ⟨by rfl, ?hy13⟩) hHeld ?rest13
  case hy13 => intro w9 hSw; go_simp; (try with_reducible rfl)
  try simp only [Act.put, s_put, s_0, s_1]
  refine wpAnyH_take (i := 14) (oi := ⟨some 19, .nilCheck (.tmp 18), 0, _, _, _⟩) (v := ?v14) rfl (by kernel_rfl) (by kernel_rfl) (by kernel_rfl) (fun _ _ _ h => h) (Or.inl ⟨by rfl, ?hy14⟩) hHeld ?rest14
  case hy14 => intro w9 hSw; go_simp; (try with_reducible rfl)
  try simp only [Act.put, s_put, s_0, s_1]
  refine wpAnyH_take (i := 15) (oi := ⟨some 20, .fieldAddr 54 (.tmp 19) 1, 0, _, _, _⟩) (v := ?v15) rfl (by kernel_rfl) (by kernel_rfl) (by kernel_rfl) (fun _ _ _ h => h) (Or.inl ⟨by rfl, ?hy15⟩) hHeld ?rest15
  case hy15 => intro w9 hSw; go_simp; (try with_reducible rfl)
  try simp only [Act.put, s_put, s_0, s_1]
  refine wpAnyH_take (i := 16) (oi := ⟨some 21, .load 52 (.tmp 20), 52, _, _, _⟩) (v := ?v16) rfl (by kernel_rfl) (by kernel_rfl) (by kernel_rfl) (fun _ _ _ h => h) (Or.inl ⟨by rfl, ?hy16⟩) hHeld ?rest16
  case hy16 => intro w9 hSw; have nn := HY.out.later hSw; have c0 := nn.2.1; have c1 := nn.2.2.1; have c2 := nn.2.2.2.1; clear nn; go_simp; (try with_reducible rfl)
  try simp only [Act.put, s_put, s_0, s_1]
  refine wpAnyH_take (i := 18) (oi := ⟨some 23, .move (.tmp 0), 157, _, _, _⟩) (v := ?v18) rfl (by kernel_rfl) (by kernel_rfl) (by kernel_rfl) (fun _ _ _ h => h) (Or.inl ⟨by rfl, ?hy18⟩) hHeld ?rest18
  case hy18 => intro w9 hSw; go_simp; (try with_reducible rfl)
  try simp only [Act.put, s_put, s_0, s_1]
  refine wpAnyH_take (i := 19) (oi := ⟨some 24, .nilCheck (.tmp 23), 0, _, _, _⟩) (v := ?v19) rfl (by kernel_rfl) (by kernel_rfl) (by kernel_rfl) (fun _ _ _ h => h) (Or.inl ⟨by rfl, ?hy19⟩) hHeld ?rest19
  case hy19 => intro w9 hSw; go_simp; (try with_reducible rfl)
  try simp only [Act.put, s_put, s_0, s_1]
  refine wpAnyH_take (i := 20) (oi := ⟨some 25, .fieldAddr 54 (.tmp 24) 2, 0, _, _, _⟩) (v := ?v20) rfl (by kernel_rfl) (by kernel_rfl) (by kernel_rfl) (fun _ _ _ h => h) (Or.inl ⟨by rfl, ?hy20⟩) hHeld ?rest20
  case hy20 => intro w9 hSw; go_simp; (try with_reducible rfl)
  try simp only [Act.put, s_put, s_0, s_1]
  refine wpAnyH_take (i := 21) (oi := ⟨some 26, .load 9 (.tmp 25), 9, _, _, _⟩) (v := ?v21) rfl (by kernel_rfl) (by kernel_rfl) (by kernel_rfl) (fun _ _ _ h => h) (Or.inl ⟨by rfl, ?hy21⟩) hHeld ?rest21
  case hy21 => intro w9 hSw; have nn := HX.out.later hSw; have c0 := nn.2.2.2.2.1; clear nn; go_simp; (try with_reducible rfl)
  try simp only [Act.put, s_put, s_0, s_1]
  refine wpAnyH_take (i := 22) (oi := ⟨some 27, .move (.tmp 1), 157, _, _, _⟩) (v := ?v22) rfl (by kernel_rfl) (by kernel_rfl) (by kernel_rfl) (fun _ _ _ h => h) (Or.inl ⟨by rfl, ?hy22⟩) hHeld ?rest22
  case hy22 => intro w9 hSw; go_simp; (try with_reducible rfl)
  try simp only [Act.put, s_put, s_0, s_1]
  refine wpAnyH_take (i := 23) (oi := ⟨some 28, .nilCheck (.tmp 27), 0, _, _, _⟩) (v := ?v23) rfl (by kernel_rfl) (by kernel_rfl) (by kernel_rfl) (fun _ _ _ h => h) (Or.inl ⟨by rfl, ?hy23⟩) hHeld ?rest23
  case hy23 => intro w9 hSw; go_simp; (try with_reducible rfl)
  try simp only [Act.put, s_put, s_0, s_1]
  refine wpAnyH_take (i := 24) (oi := ⟨some 29, .fieldAddr 54 (.tmp 28) 2, 0, _, _, _⟩) (v := ?v24) rfl (by kernel_rfl) (by kernel_rfl) (by kernel_rfl) (fun _ _ _ h => h) (Or.inl ⟨by rfl, ?hy24⟩) hHeld ?rest24
  case hy24 => intro w9 hSw; go_simp; (try with_reducible rfl)
  try simp only [Act.put, s_put, s_0, s_1]
  refine wpAnyH_take (i := 25) (oi := ⟨some 30, .load 9 (.tmp 29), 9, _, _, _⟩) (v := ?v25) rfl (by kernel_rfl) (by kernel_rfl) (by kernel_rfl) (fun _ _ _ h => h) (Or.inl ⟨by rfl, ?hy25⟩) hHeld ?rest25
  case hy25 => intro w9 hSw; have nn := HY.out.later hSw; have c0 := nn.2.2.2.2.1; clear nn; go_simp; (try with_reducible rfl)
  try simp only [Act.put, s_put, s_0, s_1]
  refine wpAnyH_take (i := 27) (oi := ⟨some 32, .move (.tmp 0), 157, _, _, _⟩) (v := ?v27) rfl (by kernel_rfl) (by kernel_rfl) (by kernel_rfl) (fun _ _ _ h => h) (Or.inl ⟨by rfl, ?hy27⟩) hHeld ?rest27
  case hy27 => intro w9 hSw; go_simp; (try with_reducible rfl)
  try simp only [Act.put, s_put, s_0, s_1]
  refine wpAnyH_take (i := 28) (oi := ⟨some 33, .nilCheck (.tmp 32), 0, _, _, _⟩) (v := ?v28) rfl (by kernel_rfl) (by kernel_rfl) (by kernel_rfl) (fun _ _ _ h => h) (Or.inl ⟨by rfl, ?hy28⟩) hHeld ?rest28
  case hy28 => intro w9 hSw; go_simp; (try with_reducible rfl)
  try simp only [Act.put, s_put, s_0, s_1]
  refine wpAnyH_take (i := 29) (oi := ⟨some 34, .fieldAddr 54 (.tmp 33) 3, 0, _, _, _⟩) (v := ?v29) rfl (by kernel_rfl) (by kernel_rfl) (by kernel_rfl) (fun _ _ _ h => h) (Or.inl ⟨by rfl, ?hy29⟩) hHeld ?rest29
  case hy29 => intro w9 hSw; go_simp; (try with_reducible rfl)
  try simp only [Act.put, s_put, s_0, s_1]
  refine wpAnyH_take (i := 30) (oi := ⟨some 35, .load 9 (.tmp 34), 9, _, _, _⟩) (v := ?v30) rfl (by kernel_rfl) (by kernel_rfl) (by kernel_rfl) (fun _ _ _ h => h) (Or.inl ⟨by rfl, ?hy30⟩) hHeld ?rest30
  case hy30 => intro w9 hSw; have nn := HX.out.later hSw; have c0 := nn.2.2.2.2.2.1; clear nn; go_simp; (try with_reducible rfl)
  try simp only [Act.put, s_put, s_0, s_1]
  refine wpAnyH_take (i := 31) (oi := ⟨some 36, .move (.tmp 1), 157, _, _, _⟩) (v := ?v31) rfl (by kernel_rfl) (by kernel_rfl) (by kernel_rfl) (fun _ _ _ h => h) (Or.inl ⟨by rfl, ?hy31⟩) hHeld ?rest31
  case hy31 => intro w9 hSw; go_simp; (try with_reducible rfl)
  try simp only [Act.put, s_put, s_0, s_1]
  refine wpAnyH_take (i := 32) (oi := ⟨some 37, .nilCheck (.tmp 36), 0, _, _, _⟩) (v := ?v32) rfl (by kernel_rfl) (by kernel_rfl) (by kernel_rfl) (fun _ _ _ h => h) (Or.inl ⟨by rfl, ?hy32⟩) hHeld ?rest32
  case hy32 => intro w9 hSw; go_simp; (try with_reducible rfl)
  try simp only [Act.put, s_put, s_0, s_1]
  refine wpAnyH_take (i := 33) (oi := ⟨some 38, .fieldAddr 54 (.tmp 37) 3, 0, _, _, _⟩) (v := ?v33) rfl (by kernel_rfl) (by kernel_rfl) (by kernel_rfl) (fun _ _ _ h => h) (Or.inl ⟨by rfl, ?hy33⟩) hHeld ?rest33
  case hy33 => intro w9 hSw; go_simp; (try with_reducible rfl)
  try simp only [Act.put, s_put, s_0, s_1]
  refine wpAnyH_take (i := 34) (oi := ⟨some 39, .load 9 (.tmp 38), 9, _, _, _⟩) (v := ?v34) rfl (by kernel_rfl) (by kernel_rfl) (by kernel_rfl) (fun _ _ _ h => h) (Or.inl ⟨by rfl, ?hy34⟩) hHeld ?rest34
  case hy34 => intro w9 hSw; have nn := HY.out.later hSw; have c0 := nn.2.2.2.2.2.1; clear nn; go_simp; (try with_reducible rfl)
  try simp only [Act.put, s_put, s_0, s_1]
  refine wpAnyH_take (i := 36) (oi := ⟨some 41, .move (.tmp 0), 157, _, _, _⟩) (v := ?v36) rfl (by kernel_rfl) (by kernel_rfl) (by kernel_rfl) (fun _ _ _ h => h) (Or.inl ⟨by rfl, ?hy36⟩) hHeld ?rest36
  case hy36 => intro w9 hSw; go_simp; (try with_reducible rfl)
  try simp only [Act.put, s_put, s_0, s_1]
  refine wpAnyH_take (i := 37) (oi := ⟨some 42, .nilCheck (.tmp 41), 0, _, _, _⟩) (v := ?v37) rfl (by kernel_rfl) (by kernel_rfl) (by kernel_rfl) (fun _ _ _ h => h) (Or.inl ⟨by rfl, ?hy37⟩) hHeld ?rest37
  case hy37 => intro w9 hSw; go_simp; (try with_reducible rfl)
  try simp only [Act.put, s_put, s_0, s_1]
  refine wpAnyH_take (i := 38) (oi := ⟨some 43, .fieldAddr 54 (.tmp 42) 4, 0, _, _, _⟩) (v := ?v38) rfl (by kernel_rfl) (by kernel_rfl) (by kernel_rfl) (fun _ _ _ h => h) (Or.inl ⟨by rfl, ?hy38⟩) hHeld ?rest38
  case hy38 => intro w9 hSw; go_simp; (try with_reducible rfl)
  try simp only [Act.put, s_put, s_0, s_1]
  refine wpAnyH_take (i := 39) (oi := ⟨some 44, .load 26 (.tmp 43), 26, _, _, _⟩) (v := ?v39) rfl (by kernel_rfl) (by kernel_rfl) (by kernel_rfl) (fun _ _ _ h => h) (Or.inl ⟨by rfl, ?hy39⟩) hHeld ?rest39
  case hy39 => intro w9 hSw; have nn := HX.out.later hSw; have c0 := nn.2.2.2.2.2.2; clear nn; go_simp; (try with_reducible rfl)
  try simp only [Act.put, s_put, s_0, s_1]
  refine wpAnyH_take (i := 40) (oi := ⟨some 45, .call { callee := .builtin Builtin.len, args := #[.tmp 44], argTypes := #[26] }, 3, _, _, _⟩) (v := ?v40) rfl (by kernel_rfl) (by kernel_rfl) (by kernel_rfl) (fun _ _ _ h => h) (Or.inl ⟨by rfl, ?hy40⟩) hHeld ?rest40
  case hy40 => intro w9 hSw; go_simp; (try with_reducible rfl)
  try simp only [Act.put, s_put, s_0, s_1]
  refine wpAnyH_take (i := 41) (oi := ⟨some 46, .move (.tmp 1), 157, _, _, _⟩) (v := ?v41) rfl (by kernel_rfl) (by kernel_rfl) (by kernel_rfl) (fun _ _ _ h => h) (Or.inl ⟨by rfl, ?hy41⟩) hHeld ?rest41
  case hy41 => intro w9 hSw; go_simp; (try with_reducible rfl)
  try simp only [Act.put, s_put, s_0, s_1]
  refine wpAnyH_take (i := 42) (oi := ⟨some 47, .nilCheck (.tmp 46), 0, _, _, _⟩) (v := ?v42) rfl (by kernel_rfl) (by kernel_rfl) (by kernel_rfl) (fun _ _ _ h => h) (Or.inl ⟨by rfl, ?hy42⟩) hHeld ?rest42
  case hy42 => intro w9 hSw; go_simp; (try with_reducible rfl)
  try simp only [Act.put, s_put, s_0, s_1]
  refine wpAnyH_take (i := 43) (oi := ⟨some 48, .fieldAddr 54 (.tmp 47) 4, 0, _, _, _⟩) (v := ?v43) rfl (by kernel_rfl) (by kernel_rfl) (by kernel_rfl) (fun _ _ _ h => h) (Or.inl ⟨by rfl, ?hy43⟩) hHeld ?rest43
  case hy43 => intro w9 hSw; go_simp; (try with_reducible rfl)
  try simp only [Act.put, s_put, s_0, s_1]
  refine wpAnyH_take (i := 44) (oi := ⟨some 49, .load 26 (.tmp 48), 26, _, _, _⟩) (v := ?v44) rfl (by kernel_rfl) (by kernel_rfl) (by kernel_rfl) (fun _ _ _ h => h) (Or.inl ⟨by rfl, ?hy44⟩) hHeld ?rest44
  case hy44 => intro w9 hSw; have nn := HY.out.later hSw; have c0 := nn.2.2.2.2.2.2; clear nn; go_simp; (try with_reducible rfl)
  try simp only [Act.put, s_put, s_0, s_1]
  refine wpAnyH_take (i := 45) (oi := ⟨some 50, .call { callee := .builtin Builtin.len, args := #[.tmp 49], argTypes := #[26] }, 3, _, _, _⟩) (v := ?v45) rfl (by kernel_rfl) (by kernel_rfl) (by kernel_rfl) (fun _ _ _ h => h) (Or.inl ⟨by rfl, ?hy45⟩) hHeld ?rest45
  case hy45 => intro w9 hSw; go_simp; (try with_reducible rfl)
  try simp only [Act.put, s_put, s_0, s_1]
  refine wpAnyH_ready (rs := [8]) (by kernel_rfl) (by simp) ?_
  refine AllReadyH.cons (o := ⟨some 13, .call { callee := .value (.func 197), args := #[.tmp 8, .tmp 12], argTypes := #[3, 3] }, 3, _, _, _⟩) rfl (fun K hK => ?_) AllReadyH.nil
  go_simp
  refine (cmpInt_any _ _ _).mono ?_
  rintro e x8 ⟨rfl, hx8⟩
  replace hx8 := hx8.symm
  subst hx8
  go_wp2_with fail
  refine hK.out _ _ hHeld (fun _ => ?_)
  clear hK K
  try simp only [Act.put, s_put, s_0, s_1]
  refine wpAnyH_ready (rs := [17]) (by kernel_rfl) (by simp) ?_
  refine AllReadyH.cons (o := ⟨some 22, .call { callee := .value (.func 198), args := #[.tmp 17, .tmp 21], argTypes := #[52, 52] }, 3, _, _, _⟩) rfl (fun K hK => ?_) AllReadyH.nil
  go_simp
  refine (order_any _ _ _ _ _ _ _).mono ?_
  rintro e x17 ⟨rfl, hN17⟩
  go_wp2_with fail
  have hT17 : Below W.heap.size W x17 := hT.trans (hN17.mono hT.size)
  refine hK.out _ _ (hHeld.trans (hN17.mono hHeld.size)) (fun _ => held_up (S' := fun w' => Below x17.heap.size x17 w') (fun w' h' => (hHeld.trans (hN17.mono hHeld.size)).trans (h'.mono (Nat.le_trans hHeld.size hN17.size))) _ _ _ _ ?_)
  clear hK K hHeld hT
  have hT : Below W.heap.size W x17 := hT17
  have hHeld : Below x17.heap.size x17 x17 := Below.refl _ _
  clear hT17 hN17
  try simp only [Act.put, s_put, s_0, s_1]
  refine wpAnyH_ready (rs := [26]) (by kernel_rfl) (by simp) ?_
  refine AllReadyH.cons (o := ⟨some 31, .call { callee := .value (.func 199), args := #[.tmp 26, .tmp 30], argTypes := #[9, 9] }, 3, _, _, _⟩) rfl (fun K hK => ?_) AllReadyH.nil
  go_simp
  refine (cmpStr_any _ _ _).mono ?_
  rintro e x26 ⟨rfl, hx26⟩
  replace hx26 := hx26.symm
  subst hx26
  go_wp2_with fail
  refine hK.out _ _ hHeld (fun _ => ?_)
  clear hK K
  try simp only [Act.put, s_put, s_0, s_1]
  refine wpAnyH_ready (rs := [35]) (by kernel_rfl) (by simp) ?_
  refine AllReadyH.cons (o := ⟨some 40, .call { callee := .value (.func 199), args := #[.tmp 35, .tmp 39], argTypes := #[9, 9] }, 3, _, _, _⟩) rfl (fun K hK => ?_) AllReadyH.nil
  go_simp
  refine (cmpStr_any _ _ _).mono ?_
  rintro e x35 ⟨rfl, hx35⟩
  replace hx35 := hx35.symm
  subst hx35
  go_wp2_with fail
  refine hK.out _ _ hHeld (fun _ => ?_)
  clear hK K
  try simp only [Act.put, s_put, s_0, s_1]
  refine wpAnyH_ready (rs := [46]) (by kernel_rfl) (by simp) ?_
  refine AllReadyH.cons (o := ⟨some 51, .call { callee := .value (.func 197), args := #[.tmp 45, .tmp 50], argTypes := #[3, 3] }, 3, _, _, _⟩) rfl (fun K hK => ?_) AllReadyH.nil
  go_simp
  refine (cmpInt_any _ _ _).mono ?_
  rintro e x46 ⟨rfl, hx46⟩
  replace hx46 := hx46.symm
  subst hx46
  go_wp2_with fail
  refine hK.out _ _ hHeld (fun _ => ?_)
  clear hK K
  try simp only [Act.put, s_put, s_0, s_1]
  refine wpAnyH_ready (rs := [47]) (by kernel_rfl) (by simp) ?_
  refine AllReadyH.cons (o := ⟨some 52, .buildSlice 39 5 #[(0, .tmp 13), (1, .tmp 22), (2, .tmp 31), (3, .tmp 40), (4, .tmp 51)], 39, _, _, _⟩) rfl (fun K hK => ?_) AllReadyH.nil
  go_simp
  have hT47 := hHeld.alloc hHeld.size (.cells #[.int .i64 (cmpI x.k y.k), .int .i64 (ordZ x.v.k x.v.n x.v.s y.v.k y.v.n y.v.s), .int .i64 (cmpS x.s y.s), .int .i64 (cmpS x.f y.f), .int .i64 (cmpI x.n y.n)] 3)
  refine hK.out _ _ hT47 (fun _ => ?_)
  clear hK K hHeld
  have hHeld := hT47
  clear hT47
  have C48 : Calls Tryz.prog 196 #[.slice (some ⟨x17.heap.size, 0, none⟩) 5 5] (x17.alloc (.cells #[.int .i64 (cmpI x.k y.k), .int .i64 (ordZ x.v.k x.v.n x.v.s y.v.k y.v.n y.v.s), .int .i64 (cmpS x.s y.s), .int .i64 (cmpS x.f y.f), .int .i64 (cmpI x.n y.n)] 3)) fun e w' => e = .returned (.int .i64 (alZ x y)) ∧ w' = (x17.alloc (.cells #[.int .i64 (cmpI x.k y.k), .int .i64 (ordZ x.v.k x.v.n x.v.s y.v.k y.v.n y.v.s), .int .i64 (cmpS x.s y.s), .int .i64 (cmpS x.f y.f), .int .i64 (cmpI x.n y.n)] 3)) := by
    have h := or_any x17.heap.size 5 (five (cmpI x.k y.k) (ordZ x.v.k x.v.n x.v.s y.v.k y.v.n y.v.s) (cmpS x.s y.s) (cmpS x.f y.f) (cmpI x.n y.n)) (x17.alloc (.cells #[.int .i64 (cmpI x.k y.k), .int .i64 (ordZ x.v.k x.v.n x.v.s y.v.k y.v.n y.v.s), .int .i64 (cmpS x.s y.s), .int .i64 (cmpS x.f y.f), .int .i64 (cmpI x.n y.n)] 3)) (by omega) (fun k hk => by match k, hk with | 0, _ => simp [five] | 1, _ => simp [five] | 2, _ => simp [five] | 3, _ => simp [five] | 4, _ => simp [five])
    rw [lex_five] at h
    exact h
  generalize (x17.alloc (.cells #[.int .i64 (cmpI x.k y.k), .int .i64 (ordZ x.v.k x.v.n x.v.s y.v.k y.v.n y.v.s), .int .i64 (cmpS x.s y.s), .int .i64 (cmpS x.f y.f), .int .i64 (cmpI x.n y.n)] 3)) = D at hHeld C48 ⊢
  refine wpAnyH_ready (rs := [48]) (by kernel_rfl) (by simp) ?_
  refine AllReadyH.cons (o := ⟨some 53, .call { callee := .value (.func 196), args := #[.tmp 52], argTypes := #[39] }, 3, _, _, _⟩) rfl (fun K hK => ?_) AllReadyH.nil
  go_simp
  refine (C48).mono ?_
  rintro e x48 ⟨rfl, hx48⟩
  replace hx48 := hx48.symm
  subst hx48
  go_wp2_with fail
  refine hK.out _ _ hHeld (fun _ => ?_)
  clear hK K
  try simp only [Act.put, s_put, s_0, s_1]
  refine wpAnyH_take (i := 49) (oi := ⟨some 4, .assign (.tmp 53), 3, _, _, _⟩) (v := ?v49) rfl (by kernel_rfl) (by kernel_rfl) (by kernel_rfl) (fun _ _ _ h => h) (Or.inl ⟨by rfl, ?hy49⟩) hHeld ?rest49
  case hy49 => intro w9 hSw; go_simp; (try with_reducible rfl)
  try simp only [Act.put, s_put, s_0, s_1]
  refine wpAnyH_done (by kernel_rfl) ?_ _
  refine NoPanic.normal ?_
  go_wp2
  go_ret
  exact ⟨rfl, hT.trans (hHeld.mono hT.size)⟩
end Go.Proofs.YtkfpgkohkhhlhaaGreatDoor
namespace Go.Proofs.YtkfpgkohkhhlhaaGreatDoor
open Go.RowKit

def smallB (c : Int) : Bool := decide (97 ≤ c ∧ c ≤ 122)
def laterB (c : Int) : Bool := decide (48 ≤ c ∧ c ≤ 57 ∨ c = 95)
def fitsB (s : ByteArray) : Bool := decide (1 ≤ s.size ∧ s.size ≤ 32)
/-- May a byte stand at a place of a name? -/
def okB (c : Int) (j : Nat) : Bool := smallB c || (laterB c && decide (j ≠ 0))
def nameB (s : ByteArray) : Bool := decide (∀ j, j < s.size → okB (byteAt s j) j = true) && fitsB s
theorem nameB_all {s : ByteArray} (h : ∀ j, j < s.size → okB (byteAt s j) j = true) : nameB s = fitsB s := by
  unfold nameB; rw [decide_eq_true h]; simp
theorem nameB_not {s : ByteArray} (j : Nat) (hj : j < s.size) (h : okB (byteAt s j) j = false) : nameB s = false := by
  unfold nameB; rw [decide_eq_false (fun k => by rw [k j hj] at h; cases h)]; simp
/-! ### Runes -/
theorem get!_at (s : ByteArray) (k : Nat) (h : k < s.size) : s.get! k = s[k]'h := by
  have := get_at s k h
  rwa [Nat.add_zero] at this
/-- A rune that is no byte below 128 goes over bytes none of which is below 128, and ends within the text. -/
theorem rune_over (s : ByteArray) (p : Nat) (h : p < s.size) (ha : 128 ≤ byteAt s p) :
    128 ≤ (Utf8.decode s p).1 ∧ 1 ≤ (Utf8.decode s p).2 ∧ p + (Utf8.decode s p).2 ≤ s.size ∧ ∀ j, p ≤ j → j < p + (Utf8.decode s p).2 → 128 ≤ byteAt s j := by
  have hh := decode_high s p h (by have := byteAt_get s p h; omega)
  have hd := Lib.decodeN_conts (s.size - p) (s.get! p).toNat (s.get! (p + 1)).toNat (s.get! (p + 2)).toNat (s.get! (p + 3)).toNat
  rw [← Lib.decode_at] at hd
  obtain ⟨d1, d2, d3, d4⟩ := hd
  refine ⟨hh.1, hh.2, by omega, fun j h1 h2 => ?_⟩
  have key : ∀ k, p + k < s.size → (s.get! (p + k)).toNat / 64 = 2 → 128 ≤ byteAt s (p + k) := by
    intro k hk hq
    rw [get!_at s _ hk] at hq
    have := byteAt_get s _ hk
    omega
  obtain ⟨k, rfl⟩ := Nat.exists_eq_add_of_le h1
  match k, h2 with
  | 0, _ => exact ha
  | 1, h2 => exact key 1 (by omega) (d1 (by omega)).1
  | 2, h2 => exact key 2 (by omega) (d2 (by omega)).1
  | 3, h2 => exact key 3 (by omega) (d3 (by omega)).1
  | k + 4, h2 => omega
theorem rune_byte (s : ByteArray) (p : Nat) (h : p < s.size) (ha : byteAt s p < 128) : Utf8.decode s p = ((byteAt s p).toNat, 1) := by
  have e := byteAt_get s p h
  rw [decode_ascii s p h (by omega)]
  congr 1
  omega
end Go.Proofs.YtkfpgkohkhhlhaaGreatDoor
namespace Go.Proofs.YtkfpgkohkhhlhaaGreatDoor
open Go.RowKit

set_option maxHeartbeats 400000 in
theorem small_any (r : Int) (w : World) : Calls Tryz.prog 140 #[.int .i32 r] w fun e w' => e = .returned (.bool (smallB r)) ∧ w' = w := by
  go_enter Tryz.func140, Tryz.ntmps140
  go_wp2
  all_goals go_ret
  all_goals refine ⟨ret_bool ?_, rfl⟩
  all_goals (unfold smallB; rw [Bool.eq_iff_iff]; simp <;> omega)
set_option maxHeartbeats 400000 in
theorem fits_any (s : ByteArray) (w : World) : Calls Tryz.prog 141 #[.string s] w fun e w' => e = .returned (.bool (fitsB s)) ∧ w' = w := by
  go_enter Tryz.func141, Tryz.ntmps141
  go_wp2
  all_goals go_ret
  all_goals refine ⟨ret_bool ?_, rfl⟩
  all_goals (unfold fitsB; rw [Bool.eq_iff_iff]; simp <;> omega)

theorem below_iter (w : World) (s : ByteArray) (p : Nat) : Below w.heap.size w (w.iter s p) := (Below.refl _ _).alloc (Nat.le_refl _) _

set_option maxRecDepth 100000 in
set_option maxHeartbeats 4000000 in
theorem name_any (s : ByteArray) (w : World) : Calls Tryz.prog 103 #[.string s] w fun e w' => e = .returned (.bool (nameB s)) ∧ Below w.heap.size w w' := by
  obtain ⟨B, hB⟩ : ∃ B, B = nameB s := ⟨_, rfl⟩
  rw [← hB]
  have HB : Hid (B = nameB s) := hB
  clear hB
  have hfit := fun w' => fits_any s w'
  have HF : Hid (∀ w', Calls Tryz.prog 141 _ w' _) := hfit
  clear hfit
  go_enter Tryz.func103, Tryz.ntmps103
  go_wp2
  go_loopw [] (fun w' => ∃ p : Nat, w' = w.iter s p ∧ Hid (∀ j, j < p → j < s.size → okB (byteAt s j) j = true)) (fun w' => s.size - w'.iterPos w.heap.size)
  case atStart => exact ⟨0, rfl, fun j hj => by omega⟩
  case round =>
    obtain ⟨p, rfl, HP⟩ := hrel
    by_cases hp : p < s.size
    · have hbd := byteAt_bd s p
      by_cases ha : byteAt s p < 128
      · have hnx : ∀ ty, (Instr.next (.pointer (some ⟨w.heap.size, 0, none⟩)) true ty).run Tryz.prog (w.iter s p) = .ok (.tuple #[.bool true, .int .i64 p, .int .i32 (byteAt s p)]) (w.iter s (p + 1)) := fun ty => by
          have e := run_next_any (P := Tryz.prog) w s p ty hp
          rw [rune_byte s p hp ha] at e
          rw [e, Int.toNat_of_nonneg hbd.1]
        obtain ⟨c, hc⟩ : ∃ c, c = byteAt s p := ⟨_, rfl⟩
        have HC : Hid (c = byteAt s p) := hc
        rw [← hc] at hnx hbd ha
        clear hc
        by_cases h1 : 97 ≤ c ∧ c ≤ 122
        · have hs : smallB c = true := decide_eq_true h1
          have HO : Hid (okB c p = true) := by show okB c p = true; unfold okB; rw [hs]; rfl
          have HS : Hid (∀ w', Calls Tryz.prog 140 #[.int .i32 c] w' fun e w'' => e = .returned (.bool true) ∧ w'' = w') := fun w' => by have := small_any c w'; rwa [hs] at this
          obtain ⟨h1a, h1b⟩ := h1
          clear hs
          go_wp2_with (first | (go_at_call 140; refine (HS.out _).mono ?_; rintro e w1 ⟨rfl, hw1⟩; replace hw1 := hw1.symm; subst hw1))
          go_roundw
          case rel => exact ⟨p + 1, rfl, fun j hj hjs => if h : j = p then by rw [h, ← HC.out]; exact HO.out else HP.out j (by omega) hjs⟩
          case measure => simp; omega
        · have hs : smallB c = false := decide_eq_false h1
          have HS : Hid (∀ w', Calls Tryz.prog 140 #[.int .i32 c] w' fun e w'' => e = .returned (.bool false) ∧ w'' = w') := fun w' => by have := small_any c w'; rwa [hs] at this
          by_cases h2 : 48 ≤ c ∧ c ≤ 57 ∨ c = 95
          · have hl : laterB c = true := decide_eq_true h2
            by_cases hp0 : p = 0
            · have HO : Hid (okB c p = false) := by show okB c p = false; unfold okB; rw [hs, hl, hp0]; rfl
              subst hp0
              clear hs hl h1
              rcases h2 with ⟨h2a, h2b⟩ | h2
              · go_wp2_with (first | (go_at_call 140; refine (HS.out _).mono ?_; rintro e w1 ⟨rfl, hw1⟩; replace hw1 := hw1.symm; subst hw1))
                try rw [Exit.noGoto_ret]
                go_ret
                exact ⟨ret_bool (by rw [HB.out, nameB_not _ hp (by rw [← HC.out]; exact HO.out)]), below_iter w s _⟩
              · subst h2
                go_wp2_with (first | (go_at_call 140; refine (HS.out _).mono ?_; rintro e w1 ⟨rfl, hw1⟩; replace hw1 := hw1.symm; subst hw1))
                try rw [Exit.noGoto_ret]
                go_ret
                exact ⟨ret_bool (by rw [HB.out, nameB_not _ hp (by rw [← HC.out]; exact HO.out)]), below_iter w s _⟩
            · have HO : Hid (okB c p = true) := by show okB c p = true; unfold okB; rw [hs, hl]; simp [hp0]
              have hp1 : ¬ (p : Int) = 0 := by omega
              clear hs hl h1
              rcases h2 with ⟨h2a, h2b⟩ | h2
              · go_wp2_with (first | (go_at_call 140; refine (HS.out _).mono ?_; rintro e w1 ⟨rfl, hw1⟩; replace hw1 := hw1.symm; subst hw1))
                go_roundw
                case rel => exact ⟨p + 1, rfl, fun j hj hjs => if h : j = p then by rw [h, ← HC.out]; exact HO.out else HP.out j (by omega) hjs⟩
                case measure => simp; omega
              · subst h2
                go_wp2_with (first | (go_at_call 140; refine (HS.out _).mono ?_; rintro e w1 ⟨rfl, hw1⟩; replace hw1 := hw1.symm; subst hw1))
                go_roundw
                case rel => exact ⟨p + 1, rfl, fun j hj hjs => if h : j = p then by rw [h, ← HC.out]; exact HO.out else HP.out j (by omega) hjs⟩
                case measure => simp; omega
          · have hl : laterB c = false := decide_eq_false h2
            have HO : Hid (okB c p = false) := by show okB c p = false; unfold okB; rw [hs, hl]; rfl
            have h95 : ¬ c = 95 := fun h => h2 (.inr h)
            have h95' : (c == (95 : Int)) = false := by simp [h95]
            clear hs hl h1
            by_cases h48 : 48 ≤ c
            · have h57 : ¬ c ≤ 57 := fun h => h2 (.inl ⟨h48, h⟩)
              clear h2
              by_cases hp0 : p = 0
              · subst hp0
                go_wp2_with (first | (go_at_call 140; refine (HS.out _).mono ?_; rintro e w1 ⟨rfl, hw1⟩; replace hw1 := hw1.symm; subst hw1))
                try rw [Exit.noGoto_ret]
                go_ret
                exact ⟨ret_bool (by rw [HB.out, nameB_not _ hp (by rw [← HC.out]; exact HO.out)]), below_iter w s _⟩
              · have hp1 : ¬ (p : Int) = 0 := by omega
                go_wp2_with (first | (go_at_call 140; refine (HS.out _).mono ?_; rintro e w1 ⟨rfl, hw1⟩; replace hw1 := hw1.symm; subst hw1))
                try rw [Exit.noGoto_ret]
                go_ret
                exact ⟨ret_bool (by rw [HB.out, nameB_not _ hp (by rw [← HC.out]; exact HO.out)]), below_iter w s _⟩
            · clear h2
              by_cases hp0 : p = 0
              · subst hp0
                go_wp2_with (first | (go_at_call 140; refine (HS.out _).mono ?_; rintro e w1 ⟨rfl, hw1⟩; replace hw1 := hw1.symm; subst hw1))
                try rw [Exit.noGoto_ret]
                go_ret
                exact ⟨ret_bool (by rw [HB.out, nameB_not _ hp (by rw [← HC.out]; exact HO.out)]), below_iter w s _⟩
              · have hp1 : ¬ (p : Int) = 0 := by omega
                go_wp2_with (first | (go_at_call 140; refine (HS.out _).mono ?_; rintro e w1 ⟨rfl, hw1⟩; replace hw1 := hw1.symm; subst hw1))
                try rw [Exit.noGoto_ret]
                go_ret
                exact ⟨ret_bool (by rw [HB.out, nameB_not _ hp (by rw [← HC.out]; exact HO.out)]), below_iter w s _⟩
      · obtain ⟨r1, r2, _, _⟩ := rune_over s p hp (by omega)
        have hnx : ∀ ty, (Instr.next (.pointer (some ⟨w.heap.size, 0, none⟩)) true ty).run Tryz.prog (w.iter s p) = _ := fun ty => run_next_any (P := Tryz.prog) w s p ty hp
        have HO : Hid (okB (byteAt s p) p = false) := by
          show okB (byteAt s p) p = false
          unfold okB smallB laterB
          rw [decide_eq_false (by omega), decide_eq_false (by omega)]; rfl
        obtain ⟨c, hc⟩ : ∃ c : Int, c = ((Utf8.decode s p).1 : Int) := ⟨_, rfl⟩
        have hc1 : 128 ≤ c := by omega
        rw [← hc] at hnx
        generalize (Utf8.decode s p).2 = q at hnx
        have hs : smallB c = false := decide_eq_false (by omega)
        have HS : Hid (∀ w', Calls Tryz.prog 140 #[.int .i32 c] w' fun e w'' => e = .returned (.bool false) ∧ w'' = w') := fun w' => by have := small_any c w'; rwa [hs] at this
        have h57 : ¬ c ≤ 57 := by omega
        have h48 : 48 ≤ c := by omega
        have h95 : ¬ c = 95 := by omega
        have h95' : (c == (95 : Int)) = false := by simp [h95]
        clear hs ha r1 r2 hbd hc
        by_cases hp0 : p = 0
        · subst hp0
          go_wp2_with (first | (go_at_call 140; refine (HS.out _).mono ?_; rintro e w1 ⟨rfl, hw1⟩; replace hw1 := hw1.symm; subst hw1))
          try rw [Exit.noGoto_ret]
          go_ret
          exact ⟨ret_bool (by rw [HB.out, nameB_not 0 hp HO.out]), below_iter w s _⟩
        · have hp1 : ¬ (p : Int) = 0 := by omega
          go_wp2_with (first | (go_at_call 140; refine (HS.out _).mono ?_; rintro e w1 ⟨rfl, hw1⟩; replace hw1 := hw1.symm; subst hw1))
          try rw [Exit.noGoto_ret]
          go_ret
          exact ⟨ret_bool (by rw [HB.out, nameB_not p hp HO.out]), below_iter w s _⟩
    · have hnx : ∀ ty, (Instr.next (.pointer (some ⟨w.heap.size, 0, none⟩)) true ty).run Tryz.prog (w.iter s p) = _ := fun ty => run_next_end w s p ty hp
      go_wp2_with (first | (go_at_call 141; refine (HF.out _).mono ?_; rintro e w1 ⟨rfl, hw1⟩; replace hw1 := hw1.symm; subst hw1))
      go_ret
      refine ⟨ret_bool ?_, below_iter w s p⟩
      rw [HB.out, nameB_all (fun j hj => HP.out j (by omega) hj)]
end Go.Proofs.YtkfpgkohkhhlhaaGreatDoor
namespace Go.Proofs.YtkfpgkohkhhlhaaGreatDoor
open Go.RowKit

/-- A node is right, but for its parts. -/
def NodeR (y : X) : Prop := (y.k ≠ 1 → y.v = val0) ∧ (y.k ≠ 2 → y.s = ⟨#[]⟩ ∧ y.f = ⟨#[]⟩) ∧
  ((y.k = 1 ∧ y.n = 0 ∧ rightB y.v.k y.v.n y.v.s = true) ∨ (y.k = 2 ∧ y.n = 0 ∧ nameB y.s = true ∧ nameB y.f = true) ∨ ((y.k = 3 ∨ y.k = 15) ∧ y.n = 1) ∨ (4 ≤ y.k ∧ y.k ≤ 14 ∧ y.n = 2) ∨
    ((y.k = 16 ∨ y.k = 17) ∧ 2 ≤ y.n ∧ ∀ i, i < y.n → (y.c i).k ≠ y.k))
def TreeR : X → Prop
  | .nil => NodeR .nil
  | .mk k v s f a n cap c => NodeR (.mk k v s f a n cap c) ∧ ∀ i, i < n → TreeR (c i)
theorem treeR_eq (x : X) : TreeR x ↔ NodeR x ∧ ∀ i, i < x.n → TreeR (x.c i) := by
  cases x with
  | nil => simp [TreeR, X.n]
  | mk => rfl
theorem treeR_vis : ∀ (x : X) (d : Int), TreeR x ↔ ∀ v ∈ visX d x, NodeR v.2 := by
  refine X.ind fun x ih d => ?_
  rw [treeR_eq, visX_eq]
  constructor
  · rintro ⟨h1, h2⟩ v hv
    rcases List.mem_cons.1 hv with rfl | hv
    · exact h1
    · obtain ⟨i, hi, h⟩ := mem_catN.1 hv
      exact (ih i hi _).1 (h2 i hi) v h
  · intro h
    exact ⟨h (d, x) List.mem_cons_self, fun i hi => (ih i hi (IntKind.i64.wrap (d + 1))).2 fun v hv => h v (List.mem_cons_of_mem _ (mem_catN.2 ⟨i, hi, hv⟩))⟩
theorem alZ_zero (x y : X) : alZ x y = 0 ↔ x.k = y.k ∧ x.v = y.v ∧ x.s = y.s ∧ x.f = y.f ∧ x.n = y.n := by
  unfold alZ
  rw [orI_zero, orI_zero, orI_zero, orI_zero, ordV_zero]
  constructor
  · rintro ⟨h1, h2, h3, h4, h5⟩
    exact ⟨cmpI_zero h1, h2, cmpS_zero h3, cmpS_zero h4, by have := cmpI_zero h5; omega⟩
  · rintro ⟨h1, h2, h3, h4, h5⟩
    rw [h1, h3, h4, h5]
    exact ⟨cmpI_self _, h2, cmpS_self _, cmpS_self _, cmpI_self _⟩
/-- The node that has just what its kind has. -/
def ownC (y : X) : X := .mk y.k y.v ⟨#[]⟩ ⟨#[]⟩ none 0 0 (fun _ => .nil)
def ownF (y : X) : X := .mk y.k val0 y.s y.f none 0 0 (fun _ => .nil)
def ownP (y : X) : X := .mk y.k val0 ⟨#[]⟩ ⟨#[]⟩ y.a y.n y.cap y.c
theorem nodeR_C (y : X) (h : y.k = 1) : NodeR y ↔ rightB y.v.k y.v.n y.v.s = true ∧ alZ y (ownC y) = 0 := by
  rw [alZ_zero]
  constructor
  · rintro ⟨h1, h2, h3⟩
    have h4 := h2 (by omega)
    rcases h3 with h3 | h3 | h3 | h3 | h3
    · exact ⟨h3.2.2, rfl, rfl, h4.1, h4.2, h3.2.1⟩
    all_goals omega
  · rintro ⟨h1, -, -, h4, h5, h6⟩
    exact ⟨fun e => absurd h e, fun _ => ⟨h4, h5⟩, .inl ⟨h, h6, h1⟩⟩
theorem nodeR_F (y : X) (h : y.k = 2) : NodeR y ↔ (nameB y.s = true ∧ nameB y.f = true) ∧ alZ y (ownF y) = 0 := by
  rw [alZ_zero]
  constructor
  · rintro ⟨h1, h2, h3⟩
    have h4 := h1 (by omega)
    rcases h3 with h3 | h3 | h3 | h3 | h3
    · omega
    · exact ⟨h3.2.2, rfl, h4, rfl, rfl, h3.2.1⟩
    all_goals omega
  · rintro ⟨h1, -, h3, -, -, h6⟩
    exact ⟨fun _ => h3, fun e => absurd h e, .inr (.inl ⟨h, h6, h1⟩)⟩
theorem nodeR_one (y : X) (h : y.k = 3 ∨ y.k = 15) : NodeR y ↔ y.n = 1 ∧ alZ y (ownP y) = 0 := by
  rw [alZ_zero]
  constructor
  · rintro ⟨h1, h2, h3⟩
    have h4 := h1 (by omega)
    have h5 := h2 (by omega)
    rcases h3 with h3 | h3 | h3 | h3 | h3
    · omega
    · omega
    · exact ⟨h3.2, rfl, h4, h5.1, h5.2, rfl⟩
    all_goals omega
  · rintro ⟨h1, -, h3, h4, h5, -⟩
    exact ⟨fun _ => h3, fun _ => ⟨h4, h5⟩, .inr (.inr (.inl ⟨h, h1⟩))⟩
theorem nodeR_two (y : X) (h : 4 ≤ y.k ∧ y.k ≤ 14) : NodeR y ↔ y.n = 2 ∧ alZ y (ownP y) = 0 := by
  rw [alZ_zero]
  constructor
  · rintro ⟨h1, h2, h3⟩
    have h4 := h1 (by omega)
    have h5 := h2 (by omega)
    rcases h3 with h3 | h3 | h3 | h3 | h3
    · omega
    · omega
    · omega
    · exact ⟨h3.2.2, rfl, h4, h5.1, h5.2, rfl⟩
    · omega
  · rintro ⟨h1, -, h3, h4, h5, -⟩
    exact ⟨fun _ => h3, fun _ => ⟨h4, h5⟩, .inr (.inr (.inr (.inl ⟨h.1, h.2, h1⟩)))⟩
theorem nodeR_many (y : X) (h : y.k = 16 ∨ y.k = 17) : NodeR y ↔ (2 ≤ y.n ∧ ∀ i, i < y.n → (y.c i).k ≠ y.k) ∧ alZ y (ownP y) = 0 := by
  rw [alZ_zero]
  constructor
  · rintro ⟨h1, h2, h3⟩
    have h4 := h1 (by omega)
    have h5 := h2 (by omega)
    rcases h3 with h3 | h3 | h3 | h3 | h3
    · omega
    · omega
    · omega
    · omega
    · exact ⟨h3.2, rfl, h4, h5.1, h5.2, rfl⟩
  · rintro ⟨h1, -, h3, h4, h5, -⟩
    exact ⟨fun _ => h3, fun _ => ⟨h4, h5⟩, .inr (.inr (.inr (.inr ⟨h, h1⟩)))⟩
theorem nodeR_none (y : X) (h : ¬ (1 ≤ y.k ∧ y.k ≤ 17)) : ¬ NodeR y := by
  rintro ⟨-, -, h3⟩
  omega
end Go.Proofs.YtkfpgkohkhhlhaaGreatDoor
namespace Go.Proofs.YtkfpgkohkhhlhaaGreatDoor
open Go.RowKit

set_option maxRecDepth 100000 in
set_option maxHeartbeats 1000000 in
theorem kind_any (z : X) (Bx b o : Nat) (k : Int) (w : World) (hb : w.cell? ⟨Bx, 0, none⟩ = some (.pointer (some ⟨b, o, none⟩))) (hk : w.cell? ⟨b, o, none⟩ = some (.int .i64 k)) :
    Calls Tryz.prog 172 #[z.val, .pointer (some ⟨Bx, 0, none⟩)] w fun e w' => e = .returned (.bool (z.k == k)) ∧ Below w.heap.size w w' := by
  obtain ⟨A, hA⟩ : ∃ A, w.alloc (.cells z.cells 54) = A := ⟨_, rfl⟩
  have hB : Below w.heap.size w A := by rw [← hA]; exact (Below.refl _ w).alloc (Nat.le_refl _) _
  have n0 : A.cell? ⟨w.heap.size, 0, none⟩ = some (.int .i64 z.k) := by rw [← hA]; exact (node_new w _ z).1
  have c1 := cell_later hb hB
  have c2 := cell_later hk hB
  have HB : Hid (Below w.heap.size w A) := hB
  clear hb hk hB
  go_enter Tryz.func172, Tryz.ntmps172
  go_wp2_with fail
  go_quiet (fail)
  go_wp2
  go_ret
  exact ⟨rfl, bd HB.out _⟩
set_option maxRecDepth 100000 in
set_option maxHeartbeats 1000000 in
theorem kinds_index (y : X) (Bx b o : Nat) (k : Int) (w : World) (hY : IsX w y) (hb : w.cell? ⟨Bx, 0, none⟩ = some (.pointer (some ⟨b, o, none⟩))) (hk : w.cell? ⟨b, o, none⟩ = some (.int .i64 k)) :
    Calls Tryz.prog 139 #[.slice y.a y.n y.cap, .func (.func 172) #[] #[.pointer (some ⟨Bx, 0, none⟩)]] w fun e w' => ∃ r : Int, e = .returned (.int .i64 r) ∧ (0 ≤ r ↔ ∃ i, i < y.n ∧ (y.c i).k = k) ∧ Below w.heap.size w w' := by
  have HY : Hid (IsX w y) := hY
  have hlen := hY.len
  obtain ⟨a, ha⟩ : ∃ a, a = y.a := ⟨_, rfl⟩
  rw [← ha]
  have HA : Hid (a = y.a) := ha
  clear ha
  have Hb : Hid (w.cell? ⟨Bx, 0, none⟩ = some (.pointer (some ⟨b, o, none⟩))) := hb
  have Hk : Hid (w.cell? ⟨b, o, none⟩ = some (.int .i64 k)) := hk
  clear hY hb hk
  go_enter Tryz.func139, Tryz.ntmps139
  go_wp2
  go_loopw [8] (fun u wr => ∃ i : Nat, i ≤ y.n ∧ u = .int .i64 i ∧ Hid (∀ j, j < i → (y.c j).k ≠ k) ∧ Below w.heap.size w wr) (fun u _ => y.n - (intOf u).toNat)
  case atStart => exact ⟨0, Nat.zero_le _, rfl, fun j hj => by omega, Below.refl _ _⟩
  case round =>
    obtain ⟨i, hi, rfl, HI, hB⟩ := hrel
    by_cases hin : i < y.n
    · obtain ⟨b2, o2, ea, hn, hx⟩ := (HY.out.later hB).part hin
      rw [← HA.out] at ea
      subst ea
      obtain ⟨d0, d1, d2, d3, d4, d5, d6⟩ := hn
      have hc := kind_any (y.c i) Bx b o k wr (cell_later Hb.out hB) (cell_later Hk.out hB)
      have HK : Hid (i < y.n) := hin
      clear hx
      by_cases hv : (y.c i).k = k
      · have hv' : ((y.c i).k == k) = true := by simpa using hv
        have HV : Hid ((y.c i).k = k) := hv
        rw [hv'] at hc
        clear hv hv'
        go_wp2_with (go_at_call 172; refine hc.mono ?_; rintro e w2 ⟨rfl, hB2⟩)
        try rw [Exit.noGoto_ret]
        go_ret
        exact ⟨_, rfl, ⟨fun _ => ⟨i, HK.out, HV.out⟩, fun _ => by omega⟩, hB.trans (hB2.mono hB.size)⟩
      · have hv' : ((y.c i).k == k) = false := by simpa using hv
        have HV : Hid (¬ (y.c i).k = k) := hv
        rw [hv'] at hc
        clear hv hv'
        go_wp2_with (go_at_call 172; refine hc.mono ?_; rintro e w2 ⟨rfl, hB2⟩)
        go_roundw
        case rel => exact ⟨i + 1, HK.out, by go_num, fun j hj => by by_cases e : j = i; (· rw [e]; exact HV.out); exact HI.out j (by omega), hB.trans (hB2.mono hB.size)⟩
        case measure => have := HK.out; simp [intOf]; omega
    · obtain rfl : i = y.n := by omega
      go_wp2
      go_ret
      refine ⟨_, rfl, ⟨fun h => by omega, fun ⟨j, hj, e⟩ => absurd e (HI.out j hj)⟩, hB⟩
set_option maxRecDepth 100000 in
set_option maxHeartbeats 1000000 in
theorem kinds_any (y : X) (Bx b o : Nat) (k : Int) (w : World) (hY : IsX w y) (hb : w.cell? ⟨Bx, 0, none⟩ = some (.pointer (some ⟨b, o, none⟩))) (hk : w.cell? ⟨b, o, none⟩ = some (.int .i64 k)) :
    Calls Tryz.prog 101 #[.slice y.a y.n y.cap, .func (.func 172) #[] #[.pointer (some ⟨Bx, 0, none⟩)]] w fun e w' => ∃ r : Bool, e = .returned (.bool r) ∧ (r = true ↔ ∃ i, i < y.n ∧ (y.c i).k = k) ∧ Below w.heap.size w w' := by
  have hc := kinds_index y Bx b o k w hY hb hk
  clear hY hb hk
  go_enter Tryz.func101, Tryz.ntmps101
  go_wp2_with (go_at_call 139; refine hc.mono ?_; rintro e w2 ⟨r, rfl, hr, hB2⟩; have HR : Hid (0 ≤ r ↔ ∃ i, i < y.n ∧ (y.c i).k = k) := hr; clear hr)
  go_ret
  exact ⟨decide (0 ≤ r), rfl, by rw [← HR.out]; simp, hB2⟩
end Go.Proofs.YtkfpgkohkhhlhaaGreatDoor
