/-
  expr.alone: two nodes without their parts.
  What a right condition is, node by node; plain facts.
  slices.ContainsFunc of a condition's parts: is one of the same kind?
-/
import Derived.Test.YtahlmlbfgijcpaaGreatDoorCExprBase
import Derived.Test.YtahlmlbfgijcpaaGreatDoorCExprNodes
import Derived.Test.YtahlmlbfgijcpaaGreatDoorCValRight
import Derived.Test.YtahlmlbfgijcpaaGreatDoorCWord
import Derived.BigQuiet
namespace Go.Proofs.YtahlmlbfgijcpaaGreatDoor
open Go.RowKit

theorem lexN_not {f : Nat → Int} {k : Nat} (h0 : lexN f k = 0) (h : ¬ f k = 0) : ∀ {n : Nat}, k < n → lexN f n = f k
  | 0, hn => by omega
  | n + 1, hn => by
    by_cases e : k = n
    · subst e
      show (if lexN f k = 0 then f k else lexN f k) = f k
      rw [if_pos h0]
    · have := lexN_not h0 h (show k < n by omega)
      show (if lexN f n = 0 then f n else lexN f n) = f k
      rw [this, if_neg h]
set_option maxRecDepth 100000 in
set_option maxHeartbeats 1000000 in
/-- cmp.Or: the first that is not 0. -/
theorem or_any (b n : Nat) (V : Nat → Int) (w : World) (hn : n ≤ 9223372036854775807) (hc : ∀ k, k < n → w.cell? ⟨b, k, none⟩ = some (.int .i64 (V k))) :
    Calls Tryz.prog 73 #[.slice (some ⟨b, 0, none⟩) n n] w fun e w' => e = .returned (.int .i64 (lexN V n)) ∧ w' = w := by
  obtain ⟨r, hr⟩ : ∃ r, r = lexN V n := ⟨_, rfl⟩
  rw [← hr]
  have HR : Hid (r = lexN V n) := hr
  have HC : Hid (∀ k, k < n → w.cell? ⟨b, k, none⟩ = some (.int .i64 (V k))) := hc
  clear hc hr
  go_enter Tryz.func73, Tryz.ntmps73
  go_wp2
  go_loopw [8] (fun u wr => ∃ k : Nat, k ≤ n ∧ u = .int .i64 k ∧ Hid (lexN V k = 0) ∧ wr = w) (fun u _ => n - (intOf u).toNat)
  case atStart => exact ⟨0, Nat.zero_le _, rfl, rfl, rfl⟩
  case round =>
    obtain ⟨k, hk, rfl, H0, rfl⟩ := hrel
    by_cases hkn : k < n
    · have c := HC.out k hkn
      have HK : Hid (k < n) := hkn
      by_cases hv : V k = 0
      · have HV : Hid (V k = 0) := hv
        have hv' : (V k == 0) = true := by simpa using hv
        clear hv
        go_wp2
        go_roundw
        case rel => exact ⟨k + 1, HK.out, by go_num, by show (if lexN V k = 0 then V k else lexN V k) = 0; rw [if_pos H0.out]; exact HV.out, by first | trivial | rfl⟩
        case measure => have := HK.out; simp [intOf]; omega
      · have HV : Hid (¬ V k = 0) := hv
        have hv' : (V k == 0) = false := by simpa using hv
        clear hv
        go_wp2
        try rw [Exit.noGoto_ret]
        go_ret
        exact ⟨ret_int (by rw [HR.out, lexN_not H0.out HV.out HK.out]), rfl⟩
    · obtain rfl : k = n := by omega
      go_wp2
      go_ret
      exact ⟨ret_int (by rw [HR.out, H0.out]), rfl⟩
/-- What alone tells. -/
def alZ (x y : X) : Int := orI (cmpI x.k y.k) (orI (ordV x.v y.v) (orI (cmpS x.s y.s) (orI (cmpS x.f y.f) (cmpI x.n y.n))))
theorem ordX_al (x y : X) : ordX x y = orI (alZ x y) (lexN (fun i => ordX (x.c i) (y.c i)) x.n) := by
  rw [ordX_eq]
  unfold alZ orI
  by_cases h1 : cmpI x.k y.k = 0
  · simp only [h1, if_true]
    by_cases h2 : ordV x.v y.v = 0
    · simp only [h2, if_true]
      by_cases h3 : cmpS x.s y.s = 0
      · simp only [h3, if_true]
        by_cases h4 : cmpS x.f y.f = 0
        · simp only [h4, if_true]
        · simp only [h4, if_false]
      · simp only [h3, if_false]
    · simp only [h2, if_false]
  · simp only [h1, if_false]
def five (a b c d e : Int) : Nat → Int
  | 0 => a
  | 1 => b
  | 2 => c
  | 3 => d
  | _ => e
theorem lex_five (a b c d e : Int) : lexN (five a b c d e) 5 = orI a (orI b (orI c (orI d e))) := by
  simp only [lexN, five]
  unfold orI
  by_cases h1 : a = 0 <;> by_cases h2 : b = 0 <;> by_cases h3 : c = 0 <;> by_cases h4 : d = 0 <;> simp [h1, h2, h3, h4]
/-- Two nodes in memory. -/
def Nodes (w : World) (b o : Nat) (x : X) (b' o' : Nat) (y : X) : Prop := Node w b o x ∧ Node w b' o' y
set_option maxRecDepth 100000 in
set_option maxHeartbeats 8000000 in
theorem alone_any (b o b' o' : Nat) (x y : X) (w : World) (hx : Node w b o x) (hy : Node w b' o' y) :
    Calls Tryz.prog 54 #[.pointer (some ⟨b, o, none⟩), .pointer (some ⟨b', o', none⟩)] w fun e w' => e = .returned (.int .i64 (alZ x y)) ∧ Below w.heap.size w w' := by
  have HX : Hid (Node w b o x) := hx
  have HY : Hid (Node w b' o' y) := hy
  clear hx hy
  obtain ⟨W, hW⟩ : ∃ W, W = w := ⟨_, rfl⟩
  rw [← hW] at HX HY ⊢
  clear hW
  go_enter Tryz.func54, Tryz.ntmps54
  go_wp2_with fail
  refine wp_region_noPanic ?_
  refine wp_region_held_drew (S := fun w' => Below W.heap.size W w') (by kernel_rfl) ((Below.refl _ _).drew) (fun hHeld => ?_)
  have hT : Below W.heap.size W W.drew := hHeld
  obtain ⟨d, hd⟩ : ∃ d, d = W.drew := ⟨_, rfl⟩
  rw [← hd] at hHeld hT ⊢
  clear hd
  refine wpAnyH_take (i := 0) (oi := ⟨some 5, Op.move (Operand.tmp 0), 82, _, _, _⟩) (v := ?v0) rfl (by kernel_rfl) (by kernel_rfl) (by kernel_rfl) (fun _ _ _ h => h) (Or.inl ⟨by rfl, ?hy0⟩) hHeld ?rest0
  case hy0 => intro w9 hSw; go_simp; (try with_reducible rfl)
  try simp only [Act.put, List.setIfInBounds_toArray, List.set_cons_zero, List.set_cons_succ]
  refine wpAnyH_take (i := 1) (oi := ⟨some 6, Op.nilCheck (Operand.tmp 5), 0, _, _, _⟩) (v := ?v1) rfl (by kernel_rfl) (by kernel_rfl) (by kernel_rfl) (fun _ _ _ h => h) (Or.inl ⟨by rfl, ?hy1⟩) hHeld ?rest1
  case hy1 => intro w9 hSw; go_simp; (try with_reducible rfl)
  try simp only [Act.put, List.setIfInBounds_toArray, List.set_cons_zero, List.set_cons_succ]
  refine wpAnyH_take (i := 2) (oi := ⟨some 7, Op.fieldAddr 28 (Operand.tmp 6) 0, 0, _, _, _⟩) (v := ?v2) rfl (by kernel_rfl) (by kernel_rfl) (by kernel_rfl) (fun _ _ _ h => h) (Or.inl ⟨by rfl, ?hy2⟩) hHeld ?rest2
  case hy2 => intro w9 hSw; go_simp; (try with_reducible rfl)
  try simp only [Act.put, List.setIfInBounds_toArray, List.set_cons_zero, List.set_cons_succ]
  refine wpAnyH_take (i := 3) (oi := ⟨some 8, Op.load 3 (Operand.tmp 7), 3, _, _, _⟩) (v := ?v3) rfl (by kernel_rfl) (by kernel_rfl) (by kernel_rfl) (fun _ _ _ h => h) (Or.inl ⟨by rfl, ?hy3⟩) hHeld ?rest3
  case hy3 => intro w9 hSw; have nn := HX.out.later hSw; have c0 := nn.1; clear nn; go_simp; (try with_reducible rfl)
  try simp only [Act.put, List.setIfInBounds_toArray, List.set_cons_zero, List.set_cons_succ]
  refine wpAnyH_take (i := 4) (oi := ⟨some 9, Op.move (Operand.tmp 1), 82, _, _, _⟩) (v := ?v4) rfl (by kernel_rfl) (by kernel_rfl) (by kernel_rfl) (fun _ _ _ h => h) (Or.inl ⟨by rfl, ?hy4⟩) hHeld ?rest4
  case hy4 => intro w9 hSw; go_simp; (try with_reducible rfl)
  try simp only [Act.put, List.setIfInBounds_toArray, List.set_cons_zero, List.set_cons_succ]
  refine wpAnyH_take (i := 5) (oi := ⟨some 10, Op.nilCheck (Operand.tmp 9), 0, _, _, _⟩) (v := ?v5) rfl (by kernel_rfl) (by kernel_rfl) (by kernel_rfl) (fun _ _ _ h => h) (Or.inl ⟨by rfl, ?hy5⟩) hHeld ?rest5
  case hy5 => intro w9 hSw; go_simp; (try with_reducible rfl)
  try simp only [Act.put, List.setIfInBounds_toArray, List.set_cons_zero, List.set_cons_succ]
  refine wpAnyH_take (i := 6) (oi := ⟨some 11, Op.fieldAddr 28 (Operand.tmp 10) 0, 0, _, _, _⟩) (v := ?v6) rfl (by kernel_rfl) (by kernel_rfl) (by kernel_rfl) (fun _ _ _ h => h) (Or.inl ⟨by rfl, ?hy6⟩) hHeld ?rest6
  case hy6 => intro w9 hSw; go_simp; (try with_reducible rfl)
  try simp only [Act.put, List.setIfInBounds_toArray, List.set_cons_zero, List.set_cons_succ]
  refine wpAnyH_take (i := 7) (oi := ⟨some 12, Op.load 3 (Operand.tmp 11), 3, _, _, _⟩) (v := ?v7) rfl (by kernel_rfl) (by kernel_rfl) (by kernel_rfl) (fun _ _ _ h => h) (Or.inl ⟨by rfl, ?hy7⟩) hHeld ?rest7
  case hy7 => intro w9 hSw; have nn := HY.out.later hSw; have c0 := nn.1; clear nn; go_simp; (try with_reducible rfl)
  try simp only [Act.put, List.setIfInBounds_toArray, List.set_cons_zero, List.set_cons_succ]
  refine wpAnyH_take (i := 9) (oi := ⟨some 14, Op.move (Operand.tmp 0), 82, _, _, _⟩) (v := ?v9) rfl (by kernel_rfl) (by kernel_rfl) (by kernel_rfl) (fun _ _ _ h => h) (Or.inl ⟨by rfl, ?hy9⟩) hHeld ?rest9
  case hy9 => intro w9 hSw; go_simp; (try with_reducible rfl)
  try simp only [Act.put, List.setIfInBounds_toArray, List.set_cons_zero, List.set_cons_succ]
  refine wpAnyH_take (i := 10) (oi := ⟨some 15, Op.nilCheck (Operand.tmp 14), 0, _, _, _⟩) (v := ?v10) rfl (by kernel_rfl) (by kernel_rfl) (by kernel_rfl) (fun _ _ _ h => h) (Or.inl ⟨by rfl, ?hy10⟩) hHeld ?rest10
  case hy10 => intro w9 hSw; go_simp; (try with_reducible rfl)
  try simp only [Act.put, List.setIfInBounds_toArray, List.set_cons_zero, List.set_cons_succ]
  refine wpAnyH_take (i := 11) (oi := ⟨some 16, Op.fieldAddr 28 (Operand.tmp 15) 1, 0, _, _, _⟩) (v := ?v11) rfl (by kernel_rfl) (by kernel_rfl) (by kernel_rfl) (fun _ _ _ h => h) (Or.inl ⟨by rfl, ?hy11⟩) hHeld ?rest11
  case hy11 => intro w9 hSw; go_simp; (try with_reducible rfl)
  try simp only [Act.put, List.setIfInBounds_toArray, List.set_cons_zero, List.set_cons_succ]
  refine wpAnyH_take (i := 12) (oi := ⟨some 17, Op.load 25 (Operand.tmp 16), 25, _, _, _⟩) (v := ?v12) rfl (by kernel_rfl) (by kernel_rfl) (by kernel_rfl) (fun _ _ _ h => h) (Or.inl ⟨by rfl, ?hy12⟩) hHeld ?rest12
  case hy12 => intro w9 hSw; have nn := HX.out.later hSw; have c0 := nn.2.1; have c1 := nn.2.2.1; have c2 := nn.2.2.2.1; clear nn; go_simp; (try with_reducible rfl)
  try simp only [Act.put, List.setIfInBounds_toArray, List.set_cons_zero, List.set_cons_succ]
  refine wpAnyH_take (i := 13) (oi := ⟨some 18, Op.move (Operand.tmp 1), 82, _, _, _⟩) (v := ?v13) rfl (by kernel_rfl) (by kernel_rfl) (by kernel_rfl) (fun _ _ _ h => h) (Or.inl ⟨by rfl, ?hy13⟩) hHeld ?rest13
  case hy13 => intro w9 hSw; go_simp; (try with_reducible rfl)
  try simp only [Act.put, List.setIfInBounds_toArray, List.set_cons_zero, List.set_cons_succ]
  refine wpAnyH_take (i := 14) (oi := ⟨some 19, Op.nilCheck (Operand.tmp 18), 0, _, _, _⟩) (v := ?v14) rfl (by kernel_rfl) (by kernel_rfl) (by kernel_rfl) (fun _ _ _ h => h) (Or.inl ⟨by rfl, ?hy14⟩) hHeld ?rest14
  case hy14 => intro w9 hSw; go_simp; (try with_reducible rfl)
  try simp only [Act.put, List.setIfInBounds_toArray, List.set_cons_zero, List.set_cons_succ]
  refine wpAnyH_take (i := 15) (oi := ⟨some 20, Op.fieldAddr 28 (Operand.tmp 19) 1, 0, _, _, _⟩) (v := ?v15) rfl (by kernel_rfl) (by kernel_rfl) (by kernel_rfl) (fun _ _ _ h => h) (Or.inl ⟨by rfl, ?hy15⟩) hHeld ?rest15
  case hy15 => intro w9 hSw; go_simp; (try with_reducible rfl)
  try simp only [Act.put, List.setIfInBounds_toArray, List.set_cons_zero, List.set_cons_succ]
  refine wpAnyH_take (i := 16) (oi := ⟨some 21, Op.load 25 (Operand.tmp 20), 25, _, _, _⟩) (v := ?v16) rfl (by kernel_rfl) (by kernel_rfl) (by kernel_rfl) (fun _ _ _ h => h) (Or.inl ⟨by rfl, ?hy16⟩) hHeld ?rest16
  case hy16 => intro w9 hSw; have nn := HY.out.later hSw; have c0 := nn.2.1; have c1 := nn.2.2.1; have c2 := nn.2.2.2.1; clear nn; go_simp; (try with_reducible rfl)
  try simp only [Act.put, List.setIfInBounds_toArray, List.set_cons_zero, List.set_cons_succ]
  refine wpAnyH_take (i := 18) (oi := ⟨some 23, Op.move (Operand.tmp 0), 82, _, _, _⟩) (v := ?v18) rfl (by kernel_rfl) (by kernel_rfl) (by kernel_rfl) (fun _ _ _ h => h) (Or.inl ⟨by rfl, ?hy18⟩) hHeld ?rest18
  case hy18 => intro w9 hSw; go_simp; (try with_reducible rfl)
  try simp only [Act.put, List.setIfInBounds_toArray, List.set_cons_zero, List.set_cons_succ]
  refine wpAnyH_take (i := 19) (oi := ⟨some 24, Op.nilCheck (Operand.tmp 23), 0, _, _, _⟩) (v := ?v19) rfl (by kernel_rfl) (by kernel_rfl) (by kernel_rfl) (fun _ _ _ h => h) (Or.inl ⟨by rfl, ?hy19⟩) hHeld ?rest19
  case hy19 => intro w9 hSw; go_simp; (try with_reducible rfl)
  try simp only [Act.put, List.setIfInBounds_toArray, List.set_cons_zero, List.set_cons_succ]
  refine wpAnyH_take (i := 20) (oi := ⟨some 25, Op.fieldAddr 28 (Operand.tmp 24) 2, 0, _, _, _⟩) (v := ?v20) rfl (by kernel_rfl) (by kernel_rfl) (by kernel_rfl) (fun _ _ _ h => h) (Or.inl ⟨by rfl, ?hy20⟩) hHeld ?rest20
  case hy20 => intro w9 hSw; go_simp; (try with_reducible rfl)
  try simp only [Act.put, List.setIfInBounds_toArray, List.set_cons_zero, List.set_cons_succ]
  refine wpAnyH_take (i := 21) (oi := ⟨some 26, Op.load 9 (Operand.tmp 25), 9, _, _, _⟩) (v := ?v21) rfl (by kernel_rfl) (by kernel_rfl) (by kernel_rfl) (fun _ _ _ h => h) (Or.inl ⟨by rfl, ?hy21⟩) hHeld ?rest21
  case hy21 => intro w9 hSw; have nn := HX.out.later hSw; have c0 := nn.2.2.2.2.1; clear nn; go_simp; (try with_reducible rfl)
  try simp only [Act.put, List.setIfInBounds_toArray, List.set_cons_zero, List.set_cons_succ]
  refine wpAnyH_take (i := 22) (oi := ⟨some 27, Op.move (Operand.tmp 1), 82, _, _, _⟩) (v := ?v22) rfl (by kernel_rfl) (by kernel_rfl) (by kernel_rfl) (fun _ _ _ h => h) (Or.inl ⟨by rfl, ?hy22⟩) hHeld ?rest22
  case hy22 => intro w9 hSw; go_simp; (try with_reducible rfl)
  try simp only [Act.put, List.setIfInBounds_toArray, List.set_cons_zero, List.set_cons_succ]
  refine wpAnyH_take (i := 23) (oi := ⟨some 28, Op.nilCheck (Operand.tmp 27), 0, _, _, _⟩) (v := ?v23) rfl (by kernel_rfl) (by kernel_rfl) (by kernel_rfl) (fun _ _ _ h => h) (Or.inl ⟨by rfl, ?hy23⟩) hHeld ?rest23
  case hy23 => intro w9 hSw; go_simp; (try with_reducible rfl)
  try simp only [Act.put, List.setIfInBounds_toArray, List.set_cons_zero, List.set_cons_succ]
  refine wpAnyH_take (i := 24) (oi := ⟨some 29, Op.fieldAddr 28 (Operand.tmp 28) 2, 0, _, _, _⟩) (v := ?v24) rfl (by kernel_rfl) (by kernel_rfl) (by kernel_rfl) (fun _ _ _ h => h) (Or.inl ⟨by rfl, ?hy24⟩) hHeld ?rest24
  case hy24 => intro w9 hSw; go_simp; (try with_reducible rfl)
  try simp only [Act.put, List.setIfInBounds_toArray, List.set_cons_zero, List.set_cons_succ]
  refine wpAnyH_take (i := 25) (oi := ⟨some 30, Op.load 9 (Operand.tmp 29), 9, _, _, _⟩) (v := ?v25) rfl (by kernel_rfl) (by kernel_rfl) (by kernel_rfl) (fun _ _ _ h => h) (Or.inl ⟨by rfl, ?hy25⟩) hHeld ?rest25
  case hy25 => intro w9 hSw; have nn := HY.out.later hSw; have c0 := nn.2.2.2.2.1; clear nn; go_simp; (try with_reducible rfl)
  try simp only [Act.put, List.setIfInBounds_toArray, List.set_cons_zero, List.set_cons_succ]
  refine wpAnyH_take (i := 27) (oi := ⟨some 32, Op.move (Operand.tmp 0), 82, _, _, _⟩) (v := ?v27) rfl (by kernel_rfl) (by kernel_rfl) (by kernel_rfl) (fun _ _ _ h => h) (Or.inl ⟨by rfl, ?hy27⟩) hHeld ?rest27
  case hy27 => intro w9 hSw; go_simp; (try with_reducible rfl)
  try simp only [Act.put, List.setIfInBounds_toArray, List.set_cons_zero, List.set_cons_succ]
  refine wpAnyH_take (i := 28) (oi := ⟨some 33, Op.nilCheck (Operand.tmp 32), 0, _, _, _⟩) (v := ?v28) rfl (by kernel_rfl) (by kernel_rfl) (by kernel_rfl) (fun _ _ _ h => h) (Or.inl ⟨by rfl, ?hy28⟩) hHeld ?rest28
  case hy28 => intro w9 hSw; go_simp; (try with_reducible rfl)
  try simp only [Act.put, List.setIfInBounds_toArray, List.set_cons_zero, List.set_cons_succ]
  refine wpAnyH_take (i := 29) (oi := ⟨some 34, Op.fieldAddr 28 (Operand.tmp 33) 3, 0, _, _, _⟩) (v := ?v29) rfl (by kernel_rfl) (by kernel_rfl) (by kernel_rfl) (fun _ _ _ h => h) (Or.inl ⟨by rfl, ?hy29⟩) hHeld ?rest29
  case hy29 => intro w9 hSw; go_simp; (try with_reducible rfl)
  try simp only [Act.put, List.setIfInBounds_toArray, List.set_cons_zero, List.set_cons_succ]
  refine wpAnyH_take (i := 30) (oi := ⟨some 35, Op.load 9 (Operand.tmp 34), 9, _, _, _⟩) (v := ?v30) rfl (by kernel_rfl) (by kernel_rfl) (by kernel_rfl) (fun _ _ _ h => h) (Or.inl ⟨by rfl, ?hy30⟩) hHeld ?rest30
  case hy30 => intro w9 hSw; have nn := HX.out.later hSw; have c0 := nn.2.2.2.2.2.1; clear nn; go_simp; (try with_reducible rfl)
  try simp only [Act.put, List.setIfInBounds_toArray, List.set_cons_zero, List.set_cons_succ]
  refine wpAnyH_take (i := 31) (oi := ⟨some 36, Op.move (Operand.tmp 1), 82, _, _, _⟩) (v := ?v31) rfl (by kernel_rfl) (by kernel_rfl) (by kernel_rfl) (fun _ _ _ h => h) (Or.inl ⟨by rfl, ?hy31⟩) hHeld ?rest31
  case hy31 => intro w9 hSw; go_simp; (try with_reducible rfl)
  try simp only [Act.put, List.setIfInBounds_toArray, List.set_cons_zero, List.set_cons_succ]
  refine wpAnyH_take (i := 32) (oi := ⟨some 37, Op.nilCheck (Operand.tmp 36), 0, _, _, _⟩) (v := ?v32) rfl (by kernel_rfl) (by kernel_rfl) (by kernel_rfl) (fun _ _ _ h => h) (Or.inl ⟨by rfl, ?hy32⟩) hHeld ?rest32
  case hy32 => intro w9 hSw; go_simp; (try with_reducible rfl)
  try simp only [Act.put, List.setIfInBounds_toArray, List.set_cons_zero, List.set_cons_succ]
  refine wpAnyH_take (i := 33) (oi := ⟨some 38, Op.fieldAddr 28 (Operand.tmp 37) 3, 0, _, _, _⟩) (v := ?v33) rfl (by kernel_rfl) (by kernel_rfl) (by kernel_rfl) (fun _ _ _ h => h) (Or.inl ⟨by rfl, ?hy33⟩) hHeld ?rest33
  case hy33 => intro w9 hSw; go_simp; (try with_reducible rfl)
  try simp only [Act.put, List.setIfInBounds_toArray, List.set_cons_zero, List.set_cons_succ]
  refine wpAnyH_take (i := 34) (oi := ⟨some 39, Op.load 9 (Operand.tmp 38), 9, _, _, _⟩) (v := ?v34) rfl (by kernel_rfl) (by kernel_rfl) (by kernel_rfl) (fun _ _ _ h => h) (Or.inl ⟨by rfl, ?hy34⟩) hHeld ?rest34
  case hy34 => intro w9 hSw; have nn := HY.out.later hSw; have c0 := nn.2.2.2.2.2.1; clear nn; go_simp; (try with_reducible rfl)
  try simp only [Act.put, List.setIfInBounds_toArray, List.set_cons_zero, List.set_cons_succ]
  refine wpAnyH_take (i := 36) (oi := ⟨some 41, Op.move (Operand.tmp 0), 82, _, _, _⟩) (v := ?v36) rfl (by kernel_rfl) (by kernel_rfl) (by kernel_rfl) (fun _ _ _ h => h) (Or.inl ⟨by rfl, ?hy36⟩) hHeld ?rest36
  case hy36 => intro w9 hSw; go_simp; (try with_reducible rfl)
  try simp only [Act.put, List.setIfInBounds_toArray, List.set_cons_zero, List.set_cons_succ]
  refine wpAnyH_take (i := 37) (oi := ⟨some 42, Op.nilCheck (Operand.tmp 41), 0, _, _, _⟩) (v := ?v37) rfl (by kernel_rfl) (by kernel_rfl) (by kernel_rfl) (fun _ _ _ h => h) (Or.inl ⟨by rfl, ?hy37⟩) hHeld ?rest37
  case hy37 => intro w9 hSw; go_simp; (try with_reducible rfl)
  try simp only [Act.put, List.setIfInBounds_toArray, List.set_cons_zero, List.set_cons_succ]
  refine wpAnyH_take (i := 38) (oi := ⟨some 43, Op.fieldAddr 28 (Operand.tmp 42) 4, 0, _, _, _⟩) (v := ?v38) rfl (by kernel_rfl) (by kernel_rfl) (by kernel_rfl) (fun _ _ _ h => h) (Or.inl ⟨by rfl, ?hy38⟩) hHeld ?rest38
  case hy38 => intro w9 hSw; go_simp; (try with_reducible rfl)
  try simp only [Act.put, List.setIfInBounds_toArray, List.set_cons_zero, List.set_cons_succ]
  refine wpAnyH_take (i := 39) (oi := ⟨some 44, Op.load 26 (Operand.tmp 43), 26, _, _, _⟩) (v := ?v39) rfl (by kernel_rfl) (by kernel_rfl) (by kernel_rfl) (fun _ _ _ h => h) (Or.inl ⟨by rfl, ?hy39⟩) hHeld ?rest39
  case hy39 => intro w9 hSw; have nn := HX.out.later hSw; have c0 := nn.2.2.2.2.2.2; clear nn; go_simp; (try with_reducible rfl)
  try simp only [Act.put, List.setIfInBounds_toArray, List.set_cons_zero, List.set_cons_succ]
  refine wpAnyH_take (i := 40) (oi := ⟨some 45, Op.call { callee := Callee.builtin Builtin.len, args := #[Operand.tmp 44], argTypes := #[26] }, 3, _, _, _⟩) (v := ?v40) rfl (by kernel_rfl) (by kernel_rfl) (by kernel_rfl) (fun _ _ _ h => h) (Or.inl ⟨by rfl, ?hy40⟩) hHeld ?rest40
  case hy40 => intro w9 hSw; go_simp; (try with_reducible rfl)
  try simp only [Act.put, List.setIfInBounds_toArray, List.set_cons_zero, List.set_cons_succ]
  refine wpAnyH_take (i := 41) (oi := ⟨some 46, Op.move (Operand.tmp 1), 82, _, _, _⟩) (v := ?v41) rfl (by kernel_rfl) (by kernel_rfl) (by kernel_rfl) (fun _ _ _ h => h) (Or.inl ⟨by rfl, ?hy41⟩) hHeld ?rest41
  case hy41 => intro w9 hSw; go_simp; (try with_reducible rfl)
  try simp only [Act.put, List.setIfInBounds_toArray, List.set_cons_zero, List.set_cons_succ]
  refine wpAnyH_take (i := 42) (oi := ⟨some 47, Op.nilCheck (Operand.tmp 46), 0, _, _, _⟩) (v := ?v42) rfl (by kernel_rfl) (by kernel_rfl) (by kernel_rfl) (fun _ _ _ h => h) (Or.inl ⟨by rfl, ?hy42⟩) hHeld ?rest42
  case hy42 => intro w9 hSw; go_simp; (try with_reducible rfl)
  try simp only [Act.put, List.setIfInBounds_toArray, List.set_cons_zero, List.set_cons_succ]
  refine wpAnyH_take (i := 43) (oi := ⟨some 48, Op.fieldAddr 28 (Operand.tmp 47) 4, 0, _, _, _⟩) (v := ?v43) rfl (by kernel_rfl) (by kernel_rfl) (by kernel_rfl) (fun _ _ _ h => h) (Or.inl ⟨by rfl, ?hy43⟩) hHeld ?rest43
  case hy43 => intro w9 hSw; go_simp; (try with_reducible rfl)
  try simp only [Act.put, List.setIfInBounds_toArray, List.set_cons_zero, List.set_cons_succ]
  refine wpAnyH_take (i := 44) (oi := ⟨some 49, Op.load 26 (Operand.tmp 48), 26, _, _, _⟩) (v := ?v44) rfl (by kernel_rfl) (by kernel_rfl) (by kernel_rfl) (fun _ _ _ h => h) (Or.inl ⟨by rfl, ?hy44⟩) hHeld ?rest44
  case hy44 => intro w9 hSw; have nn := HY.out.later hSw; have c0 := nn.2.2.2.2.2.2; clear nn; go_simp; (try with_reducible rfl)
  try simp only [Act.put, List.setIfInBounds_toArray, List.set_cons_zero, List.set_cons_succ]
  refine wpAnyH_take (i := 45) (oi := ⟨some 50, Op.call { callee := Callee.builtin Builtin.len, args := #[Operand.tmp 49], argTypes := #[26] }, 3, _, _, _⟩) (v := ?v45) rfl (by kernel_rfl) (by kernel_rfl) (by kernel_rfl) (fun _ _ _ h => h) (Or.inl ⟨by rfl, ?hy45⟩) hHeld ?rest45
  case hy45 => intro w9 hSw; go_simp; (try with_reducible rfl)
  try simp only [Act.put, List.setIfInBounds_toArray, List.set_cons_zero, List.set_cons_succ]
  refine wpAnyH_ready (rs := [8]) (by kernel_rfl) (by simp) ?_
  refine AllReadyH.cons (o := ⟨some 13, Op.call { callee := Callee.value (Operand.func 74), args := #[Operand.tmp 8, Operand.tmp 12], argTypes := #[3, 3] }, 3, _, _, _⟩) rfl (fun K hK => ?_) AllReadyH.nil
  go_simp
  refine (cmpInt_any _ _ _).mono ?_
  rintro e x8 ⟨rfl, hx8⟩
  replace hx8 := hx8.symm
  subst hx8
  go_wp2_with fail
  refine hK.out _ _ hHeld (fun _ => ?_)
  clear hK K
  try simp only [Act.put, List.setIfInBounds_toArray, List.set_cons_zero, List.set_cons_succ]
  refine wpAnyH_ready (rs := [17]) (by kernel_rfl) (by simp) ?_
  refine AllReadyH.cons (o := ⟨some 22, Op.call { callee := Callee.value (Operand.func 75), args := #[Operand.tmp 17, Operand.tmp 21], argTypes := #[25, 25] }, 3, _, _, _⟩) rfl (fun K hK => ?_) AllReadyH.nil
  go_simp
  refine (order_any _ _ _ _ _ _ _).mono ?_
  rintro e x17 ⟨rfl, hN17⟩
  go_wp2_with fail
  have hT17 : Below W.heap.size W x17 := hT.trans (hN17.mono hT.size)
  refine hK.out _ _ (hHeld.trans (hN17.mono hHeld.size)) (fun _ => held_up (S' := fun w' => Below x17.heap.size x17 w') (fun w' h' => (hHeld.trans (hN17.mono hHeld.size)).trans (h'.mono (Nat.le_trans hHeld.size hN17.size))) _ _ _ _ ?_)
  clear hK K hHeld hT
  have hT : Below W.heap.size W x17 := hT17
  have hHeld : Below x17.heap.size x17 x17 := Below.refl _ _
  clear hT17 hN17
  try simp only [Act.put, List.setIfInBounds_toArray, List.set_cons_zero, List.set_cons_succ]
  refine wpAnyH_ready (rs := [26]) (by kernel_rfl) (by simp) ?_
  refine AllReadyH.cons (o := ⟨some 31, Op.call { callee := Callee.value (Operand.func 76), args := #[Operand.tmp 26, Operand.tmp 30], argTypes := #[9, 9] }, 3, _, _, _⟩) rfl (fun K hK => ?_) AllReadyH.nil
  go_simp
  refine (cmpStr_any _ _ _).mono ?_
  rintro e x26 ⟨rfl, hx26⟩
  replace hx26 := hx26.symm
  subst hx26
  go_wp2_with fail
  refine hK.out _ _ hHeld (fun _ => ?_)
  clear hK K
  try simp only [Act.put, List.setIfInBounds_toArray, List.set_cons_zero, List.set_cons_succ]
  refine wpAnyH_ready (rs := [35]) (by kernel_rfl) (by simp) ?_
  refine AllReadyH.cons (o := ⟨some 40, Op.call { callee := Callee.value (Operand.func 76), args := #[Operand.tmp 35, Operand.tmp 39], argTypes := #[9, 9] }, 3, _, _, _⟩) rfl (fun K hK => ?_) AllReadyH.nil
  go_simp
  refine (cmpStr_any _ _ _).mono ?_
  rintro e x35 ⟨rfl, hx35⟩
  replace hx35 := hx35.symm
  subst hx35
  go_wp2_with fail
  refine hK.out _ _ hHeld (fun _ => ?_)
  clear hK K
  try simp only [Act.put, List.setIfInBounds_toArray, List.set_cons_zero, List.set_cons_succ]
  refine wpAnyH_ready (rs := [46]) (by kernel_rfl) (by simp) ?_
  refine AllReadyH.cons (o := ⟨some 51, Op.call { callee := Callee.value (Operand.func 74), args := #[Operand.tmp 45, Operand.tmp 50], argTypes := #[3, 3] }, 3, _, _, _⟩) rfl (fun K hK => ?_) AllReadyH.nil
  go_simp
  refine (cmpInt_any _ _ _).mono ?_
  rintro e x46 ⟨rfl, hx46⟩
  replace hx46 := hx46.symm
  subst hx46
  go_wp2_with fail
  refine hK.out _ _ hHeld (fun _ => ?_)
  clear hK K
  try simp only [Act.put, List.setIfInBounds_toArray, List.set_cons_zero, List.set_cons_succ]
  refine wpAnyH_ready (rs := [47]) (by kernel_rfl) (by simp) ?_
  refine AllReadyH.cons (o := ⟨some 52, Op.buildSlice 85 5 #[(0, Operand.tmp 13), (1, Operand.tmp 22), (2, Operand.tmp 31), (3, Operand.tmp 40), (4, Operand.tmp 51)], 85, _, _, _⟩) rfl (fun K hK => ?_) AllReadyH.nil
  go_simp
  have hT47 := hHeld.alloc hHeld.size (.cells #[.int .i64 (cmpI x.k y.k), .int .i64 (ordZ x.v.k x.v.n x.v.s y.v.k y.v.n y.v.s), .int .i64 (cmpS x.s y.s), .int .i64 (cmpS x.f y.f), .int .i64 (cmpI x.n y.n)] 3)
  refine hK.out _ _ hT47 (fun _ => ?_)
  clear hK K hHeld
  have hHeld := hT47
  clear hT47
  have C48 : Calls Tryz.prog 73 #[.slice (some ⟨x17.heap.size, 0, none⟩) 5 5] (x17.alloc (.cells #[.int .i64 (cmpI x.k y.k), .int .i64 (ordZ x.v.k x.v.n x.v.s y.v.k y.v.n y.v.s), .int .i64 (cmpS x.s y.s), .int .i64 (cmpS x.f y.f), .int .i64 (cmpI x.n y.n)] 3)) fun e w' => e = .returned (.int .i64 (alZ x y)) ∧ w' = (x17.alloc (.cells #[.int .i64 (cmpI x.k y.k), .int .i64 (ordZ x.v.k x.v.n x.v.s y.v.k y.v.n y.v.s), .int .i64 (cmpS x.s y.s), .int .i64 (cmpS x.f y.f), .int .i64 (cmpI x.n y.n)] 3)) := by
    have h := or_any x17.heap.size 5 (five (cmpI x.k y.k) (ordZ x.v.k x.v.n x.v.s y.v.k y.v.n y.v.s) (cmpS x.s y.s) (cmpS x.f y.f) (cmpI x.n y.n)) (x17.alloc (.cells #[.int .i64 (cmpI x.k y.k), .int .i64 (ordZ x.v.k x.v.n x.v.s y.v.k y.v.n y.v.s), .int .i64 (cmpS x.s y.s), .int .i64 (cmpS x.f y.f), .int .i64 (cmpI x.n y.n)] 3)) (by omega) (fun k hk => by match k, hk with | 0, _ => simp [five] | 1, _ => simp [five] | 2, _ => simp [five] | 3, _ => simp [five] | 4, _ => simp [five])
    rw [lex_five] at h
    exact h
  generalize (x17.alloc (.cells #[.int .i64 (cmpI x.k y.k), .int .i64 (ordZ x.v.k x.v.n x.v.s y.v.k y.v.n y.v.s), .int .i64 (cmpS x.s y.s), .int .i64 (cmpS x.f y.f), .int .i64 (cmpI x.n y.n)] 3)) = D at hHeld C48 ⊢
  refine wpAnyH_ready (rs := [48]) (by kernel_rfl) (by simp) ?_
  refine AllReadyH.cons (o := ⟨some 53, Op.call { callee := Callee.value (Operand.func 73), args := #[Operand.tmp 52], argTypes := #[85] }, 3, _, _, _⟩) rfl (fun K hK => ?_) AllReadyH.nil
  go_simp
  refine (C48).mono ?_
  rintro e x48 ⟨rfl, hx48⟩
  replace hx48 := hx48.symm
  subst hx48
  go_wp2_with fail
  refine hK.out _ _ hHeld (fun _ => ?_)
  clear hK K
  try simp only [Act.put, List.setIfInBounds_toArray, List.set_cons_zero, List.set_cons_succ]
  refine wpAnyH_take (i := 49) (oi := ⟨some 4, Op.assign (Operand.tmp 53), 3, _, _, _⟩) (v := ?v49) rfl (by kernel_rfl) (by kernel_rfl) (by kernel_rfl) (fun _ _ _ h => h) (Or.inl ⟨by rfl, ?hy49⟩) hHeld ?rest49
  case hy49 => intro w9 hSw; go_simp; (try with_reducible rfl)
  try simp only [Act.put, List.setIfInBounds_toArray, List.set_cons_zero, List.set_cons_succ]
  refine wpAnyH_done (by kernel_rfl) ?_ _
  refine NoPanic.normal ?_
  go_wp2
  go_ret
  exact ⟨rfl, hT.trans (hHeld.mono hT.size)⟩
end Go.Proofs.YtahlmlbfgijcpaaGreatDoor
namespace Go.Proofs.YtahlmlbfgijcpaaGreatDoor
open Go.RowKit

/-- A node is right, but for its parts. -/
def NodeR (y : X) : Prop := (y.k ≠ 1 → y.v = val0) ∧ (y.k ≠ 2 → y.s = ⟨#[]⟩ ∧ y.f = ⟨#[]⟩) ∧
  ((y.k = 1 ∧ y.n = 0 ∧ rightB y.v.k y.v.n y.v.s = true) ∨ (y.k = 2 ∧ y.n = 0 ∧ nameB y.s = true ∧ nameB y.f = true) ∨ ((y.k = 3 ∨ y.k = 15) ∧ y.n = 1) ∨ (4 ≤ y.k ∧ y.k ≤ 14 ∧ y.n = 2) ∨
    ((y.k = 16 ∨ y.k = 17) ∧ 2 ≤ y.n ∧ ∀ i, i < y.n → (y.c i).k ≠ y.k))
def TreeR : X → Prop
  | .nil => NodeR .nil
  | .mk k v s f a n cap c => NodeR (.mk k v s f a n cap c) ∧ ∀ i, i < n → TreeR (c i)
theorem treeR_eq (x : X) : TreeR x ↔ NodeR x ∧ ∀ i, i < x.n → TreeR (x.c i) := by
  cases x with
  | nil => simp [TreeR, X.n]
  | mk => rfl
theorem mem_catN {α : Type} (f : Nat → List α) (v : α) : ∀ n, v ∈ catN f n ↔ ∃ i, i < n ∧ v ∈ f i
  | 0 => by simp [catN]
  | n + 1 => by
    simp only [catN, List.mem_append, mem_catN f v n]
    constructor
    · rintro (⟨i, hi, h⟩ | h)
      · exact ⟨i, by omega, h⟩
      · exact ⟨n, by omega, h⟩
    · rintro ⟨i, hi, h⟩
      by_cases e : i = n
      · exact .inr (e ▸ h)
      · exact .inl ⟨i, by omega, h⟩
theorem treeR_vis : ∀ (x : X) (d : Int), TreeR x ↔ ∀ v ∈ visX d x, NodeR v.2 := by
  refine X.ind fun x ih d => ?_
  rw [treeR_eq, visX_eq]
  constructor
  · rintro ⟨h1, h2⟩ v hv
    rcases List.mem_cons.1 hv with rfl | hv
    · exact h1
    · obtain ⟨i, hi, h⟩ := (mem_catN _ _ _).1 hv
      exact (ih i hi _).1 (h2 i hi) v h
  · intro h
    exact ⟨h (d, x) List.mem_cons_self, fun i hi => (ih i hi (IntKind.i64.wrap (d + 1))).2 fun v hv => h v (List.mem_cons_of_mem _ ((mem_catN _ _ _).2 ⟨i, hi, hv⟩))⟩
theorem alZ_zero (x y : X) : alZ x y = 0 ↔ x.k = y.k ∧ x.v = y.v ∧ x.s = y.s ∧ x.f = y.f ∧ x.n = y.n := by
  unfold alZ
  rw [orI_zero, orI_zero, orI_zero, orI_zero, ordV_zero]
  constructor
  · rintro ⟨h1, h2, h3, h4, h5⟩
    exact ⟨cmpI_zero h1, h2, cmpS_zero h3, cmpS_zero h4, by have := cmpI_zero h5; omega⟩
  · rintro ⟨h1, h2, h3, h4, h5⟩
    rw [h1, h3, h4, h5]
    exact ⟨cmpI_self _, h2, cmpS_self _, cmpS_self _, cmpI_self _⟩
/-- The node that has just what its kind has. -/
def ownC (y : X) : X := .mk y.k y.v ⟨#[]⟩ ⟨#[]⟩ none 0 0 (fun _ => .nil)
def ownF (y : X) : X := .mk y.k val0 y.s y.f none 0 0 (fun _ => .nil)
def ownP (y : X) : X := .mk y.k val0 ⟨#[]⟩ ⟨#[]⟩ y.a y.n y.cap y.c
theorem nodeR_C (y : X) (h : y.k = 1) : NodeR y ↔ rightB y.v.k y.v.n y.v.s = true ∧ alZ y (ownC y) = 0 := by
  rw [alZ_zero]
  constructor
  · rintro ⟨h1, h2, h3⟩
    have h4 := h2 (by omega)
    rcases h3 with h3 | h3 | h3 | h3 | h3
    · exact ⟨h3.2.2, rfl, rfl, h4.1, h4.2, h3.2.1⟩
    all_goals omega
  · rintro ⟨h1, -, -, h4, h5, h6⟩
    exact ⟨fun e => absurd h e, fun _ => ⟨h4, h5⟩, .inl ⟨h, h6, h1⟩⟩
theorem nodeR_F (y : X) (h : y.k = 2) : NodeR y ↔ (nameB y.s = true ∧ nameB y.f = true) ∧ alZ y (ownF y) = 0 := by
  rw [alZ_zero]
  constructor
  · rintro ⟨h1, h2, h3⟩
    have h4 := h1 (by omega)
    rcases h3 with h3 | h3 | h3 | h3 | h3
    · omega
    · exact ⟨h3.2.2, rfl, h4, rfl, rfl, h3.2.1⟩
    all_goals omega
  · rintro ⟨h1, -, h3, -, -, h6⟩
    exact ⟨fun _ => h3, fun e => absurd h e, .inr (.inl ⟨h, h6, h1⟩)⟩
theorem nodeR_one (y : X) (h : y.k = 3 ∨ y.k = 15) : NodeR y ↔ y.n = 1 ∧ alZ y (ownP y) = 0 := by
  rw [alZ_zero]
  constructor
  · rintro ⟨h1, h2, h3⟩
    have h4 := h1 (by omega)
    have h5 := h2 (by omega)
    rcases h3 with h3 | h3 | h3 | h3 | h3
    · omega
    · omega
    · exact ⟨h3.2, rfl, h4, h5.1, h5.2, rfl⟩
    all_goals omega
  · rintro ⟨h1, -, h3, h4, h5, -⟩
    exact ⟨fun _ => h3, fun _ => ⟨h4, h5⟩, .inr (.inr (.inl ⟨h, h1⟩))⟩
theorem nodeR_two (y : X) (h : 4 ≤ y.k ∧ y.k ≤ 14) : NodeR y ↔ y.n = 2 ∧ alZ y (ownP y) = 0 := by
  rw [alZ_zero]
  constructor
  · rintro ⟨h1, h2, h3⟩
    have h4 := h1 (by omega)
    have h5 := h2 (by omega)
    rcases h3 with h3 | h3 | h3 | h3 | h3
    · omega
    · omega
    · omega
    · exact ⟨h3.2.2, rfl, h4, h5.1, h5.2, rfl⟩
    · omega
  · rintro ⟨h1, -, h3, h4, h5, -⟩
    exact ⟨fun _ => h3, fun _ => ⟨h4, h5⟩, .inr (.inr (.inr (.inl ⟨h.1, h.2, h1⟩)))⟩
theorem nodeR_many (y : X) (h : y.k = 16 ∨ y.k = 17) : NodeR y ↔ (2 ≤ y.n ∧ ∀ i, i < y.n → (y.c i).k ≠ y.k) ∧ alZ y (ownP y) = 0 := by
  rw [alZ_zero]
  constructor
  · rintro ⟨h1, h2, h3⟩
    have h4 := h1 (by omega)
    have h5 := h2 (by omega)
    rcases h3 with h3 | h3 | h3 | h3 | h3
    · omega
    · omega
    · omega
    · omega
    · exact ⟨h3.2, rfl, h4, h5.1, h5.2, rfl⟩
  · rintro ⟨h1, -, h3, h4, h5, -⟩
    exact ⟨fun _ => h3, fun _ => ⟨h4, h5⟩, .inr (.inr (.inr (.inr ⟨h, h1⟩)))⟩
theorem nodeR_none (y : X) (h : ¬ (1 ≤ y.k ∧ y.k ≤ 17)) : ¬ NodeR y := by
  rintro ⟨-, -, h3⟩
  omega
end Go.Proofs.YtahlmlbfgijcpaaGreatDoor
namespace Go.Proofs.YtahlmlbfgijcpaaGreatDoor
open Go.RowKit

theorem Node.at00 {w : World} {B : Nat} {x : X} (h : Node w B 0 x) : w.cell? ⟨B, 0, none⟩ = some (.int .i64 x.k) := h.1
set_option maxRecDepth 100000 in
set_option maxHeartbeats 1000000 in
theorem kind_any (z : X) (Bx b o : Nat) (k : Int) (w : World) (hb : w.cell? ⟨Bx, 0, none⟩ = some (.pointer (some ⟨b, o, none⟩))) (hk : w.cell? ⟨b, o, none⟩ = some (.int .i64 k)) :
    Calls Tryz.prog 53 #[z.val, .pointer (some ⟨Bx, 0, none⟩)] w fun e w' => e = .returned (.bool (z.k == k)) ∧ Below w.heap.size w w' := by
  obtain ⟨A, hA⟩ : ∃ A, w.alloc (.cells z.cells 28) = A := ⟨_, rfl⟩
  have hB : Below w.heap.size w A := by rw [← hA]; exact (Below.refl _ w).alloc (Nat.le_refl _) _
  have n0 : A.cell? ⟨w.heap.size, 0, none⟩ = some (.int .i64 z.k) := by rw [← hA]; exact (node_new w _ z).1
  have c1 := cell_later hb hB
  have c2 := cell_later hk hB
  have HB : Hid (Below w.heap.size w A) := hB
  clear hb hk hB
  go_enter Tryz.func53, Tryz.ntmps53
  go_wp2_with fail
  go_quiet (fail)
  go_wp2
  go_ret
  exact ⟨rfl, bd HB.out _⟩
set_option maxRecDepth 100000 in
set_option maxHeartbeats 1000000 in
theorem kinds_index (y : X) (Bx b o : Nat) (k : Int) (w : World) (hY : IsX w y) (hb : w.cell? ⟨Bx, 0, none⟩ = some (.pointer (some ⟨b, o, none⟩))) (hk : w.cell? ⟨b, o, none⟩ = some (.int .i64 k)) :
    Calls Tryz.prog 72 #[.slice y.a y.n y.cap, .func (.func 53) #[] #[.pointer (some ⟨Bx, 0, none⟩)]] w fun e w' => ∃ r : Int, e = .returned (.int .i64 r) ∧ (0 ≤ r ↔ ∃ i, i < y.n ∧ (y.c i).k = k) ∧ Below w.heap.size w w' := by
  have HY : Hid (IsX w y) := hY
  have hlen := hY.len
  obtain ⟨a, ha⟩ : ∃ a, a = y.a := ⟨_, rfl⟩
  rw [← ha]
  have HA : Hid (a = y.a) := ha
  clear ha
  have Hb : Hid (w.cell? ⟨Bx, 0, none⟩ = some (.pointer (some ⟨b, o, none⟩))) := hb
  have Hk : Hid (w.cell? ⟨b, o, none⟩ = some (.int .i64 k)) := hk
  clear hY hb hk
  go_enter Tryz.func72, Tryz.ntmps72
  go_wp2
  go_loopw [8] (fun u wr => ∃ i : Nat, i ≤ y.n ∧ u = .int .i64 i ∧ Hid (∀ j, j < i → (y.c j).k ≠ k) ∧ Below w.heap.size w wr) (fun u _ => y.n - (intOf u).toNat)
  case atStart => exact ⟨0, Nat.zero_le _, rfl, fun j hj => by omega, Below.refl _ _⟩
  case round =>
    obtain ⟨i, hi, rfl, HI, hB⟩ := hrel
    by_cases hin : i < y.n
    · obtain ⟨b2, o2, ea, hn, hx⟩ := (HY.out.later hB).part hin
      rw [← HA.out] at ea
      subst ea
      obtain ⟨d0, d1, d2, d3, d4, d5, d6⟩ := hn
      have hc := kind_any (y.c i) Bx b o k wr (cell_later Hb.out hB) (cell_later Hk.out hB)
      have HK : Hid (i < y.n) := hin
      clear hx
      by_cases hv : (y.c i).k = k
      · have hv' : ((y.c i).k == k) = true := by simpa using hv
        have HV : Hid ((y.c i).k = k) := hv
        rw [hv'] at hc
        clear hv hv'
        go_wp2_with (go_at_call 53; refine hc.mono ?_; rintro e w2 ⟨rfl, hB2⟩)
        try rw [Exit.noGoto_ret]
        go_ret
        exact ⟨_, rfl, ⟨fun _ => ⟨i, HK.out, HV.out⟩, fun _ => by omega⟩, hB.trans (hB2.mono hB.size)⟩
      · have hv' : ((y.c i).k == k) = false := by simpa using hv
        have HV : Hid (¬ (y.c i).k = k) := hv
        rw [hv'] at hc
        clear hv hv'
        go_wp2_with (go_at_call 53; refine hc.mono ?_; rintro e w2 ⟨rfl, hB2⟩)
        go_roundw
        case rel => exact ⟨i + 1, HK.out, by go_num, fun j hj => by by_cases e : j = i; (· rw [e]; exact HV.out); exact HI.out j (by omega), hB.trans (hB2.mono hB.size)⟩
        case measure => have := HK.out; simp [intOf]; omega
    · obtain rfl : i = y.n := by omega
      go_wp2
      go_ret
      refine ⟨_, rfl, ⟨fun h => by omega, fun ⟨j, hj, e⟩ => absurd e (HI.out j hj)⟩, hB⟩
set_option maxRecDepth 100000 in
set_option maxHeartbeats 1000000 in
theorem kinds_any (y : X) (Bx b o : Nat) (k : Int) (w : World) (hY : IsX w y) (hb : w.cell? ⟨Bx, 0, none⟩ = some (.pointer (some ⟨b, o, none⟩))) (hk : w.cell? ⟨b, o, none⟩ = some (.int .i64 k)) :
    Calls Tryz.prog 52 #[.slice y.a y.n y.cap, .func (.func 53) #[] #[.pointer (some ⟨Bx, 0, none⟩)]] w fun e w' => ∃ r : Bool, e = .returned (.bool r) ∧ (r = true ↔ ∃ i, i < y.n ∧ (y.c i).k = k) ∧ Below w.heap.size w w' := by
  have hc := kinds_index y Bx b o k w hY hb hk
  clear hY hb hk
  go_enter Tryz.func52, Tryz.ntmps52
  go_wp2_with (go_at_call 72; refine hc.mono ?_; rintro e w2 ⟨r, rfl, hr, hB2⟩; have HR : Hid (0 ≤ r ↔ ∃ i, i < y.n ∧ (y.c i).k = k) := hr; clear hr)
  go_ret
  exact ⟨decide (0 ≤ r), rfl, by rw [← HR.out]; simp, hB2⟩
end Go.Proofs.YtahlmlbfgijcpaaGreatDoor
