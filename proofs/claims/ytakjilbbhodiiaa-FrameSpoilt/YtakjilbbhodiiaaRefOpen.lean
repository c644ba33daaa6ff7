/-
  The document's Open.
-/
import Derived.Test.YtakjilbbhodiiaaOpen
namespace Go.Proofs.Ytakjilbbhodiiaa
open Go.RowKit

set_option maxRecDepth 100000 in
set_option maxHeartbeats 1000000 in
theorem refOpen_bad (a : Option Addr) (len cap : Nat) (p N K E : Int) (w : World) (hE : E ≠ 0)
    (c : Calls Try.prog 27 #[.slice a len cap, .int .i64 p] w fun e w' => e = .returned (.tuple #[.int .u64 N, .int .i64 K, .int .i64 E]) ∧ w' = w) :
    Calls Try.prog 16 #[.slice a len cap, .int .i64 p] w fun e w' => e = .returned (.tuple #[.slice none 0 0, .int .i64 K, .int .i64 E]) ∧ w' = w := by
  have C1 : Hid (Calls Try.prog 27 _ _ _) := c
  clear c
  go_enter Try.func16, Try.ntmps16
  go_wp2_with (first | (go_at_call 27; refine C1.out.mono ?_; clear C1; rintro e w1 ⟨rfl, hw1⟩; replace hw1 := hw1.symm; subst hw1))
  go_ret3
  exact ⟨rfl, rfl⟩
set_option maxRecDepth 100000 in
set_option maxHeartbeats 1000000 in
theorem refOpen_large (a : Option Addr) (len cap : Nat) (p N K : Int) (w : World) (hN : 65536 < N)
    (c : Calls Try.prog 27 #[.slice a len cap, .int .i64 p] w fun e w' => e = .returned (.tuple #[.int .u64 N, .int .i64 K, .int .i64 0]) ∧ w' = w) :
    Calls Try.prog 16 #[.slice a len cap, .int .i64 p] w fun e w' => e = .returned (.tuple #[.slice none 0 0, .int .i64 p, .int .i64 4]) ∧ w' = w := by
  have C1 : Hid (Calls Try.prog 27 _ _ _) := c
  clear c
  go_enter Try.func16, Try.ntmps16
  go_wp2_with (first | (go_at_call 27; refine C1.out.mono ?_; clear C1; rintro e w1 ⟨rfl, hw1⟩; replace hw1 := hw1.symm; subst hw1))
  go_ret3
  exact ⟨rfl, rfl⟩
set_option maxRecDepth 100000 in
set_option maxHeartbeats 1000000 in
theorem refOpen_short (a : Option Addr) (len cap : Nat) (p N K : Int) (w : World) (hN0 : 0 ≤ N) (hN : N ≤ 65536) (hK : K ≤ len) (hs : (len : Int) < K + N + 4)
    (c : Calls Try.prog 27 #[.slice a len cap, .int .i64 p] w fun e w' => e = .returned (.tuple #[.int .u64 N, .int .i64 K, .int .i64 0]) ∧ w' = w) :
    Calls Try.prog 16 #[.slice a len cap, .int .i64 p] w fun e w' => e = .returned (.tuple #[.slice none 0 0, .int .i64 (len : Int), .int .i64 3]) ∧ w' = w := by
  have C1 : Hid (Calls Try.prog 27 _ _ _) := c
  clear c
  have hd : (len : Int) - K < N + 4 := by omega
  go_enter Try.func16, Try.ntmps16
  go_wp2_with (first | (go_at_call 27; refine C1.out.mono ?_; clear C1; rintro e w1 ⟨rfl, hw1⟩; replace hw1 := hw1.symm; subst hw1))
  go_ret3
  exact ⟨rfl, rfl⟩
/-- 'append([]byte{}, b...)'. -/
theorem copied {w : World} {a : Option Addr} {len cap : Nat} {zs : List Int} (hz : IsBytes w a len cap zs) (hb : len ≤ 140737488351232) :
    ∃ (v : Value) (w' : World), (Builtin.append_ #[22, 22] 22 #[.slice (some ⟨w.heap.size, 0, none⟩) 0 0, .slice a len cap]).run Try.prog (w.alloc (.cells #[] 5)) = .ok v w' ∧
      w'.ownsRow w.heap.size 5 1 v len (cellsOf zs) ∧ Below w.heap.size w w' := by
  have hB0 : Below w.heap.size w (w.alloc (.cells #[] 5)) := (Below.refl _ _).alloc (Nat.le_refl _) _
  have hown0 : (w.alloc (.cells #[] 5)).ownsRow w.heap.size 5 1 (.slice (some ⟨w.heap.size, 0, none⟩) 0 0) 0 (cellsOf []) :=
    ⟨rfl, .inr ⟨w.heap.size, 0, #[], rfl, Nat.le_refl _, heap_alloc_new w _, Nat.le_refl _, Nat.zero_le _, rfl, rfl⟩⟩
  obtain ⟨v4, w4, r4, o4, g4⟩ := append_in hown0 (hz.later hB0) (by simp) (by omega)
  simp only [Nat.zero_add, List.nil_append] at o4
  exact ⟨v4, w4, r4, o4, hB0.grown g4 (by simp) (by intro k hk; simp [Value.ownBlock] at hk; omega)⟩
set_option maxRecDepth 100000 in
set_option maxHeartbeats 4000000 in
/-- The frame made anew is another. -/
theorem refOpen_other (b off len cap q f n t : Nat) (zs X Y : List Int) (w : World) (ht : f + n = t) (hX : (zs.drop f).take n = X) (hY : (zs.drop q).take (t + 4 - q) = Y) (hI : IsBytes w (some ⟨b, off, none⟩) len cap zs) (hqf : q ≤ f) (hn : n ≤ 65536) (hs : f + n + 4 ≤ len) (hl : len ≤ 140737488351232) (hd : decide (wrapL X = Y) = false)
    (c : Calls Try.prog 27 #[.slice (some ⟨b, off, none⟩) len cap, .int .i64 (q : Int)] w fun e w' => e = .returned (.tuple #[.int .u64 (n : Int), .int .i64 (f : Int), .int .i64 0]) ∧ w' = w) :
    Calls Try.prog 16 #[.slice (some ⟨b, off, none⟩) len cap, .int .i64 (q : Int)] w fun e w' => e = .returned (.tuple #[.slice none 0 0, .int .i64 (q : Int), .int .i64 8]) ∧ Below w.heap.size w w' := by
  have hcap := hI.2.1
  have hm := hI.2.2.1
  have hft : (f : Int) + (n : Int) = (t : Int) := by omega
  have htf : t - f = n := by omega
  have hne : ¬ cap = f := by omega
  have i1 := isBytes_part hI f t (by omega) (by omega)
  have i2 := isBytes_part hI q (t + 4) (by omega) (by omega)
  rw [htf, hX] at i1
  rw [hY] at i2
  have hst := str_same (wrapL X) Y (wrapL_bd X (mem_bd i1.2.2.2.2.1)) (mem_bd i2.2.2.2.2.1)
  rw [hd] at hst
  have I1 : Hid (IsBytes w (some ⟨b, off + f, none⟩) n (cap - f) X) := i1
  have I2 : Hid (IsBytes w (some ⟨b, off + q, none⟩) (t + 4 - q) (cap - q) Y) := i2
  have C1 : Hid (Calls Try.prog 27 _ _ _) := c
  have c2 := refWrap_ok _ _ _ _ _ i1 hn
  have C2 : Hid (Calls Try.prog 9 _ _ _) := c2
  clear c c2 i1 i2 hI hX hY
  go_enter Try.func16, Try.ntmps16
  go_wp2_with (first
    | (go_at_call 27; refine C1.out.mono ?_; clear C1; rintro e w1 ⟨rfl, hw1⟩; replace hw1 := hw1.symm; subst hw1)
    | (go_at_call 9; refine C2.out.mono ?_; clear C2; rintro e w2 ⟨v2, rfl, ho2, hB2⟩))
  refine wp_region_noPanic ?_
  refine wp_region_held_drew (S := fun w' => Below w2.heap.size w2 w') (by kernel_rfl) ((Below.refl _ _).drew) (fun hHeld => ?_)
  have hT : Below w2.heap.size w2 w2.drew := hHeld
  refine wpAnyH_take (i := 0) (oi := ⟨some 48, Op.move (Operand.tmp 11), 22, _, _, _⟩) (v := ?v0a) rfl (by kernel_rfl) (by kernel_rfl) (by kernel_rfl) (fun _ _ _ h => h) (Or.inl ⟨by rfl, ?hy0a⟩) hHeld ?rest0a
  case hy0a => intro w9 hSw; go_simp; (try with_reducible rfl)
  try simp only [Act.put, List.setIfInBounds_toArray, List.set_cons_zero, List.set_cons_succ]
  refine wpAnyH_take (i := 1) (oi := ⟨some 49, Op.convert 22 9 (Operand.tmp 48), 9, _, _, _⟩) (v := ?v1a) rfl (by kernel_rfl) (by kernel_rfl) (by kernel_rfl) (fun _ _ _ h => h) (Or.inl ⟨by rfl, ?hy1a⟩) hHeld ?rest1a
  case hy1a => intro w9 hSw; have cv := conv_own (own_below ho2 hSw); go_simp; (try with_reducible rfl)
  try simp only [Act.put, List.setIfInBounds_toArray, List.set_cons_zero, List.set_cons_succ]
  refine wpAnyH_take (i := 2) (oi := ⟨some 50, Op.move (Operand.tmp 0), 22, _, _, _⟩) (v := ?v2a) rfl (by kernel_rfl) (by kernel_rfl) (by kernel_rfl) (fun _ _ _ h => h) (Or.inl ⟨by rfl, ?hy2a⟩) hHeld ?rest2a
  case hy2a => intro w9 hSw; go_simp; (try with_reducible rfl)
  try simp only [Act.put, List.setIfInBounds_toArray, List.set_cons_zero, List.set_cons_succ]
  refine wpAnyH_take (i := 3) (oi := ⟨some 51, Op.move (Operand.tmp 1), 3, _, _, _⟩) (v := ?v3a) rfl (by kernel_rfl) (by kernel_rfl) (by kernel_rfl) (fun _ _ _ h => h) (Or.inl ⟨by rfl, ?hy3a⟩) hHeld ?rest3a
  case hy3a => intro w9 hSw; go_simp; (try with_reducible rfl)
  try simp only [Act.put, List.setIfInBounds_toArray, List.set_cons_zero, List.set_cons_succ]
  refine wpAnyH_take (i := 4) (oi := ⟨some 52, Op.move (Operand.tmp 8), 3, _, _, _⟩) (v := ?v4a) rfl (by kernel_rfl) (by kernel_rfl) (by kernel_rfl) (fun _ _ _ h => h) (Or.inl ⟨by rfl, ?hy4a⟩) hHeld ?rest4a
  case hy4a => intro w9 hSw; go_simp; (try with_reducible rfl)
  try simp only [Act.put, List.setIfInBounds_toArray, List.set_cons_zero, List.set_cons_succ]
  refine wpAnyH_take (i := 5) (oi := ⟨some 53, Op.move (Operand.tmp 10), 3, _, _, _⟩) (v := ?v5a) rfl (by kernel_rfl) (by kernel_rfl) (by kernel_rfl) (fun _ _ _ h => h) (Or.inl ⟨by rfl, ?hy5a⟩) hHeld ?rest5a
  case hy5a => intro w9 hSw; go_simp; (try with_reducible rfl)
  try simp only [Act.put, List.setIfInBounds_toArray, List.set_cons_zero, List.set_cons_succ]
  refine wpAnyH_take (i := 6) (oi := ⟨some 54, Op.binOp BinOp.add 3 (Operand.tmp 52) (Operand.tmp 53) 3, 3, _, _, _⟩) (v := ?v6a) rfl (by kernel_rfl) (by kernel_rfl) (by kernel_rfl) (fun _ _ _ h => h) (Or.inl ⟨by rfl, ?hy6a⟩) hHeld ?rest6a
  case hy6a => intro w9 hSw; go_simp; (try with_reducible rfl)
  try simp only [Act.put, List.setIfInBounds_toArray, List.set_cons_zero, List.set_cons_succ]
  refine wpAnyH_take (i := 7) (oi := ⟨some 55, Op.binOp BinOp.add 3 (Operand.tmp 54) (Operand.const (Value.int IntKind.i64 4)) 3, 3, _, _, _⟩) (v := ?v7a) rfl (by kernel_rfl) (by kernel_rfl) (by kernel_rfl) (fun _ _ _ h => h) (Or.inl ⟨by rfl, ?hy7a⟩) hHeld ?rest7a
  case hy7a => intro w9 hSw; go_simp; (try with_reducible rfl)
  try simp only [Act.put, List.setIfInBounds_toArray, List.set_cons_zero, List.set_cons_succ]
  refine wpAnyH_take (i := 8) (oi := ⟨some 56, Op.slice 22 (Operand.tmp 50) (some (Operand.tmp 51)) (some (Operand.tmp 55)) none, 22, _, _, _⟩) (v := .slice (some ⟨b, off + q, none⟩) (t + 4 - q) (cap - q)) rfl (by kernel_rfl) (by kernel_rfl) (by kernel_rfl) (fun _ _ _ h => h) (Or.inl ⟨by rfl, ?hy8a⟩) hHeld ?rest8a
  case hy8a => intro w9 hSw; go_simp; rw [show IntKind.i64.wrap (t : Int) = (t : Int) by rw [IntKind.wrap_i64]; omega, show IntKind.i64.wrap ((t : Int) + 4) = ((t + 4 : Nat) : Int) by rw [IntKind.wrap_i64]; omega, Int.toNat_natCast, if_pos (by omega), if_pos (by omega), if_neg (by omega)]
  try simp only [Act.put, List.setIfInBounds_toArray, List.set_cons_zero, List.set_cons_succ]
  refine wpAnyH_take (i := 9) (oi := ⟨some 57, Op.convert 22 9 (Operand.tmp 56), 9, _, _, _⟩) (v := ?v9a) rfl (by kernel_rfl) (by kernel_rfl) (by kernel_rfl) (fun _ _ _ h => h) (Or.inl ⟨by rfl, ?hy9a⟩) hHeld ?rest9a
  case hy9a => intro w9 hSw; have cv := conv_in (I2.out.later (hB2.trans (hSw.mono hB2.size))); go_simp; (try with_reducible rfl)
  try simp only [Act.put, List.setIfInBounds_toArray, List.set_cons_zero, List.set_cons_succ]
  refine wpAnyH_take (i := 10) (oi := ⟨some 58, Op.binOp BinOp.neq 9 (Operand.tmp 49) (Operand.tmp 57) 9, 4, _, _, _⟩) (v := ?v10a) rfl (by kernel_rfl) (by kernel_rfl) (by kernel_rfl) (fun _ _ _ h => h) (Or.inl ⟨by rfl, ?hy10a⟩) hHeld ?rest10a
  case hy10a => intro w9 hSw; go_simp; (try with_reducible rfl)
  try simp only [Act.put, List.setIfInBounds_toArray, List.set_cons_zero, List.set_cons_succ]
  refine wpAnyH_done (by kernel_rfl) ?_ _
  refine NoPanic.normal ?_
  go_wp2
  go_ret3
  exact ⟨rfl, hB2.trans (hT.mono hB2.size)⟩
set_option maxRecDepth 100000 in
set_option maxHeartbeats 4000000 in
/-- The frame made anew is the same. -/
theorem refOpen_same (b off len cap q f n t : Nat) (zs X Y : List Int) (w : World) (ht : f + n = t) (hX : (zs.drop f).take n = X) (hY : (zs.drop q).take (t + 4 - q) = Y) (hI : IsBytes w (some ⟨b, off, none⟩) len cap zs) (hqf : q ≤ f) (hn : n ≤ 65536) (hs : f + n + 4 ≤ len) (hl : len ≤ 140737488351232) (hd : decide (wrapL X = Y) = true)
    (c : Calls Try.prog 27 #[.slice (some ⟨b, off, none⟩) len cap, .int .i64 (q : Int)] w fun e w' => e = .returned (.tuple #[.int .u64 (n : Int), .int .i64 (f : Int), .int .i64 0]) ∧ w' = w) :
    Calls Try.prog 16 #[.slice (some ⟨b, off, none⟩) len cap, .int .i64 (q : Int)] w fun e w' => ∃ v, e = .returned (.tuple #[v, .int .i64 ((t : Int) + 4), .int .i64 0]) ∧ w'.ownsRow w.heap.size 5 1 v n (cellsOf X) ∧ Below w.heap.size w w' := by
  have hcap := hI.2.1
  have hm := hI.2.2.1
  have hft : (f : Int) + (n : Int) = (t : Int) := by omega
  have htf : t - f = n := by omega
  have hne : ¬ cap = f := by omega
  have i1 := isBytes_part hI f t (by omega) (by omega)
  have i2 := isBytes_part hI q (t + 4) (by omega) (by omega)
  rw [htf, hX] at i1
  rw [hY] at i2
  have hst := str_same (wrapL X) Y (wrapL_bd X (mem_bd i1.2.2.2.2.1)) (mem_bd i2.2.2.2.2.1)
  rw [hd] at hst
  have I1 : Hid (IsBytes w (some ⟨b, off + f, none⟩) n (cap - f) X) := i1
  have I2 : Hid (IsBytes w (some ⟨b, off + q, none⟩) (t + 4 - q) (cap - q) Y) := i2
  have C1 : Hid (Calls Try.prog 27 _ _ _) := c
  have c2 := refWrap_ok _ _ _ _ _ i1 hn
  have C2 : Hid (Calls Try.prog 9 _ _ _) := c2
  clear c c2 i1 i2 hI hX hY
  go_enter Try.func16, Try.ntmps16
  go_wp2_with (first
    | (go_at_call 27; refine C1.out.mono ?_; clear C1; rintro e w1 ⟨rfl, hw1⟩; replace hw1 := hw1.symm; subst hw1)
    | (go_at_call 9; refine C2.out.mono ?_; clear C2; rintro e w2 ⟨v2, rfl, ho2, hB2⟩))
  refine wp_region_noPanic ?_
  refine wp_region_held_drew (S := fun w' => Below w2.heap.size w2 w') (by kernel_rfl) ((Below.refl _ _).drew) (fun hHeld => ?_)
  have hT : Below w2.heap.size w2 w2.drew := hHeld
  refine wpAnyH_take (i := 0) (oi := ⟨some 48, Op.move (Operand.tmp 11), 22, _, _, _⟩) (v := ?v0b) rfl (by kernel_rfl) (by kernel_rfl) (by kernel_rfl) (fun _ _ _ h => h) (Or.inl ⟨by rfl, ?hy0b⟩) hHeld ?rest0b
  case hy0b => intro w9 hSw; go_simp; (try with_reducible rfl)
  try simp only [Act.put, List.setIfInBounds_toArray, List.set_cons_zero, List.set_cons_succ]
  refine wpAnyH_take (i := 1) (oi := ⟨some 49, Op.convert 22 9 (Operand.tmp 48), 9, _, _, _⟩) (v := ?v1b) rfl (by kernel_rfl) (by kernel_rfl) (by kernel_rfl) (fun _ _ _ h => h) (Or.inl ⟨by rfl, ?hy1b⟩) hHeld ?rest1b
  case hy1b => intro w9 hSw; have cv := conv_own (own_below ho2 hSw); go_simp; (try with_reducible rfl)
  try simp only [Act.put, List.setIfInBounds_toArray, List.set_cons_zero, List.set_cons_succ]
  refine wpAnyH_take (i := 2) (oi := ⟨some 50, Op.move (Operand.tmp 0), 22, _, _, _⟩) (v := ?v2b) rfl (by kernel_rfl) (by kernel_rfl) (by kernel_rfl) (fun _ _ _ h => h) (Or.inl ⟨by rfl, ?hy2b⟩) hHeld ?rest2b
  case hy2b => intro w9 hSw; go_simp; (try with_reducible rfl)
  try simp only [Act.put, List.setIfInBounds_toArray, List.set_cons_zero, List.set_cons_succ]
  refine wpAnyH_take (i := 3) (oi := ⟨some 51, Op.move (Operand.tmp 1), 3, _, _, _⟩) (v := ?v3b) rfl (by kernel_rfl) (by kernel_rfl) (by kernel_rfl) (fun _ _ _ h => h) (Or.inl ⟨by rfl, ?hy3b⟩) hHeld ?rest3b
  case hy3b => intro w9 hSw; go_simp; (try with_reducible rfl)
  try simp only [Act.put, List.setIfInBounds_toArray, List.set_cons_zero, List.set_cons_succ]
  refine wpAnyH_take (i := 4) (oi := ⟨some 52, Op.move (Operand.tmp 8), 3, _, _, _⟩) (v := ?v4b) rfl (by kernel_rfl) (by kernel_rfl) (by kernel_rfl) (fun _ _ _ h => h) (Or.inl ⟨by rfl, ?hy4b⟩) hHeld ?rest4b
  case hy4b => intro w9 hSw; go_simp; (try with_reducible rfl)
  try simp only [Act.put, List.setIfInBounds_toArray, List.set_cons_zero, List.set_cons_succ]
  refine wpAnyH_take (i := 5) (oi := ⟨some 53, Op.move (Operand.tmp 10), 3, _, _, _⟩) (v := ?v5b) rfl (by kernel_rfl) (by kernel_rfl) (by kernel_rfl) (fun _ _ _ h => h) (Or.inl ⟨by rfl, ?hy5b⟩) hHeld ?rest5b
  case hy5b => intro w9 hSw; go_simp; (try with_reducible rfl)
  try simp only [Act.put, List.setIfInBounds_toArray, List.set_cons_zero, List.set_cons_succ]
  refine wpAnyH_take (i := 6) (oi := ⟨some 54, Op.binOp BinOp.add 3 (Operand.tmp 52) (Operand.tmp 53) 3, 3, _, _, _⟩) (v := ?v6b) rfl (by kernel_rfl) (by kernel_rfl) (by kernel_rfl) (fun _ _ _ h => h) (Or.inl ⟨by rfl, ?hy6b⟩) hHeld ?rest6b
  case hy6b => intro w9 hSw; go_simp; (try with_reducible rfl)
  try simp only [Act.put, List.setIfInBounds_toArray, List.set_cons_zero, List.set_cons_succ]
  refine wpAnyH_take (i := 7) (oi := ⟨some 55, Op.binOp BinOp.add 3 (Operand.tmp 54) (Operand.const (Value.int IntKind.i64 4)) 3, 3, _, _, _⟩) (v := ?v7b) rfl (by kernel_rfl) (by kernel_rfl) (by kernel_rfl) (fun _ _ _ h => h) (Or.inl ⟨by rfl, ?hy7b⟩) hHeld ?rest7b
  case hy7b => intro w9 hSw; go_simp; (try with_reducible rfl)
  try simp only [Act.put, List.setIfInBounds_toArray, List.set_cons_zero, List.set_cons_succ]
  refine wpAnyH_take (i := 8) (oi := ⟨some 56, Op.slice 22 (Operand.tmp 50) (some (Operand.tmp 51)) (some (Operand.tmp 55)) none, 22, _, _, _⟩) (v := .slice (some ⟨b, off + q, none⟩) (t + 4 - q) (cap - q)) rfl (by kernel_rfl) (by kernel_rfl) (by kernel_rfl) (fun _ _ _ h => h) (Or.inl ⟨by rfl, ?hy8b⟩) hHeld ?rest8b
  case hy8b => intro w9 hSw; go_simp; rw [show IntKind.i64.wrap (t : Int) = (t : Int) by rw [IntKind.wrap_i64]; omega, show IntKind.i64.wrap ((t : Int) + 4) = ((t + 4 : Nat) : Int) by rw [IntKind.wrap_i64]; omega, Int.toNat_natCast, if_pos (by omega), if_pos (by omega), if_neg (by omega)]
  try simp only [Act.put, List.setIfInBounds_toArray, List.set_cons_zero, List.set_cons_succ]
  refine wpAnyH_take (i := 9) (oi := ⟨some 57, Op.convert 22 9 (Operand.tmp 56), 9, _, _, _⟩) (v := ?v9b) rfl (by kernel_rfl) (by kernel_rfl) (by kernel_rfl) (fun _ _ _ h => h) (Or.inl ⟨by rfl, ?hy9b⟩) hHeld ?rest9b
  case hy9b => intro w9 hSw; have cv := conv_in (I2.out.later (hB2.trans (hSw.mono hB2.size))); go_simp; (try with_reducible rfl)
  try simp only [Act.put, List.setIfInBounds_toArray, List.set_cons_zero, List.set_cons_succ]
  refine wpAnyH_take (i := 10) (oi := ⟨some 58, Op.binOp BinOp.neq 9 (Operand.tmp 49) (Operand.tmp 57) 9, 4, _, _, _⟩) (v := ?v10b) rfl (by kernel_rfl) (by kernel_rfl) (by kernel_rfl) (fun _ _ _ h => h) (Or.inl ⟨by rfl, ?hy10b⟩) hHeld ?rest10b
  case hy10b => intro w9 hSw; go_simp; (try with_reducible rfl)
  try simp only [Act.put, List.setIfInBounds_toArray, List.set_cons_zero, List.set_cons_succ]
  refine wpAnyH_done (by kernel_rfl) ?_ _
  refine NoPanic.normal ?_
  have k3 := hB2.trans (hT.mono hB2.size)
  obtain ⟨v4, w4, r4, o4, hB4⟩ := copied (I1.out.later k3) (by omega)
  go_wp2_with (first | (at_builtin; refine wpList_append_run rfl (.tmp 60) (.tmp 66) 22 rfl _ _ _ rfl rfl r4 ?_))
  go_ret3
  exact ⟨v4, rfl, own_le o4 k3.size, k3.trans (hB4.mono k3.size)⟩
/-- A place at which a number stands: the number's bytes. -/
theorem get_enc (zs : List Int) (q : Nat) (hz : ∀ c ∈ zs, 0 ≤ c ∧ c ≤ 255) (h : (getZ zs q).2.2 = 0) :
    (zs.drop q).take ((getZ zs q).2.1.toNat - q) = enc 10 (getZ zs q).1.toNat := by
  unfold getZ at h ⊢
  split at h
  · simp at h
  · rename_i hp
    rw [if_neg hp]
    dsimp only at h ⊢
    rw [Int.toNat_natCast] at h ⊢
    obtain ⟨m, e1, _, e3, _⟩ := enc_dec (zs.drop q) 0 0 (by omega) (fun c hc => hz c (List.mem_of_mem_drop hc)) (by exact_mod_cast h)
    rw [show ((q : Int) + ((dec 0 0 (zs.drop q)).2.1 : Int)).toNat - q = (dec 0 0 (zs.drop q)).2.1 - 0 by omega, e3, e1]
    simp
/-- The frame made anew is the same just where the sum that is stored fits. -/
theorem wrap_same (zs : List Int) (q f n : Nat) (he : (zs.drop q).take (f - q) = enc 10 n) (hqf : q ≤ f) (hl : f + n + 4 ≤ zs.length) :
    (wrapL ((zs.drop f).take n) = (zs.drop q).take (f + n + 4 - q)) ↔ le4 (moreN 0 ((zs.drop q).take (f + n - q))) = (zs.drop (f + n)).take 4 := by
  have hn : ((zs.drop f).take n).length = n := by simp; omega
  have e1 : (zs.drop q).take (f + n - q) = enc 10 n ++ (zs.drop f).take n := by
    rw [show f + n - q = (f - q) + n by omega, List.take_add, he, List.drop_drop, show q + (f - q) = f by omega]
  have e2 : (zs.drop q).take (f + n + 4 - q) = enc 10 n ++ (zs.drop f).take n ++ (zs.drop (f + n)).take 4 := by
    rw [show f + n + 4 - q = (f + n - q) + 4 by omega, List.take_add, e1, List.drop_drop, show q + (f + n - q) = f + n by omega]
  unfold wrapL
  rw [hn, e2, e1]
  exact List.append_right_inj _
/-- The document's Open, at any place of any bytes. -/
theorem refOpen_any (a : Option Addr) (len cap : Nat) (zs : List Int) (p : Int) (w : World) (hI : IsBytes w a len cap zs) (hl : len ≤ 140737488351232) :
    Calls Try.prog 16 #[.slice a len cap, .int .i64 p] w fun e w' => ∃ v, e = .returned (.tuple #[v, .int .i64 (openZ zs p).2.1, .int .i64 (openZ zs p).2.2]) ∧
      w'.ownsRow w.heap.size 5 1 v (openZ zs p).1.length (cellsOf (openZ zs p).1) ∧ Below w.heap.size w w' := by
  have c := refGet_any a len cap zs p w hI
  have g := getZ_bd zs p hI.2.2.2.2.1
  have gp : (getZ zs p).2.2 = 0 → 0 ≤ p ∧ p ≤ (getZ zs p).2.1 := fun h => by
    unfold getZ at h ⊢
    split at h
    · simp at h
    · rename_i hp
      rw [if_neg hp]
      dsimp only
      omega
  have ge : ∀ q : Nat, p = q → (getZ zs p).2.2 = 0 → (zs.drop q).take ((getZ zs p).2.1.toNat - q) = enc 10 (getZ zs p).1.toNat := by
    rintro q rfl h
    exact get_enc zs q (mem_bd hI.2.2.2.2.1) h
  have hzl := hI.1
  unfold openZ
  generalize (getZ zs p).1 = N at *
  generalize (getZ zs p).2.1 = K at *
  generalize (getZ zs p).2.2 = E at *
  have hnil : ∀ w' : World, w'.ownsRow w.heap.size 5 1 (.slice none 0 0) ([] : List Int).length (cellsOf []) := fun w' => World.ownsRow_nil _ _ _ _
  split
  · rename_i hE
    refine (refOpen_bad a len cap p N K E w hE c).mono ?_
    rintro e w' ⟨rfl, rfl⟩
    exact ⟨_, rfl, hnil _, Below.refl _ _⟩
  · rename_i hE
    obtain rfl : E = 0 := by omega
    split
    · rename_i hN
      refine (refOpen_large a len cap p N K w hN c).mono ?_
      rintro e w' ⟨rfl, rfl⟩
      exact ⟨_, rfl, hnil _, Below.refl _ _⟩
    · rename_i hN
      split
      · rename_i hs
        refine (refOpen_short a len cap p N K w g.1 (by omega) (by omega) (by omega) c).mono ?_
        rintro e w' ⟨rfl, rfl⟩
        exact ⟨_, by rw [hzl], hnil _, Below.refl _ _⟩
      · rename_i hs
        obtain ⟨q, rfl⟩ := Int.eq_ofNat_of_zero_le (gp rfl).1
        have hge := ge q rfl rfl
        obtain ⟨f, rfl⟩ := Int.eq_ofNat_of_zero_le (a := K) (by omega)
        obtain ⟨n, rfl⟩ := Int.eq_ofNat_of_zero_le (a := N) (by omega)
        have hqf := (gp rfl).2
        obtain ⟨b, off, rfl, _⟩ := hI.2.2.2.2.2 (by omega)
        simp only [Int.toNat_natCast] at hge ⊢
        have hws := wrap_same zs q f n hge (by omega) (by omega)
        rw [show f - q + n = f + n - q by omega]
        split
        · rename_i hd
          refine (refOpen_same b off len cap q f n (f + n) zs _ _ w rfl rfl rfl hI (by omega) (by omega) (by omega) hl (by simpa using hws.2 hd) c).mono ?_
          rintro e w' ⟨v, rfl, ho, hB⟩
          exact ⟨v, rfl, by rw [show ((zs.drop f).take n).length = n by simp; omega]; exact ho, hB⟩
        · rename_i hd
          refine (refOpen_other b off len cap q f n (f + n) zs _ _ w rfl rfl rfl hI (by omega) (by omega) (by omega) hl (by simpa using fun h => hd (hws.1 h)) c).mono ?_
          rintro e w' ⟨rfl, hB⟩
          exact ⟨_, rfl, hnil _, hB⟩
end Go.Proofs.Ytakjilbbhodiiaa
