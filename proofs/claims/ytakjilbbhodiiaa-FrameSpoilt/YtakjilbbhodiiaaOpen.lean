/-
  frame.Open.
-/
import Derived.Test.YtakjilbbhodiiaaFrameSumsWalk
namespace Go.Proofs.Ytakjilbbhodiiaa
open Go.RowKit

/-- P3.2's answer: the bytes, the place, the error. -/
def openZ (zs : List Int) (p : Int) : List Int × Int × Int :=
  if (getZ zs p).2.2 ≠ 0 then ([], (getZ zs p).2.1, (getZ zs p).2.2)
  else if 65536 < (getZ zs p).1 then ([], p, 4)
  else if (zs.length : Int) < (getZ zs p).2.1 + (getZ zs p).1 + 4 then ([], (zs.length : Int), 3)
  else if le4 (moreN 0 ((zs.drop p.toNat).take ((getZ zs p).2.1.toNat - p.toNat + (getZ zs p).1.toNat))) = (zs.drop ((getZ zs p).2.1.toNat + (getZ zs p).1.toNat)).take 4 then
    ((zs.drop (getZ zs p).2.1.toNat).take (getZ zs p).1.toNat, (getZ zs p).2.1 + (getZ zs p).1 + 4, 0)
  else ([], p, 8)

/-- A part of bytes. -/
theorem isBytes_part {w : World} {b off len cap : Nat} {zs : List Int} (h : IsBytes w (some ⟨b, off, none⟩) len cap zs) (i j : Nat) (hij : i ≤ j) (hj : j ≤ len) :
    IsBytes w (some ⟨b, off + i, none⟩) (j - i) (cap - i) ((zs.drop i).take (j - i)) := by
  obtain ⟨h1, h2, h3, h4, h5, h6⟩ := h
  refine ⟨by simp; omega, by omega, by omega, (by intro h; cases h), fun k => ?_, fun h0 => ⟨b, off + i, rfl, fun k hk => ?_⟩⟩
  · rw [List.getElem?_take, List.getElem?_drop]
    split
    · exact h5 _
    · simp
  · obtain ⟨b', off', e, hc⟩ := h6 (by omega)
    cases e
    have := hc (i + k) (by omega)
    rw [← Nat.add_assoc] at this
    rw [this, List.getElem?_take, List.getElem?_drop, if_pos hk]

set_option maxRecDepth 100000 in
set_option maxHeartbeats 1000000 in
/-- vint.Get's error. -/
theorem open_bad (a : Option Addr) (len cap : Nat) (p N K E : Int) (w : World) (hE : E ≠ 0)
    (c : Calls Try.prog 24 #[.slice a len cap, .int .i64 p] w fun e w' => e = .returned (.tuple #[.int .u64 N, .int .i64 K, .int .i64 E]) ∧ w' = w) :
    Calls Try.prog 15 #[.slice a len cap, .int .i64 p] w fun e w' => e = .returned (.tuple #[.slice none 0 0, .int .i64 K, .int .i64 E]) ∧ w' = w := by
  have C1 : Hid (Calls Try.prog 24 _ _ _) := c
  clear c
  go_enter Try.func15, Try.ntmps15
  go_wp2_with (first | (go_at_call 24; refine C1.out.mono ?_; clear C1; rintro e w1 ⟨rfl, hw1⟩; replace hw1 := hw1.symm; subst hw1))
  go_ret3
  exact ⟨rfl, rfl⟩
set_option maxRecDepth 100000 in
set_option maxHeartbeats 1000000 in
theorem open_large (a : Option Addr) (len cap : Nat) (p N K : Int) (w : World) (hN : 65536 < N)
    (c : Calls Try.prog 24 #[.slice a len cap, .int .i64 p] w fun e w' => e = .returned (.tuple #[.int .u64 N, .int .i64 K, .int .i64 0]) ∧ w' = w) :
    Calls Try.prog 15 #[.slice a len cap, .int .i64 p] w fun e w' => e = .returned (.tuple #[.slice none 0 0, .int .i64 p, .int .i64 4]) ∧ w' = w := by
  have C1 : Hid (Calls Try.prog 24 _ _ _) := c
  clear c
  go_enter Try.func15, Try.ntmps15
  go_wp2_with (first | (go_at_call 24; refine C1.out.mono ?_; clear C1; rintro e w1 ⟨rfl, hw1⟩; replace hw1 := hw1.symm; subst hw1))
  go_ret3
  exact ⟨rfl, rfl⟩
set_option maxRecDepth 100000 in
set_option maxHeartbeats 1000000 in
theorem open_short (a : Option Addr) (len cap : Nat) (p N K : Int) (w : World) (hN0 : 0 ≤ N) (hN : N ≤ 65536) (hK : K ≤ len) (hs : (len : Int) < K + N + 4)
    (c : Calls Try.prog 24 #[.slice a len cap, .int .i64 p] w fun e w' => e = .returned (.tuple #[.int .u64 N, .int .i64 K, .int .i64 0]) ∧ w' = w) :
    Calls Try.prog 15 #[.slice a len cap, .int .i64 p] w fun e w' => e = .returned (.tuple #[.slice none 0 0, .int .i64 (len : Int), .int .i64 3]) ∧ w' = w := by
  have C1 : Hid (Calls Try.prog 24 _ _ _) := c
  clear c
  have hd : (len : Int) - K < N + 4 := by omega
  go_enter Try.func15, Try.ntmps15
  go_wp2_with (first | (go_at_call 24; refine C1.out.mono ?_; clear C1; rintro e w1 ⟨rfl, hw1⟩; replace hw1 := hw1.symm; subst hw1))
  go_ret3
  exact ⟨rfl, rfl⟩
theorem lowest_grow (s : Nat) (w : World) (hs : s < 4294967296) :
    Calls Try.prog 22 #[.int .u32 (s : Int)] w fun e w' => e = .returned (.slice (some ⟨w.heap.size, 0, none⟩) 4 4) ∧ IsBytes w' (some ⟨w.heap.size, 0, none⟩) 4 4 (le4 s) ∧ Below w.heap.size w w' := by
  refine (lowest_any s w hs).mono ?_
  rintro e w' ⟨rfl, rfl⟩
  exact ⟨rfl, isBytes_new w (0, 0) (le4 s) (le4_bd s) (by rw [show (le4 s).length = 4 from rfl]; unfold maxLen; omega), (Below.refl _ w).alloc (Nat.le_refl _) _⟩
set_option maxRecDepth 100000 in
set_option maxHeartbeats 4000000 in
/-- The sum that is stored is another. -/
theorem open_other (b off len cap q f n t : Nat) (zs X Y : List Int) (w : World) (ht : f + n = t) (hX : (zs.drop q).take (t - q) = X) (hY : (zs.drop t).take 4 = Y) (hI : IsBytes w (some ⟨b, off, none⟩) len cap zs) (hqf : q ≤ f) (hn : n ≤ 65536) (hs : f + n + 4 ≤ len) (hl : len ≤ 140737488351232) (hd : decide (le4 (moreN 0 X) = Y) = false)
    (c : Calls Try.prog 24 #[.slice (some ⟨b, off, none⟩) len cap, .int .i64 (q : Int)] w fun e w' => e = .returned (.tuple #[.int .u64 (n : Int), .int .i64 (f : Int), .int .i64 0]) ∧ w' = w) :
    Calls Try.prog 15 #[.slice (some ⟨b, off, none⟩) len cap, .int .i64 (q : Int)] w fun e w' => e = .returned (.tuple #[.slice none 0 0, .int .i64 (q : Int), .int .i64 8]) ∧ Below w.heap.size w w' := by
  have hcap := hI.2.1
  have hm := hI.2.2.1
  have hft : (f : Int) + (n : Int) = (t : Int) := by omega
  have i1 := isBytes_part hI q t (by omega) (by omega)
  have i2 := isBytes_part hI t (t + 4) (by omega) (by omega)
  rw [show t + 4 - t = 4 by omega, hY] at i2
  rw [hX] at i1
  have I1 : Hid (IsBytes w (some ⟨b, off + q, none⟩) (t - q) (cap - q) X) := i1
  have I2 : Hid (IsBytes w (some ⟨b, off + t, none⟩) 4 (cap - t) Y) := i2
  have C1 : Hid (Calls Try.prog 24 _ _ _) := c
  clear c i1 i2 hI hX hY
  go_enter Try.func15, Try.ntmps15
  go_wp2_with (first | (go_at_call 24; refine C1.out.mono ?_; clear C1; rintro e w1 ⟨rfl, hw1⟩; replace hw1 := hw1.symm; subst hw1))
  refine wp_region_noPanic ?_
  refine wp_region_held_drew (S := fun w' => Below w.heap.size w w') (by kernel_rfl) ((Below.refl _ _).drew) (fun hHeld => ?_)
  have hT : Below w.heap.size w w.drew := hHeld
  refine wpAnyH_take (i := 0) (oi := ⟨some 42, Op.move (Operand.tmp 0), 22, _, _, _⟩) (v := ?v0a) rfl (by kernel_rfl) (by kernel_rfl) (by kernel_rfl) (fun _ _ _ h => h) (Or.inl ⟨by rfl, ?hy0a⟩) hHeld ?rest0a
  case hy0a => intro w9 hSw; go_simp; (try with_reducible rfl)
  try simp only [Act.put, List.setIfInBounds_toArray, List.set_cons_zero, List.set_cons_succ]
  refine wpAnyH_take (i := 1) (oi := ⟨some 43, Op.move (Operand.tmp 1), 3, _, _, _⟩) (v := ?v1a) rfl (by kernel_rfl) (by kernel_rfl) (by kernel_rfl) (fun _ _ _ h => h) (Or.inl ⟨by rfl, ?hy1a⟩) hHeld ?rest1a
  case hy1a => intro w9 hSw; go_simp; (try with_reducible rfl)
  try simp only [Act.put, List.setIfInBounds_toArray, List.set_cons_zero, List.set_cons_succ]
  refine wpAnyH_take (i := 2) (oi := ⟨some 44, Op.move (Operand.tmp 10), 3, _, _, _⟩) (v := ?v2a) rfl (by kernel_rfl) (by kernel_rfl) (by kernel_rfl) (fun _ _ _ h => h) (Or.inl ⟨by rfl, ?hy2a⟩) hHeld ?rest2a
  case hy2a => intro w9 hSw; go_simp; (try with_reducible rfl)
  try simp only [Act.put, List.setIfInBounds_toArray, List.set_cons_zero, List.set_cons_succ]
  refine wpAnyH_take (i := 3) (oi := ⟨some 45, Op.slice 22 (Operand.tmp 42) (some (Operand.tmp 43)) (some (Operand.tmp 44)) none, 22, _, _, _⟩) (v := .slice (some ⟨b, off + q, none⟩) (t - q) (cap - q)) rfl (by kernel_rfl) (by kernel_rfl) (by kernel_rfl) (fun _ _ _ h => h) (Or.inl ⟨by rfl, ?hy3a⟩) hHeld ?rest3a
  case hy3a => intro w9 hSw; go_simp; rw [if_pos (by omega), if_pos (by omega), if_neg (by omega)]
  try simp only [Act.put, List.setIfInBounds_toArray, List.set_cons_zero, List.set_cons_succ]
  refine wpAnyH_take (i := 6) (oi := ⟨some 48, Op.move (Operand.tmp 0), 22, _, _, _⟩) (v := ?v6a) rfl (by kernel_rfl) (by kernel_rfl) (by kernel_rfl) (fun _ _ _ h => h) (Or.inl ⟨by rfl, ?hy6a⟩) hHeld ?rest6a
  case hy6a => intro w9 hSw; go_simp; (try with_reducible rfl)
  try simp only [Act.put, List.setIfInBounds_toArray, List.set_cons_zero, List.set_cons_succ]
  refine wpAnyH_take (i := 7) (oi := ⟨some 49, Op.move (Operand.tmp 10), 3, _, _, _⟩) (v := ?v7a) rfl (by kernel_rfl) (by kernel_rfl) (by kernel_rfl) (fun _ _ _ h => h) (Or.inl ⟨by rfl, ?hy7a⟩) hHeld ?rest7a
  case hy7a => intro w9 hSw; go_simp; (try with_reducible rfl)
  try simp only [Act.put, List.setIfInBounds_toArray, List.set_cons_zero, List.set_cons_succ]
  refine wpAnyH_take (i := 8) (oi := ⟨some 50, Op.move (Operand.tmp 10), 3, _, _, _⟩) (v := ?v8a) rfl (by kernel_rfl) (by kernel_rfl) (by kernel_rfl) (fun _ _ _ h => h) (Or.inl ⟨by rfl, ?hy8a⟩) hHeld ?rest8a
  case hy8a => intro w9 hSw; go_simp; (try with_reducible rfl)
  try simp only [Act.put, List.setIfInBounds_toArray, List.set_cons_zero, List.set_cons_succ]
  refine wpAnyH_take (i := 9) (oi := ⟨some 51, Op.binOp BinOp.add 3 (Operand.tmp 50) (Operand.const (Value.int IntKind.i64 4)) 3, 3, _, _, _⟩) (v := ?v9a) rfl (by kernel_rfl) (by kernel_rfl) (by kernel_rfl) (fun _ _ _ h => h) (Or.inl ⟨by rfl, ?hy9a⟩) hHeld ?rest9a
  case hy9a => intro w9 hSw; go_simp; (try with_reducible rfl)
  try simp only [Act.put, List.setIfInBounds_toArray, List.set_cons_zero, List.set_cons_succ]
  refine wpAnyH_take (i := 10) (oi := ⟨some 52, Op.slice 22 (Operand.tmp 48) (some (Operand.tmp 49)) (some (Operand.tmp 51)) none, 22, _, _, _⟩) (v := .slice (some ⟨b, off + t, none⟩) 4 (cap - t)) rfl (by kernel_rfl) (by kernel_rfl) (by kernel_rfl) (fun _ _ _ h => h) (Or.inl ⟨by rfl, ?hy10a⟩) hHeld ?rest10a
  case hy10a => intro w9 hSw; go_simp; rw [show IntKind.i64.wrap ((t : Int) + 4) = ((t + 4 : Nat) : Int) by rw [IntKind.wrap_i64]; omega, Int.toNat_natCast, if_pos (by omega), if_pos (by omega), if_neg (by omega), show t + 4 - t = 4 by omega]
  try simp only [Act.put, List.setIfInBounds_toArray, List.set_cons_zero, List.set_cons_succ]
  refine wpAnyH_ready (rs := [4]) (by kernel_rfl) (by simp) ?_
  refine AllReadyH.cons (o := ⟨some 46, Op.call { callee := Callee.value (Operand.func 10), args := #[Operand.tmp 45], argTypes := #[22] }, 23, _, _, _⟩) rfl (fun K hK => ?_) AllReadyH.nil
  go_simp
  refine (sum_any _ _ _ _ _ (I1.out.later hHeld) (by omega)).mono ?_
  rintro e x4 ⟨rfl, hN4⟩
  go_wp2_with fail
  have hT4 : Below w.heap.size w x4 := hT.trans (hN4.mono hT.size)
  refine hK.out _ _ (hHeld.trans (hN4.mono hHeld.size)) (fun _ => held_up (S' := fun w' => Below x4.heap.size x4 w') (fun w' h' => (hHeld.trans (hN4.mono hHeld.size)).trans (h'.mono (Nat.le_trans hHeld.size hN4.size))) _ _ _ _ ?_)
  clear hK K hHeld hT
  have hT : Below w.heap.size w x4 := hT4
  have hHeld : Below x4.heap.size x4 x4 := Below.refl _ _
  clear hT4 hN4
  try simp only [Act.put, List.setIfInBounds_toArray, List.set_cons_zero, List.set_cons_succ]
  refine wpAnyH_ready (rs := [5]) (by kernel_rfl) (by simp) ?_
  refine AllReadyH.cons (o := ⟨some 47, Op.call { callee := Callee.value (Operand.func 22), args := #[Operand.tmp 46], argTypes := #[23] }, 22, _, _, _⟩) rfl (fun K hK => ?_) AllReadyH.nil
  go_simp
  refine (lowest_grow _ _ (moreN_lt 0 X (by omega))).mono ?_
  rintro e x5 ⟨rfl, hb5, hN5⟩
  go_wp2_with fail
  have hT5 : Below w.heap.size w x5 := hT.trans (hN5.mono hT.size)
  refine hK.out _ _ (hHeld.trans (hN5.mono hHeld.size)) (fun _ => held_up (S' := fun w' => Below x5.heap.size x5 w') (fun w' h' => (hHeld.trans (hN5.mono hHeld.size)).trans (h'.mono (Nat.le_trans hHeld.size hN5.size))) _ _ _ _ ?_)
  clear hK K hHeld hT
  have hT : Below w.heap.size w x5 := hT5
  have hHeld : Below x5.heap.size x5 x5 := Below.refl _ _
  clear hT5 hN5
  try simp only [Act.put, List.setIfInBounds_toArray, List.set_cons_zero, List.set_cons_succ]
  have heq := equal_any _ _ _ _ _ _ _ _ _ hb5 (I2.out.later hT)
  rw [hd] at heq
  refine wpAnyH_ready (rs := [11]) (by kernel_rfl) (by simp) ?_
  refine AllReadyH.cons (o := ⟨some 53, Op.call { callee := Callee.value (Operand.func 25), args := #[Operand.tmp 47, Operand.tmp 52], argTypes := #[22, 22] }, 4, _, _, _⟩) rfl (fun K hK => ?_) AllReadyH.nil
  go_simp
  refine (heq).mono ?_
  rintro e x11 ⟨rfl, hx11⟩
  replace hx11 := hx11.symm
  subst hx11
  go_wp2_with fail
  refine hK.out _ _ hHeld (fun _ => ?_)
  clear hK K
  try simp only [Act.put, List.setIfInBounds_toArray, List.set_cons_zero, List.set_cons_succ]
  refine wpAnyH_take (i := 12) (oi := ⟨some 54, Op.unOp UnOp.not 4 (Operand.tmp 53), 4, _, _, _⟩) (v := ?v12a) rfl (by kernel_rfl) (by kernel_rfl) (by kernel_rfl) (fun _ _ _ h => h) (Or.inl ⟨by rfl, ?hy12a⟩) hHeld ?rest12a
  case hy12a => intro w9 hSw; go_simp; (try with_reducible rfl)
  try simp only [Act.put, List.setIfInBounds_toArray, List.set_cons_zero, List.set_cons_succ]
  refine wpAnyH_done (by kernel_rfl) ?_ _
  refine NoPanic.normal ?_
  go_wp2
  go_ret3
  exact ⟨rfl, hT⟩
set_option maxRecDepth 100000 in
set_option maxHeartbeats 4000000 in
/-- The sum that is stored fits. -/
theorem open_same (b off len cap q f n t : Nat) (zs X Y : List Int) (w : World) (ht : f + n = t) (hX : (zs.drop q).take (t - q) = X) (hY : (zs.drop t).take 4 = Y) (hI : IsBytes w (some ⟨b, off, none⟩) len cap zs) (hqf : q ≤ f) (hn : n ≤ 65536) (hs : f + n + 4 ≤ len) (hl : len ≤ 140737488351232) (hd : decide (le4 (moreN 0 X) = Y) = true)
    (c : Calls Try.prog 24 #[.slice (some ⟨b, off, none⟩) len cap, .int .i64 (q : Int)] w fun e w' => e = .returned (.tuple #[.int .u64 (n : Int), .int .i64 (f : Int), .int .i64 0]) ∧ w' = w) :
    Calls Try.prog 15 #[.slice (some ⟨b, off, none⟩) len cap, .int .i64 (q : Int)] w fun e w' => ∃ v, e = .returned (.tuple #[v, .int .i64 ((t : Int) + 4), .int .i64 0]) ∧ w'.ownsRow w.heap.size 5 1 v n (cellsOf ((zs.drop f).take n)) ∧ Below w.heap.size w w' := by
  have hcap := hI.2.1
  have hm := hI.2.2.1
  have hft : (f : Int) + (n : Int) = (t : Int) := by omega
  have i1 := isBytes_part hI q t (by omega) (by omega)
  have i2 := isBytes_part hI t (t + 4) (by omega) (by omega)
  rw [show t + 4 - t = 4 by omega, hY] at i2
  rw [hX] at i1
  have i3 := isBytes_part hI f t (by omega) (by omega)
  rw [show t - f = n by omega] at i3
  have I3 : Hid (IsBytes w (some ⟨b, off + f, none⟩) n (cap - f) ((zs.drop f).take n)) := i3
  have I1 : Hid (IsBytes w (some ⟨b, off + q, none⟩) (t - q) (cap - q) X) := i1
  have I2 : Hid (IsBytes w (some ⟨b, off + t, none⟩) 4 (cap - t) Y) := i2
  have C1 : Hid (Calls Try.prog 24 _ _ _) := c
  clear c i1 i2 i3 hI hX hY
  go_enter Try.func15, Try.ntmps15
  go_wp2_with (first | (go_at_call 24; refine C1.out.mono ?_; clear C1; rintro e w1 ⟨rfl, hw1⟩; replace hw1 := hw1.symm; subst hw1))
  refine wp_region_noPanic ?_
  refine wp_region_held_drew (S := fun w' => Below w.heap.size w w') (by kernel_rfl) ((Below.refl _ _).drew) (fun hHeld => ?_)
  have hT : Below w.heap.size w w.drew := hHeld
  refine wpAnyH_take (i := 0) (oi := ⟨some 42, Op.move (Operand.tmp 0), 22, _, _, _⟩) (v := ?v0b) rfl (by kernel_rfl) (by kernel_rfl) (by kernel_rfl) (fun _ _ _ h => h) (Or.inl ⟨by rfl, ?hy0b⟩) hHeld ?rest0b
  case hy0b => intro w9 hSw; go_simp; (try with_reducible rfl)
  try simp only [Act.put, List.setIfInBounds_toArray, List.set_cons_zero, List.set_cons_succ]
  refine wpAnyH_take (i := 1) (oi := ⟨some 43, Op.move (Operand.tmp 1), 3, _, _, _⟩) (v := ?v1b) rfl (by kernel_rfl) (by kernel_rfl) (by kernel_rfl) (fun _ _ _ h => h) (Or.inl ⟨by rfl, ?hy1b⟩) hHeld ?rest1b
  case hy1b => intro w9 hSw; go_simp; (try with_reducible rfl)
  try simp only [Act.put, List.setIfInBounds_toArray, List.set_cons_zero, List.set_cons_succ]
  refine wpAnyH_take (i := 2) (oi := ⟨some 44, Op.move (Operand.tmp 10), 3, _, _, _⟩) (v := ?v2b) rfl (by kernel_rfl) (by kernel_rfl) (by kernel_rfl) (fun _ _ _ h => h) (Or.inl ⟨by rfl, ?hy2b⟩) hHeld ?rest2b
  case hy2b => intro w9 hSw; go_simp; (try with_reducible rfl)
  try simp only [Act.put, List.setIfInBounds_toArray, List.set_cons_zero, List.set_cons_succ]
  refine wpAnyH_take (i := 3) (oi := ⟨some 45, Op.slice 22 (Operand.tmp 42) (some (Operand.tmp 43)) (some (Operand.tmp 44)) none, 22, _, _, _⟩) (v := .slice (some ⟨b, off + q, none⟩) (t - q) (cap - q)) rfl (by kernel_rfl) (by kernel_rfl) (by kernel_rfl) (fun _ _ _ h => h) (Or.inl ⟨by rfl, ?hy3b⟩) hHeld ?rest3b
  case hy3b => intro w9 hSw; go_simp; rw [if_pos (by omega), if_pos (by omega), if_neg (by omega)]
  try simp only [Act.put, List.setIfInBounds_toArray, List.set_cons_zero, List.set_cons_succ]
  refine wpAnyH_take (i := 6) (oi := ⟨some 48, Op.move (Operand.tmp 0), 22, _, _, _⟩) (v := ?v6b) rfl (by kernel_rfl) (by kernel_rfl) (by kernel_rfl) (fun _ _ _ h => h) (Or.inl ⟨by rfl, ?hy6b⟩) hHeld ?rest6b
  case hy6b => intro w9 hSw; go_simp; (try with_reducible rfl)
  try simp only [Act.put, List.setIfInBounds_toArray, List.set_cons_zero, List.set_cons_succ]
  refine wpAnyH_take (i := 7) (oi := ⟨some 49, Op.move (Operand.tmp 10), 3, _, _, _⟩) (v := ?v7b) rfl (by kernel_rfl) (by kernel_rfl) (by kernel_rfl) (fun _ _ _ h => h) (Or.inl ⟨by rfl, ?hy7b⟩) hHeld ?rest7b
  case hy7b => intro w9 hSw; go_simp; (try with_reducible rfl)
  try simp only [Act.put, List.setIfInBounds_toArray, List.set_cons_zero, List.set_cons_succ]
  refine wpAnyH_take (i := 8) (oi := ⟨some 50, Op.move (Operand.tmp 10), 3, _, _, _⟩) (v := ?v8b) rfl (by kernel_rfl) (by kernel_rfl) (by kernel_rfl) (fun _ _ _ h => h) (Or.inl ⟨by rfl, ?hy8b⟩) hHeld ?rest8b
  case hy8b => intro w9 hSw; go_simp; (try with_reducible rfl)
  try simp only [Act.put, List.setIfInBounds_toArray, List.set_cons_zero, List.set_cons_succ]
  refine wpAnyH_take (i := 9) (oi := ⟨some 51, Op.binOp BinOp.add 3 (Operand.tmp 50) (Operand.const (Value.int IntKind.i64 4)) 3, 3, _, _, _⟩) (v := ?v9b) rfl (by kernel_rfl) (by kernel_rfl) (by kernel_rfl) (fun _ _ _ h => h) (Or.inl ⟨by rfl, ?hy9b⟩) hHeld ?rest9b
  case hy9b => intro w9 hSw; go_simp; (try with_reducible rfl)
  try simp only [Act.put, List.setIfInBounds_toArray, List.set_cons_zero, List.set_cons_succ]
  refine wpAnyH_take (i := 10) (oi := ⟨some 52, Op.slice 22 (Operand.tmp 48) (some (Operand.tmp 49)) (some (Operand.tmp 51)) none, 22, _, _, _⟩) (v := .slice (some ⟨b, off + t, none⟩) 4 (cap - t)) rfl (by kernel_rfl) (by kernel_rfl) (by kernel_rfl) (fun _ _ _ h => h) (Or.inl ⟨by rfl, ?hy10b⟩) hHeld ?rest10b
  case hy10b => intro w9 hSw; go_simp; rw [show IntKind.i64.wrap ((t : Int) + 4) = ((t + 4 : Nat) : Int) by rw [IntKind.wrap_i64]; omega, Int.toNat_natCast, if_pos (by omega), if_pos (by omega), if_neg (by omega), show t + 4 - t = 4 by omega]
  try simp only [Act.put, List.setIfInBounds_toArray, List.set_cons_zero, List.set_cons_succ]
  refine wpAnyH_ready (rs := [4]) (by kernel_rfl) (by simp) ?_
  refine AllReadyH.cons (o := ⟨some 46, Op.call { callee := Callee.value (Operand.func 10), args := #[Operand.tmp 45], argTypes := #[22] }, 23, _, _, _⟩) rfl (fun K hK => ?_) AllReadyH.nil
  go_simp
  refine (sum_any _ _ _ _ _ (I1.out.later hHeld) (by omega)).mono ?_
  rintro e x4 ⟨rfl, hN4⟩
  go_wp2_with fail
  have hT4 : Below w.heap.size w x4 := hT.trans (hN4.mono hT.size)
  refine hK.out _ _ (hHeld.trans (hN4.mono hHeld.size)) (fun _ => held_up (S' := fun w' => Below x4.heap.size x4 w') (fun w' h' => (hHeld.trans (hN4.mono hHeld.size)).trans (h'.mono (Nat.le_trans hHeld.size hN4.size))) _ _ _ _ ?_)
  clear hK K hHeld hT
  have hT : Below w.heap.size w x4 := hT4
  have hHeld : Below x4.heap.size x4 x4 := Below.refl _ _
  clear hT4 hN4
  try simp only [Act.put, List.setIfInBounds_toArray, List.set_cons_zero, List.set_cons_succ]
  refine wpAnyH_ready (rs := [5]) (by kernel_rfl) (by simp) ?_
  refine AllReadyH.cons (o := ⟨some 47, Op.call { callee := Callee.value (Operand.func 22), args := #[Operand.tmp 46], argTypes := #[23] }, 22, _, _, _⟩) rfl (fun K hK => ?_) AllReadyH.nil
  go_simp
  refine (lowest_grow _ _ (moreN_lt 0 X (by omega))).mono ?_
  rintro e x5 ⟨rfl, hb5, hN5⟩
  go_wp2_with fail
  have hT5 : Below w.heap.size w x5 := hT.trans (hN5.mono hT.size)
  refine hK.out _ _ (hHeld.trans (hN5.mono hHeld.size)) (fun _ => held_up (S' := fun w' => Below x5.heap.size x5 w') (fun w' h' => (hHeld.trans (hN5.mono hHeld.size)).trans (h'.mono (Nat.le_trans hHeld.size hN5.size))) _ _ _ _ ?_)
  clear hK K hHeld hT
  have hT : Below w.heap.size w x5 := hT5
  have hHeld : Below x5.heap.size x5 x5 := Below.refl _ _
  clear hT5 hN5
  try simp only [Act.put, List.setIfInBounds_toArray, List.set_cons_zero, List.set_cons_succ]
  have heq := equal_any _ _ _ _ _ _ _ _ _ hb5 (I2.out.later hT)
  rw [hd] at heq
  refine wpAnyH_ready (rs := [11]) (by kernel_rfl) (by simp) ?_
  refine AllReadyH.cons (o := ⟨some 53, Op.call { callee := Callee.value (Operand.func 25), args := #[Operand.tmp 47, Operand.tmp 52], argTypes := #[22, 22] }, 4, _, _, _⟩) rfl (fun K hK => ?_) AllReadyH.nil
  go_simp
  refine (heq).mono ?_
  rintro e x11 ⟨rfl, hx11⟩
  replace hx11 := hx11.symm
  subst hx11
  go_wp2_with fail
  refine hK.out _ _ hHeld (fun _ => ?_)
  clear hK K
  try simp only [Act.put, List.setIfInBounds_toArray, List.set_cons_zero, List.set_cons_succ]
  refine wpAnyH_take (i := 12) (oi := ⟨some 54, Op.unOp UnOp.not 4 (Operand.tmp 53), 4, _, _, _⟩) (v := ?v12b) rfl (by kernel_rfl) (by kernel_rfl) (by kernel_rfl) (fun _ _ _ h => h) (Or.inl ⟨by rfl, ?hy12b⟩) hHeld ?rest12b
  case hy12b => intro w9 hSw; go_simp; (try with_reducible rfl)
  try simp only [Act.put, List.setIfInBounds_toArray, List.set_cons_zero, List.set_cons_succ]
  refine wpAnyH_done (by kernel_rfl) ?_ _
  refine NoPanic.normal ?_
  have C3 := clone_any _ _ _ _ _ (I3.out.later hT) (by omega)
  have hne : ¬ cap = f := by omega
  have htf : t - f = n := by omega
  go_wp2_with (first | (go_at_call 26; refine C3.mono ?_; clear C3; rintro e w6 ⟨v6, rfl, ho6, hB6⟩))
  go_ret3
  exact ⟨v6, rfl, own_le ho6 hT.size, hT.trans (hB6.mono hT.size)⟩
/-- frame.Open, at any place of any bytes. -/
theorem open_any (a : Option Addr) (len cap : Nat) (zs : List Int) (p : Int) (w : World) (hI : IsBytes w a len cap zs) (hl : len ≤ 140737488351232) :
    Calls Try.prog 15 #[.slice a len cap, .int .i64 p] w fun e w' => ∃ v, e = .returned (.tuple #[v, .int .i64 (openZ zs p).2.1, .int .i64 (openZ zs p).2.2]) ∧
      w'.ownsRow w.heap.size 5 1 v (openZ zs p).1.length (cellsOf (openZ zs p).1) ∧ Below w.heap.size w w' := by
  have c := get_any a len cap zs p w hI
  have g := getZ_bd zs p hI.2.2.2.2.1
  have gp : (getZ zs p).2.2 = 0 → 0 ≤ p ∧ p ≤ (getZ zs p).2.1 := fun h => by
    unfold getZ at h ⊢
    split at h
    · simp at h
    · rename_i hp
      rw [if_neg hp]
      dsimp only
      omega
  have hzl := hI.1
  unfold openZ
  generalize (getZ zs p).1 = N at *
  generalize (getZ zs p).2.1 = K at *
  generalize (getZ zs p).2.2 = E at *
  have hnil : ∀ w' : World, w'.ownsRow w.heap.size 5 1 (.slice none 0 0) ([] : List Int).length (cellsOf []) := fun w' => World.ownsRow_nil _ _ _ _
  split
  · rename_i hE
    refine (open_bad a len cap p N K E w hE c).mono ?_
    rintro e w' ⟨rfl, rfl⟩
    exact ⟨_, rfl, hnil _, Below.refl _ _⟩
  · rename_i hE
    obtain rfl : E = 0 := by omega
    split
    · rename_i hN
      refine (open_large a len cap p N K w hN c).mono ?_
      rintro e w' ⟨rfl, rfl⟩
      exact ⟨_, rfl, hnil _, Below.refl _ _⟩
    · rename_i hN
      split
      · rename_i hs
        refine (open_short a len cap p N K w g.1 (by omega) (by omega) (by omega) c).mono ?_
        rintro e w' ⟨rfl, rfl⟩
        exact ⟨_, by rw [hzl], hnil _, Below.refl _ _⟩
      · rename_i hs
        obtain ⟨q, rfl⟩ := Int.eq_ofNat_of_zero_le (gp rfl).1
        obtain ⟨f, rfl⟩ := Int.eq_ofNat_of_zero_le (a := K) (by omega)
        obtain ⟨n, rfl⟩ := Int.eq_ofNat_of_zero_le (a := N) (by omega)
        have hqf := (gp rfl).2
        obtain ⟨b, off, rfl, _⟩ := hI.2.2.2.2.2 (by omega)
        simp only [Int.toNat_natCast]
        rw [show f - q + n = f + n - q by omega]
        split
        · rename_i hd
          refine (open_same b off len cap q f n (f + n) zs _ _ w rfl rfl rfl hI (by omega) (by omega) (by omega) hl (by simpa using hd) c).mono ?_
          rintro e w' ⟨v, rfl, ho, hB⟩
          exact ⟨v, rfl, by rw [show ((zs.drop f).take n).length = n by simp; omega]; exact ho, hB⟩
        · rename_i hd
          refine (open_other b off len cap q f n (f + n) zs _ _ w rfl rfl rfl hI (by omega) (by omega) (by omega) hl (by simpa using hd) c).mono ?_
          rintro e w' ⟨rfl, hB⟩
          exact ⟨_, rfl, hnil _, hB⟩
end Go.Proofs.Ytakjilbbhodiiaa
