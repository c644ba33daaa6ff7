/-
  schema.Check (P7.1).
-/
import Derived.Test.YtelabjipclfpnaaSchTwice
import Derived.Test.YtelabjipclfpnaaSchRight
import Derived.Deep.DeepCutAuto
namespace Go.Proofs.Ytelabjipclfpnaa
open Go.RowKit

set_option maxRecDepth 100000 in
set_option maxHeartbeats 2000000 in
theorem check_long (S : ByteArray) (a : Option Addr) (n cap : Nat) (w : World) (hn : ¬ n ≤ 16) :
    Calls Try.prog 28 #[schV S (.slice a n cap)] w fun e w' => e = .returned (.int .i64 2) ∧ Below w.heap.size w w' := by
  have h16 : 16 < (n : Int) := by omega
  go_enter Try.func28, Try.ntmps28
  go_wp2
  go_ret
  exact ⟨rfl, (Below.refl _ _).alloc (Nat.le_refl _) _⟩
set_option maxRecDepth 100000 in
set_option maxHeartbeats 2000000 in
theorem check_name (S : ByteArray) (a : Option Addr) (n cap : Nat) (w : World) (hn : n ≤ 16) (hS : nameB S = false) :
    Calls Try.prog 28 #[schV S (.slice a n cap)] w fun e w' => e = .returned (.int .i64 1) ∧ Below w.heap.size w w' := by
  have h16 : ¬ 16 < (n : Int) := by omega
  have hB0 : Below w.heap.size w (w.alloc (schO S (.slice a n cap))) := (Below.refl _ _).alloc (Nat.le_refl _) _
  have C : Hid (Calls Try.prog 36 _ _ _) := name_any S (w.alloc (schO S (.slice a n cap)))
  rw [hS] at C
  clear hS
  go_enter Try.func28, Try.ntmps28
  go_wp2_with (first | (go_at_call 36; refine C.out.mono ?_; rintro e w1 ⟨rfl, hB1⟩))
  go_ret
  exact ⟨rfl, bt hB0 hB1⟩
set_option maxRecDepth 100000 in
set_option maxHeartbeats 2000000 in
theorem check_dup (S : ByteArray) (a : Option Addr) (n cap : Nat) (Nm : Nat → ByteArray) (K : Nat → Int) (w : World) (H : Flds w a n Nm K) (hn : n ≤ 16) (hS : nameB S = true) (hD : dupB Nm n = true) :
    Calls Try.prog 28 #[schV S (.slice a n cap)] w fun e w' => e = .returned (.int .i64 1) ∧ Below w.heap.size w w' := by
  have h16 : ¬ 16 < (n : Int) := by omega
  have hB0 : Below w.heap.size w (w.alloc (schO S (.slice a n cap))) := (Below.refl _ _).alloc (Nat.le_refl _) _
  have C : Hid (Calls Try.prog 36 _ _ _) := name_any S (w.alloc (schO S (.slice a n cap)))
  rw [hS] at C
  have HX : Hid ((w.alloc (schO S (.slice a n cap))).cell? ⟨w.heap.size, 1, none⟩ = some (.slice a n cap)) := by
    show (w.alloc (schO S (.slice a n cap))).cell? ⟨w.heap.size, 1, none⟩ = some (.slice a n cap)
    rw [World.cell?_alloc_at _ _ _ _ rfl]; rfl
  have C2 : Hid (∀ w1, Below (w.alloc (schO S (.slice a n cap))).heap.size (w.alloc (schO S (.slice a n cap))) w1 → Calls Try.prog 29 #[.int .i64 n, .func (.func 37) #[] #[.pointer (some ⟨w.heap.size, 0, none⟩)]] w1 fun e w' => e = .returned (.bool (dupB Nm n)) ∧ Below w1.heap.size w1 w') :=
    fun w1 hB => twice_check a n cap w.heap.size Nm _ w1 ((H.later hB0).later hB) hn (cell_later HX.out hB)
  rw [hD] at C2
  clear hS hD H
  go_enter Try.func28, Try.ntmps28
  go_wp2_with (first
    | (go_at_call 36
       refine C.out.mono ?_
       rintro e w1 ⟨rfl, hB1⟩
       have f1 := cell_later HX.out hB1)
    | (go_at_call 29
       refine (C2.out _ hB1).mono ?_
       rintro e w2 ⟨rfl, hB2⟩))
  go_ret
  exact ⟨rfl, bt (bt hB0 hB1) hB2⟩
set_option maxRecDepth 100000 in
set_option maxHeartbeats 2000000 in
theorem check_all (S : ByteArray) (a : Option Addr) (n cap : Nat) (Nm : Nat → ByteArray) (K : Nat → Int) (w : World) (H : Flds w a n Nm K) (hn : n ≤ 16) (hS : nameB S = true) (hD : dupB Nm n = false) :
    Calls Try.prog 28 #[schV S (.slice a n cap)] w fun e w' => e = .returned (.int .i64 (if allR Nm K n = true then 0 else 1)) ∧ Below w.heap.size w w' := by
  obtain ⟨x, hx⟩ : ∃ x : Int, x = if allR Nm K n = true then 0 else 1 := ⟨_, rfl⟩
  rw [← hx]
  have HQ : Hid (x = if allR Nm K n = true then 0 else 1) := hx
  have HF : Hid (Flds w a n Nm K) := H
  have h16 : ¬ 16 < (n : Int) := by omega
  have hB0 : Below w.heap.size w (w.alloc (schO S (.slice a n cap))) := (Below.refl _ _).alloc (Nat.le_refl _) _
  have C : Hid (Calls Try.prog 36 _ _ _) := name_any S (w.alloc (schO S (.slice a n cap)))
  rw [hS] at C
  have HX : Hid ((w.alloc (schO S (.slice a n cap))).cell? ⟨w.heap.size, 1, none⟩ = some (.slice a n cap)) := by
    show (w.alloc (schO S (.slice a n cap))).cell? ⟨w.heap.size, 1, none⟩ = some (.slice a n cap)
    rw [World.cell?_alloc_at _ _ _ _ rfl]; rfl
  have C2 : Hid (∀ w1, Below (w.alloc (schO S (.slice a n cap))).heap.size (w.alloc (schO S (.slice a n cap))) w1 → Calls Try.prog 29 #[.int .i64 n, .func (.func 37) #[] #[.pointer (some ⟨w.heap.size, 0, none⟩)]] w1 fun e w' => e = .returned (.bool (dupB Nm n)) ∧ Below w1.heap.size w1 w') :=
    fun w1 hB => twice_check a n cap w.heap.size Nm _ w1 ((H.later hB0).later hB) hn (cell_later HX.out hB)
  rw [hD] at C2
  clear hS hD H hx
  go_enter Try.func28, Try.ntmps28
  go_upto_region 7 with (first
    | (go_at_call 36
       refine C.out.mono ?_
       rintro e w1 ⟨rfl, hB1⟩
       have f1 := cell_later HX.out hB1)
    | (go_at_call 29
       refine (C2.out _ hB1).mono ?_
       rintro e w2 ⟨rfl, hB2⟩
       have f2 := cell_later HX.out (bt hB1 hB2)
       clear f1))
  have hB3 := bt (bt hB0 hB1) hB2
  clear hB0 hB1 hB2 C C2 HX
  go_wp2_with fail
  go_loopw [24] (fun v wr => ∃ k : Nat, k ≤ n ∧ v = .int .i64 k ∧ Hid (allR Nm K k = true) ∧ Below w.heap.size w wr) (fun v _ => n - (intOf v).toNat)
  case atStart => exact ⟨0, Nat.zero_le _, rfl, rfl, hB3⟩
  case round =>
    clear f2
    obtain ⟨k, hk, rfl, HA, hB⟩ := hrel
    by_cases hkn : k < n
    · obtain ⟨b, off, rfl, hc⟩ := (HF.out.later hB) (by omega)
      have f0 := (hc k hkn).1.1
      have f1 := (hc k hkn).1.2
      have hB4 : Below w.heap.size w (wr.alloc (fldO (Nm k) (K k))) := hB.alloc hB.size _
      have C : Hid (Calls Try.prog 38 _ _ _) := rightF_any (Nm k) (K k) (wr.alloc (fldO (Nm k) (K k)))
      clear hc
      cases hr : rightF (Nm k) (K k) with
      | false =>
        rw [hr] at C
        have HN : Hid (allR Nm K n = false) := allR_not Nm K n k hkn hr
        clear hr
        go_wp2_with (first | (go_at_call 38; refine C.out.mono ?_; rintro e w5 ⟨rfl, hB5⟩))
        try rw [Exit.noGoto_ret]
        go_ret
        exact ⟨ret_int (by rw [HQ.out, HN.out]; rfl), bt hB4 hB5⟩
      | true =>
        rw [hr] at C
        have HY : Hid (allR Nm K (k + 1) = true) := by show allR Nm K (k + 1) = true; simp only [allR]; rw [HA.out, hr]; rfl
        clear hr
        go_wp2_with (first | (go_at_call 38; refine C.out.mono ?_; rintro e w5 ⟨rfl, hB5⟩))
        go_roundw
        case rel => exact ⟨k + 1, by omega, by go_num, HY, bt hB4 hB5⟩
        case measure => simp [intOf]; omega
    · obtain rfl : k = n := by omega
      go_wp2
      go_ret
      exact ⟨ret_int (by rw [HQ.out, HA.out]; rfl), hB⟩
theorem check_any (S : ByteArray) (a : Option Addr) (n cap : Nat) (Nm : Nat → ByteArray) (K : Nat → Int) (w : World) (H : Flds w a n Nm K) :
    Calls Try.prog 28 #[schV S (.slice a n cap)] w fun e w' => e = .returned (.int .i64 (chkZ S n Nm K)) ∧ Below w.heap.size w w' := by
  unfold chkZ
  by_cases hn : n ≤ 16
  · rw [if_neg (by omega)]
    cases hS : nameB S with
    | false => exact check_name S a n cap w hn hS
    | true =>
      rw [if_neg (by simp)]
      cases hD : dupB Nm n with
      | true => exact check_dup S a n cap Nm K w H hn hS hD
      | false => exact check_all S a n cap Nm K w H hn hS hD
  · rw [if_pos (by omega)]
    exact check_long S a n cap w hn
end Go.Proofs.Ytelabjipclfpnaa
