/-
  schema.Check (P7.1).
  Schemas in a row; schema.Book (P7.1).
-/
import Derived.Test.YtahlmlbfgijcpaaGreatDoorCSchBase
import Derived.Deep.DeepCutAuto
namespace Go.Proofs.YtahlmlbfgijcpaaGreatDoor
open Go.RowKit

set_option maxRecDepth 100000 in
set_option maxHeartbeats 2000000 in
theorem check_long (S : ByteArray) (a : Option Addr) (n cap : Nat) (w : World) (hn : ¬ n ≤ 16) :
    Calls Tryz.prog 26 #[schV S (.slice a n cap)] w fun e w' => e = .returned (.int .i64 2) ∧ Below w.heap.size w w' := by
  have h16 : 16 < (n : Int) := by omega
  go_enter Tryz.func26, Tryz.ntmps26
  go_wp2
  go_ret
  exact ⟨rfl, (Below.refl _ _).alloc (Nat.le_refl _) _⟩
set_option maxRecDepth 100000 in
set_option maxHeartbeats 2000000 in
theorem check_name (S : ByteArray) (a : Option Addr) (n cap : Nat) (w : World) (hn : n ≤ 16) (hS : nameB S = false) :
    Calls Tryz.prog 26 #[schV S (.slice a n cap)] w fun e w' => e = .returned (.int .i64 1) ∧ Below w.heap.size w w' := by
  have h16 : ¬ 16 < (n : Int) := by omega
  have hB0 : Below w.heap.size w (w.alloc (schO S (.slice a n cap))) := (Below.refl _ _).alloc (Nat.le_refl _) _
  have C : Hid (Calls Tryz.prog 45 _ _ _) := name_any S (w.alloc (schO S (.slice a n cap)))
  rw [hS] at C
  clear hS
  go_enter Tryz.func26, Tryz.ntmps26
  go_wp2_with (first | (go_at_call 45; refine C.out.mono ?_; rintro e w1 ⟨rfl, hB1⟩))
  go_ret
  exact ⟨rfl, bt hB0 hB1⟩
set_option maxRecDepth 100000 in
set_option maxHeartbeats 2000000 in
theorem check_dup (S : ByteArray) (a : Option Addr) (n cap : Nat) (Nm : Nat → ByteArray) (K : Nat → Int) (w : World) (H : Flds w a n Nm K) (hn : n ≤ 16) (hS : nameB S = true) (hD : dupB Nm n = true) :
    Calls Tryz.prog 26 #[schV S (.slice a n cap)] w fun e w' => e = .returned (.int .i64 1) ∧ Below w.heap.size w w' := by
  have h16 : ¬ 16 < (n : Int) := by omega
  have hB0 : Below w.heap.size w (w.alloc (schO S (.slice a n cap))) := (Below.refl _ _).alloc (Nat.le_refl _) _
  have C : Hid (Calls Tryz.prog 45 _ _ _) := name_any S (w.alloc (schO S (.slice a n cap)))
  rw [hS] at C
  have HX : Hid ((w.alloc (schO S (.slice a n cap))).cell? ⟨w.heap.size, 1, none⟩ = some (.slice a n cap)) := by
    show (w.alloc (schO S (.slice a n cap))).cell? ⟨w.heap.size, 1, none⟩ = some (.slice a n cap)
    rw [World.cell?_alloc_at _ _ _ _ rfl]; rfl
  have C2 : Hid (∀ w1, Below (w.alloc (schO S (.slice a n cap))).heap.size (w.alloc (schO S (.slice a n cap))) w1 → Calls Tryz.prog 27 #[.int .i64 n, .func (.func 46) #[] #[.pointer (some ⟨w.heap.size, 0, none⟩)]] w1 fun e w' => e = .returned (.bool (dupB Nm n)) ∧ Below w1.heap.size w1 w') :=
    fun w1 hB => twice_check a n cap w.heap.size Nm _ w1 ((H.later hB0).later hB) hn (cell_later HX.out hB)
  rw [hD] at C2
  clear hS hD H
  go_enter Tryz.func26, Tryz.ntmps26
  go_wp2_with (first
    | (go_at_call 45
       refine C.out.mono ?_
       rintro e w1 ⟨rfl, hB1⟩
       have f1 := cell_later HX.out hB1)
    | (go_at_call 27
       refine (C2.out _ hB1).mono ?_
       rintro e w2 ⟨rfl, hB2⟩))
  go_ret
  exact ⟨rfl, bt (bt hB0 hB1) hB2⟩
set_option maxRecDepth 100000 in
set_option maxHeartbeats 2000000 in
theorem check_all (S : ByteArray) (a : Option Addr) (n cap : Nat) (Nm : Nat → ByteArray) (K : Nat → Int) (w : World) (H : Flds w a n Nm K) (hn : n ≤ 16) (hS : nameB S = true) (hD : dupB Nm n = false) :
    Calls Tryz.prog 26 #[schV S (.slice a n cap)] w fun e w' => e = .returned (.int .i64 (if allR Nm K n = true then 0 else 1)) ∧ Below w.heap.size w w' := by
  obtain ⟨x, hx⟩ : ∃ x : Int, x = if allR Nm K n = true then 0 else 1 := ⟨_, rfl⟩
  rw [← hx]
  have HQ : Hid (x = if allR Nm K n = true then 0 else 1) := hx
  have HF : Hid (Flds w a n Nm K) := H
  have h16 : ¬ 16 < (n : Int) := by omega
  have hB0 : Below w.heap.size w (w.alloc (schO S (.slice a n cap))) := (Below.refl _ _).alloc (Nat.le_refl _) _
  have C : Hid (Calls Tryz.prog 45 _ _ _) := name_any S (w.alloc (schO S (.slice a n cap)))
  rw [hS] at C
  have HX : Hid ((w.alloc (schO S (.slice a n cap))).cell? ⟨w.heap.size, 1, none⟩ = some (.slice a n cap)) := by
    show (w.alloc (schO S (.slice a n cap))).cell? ⟨w.heap.size, 1, none⟩ = some (.slice a n cap)
    rw [World.cell?_alloc_at _ _ _ _ rfl]; rfl
  have C2 : Hid (∀ w1, Below (w.alloc (schO S (.slice a n cap))).heap.size (w.alloc (schO S (.slice a n cap))) w1 → Calls Tryz.prog 27 #[.int .i64 n, .func (.func 46) #[] #[.pointer (some ⟨w.heap.size, 0, none⟩)]] w1 fun e w' => e = .returned (.bool (dupB Nm n)) ∧ Below w1.heap.size w1 w') :=
    fun w1 hB => twice_check a n cap w.heap.size Nm _ w1 ((H.later hB0).later hB) hn (cell_later HX.out hB)
  rw [hD] at C2
  clear hS hD H hx
  go_enter Tryz.func26, Tryz.ntmps26
  go_upto_region 7 with (first
    | (go_at_call 45
       refine C.out.mono ?_
       rintro e w1 ⟨rfl, hB1⟩
       have f1 := cell_later HX.out hB1)
    | (go_at_call 27
       refine (C2.out _ hB1).mono ?_
       rintro e w2 ⟨rfl, hB2⟩
       have f2 := cell_later HX.out (bt hB1 hB2)
       clear f1))
  have hB3 := bt (bt hB0 hB1) hB2
  clear hB0 hB1 hB2 C C2 HX
  go_wp2_with fail
  go_loopw [24] (fun v wr => ∃ k : Nat, k ≤ n ∧ v = .int .i64 k ∧ Hid (allR Nm K k = true) ∧ Below w.heap.size w wr) (fun v _ => n - (intOf v).toNat)
  case atStart => exact ⟨0, Nat.zero_le _, rfl, rfl, hB3⟩
  case round =>
    clear f2
    obtain ⟨k, hk, rfl, HA, hB⟩ := hrel
    by_cases hkn : k < n
    · obtain ⟨b, off, rfl, hc⟩ := (HF.out.later hB) (by omega)
      have f0 := (hc k hkn).1.1
      have f1 := (hc k hkn).1.2
      have hB4 : Below w.heap.size w (wr.alloc (fldO (Nm k) (K k))) := hB.alloc hB.size _
      have C : Hid (Calls Tryz.prog 47 _ _ _) := rightF_any (Nm k) (K k) (wr.alloc (fldO (Nm k) (K k)))
      clear hc
      cases hr : rightF (Nm k) (K k) with
      | false =>
        rw [hr] at C
        have HN : Hid (allR Nm K n = false) := allR_not Nm K n k hkn hr
        clear hr
        go_wp2_with (first | (go_at_call 47; refine C.out.mono ?_; rintro e w5 ⟨rfl, hB5⟩))
        try rw [Exit.noGoto_ret]
        go_ret
        exact ⟨ret_int (by rw [HQ.out, HN.out]; rfl), bt hB4 hB5⟩
      | true =>
        rw [hr] at C
        have HY : Hid (allR Nm K (k + 1) = true) := by show allR Nm K (k + 1) = true; simp only [allR]; rw [HA.out, hr]; rfl
        clear hr
        go_wp2_with (first | (go_at_call 47; refine C.out.mono ?_; rintro e w5 ⟨rfl, hB5⟩))
        go_roundw
        case rel => exact ⟨k + 1, by omega, by go_num, HY, bt hB4 hB5⟩
        case measure => simp [intOf]; omega
    · obtain rfl : k = n := by omega
      go_wp2
      go_ret
      exact ⟨ret_int (by rw [HQ.out, HA.out]; rfl), hB⟩
theorem check_any (S : ByteArray) (a : Option Addr) (n cap : Nat) (Nm : Nat → ByteArray) (K : Nat → Int) (w : World) (H : Flds w a n Nm K) :
    Calls Tryz.prog 26 #[schV S (.slice a n cap)] w fun e w' => e = .returned (.int .i64 (chkZ S n Nm K)) ∧ Below w.heap.size w w' := by
  unfold chkZ
  by_cases hn : n ≤ 16
  · rw [if_neg (by omega)]
    cases hS : nameB S with
    | false => exact check_name S a n cap w hn hS
    | true =>
      rw [if_neg (by simp)]
      cases hD : dupB Nm n with
      | true => exact check_dup S a n cap Nm K w H hn hS hD
      | false => exact check_all S a n cap Nm K w H hn hS hD
  · rw [if_pos (by omega)]
    exact check_long S a n cap w hn
end Go.Proofs.YtahlmlbfgijcpaaGreatDoor
namespace Go.Proofs.YtahlmlbfgijcpaaGreatDoor
open Go.RowKit

/-- A schema, as it lies in memory: its name, its fields' slice, their names and kinds. -/
structure Sch where
  nm : ByteArray
  a : Option Addr
  l : Nat
  c : Nat
  fn : Nat → ByteArray
  fk : Nat → Int
abbrev Sch.v (x : Sch) : Value := .slice x.a x.l x.c
abbrev Sch.chk (x : Sch) : Int := chkZ x.nm x.l x.fn x.fk
/-- A slice of schemas. -/
def Schs (w : World) (a : Option Addr) (n : Nat) (Q : Nat → Sch) : Prop :=
  Row2 w a n (fun j => (Q j).nm) (fun j => (Q j).v) ∧ ∀ j, j < n → Flds w (Q j).a (Q j).l (Q j).fn (Q j).fk ∧ (Q j).l ≤ 9223372036854775807
theorem Schs.later {w w' : World} {a : Option Addr} {n : Nat} {Q : Nat → Sch} (h : Schs w a n Q) (hB : Below w.heap.size w w') : Schs w' a n Q :=
  ⟨h.1.later hB, fun j hj => ⟨(h.2 j hj).1.later hB, (h.2 j hj).2⟩⟩
/-- The first error of the first schemas. -/
def chks (Q : Nat → Sch) : Nat → Int
  | 0 => 0
  | k + 1 => if chks Q k = 0 then (Q k).chk else chks Q k
theorem chks_stop (Q : Nat → Sch) (k : Nat) (h0 : chks Q k = 0) (h1 : ¬ (Q k).chk = 0) : ∀ n, k < n → chks Q n = (Q k).chk
  | 0, h => by omega
  | n + 1, h => by
    by_cases e : k = n
    · subst e; simp [chks, h0]
    · have := chks_stop Q k h0 h1 n (by omega)
      simp [chks, this, h1]
theorem chks_ok (Q : Nat → Sch) : ∀ n, chks Q n = 0 → ∀ j, j < n → (Q j).chk = 0
  | 0, _, j, h => by omega
  | n + 1, h, j, hj => by
    simp only [chks] at h
    split at h
    · rename_i h0
      by_cases e : j = n
      · exact e ▸ h
      · exact chks_ok Q n h0 j (by omega)
    · contradiction
/-- Book's answer. -/
def bookZ (n : Nat) (Q : Nat → Sch) : Int :=
  if 16 < n then 2 else if chks Q n = 0 then (if dupB (fun j => (Q j).nm) n = true then 4 else 0) else chks Q n

set_option maxRecDepth 100000 in
set_option maxHeartbeats 2000000 in
theorem book_long (a : Option Addr) (n cap : Nat) (w : World) (hn : ¬ n ≤ 16) :
    Calls Tryz.prog 13 #[.slice a n cap] w fun e w' => e = .returned (.int .i64 2) ∧ Below w.heap.size w w' := by
  have h16 : 16 < (n : Int) := by omega
  go_enter Tryz.func13, Tryz.ntmps13
  go_wp2
  go_ret
  exact ⟨rfl, (Below.refl _ _).alloc (Nat.le_refl _) _⟩
set_option maxRecDepth 100000 in
set_option maxHeartbeats 2000000 in
theorem book_few (a : Option Addr) (n cap : Nat) (Q : Nat → Sch) (w : World) (H : Schs w a n Q) (hn : n ≤ 16) :
    Calls Tryz.prog 13 #[.slice a n cap] w fun e w' => e = .returned (.int .i64 (if chks Q n = 0 then (if dupB (fun j => (Q j).nm) n = true then 4 else 0) else chks Q n)) ∧ Below w.heap.size w w' := by
  obtain ⟨x, hx⟩ : ∃ x : Int, x = if chks Q n = 0 then (if dupB (fun j => (Q j).nm) n = true then 4 else 0) else chks Q n := ⟨_, rfl⟩
  rw [← hx]
  have HQ : Hid (x = if chks Q n = 0 then (if dupB (fun j => (Q j).nm) n = true then 4 else 0) else chks Q n) := hx
  have h16 : ¬ 16 < (n : Int) := by omega
  have hB0 : Below w.heap.size w (w.alloc (.cells #[.slice a n cap] 22)) := (Below.refl _ _).alloc (Nat.le_refl _) _
  have HX : Hid ((w.alloc (.cells #[.slice a n cap] 22)).cell? ⟨w.heap.size, 0, none⟩ = some (.slice a n cap)) := by
    show (w.alloc (.cells #[.slice a n cap] 22)).cell? ⟨w.heap.size, 0, none⟩ = some (.slice a n cap)
    rw [World.cell?_alloc_at _ _ _ _ rfl]; rfl
  have HF : Hid (Schs (w.alloc (.cells #[.slice a n cap] 22)) a n Q) := H.later hB0
  clear hx H
  go_enter Tryz.func13, Tryz.ntmps13
  go_upto_region 1 with fail
  obtain ⟨W, hW⟩ : ∃ W, W = (w.alloc (.cells #[.slice a n cap] 22)) := ⟨_, rfl⟩
  obtain ⟨P, hP⟩ : ∃ P, P = w.heap.size := ⟨_, rfl⟩
  rw [← hW, ← hP] at HX
  rw [← hW] at hB0 HF
  rw [← hW, ← hP]
  clear hW hP
  have f0 := HX.out
  go_wp2_with fail
  go_loopw [11] (fun v wr => ∃ k : Nat, k ≤ n ∧ v = .int .i64 k ∧ Hid (chks Q k = 0) ∧ Below W.heap.size W wr) (fun v _ => n - (intOf v).toNat)
  case atStart => exact ⟨0, Nat.zero_le _, rfl, rfl, Below.refl _ _⟩
  case round =>
    clear f0
    obtain ⟨k, hk, rfl, HA, hB⟩ := hrel
    by_cases hkn : k < n
    · have HG := HF.out.later hB
      obtain ⟨b, off, rfl, hc⟩ := HG.1 (by omega)
      have f0 := (hc k hkn).1.1
      have f1 := (hc k hkn).1.2
      have hB3 : Below wr.heap.size wr (wr.alloc (schO (Q k).nm (Q k).v)) := (Below.refl _ _).alloc (Nat.le_refl _) _
      have hB4 := bt hB hB3
      obtain ⟨y, hy⟩ : ∃ y, y = (Q k).chk := ⟨_, rfl⟩
      have C : Hid (Calls Tryz.prog 26 #[schV (Q k).nm (Q k).v] _ _) := check_any (Q k).nm (Q k).a (Q k).l (Q k).c (Q k).fn (Q k).fk (wr.alloc (schO (Q k).nm (Q k).v)) ((HG.2 k hkn).1.later hB3)
      have HY : Hid (y = (Q k).chk) := hy
      rw [show chkZ (Q k).nm (Q k).l (Q k).fn (Q k).fk = y from hy.symm] at C
      clear hc HG hy hB3
      by_cases hy0 : y = 0
      · subst hy0
        go_wp2_with (first | (go_at_call 26; refine C.out.mono ?_; rintro e w5 ⟨rfl, hB5⟩))
        go_roundw
        case rel => exact ⟨k + 1, by omega, by go_num, by show chks Q (k + 1) = 0; simp only [chks]; rw [if_pos HA.out]; exact HY.out.symm, bt hB4 hB5⟩
        case measure => simp [intOf]; omega
      · have hy1 : (y == 0) = false := by simpa using hy0
        go_wp2_with (first | (go_at_call 26; refine C.out.mono ?_; rintro e w5 ⟨rfl, hB5⟩))
        try rw [Exit.noGoto_ret]
        go_ret
        refine ⟨ret_int ?_, hB0.trans ((bt hB4 hB5).mono hB0.size)⟩
        have e1 := chks_stop Q k HA.out (by rw [← HY.out]; exact hy0) n hkn
        rw [HQ.out, e1, ← HY.out, if_neg hy0]
    · obtain rfl : k = n := by omega
      have f0 := cell_later HX.out hB
      have C : Hid (Calls Tryz.prog 27 _ wr _) := twice_book a k cap P (fun j => (Q j).nm) _ wr (HF.out.later hB).1 hn f0
      cases hd : dupB (fun j => (Q j).nm) k with
      | true =>
        rw [hd] at C
        have HD : Hid (dupB (fun j => (Q j).nm) k = true) := hd
        clear hd
        go_wp2_with (first | (go_at_call 27; refine C.out.mono ?_; rintro e w5 ⟨rfl, hB5⟩))
        go_ret
        exact ⟨ret_int (by rw [HQ.out, if_pos HA.out, if_pos HD.out]), hB0.trans ((bt hB hB5).mono hB0.size)⟩
      | false =>
        rw [hd] at C
        have HD : Hid (dupB (fun j => (Q j).nm) k = false) := hd
        clear hd
        go_wp2_with (first | (go_at_call 27; refine C.out.mono ?_; rintro e w5 ⟨rfl, hB5⟩))
        go_ret
        exact ⟨ret_int (by rw [HQ.out, if_pos HA.out, HD.out]; rfl), hB0.trans ((bt hB hB5).mono hB0.size)⟩
theorem book_any (a : Option Addr) (n cap : Nat) (Q : Nat → Sch) (w : World) (H : Schs w a n Q) :
    Calls Tryz.prog 13 #[.slice a n cap] w fun e w' => e = .returned (.int .i64 (bookZ n Q)) ∧ Below w.heap.size w w' := by
  unfold bookZ
  by_cases hn : n ≤ 16
  · rw [if_neg (by omega)]
    exact book_few a n cap Q w H hn
  · rw [if_pos (by omega)]
    exact book_long a n cap w hn
end Go.Proofs.YtahlmlbfgijcpaaGreatDoor
