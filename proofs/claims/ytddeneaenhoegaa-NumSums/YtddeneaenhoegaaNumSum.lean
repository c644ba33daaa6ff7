/-
  num.Sum: the sum with twice the bits.
-/
import Derived.Test.YtddeneaenhoegaaNumAdd
namespace Go.Proofs.Ytddeneaenhoegaa
open Go.RowKit

set_option maxRecDepth 100000 in
set_option maxHeartbeats 2000000 in
theorem sum_any (a : Option Addr) (len cap : Nat) (zs : List Int) (w : World) (h : IsInts w a len cap zs) (hl : len ≤ 300) :
    Calls Try.prog 5 #[.slice a len cap] w fun e w' => e = .returned (.tuple #[.int .i64 (sumZ zs).1, .int .i64 (sumZ zs).2]) ∧ w' = w := by
  have HI : Hid (IsInts w a len cap zs) := h
  have hz := h.1
  have hcap := h.2.1
  have hmax := h.2.2.1
  unfold maxLen at hmax
  clear h
  go_enter Try.func5, Try.ntmps5
  go_wp2
  go_loop [4, 5, 12] (fun hi lo i => ∃ (k : Nat) (H L : Int), k ≤ len ∧ hi = .int .u64 H ∧ lo = .int .u64 L ∧ i = .int .i64 k ∧ 0 ≤ L ∧ L < 18446744073709551616 ∧ 0 ≤ H ∧ H < 18446744073709551616 ∧ Hid (L = tot (zs.take k) % 18446744073709551616 ∧ H = tot (zs.take k) / 18446744073709551616 % 18446744073709551616)) (fun _ _ i => len - (intOf i).toNat)
  case atStart => exact ⟨0, 0, 0, by omega, rfl, rfl, rfl, by omega, by omega, by omega, by omega, by show _ ∧ _; simp [tot]⟩
  case round =>
    obtain ⟨k, H, L, hk, rfl, rfl, rfl, hL0, hL1, hH0, hH1, HT⟩ := hrel
    by_cases hlt : k < len
    · have hlt' : (k : Int) < (len : Int) := by omega
      obtain ⟨b, off, rfl, hc⟩ := HI.out.2.2.2.2.2 (by omega)
      have hcell := hc k hlt
      have hbd := HI.out.2.2.2.2.1 (zs[k]?.getD 0) (by simp [show k < zs.length by omega])
      have HS : Hid (tot (zs.take (k + 1)) = tot (zs.take k) + zs[k]?.getD 0) := tot_take zs k (by omega)
      clear hc
      generalize zs[k]?.getD 0 = n at hcell hbd HS
      obtain ⟨hn0, hn1⟩ := hbd
      obtain ⟨u, hu⟩ : ∃ u, IntKind.u64.wrap n = u := ⟨_, rfl⟩
      have HU : Hid (u = n % 18446744073709551616) := by show _ = _; rw [← hu, wu64]
      have hu0 : 0 ≤ u := by rw [HU.out]; omega
      have hA := fun w' => add64_at L u w' hL0 hu0
      obtain ⟨L', hL'⟩ : ∃ x, x = (L + u + 0) % 18446744073709551616 := ⟨_, rfl⟩
      obtain ⟨C, hC⟩ : ∃ x, x = (L + u + 0) / 18446744073709551616 := ⟨_, rfl⟩
      rw [← hL', ← hC] at hA
      have e1 := step_low (tot (zs.take k)) n L HT.out.1
      have e2 := step_high (tot (zs.take k)) n L H C hn0 hn1 HT.out.1 HT.out.2 (by rw [hC, HU.out])
      rw [← HU.out, ← hL', ← HS.out] at e1
      rw [← HS.out] at e2
      have hL'0 : 0 ≤ L' := by omega
      have hL'1 : L' < 18446744073709551616 := by omega
      have HE : Hid (L' = tot (zs.take (k + 1)) % 18446744073709551616 ∧ (H + (aboveZ n + C) % 18446744073709551616) % 18446744073709551616 = tot (zs.take (k + 1)) / 18446744073709551616 % 18446744073709551616) := ⟨e1, e2⟩
      clear e1 e2 hL' hC HT HU HS
      go_wp2_with (first | (go_at_call 9; refine (above_any _ _ hn0 hn1).mono ?_; rintro e w1 ⟨rfl, hw1⟩; replace hw1 := hw1.symm; subst hw1))
      go_round
      case rel => exact ⟨k + 1, _, L', by omega, rfl, rfl, by go_num, hL'0, hL'1, by rw [wu64]; omega, by rw [wu64]; omega, by show _ ∧ _; rw [wu64, wu64]; exact HE.out⟩
      case measure => simp [intOf]; omega
    · have hge : ¬ (k : Int) < (len : Int) := by omega
      obtain rfl : k = len := by omega
      have hT := HT.out
      rw [List.take_of_length_le (by omega)] at hT
      have hbd := tot_bd zs HI.out.2.2.2.2.1
      have hse := step_end (tot zs) (by omega) (by omega) (wrap64 L) (by rw [w64, hT.1])
      rw [← hT.2] at hse
      have hLw := w64 L
      have HW : Hid (wrap64 L = (L + 9223372036854775808) % 18446744073709551616 - 9223372036854775808) := hLw
      have HB : Hid (L = tot zs % 18446744073709551616) := hT.1
      obtain ⟨m, hm⟩ : ∃ m, wrap64 L = m := ⟨_, rfl⟩
      rw [hm] at hse hLw
      have hm0 : -9223372036854775808 ≤ m := by omega
      have hm1 : m < 9223372036854775808 := by omega
      clear hbd hLw hT HT
      by_cases hf : H = aboveZ m
      · have hF := hse.1 hf
        have e : sumZ zs = (tot zs, 0) := if_pos hF
        have HM : Hid (m = tot zs) := by show m = _; have h1 := HW.out; have h2 := HB.out; rw [hm] at h1; omega
        have HZ : Hid (sumZ zs = _) := e
        clear hse hF e
        go_wp2_with (first | (go_at_call 9; refine (above_any _ _ hm0 hm1).mono ?_; rintro e w1 ⟨rfl, hw1⟩; replace hw1 := hw1.symm; subst hw1))
        go_ret2
        exact ⟨tup2 (by rw [HZ.out]; exact HM.out) (by rw [HZ.out]), rfl⟩
      · have hF := fun h => hf (hse.2 h)
        have e : sumZ zs = (0, 10) := if_neg hF
        have HZ : Hid (sumZ zs = _) := e
        clear hse hF e
        go_wp2_with (first | (go_at_call 9; refine (above_any _ _ hm0 hm1).mono ?_; rintro e w1 ⟨rfl, hw1⟩; replace hw1 := hw1.symm; subst hw1))
        go_ret2
        exact ⟨tup2 (by rw [HZ.out]) (by rw [HZ.out]), rfl⟩
end Go.Proofs.Ytddeneaenhoegaa
