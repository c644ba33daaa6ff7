/-
  The document's Book (P7.1).
-/
import Derived.Test.YtelabjipclfpnaaSchRefCheck
namespace Go.Proofs.Ytelabjipclfpnaa
open Go.RowKit

theorem dupB_yes (Nm : Nat → ByteArray) : ∀ n, (∃ i j, i < j ∧ j < n ∧ Nm i = Nm j) → dupB Nm n = true
  | 0, h => by obtain ⟨i, j, _, h, _⟩ := h; omega
  | n + 1, h => by
    obtain ⟨i, j, h1, h2, h3⟩ := h
    simp only [dupB, Bool.or_eq_true]
    by_cases e : j = n
    · subst e
      exact .inr ((seenB_iff Nm (Nm j) j).2 ⟨i, h1, h3⟩)
    · exact .inl (dupB_yes Nm n ⟨i, j, h1, by omega, h3⟩)
theorem dupB_next (Nm : Nat → ByteArray) (i : Nat) (h : dupB Nm i = false) (h2 : ∀ j, j < i → ¬ Nm j = Nm i) : dupB Nm (i + 1) = false := by
  simp only [dupB, h, Bool.false_or]
  cases e : seenB Nm (Nm i) i with
  | false => rfl
  | true =>
    obtain ⟨j, h3, h4⟩ := (seenB_iff Nm (Nm i) i).1 e
    exact absurd h4 (h2 j h3)
set_option maxRecDepth 100000 in
set_option maxHeartbeats 4000000 in
theorem refBook_long (a : Option Addr) (n cap : Nat) (w : World) (hn : ¬ n ≤ 16) :
    Calls Try.prog 25 #[.slice a n cap] w fun e w' => e = .returned (.int .i64 2) ∧ Below w.heap.size w w' := by
  have h16 : 16 < (n : Int) := by omega
  go_enter Try.func25, Try.ntmps25
  go_wp2
  go_ret
  exact ⟨rfl, Below.refl _ _⟩
set_option maxRecDepth 100000 in
set_option maxHeartbeats 4000000 in
theorem refBook_few (a : Option Addr) (n cap : Nat) (Q : Nat → Sch) (w : World) (H : Schs w a n Q) (hn : n ≤ 16) :
    Calls Try.prog 25 #[.slice a n cap] w fun e w' => e = .returned (.int .i64 (if chks Q n = 0 then (if dupB (fun j => (Q j).nm) n = true then 4 else 0) else chks Q n)) ∧ Below w.heap.size w w' := by
  obtain ⟨x, hx⟩ : ∃ x : Int, x = if chks Q n = 0 then (if dupB (fun j => (Q j).nm) n = true then 4 else 0) else chks Q n := ⟨_, rfl⟩
  rw [← hx]
  have HQ : Hid (x = if chks Q n = 0 then (if dupB (fun j => (Q j).nm) n = true then 4 else 0) else chks Q n) := hx
  have h16 : ¬ 16 < (n : Int) := by omega
  have HF : Hid (Schs w a n Q) := H
  clear hx H
  go_enter Try.func25, Try.ntmps25
  go_wp2
  go_loopw [3] (fun v wr => ∃ k : Nat, k ≤ n ∧ v = .int .i64 k ∧ Hid (chks Q k = 0) ∧ Below w.heap.size w wr) (fun v _ => n - (intOf v).toNat)
  case atStart => exact ⟨0, Nat.zero_le _, rfl, rfl, Below.refl _ _⟩
  case round =>
    obtain ⟨k, hk, rfl, HA, hB⟩ := hrel
    by_cases hkn : k < n
    · have HG := HF.out.later hB
      obtain ⟨b, off, rfl, hc⟩ := HG.1 (by omega)
      have f0 := (hc k hkn).1.1
      have f1 := (hc k hkn).1.2
      obtain ⟨y, hy⟩ : ∃ y, y = (Q k).chk := ⟨_, rfl⟩
      have C : Hid (Calls Try.prog 34 #[schV (Q k).nm (Q k).v] _ _) := refCheck_any (Q k).nm (Q k).a (Q k).l (Q k).c (Q k).fn (Q k).fk wr (HG.2 k hkn).1 (hc k hkn).2
      have HY : Hid (y = (Q k).chk) := hy
      rw [show chkZ (Q k).nm (Q k).l (Q k).fn (Q k).fk = y from hy.symm] at C
      clear hc HG hy
      by_cases hy0 : y = 0
      · subst hy0
        go_wp2_with (first | (go_at_call 34; refine C.out.mono ?_; rintro e w5 ⟨rfl, hB5⟩))
        go_roundw
        case rel => exact ⟨k + 1, by omega, by go_num, by show chks Q (k + 1) = 0; simp only [chks]; rw [if_pos HA.out]; exact HY.out.symm, bt hB hB5⟩
        case measure => simp [intOf]; omega
      · have hy1 : (y == 0) = false := by simpa using hy0
        go_wp2_with (first | (go_at_call 34; refine C.out.mono ?_; rintro e w5 ⟨rfl, hB5⟩))
        try rw [Exit.noGoto_ret]
        go_ret
        refine ⟨ret_int ?_, bt hB hB5⟩
        have e1 := chks_stop Q k HA.out (by rw [← HY.out]; exact hy0) n hkn
        rw [HQ.out, e1, ← HY.out, if_neg hy0]
    · obtain rfl : k = n := by omega
      generalize wr = wo at *
      go_wp2
      go_loopw [5] (fun v wr => ∃ i : Nat, i ≤ k ∧ v = .int .i64 i ∧ Hid (dupB (fun j => (Q j).nm) i = false) ∧ Below wo.heap.size wo wr) (fun v _ => k - (intOf v).toNat)
      case atStart => exact ⟨0, Nat.zero_le _, rfl, rfl, Below.refl _ _⟩
      case round =>
        obtain ⟨i, hi, rfl, HD, hB2⟩ := hrel
        by_cases hik : i < k
        · generalize wr = wp at *
          go_wp2_with fail
          go_loopw [6] (fun v wr => ∃ j : Nat, j ≤ i ∧ v = .int .i64 j ∧ Hid (∀ q, q < j → ¬ (Q q).nm = (Q i).nm) ∧ Below wp.heap.size wp wr) (fun v _ => i - (intOf v).toNat)
          case atStart => exact ⟨0, Nat.zero_le _, rfl, fun q hq => by omega, Below.refl _ _⟩
          case round =>
            obtain ⟨j, hj, rfl, HJ, hB3⟩ := hrel
            have hB4 := bt hB (bt hB2 hB3)
            by_cases hji : j < i
            · obtain ⟨b, off, rfl, hc⟩ := (HF.out.later hB4).1 (by omega)
              have f0 := (hc j (by omega)).1.1
              have f1 := (hc i hik).1.1
              have hjk : j < k := by omega
              clear hc
              by_cases hs : (Q j).nm = (Q i).nm
              · have s1 := str_yes hs
                have HN : Hid (dupB (fun j => (Q j).nm) k = true) := dupB_yes _ k ⟨j, i, hji, hik, hs⟩
                clear hs
                go_wp2_with fail
                go_quiet (fail)
                go_wp2
                repeat rw [Exit.noGoto_ret]
                go_ret
                exact ⟨ret_int (by rw [HQ.out, if_pos HA.out, if_pos HN.out]), bd hB4 _⟩
              · have s1 := str_not hs
                have HJ2 : Hid (∀ q, q < j + 1 → ¬ (Q q).nm = (Q i).nm) := fun q hq => if e : q = j then e ▸ hs else HJ.out q (by omega)
                clear hs
                go_wp2_with fail
                go_quiet (fail)
                go_wp2
                go_roundw
                case rel => exact ⟨j + 1, by omega, by go_num, HJ2, bd hB3 _⟩
                case measure => simp [intOf]; omega
            · obtain rfl : j = i := by omega
              go_wp2
              go_roundw
              case rel => exact ⟨j + 1, by omega, by go_num, dupB_next _ j HD.out HJ.out, bt hB2 hB3⟩
              case measure => simp [intOf]; omega
        · obtain rfl : i = k := by omega
          go_wp2
          go_ret
          exact ⟨ret_int (by rw [HQ.out, if_pos HA.out, HD.out]; rfl), bt hB hB2⟩
theorem refBook_any (a : Option Addr) (n cap : Nat) (Q : Nat → Sch) (w : World) (H : Schs w a n Q) :
    Calls Try.prog 25 #[.slice a n cap] w fun e w' => e = .returned (.int .i64 (bookZ n Q)) ∧ Below w.heap.size w w' := by
  unfold bookZ
  by_cases hn : n ≤ 16
  · rw [if_neg (by omega)]
    exact refBook_few a n cap Q w H hn
  · rw [if_pos (by omega)]
    exact refBook_long a n cap w hn
end Go.Proofs.Ytelabjipclfpnaa
