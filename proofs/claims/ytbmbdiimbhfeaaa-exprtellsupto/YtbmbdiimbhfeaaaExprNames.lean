/-
  The law's own 'names': the same texts.
-/
import Derived.Test.YtbmbdiimbhfeaaaExprRefVars
import Derived.BigQuiet
namespace Go.Proofs.Ytbmbdiimbhfeaaa
open Go.RowKit

set_option maxRecDepth 100000 in
set_option maxHeartbeats 1000000 in
theorem names_same (a a' : Option Addr) (n cap cap' : Nat) (S : Nat → ByteArray) (w : World) (h : Txs w a n S) (h' : Txs w a' n S) (hn : n ≤ 1048576) :
    Calls Try.prog 19 #[.slice a n cap, .slice a' n cap'] w fun e w' => e = .returned (.bool true) ∧ Below w.heap.size w w' := by
  have HT : Hid (Txs w a n S) := h
  have HU : Hid (Txs w a' n S) := h'
  clear h h'
  go_enter Try.func19, Try.ntmps19
  go_wp2
  go_loopw [5] (fun i wr => ∃ k : Nat, k ≤ n ∧ i = .int .i64 k ∧ Below w.heap.size w wr) (fun i _ => n - (intOf i).toNat)
  case atStart => exact ⟨0, Nat.zero_le _, rfl, Below.refl _ _⟩
  case round =>
    obtain ⟨k, hk, rfl, hB⟩ := hrel
    by_cases hkn : k < n
    · obtain ⟨b, o, rfl, hc⟩ := (HT.out.later hB) (by omega)
      obtain ⟨b', o', rfl, hc'⟩ := (HU.out.later hB) (by omega)
      have c := hc k hkn
      have c' := hc' k hkn
      have HK : Hid (k < n) := hkn
      clear hc hc'
      go_wp2_with fail
      go_quiet (fail)
      go_wp2
      go_roundw
      case rel => exact ⟨k + 1, HK.out, by go_num, bd hB _⟩
      case measure => have := HK.out; simp [intOf]; omega
    · obtain rfl : k = n := by omega
      go_wp2
      go_ret
      exact ⟨rfl, hB⟩
end Go.Proofs.Ytbmbdiimbhfeaaa
