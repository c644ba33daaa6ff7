/-
  What the small functions answer: vint.Size, vint.moved at the shifts that are asked of it, Turn, Back, goesOn, and the document's Turn and Back.
-/
import Derived.Test.YtjnkplmcopihbaaLen
import Derived.Test.YtjnkplmcopihbaaNum
import Derived.Test.YtjnkplmcopihbaaDec
import Derived.Test.YtjnkplmcopihbaaRows
import Derived.WalkKit
import Derived.WalkLawsBesides
import Derived.WalkSpells
import Derived.Laws.BitsAllLaws
namespace Go.Proofs.Ytjnkplmcopihbaa
open Go.RowKit

theorem or_one (n : Int) (h0 : 0 ≤ n) (h1 : n < 18446744073709551616) : bits .or .u64 n 1 = 2 * (n / 2) + 1 := by
  rw [u64_or n 1 h0 h1 (by omega) (by omega)]
  have e : n.toNat ||| 1 = 2 * (n.toNat / 2) + 1 := by
    have e2 := nat_join 1 (2 * (n.toNat / 2)) 1 (by omega) (by omega)
    by_cases hp : n.toNat % 2 = 0
    · rw [show 2 * (n.toNat / 2) = n.toNat by omega] at e2 ⊢; exact e2
    · have e3 : n.toNat = 2 * (n.toNat / 2) ||| 1 := by rw [e2]; omega
      calc n.toNat ||| 1 = (2 * (n.toNat / 2) ||| 1) ||| 1 := by rw [← e3]
        _ = 2 * (n.toNat / 2) + 1 := by rw [Nat.or_assoc, Nat.or_self, e2]
  rw [show (1 : Int).toNat = 1 from rfl, e]
  omega

theorem ret_int {k : IntKind} {a b : Int} (h : a = b) : Ending.returned (.int k a) = .returned (.int k b) := by rw [h]
theorem ret_bool {a b : Bool} (h : a = b) : Ending.returned (.bool a) = .returned (.bool b) := by rw [h]

set_option maxHeartbeats 400000 in
/-- Size answers how many bytes of seven bits there are. -/
theorem size_any (n : Int) (w : World) (h0 : 0 ≤ n) (h1 : n < 18446744073709551616) :
    Calls Try.prog 46 #[.int .u64 n] w fun e w' => e = .returned (.int .i64 (sz 10 n.toNat)) ∧ w' = w := by
  obtain ⟨m, hm⟩ : ∃ m, bits .or .u64 n 1 = m := ⟨_, rfl⟩
  have hm' := or_one n h0 h1
  have hm0 : 0 ≤ m := by omega
  have hm1 : m < 18446744073709551616 := by omega
  have H : Hid (m = 2 * (n / 2) + 1) := by rw [← hm]; exact hm'
  clear hm'
  have hb : Lib.bitLen m.toNat ≤ 64 := Lib.bitLen_le _ 64 (by omega) (by omega)
  go_enter Try.func46, Try.ntmps46
  go_wp2_with (go_at_call 49; refine (len64_any _ _ (by omega) (by omega)).mono ?_; rintro e w' ⟨rfl, rfl⟩)
  go_ret
  refine ⟨ret_int ?_, rfl⟩
  have hn : m.toNat = 2 * (n.toNat / 2) + 1 := by have := H.out; omega
  have e1 := bit_odd n.toNat (by omega)
  have e2 := sz_ten n.toNat (by omega)
  rw [hn, e1, e2]
  omega
set_option maxHeartbeats 400000 in
theorem moved7 (n : Int) (w : World) :
    Calls Try.prog 47 #[.int .u64 n, .int .i64 (-7)] w fun e w' => e = .returned (.int .u64 (n / 128)) ∧ w' = w := by
  go_enter Try.func47, Try.ntmps47
  go_wp2
  go_ret
  exact ⟨rfl, rfl⟩
set_option maxHeartbeats 400000 in
theorem moved1 (n : Int) (w : World) :
    Calls Try.prog 47 #[.int .u64 n, .int .i64 (-1)] w fun e w' => e = .returned (.int .u64 (n / 2)) ∧ w' = w := by
  go_enter Try.func47, Try.ntmps47
  go_wp2
  go_ret
  exact ⟨rfl, rfl⟩
set_option maxHeartbeats 400000 in
theorem movedUp (n : Int) (k : Nat) (w : World) (hk : k ≤ 63) :
    Calls Try.prog 47 #[.int .u64 n, .int .i64 (k : Int)] w fun e w' => e = .returned (.int .u64 (IntKind.u64.wrap (n * 2 ^ k))) ∧ w' = w := by
  go_enter Try.func47, Try.ntmps47
  go_wp2
  go_ret
  exact ⟨rfl, rfl⟩
/-! ### Turned, and back -/
def turnZ (n : Int) : Int := if n < 0 then -2 * n - 1 else 2 * n
def backZ (n : Int) : Int := if n % 2 = 1 then -(n / 2) - 1 else n / 2

theorem turn_bd (n : Int) (h0 : -9223372036854775808 ≤ n) (h1 : n < 9223372036854775808) : 0 ≤ turnZ n ∧ turnZ n < 18446744073709551616 := by
  unfold turnZ; split <;> omega
theorem back_bd (n : Int) (h0 : 0 ≤ n) (h1 : n < 18446744073709551616) : -9223372036854775808 ≤ backZ n ∧ backZ n < 9223372036854775808 := by
  unfold backZ; split <;> omega
theorem back_turn (n : Int) : backZ (turnZ n) = n := by
  unfold turnZ backZ; split <;> split <;> omega
theorem turn_back (n : Int) (h0 : 0 ≤ n) : turnZ (backZ n) = n := by
  unfold turnZ backZ; split <;> split <;> omega

theorem turn_end (n s : Int) (h0 : -9223372036854775808 ≤ n) (h1 : n < 9223372036854775808) (hs : n < 0 ∧ s = -1 ∨ 0 ≤ n ∧ s = 0) :
    IntKind.u64.wrap (bits .xor .i64 (wrap64 (n * 2)) s) = turnZ n := by
  show IntKind.u64.wrap (IntKind.i64.wrap ((BitVec.ofInt 64 (wrap64 (n * 2)) ^^^ BitVec.ofInt 64 s).toNat : Int)) = _
  have e : (BitVec.ofInt 64 (wrap64 (n * 2))).toNat = ((n * 2) % 18446744073709551616).toNat := by
    simp only [BitVec.toNat_ofInt, wrap64]
    congr 1
    simp
    try omega
  rcases hs with ⟨hn, rfl⟩ | ⟨hn, rfl⟩
  · rw [show BitVec.ofInt 64 (-1) = BitVec.allOnes 64 by decide, BitVec.xor_allOnes, BitVec.toNat_not, e]
    simp only [IntKind.wrap, IntKind.bits, IntKind.signed, turnZ, if_pos hn]
    simp
    omega
  · rw [show BitVec.ofInt 64 0 = 0#64 by decide, BitVec.xor_zero, e]
    simp only [IntKind.wrap, IntKind.bits, IntKind.signed, turnZ, if_neg (show ¬ n < 0 by omega)]
    simp
    omega
theorem back_end (n : Int) (h0 : 0 ≤ n) (h1 : n < 18446744073709551616) : wrap64 (bits .xor .u64 (n / 2) (IntKind.u64.wrap (-(n % 2)))) = backZ n := by
  have e : (BitVec.ofInt 64 (n / 2)).toNat = (n / 2).toNat := by
    rw [show n / 2 = ((n / 2).toNat : Int) by omega, ofInt_u64 _ (by omega)]; omega
  show wrap64 (IntKind.u64.wrap ((BitVec.ofInt 64 (n / 2) ^^^ BitVec.ofInt 64 (IntKind.u64.wrap (-(n % 2)))).toNat : Int)) = _
  by_cases hn : n % 2 = 1
  · rw [hn, show BitVec.ofInt 64 (IntKind.u64.wrap (-1)) = BitVec.allOnes 64 by decide, BitVec.xor_allOnes, BitVec.toNat_not, e]
    simp only [IntKind.wrap, IntKind.bits, IntKind.signed, wrap64, backZ, if_pos hn]
    simp
    omega
  · rw [show n % 2 = 0 by omega, show BitVec.ofInt 64 (IntKind.u64.wrap (-0)) = 0#64 by decide, BitVec.xor_zero, e]
    simp only [IntKind.wrap, IntKind.bits, IntKind.signed, wrap64, backZ, if_neg hn]
    simp
    omega

set_option maxHeartbeats 400000 in
theorem goesOn_any (i c : Int) (w : World) :
    Calls Try.prog 50 #[.int .i64 i, .int .u8 c] w fun e w' => e = .returned (.bool (goesOnB i c)) ∧ w' = w := by
  go_enter Try.func50, Try.ntmps50
  go_wp2
  all_goals go_ret
  all_goals refine ⟨ret_bool ?_, rfl⟩
  all_goals (unfold goesOnB; rw [Bool.eq_iff_iff]; simp <;> omega)
end Go.Proofs.Ytjnkplmcopihbaa
