/-
  What math/bits.Len64 answers, at every number: its length in bits.
-/
import Derived.Test.YtjnkplmcopihbaaProg
import Derived.Lib.Strings
import Derived.Lib.Slices
import Derived.Lib.Small
import Derived.Lib.Walk
import Derived.Lib.BitFns
namespace Go.Proofs.Ytjnkplmcopihbaa

theorem len8_at (k : Nat) (x y : Int) (h0 : 0 ≤ x) (h1 : x < 18446744073709551616) (hy : y.toNat = x.toNat / 2 ^ k) (hy0 : 0 ≤ y) (hy1 : y ≤ 255) (hlo : k = 0 ∨ 2 ^ k ≤ x.toNat) :
    Lib.len8 y + (k : Int) = (Lib.bitLen x.toNat : Int) := by
  rw [Lib.len8_of y hy0 hy1, hy]
  rcases hlo with rfl | hlo
  · simp
  · rw [Lib.bitLen_shift k x.toNat hlo (by omega)]; omega

theorem len8_end (k : Nat) (x y : Int) (h0 : 0 ≤ x) (h1 : x < 18446744073709551616) (hk : k ≤ 56) (hy : y.toNat = x.toNat / 2 ^ k) (hy0 : 0 ≤ y) (hy1 : y ≤ 255) (hlo : k = 0 ∨ 2 ^ k ≤ x.toNat) :
    ((k : Int) + ((Lib.len8 y + 9223372036854775808) % 18446744073709551616 - 9223372036854775808) + 9223372036854775808) % 18446744073709551616 - 9223372036854775808 = (Lib.bitLen x.toNat : Int) := by
  have e := len8_at k x y h0 h1 hy hy0 hy1 hlo
  have b := Lib.bitLen_le8' y hy0 hy1
  have l := Lib.len8_of y hy0 hy1
  omega

set_option maxHeartbeats 2000000 in
set_option maxRecDepth 100000 in
/-- Len64 answers the length in bits; the world is as it was. -/
theorem len64_any (x : Int) (w : World) (h0 : 0 ≤ x) (h1 : x < 18446744073709551616) :
    Calls Try.prog 49 #[.int .u64 x] w fun e w' => e = .returned (.int .i64 (Lib.bitLen x.toNat)) ∧ w' = w := by
  go_enter Try.func49, Try.ntmps49
  go_wp2
  all_goals (go_ret; refine ⟨congrArg Ending.returned (congrArg (Value.int IntKind.i64) ?_), rfl⟩)
  · exact len8_end 56 x _ h0 h1 (by omega) (by omega) (by omega) (by omega) (.inr (by omega))
  · exact len8_end 48 x _ h0 h1 (by omega) (by omega) (by omega) (by omega) (.inr (by omega))
  · exact len8_end 40 x _ h0 h1 (by omega) (by omega) (by omega) (by omega) (.inr (by omega))
  · exact len8_end 32 x _ h0 h1 (by omega) (by omega) (by omega) (by omega) (.inr (by omega))
  · exact len8_end 24 x _ h0 h1 (by omega) (by omega) (by omega) (by omega) (.inr (by omega))
  · exact len8_end 16 x _ h0 h1 (by omega) (by omega) (by omega) (by omega) (.inr (by omega))
  · exact len8_end 8 x _ h0 h1 (by omega) (by omega) (by omega) (by omega) (.inr (by omega))
  · have e := len8_end 0 x (x % 256) h0 h1 (by omega) (by omega) (by omega) (by omega) (.inl rfl)
    omega
end Go.Proofs.Ytjnkplmcopihbaa
