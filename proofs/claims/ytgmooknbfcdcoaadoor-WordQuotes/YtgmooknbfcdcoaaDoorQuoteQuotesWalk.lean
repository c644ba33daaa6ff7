/-
  The walk of the law WordQuotes.
-/
import Derived.Test.YtgmooknbfcdcoaaDoorQuoteRefUnq
import Derived.Test.YtgmooknbfcdcoaaDoorWordAwake
namespace Go.Proofs.YtgmooknbfcdcoaaDoor
open Go.RowKit

set_option maxRecDepth 100000 in
set_option maxHeartbeats 1000000 in
theorem quotes_walk (a b : ByteArray) (w : World) (hT : Tabs w) (hb : b.size ≤ 140737488351232) :
    Calls Tryd.prog 3 #[.string a, .string b] w fun e w' => e = .returned (.bool true) ∧ Below w.heap.size w w' := by
  have HT : Hid (Tabs w) := hT
  have CQ : Hid (∃ (X : ByteArray) (E : Int), (∀ w', Below w.heap.size w w' → Calls Tryd.prog 6 #[.string a] w' fun e w'' => e = .returned (.tuple #[.string X, .int .i64 E]) ∧ Below w'.heap.size w' w'') ∧
      ∀ w', Calls Tryd.prog 7 #[.string a] w' fun e w'' => e = .returned (.tuple #[.string X, .int .i64 E]) ∧ Below w'.heap.size w' w'') := by
    by_cases hl : 256 < a.size
    · exact ⟨_, _, fun w' _ => (quote_long a w' hl).mono fun e w'' ⟨h1, h2⟩ => ⟨h1, by rw [h2]; exact Below.refl _ _⟩, fun w' => (refQuote_long a w' hl).mono fun e w'' ⟨h1, h2⟩ => ⟨h1, by rw [h2]; exact Below.refl _ _⟩⟩
    · exact ⟨_, _, fun w' h => quote_ok a w' (hT.later h hT.two) (by omega), fun w' => refQuote_ok a w' (by omega)⟩
  obtain ⟨X, E, hq, hr⟩ := CQ.out
  have HU : Hid (∀ w', Below w.heap.size w w' → Calls Tryd.prog 8 #[.string b] w' _) := fun w' h => unquote_any b w' (hT.later h hT.two) (by omega)
  have HV : Hid (∀ w', Calls Tryd.prog 9 #[.string b] w' _) := fun w' => refUnquote_any b w' (by omega)
  have HQ : Hid (∀ w', Below w.heap.size w w' → Calls Tryd.prog 6 #[.string a] w' _) := hq
  have HR : Hid (∀ w', Calls Tryd.prog 7 #[.string a] w' _) := hr
  clear hq hr CQ hT
  generalize unquoteR (bytesS b) = R at HU HV
  obtain ⟨l, n, f⟩ := R
  dsimp only at HU HV
  generalize strOf l = Y at HU HV
  go_enter Tryd.func3, Tryd.ntmps3
  go_wp2_with (first
    | (go_at_call 6; refine (HQ.out _ (Below.refl _ _)).mono ?_; clear HQ; rintro e w1 ⟨rfl, k1⟩)
    | (go_at_call 7; refine (HR.out _).mono ?_; clear HR; rintro e w2 ⟨rfl, hB2⟩
       have k2 := k1.trans (hB2.mono k1.size))
    | (go_at_call 8; refine (HU.out _ k2).mono ?_; clear HU; rintro e w3 ⟨rfl, hB3⟩
       have k3 := k2.trans (hB3.mono k2.size))
    | (go_at_call 9; refine (HV.out _).mono ?_; clear HV; rintro e w4 ⟨rfl, hB4⟩
       have k4 := k3.trans (hB4.mono k3.size))
    | (go_at_call 10; refine (awake_word _).mono ?_; rintro e w8 ⟨rfl, hB8⟩))
  go_ret
  exact ⟨rfl, k4.trans (hB8.mono k4.size)⟩
end Go.Proofs.YtgmooknbfcdcoaaDoor
