/-
  DictZero's walk: a dictionary that nobody made has nothing.
-/
import Derived.Test.YtjnkplmcopihbaaDcAwake
import Derived.Test.YtjnkplmcopihbaaWriter
namespace Go.Proofs.Ytjnkplmcopihbaa
open Go.RowKit Go.Maps Go.WideMaps

set_option maxRecDepth 100000 in
set_option maxHeartbeats 2000000 in
theorem zero_walk (s : ByteArray) (w : World) : Calls Try.prog 5 #[.string s] w fun e w' => e = .returned (.bool true) ∧ Below w.heap.size w w' := by
  go_enter Try.func5, Try.ntmps5
  go_wp2_with (first
    | (go_at_call 9
       refine (addD_no _ (.inl rfl)).mono ?_
       rintro e w1 ⟨rfl, hw1⟩
       have hB1 : Below w.heap.size w w1 := by rw [hw1]; exact (Below.refl _ w).alloc (Nat.le_refl _) _
       have hV : NoD w1 (.pointer (some ⟨w.heap.size, 0, none⟩)) := .inr ⟨_, rfl, by rw [hw1]; simp⟩
       have HV : Hid (NoD w1 (.pointer (some ⟨w.heap.size, 0, none⟩))) := hV
       clear hw1 hV)
    | (go_at_call 11
       refine (getD_no _ HV.out).mono ?_
       rintro e w2 ⟨rfl, hw2⟩
       replace hw2 := hw2.symm
       subst hw2)
    | (go_at_call 13
       refine (findD_no _ (.inl rfl)).mono ?_
       rintro e w3 ⟨rfl, hw3⟩
       replace hw3 := hw3.symm
       subst hw3)
    | (go_at_call 16
       refine (newWriter_ok 9 _ _ (by omega) (by omega) (Nat.le_refl _)).mono ?_
       rintro e w4 ⟨rfl, -, hB4⟩
       have HB4 : Hid (Below w.heap.size w w4) := hB1.trans (hB4.mono hB1.size)
       have HV4 : Hid (NoD w4 (.pointer (some ⟨w.heap.size, 0, none⟩))) := HV.out.later hB4
       clear hB4)
    | (go_at_call_of 15 (Value.pointer none)
       refine (lenD_no (.inl rfl)).mono ?_
       rintro e w5 ⟨rfl, hw5⟩
       replace hw5 := hw5.symm
       subst hw5)
    | (go_at_call_of 15 (Value.pointer (some ⟨w.heap.size, 0, none⟩))
       refine (lenD_no HV4.out).mono ?_
       rintro e w6 ⟨rfl, hw6⟩
       replace hw6 := hw6.symm
       subst hw6)
    | (go_at_call_of 18 (Value.pointer none)
       refine (putD_no _ (.inl rfl)).mono ?_
       rintro e w7 ⟨rfl, hw7⟩
       replace hw7 := hw7.symm
       subst hw7)
    | (go_at_call_of 18 (Value.pointer (some ⟨w.heap.size, 0, none⟩))
       refine (putD_no _ HV4.out).mono ?_
       rintro e w8 ⟨rfl, hw8⟩
       replace hw8 := hw8.symm
       subst hw8))
  go_ret
  exact ⟨rfl, HB4.out⟩
end Go.Proofs.Ytjnkplmcopihbaa
