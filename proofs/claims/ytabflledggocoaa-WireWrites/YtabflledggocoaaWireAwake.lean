/-
  The law's own 'awake' answers true.
-/
import Derived.Test.YtabflledggocoaaReader
namespace Go.Proofs.Ytabflledggocoaa
open Go.RowKit

theorem awake_e : putE 9 [] (enc 10 (⟨#[97, 98]⟩ : ByteArray).size ++ bytesS ⟨#[97, 98]⟩) = 0 := by decide +kernel
theorem awake_l : (putL 9 [] (enc 10 (⟨#[97, 98]⟩ : ByteArray).size ++ bytesS ⟨#[97, 98]⟩)).length = 3 := by decide +kernel
/-- What is touched of the call's own leaves what was there. -/
theorem Wrote.below {w0 w w' : World} {B p h : Nat} {most : Int} {v : Value} {l x : List Int} {e : Ending} (H : Wr w B p h most v l) (hB : B ≤ w.heap.size) (t : Wrote w B p h most v l x e w') (b : Below B w0 w) : Below B w0 w' := by
  obtain ⟨v', _, _, h3, _⟩ := t
  exact b.trans (h3.below hB H.hd.low fun k hk => (H.hd.own.lt k hk).1)

set_option maxHeartbeats 1000000 in
theorem awake_any (w : World) : Calls Try.prog 8 #[] w fun e w' => e = .returned (.bool true) ∧ Below w.heap.size w w' := by
  have C : Hid (Calls Try.prog 6 _ _ _) := newWriter_ok 9 w.heap.size w (by omega) (by omega) (Nat.le_refl _)
  go_enter Try.func8, Try.ntmps8
  go_wp2_with (first
    | (go_at_call 6
       refine C.out.mono ?_
       rintro e w1 ⟨rfl, hW1, hB1⟩
       have HW1 : Hid (Wr w1 w.heap.size (w.heap.size + 1) w.heap.size 9 (.slice none 0 0) []) := hW1
       clear hW1)
    | (go_at_call 13
       refine (wtext_any HW1.out hB1.size ⟨#[97, 98]⟩ (by decide)).mono ?_
       rintro e w2 h2
       have hB2 : Below w.heap.size w w2 := h2.below HW1.out hB1.size hB1
       obtain ⟨v2, rfl, hW2, -, -⟩ := h2
       rw [awake_e]
       have HW2 : Hid (Wr w2 w.heap.size (w.heap.size + 1) w.heap.size 9 v2 _) := hW2
       clear hW2)
    | (go_at_call 17
       refine (wdone_any HW2.out).mono ?_
       rintro e w3 ⟨u, rfl, hown3, hB3⟩
       rw [awake_l] at hown3
       obtain ⟨a3, c3, rfl⟩ := own_slice hown3
       clear hown3))
  go_ret
  exact ⟨rfl, hB2.trans (hB3.mono hB2.size)⟩
end Go.Proofs.Ytabflledggocoaa
