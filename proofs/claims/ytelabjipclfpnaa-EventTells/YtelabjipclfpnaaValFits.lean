/-
  value.Fits at any value (P6.2): right, a kind that a field may have, and null or of that kind.
-/
import Derived.Test.YtelabjipclfpnaaValRight
import Derived.Test.YtelabjipclfpnaaSchBase
namespace Go.Proofs.Ytelabjipclfpnaa
open Go.RowKit

/-- Does a value fit a kind? -/
def fitsV (k n : Int) (s : ByteArray) (d : Int) : Bool := rightB k n s && (kindB d && (decide (k = 0) || decide (k = d)))
set_option maxHeartbeats 1000000 in
theorem fits_right (k n : Int) (s : ByteArray) (d : Int) (w : World) (hr : rightB k n s = false) : Calls Try.prog 40 #[valV k n s, .int .i64 d] w fun e w' => e = .returned (.bool (fitsV k n s d)) ∧ Below w.heap.size w w' := by
  have HR : Hid (rightB k n s = false) := hr
  have hB0 : Below w.heap.size w (w.alloc (valO k n s)) := (Below.refl _ _).alloc (Nat.le_refl _) _
  have C : Hid (Calls Try.prog 48 _ _ _) := right_any k n s (w.alloc (valO k n s))
  rw [hr] at C
  obtain ⟨f, hf⟩ : ∃ f, f = fitsV k n s d := ⟨_, rfl⟩
  rw [← hf]
  have HF : Hid (f = fitsV k n s d) := hf
  have HX : Hid ((w.alloc (valO k n s)).cell? ⟨w.heap.size, 0, none⟩ = some (.int .i64 k)) := by
    show (w.alloc (valO k n s)).cell? ⟨w.heap.size, 0, none⟩ = some (.int .i64 k)
    simp
  clear hf hr
  go_enter Try.func40, Try.ntmps40
  go_wp2_with (first | (go_at_call 48; refine C.out.mono ?_; rintro e w1 ⟨rfl, hB1⟩; have f0 := cell_later HX.out hB1))
  go_ret
  exact ⟨ret_bool (by rw [HF.out]; simp [fitsV, HR.out]), bt hB0 hB1⟩
set_option maxHeartbeats 1000000 in
theorem fits_low (k n : Int) (s : ByteArray) (d : Int) (w : World) (hr : rightB k n s = true) (h1 : ¬ 1 ≤ d) : Calls Try.prog 40 #[valV k n s, .int .i64 d] w fun e w' => e = .returned (.bool (fitsV k n s d)) ∧ Below w.heap.size w w' := by
  have HR : Hid (rightB k n s = true) := hr
  have hB0 : Below w.heap.size w (w.alloc (valO k n s)) := (Below.refl _ _).alloc (Nat.le_refl _) _
  have C : Hid (Calls Try.prog 48 _ _ _) := right_any k n s (w.alloc (valO k n s))
  rw [hr] at C
  obtain ⟨f, hf⟩ : ∃ f, f = fitsV k n s d := ⟨_, rfl⟩
  rw [← hf]
  have HF : Hid (f = fitsV k n s d) := hf
  have HX : Hid ((w.alloc (valO k n s)).cell? ⟨w.heap.size, 0, none⟩ = some (.int .i64 k)) := by
    show (w.alloc (valO k n s)).cell? ⟨w.heap.size, 0, none⟩ = some (.int .i64 k)
    simp
  clear hf hr
  go_enter Try.func40, Try.ntmps40
  go_wp2_with (first | (go_at_call 48; refine C.out.mono ?_; rintro e w1 ⟨rfl, hB1⟩; have f0 := cell_later HX.out hB1))
  go_ret
  exact ⟨ret_bool (by rw [HF.out]; rw [fitsV, kindB, decide_eq_false (by omega)]; simp), bt hB0 hB1⟩
set_option maxHeartbeats 1000000 in
theorem fits_high (k n : Int) (s : ByteArray) (d : Int) (w : World) (hr : rightB k n s = true) (h1 : 1 ≤ d) (h3 : ¬ d ≤ 3) : Calls Try.prog 40 #[valV k n s, .int .i64 d] w fun e w' => e = .returned (.bool (fitsV k n s d)) ∧ Below w.heap.size w w' := by
  have HR : Hid (rightB k n s = true) := hr
  have hB0 : Below w.heap.size w (w.alloc (valO k n s)) := (Below.refl _ _).alloc (Nat.le_refl _) _
  have C : Hid (Calls Try.prog 48 _ _ _) := right_any k n s (w.alloc (valO k n s))
  rw [hr] at C
  obtain ⟨f, hf⟩ : ∃ f, f = fitsV k n s d := ⟨_, rfl⟩
  rw [← hf]
  have HF : Hid (f = fitsV k n s d) := hf
  have HX : Hid ((w.alloc (valO k n s)).cell? ⟨w.heap.size, 0, none⟩ = some (.int .i64 k)) := by
    show (w.alloc (valO k n s)).cell? ⟨w.heap.size, 0, none⟩ = some (.int .i64 k)
    simp
  clear hf hr
  go_enter Try.func40, Try.ntmps40
  go_wp2_with (first | (go_at_call 48; refine C.out.mono ?_; rintro e w1 ⟨rfl, hB1⟩; have f0 := cell_later HX.out hB1))
  go_ret
  exact ⟨ret_bool (by rw [HF.out]; rw [fitsV, kindB, decide_eq_false (p := d ≤ 3) (by omega)]; simp), bt hB0 hB1⟩
set_option maxHeartbeats 1000000 in
theorem fits_null0 (k n : Int) (s : ByteArray) (d : Int) (w : World) (hr : rightB k n s = true) (h1 : 1 ≤ d) (h3 : d ≤ 3) (h0 : k = 0) : Calls Try.prog 40 #[valV k n s, .int .i64 d] w fun e w' => e = .returned (.bool (fitsV k n s d)) ∧ Below w.heap.size w w' := by
  subst h0
  have HR : Hid (rightB 0 n s = true) := hr
  have hB0 : Below w.heap.size w (w.alloc (valO 0 n s)) := (Below.refl _ _).alloc (Nat.le_refl _) _
  have C : Hid (Calls Try.prog 48 _ _ _) := right_any 0 n s (w.alloc (valO 0 n s))
  rw [hr] at C
  obtain ⟨f, hf⟩ : ∃ f, f = fitsV 0 n s d := ⟨_, rfl⟩
  rw [← hf]
  have HF : Hid (f = fitsV 0 n s d) := hf
  have HX : Hid ((w.alloc (valO 0 n s)).cell? ⟨w.heap.size, 0, none⟩ = some (.int .i64 0)) := by
    show (w.alloc (valO 0 n s)).cell? ⟨w.heap.size, 0, none⟩ = some (.int .i64 0)
    simp
  clear hf hr
  go_enter Try.func40, Try.ntmps40
  go_wp2_with (first | (go_at_call 48; refine C.out.mono ?_; rintro e w1 ⟨rfl, hB1⟩; have f0 := cell_later HX.out hB1))
  go_ret
  exact ⟨ret_bool (by rw [HF.out]; rw [fitsV, HR.out, kindB, decide_eq_true h1, decide_eq_true h3]; simp), bt hB0 hB1⟩
set_option maxHeartbeats 1000000 in
theorem fits_kind (k n : Int) (s : ByteArray) (d : Int) (w : World) (hr : rightB k n s = true) (h1 : 1 ≤ d) (h3 : d ≤ 3) (h0 : ¬ k = 0) : Calls Try.prog 40 #[valV k n s, .int .i64 d] w fun e w' => e = .returned (.bool (fitsV k n s d)) ∧ Below w.heap.size w w' := by
  have hk0 : (k == 0) = false := by simpa using h0
  have H0 : Hid (¬ k = 0) := h0
  clear h0
  have HR : Hid (rightB k n s = true) := hr
  have hB0 : Below w.heap.size w (w.alloc (valO k n s)) := (Below.refl _ _).alloc (Nat.le_refl _) _
  have C : Hid (Calls Try.prog 48 _ _ _) := right_any k n s (w.alloc (valO k n s))
  rw [hr] at C
  obtain ⟨f, hf⟩ : ∃ f, f = fitsV k n s d := ⟨_, rfl⟩
  rw [← hf]
  have HF : Hid (f = fitsV k n s d) := hf
  have HX : Hid ((w.alloc (valO k n s)).cell? ⟨w.heap.size, 0, none⟩ = some (.int .i64 k)) := by
    show (w.alloc (valO k n s)).cell? ⟨w.heap.size, 0, none⟩ = some (.int .i64 k)
    simp
  clear hf hr
  go_enter Try.func40, Try.ntmps40
  go_wp2_with (first | (go_at_call 48; refine C.out.mono ?_; rintro e w1 ⟨rfl, hB1⟩; have f0 := cell_later HX.out hB1))
  go_ret
  exact ⟨ret_bool (by rw [HF.out]; rw [fitsV, HR.out, kindB, decide_eq_true h1, decide_eq_true h3, decide_eq_false H0.out]; simp; rfl), bt hB0 hB1⟩
theorem valFits_any (k n : Int) (s : ByteArray) (d : Int) (w : World) : Calls Try.prog 40 #[valV k n s, .int .i64 d] w fun e w' => e = .returned (.bool (fitsV k n s d)) ∧ Below w.heap.size w w' := by
  cases hr : rightB k n s with
  | false => exact fits_right k n s d w hr
  | true =>
    by_cases h1 : 1 ≤ d
    · by_cases h3 : d ≤ 3
      · by_cases h0 : k = 0
        · exact fits_null0 k n s d w hr h1 h3 h0
        · exact fits_kind k n s d w hr h1 h3 h0
      · exact fits_high k n s d w hr h1 h3
    · exact fits_low k n s d w hr h1
end Go.Proofs.Ytelabjipclfpnaa
