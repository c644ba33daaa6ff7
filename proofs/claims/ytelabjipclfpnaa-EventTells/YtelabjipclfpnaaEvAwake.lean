/-
  The law's own 'awake' (haruspexlaw08).
-/
import Derived.Test.YtelabjipclfpnaaEvOf
namespace Go.Proofs.Ytelabjipclfpnaa
open Go.RowKit

theorem field_row1 (w : World) (s : ByteArray) (k : Int) (h : s.size ≤ maxLen) : Flds (w.alloc (fldO s k)) (some ⟨w.heap.size, 0, none⟩) 1 (fun _ => s) (fun _ => k) := by
  intro _
  refine ⟨w.heap.size, 0, rfl, fun j hj => ?_⟩
  obtain rfl : j = 0 := by omega
  refine ⟨⟨?_, ?_⟩, h⟩ <;> rw [World.cell?_alloc_at _ _ _ _ rfl] <;> rfl
def awakeQ (p : Nat) : Nat → Sch := fun _ => ⟨⟨#[97]⟩, some ⟨p, 0, none⟩, 1, 1, fun _ => ⟨#[120]⟩, fun _ => 2⟩
theorem plc_awake (p : Nat) : (plc 1 (awakeQ p) ⟨#[97]⟩ ⟨#[120]⟩).isSome = true := by
  unfold plc schOf
  rw [idx_at (fun j => (awakeQ p j).nm) ⟨#[97]⟩ 1 0 (by omega) rfl (fun j hj => by omega)]
  show (idx (fun _ => (⟨#[120]⟩ : ByteArray)) ⟨#[120]⟩ 1).isSome = true
  rw [idx_at (fun _ => (⟨#[120]⟩ : ByteArray)) ⟨#[120]⟩ 1 0 (by omega) rfl (fun j hj => by omega)]
  rfl
theorem awake_row (w w1 : World) (h1 : w1 = w.alloc (fldO ⟨#[120]⟩ 2)) : Schs (w1.alloc (schO ⟨#[97]⟩ (.slice (some ⟨w.heap.size, 0, none⟩) 1 1))) (some ⟨w.heap.size + 1, 0, none⟩) 1 (awakeQ w.heap.size) := by
  have hz : w1.heap.size = w.heap.size + 1 := by rw [h1]; simp
  rw [← hz]
  have hF : Flds w1 (some ⟨w.heap.size, 0, none⟩) 1 (fun _ => ⟨#[120]⟩) (fun _ => 2) := h1 ▸ field_row1 w ⟨#[120]⟩ 2 (by decide)
  have hB2 : Below w1.heap.size w1 (w1.alloc (schO ⟨#[97]⟩ (.slice (some ⟨w.heap.size, 0, none⟩) 1 1))) := (Below.refl _ _).alloc (Nat.le_refl _) _
  refine ⟨fun _ => ⟨w1.heap.size, 0, rfl, fun j hj => ?_⟩, fun j hj => ⟨hF.later hB2, by show (1 : Nat) ≤ _; omega⟩⟩
  obtain rfl : j = 0 := by omega
  refine ⟨⟨?_, ?_⟩, by show (⟨#[97]⟩ : ByteArray).size ≤ maxLen; decide⟩ <;> rw [World.cell?_alloc_at _ _ _ _ rfl] <;> rfl
set_option maxHeartbeats 1000000 in
/-- The law's own 'awake' answers true. -/
theorem awake_any (w : World) : Calls Try.prog 6 #[] w fun e w' => e = .returned (.bool true) ∧ Below w.heap.size w w' := by
  have hB1 : Below w.heap.size w (w.alloc (fldO ⟨#[120]⟩ 2)) := (Below.refl _ _).alloc (Nat.le_refl _) _
  have c := has_any _ 1 1 _ ⟨#[97]⟩ ⟨#[120]⟩ _ (awake_row w _ rfl) (by omega)
  rw [plc_awake] at c
  have C : Hid (Calls Try.prog 15 #[.slice (some ⟨w.heap.size + 1, 0, none⟩) 1 1, .string ⟨#[97]⟩, .string ⟨#[120]⟩] _ _) := c
  clear c
  have hB3 : Hid (Below w.heap.size w ((w.alloc (fldO ⟨#[120]⟩ 2)).alloc (schO ⟨#[97]⟩ (.slice (some ⟨w.heap.size, 0, none⟩) 1 1)))) := bt hB1 ((Below.refl _ _).alloc (Nat.le_refl _) _)
  clear hB1
  go_enter Try.func6, Try.ntmps6
  go_wp2_with (first | (go_at_call 15; refine C.out.mono ?_; rintro e w5 ⟨rfl, hB5⟩))
  go_ret
  exact ⟨rfl, bt hB3.out hB5⟩
end Go.Proofs.Ytelabjipclfpnaa
