/-
  schema.Find and schema.Field (P7.1), whole; the law's own 'awake'.
-/
import Derived.Test.YtelabjipclfpnaaSchFind
import Derived.Deep.DeepCutAuto
namespace Go.Proofs.Ytelabjipclfpnaa
open Go.RowKit

set_option maxHeartbeats 1000000 in
theorem find_some (a : Option Addr) (n cap i : Nat) (Nm : Nat → ByteArray) (V : Nat → Value) (s : ByteArray) (w : World) (H : Row2 w a n Nm V) (hn : n ≤ 9223372036854775807) (hi : i < n) (he : Nm i = s) (hl : ∀ j, j < i → ¬ Nm j = s) :
    Calls Try.prog 39 #[.slice a n cap, .string s] w fun e w' => e = .returned (.tuple #[.int .i64 i, .bool true]) ∧ Below w.heap.size w w' := by
  have hB0 : Below w.heap.size w (w.alloc (.cells #[.string s] 9)) := (Below.refl _ _).alloc (Nat.le_refl _) _
  have H1 := H.later hB0
  have hp : (w.alloc (.cells #[.string s] 9)).cell? ⟨w.heap.size, 0, none⟩ = some (.string s) := by rw [World.cell?_alloc_at _ _ _ _ rfl]; rfl
  have C : Hid (Calls Try.prog 46 _ (w.alloc (.cells #[.string s] 9)) _) := indexS_some a n cap i w.heap.size Nm V s _ H1 hn hp hi he hl
  clear hn hp hi he hl H H1
  go_enter Try.func39, Try.ntmps39
  go_wp2_with (first | (go_at_call 46; refine C.out.mono ?_; rintro e w1 ⟨rfl, hB1⟩))
  exact bodyPost_ret (v := .tuple #[.int .i64 i, .bool true]) (by simp [results, Try.results39, go_sem]) rfl ⟨rfl, hB0.trans (hB1.mono hB0.size)⟩
set_option maxHeartbeats 1000000 in
theorem find_none (a : Option Addr) (n cap : Nat) (Nm : Nat → ByteArray) (V : Nat → Value) (s : ByteArray) (w : World) (H : Row2 w a n Nm V) (hn : n ≤ 9223372036854775807) (hl : ∀ j, j < n → ¬ Nm j = s) :
    Calls Try.prog 39 #[.slice a n cap, .string s] w fun e w' => e = .returned (.tuple #[.int .i64 0, .bool false]) ∧ Below w.heap.size w w' := by
  have hB0 : Below w.heap.size w (w.alloc (.cells #[.string s] 9)) := (Below.refl _ _).alloc (Nat.le_refl _) _
  have H1 := H.later hB0
  have hp : (w.alloc (.cells #[.string s] 9)).cell? ⟨w.heap.size, 0, none⟩ = some (.string s) := by rw [World.cell?_alloc_at _ _ _ _ rfl]; rfl
  have C : Hid (Calls Try.prog 46 _ (w.alloc (.cells #[.string s] 9)) _) := indexS_none a n cap w.heap.size Nm V s _ H1 hn hp hl
  clear hn hp hl H H1
  go_enter Try.func39, Try.ntmps39
  go_wp2_with (first | (go_at_call 46; refine C.out.mono ?_; rintro e w1 ⟨rfl, hB1⟩))
  exact bodyPost_ret (v := .tuple #[.int .i64 0, .bool false]) (by simp [results, Try.results39, go_sem]) rfl ⟨rfl, hB0.trans (hB1.mono hB0.size)⟩
set_option maxHeartbeats 1000000 in
theorem field_some (S : ByteArray) (a : Option Addr) (n cap i : Nat) (Nm : Nat → ByteArray) (K : Nat → Int) (s : ByteArray) (w : World) (H : Flds w a n Nm K) (hn : n ≤ 9223372036854775807) (hi : i < n) (he : Nm i = s) (hl : ∀ j, j < i → ¬ Nm j = s) :
    Calls Try.prog 33 #[schV S (.slice a n cap), .string s] w fun e w' => e = .returned (.tuple #[.int .i64 i, .int .i64 (K i), .bool true]) ∧ Below w.heap.size w w' := by
  have hB0 : Below w.heap.size w ((w.alloc (schO S (.slice a n cap))).alloc (.cells #[.string s] 9)) := ((Below.refl _ _).alloc (Nat.le_refl _) _).alloc (by simp) _
  have H1 := H.later hB0
  have hp : ((w.alloc (schO S (.slice a n cap))).alloc (.cells #[.string s] 9)).cell? ⟨w.heap.size + 1, 0, none⟩ = some (.string s) := by rw [World.cell?_alloc_at _ _ _ _ (by simp)]; rfl
  have C : Hid (Calls Try.prog 41 _ ((w.alloc (schO S (.slice a n cap))).alloc (.cells #[.string s] 9)) _) := indexF_some a n cap i (w.heap.size + 1) Nm K s _ H1 hn hp hi he hl
  have HX : Hid (((w.alloc (schO S (.slice a n cap))).alloc (.cells #[.string s] 9)).cell? ⟨w.heap.size, 1, none⟩ = some (.slice a n cap)) := by
    show ((w.alloc (schO S (.slice a n cap))).alloc (.cells #[.string s] 9)).cell? ⟨w.heap.size, 1, none⟩ = some (.slice a n cap)
    rw [World.cell?_alloc_past _ _ _ (by simp), World.cell?_alloc_at _ _ _ _ rfl]; rfl
  have HR : Hid (Flds ((w.alloc (schO S (.slice a n cap))).alloc (.cells #[.string s] 9)) a n Nm K) := H1
  clear hp he hl H H1
  go_enter Try.func33, Try.ntmps33
  go_upto_region 2 with (first | (go_at_call 41; refine C.out.mono ?_; rintro e w1 ⟨rfl, hB1⟩))
  have f1 := cell_later HX.out hB1
  obtain ⟨b, off, rfl, hc⟩ := (HR.out.later hB1) (by omega)
  have f2 := (hc i hi).1.2
  clear hc C HX HR
  go_wp2_with fail
  go_quiet (fail)
  go_wp2
  exact bodyPost_ret (v := .tuple #[.int .i64 i, .int .i64 (K i), .bool true]) (by simp [results, Try.results33, go_sem]) rfl ⟨rfl, bd (bt hB0 hB1) _⟩
set_option maxHeartbeats 1000000 in
theorem field_none (S : ByteArray) (a : Option Addr) (n cap : Nat) (Nm : Nat → ByteArray) (K : Nat → Int) (s : ByteArray) (w : World) (H : Flds w a n Nm K) (hn : n ≤ 9223372036854775807) (hl : ∀ j, j < n → ¬ Nm j = s) :
    Calls Try.prog 33 #[schV S (.slice a n cap), .string s] w fun e w' => e = .returned (.tuple #[.int .i64 0, .int .i64 0, .bool false]) ∧ Below w.heap.size w w' := by
  have hB0 : Below w.heap.size w ((w.alloc (schO S (.slice a n cap))).alloc (.cells #[.string s] 9)) := ((Below.refl _ _).alloc (Nat.le_refl _) _).alloc (by simp) _
  have H1 := H.later hB0
  have hp : ((w.alloc (schO S (.slice a n cap))).alloc (.cells #[.string s] 9)).cell? ⟨w.heap.size + 1, 0, none⟩ = some (.string s) := by rw [World.cell?_alloc_at _ _ _ _ (by simp)]; rfl
  have C : Hid (Calls Try.prog 41 _ ((w.alloc (schO S (.slice a n cap))).alloc (.cells #[.string s] 9)) _) := indexF_none a n cap (w.heap.size + 1) Nm K s _ H1 hn hp hl
  clear hn hp hl H H1
  go_enter Try.func33, Try.ntmps33
  go_wp2_with (first | (go_at_call 41; refine C.out.mono ?_; rintro e w1 ⟨rfl, hB1⟩))
  exact bodyPost_ret (v := .tuple #[.int .i64 0, .int .i64 0, .bool false]) (by simp [results, Try.results33, go_sem]) rfl ⟨rfl, hB0.trans (hB1.mono hB0.size)⟩
theorem field_row (w : World) (s : ByteArray) (k : Int) (h : s.size ≤ maxLen) : Flds (w.alloc (fldO s k)) (some ⟨w.heap.size, 0, none⟩) 1 (fun _ => s) (fun _ => k) := by
  intro _
  refine ⟨w.heap.size, 0, rfl, fun j hj => ?_⟩
  obtain rfl : j = 0 := by omega
  refine ⟨⟨?_, ?_⟩, h⟩ <;> rw [World.cell?_alloc_at _ _ _ _ rfl] <;> rfl
end Go.Proofs.Ytelabjipclfpnaa
