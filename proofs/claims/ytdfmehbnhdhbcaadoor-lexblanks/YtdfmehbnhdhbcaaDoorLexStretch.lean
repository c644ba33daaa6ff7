/-
  lex.stretch: as many runes of a set as there are. Made by tools/mk_lexfirst17.py.
-/
import Derived.Test.YtdfmehbnhdhbcaaDoorLexSign
import Derived.Test.YtdfmehbnhdhbcaaDoorLexLen
import Derived.Test.YtdfmehbnhdhbcaaDoorQuoteUnq
import Derived.Test.YtdfmehbnhdhbcaaDoorBox3
import Derived.Deep.Cut
namespace Go.Proofs.YtdfmehbnhdhbcaaDoor
open Go.RowKit

theorem tokV_of {R : Int × List Int × Nat × Int} {k : Int} {S : List Int} {n : Nat} {e : Int} {y : ByteArray} (h : R = (k, S, n, e)) (hy : y = strOf S) : tokV R = .tuple #[.agg #[.int .i64 k, .string y, .int .i64 0], .int .i64 (n : Int), .int .i64 e] := by
  rw [h, hy]; rfl
/-- A token that nobody made, in a block. -/
def tokO : Obj := .cells #[.int .i64 0, .string ⟨#[]⟩, .int .i64 0] 29
/-- What a call that answers a token starts with. -/
theorem tok_start (w : World) : ∃ W p, W = w.alloc tokO ∧ p = w.heap.size ∧ Below w.heap.size w W ∧ Box3 29 W p (.int .i64 0) (.string ⟨#[]⟩) (.int .i64 0) ∧ w.heap.size ≤ p :=
  ⟨_, _, rfl, rfl, below_alloc w _, Box3.new _ _ _ _ _, Nat.le_refl _⟩
set_option maxRecDepth 100000 in
set_option maxHeartbeats 1000000 in
theorem stretch_digit (k : Int) (s : ByteArray) (m : Nat) (w : World) :
    Calls Tryd.prog 16 #[.int .i64 k, .string s, .func (.func 15) #[] #[], .int .i64 (m : Int)] w fun e w' => e = .returned (tokV (strR k digitB m (bytesS s))) ∧ Below w.heap.size w w' := by
  have HC : Hid (∀ w', Calls Tryd.prog 9 #[.string s, .func (.func 15) #[] #[]] w' _) := fun w' => len_digit s w'
  have hle := spanN_le digitB (bytesS s)
  rw [bytesS_length] at hle
  obtain ⟨n, hn⟩ : ∃ n, n = spanN digitB (bytesS s) := ⟨_, rfl⟩
  obtain ⟨V, hV⟩ : ∃ V, V = tokV (strR k digitB m (bytesS s)) := ⟨_, rfl⟩
  rw [← hV]
  rw [← hn] at HC hle
  by_cases h : m < n
  · have HE : Hid (V = .tuple #[.agg #[.int .i64 0, .string ⟨#[]⟩, .int .i64 0], .int .i64 0, .int .i64 4]) := by
      show V = _
      rw [hV]
      refine tokV_of (n := 0) (S := []) ?_ rfl
      unfold strR
      rw [← hn, if_pos h]
    have h' : (m : Int) < (n : Int) := by omega
    clear hn hV hle h
    obtain ⟨W, p, hW, hp, hB0, hY, hL⟩ := tok_start w
    unfold tokO at hW
    go_enter Tryd.func16, Tryd.ntmps16
    go_upto_region 1 with fail
    rw [← hW, ← hp]
    have HY : Hid (Box3 29 W p (.int .i64 0) (.string ⟨#[]⟩) (.int .i64 0)) := hY
    have HL : Hid (w.heap.size ≤ p) := hL
    have H0 : Hid (Below w.heap.size w W) := hB0
    clear hW hp hY hL hB0
    go_wp2_with (first
    | (go_at_call 9
       refine (HC.out _).mono ?_
       rintro e w1 ⟨rfl, hB1⟩
       have HB : Hid (Below w.heap.size w w1) := H0.out.trans (hB1.mono H0.out.size)
       have Y2 := HY.out.keep hB1
       obtain ⟨y0, y1, y2⟩ := Y2.cells
       have z0 := Y2.frozen 0
       have z1 := Y2.frozen 1
       have z2 := Y2.frozen 2
       clear Y2))
    exact bodyPost_ret (v := .tuple #[.agg #[.int .i64 0, .string ⟨#[]⟩, .int .i64 0], .int .i64 0, .int .i64 4]) (by simp [results, Tryd.results16, go_sem, y0, y1, y2]) rfl ⟨by rw [HE.out], ((HB.out.setCell HL.out _).setCell HL.out _).setCell HL.out _⟩
  · have HE : Hid (V = .tuple #[.agg #[.int .i64 k, .string (s.extract 0 n), .int .i64 0], .int .i64 (n : Int), .int .i64 0]) := by
      show V = _
      rw [hV]
      refine tokV_of (S := (bytesS s).take n) ?_ (extract_take s n)
      unfold strR
      rw [← hn, if_neg h]
    have h' : ¬ (m : Int) < (n : Int) := by omega
    have hsl : ∀ w' : World, (Instr.slice 9 (.string s) none (some (.int .i64 (n : Int))) none).run Tryd.prog w' = .ok (.string (s.extract 0 n)) w' := fun w' => by
      rw [run_slice_string_to_if w' 9 s .i64 (n : Int) Tryd.underlying9, if_pos ⟨by omega, by omega⟩, Int.toNat_natCast]
    generalize s.extract 0 n = y at HE hsl
    clear hn hV hle h
    obtain ⟨W, p, hW, hp, hB0, hY, hL⟩ := tok_start w
    unfold tokO at hW
    go_enter Tryd.func16, Tryd.ntmps16
    go_upto_region 1 with fail
    rw [← hW, ← hp]
    have HY : Hid (Box3 29 W p (.int .i64 0) (.string ⟨#[]⟩) (.int .i64 0)) := hY
    have HL : Hid (w.heap.size ≤ p) := hL
    have H0 : Hid (Below w.heap.size w W) := hB0
    clear hW hp hY hL hB0
    go_wp2_with (first
    | (go_at_call 9
       refine (HC.out _).mono ?_
       rintro e w1 ⟨rfl, hB1⟩
       have HB : Hid (Below w.heap.size w w1) := H0.out.trans (hB1.mono H0.out.size)
       have Y2 := HY.out.keep hB1
       obtain ⟨y0, y1, y2⟩ := Y2.cells
       have z0 := Y2.frozen 0
       have z1 := Y2.frozen 1
       have z2 := Y2.frozen 2
       clear Y2))
    exact bodyPost_ret (v := .tuple #[.agg #[.int .i64 k, .string y, .int .i64 0], .int .i64 (n : Int), .int .i64 0]) (by simp [results, Tryd.results16, go_sem, y0, y1, y2]) rfl ⟨by rw [HE.out], ((HB.out.setCell HL.out _).setCell HL.out _).setCell HL.out _⟩
set_option maxRecDepth 100000 in
set_option maxHeartbeats 1000000 in
theorem stretch_large (k : Int) (s : ByteArray) (m : Nat) (w : World) :
    Calls Tryd.prog 16 #[.int .i64 k, .string s, .func (.func 17) #[] #[], .int .i64 (m : Int)] w fun e w' => e = .returned (tokV (strR k largeB m (bytesS s))) ∧ Below w.heap.size w w' := by
  have HC : Hid (∀ w', Calls Tryd.prog 9 #[.string s, .func (.func 17) #[] #[]] w' _) := fun w' => len_large s w'
  have hle := spanN_le largeB (bytesS s)
  rw [bytesS_length] at hle
  obtain ⟨n, hn⟩ : ∃ n, n = spanN largeB (bytesS s) := ⟨_, rfl⟩
  obtain ⟨V, hV⟩ : ∃ V, V = tokV (strR k largeB m (bytesS s)) := ⟨_, rfl⟩
  rw [← hV]
  rw [← hn] at HC hle
  by_cases h : m < n
  · have HE : Hid (V = .tuple #[.agg #[.int .i64 0, .string ⟨#[]⟩, .int .i64 0], .int .i64 0, .int .i64 4]) := by
      show V = _
      rw [hV]
      refine tokV_of (n := 0) (S := []) ?_ rfl
      unfold strR
      rw [← hn, if_pos h]
    have h' : (m : Int) < (n : Int) := by omega
    clear hn hV hle h
    obtain ⟨W, p, hW, hp, hB0, hY, hL⟩ := tok_start w
    unfold tokO at hW
    go_enter Tryd.func16, Tryd.ntmps16
    go_upto_region 1 with fail
    rw [← hW, ← hp]
    have HY : Hid (Box3 29 W p (.int .i64 0) (.string ⟨#[]⟩) (.int .i64 0)) := hY
    have HL : Hid (w.heap.size ≤ p) := hL
    have H0 : Hid (Below w.heap.size w W) := hB0
    clear hW hp hY hL hB0
    go_wp2_with (first
    | (go_at_call 9
       refine (HC.out _).mono ?_
       rintro e w1 ⟨rfl, hB1⟩
       have HB : Hid (Below w.heap.size w w1) := H0.out.trans (hB1.mono H0.out.size)
       have Y2 := HY.out.keep hB1
       obtain ⟨y0, y1, y2⟩ := Y2.cells
       have z0 := Y2.frozen 0
       have z1 := Y2.frozen 1
       have z2 := Y2.frozen 2
       clear Y2))
    exact bodyPost_ret (v := .tuple #[.agg #[.int .i64 0, .string ⟨#[]⟩, .int .i64 0], .int .i64 0, .int .i64 4]) (by simp [results, Tryd.results16, go_sem, y0, y1, y2]) rfl ⟨by rw [HE.out], ((HB.out.setCell HL.out _).setCell HL.out _).setCell HL.out _⟩
  · have HE : Hid (V = .tuple #[.agg #[.int .i64 k, .string (s.extract 0 n), .int .i64 0], .int .i64 (n : Int), .int .i64 0]) := by
      show V = _
      rw [hV]
      refine tokV_of (S := (bytesS s).take n) ?_ (extract_take s n)
      unfold strR
      rw [← hn, if_neg h]
    have h' : ¬ (m : Int) < (n : Int) := by omega
    have hsl : ∀ w' : World, (Instr.slice 9 (.string s) none (some (.int .i64 (n : Int))) none).run Tryd.prog w' = .ok (.string (s.extract 0 n)) w' := fun w' => by
      rw [run_slice_string_to_if w' 9 s .i64 (n : Int) Tryd.underlying9, if_pos ⟨by omega, by omega⟩, Int.toNat_natCast]
    generalize s.extract 0 n = y at HE hsl
    clear hn hV hle h
    obtain ⟨W, p, hW, hp, hB0, hY, hL⟩ := tok_start w
    unfold tokO at hW
    go_enter Tryd.func16, Tryd.ntmps16
    go_upto_region 1 with fail
    rw [← hW, ← hp]
    have HY : Hid (Box3 29 W p (.int .i64 0) (.string ⟨#[]⟩) (.int .i64 0)) := hY
    have HL : Hid (w.heap.size ≤ p) := hL
    have H0 : Hid (Below w.heap.size w W) := hB0
    clear hW hp hY hL hB0
    go_wp2_with (first
    | (go_at_call 9
       refine (HC.out _).mono ?_
       rintro e w1 ⟨rfl, hB1⟩
       have HB : Hid (Below w.heap.size w w1) := H0.out.trans (hB1.mono H0.out.size)
       have Y2 := HY.out.keep hB1
       obtain ⟨y0, y1, y2⟩ := Y2.cells
       have z0 := Y2.frozen 0
       have z1 := Y2.frozen 1
       have z2 := Y2.frozen 2
       clear Y2))
    exact bodyPost_ret (v := .tuple #[.agg #[.int .i64 k, .string y, .int .i64 0], .int .i64 (n : Int), .int .i64 0]) (by simp [results, Tryd.results16, go_sem, y0, y1, y2]) rfl ⟨by rw [HE.out], ((HB.out.setCell HL.out _).setCell HL.out _).setCell HL.out _⟩
set_option maxRecDepth 100000 in
set_option maxHeartbeats 1000000 in
theorem stretch_named (k : Int) (s : ByteArray) (m : Nat) (w : World) :
    Calls Tryd.prog 16 #[.int .i64 k, .string s, .func (.func 19) #[] #[], .int .i64 (m : Int)] w fun e w' => e = .returned (tokV (strR k namedB m (bytesS s))) ∧ Below w.heap.size w w' := by
  have HC : Hid (∀ w', Calls Tryd.prog 9 #[.string s, .func (.func 19) #[] #[]] w' _) := fun w' => len_named s w'
  have hle := spanN_le namedB (bytesS s)
  rw [bytesS_length] at hle
  obtain ⟨n, hn⟩ : ∃ n, n = spanN namedB (bytesS s) := ⟨_, rfl⟩
  obtain ⟨V, hV⟩ : ∃ V, V = tokV (strR k namedB m (bytesS s)) := ⟨_, rfl⟩
  rw [← hV]
  rw [← hn] at HC hle
  by_cases h : m < n
  · have HE : Hid (V = .tuple #[.agg #[.int .i64 0, .string ⟨#[]⟩, .int .i64 0], .int .i64 0, .int .i64 4]) := by
      show V = _
      rw [hV]
      refine tokV_of (n := 0) (S := []) ?_ rfl
      unfold strR
      rw [← hn, if_pos h]
    have h' : (m : Int) < (n : Int) := by omega
    clear hn hV hle h
    obtain ⟨W, p, hW, hp, hB0, hY, hL⟩ := tok_start w
    unfold tokO at hW
    go_enter Tryd.func16, Tryd.ntmps16
    go_upto_region 1 with fail
    rw [← hW, ← hp]
    have HY : Hid (Box3 29 W p (.int .i64 0) (.string ⟨#[]⟩) (.int .i64 0)) := hY
    have HL : Hid (w.heap.size ≤ p) := hL
    have H0 : Hid (Below w.heap.size w W) := hB0
    clear hW hp hY hL hB0
    go_wp2_with (first
    | (go_at_call 9
       refine (HC.out _).mono ?_
       rintro e w1 ⟨rfl, hB1⟩
       have HB : Hid (Below w.heap.size w w1) := H0.out.trans (hB1.mono H0.out.size)
       have Y2 := HY.out.keep hB1
       obtain ⟨y0, y1, y2⟩ := Y2.cells
       have z0 := Y2.frozen 0
       have z1 := Y2.frozen 1
       have z2 := Y2.frozen 2
       clear Y2))
    exact bodyPost_ret (v := .tuple #[.agg #[.int .i64 0, .string ⟨#[]⟩, .int .i64 0], .int .i64 0, .int .i64 4]) (by simp [results, Tryd.results16, go_sem, y0, y1, y2]) rfl ⟨by rw [HE.out], ((HB.out.setCell HL.out _).setCell HL.out _).setCell HL.out _⟩
  · have HE : Hid (V = .tuple #[.agg #[.int .i64 k, .string (s.extract 0 n), .int .i64 0], .int .i64 (n : Int), .int .i64 0]) := by
      show V = _
      rw [hV]
      refine tokV_of (S := (bytesS s).take n) ?_ (extract_take s n)
      unfold strR
      rw [← hn, if_neg h]
    have h' : ¬ (m : Int) < (n : Int) := by omega
    have hsl : ∀ w' : World, (Instr.slice 9 (.string s) none (some (.int .i64 (n : Int))) none).run Tryd.prog w' = .ok (.string (s.extract 0 n)) w' := fun w' => by
      rw [run_slice_string_to_if w' 9 s .i64 (n : Int) Tryd.underlying9, if_pos ⟨by omega, by omega⟩, Int.toNat_natCast]
    generalize s.extract 0 n = y at HE hsl
    clear hn hV hle h
    obtain ⟨W, p, hW, hp, hB0, hY, hL⟩ := tok_start w
    unfold tokO at hW
    go_enter Tryd.func16, Tryd.ntmps16
    go_upto_region 1 with fail
    rw [← hW, ← hp]
    have HY : Hid (Box3 29 W p (.int .i64 0) (.string ⟨#[]⟩) (.int .i64 0)) := hY
    have HL : Hid (w.heap.size ≤ p) := hL
    have H0 : Hid (Below w.heap.size w W) := hB0
    clear hW hp hY hL hB0
    go_wp2_with (first
    | (go_at_call 9
       refine (HC.out _).mono ?_
       rintro e w1 ⟨rfl, hB1⟩
       have HB : Hid (Below w.heap.size w w1) := H0.out.trans (hB1.mono H0.out.size)
       have Y2 := HY.out.keep hB1
       obtain ⟨y0, y1, y2⟩ := Y2.cells
       have z0 := Y2.frozen 0
       have z1 := Y2.frozen 1
       have z2 := Y2.frozen 2
       clear Y2))
    exact bodyPost_ret (v := .tuple #[.agg #[.int .i64 k, .string y, .int .i64 0], .int .i64 (n : Int), .int .i64 0]) (by simp [results, Tryd.results16, go_sem, y0, y1, y2]) rfl ⟨by rw [HE.out], ((HB.out.setCell HL.out _).setCell HL.out _).setCell HL.out _⟩
end Go.Proofs.YtdfmehbnhdhbcaaDoor
