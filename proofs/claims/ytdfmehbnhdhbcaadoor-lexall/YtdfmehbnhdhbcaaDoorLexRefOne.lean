/-
  The document's one of layer 17: the token at a place. Made by tools/mk_lexone17.py.
-/
import Derived.Test.YtdfmehbnhdhbcaaDoorLexRefSpan
import Derived.Test.YtdfmehbnhdhbcaaDoorQuoteRefUnq
import Derived.Test.YtdfmehbnhdhbcaaDoorBox3
import Derived.Deep.Cut
namespace Go.Proofs.YtdfmehbnhdhbcaaDoor
open Go.RowKit

/-- What the document's one answers. -/
def refT (i : Nat) (R : Int × List Int × Nat × Int) : Value :=
  if R.2.2.2 = 0 then .tuple #[.agg #[.int .i64 R.1, .string (strOf R.2.1), .int .i64 (i : Int)], .int .i64 ((i + R.2.2.1 : Nat) : Int), .int .i64 0]
  else .tuple #[.agg #[.int .i64 0, .string ⟨#[]⟩, .int .i64 0], .int .i64 ((i + R.2.2.1 : Nat) : Int), .int .i64 R.2.2.2]
theorem refT_ok {i : Nat} {R : Int × List Int × Nat × Int} {k : Int} {S : List Int} {n : Nat} {y : ByteArray} (h : R = (k, S, n, 0)) (hy : y = strOf S) : refT i R = .tuple #[.agg #[.int .i64 k, .string y, .int .i64 (i : Int)], .int .i64 ((i : Int) + (n : Int)), .int .i64 0] := by
  rw [h, hy]; exact if_pos rfl
theorem refT_no {i : Nat} {R : Int × List Int × Nat × Int} {k : Int} {S : List Int} {n : Nat} {e : Int} (h : R = (k, S, n, e)) (he : ¬ e = 0) : refT i R = .tuple #[.agg #[.int .i64 0, .string ⟨#[]⟩, .int .i64 0], .int .i64 ((i : Int) + (n : Int)), .int .i64 e] := by
  rw [h]; exact if_neg he
theorem ext_mid (s : ByteArray) (i n : Nat) : s.extract i (i + n) = strOf (((bytesS s).drop i).take n) := by
  have := bytes_mid s i (i + n)
  rw [Nat.add_sub_cancel_left] at this
  rw [← this, strOf_bytesS]
theorem one_start (w : World) : ∃ W p, W = w.alloc (.cells #[.int .i64 0, .string ⟨#[]⟩, .int .i64 0] 29) ∧ p = w.heap.size ∧ Below w.heap.size w W ∧ Box3 29 W p (.int .i64 0) (.string ⟨#[]⟩) (.int .i64 0) ∧ w.heap.size ≤ p :=
  ⟨_, _, rfl, rfl, (Below.refl _ _).alloc (Nat.le_refl _) _, Box3.new _ _ _ _ _, Nat.le_refl _⟩
set_option maxRecDepth 100000 in
set_option maxHeartbeats 4000000 in
theorem rone_upB (s : ByteArray) (i : Nat) (w : World) (c : Int) (h : i < s.size) (hs : s.size ≤ 8192) (hc : byteAt s i = c) (h1 : largeB c = true)
    (hn : 32 < spanN largeB ((bytesS s).drop i)) : Calls Tryd.prog 13 #[.string s, .int .i64 (i : Int)] w fun e w' => e = .returned (refT i (strR 1 largeB (32) ((bytesS s).drop i))) ∧ Below w.heap.size w w' := by
  have hi := at_str s i h
  rw [hc] at hi
  have hle := spanN_le largeB ((bytesS s).drop i)
  rw [List.length_drop, bytesS_length] at hle
  have HC : Hid (∀ w', Calls Tryd.prog 27 #[.string s, .int .i64 (i : Int), .int .i64 1] w' _) := fun w' => rspan_up s i w' (by omega) hs
  obtain ⟨V, hV⟩ : ∃ V, V = refT i (strR 1 largeB (32) ((bytesS s).drop i)) := ⟨_, rfl⟩
  rw [← hV]
  have hbad : strR 1 largeB (32) ((bytesS s).drop i) = (0, [], 0, 4) := if_pos hn
  have HE : Hid (V = .tuple #[.agg #[.int .i64 0, .string ⟨#[]⟩, .int .i64 0], .int .i64 (i : Int), .int .i64 4]) := by
    show V = _
    rw [hV, refT_no hbad (by decide)]
    simp
  clear hbad
  obtain ⟨n, hnn⟩ : ∃ n, n = spanN largeB ((bytesS s).drop i) := ⟨_, rfl⟩
  rw [← hnn] at HC hle hn
  have hn' : (32 : Int) < (n : Int) := by omega
  have Hupper : Hid (∀ w', Calls Tryd.prog 22 #[.int .u8 c] w' fun e w'' => e = .returned (.bool true) ∧ w'' = w') := fun w' => by have := rupper_any c w'; rwa [h1] at this
  clear h1
  clear hV hnn hc
  obtain ⟨W, p, hW, hp, hB0, hY, hL⟩ := one_start w
  go_enter Tryd.func13, Tryd.ntmps13
  go_upto_region 1 with fail
  rw [← hW, ← hp]
  have HY : Hid (Box3 29 W p (.int .i64 0) (.string ⟨#[]⟩) (.int .i64 0)) := hY
  have HL : Hid (w.heap.size ≤ p) := hL
  have H0 : Hid (Below w.heap.size w W) := hB0
  clear hW hp hY hL hB0
  obtain ⟨y0, y1, y2⟩ := HY.out.cells
  have z0 := HY.out.frozen 0
  have z1 := HY.out.frozen 1
  have z2 := HY.out.frozen 2
  go_wp2_with (first
    | (go_at_call 22; refine (Hupper.out _).mono ?_; rintro e w1 ⟨rfl, hw1⟩; replace hw1 := hw1.symm; subst hw1)
    | (go_at_call 27; refine (HC.out _).mono ?_; rintro e w1 ⟨rfl, hw1⟩; replace hw1 := hw1.symm; subst hw1))
  all_goals (exact bodyPost_ret (v := .tuple #[.agg #[.int .i64 0, .string ⟨#[]⟩, .int .i64 0], .int .i64 (i : Int), .int .i64 4]) (by simp [results, Tryd.results13, go_sem, y0, y1, y2]) rfl ⟨by rw [HE.out], ((H0.out.setCell HL.out _).setCell HL.out _).setCell HL.out _⟩)
set_option maxRecDepth 100000 in
set_option maxHeartbeats 4000000 in
theorem rone_upG (s : ByteArray) (i : Nat) (w : World) (c : Int) (h : i < s.size) (hs : s.size ≤ 8192) (hc : byteAt s i = c) (h1 : largeB c = true)
    (hn : 32 ≥ spanN largeB ((bytesS s).drop i)) : Calls Tryd.prog 13 #[.string s, .int .i64 (i : Int)] w fun e w' => e = .returned (refT i (strR 1 largeB (32) ((bytesS s).drop i))) ∧ Below w.heap.size w w' := by
  have hi := at_str s i h
  rw [hc] at hi
  have hle := spanN_le largeB ((bytesS s).drop i)
  rw [List.length_drop, bytesS_length] at hle
  have HC : Hid (∀ w', Calls Tryd.prog 27 #[.string s, .int .i64 (i : Int), .int .i64 1] w' _) := fun w' => rspan_up s i w' (by omega) hs
  obtain ⟨V, hV⟩ : ∃ V, V = refT i (strR 1 largeB (32) ((bytesS s).drop i)) := ⟨_, rfl⟩
  rw [← hV]
  have hne : strR 1 largeB (32) ((bytesS s).drop i) = (1, ((bytesS s).drop i).take (spanN largeB ((bytesS s).drop i)), spanN largeB ((bytesS s).drop i), 0) := if_neg (by omega)
  obtain ⟨n, hnn⟩ : ∃ n, n = spanN largeB ((bytesS s).drop i) := ⟨_, rfl⟩
  rw [← hnn] at HC hle hn hne
  have HE0 := hV.trans (refT_ok hne (ext_mid s i n))
  have hsl := slice_mid s i n (by omega)
  generalize s.extract i (i + n) = y at hsl HE0
  have HE : Hid (V = .tuple #[.agg #[.int .i64 1, .string y, .int .i64 (i : Int)], .int .i64 ((i : Int) + (n : Int)), .int .i64 0]) := HE0
  clear HE0 hne
  have hn' : ¬ (32 : Int) < (n : Int) := by omega
  have Hupper : Hid (∀ w', Calls Tryd.prog 22 #[.int .u8 c] w' fun e w'' => e = .returned (.bool true) ∧ w'' = w') := fun w' => by have := rupper_any c w'; rwa [h1] at this
  clear h1
  clear hV hnn hc
  obtain ⟨W, p, hW, hp, hB0, hY, hL⟩ := one_start w
  go_enter Tryd.func13, Tryd.ntmps13
  go_upto_region 1 with fail
  rw [← hW, ← hp]
  have HY : Hid (Box3 29 W p (.int .i64 0) (.string ⟨#[]⟩) (.int .i64 0)) := hY
  have HL : Hid (w.heap.size ≤ p) := hL
  have H0 : Hid (Below w.heap.size w W) := hB0
  clear hW hp hY hL hB0
  obtain ⟨y0, y1, y2⟩ := HY.out.cells
  have z0 := HY.out.frozen 0
  have z1 := HY.out.frozen 1
  have z2 := HY.out.frozen 2
  go_wp2_with (first
    | (go_at_call 22; refine (Hupper.out _).mono ?_; rintro e w1 ⟨rfl, hw1⟩; replace hw1 := hw1.symm; subst hw1)
    | (go_at_call 27; refine (HC.out _).mono ?_; rintro e w1 ⟨rfl, hw1⟩; replace hw1 := hw1.symm; subst hw1))
  all_goals (exact bodyPost_ret (v := .tuple #[.agg #[.int .i64 1, .string y, .int .i64 (i : Int)], .int .i64 ((i : Int) + (n : Int)), .int .i64 0]) (by simp [results, Tryd.results13, go_sem, y0, y1, y2]) rfl ⟨by rw [HE.out], ((H0.out.setCell HL.out _).setCell HL.out _).setCell HL.out _⟩)
set_option maxRecDepth 100000 in
set_option maxHeartbeats 4000000 in
theorem rone_loB (s : ByteArray) (i : Nat) (w : World) (c : Int) (h : i < s.size) (hs : s.size ≤ 8192) (hc : byteAt s i = c) (h1 : largeB c = false) (h2 : smallB c = true)
    (hn : 32 < spanN namedB ((bytesS s).drop i)) : Calls Tryd.prog 13 #[.string s, .int .i64 (i : Int)] w fun e w' => e = .returned (refT i (strR 2 namedB (32) ((bytesS s).drop i))) ∧ Below w.heap.size w w' := by
  have hi := at_str s i h
  rw [hc] at hi
  have hle := spanN_le namedB ((bytesS s).drop i)
  rw [List.length_drop, bytesS_length] at hle
  have HC : Hid (∀ w', Calls Tryd.prog 27 #[.string s, .int .i64 (i : Int), .int .i64 2] w' _) := fun w' => rspan_nm s i w' (by omega) hs
  obtain ⟨V, hV⟩ : ∃ V, V = refT i (strR 2 namedB (32) ((bytesS s).drop i)) := ⟨_, rfl⟩
  rw [← hV]
  have hbad : strR 2 namedB (32) ((bytesS s).drop i) = (0, [], 0, 4) := if_pos hn
  have HE : Hid (V = .tuple #[.agg #[.int .i64 0, .string ⟨#[]⟩, .int .i64 0], .int .i64 (i : Int), .int .i64 4]) := by
    show V = _
    rw [hV, refT_no hbad (by decide)]
    simp
  clear hbad
  obtain ⟨n, hnn⟩ : ∃ n, n = spanN namedB ((bytesS s).drop i) := ⟨_, rfl⟩
  rw [← hnn] at HC hle hn
  have hn' : (32 : Int) < (n : Int) := by omega
  have Hupper : Hid (∀ w', Calls Tryd.prog 22 #[.int .u8 c] w' fun e w'' => e = .returned (.bool false) ∧ w'' = w') := fun w' => by have := rupper_any c w'; rwa [h1] at this
  have Hlower : Hid (∀ w', Calls Tryd.prog 23 #[.int .u8 c] w' fun e w'' => e = .returned (.bool true) ∧ w'' = w') := fun w' => by have := rlower_any c w'; rwa [h2] at this
  clear h1 h2
  clear hV hnn hc
  obtain ⟨W, p, hW, hp, hB0, hY, hL⟩ := one_start w
  go_enter Tryd.func13, Tryd.ntmps13
  go_upto_region 1 with fail
  rw [← hW, ← hp]
  have HY : Hid (Box3 29 W p (.int .i64 0) (.string ⟨#[]⟩) (.int .i64 0)) := hY
  have HL : Hid (w.heap.size ≤ p) := hL
  have H0 : Hid (Below w.heap.size w W) := hB0
  clear hW hp hY hL hB0
  obtain ⟨y0, y1, y2⟩ := HY.out.cells
  have z0 := HY.out.frozen 0
  have z1 := HY.out.frozen 1
  have z2 := HY.out.frozen 2
  go_wp2_with (first
    | (go_at_call 22; refine (Hupper.out _).mono ?_; rintro e w1 ⟨rfl, hw1⟩; replace hw1 := hw1.symm; subst hw1)
    | (go_at_call 23; refine (Hlower.out _).mono ?_; rintro e w1 ⟨rfl, hw1⟩; replace hw1 := hw1.symm; subst hw1)
    | (go_at_call 27; refine (HC.out _).mono ?_; rintro e w1 ⟨rfl, hw1⟩; replace hw1 := hw1.symm; subst hw1))
  all_goals (exact bodyPost_ret (v := .tuple #[.agg #[.int .i64 0, .string ⟨#[]⟩, .int .i64 0], .int .i64 (i : Int), .int .i64 4]) (by simp [results, Tryd.results13, go_sem, y0, y1, y2]) rfl ⟨by rw [HE.out], ((H0.out.setCell HL.out _).setCell HL.out _).setCell HL.out _⟩)
set_option maxRecDepth 100000 in
set_option maxHeartbeats 4000000 in
theorem rone_loG (s : ByteArray) (i : Nat) (w : World) (c : Int) (h : i < s.size) (hs : s.size ≤ 8192) (hc : byteAt s i = c) (h1 : largeB c = false) (h2 : smallB c = true)
    (hn : 32 ≥ spanN namedB ((bytesS s).drop i)) : Calls Tryd.prog 13 #[.string s, .int .i64 (i : Int)] w fun e w' => e = .returned (refT i (strR 2 namedB (32) ((bytesS s).drop i))) ∧ Below w.heap.size w w' := by
  have hi := at_str s i h
  rw [hc] at hi
  have hle := spanN_le namedB ((bytesS s).drop i)
  rw [List.length_drop, bytesS_length] at hle
  have HC : Hid (∀ w', Calls Tryd.prog 27 #[.string s, .int .i64 (i : Int), .int .i64 2] w' _) := fun w' => rspan_nm s i w' (by omega) hs
  obtain ⟨V, hV⟩ : ∃ V, V = refT i (strR 2 namedB (32) ((bytesS s).drop i)) := ⟨_, rfl⟩
  rw [← hV]
  have hne : strR 2 namedB (32) ((bytesS s).drop i) = (2, ((bytesS s).drop i).take (spanN namedB ((bytesS s).drop i)), spanN namedB ((bytesS s).drop i), 0) := if_neg (by omega)
  obtain ⟨n, hnn⟩ : ∃ n, n = spanN namedB ((bytesS s).drop i) := ⟨_, rfl⟩
  rw [← hnn] at HC hle hn hne
  have HE0 := hV.trans (refT_ok hne (ext_mid s i n))
  have hsl := slice_mid s i n (by omega)
  generalize s.extract i (i + n) = y at hsl HE0
  have HE : Hid (V = .tuple #[.agg #[.int .i64 2, .string y, .int .i64 (i : Int)], .int .i64 ((i : Int) + (n : Int)), .int .i64 0]) := HE0
  clear HE0 hne
  have hn' : ¬ (32 : Int) < (n : Int) := by omega
  have Hupper : Hid (∀ w', Calls Tryd.prog 22 #[.int .u8 c] w' fun e w'' => e = .returned (.bool false) ∧ w'' = w') := fun w' => by have := rupper_any c w'; rwa [h1] at this
  have Hlower : Hid (∀ w', Calls Tryd.prog 23 #[.int .u8 c] w' fun e w'' => e = .returned (.bool true) ∧ w'' = w') := fun w' => by have := rlower_any c w'; rwa [h2] at this
  clear h1 h2
  clear hV hnn hc
  obtain ⟨W, p, hW, hp, hB0, hY, hL⟩ := one_start w
  go_enter Tryd.func13, Tryd.ntmps13
  go_upto_region 1 with fail
  rw [← hW, ← hp]
  have HY : Hid (Box3 29 W p (.int .i64 0) (.string ⟨#[]⟩) (.int .i64 0)) := hY
  have HL : Hid (w.heap.size ≤ p) := hL
  have H0 : Hid (Below w.heap.size w W) := hB0
  clear hW hp hY hL hB0
  obtain ⟨y0, y1, y2⟩ := HY.out.cells
  have z0 := HY.out.frozen 0
  have z1 := HY.out.frozen 1
  have z2 := HY.out.frozen 2
  go_wp2_with (first
    | (go_at_call 22; refine (Hupper.out _).mono ?_; rintro e w1 ⟨rfl, hw1⟩; replace hw1 := hw1.symm; subst hw1)
    | (go_at_call 23; refine (Hlower.out _).mono ?_; rintro e w1 ⟨rfl, hw1⟩; replace hw1 := hw1.symm; subst hw1)
    | (go_at_call 27; refine (HC.out _).mono ?_; rintro e w1 ⟨rfl, hw1⟩; replace hw1 := hw1.symm; subst hw1))
  all_goals (exact bodyPost_ret (v := .tuple #[.agg #[.int .i64 2, .string y, .int .i64 (i : Int)], .int .i64 ((i : Int) + (n : Int)), .int .i64 0]) (by simp [results, Tryd.results13, go_sem, y0, y1, y2]) rfl ⟨by rw [HE.out], ((H0.out.setCell HL.out _).setCell HL.out _).setCell HL.out _⟩)
set_option maxRecDepth 100000 in
set_option maxHeartbeats 4000000 in
theorem rone_zrB (s : ByteArray) (i : Nat) (w : World) (c : Int) (h : i < s.size) (hs : s.size ≤ 8192) (hc : byteAt s i = c) (h1 : largeB c = false) (h2 : smallB c = false) (h3 : digitB c = true) (h4 : c = 48)
    (hn : 1 < spanN digitB ((bytesS s).drop i)) : Calls Tryd.prog 13 #[.string s, .int .i64 (i : Int)] w fun e w' => e = .returned (refT i (strR 3 digitB (1) ((bytesS s).drop i))) ∧ Below w.heap.size w w' := by
  subst h4
  have hi := at_str s i h
  rw [hc] at hi
  have hle := spanN_le digitB ((bytesS s).drop i)
  rw [List.length_drop, bytesS_length] at hle
  have HC : Hid (∀ w', Calls Tryd.prog 27 #[.string s, .int .i64 (i : Int), .int .i64 3] w' _) := fun w' => rspan_dg s i w' (by omega) hs
  obtain ⟨V, hV⟩ : ∃ V, V = refT i (strR 3 digitB (1) ((bytesS s).drop i)) := ⟨_, rfl⟩
  rw [← hV]
  have hbad : strR 3 digitB (1) ((bytesS s).drop i) = (0, [], 0, 4) := if_pos hn
  have HE : Hid (V = .tuple #[.agg #[.int .i64 0, .string ⟨#[]⟩, .int .i64 0], .int .i64 (i : Int), .int .i64 4]) := by
    show V = _
    rw [hV, refT_no hbad (by decide)]
    simp
  clear hbad
  obtain ⟨n, hnn⟩ : ∃ n, n = spanN digitB ((bytesS s).drop i) := ⟨_, rfl⟩
  rw [← hnn] at HC hle hn
  have hn' : (1 : Int) < (n : Int) := by omega
  have Hupper : Hid (∀ w', Calls Tryd.prog 22 #[.int .u8 48] w' fun e w'' => e = .returned (.bool false) ∧ w'' = w') := fun w' => by have := rupper_any 48 w'; rwa [h1] at this
  have Hlower : Hid (∀ w', Calls Tryd.prog 23 #[.int .u8 48] w' fun e w'' => e = .returned (.bool false) ∧ w'' = w') := fun w' => by have := rlower_any 48 w'; rwa [h2] at this
  have Hdigit : Hid (∀ w', Calls Tryd.prog 24 #[.int .u8 48] w' fun e w'' => e = .returned (.bool true) ∧ w'' = w') := fun w' => by have := rdigit_any 48 w'; rwa [h3] at this
  clear h1 h2 h3
  clear hV hnn hc
  obtain ⟨W, p, hW, hp, hB0, hY, hL⟩ := one_start w
  go_enter Tryd.func13, Tryd.ntmps13
  go_upto_region 1 with fail
  rw [← hW, ← hp]
  have HY : Hid (Box3 29 W p (.int .i64 0) (.string ⟨#[]⟩) (.int .i64 0)) := hY
  have HL : Hid (w.heap.size ≤ p) := hL
  have H0 : Hid (Below w.heap.size w W) := hB0
  clear hW hp hY hL hB0
  obtain ⟨y0, y1, y2⟩ := HY.out.cells
  have z0 := HY.out.frozen 0
  have z1 := HY.out.frozen 1
  have z2 := HY.out.frozen 2
  go_wp2_with (first
    | (go_at_call 22; refine (Hupper.out _).mono ?_; rintro e w1 ⟨rfl, hw1⟩; replace hw1 := hw1.symm; subst hw1)
    | (go_at_call 23; refine (Hlower.out _).mono ?_; rintro e w1 ⟨rfl, hw1⟩; replace hw1 := hw1.symm; subst hw1)
    | (go_at_call 24; refine (Hdigit.out _).mono ?_; rintro e w1 ⟨rfl, hw1⟩; replace hw1 := hw1.symm; subst hw1)
    | (go_at_call 27; refine (HC.out _).mono ?_; rintro e w1 ⟨rfl, hw1⟩; replace hw1 := hw1.symm; subst hw1))
  all_goals (exact bodyPost_ret (v := .tuple #[.agg #[.int .i64 0, .string ⟨#[]⟩, .int .i64 0], .int .i64 (i : Int), .int .i64 4]) (by simp [results, Tryd.results13, go_sem, y0, y1, y2]) rfl ⟨by rw [HE.out], ((H0.out.setCell HL.out _).setCell HL.out _).setCell HL.out _⟩)
set_option maxRecDepth 100000 in
set_option maxHeartbeats 4000000 in
theorem rone_zrG (s : ByteArray) (i : Nat) (w : World) (c : Int) (h : i < s.size) (hs : s.size ≤ 8192) (hc : byteAt s i = c) (h1 : largeB c = false) (h2 : smallB c = false) (h3 : digitB c = true) (h4 : c = 48)
    (hn : 1 ≥ spanN digitB ((bytesS s).drop i)) : Calls Tryd.prog 13 #[.string s, .int .i64 (i : Int)] w fun e w' => e = .returned (refT i (strR 3 digitB (1) ((bytesS s).drop i))) ∧ Below w.heap.size w w' := by
  subst h4
  have hi := at_str s i h
  rw [hc] at hi
  have hle := spanN_le digitB ((bytesS s).drop i)
  rw [List.length_drop, bytesS_length] at hle
  have HC : Hid (∀ w', Calls Tryd.prog 27 #[.string s, .int .i64 (i : Int), .int .i64 3] w' _) := fun w' => rspan_dg s i w' (by omega) hs
  obtain ⟨V, hV⟩ : ∃ V, V = refT i (strR 3 digitB (1) ((bytesS s).drop i)) := ⟨_, rfl⟩
  rw [← hV]
  have hne : strR 3 digitB (1) ((bytesS s).drop i) = (3, ((bytesS s).drop i).take (spanN digitB ((bytesS s).drop i)), spanN digitB ((bytesS s).drop i), 0) := if_neg (by omega)
  obtain ⟨n, hnn⟩ : ∃ n, n = spanN digitB ((bytesS s).drop i) := ⟨_, rfl⟩
  rw [← hnn] at HC hle hn hne
  have HE0 := hV.trans (refT_ok hne (ext_mid s i n))
  have hsl := slice_mid s i n (by omega)
  generalize s.extract i (i + n) = y at hsl HE0
  have HE : Hid (V = .tuple #[.agg #[.int .i64 3, .string y, .int .i64 (i : Int)], .int .i64 ((i : Int) + (n : Int)), .int .i64 0]) := HE0
  clear HE0 hne
  have hn' : ¬ (1 : Int) < (n : Int) := by omega
  have hn2 : ¬ (19 : Int) < (n : Int) := by omega
  have Hupper : Hid (∀ w', Calls Tryd.prog 22 #[.int .u8 48] w' fun e w'' => e = .returned (.bool false) ∧ w'' = w') := fun w' => by have := rupper_any 48 w'; rwa [h1] at this
  have Hlower : Hid (∀ w', Calls Tryd.prog 23 #[.int .u8 48] w' fun e w'' => e = .returned (.bool false) ∧ w'' = w') := fun w' => by have := rlower_any 48 w'; rwa [h2] at this
  have Hdigit : Hid (∀ w', Calls Tryd.prog 24 #[.int .u8 48] w' fun e w'' => e = .returned (.bool true) ∧ w'' = w') := fun w' => by have := rdigit_any 48 w'; rwa [h3] at this
  clear h1 h2 h3
  clear hV hnn hc
  obtain ⟨W, p, hW, hp, hB0, hY, hL⟩ := one_start w
  go_enter Tryd.func13, Tryd.ntmps13
  go_upto_region 1 with fail
  rw [← hW, ← hp]
  have HY : Hid (Box3 29 W p (.int .i64 0) (.string ⟨#[]⟩) (.int .i64 0)) := hY
  have HL : Hid (w.heap.size ≤ p) := hL
  have H0 : Hid (Below w.heap.size w W) := hB0
  clear hW hp hY hL hB0
  obtain ⟨y0, y1, y2⟩ := HY.out.cells
  have z0 := HY.out.frozen 0
  have z1 := HY.out.frozen 1
  have z2 := HY.out.frozen 2
  go_wp2_with (first
    | (go_at_call 22; refine (Hupper.out _).mono ?_; rintro e w1 ⟨rfl, hw1⟩; replace hw1 := hw1.symm; subst hw1)
    | (go_at_call 23; refine (Hlower.out _).mono ?_; rintro e w1 ⟨rfl, hw1⟩; replace hw1 := hw1.symm; subst hw1)
    | (go_at_call 24; refine (Hdigit.out _).mono ?_; rintro e w1 ⟨rfl, hw1⟩; replace hw1 := hw1.symm; subst hw1)
    | (go_at_call 27; refine (HC.out _).mono ?_; rintro e w1 ⟨rfl, hw1⟩; replace hw1 := hw1.symm; subst hw1))
  all_goals (exact bodyPost_ret (v := .tuple #[.agg #[.int .i64 3, .string y, .int .i64 (i : Int)], .int .i64 ((i : Int) + (n : Int)), .int .i64 0]) (by simp [results, Tryd.results13, go_sem, y0, y1, y2]) rfl ⟨by rw [HE.out], ((H0.out.setCell HL.out _).setCell HL.out _).setCell HL.out _⟩)
set_option maxRecDepth 100000 in
set_option maxHeartbeats 4000000 in
theorem rone_dgB (s : ByteArray) (i : Nat) (w : World) (c : Int) (h : i < s.size) (hs : s.size ≤ 8192) (hc : byteAt s i = c) (h1 : largeB c = false) (h2 : smallB c = false) (h3 : digitB c = true) (h4 : ¬ c = 48)
    (hn : 19 < spanN digitB ((bytesS s).drop i)) : Calls Tryd.prog 13 #[.string s, .int .i64 (i : Int)] w fun e w' => e = .returned (refT i (strR 3 digitB (19) ((bytesS s).drop i))) ∧ Below w.heap.size w w' := by
  have hi := at_str s i h
  rw [hc] at hi
  have hle := spanN_le digitB ((bytesS s).drop i)
  rw [List.length_drop, bytesS_length] at hle
  have HC : Hid (∀ w', Calls Tryd.prog 27 #[.string s, .int .i64 (i : Int), .int .i64 3] w' _) := fun w' => rspan_dg s i w' (by omega) hs
  obtain ⟨V, hV⟩ : ∃ V, V = refT i (strR 3 digitB (19) ((bytesS s).drop i)) := ⟨_, rfl⟩
  rw [← hV]
  have hbad : strR 3 digitB (19) ((bytesS s).drop i) = (0, [], 0, 4) := if_pos hn
  have HE : Hid (V = .tuple #[.agg #[.int .i64 0, .string ⟨#[]⟩, .int .i64 0], .int .i64 (i : Int), .int .i64 4]) := by
    show V = _
    rw [hV, refT_no hbad (by decide)]
    simp
  clear hbad
  obtain ⟨n, hnn⟩ : ∃ n, n = spanN digitB ((bytesS s).drop i) := ⟨_, rfl⟩
  rw [← hnn] at HC hle hn
  have hn' : (19 : Int) < (n : Int) := by omega
  have h4b : (c == (48 : Int)) = false := by simp [h4]
  have Hupper : Hid (∀ w', Calls Tryd.prog 22 #[.int .u8 c] w' fun e w'' => e = .returned (.bool false) ∧ w'' = w') := fun w' => by have := rupper_any c w'; rwa [h1] at this
  have Hlower : Hid (∀ w', Calls Tryd.prog 23 #[.int .u8 c] w' fun e w'' => e = .returned (.bool false) ∧ w'' = w') := fun w' => by have := rlower_any c w'; rwa [h2] at this
  have Hdigit : Hid (∀ w', Calls Tryd.prog 24 #[.int .u8 c] w' fun e w'' => e = .returned (.bool true) ∧ w'' = w') := fun w' => by have := rdigit_any c w'; rwa [h3] at this
  clear h1 h2 h3
  clear hV hnn hc
  obtain ⟨W, p, hW, hp, hB0, hY, hL⟩ := one_start w
  go_enter Tryd.func13, Tryd.ntmps13
  go_upto_region 1 with fail
  rw [← hW, ← hp]
  have HY : Hid (Box3 29 W p (.int .i64 0) (.string ⟨#[]⟩) (.int .i64 0)) := hY
  have HL : Hid (w.heap.size ≤ p) := hL
  have H0 : Hid (Below w.heap.size w W) := hB0
  clear hW hp hY hL hB0
  obtain ⟨y0, y1, y2⟩ := HY.out.cells
  have z0 := HY.out.frozen 0
  have z1 := HY.out.frozen 1
  have z2 := HY.out.frozen 2
  go_wp2_with (first
    | (go_at_call 22; refine (Hupper.out _).mono ?_; rintro e w1 ⟨rfl, hw1⟩; replace hw1 := hw1.symm; subst hw1)
    | (go_at_call 23; refine (Hlower.out _).mono ?_; rintro e w1 ⟨rfl, hw1⟩; replace hw1 := hw1.symm; subst hw1)
    | (go_at_call 24; refine (Hdigit.out _).mono ?_; rintro e w1 ⟨rfl, hw1⟩; replace hw1 := hw1.symm; subst hw1)
    | (go_at_call 27; refine (HC.out _).mono ?_; rintro e w1 ⟨rfl, hw1⟩; replace hw1 := hw1.symm; subst hw1))
  all_goals (exact bodyPost_ret (v := .tuple #[.agg #[.int .i64 0, .string ⟨#[]⟩, .int .i64 0], .int .i64 (i : Int), .int .i64 4]) (by simp [results, Tryd.results13, go_sem, y0, y1, y2]) rfl ⟨by rw [HE.out], ((H0.out.setCell HL.out _).setCell HL.out _).setCell HL.out _⟩)
set_option maxRecDepth 100000 in
set_option maxHeartbeats 4000000 in
theorem rone_dgG (s : ByteArray) (i : Nat) (w : World) (c : Int) (h : i < s.size) (hs : s.size ≤ 8192) (hc : byteAt s i = c) (h1 : largeB c = false) (h2 : smallB c = false) (h3 : digitB c = true) (h4 : ¬ c = 48)
    (hn : 19 ≥ spanN digitB ((bytesS s).drop i)) : Calls Tryd.prog 13 #[.string s, .int .i64 (i : Int)] w fun e w' => e = .returned (refT i (strR 3 digitB (19) ((bytesS s).drop i))) ∧ Below w.heap.size w w' := by
  have hi := at_str s i h
  rw [hc] at hi
  have hle := spanN_le digitB ((bytesS s).drop i)
  rw [List.length_drop, bytesS_length] at hle
  have HC : Hid (∀ w', Calls Tryd.prog 27 #[.string s, .int .i64 (i : Int), .int .i64 3] w' _) := fun w' => rspan_dg s i w' (by omega) hs
  obtain ⟨V, hV⟩ : ∃ V, V = refT i (strR 3 digitB (19) ((bytesS s).drop i)) := ⟨_, rfl⟩
  rw [← hV]
  have hne : strR 3 digitB (19) ((bytesS s).drop i) = (3, ((bytesS s).drop i).take (spanN digitB ((bytesS s).drop i)), spanN digitB ((bytesS s).drop i), 0) := if_neg (by omega)
  obtain ⟨n, hnn⟩ : ∃ n, n = spanN digitB ((bytesS s).drop i) := ⟨_, rfl⟩
  rw [← hnn] at HC hle hn hne
  have HE0 := hV.trans (refT_ok hne (ext_mid s i n))
  have hsl := slice_mid s i n (by omega)
  generalize s.extract i (i + n) = y at hsl HE0
  have HE : Hid (V = .tuple #[.agg #[.int .i64 3, .string y, .int .i64 (i : Int)], .int .i64 ((i : Int) + (n : Int)), .int .i64 0]) := HE0
  clear HE0 hne
  have hn' : ¬ (19 : Int) < (n : Int) := by omega
  have h4b : (c == (48 : Int)) = false := by simp [h4]
  have Hupper : Hid (∀ w', Calls Tryd.prog 22 #[.int .u8 c] w' fun e w'' => e = .returned (.bool false) ∧ w'' = w') := fun w' => by have := rupper_any c w'; rwa [h1] at this
  have Hlower : Hid (∀ w', Calls Tryd.prog 23 #[.int .u8 c] w' fun e w'' => e = .returned (.bool false) ∧ w'' = w') := fun w' => by have := rlower_any c w'; rwa [h2] at this
  have Hdigit : Hid (∀ w', Calls Tryd.prog 24 #[.int .u8 c] w' fun e w'' => e = .returned (.bool true) ∧ w'' = w') := fun w' => by have := rdigit_any c w'; rwa [h3] at this
  clear h1 h2 h3
  clear hV hnn hc
  obtain ⟨W, p, hW, hp, hB0, hY, hL⟩ := one_start w
  go_enter Tryd.func13, Tryd.ntmps13
  go_upto_region 1 with fail
  rw [← hW, ← hp]
  have HY : Hid (Box3 29 W p (.int .i64 0) (.string ⟨#[]⟩) (.int .i64 0)) := hY
  have HL : Hid (w.heap.size ≤ p) := hL
  have H0 : Hid (Below w.heap.size w W) := hB0
  clear hW hp hY hL hB0
  obtain ⟨y0, y1, y2⟩ := HY.out.cells
  have z0 := HY.out.frozen 0
  have z1 := HY.out.frozen 1
  have z2 := HY.out.frozen 2
  go_wp2_with (first
    | (go_at_call 22; refine (Hupper.out _).mono ?_; rintro e w1 ⟨rfl, hw1⟩; replace hw1 := hw1.symm; subst hw1)
    | (go_at_call 23; refine (Hlower.out _).mono ?_; rintro e w1 ⟨rfl, hw1⟩; replace hw1 := hw1.symm; subst hw1)
    | (go_at_call 24; refine (Hdigit.out _).mono ?_; rintro e w1 ⟨rfl, hw1⟩; replace hw1 := hw1.symm; subst hw1)
    | (go_at_call 27; refine (HC.out _).mono ?_; rintro e w1 ⟨rfl, hw1⟩; replace hw1 := hw1.symm; subst hw1))
  all_goals (exact bodyPost_ret (v := .tuple #[.agg #[.int .i64 3, .string y, .int .i64 (i : Int)], .int .i64 ((i : Int) + (n : Int)), .int .i64 0]) (by simp [results, Tryd.results13, go_sem, y0, y1, y2]) rfl ⟨by rw [HE.out], ((H0.out.setCell HL.out _).setCell HL.out _).setCell HL.out _⟩)
set_option maxRecDepth 100000 in
set_option maxHeartbeats 4000000 in
theorem rone_qB (s : ByteArray) (i : Nat) (w : World) (h : i < s.size) (hs : s.size ≤ 8192) (hc : byteAt s i = 39) (he : ¬ (unquoteR ((bytesS s).drop i)).2.2 = 0) :
    Calls Tryd.prog 13 #[.string s, .int .i64 (i : Int)] w fun e w' => e = .returned (refT i (unqT ((bytesS s).drop i))) ∧ Below w.heap.size w w' := by
  have hi := at_str s i h
  rw [hc] at hi
  have hsl : ∀ w' : World, (Instr.slice 9 (.string s) (some (.int .i64 (i : Int))) none none).run Tryd.prog w' = .ok (.string (s.extract i s.size)) w' := fun w' => by
    rw [run_slice_string_from_if w' 9 s .i64 (i : Int) Tryd.underlying9, if_pos ⟨by omega, by omega⟩, Int.toNat_natCast]
  have hsz : (s.extract i s.size).size ≤ 140737488355328 := by
    rw [← bytesS_length, bytes_drop, List.length_drop, bytesS_length]; omega
  have hu := unquote_one ((bytesS s).drop i) (fun x hx => bytesS_bd s x (List.mem_of_mem_drop hx))
  have hcc : ∀ w', Calls Tryd.prog 25 #[.string (s.extract i s.size)] w' _ := fun w' => refUnquote_any (s.extract i s.size) w' hsz
  simp only [bytes_drop] at hcc
  have HC : Hid (∀ w', Calls Tryd.prog 25 #[.string (s.extract i s.size)] w' _) := hcc
  rw [List.length_drop, bytesS_length] at hu
  clear hcc hsz
  obtain ⟨V, hV⟩ : ∃ V, V = refT i (unqT ((bytesS s).drop i)) := ⟨_, rfl⟩
  rw [← hV]
  unfold unqT at hV
  generalize s.extract i s.size = t at hsl HC
  generalize unquoteR ((bytesS s).drop i) = U at HC hV he hu
  obtain ⟨S, n, e⟩ := U
  dsimp only at HC hV he hu
  have hn : n ≤ s.size - i := (hu.2.1 he).2
  have HE : Hid (V = .tuple #[.agg #[.int .i64 0, .string ⟨#[]⟩, .int .i64 0], .int .i64 ((i : Int) + (n : Int)), .int .i64 e]) := hV.trans (refT_no rfl he)
  have heb : (e == (0 : Int)) = false := by simp [he]
  generalize strOf S = y at HC
  have Hupper : Hid (∀ w', Calls Tryd.prog 22 #[.int .u8 39] w' fun e w'' => e = .returned (.bool false) ∧ w'' = w') := fun w' => by have := rupper_any 39 w'; rwa [show largeB 39 = false by decide] at this
  have Hlower : Hid (∀ w', Calls Tryd.prog 23 #[.int .u8 39] w' fun e w'' => e = .returned (.bool false) ∧ w'' = w') := fun w' => by have := rlower_any 39 w'; rwa [show smallB 39 = false by decide] at this
  have Hdigit : Hid (∀ w', Calls Tryd.prog 24 #[.int .u8 39] w' fun e w'' => e = .returned (.bool false) ∧ w'' = w') := fun w' => by have := rdigit_any 39 w'; rwa [show digitB 39 = false by decide] at this
  clear hV hc hu
  obtain ⟨W, p, hW, hp, hB0, hY, hL⟩ := one_start w
  go_enter Tryd.func13, Tryd.ntmps13
  go_upto_region 1 with fail
  rw [← hW, ← hp]
  have HY : Hid (Box3 29 W p (.int .i64 0) (.string ⟨#[]⟩) (.int .i64 0)) := hY
  have HL : Hid (w.heap.size ≤ p) := hL
  have H0 : Hid (Below w.heap.size w W) := hB0
  clear hW hp hY hL hB0
  go_wp2_with (first
    | (go_at_call 22; refine (Hupper.out _).mono ?_; rintro e w1 ⟨rfl, hw1⟩; replace hw1 := hw1.symm; subst hw1)
    | (go_at_call 23; refine (Hlower.out _).mono ?_; rintro e w1 ⟨rfl, hw1⟩; replace hw1 := hw1.symm; subst hw1)
    | (go_at_call 24; refine (Hdigit.out _).mono ?_; rintro e w1 ⟨rfl, hw1⟩; replace hw1 := hw1.symm; subst hw1)
    | (go_at_call 25
       refine (HC.out _).mono ?_
       rintro e w3 ⟨rfl, hB3⟩
       have HB : Hid (Below w.heap.size w w3) := H0.out.trans (hB3.mono H0.out.size)
       have Y2 := HY.out.keep hB3
       obtain ⟨y0, y1, y2⟩ := Y2.cells
       have z0 := Y2.frozen 0
       have z1 := Y2.frozen 1
       have z2 := Y2.frozen 2
       clear Y2))
  exact bodyPost_ret (v := .tuple #[.agg #[.int .i64 0, .string ⟨#[]⟩, .int .i64 0], .int .i64 ((i : Int) + (n : Int)), .int .i64 e]) (by simp [results, Tryd.results13, go_sem, y0, y1, y2]) rfl ⟨by rw [HE.out], ((HB.out.setCell HL.out _).setCell HL.out _).setCell HL.out _⟩
set_option maxRecDepth 100000 in
set_option maxHeartbeats 4000000 in
theorem rone_qG (s : ByteArray) (i : Nat) (w : World) (h : i < s.size) (hs : s.size ≤ 8192) (hc : byteAt s i = 39) (he : (unquoteR ((bytesS s).drop i)).2.2 = 0) :
    Calls Tryd.prog 13 #[.string s, .int .i64 (i : Int)] w fun e w' => e = .returned (refT i (unqT ((bytesS s).drop i))) ∧ Below w.heap.size w w' := by
  have hi := at_str s i h
  rw [hc] at hi
  have hsl : ∀ w' : World, (Instr.slice 9 (.string s) (some (.int .i64 (i : Int))) none none).run Tryd.prog w' = .ok (.string (s.extract i s.size)) w' := fun w' => by
    rw [run_slice_string_from_if w' 9 s .i64 (i : Int) Tryd.underlying9, if_pos ⟨by omega, by omega⟩, Int.toNat_natCast]
  have hsz : (s.extract i s.size).size ≤ 140737488355328 := by
    rw [← bytesS_length, bytes_drop, List.length_drop, bytesS_length]; omega
  have hu := unquote_one ((bytesS s).drop i) (fun x hx => bytesS_bd s x (List.mem_of_mem_drop hx))
  have hcc : ∀ w', Calls Tryd.prog 25 #[.string (s.extract i s.size)] w' _ := fun w' => refUnquote_any (s.extract i s.size) w' hsz
  simp only [bytes_drop] at hcc
  have HC : Hid (∀ w', Calls Tryd.prog 25 #[.string (s.extract i s.size)] w' _) := hcc
  rw [List.length_drop, bytesS_length] at hu
  clear hcc hsz
  obtain ⟨V, hV⟩ : ∃ V, V = refT i (unqT ((bytesS s).drop i)) := ⟨_, rfl⟩
  rw [← hV]
  unfold unqT at hV
  generalize s.extract i s.size = t at hsl HC
  generalize unquoteR ((bytesS s).drop i) = U at HC hV he hu
  obtain ⟨S, n, e⟩ := U
  dsimp only at HC hV he hu
  subst he
  obtain ⟨m, hm1, hm2, hm3, -, -, -⟩ := hu.1 rfl
  have hn : n ≤ s.size - i := by omega
  have hE := hV.trans (refT_ok rfl rfl)
  generalize strOf S = y at HC hE
  have HE : Hid (V = .tuple #[.agg #[.int .i64 4, .string y, .int .i64 (i : Int)], .int .i64 ((i : Int) + (n : Int)), .int .i64 0]) := hE
  clear hE hm1 hm2 hm3 m
  have Hupper : Hid (∀ w', Calls Tryd.prog 22 #[.int .u8 39] w' fun e w'' => e = .returned (.bool false) ∧ w'' = w') := fun w' => by have := rupper_any 39 w'; rwa [show largeB 39 = false by decide] at this
  have Hlower : Hid (∀ w', Calls Tryd.prog 23 #[.int .u8 39] w' fun e w'' => e = .returned (.bool false) ∧ w'' = w') := fun w' => by have := rlower_any 39 w'; rwa [show smallB 39 = false by decide] at this
  have Hdigit : Hid (∀ w', Calls Tryd.prog 24 #[.int .u8 39] w' fun e w'' => e = .returned (.bool false) ∧ w'' = w') := fun w' => by have := rdigit_any 39 w'; rwa [show digitB 39 = false by decide] at this
  clear hV hc hu
  obtain ⟨W, p, hW, hp, hB0, hY, hL⟩ := one_start w
  go_enter Tryd.func13, Tryd.ntmps13
  go_upto_region 1 with fail
  rw [← hW, ← hp]
  have HY : Hid (Box3 29 W p (.int .i64 0) (.string ⟨#[]⟩) (.int .i64 0)) := hY
  have HL : Hid (w.heap.size ≤ p) := hL
  have H0 : Hid (Below w.heap.size w W) := hB0
  clear hW hp hY hL hB0
  go_wp2_with (first
    | (go_at_call 22; refine (Hupper.out _).mono ?_; rintro e w1 ⟨rfl, hw1⟩; replace hw1 := hw1.symm; subst hw1)
    | (go_at_call 23; refine (Hlower.out _).mono ?_; rintro e w1 ⟨rfl, hw1⟩; replace hw1 := hw1.symm; subst hw1)
    | (go_at_call 24; refine (Hdigit.out _).mono ?_; rintro e w1 ⟨rfl, hw1⟩; replace hw1 := hw1.symm; subst hw1)
    | (go_at_call 25
       refine (HC.out _).mono ?_
       rintro e w3 ⟨rfl, hB3⟩
       have HB : Hid (Below w.heap.size w w3) := H0.out.trans (hB3.mono H0.out.size)
       have Y2 := HY.out.keep hB3
       obtain ⟨y0, y1, y2⟩ := Y2.cells
       have z0 := Y2.frozen 0
       have z1 := Y2.frozen 1
       have z2 := Y2.frozen 2
       clear Y2))
  exact bodyPost_ret (v := .tuple #[.agg #[.int .i64 4, .string y, .int .i64 (i : Int)], .int .i64 ((i : Int) + (n : Int)), .int .i64 0]) (by simp [results, Tryd.results13, go_sem, y0, y1, y2]) rfl ⟨by rw [HE.out], ((HB.out.setCell HL.out _).setCell HL.out _).setCell HL.out _⟩
set_option maxRecDepth 100000 in
set_option maxHeartbeats 4000000 in
theorem rone_sB (s : ByteArray) (i : Nat) (w : World) (c : Int) (h : i < s.size) (hs : s.size ≤ 8192) (hc : byteAt s i = c) (h1 : largeB c = false) (h2 : smallB c = false) (h3 : digitB c = false) (h4 : ¬ c = 39) (he : sgnL ((bytesS s).drop i) = []) :
    Calls Tryd.prog 13 #[.string s, .int .i64 (i : Int)] w fun e w' => e = .returned (refT i (sigR ((bytesS s).drop i))) ∧ Below w.heap.size w w' := by
  have hi := at_str s i h
  rw [hc] at hi
  have h4b : (c == (39 : Int)) = false := by simp [h4]
  have HC : Hid (∀ w', Calls Tryd.prog 26 #[.string s, .int .i64 (i : Int)] w' _) := fun w' => rsign_any s i w' h hs
  have hlen := (sgnL_take ((bytesS s).drop i)).2
  rw [List.length_drop, bytesS_length] at hlen
  obtain ⟨V, hV⟩ : ∃ V, V = refT i (sigR ((bytesS s).drop i)) := ⟨_, rfl⟩
  rw [← hV]
  unfold sigR at hV
  rw [if_pos he] at hV
  have HE : Hid (V = .tuple #[.agg #[.int .i64 0, .string ⟨#[]⟩, .int .i64 0], .int .i64 (i : Int), .int .i64 4]) := by
    show V = _
    rw [hV, refT_no rfl (by decide)]
    simp
  rw [he] at HC
  have HC2 : Hid (∀ w', Calls Tryd.prog 26 #[.string s, .int .i64 (i : Int)] w' fun e w'' => e = .returned (.string ⟨#[]⟩) ∧ Below w'.heap.size w' w'') := HC.out
  have Hupper : Hid (∀ w', Calls Tryd.prog 22 #[.int .u8 c] w' fun e w'' => e = .returned (.bool false) ∧ w'' = w') := fun w' => by have := rupper_any c w'; rwa [h1] at this
  have Hlower : Hid (∀ w', Calls Tryd.prog 23 #[.int .u8 c] w' fun e w'' => e = .returned (.bool false) ∧ w'' = w') := fun w' => by have := rlower_any c w'; rwa [h2] at this
  have Hdigit : Hid (∀ w', Calls Tryd.prog 24 #[.int .u8 c] w' fun e w'' => e = .returned (.bool false) ∧ w'' = w') := fun w' => by have := rdigit_any c w'; rwa [h3] at this
  clear hV hc h1 h2 h3 HC he
  obtain ⟨W, p, hW, hp, hB0, hY, hL⟩ := one_start w
  go_enter Tryd.func13, Tryd.ntmps13
  go_upto_region 1 with fail
  rw [← hW, ← hp]
  have HY : Hid (Box3 29 W p (.int .i64 0) (.string ⟨#[]⟩) (.int .i64 0)) := hY
  have HL : Hid (w.heap.size ≤ p) := hL
  have H0 : Hid (Below w.heap.size w W) := hB0
  clear hW hp hY hL hB0
  go_wp2_with (first
    | (go_at_call 22; refine (Hupper.out _).mono ?_; rintro e w1 ⟨rfl, hw1⟩; replace hw1 := hw1.symm; subst hw1)
    | (go_at_call 23; refine (Hlower.out _).mono ?_; rintro e w1 ⟨rfl, hw1⟩; replace hw1 := hw1.symm; subst hw1)
    | (go_at_call 24; refine (Hdigit.out _).mono ?_; rintro e w1 ⟨rfl, hw1⟩; replace hw1 := hw1.symm; subst hw1)
    | (go_at_call 26
       refine (HC2.out _).mono ?_
       rintro e w3 ⟨rfl, hB3⟩
       have HB : Hid (Below w.heap.size w w3) := H0.out.trans (hB3.mono H0.out.size)
       have Y2 := HY.out.keep hB3
       obtain ⟨y0, y1, y2⟩ := Y2.cells
       have z0 := Y2.frozen 0
       have z1 := Y2.frozen 1
       have z2 := Y2.frozen 2
       clear Y2))
  exact bodyPost_ret (v := .tuple #[.agg #[.int .i64 0, .string ⟨#[]⟩, .int .i64 0], .int .i64 (i : Int), .int .i64 4]) (by simp [results, Tryd.results13, go_sem, y0, y1, y2]) rfl ⟨by rw [HE.out], ((HB.out.setCell HL.out _).setCell HL.out _).setCell HL.out _⟩
set_option maxRecDepth 100000 in
set_option maxHeartbeats 4000000 in
theorem rone_sG (s : ByteArray) (i : Nat) (w : World) (c : Int) (h : i < s.size) (hs : s.size ≤ 8192) (hc : byteAt s i = c) (h1 : largeB c = false) (h2 : smallB c = false) (h3 : digitB c = false) (h4 : ¬ c = 39) (he : ¬ sgnL ((bytesS s).drop i) = []) :
    Calls Tryd.prog 13 #[.string s, .int .i64 (i : Int)] w fun e w' => e = .returned (refT i (sigR ((bytesS s).drop i))) ∧ Below w.heap.size w w' := by
  have hi := at_str s i h
  rw [hc] at hi
  have h4b : (c == (39 : Int)) = false := by simp [h4]
  have HC : Hid (∀ w', Calls Tryd.prog 26 #[.string s, .int .i64 (i : Int)] w' _) := fun w' => rsign_any s i w' h hs
  have hlen := (sgnL_take ((bytesS s).drop i)).2
  rw [List.length_drop, bytesS_length] at hlen
  obtain ⟨V, hV⟩ : ∃ V, V = refT i (sigR ((bytesS s).drop i)) := ⟨_, rfl⟩
  rw [← hV]
  unfold sigR at hV
  rw [if_neg he] at hV
  have hE := hV.trans (refT_ok rfl rfl)
  have hsz : (strOf (sgnL ((bytesS s).drop i))).size = (sgnL ((bytesS s).drop i)).length := strOf_size _
  rw [← hsz] at hE hlen
  have hpos : 0 < (strOf (sgnL ((bytesS s).drop i))).size := by
    rw [hsz]
    exact List.length_pos_iff.2 he
  generalize strOf (sgnL ((bytesS s).drop i)) = y at HC hE hpos hlen
  have hne := ne_nil y hpos
  have HE : Hid (V = .tuple #[.agg #[.int .i64 5, .string y, .int .i64 (i : Int)], .int .i64 ((i : Int) + (y.size : Int)), .int .i64 0]) := hE
  have HC2 : Hid (∀ w', Calls Tryd.prog 26 #[.string s, .int .i64 (i : Int)] w' fun e w'' => e = .returned (.string y) ∧ Below w'.heap.size w' w'') := HC.out
  clear hE hsz hpos
  have Hupper : Hid (∀ w', Calls Tryd.prog 22 #[.int .u8 c] w' fun e w'' => e = .returned (.bool false) ∧ w'' = w') := fun w' => by have := rupper_any c w'; rwa [h1] at this
  have Hlower : Hid (∀ w', Calls Tryd.prog 23 #[.int .u8 c] w' fun e w'' => e = .returned (.bool false) ∧ w'' = w') := fun w' => by have := rlower_any c w'; rwa [h2] at this
  have Hdigit : Hid (∀ w', Calls Tryd.prog 24 #[.int .u8 c] w' fun e w'' => e = .returned (.bool false) ∧ w'' = w') := fun w' => by have := rdigit_any c w'; rwa [h3] at this
  clear hV hc h1 h2 h3 HC he
  obtain ⟨W, p, hW, hp, hB0, hY, hL⟩ := one_start w
  go_enter Tryd.func13, Tryd.ntmps13
  go_upto_region 1 with fail
  rw [← hW, ← hp]
  have HY : Hid (Box3 29 W p (.int .i64 0) (.string ⟨#[]⟩) (.int .i64 0)) := hY
  have HL : Hid (w.heap.size ≤ p) := hL
  have H0 : Hid (Below w.heap.size w W) := hB0
  clear hW hp hY hL hB0
  go_wp2_with (first
    | (go_at_call 22; refine (Hupper.out _).mono ?_; rintro e w1 ⟨rfl, hw1⟩; replace hw1 := hw1.symm; subst hw1)
    | (go_at_call 23; refine (Hlower.out _).mono ?_; rintro e w1 ⟨rfl, hw1⟩; replace hw1 := hw1.symm; subst hw1)
    | (go_at_call 24; refine (Hdigit.out _).mono ?_; rintro e w1 ⟨rfl, hw1⟩; replace hw1 := hw1.symm; subst hw1)
    | (go_at_call 26
       refine (HC2.out _).mono ?_
       rintro e w3 ⟨rfl, hB3⟩
       have HB : Hid (Below w.heap.size w w3) := H0.out.trans (hB3.mono H0.out.size)
       have Y2 := HY.out.keep hB3
       obtain ⟨y0, y1, y2⟩ := Y2.cells
       have z0 := Y2.frozen 0
       have z1 := Y2.frozen 1
       have z2 := Y2.frozen 2
       clear Y2))
  exact bodyPost_ret (v := .tuple #[.agg #[.int .i64 5, .string y, .int .i64 (i : Int)], .int .i64 ((i : Int) + (y.size : Int)), .int .i64 0]) (by simp [results, Tryd.results13, go_sem, y0, y1, y2]) rfl ⟨by rw [HE.out], ((HB.out.setCell HL.out _).setCell HL.out _).setCell HL.out _⟩
theorem rone_any (s : ByteArray) (i : Nat) (w : World) (h : i < s.size) (hs : s.size ≤ 8192) : Calls Tryd.prog 13 #[.string s, .int .i64 (i : Int)] w fun e w' => e = .returned (refT i (oneR ((bytesS s).drop i))) ∧ Below w.heap.size w w' := by
  have hd := drop_at s i h
  obtain ⟨c, hc⟩ : ∃ c, byteAt s i = c := ⟨_, rfl⟩
  rw [hc] at hd
  have ho : oneR ((bytesS s).drop i) = if digitB c then strR 3 digitB (mostD c) ((bytesS s).drop i) else if largeB c then strR 1 largeB 32 ((bytesS s).drop i) else if smallB c then strR 2 namedB 32 ((bytesS s).drop i) else if c = 39 then unqT ((bytesS s).drop i) else sigR ((bytesS s).drop i) := by
    rw [hd, oneR_cons]
  rw [ho]
  clear ho
  by_cases h3 : digitB c = true
  · rw [if_pos h3]
    have h1 : largeB c = false := by
      unfold digitB at h3; simp only [decide_eq_true_eq] at h3
      unfold largeB; exact decide_eq_false (by omega)
    have h2 : smallB c = false := by
      unfold digitB at h3; simp only [decide_eq_true_eq] at h3
      unfold smallB; exact decide_eq_false (by omega)
    by_cases h4 : c = 48
    · have e : mostD c = 1 := if_pos h4
      rw [e]
      by_cases hn : 1 < spanN digitB ((bytesS s).drop i)
      · exact rone_zrB s i w c h hs hc h1 h2 h3 h4 hn
      · exact rone_zrG s i w c h hs hc h1 h2 h3 h4 (by omega)
    · have e : mostD c = 19 := if_neg h4
      rw [e]
      by_cases hn : 19 < spanN digitB ((bytesS s).drop i)
      · exact rone_dgB s i w c h hs hc h1 h2 h3 h4 hn
      · exact rone_dgG s i w c h hs hc h1 h2 h3 h4 (by omega)
  rw [if_neg h3]
  have n3 : digitB c = false := by simpa using h3
  by_cases h1 : largeB c = true
  · rw [if_pos h1]
    by_cases hn : 32 < spanN largeB ((bytesS s).drop i)
    · exact rone_upB s i w c h hs hc h1 hn
    · exact rone_upG s i w c h hs hc h1 (by omega)
  rw [if_neg h1]
  have n1 : largeB c = false := by simpa using h1
  by_cases h2 : smallB c = true
  · rw [if_pos h2]
    by_cases hn : 32 < spanN namedB ((bytesS s).drop i)
    · exact rone_loB s i w c h hs hc n1 h2 hn
    · exact rone_loG s i w c h hs hc n1 h2 (by omega)
  rw [if_neg h2]
  have n2 : smallB c = false := by simpa using h2
  by_cases h4 : c = 39
  · rw [if_pos h4]
    by_cases he : (unquoteR ((bytesS s).drop i)).2.2 = 0
    · exact rone_qG s i w h hs (hc.trans h4) he
    · exact rone_qB s i w h hs (hc.trans h4) he
  rw [if_neg h4]
  by_cases he : sgnL ((bytesS s).drop i) = []
  · exact rone_sB s i w c h hs hc n1 n2 n3 h4 he
  · exact rone_sG s i w c h hs hc n1 n2 n3 h4 he
end Go.Proofs.YtdfmehbnhdhbcaaDoor
