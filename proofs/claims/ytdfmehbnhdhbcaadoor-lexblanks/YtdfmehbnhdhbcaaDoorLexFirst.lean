/-
  lex.first: the token that a text begins with. Made by tools/mk_lexfirst17.py.
-/
import Derived.Test.YtdfmehbnhdhbcaaDoorLexStretch
namespace Go.Proofs.YtdfmehbnhdhbcaaDoor
open Go.RowKit

/-- The rune that a text begins with. -/
theorem rune_first (s : ByteArray) (h : 0 < s.size) : (byteAt s 0 < 128 ∧ ((Lib.decodeGo s).1 : Int) = byteAt s 0) ∨ (128 ≤ byteAt s 0 ∧ 128 ≤ ((Lib.decodeGo s).1 : Int)) := by
  have e : Lib.decodeGo s = Utf8.decode s 0 := if_neg (by omega)
  have hb := byteAt_bd s 0
  rw [e]
  by_cases ha : byteAt s 0 < 128
  · refine .inl ⟨ha, ?_⟩
    rw [rune_byte s 0 h ha]
    exact Int.toNat_of_nonneg hb.1
  · have := (rune_over s 0 h (by omega)).1
    exact .inr ⟨by omega, by omega⟩
theorem bytes_head (s : ByteArray) (h : 0 < s.size) : bytesS s = byteAt s 0 :: (bytesS s).drop 1 := by
  have := drop_at s 0 h
  rwa [List.drop_zero] at this
set_option maxRecDepth 100000 in
set_option maxHeartbeats 2000000 in
theorem first_zero (s : ByteArray) (c : Int) (w : World) (hT : LexT w) (hd : ((Lib.decodeGo s).1 : Int) = c) (hc : c = 48) :
    Calls Tryd.prog 11 #[.string s] w fun e w' => e = .returned (tokV (strR 3 digitB 1 (bytesS s))) ∧ Below w.heap.size w w' := by
  have HD : Hid (∀ w', Below w.heap.size w w' → Calls Tryd.prog 14 #[.string s] w' fun e w'' => e = .returned (.tuple #[.int .i32 c, .int .i64 ((Lib.decodeGo s).2 : Int)]) ∧ Below w'.heap.size w' w'') := fun w' hb => by
    have := Tryd.utf8_DecodeRuneInString s w' (hT.later hb).utf
    rwa [hd] at this
  have HC : Hid (∀ w', Below w.heap.size w w' → Calls Tryd.prog 16 _ w' _) := fun w' hb => stretch_digit 3 s 1 w'
  obtain ⟨V, hV⟩ : ∃ V, V = tokV (strR 3 digitB 1 (bytesS s)) := ⟨_, rfl⟩
  rw [← hV]
  rw [← hV] at HC
  generalize strR 3 digitB 1 (bytesS s) = U at HC hV
  obtain ⟨k, S, n, e⟩ := U
  unfold tokV at hV
  dsimp only at hV
  generalize strOf S = y at hV
  have HE : Hid (V = .tuple #[.agg #[.int .i64 k, .string y, .int .i64 0], .int .i64 (n : Int), .int .i64 e]) := hV
  rw [hV] at HC
  clear hV
  subst hc
  have Hdigit : Hid (∀ w', Calls Tryd.prog 15 #[.int .i32 48] w' fun e w'' => e = .returned (.bool true) ∧ w'' = w') := fun w' => by have := ldigit_any 48 w'; rwa [show digitB 48 = true by decide] at this
  clear hT hd
  generalize (Lib.decodeGo s).2 = q at HD
  · obtain ⟨W, p, hW, hp, hB0, hY, hL⟩ := tok_start w
    unfold tokO at hW
    go_enter Tryd.func11, Tryd.ntmps11
    go_upto_region 1 with fail
    rw [← hW, ← hp]
    have HY : Hid (Box3 29 W p (.int .i64 0) (.string ⟨#[]⟩) (.int .i64 0)) := hY
    have HL : Hid (w.heap.size ≤ p) := hL
    have H0 : Hid (Below w.heap.size w W) := hB0
    clear hW hp hY hL hB0
    go_wp2_with (first
    | (go_at_call 14; refine (HD.out _ H0.out).mono ?_; rintro e w1 ⟨rfl, hB1⟩; have k1 := H0.out.trans (hB1.mono H0.out.size); have Y1 := HY.out.keep hB1)
    | (go_at_call 15; refine (Hdigit.out _).mono ?_; rintro e w2 ⟨rfl, hw2⟩; replace hw2 := hw2.symm; subst hw2)
    | (go_at_call 16
       refine (HC.out _ k1).mono ?_
       rintro e w3 ⟨rfl, hB3⟩
       have HB : Hid (Below w.heap.size w w3) := k1.trans (hB3.mono k1.size)
       have Y2 := Y1.keep hB3
       obtain ⟨y0, y1, y2⟩ := Y2.cells
       have z0 := Y2.frozen 0
       have z1 := Y2.frozen 1
       have z2 := Y2.frozen 2
       clear Y2))
    try rw [Exit.noGoto_ret]
    exact bodyPost_ret (v := .tuple #[.agg #[.int .i64 k, .string y, .int .i64 0], .int .i64 (n : Int), .int .i64 e]) (by simp [results, Tryd.results11, go_sem, y0, y1, y2]) rfl ⟨by rw [HE.out], ((HB.out.setCell HL.out _).setCell HL.out _).setCell HL.out _⟩
set_option maxRecDepth 100000 in
set_option maxHeartbeats 2000000 in
theorem first_digit (s : ByteArray) (c : Int) (w : World) (hT : LexT w) (hd : ((Lib.decodeGo s).1 : Int) = c) (hc : ¬ c = 48) (h1 : digitB c = true) :
    Calls Tryd.prog 11 #[.string s] w fun e w' => e = .returned (tokV (strR 3 digitB 19 (bytesS s))) ∧ Below w.heap.size w w' := by
  have HD : Hid (∀ w', Below w.heap.size w w' → Calls Tryd.prog 14 #[.string s] w' fun e w'' => e = .returned (.tuple #[.int .i32 c, .int .i64 ((Lib.decodeGo s).2 : Int)]) ∧ Below w'.heap.size w' w'') := fun w' hb => by
    have := Tryd.utf8_DecodeRuneInString s w' (hT.later hb).utf
    rwa [hd] at this
  have HC : Hid (∀ w', Below w.heap.size w w' → Calls Tryd.prog 16 _ w' _) := fun w' hb => stretch_digit 3 s 19 w'
  obtain ⟨V, hV⟩ : ∃ V, V = tokV (strR 3 digitB 19 (bytesS s)) := ⟨_, rfl⟩
  rw [← hV]
  rw [← hV] at HC
  generalize strR 3 digitB 19 (bytesS s) = U at HC hV
  obtain ⟨k, S, n, e⟩ := U
  unfold tokV at hV
  dsimp only at hV
  generalize strOf S = y at hV
  have HE : Hid (V = .tuple #[.agg #[.int .i64 k, .string y, .int .i64 0], .int .i64 (n : Int), .int .i64 e]) := hV
  rw [hV] at HC
  clear hV
  have hcb : (c == (48 : Int)) = false := by simp [hc]
  have Hdigit : Hid (∀ w', Calls Tryd.prog 15 #[.int .i32 c] w' fun e w'' => e = .returned (.bool true) ∧ w'' = w') := fun w' => by have := ldigit_any c w'; rwa [h1] at this
  clear hT hd h1
  generalize (Lib.decodeGo s).2 = q at HD
  · obtain ⟨W, p, hW, hp, hB0, hY, hL⟩ := tok_start w
    unfold tokO at hW
    go_enter Tryd.func11, Tryd.ntmps11
    go_upto_region 1 with fail
    rw [← hW, ← hp]
    have HY : Hid (Box3 29 W p (.int .i64 0) (.string ⟨#[]⟩) (.int .i64 0)) := hY
    have HL : Hid (w.heap.size ≤ p) := hL
    have H0 : Hid (Below w.heap.size w W) := hB0
    clear hW hp hY hL hB0
    go_wp2_with (first
    | (go_at_call 14; refine (HD.out _ H0.out).mono ?_; rintro e w1 ⟨rfl, hB1⟩; have k1 := H0.out.trans (hB1.mono H0.out.size); have Y1 := HY.out.keep hB1)
    | (go_at_call 15; refine (Hdigit.out _).mono ?_; rintro e w2 ⟨rfl, hw2⟩; replace hw2 := hw2.symm; subst hw2)
    | (go_at_call 16
       refine (HC.out _ k1).mono ?_
       rintro e w3 ⟨rfl, hB3⟩
       have HB : Hid (Below w.heap.size w w3) := k1.trans (hB3.mono k1.size)
       have Y2 := Y1.keep hB3
       obtain ⟨y0, y1, y2⟩ := Y2.cells
       have z0 := Y2.frozen 0
       have z1 := Y2.frozen 1
       have z2 := Y2.frozen 2
       clear Y2))
    try rw [Exit.noGoto_ret]
    exact bodyPost_ret (v := .tuple #[.agg #[.int .i64 k, .string y, .int .i64 0], .int .i64 (n : Int), .int .i64 e]) (by simp [results, Tryd.results11, go_sem, y0, y1, y2]) rfl ⟨by rw [HE.out], ((HB.out.setCell HL.out _).setCell HL.out _).setCell HL.out _⟩
set_option maxRecDepth 100000 in
set_option maxHeartbeats 2000000 in
theorem first_large (s : ByteArray) (c : Int) (w : World) (hT : LexT w) (hd : ((Lib.decodeGo s).1 : Int) = c) (hc : ¬ c = 48) (h1 : digitB c = false) (h2 : largeB c = true) :
    Calls Tryd.prog 11 #[.string s] w fun e w' => e = .returned (tokV (strR 1 largeB 32 (bytesS s))) ∧ Below w.heap.size w w' := by
  have HD : Hid (∀ w', Below w.heap.size w w' → Calls Tryd.prog 14 #[.string s] w' fun e w'' => e = .returned (.tuple #[.int .i32 c, .int .i64 ((Lib.decodeGo s).2 : Int)]) ∧ Below w'.heap.size w' w'') := fun w' hb => by
    have := Tryd.utf8_DecodeRuneInString s w' (hT.later hb).utf
    rwa [hd] at this
  have HC : Hid (∀ w', Below w.heap.size w w' → Calls Tryd.prog 16 _ w' _) := fun w' hb => stretch_large 1 s 32 w'
  obtain ⟨V, hV⟩ : ∃ V, V = tokV (strR 1 largeB 32 (bytesS s)) := ⟨_, rfl⟩
  rw [← hV]
  rw [← hV] at HC
  generalize strR 1 largeB 32 (bytesS s) = U at HC hV
  obtain ⟨k, S, n, e⟩ := U
  unfold tokV at hV
  dsimp only at hV
  generalize strOf S = y at hV
  have HE : Hid (V = .tuple #[.agg #[.int .i64 k, .string y, .int .i64 0], .int .i64 (n : Int), .int .i64 e]) := hV
  rw [hV] at HC
  clear hV
  have hcb : (c == (48 : Int)) = false := by simp [hc]
  have Hdigit : Hid (∀ w', Calls Tryd.prog 15 #[.int .i32 c] w' fun e w'' => e = .returned (.bool false) ∧ w'' = w') := fun w' => by have := ldigit_any c w'; rwa [h1] at this
  have Hlarge : Hid (∀ w', Calls Tryd.prog 17 #[.int .i32 c] w' fun e w'' => e = .returned (.bool true) ∧ w'' = w') := fun w' => by have := llarge_any c w'; rwa [h2] at this
  clear hT hd h1 h2
  generalize (Lib.decodeGo s).2 = q at HD
  · obtain ⟨W, p, hW, hp, hB0, hY, hL⟩ := tok_start w
    unfold tokO at hW
    go_enter Tryd.func11, Tryd.ntmps11
    go_upto_region 1 with fail
    rw [← hW, ← hp]
    have HY : Hid (Box3 29 W p (.int .i64 0) (.string ⟨#[]⟩) (.int .i64 0)) := hY
    have HL : Hid (w.heap.size ≤ p) := hL
    have H0 : Hid (Below w.heap.size w W) := hB0
    clear hW hp hY hL hB0
    go_wp2_with (first
    | (go_at_call 14; refine (HD.out _ H0.out).mono ?_; rintro e w1 ⟨rfl, hB1⟩; have k1 := H0.out.trans (hB1.mono H0.out.size); have Y1 := HY.out.keep hB1)
    | (go_at_call 15; refine (Hdigit.out _).mono ?_; rintro e w2 ⟨rfl, hw2⟩; replace hw2 := hw2.symm; subst hw2)
    | (go_at_call 17; refine (Hlarge.out _).mono ?_; rintro e w2 ⟨rfl, hw2⟩; replace hw2 := hw2.symm; subst hw2)
    | (go_at_call 16
       refine (HC.out _ k1).mono ?_
       rintro e w3 ⟨rfl, hB3⟩
       have HB : Hid (Below w.heap.size w w3) := k1.trans (hB3.mono k1.size)
       have Y2 := Y1.keep hB3
       obtain ⟨y0, y1, y2⟩ := Y2.cells
       have z0 := Y2.frozen 0
       have z1 := Y2.frozen 1
       have z2 := Y2.frozen 2
       clear Y2))
    try rw [Exit.noGoto_ret]
    exact bodyPost_ret (v := .tuple #[.agg #[.int .i64 k, .string y, .int .i64 0], .int .i64 (n : Int), .int .i64 e]) (by simp [results, Tryd.results11, go_sem, y0, y1, y2]) rfl ⟨by rw [HE.out], ((HB.out.setCell HL.out _).setCell HL.out _).setCell HL.out _⟩
set_option maxRecDepth 100000 in
set_option maxHeartbeats 2000000 in
theorem first_small (s : ByteArray) (c : Int) (w : World) (hT : LexT w) (hd : ((Lib.decodeGo s).1 : Int) = c) (hc : ¬ c = 48) (h1 : digitB c = false) (h2 : largeB c = false) (h3 : smallB c = true) :
    Calls Tryd.prog 11 #[.string s] w fun e w' => e = .returned (tokV (strR 2 namedB 32 (bytesS s))) ∧ Below w.heap.size w w' := by
  have HD : Hid (∀ w', Below w.heap.size w w' → Calls Tryd.prog 14 #[.string s] w' fun e w'' => e = .returned (.tuple #[.int .i32 c, .int .i64 ((Lib.decodeGo s).2 : Int)]) ∧ Below w'.heap.size w' w'') := fun w' hb => by
    have := Tryd.utf8_DecodeRuneInString s w' (hT.later hb).utf
    rwa [hd] at this
  have HC : Hid (∀ w', Below w.heap.size w w' → Calls Tryd.prog 16 _ w' _) := fun w' hb => stretch_named 2 s 32 w'
  obtain ⟨V, hV⟩ : ∃ V, V = tokV (strR 2 namedB 32 (bytesS s)) := ⟨_, rfl⟩
  rw [← hV]
  rw [← hV] at HC
  generalize strR 2 namedB 32 (bytesS s) = U at HC hV
  obtain ⟨k, S, n, e⟩ := U
  unfold tokV at hV
  dsimp only at hV
  generalize strOf S = y at hV
  have HE : Hid (V = .tuple #[.agg #[.int .i64 k, .string y, .int .i64 0], .int .i64 (n : Int), .int .i64 e]) := hV
  rw [hV] at HC
  clear hV
  have hcb : (c == (48 : Int)) = false := by simp [hc]
  have Hdigit : Hid (∀ w', Calls Tryd.prog 15 #[.int .i32 c] w' fun e w'' => e = .returned (.bool false) ∧ w'' = w') := fun w' => by have := ldigit_any c w'; rwa [h1] at this
  have Hlarge : Hid (∀ w', Calls Tryd.prog 17 #[.int .i32 c] w' fun e w'' => e = .returned (.bool false) ∧ w'' = w') := fun w' => by have := llarge_any c w'; rwa [h2] at this
  have Hsmall : Hid (∀ w', Calls Tryd.prog 18 #[.int .i32 c] w' fun e w'' => e = .returned (.bool true) ∧ w'' = w') := fun w' => by have := lsmall_any c w'; rwa [h3] at this
  clear hT hd h1 h2 h3
  generalize (Lib.decodeGo s).2 = q at HD
  · obtain ⟨W, p, hW, hp, hB0, hY, hL⟩ := tok_start w
    unfold tokO at hW
    go_enter Tryd.func11, Tryd.ntmps11
    go_upto_region 1 with fail
    rw [← hW, ← hp]
    have HY : Hid (Box3 29 W p (.int .i64 0) (.string ⟨#[]⟩) (.int .i64 0)) := hY
    have HL : Hid (w.heap.size ≤ p) := hL
    have H0 : Hid (Below w.heap.size w W) := hB0
    clear hW hp hY hL hB0
    go_wp2_with (first
    | (go_at_call 14; refine (HD.out _ H0.out).mono ?_; rintro e w1 ⟨rfl, hB1⟩; have k1 := H0.out.trans (hB1.mono H0.out.size); have Y1 := HY.out.keep hB1)
    | (go_at_call 15; refine (Hdigit.out _).mono ?_; rintro e w2 ⟨rfl, hw2⟩; replace hw2 := hw2.symm; subst hw2)
    | (go_at_call 17; refine (Hlarge.out _).mono ?_; rintro e w2 ⟨rfl, hw2⟩; replace hw2 := hw2.symm; subst hw2)
    | (go_at_call 18; refine (Hsmall.out _).mono ?_; rintro e w2 ⟨rfl, hw2⟩; replace hw2 := hw2.symm; subst hw2)
    | (go_at_call 16
       refine (HC.out _ k1).mono ?_
       rintro e w3 ⟨rfl, hB3⟩
       have HB : Hid (Below w.heap.size w w3) := k1.trans (hB3.mono k1.size)
       have Y2 := Y1.keep hB3
       obtain ⟨y0, y1, y2⟩ := Y2.cells
       have z0 := Y2.frozen 0
       have z1 := Y2.frozen 1
       have z2 := Y2.frozen 2
       clear Y2))
    try rw [Exit.noGoto_ret]
    exact bodyPost_ret (v := .tuple #[.agg #[.int .i64 k, .string y, .int .i64 0], .int .i64 (n : Int), .int .i64 e]) (by simp [results, Tryd.results11, go_sem, y0, y1, y2]) rfl ⟨by rw [HE.out], ((HB.out.setCell HL.out _).setCell HL.out _).setCell HL.out _⟩
set_option maxRecDepth 100000 in
set_option maxHeartbeats 2000000 in
theorem first_quote (s : ByteArray) (c : Int) (w : World) (hT : LexT w) (hs : s.size ≤ 140737488355328) (hd : ((Lib.decodeGo s).1 : Int) = c) (hc : c = 39) :
    Calls Tryd.prog 11 #[.string s] w fun e w' => e = .returned (tokV (unqT (bytesS s))) ∧ Below w.heap.size w w' := by
  have HD : Hid (∀ w', Below w.heap.size w w' → Calls Tryd.prog 14 #[.string s] w' fun e w'' => e = .returned (.tuple #[.int .i32 c, .int .i64 ((Lib.decodeGo s).2 : Int)]) ∧ Below w'.heap.size w' w'') := fun w' hb => by
    have := Tryd.utf8_DecodeRuneInString s w' (hT.later hb).utf
    rwa [hd] at this
  have HC : Hid (∀ w', Below w.heap.size w w' → Calls Tryd.prog 20 #[.string s] w' _) := fun w' hb => unquote_any s w' (hT.later hb).word hs
  obtain ⟨V, hV⟩ : ∃ V, V = tokV (unqT (bytesS s)) := ⟨_, rfl⟩
  rw [← hV]
  unfold tokV unqT at hV
  dsimp only at hV
  generalize unquoteR (bytesS s) = U at HC hV
  obtain ⟨S, n, e⟩ := U
  dsimp only at HC hV
  generalize strOf S = y at HC hV
  have HE : Hid (V = _) := hV
  clear hV
  subst hc
  have Hdigit : Hid (∀ w', Calls Tryd.prog 15 #[.int .i32 39] w' fun e w'' => e = .returned (.bool false) ∧ w'' = w') := fun w' => by have := ldigit_any 39 w'; rwa [show digitB 39 = false by decide] at this
  have Hlarge : Hid (∀ w', Calls Tryd.prog 17 #[.int .i32 39] w' fun e w'' => e = .returned (.bool false) ∧ w'' = w') := fun w' => by have := llarge_any 39 w'; rwa [show largeB 39 = false by decide] at this
  have Hsmall : Hid (∀ w', Calls Tryd.prog 18 #[.int .i32 39] w' fun e w'' => e = .returned (.bool false) ∧ w'' = w') := fun w' => by have := lsmall_any 39 w'; rwa [show smallB 39 = false by decide] at this
  clear hT hs hd
  generalize (Lib.decodeGo s).2 = q at HD
  · obtain ⟨W, p, hW, hp, hB0, hY, hL⟩ := tok_start w
    unfold tokO at hW
    go_enter Tryd.func11, Tryd.ntmps11
    go_upto_region 1 with fail
    rw [← hW, ← hp]
    have HY : Hid (Box3 29 W p (.int .i64 0) (.string ⟨#[]⟩) (.int .i64 0)) := hY
    have HL : Hid (w.heap.size ≤ p) := hL
    have H0 : Hid (Below w.heap.size w W) := hB0
    clear hW hp hY hL hB0
    go_wp2_with (first
    | (go_at_call 14; refine (HD.out _ H0.out).mono ?_; rintro e w1 ⟨rfl, hB1⟩; have k1 := H0.out.trans (hB1.mono H0.out.size); have Y1 := HY.out.keep hB1)
    | (go_at_call 15; refine (Hdigit.out _).mono ?_; rintro e w2 ⟨rfl, hw2⟩; replace hw2 := hw2.symm; subst hw2)
    | (go_at_call 17; refine (Hlarge.out _).mono ?_; rintro e w2 ⟨rfl, hw2⟩; replace hw2 := hw2.symm; subst hw2)
    | (go_at_call 18; refine (Hsmall.out _).mono ?_; rintro e w2 ⟨rfl, hw2⟩; replace hw2 := hw2.symm; subst hw2)
    | (go_at_call 20
       refine (HC.out _ k1).mono ?_
       rintro e w3 ⟨rfl, hB3⟩
       have HB : Hid (Below w.heap.size w w3) := k1.trans (hB3.mono k1.size)
       have Y2 := Y1.keep hB3
       obtain ⟨y0, y1, y2⟩ := Y2.cells
       have z0 := Y2.frozen 0
       have z1 := Y2.frozen 1
       have z2 := Y2.frozen 2
       clear Y2))
    try rw [Exit.noGoto_ret]
    exact bodyPost_ret (v := .tuple #[.agg #[.int .i64 4, .string y, .int .i64 0], .int .i64 (n : Int), .int .i64 e]) (by simp [results, Tryd.results11, go_sem, y0, y1, y2]) rfl ⟨by rw [HE.out], ((HB.out.setCell HL.out _).setCell HL.out _).setCell HL.out _⟩
set_option maxRecDepth 100000 in
set_option maxHeartbeats 2000000 in
theorem first_sign (s : ByteArray) (c : Int) (w : World) (hT : LexT w) (hd : ((Lib.decodeGo s).1 : Int) = c) (hc : ¬ c = 48) (h1 : digitB c = false) (h2 : largeB c = false) (h3 : smallB c = false) (h4 : ¬ c = 39) :
    Calls Tryd.prog 11 #[.string s] w fun e w' => e = .returned (tokV (sigR (bytesS s))) ∧ Below w.heap.size w w' := by
  have HD : Hid (∀ w', Below w.heap.size w w' → Calls Tryd.prog 14 #[.string s] w' fun e w'' => e = .returned (.tuple #[.int .i32 c, .int .i64 ((Lib.decodeGo s).2 : Int)]) ∧ Below w'.heap.size w' w'') := fun w' hb => by
    have := Tryd.utf8_DecodeRuneInString s w' (hT.later hb).utf
    rwa [hd] at this
  have HC : Hid (∀ w', Below w.heap.size w w' → Calls Tryd.prog 21 _ w' _) := fun w' hb => sign_lex s w' (hT.later hb)
  obtain ⟨V, hV⟩ : ∃ V, V = tokV (sigR (bytesS s)) := ⟨_, rfl⟩
  rw [← hV]
  rw [← hV] at HC
  generalize sigR (bytesS s) = U at HC hV
  obtain ⟨k, S, n, e⟩ := U
  unfold tokV at hV
  dsimp only at hV
  generalize strOf S = y at hV
  have HE : Hid (V = .tuple #[.agg #[.int .i64 k, .string y, .int .i64 0], .int .i64 (n : Int), .int .i64 e]) := hV
  rw [hV] at HC
  clear hV
  have hcb : (c == (48 : Int)) = false := by simp [hc]
  have hqb : (c == (39 : Int)) = false := by simp [h4]
  have Hdigit : Hid (∀ w', Calls Tryd.prog 15 #[.int .i32 c] w' fun e w'' => e = .returned (.bool false) ∧ w'' = w') := fun w' => by have := ldigit_any c w'; rwa [h1] at this
  have Hlarge : Hid (∀ w', Calls Tryd.prog 17 #[.int .i32 c] w' fun e w'' => e = .returned (.bool false) ∧ w'' = w') := fun w' => by have := llarge_any c w'; rwa [h2] at this
  have Hsmall : Hid (∀ w', Calls Tryd.prog 18 #[.int .i32 c] w' fun e w'' => e = .returned (.bool false) ∧ w'' = w') := fun w' => by have := lsmall_any c w'; rwa [h3] at this
  clear hT hd h1 h2 h3
  generalize (Lib.decodeGo s).2 = q at HD
  · obtain ⟨W, p, hW, hp, hB0, hY, hL⟩ := tok_start w
    unfold tokO at hW
    go_enter Tryd.func11, Tryd.ntmps11
    go_upto_region 1 with fail
    rw [← hW, ← hp]
    have HY : Hid (Box3 29 W p (.int .i64 0) (.string ⟨#[]⟩) (.int .i64 0)) := hY
    have HL : Hid (w.heap.size ≤ p) := hL
    have H0 : Hid (Below w.heap.size w W) := hB0
    clear hW hp hY hL hB0
    go_wp2_with (first
    | (go_at_call 14; refine (HD.out _ H0.out).mono ?_; rintro e w1 ⟨rfl, hB1⟩; have k1 := H0.out.trans (hB1.mono H0.out.size); have Y1 := HY.out.keep hB1)
    | (go_at_call 15; refine (Hdigit.out _).mono ?_; rintro e w2 ⟨rfl, hw2⟩; replace hw2 := hw2.symm; subst hw2)
    | (go_at_call 17; refine (Hlarge.out _).mono ?_; rintro e w2 ⟨rfl, hw2⟩; replace hw2 := hw2.symm; subst hw2)
    | (go_at_call 18; refine (Hsmall.out _).mono ?_; rintro e w2 ⟨rfl, hw2⟩; replace hw2 := hw2.symm; subst hw2)
    | (go_at_call 21
       refine (HC.out _ k1).mono ?_
       rintro e w3 ⟨rfl, hB3⟩
       have HB : Hid (Below w.heap.size w w3) := k1.trans (hB3.mono k1.size)
       have Y2 := Y1.keep hB3
       obtain ⟨y0, y1, y2⟩ := Y2.cells
       have z0 := Y2.frozen 0
       have z1 := Y2.frozen 1
       have z2 := Y2.frozen 2
       clear Y2))
    try rw [Exit.noGoto_ret]
    exact bodyPost_ret (v := .tuple #[.agg #[.int .i64 k, .string y, .int .i64 0], .int .i64 (n : Int), .int .i64 e]) (by simp [results, Tryd.results11, go_sem, y0, y1, y2]) rfl ⟨by rw [HE.out], ((HB.out.setCell HL.out _).setCell HL.out _).setCell HL.out _⟩

theorem first_any (s : ByteArray) (w : World) (hT : LexT w) (hs : s.size ≤ 140737488355328) (h0 : 0 < s.size) : Calls Tryd.prog 11 #[.string s] w fun e w' => e = .returned (tokV (oneR (bytesS s))) ∧ Below w.heap.size w w' := by
  have hb := bytes_head s h0
  have hr := rune_first s h0
  rw [hb, oneR_cons, ← hb]
  have key : ∀ c : Int, ((Lib.decodeGo s).1 : Int) = c → (c = byteAt s 0 ∨ (128 ≤ c ∧ 128 ≤ byteAt s 0)) → Calls Tryd.prog 11 #[.string s] w fun e w' => e = .returned (tokV (if digitB (byteAt s 0) = true then strR 3 digitB (mostD (byteAt s 0)) (bytesS s) else if largeB (byteAt s 0) = true then strR 1 largeB 32 (bytesS s) else if smallB (byteAt s 0) = true then strR 2 namedB 32 (bytesS s) else if byteAt s 0 = 39 then unqT (bytesS s) else sigR (bytesS s))) ∧ Below w.heap.size w w' := by
    intro c hd hc
    rcases hc with rfl | ⟨hc1, hc2⟩
    · by_cases h48 : byteAt s 0 = 48
      · have := first_zero s _ w hT hd h48
        rwa [if_pos (by rw [h48]; decide), show mostD (byteAt s 0) = 1 by rw [h48]; rfl]
      by_cases h1 : digitB (byteAt s 0) = true
      · have := first_digit s _ w hT hd h48 h1
        rwa [if_pos h1, show mostD (byteAt s 0) = 19 from if_neg h48]
      rw [if_neg h1]
      have n1 : digitB (byteAt s 0) = false := by simpa using h1
      by_cases h2 : largeB (byteAt s 0) = true
      · rw [if_pos h2]
        exact first_large s _ w hT hd h48 n1 h2
      rw [if_neg h2]
      have n2 : largeB (byteAt s 0) = false := by simpa using h2
      by_cases h3 : smallB (byteAt s 0) = true
      · rw [if_pos h3]
        exact first_small s _ w hT hd h48 n1 n2 h3
      rw [if_neg h3]
      have n3 : smallB (byteAt s 0) = false := by simpa using h3
      by_cases h4 : byteAt s 0 = 39
      · rw [if_pos h4]
        exact first_quote s _ w hT hs hd h4
      rw [if_neg h4]
      exact first_sign s _ w hT hd h48 n1 n2 n3 h4
    · have out : ∀ x : Int, 128 ≤ x → digitB x = false ∧ largeB x = false ∧ smallB x = false := fun x hx => by
        unfold digitB largeB smallB
        exact ⟨decide_eq_false (by omega), decide_eq_false (by omega), decide_eq_false (by omega)⟩
      obtain ⟨a1, a2, a3⟩ := out _ hc1
      obtain ⟨b1, b2, b3⟩ := out _ hc2
      rw [b1, b2, b3, if_neg (by simp), if_neg (by simp), if_neg (by simp), if_neg (by omega)]
      exact first_sign s c w hT hd (by omega) a1 a2 a3 (by omega)
  rcases hr with ⟨r1, r2⟩ | ⟨r1, r2⟩
  · exact key _ r2 (.inl rfl)
  · exact key _ rfl (.inr ⟨r2, r1⟩)
end Go.Proofs.YtdfmehbnhdhbcaaDoor
