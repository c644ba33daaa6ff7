/-
  The walks of the laws WordBack and WordOne.
-/
import Derived.Test.YtgmooknbfcdcoaaDoorQuoteQuote
import Derived.Test.YtgmooknbfcdcoaaDoorQuoteUnq
import Derived.Test.YtgmooknbfcdcoaaDoorWordAwake
namespace Go.Proofs.YtgmooknbfcdcoaaDoor
open Go.RowKit

theorem bytesS_append (a b : ByteArray) : bytesS (a ++ b) = bytesS a ++ bytesS b := by
  simp [bytesS, ByteArray.data_append]
theorem extract_take (b : ByteArray) (m : Nat) : b.extract 0 m = strOf ((bytesS b).take m) := by
  have h : bytesS (b.extract 0 m) = (bytesS b).take m := by
    simp [bytesS, ByteArray.data_extract, List.map_take]
  rw [← h, strOf_bytesS]
theorem size_of_bytes {s : ByteArray} {l : List Int} (h : bytesS s = l) : s.size = l.length := by rw [← h, bytesS_length]

set_option maxRecDepth 100000 in
set_option maxHeartbeats 1000000 in
theorem back_walk (a b : ByteArray) (w : World) (hT : Tabs w) (hb : b.size ≤ 140737488351232) :
    Calls Tryd.prog 4 #[.string a, .string b] w fun e w' => e = .returned (.bool true) ∧ Below w.heap.size w w' := by
  by_cases hl : 256 < a.size
  · have C1 : Hid (Calls Tryd.prog 6 _ _ _) := quote_long a w hl
    have hl' : (256 : Int) < (a.size : Int) := by omega
    clear hT
    go_enter Tryd.func4, Tryd.ntmps4
    go_wp2_with (first | (go_at_call 6; refine C1.out.mono ?_; clear C1; rintro e w1 ⟨rfl, hw1⟩; replace hw1 := hw1.symm; subst hw1) | (go_at_call 10; refine (awake_word _).mono ?_; rintro e w8 ⟨rfl, hB8⟩))
    go_ret
    exact ⟨rfl, hB8⟩
  · have hbd := bytesS_bd a
    have hla : (bytesS a).length ≤ 256 := by rw [bytesS_length]; omega
    have hqb : ∀ c ∈ quoteL (bytesS a), 0 ≤ c ∧ c ≤ 255 := fun c hc => by have := quoteL_bd _ hbd c hc; omega
    obtain ⟨x, hx⟩ : ∃ x, x = strOf (quoteL (bytesS a)) := ⟨_, rfl⟩
    have hxb : bytesS x = quoteL (bytesS a) := by rw [hx]; exact bytesS_strOf _ hqb
    have hxs := size_of_bytes hxb
    have hxs2 : x.size ≤ 1026 := by
      have := bodyL_len (bytesS a)
      rw [hxs]; unfold quoteL; simp; omega
    have c1 := quote_ok a w hT (by omega)
    rw [← hx] at c1
    have C1 : Hid (Calls Tryd.prog 6 _ _ _) := c1
    have HT : Hid (Tabs w) := hT
    have hsum : (x ++ b).size ≤ 140737488355328 := by rw [ByteArray.size_append]; omega
    have hres : unquoteR (bytesS (x ++ b)) = (bytesS a, x.size, 0) := by rw [bytesS_append, hxb, unquote_back _ _ hbd hla, ← hxs]
    have HC : Hid (∀ w', Below w.heap.size w w' → Calls Tryd.prog 8 #[.string (x ++ b)] w' fun e w'' => e = .returned (.tuple #[.string a, .int .i64 (x.size : Int), .int .i64 0]) ∧ Below w'.heap.size w' w'') := fun w' hb' => by
      have := unquote_any (x ++ b) w' (HT.out.later hb' HT.out.two) hsum
      rw [hres] at this
      dsimp only at this
      rw [strOf_bytesS] at this
      exact this
    clear c1 hx hxb hqb hres hT hxs hla hbd hsum
    go_enter Tryd.func4, Tryd.ntmps4
    go_wp2_with (first | (go_at_call 6; refine C1.out.mono ?_; clear C1; rintro e w1 ⟨rfl, hB1⟩) | (go_at_call 8; refine (HC.out _ hB1).mono ?_; clear HC; rintro e w2 ⟨rfl, hB2⟩) | (go_at_call 10; refine (awake_word _).mono ?_; rintro e w8 ⟨rfl, hB8⟩))
    go_ret
    have k2 := hB1.trans (hB2.mono hB1.size)
    exact ⟨rfl, k2.trans (hB8.mono k2.size)⟩

set_option maxRecDepth 100000 in
set_option maxHeartbeats 1000000 in
theorem one_walk (b : ByteArray) (w : World) (hT : Tabs w) (hb : b.size ≤ 140737488351232) :
    Calls Tryd.prog 5 #[.string b] w fun e w' => e = .returned (.bool true) ∧ Below w.heap.size w w' := by
  have c1 := unquote_any b w hT (by omega)
  obtain ⟨u1, u2, u3⟩ := unquote_one (bytesS b) (bytesS_bd b)
  rw [bytesS_length] at u1 u2
  generalize unquoteR (bytesS b) = R at c1 u1 u2 u3
  obtain ⟨l, n, e⟩ := R
  dsimp only at c1 u1 u2 u3
  have C1 : Hid (Calls Tryd.prog 8 _ _ _) := c1
  clear c1
  by_cases he : e = 0
  · subst he
    obtain ⟨m, hm0, hm2, hmn, htake, hl, hbd⟩ := u1 rfl
    rw [hm0] at C1
    clear u1 u2 u3 hm0 n
    have hqb : ∀ c ∈ quoteL l, 32 ≤ c ∧ c ≤ 126 := quoteL_bd l hbd
    have hxs : (strOf l).size ≤ 256 := by rw [strOf_size]; exact hl
    have hex := extract_take b m
    rw [htake] at hex
    obtain ⟨y, hy⟩ : ∃ y, y = b.extract 0 m := ⟨_, rfl⟩
    have hyb : bytesS y = quoteL l := by rw [hy, hex]; exact bytesS_strOf _ (fun c hc => by have := hqb c hc; omega)
    have HY : Hid (∀ k, k < y.size → 32 ≤ byteAt y k ∧ byteAt y k ≤ 126) := fun k hk => by
      have h : k < (bytesS y).length := by rw [bytesS_length]; exact hk
      have e : byteAt y k = (bytesS y)[k] := by simp [byteAt, h]
      rw [e]
      exact hqb _ (by rw [← hyb]; exact List.getElem_mem h)
    have hys : y.size ≤ 1026 := by
      have h1 := size_of_bytes hyb
      have h2 := bodyL_len l
      rw [h1]; unfold quoteL; simp; omega
    have HC : Hid (∀ w', Below w.heap.size w w' → Calls Tryd.prog 6 #[.string (strOf l)] w' fun e w'' => e = .returned (.tuple #[.string y, .int .i64 0]) ∧ Below w'.heap.size w' w'') := fun w' hb' => by
      have := quote_ok (strOf l) w' (hT.later hb' hT.two) hxs
      rw [bytesS_strOf l hbd, ← hex, ← hy] at this
      exact this
    have hm2' : (2 : Int) ≤ (m : Int) := by omega
    have hmn' : (m : Int) ≤ (b.size : Int) := by omega
    have hsl : ∀ w' : World, (Instr.slice 9 (.string b) none (some (.int .i64 (m : Int))) none).run Tryd.prog w' = .ok (.string y) w' := fun w' => by
      rw [hy, run_slice_string_to_if w' 9 b .i64 (m : Int) Tryd.underlying9, if_pos ⟨by omega, by omega⟩, Int.toNat_natCast]
    generalize strOf l = x at C1 HC
    clear hT htake hl hbd hqb hxs hex hy hyb
    go_enter Tryd.func5, Tryd.ntmps5
    go_wp2_with (first | (go_at_call 8; refine C1.out.mono ?_; clear C1; rintro e w1 ⟨rfl, hB1⟩) | (go_at_call 6; refine (HC.out _ hB1).mono ?_; clear HC; rintro e w2 ⟨rfl, hB2⟩))
    have k2 := hB1.trans (hB2.mono hB1.size)
    go_loop [8] (fun i => ∃ k : Nat, i = .int .i64 k ∧ k ≤ y.size) (fun i => y.size - (intOf i).toNat)
    case atStart => exact ⟨0, rfl, Nat.zero_le _⟩
    case round =>
      obtain ⟨k, rfl, hk⟩ := hrel
      by_cases hlt : k < y.size
      · have hlt' : (k : Int) < (y.size : Int) := by omega
        have ii := at_str y k hlt
        obtain ⟨y1, y2⟩ := HY.out k hlt
        generalize byteAt y k = c at ii y1 y2
        go_wp2
        go_round
        case rel => exact ⟨k + 1, by go_num, by omega⟩
        case measure => simp [intOf]; omega
      · have hge : ¬ (k : Int) < (y.size : Int) := by omega
        go_wp2_with (first | (go_at_call 10; refine (awake_word _).mono ?_; rintro e w8 ⟨rfl, hB8⟩))
        go_ret
        exact ⟨rfl, k2.trans (hB8.mono k2.size)⟩
  · obtain ⟨hl0, hn⟩ := u2 he
    subst hl0
    have hn' : (n : Int) ≤ (b.size : Int) := by omega
    have hn0 : (0 : Int) ≤ (n : Int) := by omega
    have heb : (e == (0 : Int)) = false := by simp [he]
    have hnil : strOf [] = ⟨#[]⟩ := rfl
    rw [hnil] at C1
    clear u1 u2 u3 hT hnil
    go_enter Tryd.func5, Tryd.ntmps5
    go_wp2_with (first | (go_at_call 8; refine C1.out.mono ?_; clear C1; rintro e w1 ⟨rfl, hB1⟩) | (go_at_call 10; refine (awake_word _).mono ?_; rintro e w8 ⟨rfl, hB8⟩))
    go_ret
    exact ⟨rfl, hB1.trans (hB8.mono hB1.size)⟩
end Go.Proofs.YtgmooknbfcdcoaaDoor
