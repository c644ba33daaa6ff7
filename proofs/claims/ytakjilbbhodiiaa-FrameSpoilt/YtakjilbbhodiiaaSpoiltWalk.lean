/-
  The walk of the law FrameSpoilt: a frame with bits turned.
-/
import Derived.Test.YtakjilbbhodiiaaBurst
namespace Go.Proofs.Ytakjilbbhodiiaa
open Go.RowKit

theorem wrapL_len (b : List Int) : (wrapL b).length = sz 10 b.length + b.length + 4 := by
  unfold wrapL
  rw [List.length_append, List.length_append, enc_length]
  rfl
theorem open_whole (b : List Int) (hl : b.length ≤ 65536) : openZ (wrapL b) 0 = (b, ((wrapL b).length : Int), 0) := by
  have := openZ_wrap [] b [] hl
  simpa using this
theorem wrapL_feed (b : List Int) : feed 4294967295 (wrapL b) = restN := feed_frame _
/-- Behind the length: the sum is not right. -/
theorem open_spoilt (b F : List Int) (hl : b.length ≤ 65536) (hF : F.length = (wrapL b).length) (ht : F.take (sz 10 b.length) = (wrapL b).take (sz 10 b.length)) (hne : feed 4294967295 F ≠ feed 4294967295 (wrapL b)) : (openZ F 0).2.2 = 8 := by
  have hw := wrapL_len b
  have he : (wrapL b).take (sz 10 b.length) = enc 10 b.length := by
    unfold wrapL
    rw [List.append_assoc, List.take_left' (enc_length _ _)]
  have hsp : F = enc 10 b.length ++ F.drop (sz 10 b.length) := by
    rw [← he, ← ht, List.take_append_drop]
  have g := getZ_put [] b.length (F.drop (sz 10 b.length)) (by omega)
  simp only [List.nil_append, List.length_nil, Nat.zero_add] at g
  rw [← hsp] at g
  have g' : getZ F 0 = ((b.length : Int), ((sz 10 b.length : Nat) : Int), 0) := g
  unfold openZ
  rw [g']
  rw [if_neg (by simp), if_neg (by simp; omega), if_neg (by simp; omega)]
  split
  · rename_i hd
    refine absurd ?_ hne
    simp only [Int.toNat_natCast, Int.toNat_zero, List.drop_zero, Nat.sub_zero] at hd
    have h4 : (F.drop (sz 10 b.length + b.length)).take 4 = F.drop (sz 10 b.length + b.length) := List.take_of_length_le (by rw [List.length_drop]; omega)
    rw [h4] at hd
    have e : F = F.take (sz 10 b.length + b.length) ++ le4 (moreN 0 (F.take (sz 10 b.length + b.length))) := by rw [hd, List.take_append_drop]
    rw [e, feed_frame, wrapL_feed]
  · rfl
theorem openZ_bd (F : List Int) (p : Int) (h : ∀ c ∈ F, 0 ≤ c ∧ c ≤ 255) : ∀ c ∈ (openZ F p).1, 0 ≤ c ∧ c ≤ 255 := by
  unfold openZ
  split
  · simp
  · split
    · simp
    · split
      · simp
      · split
        · intro c hc
          exact h c (List.mem_of_mem_drop (List.mem_of_mem_take hc))
        · simp
/-- What is opened as the same bytes is the same frame. -/
theorem open_other_frame (b F : List Int) (hF : F.length = (wrapL b).length) (hFb : ∀ c ∈ F, 0 ≤ c ∧ c ≤ 255) (h0 : (openZ F 0).2.2 = 0) (h1 : (openZ F 0).1 = b) : F = wrapL b := by
  have hb : ∀ j : Nat, 0 ≤ F[j]?.getD 0 ∧ F[j]?.getD 0 ≤ 255 := by
    intro j
    by_cases hj : j < F.length
    · simpa [hj] using hFb F[j] (List.getElem_mem hj)
    · simp [Nat.not_lt.1 hj]
  have g := getZ_bd F 0 hb
  have ge : (getZ F 0).2.2 = 0 → (F.drop 0).take ((getZ F 0).2.1.toNat - 0) = enc 10 (getZ F 0).1.toNat := get_enc F 0 hFb
  unfold openZ at h0 h1
  split at h0
  · rename_i hE
    exact absurd h0 hE
  · rename_i hE
    rw [if_neg hE] at h1
    split at h0
    · simp at h0
    · rename_i hN
      rw [if_neg hN] at h1
      split at h0
      · simp at h0
      · rename_i hs
        rw [if_neg hs] at h1
        split at h0
        · rename_i hd
          rw [if_pos hd] at h1
          have hge := ge (by simpa using hE)
          generalize (getZ F 0).1 = N at *
          generalize (getZ F 0).2.1 = K at *
          obtain ⟨f, rfl⟩ := Int.eq_ofNat_of_zero_le (a := K) (by omega)
          obtain ⟨n, rfl⟩ := Int.eq_ofNat_of_zero_le (a := N) (by omega)
          simp only [Int.toNat_natCast, Int.toNat_zero] at hge hd h1
          have hnl : n = b.length := by rw [← h1, List.length_take, List.length_drop]; omega
          have hw := (wrap_same F 0 f n hge (Nat.zero_le _) (by omega)).2 (by rw [show f + n - 0 = f - 0 + n by omega]; exact hd)
          rw [h1] at hw
          have hlen := congrArg List.length hw
          rw [List.length_take, List.length_drop] at hlen
          rw [hw, List.drop_zero, List.take_of_length_le (by omega)]
        · simp at h0
set_option maxRecDepth 100000 in
set_option maxHeartbeats 400000 in
theorem spoilt_long (a : Option Addr) (len cap : Nat) (t B : Int) (w : World) (hl : 2000 < len) :
    Calls Try.prog 6 #[.slice a len cap, .int .u16 t, .int .u32 B] w fun e w' => e = .returned (.bool true) ∧ Below w.heap.size w w' := by
  have hl' : (2000 : Int) < (len : Int) := by omega
  go_enter Try.func6, Try.ntmps6
  go_wp2_with (first | (go_at_call 14; refine (awake_any _).mono ?_; rintro e w8 ⟨rfl, hB8⟩))
  go_ret
  exact ⟨rfl, hB8⟩
theorem bits_test (B i : Nat) (hB : B < 4294967296) : bits .and .u32 ((B : Int) / 2 ^ i) 1 = bitI (B.testBit i) := by
  have e : (B : Int) / 2 ^ i = ((B / 2 ^ i : Nat) : Int) := by simp
  have hl : B / 2 ^ i ≤ B := Nat.div_le_self _ _
  rw [e, Nat.testBit_eq_decide_div_mod_eq]
  generalize B / 2 ^ i = q at hl
  rw [and_one_u32 _ (by omega) (by omega)]
  unfold bitI
  by_cases hb : q % 2 = 1
  · simp [hb]; omega
  · have : q % 2 = 0 := by omega
    simp [this]; omega
theorem own_cell {w : World} {base n cp g : Nat} {F : List Int} (h : w.ownsRow base 5 1 (.slice (some ⟨g, 0, none⟩) n cp) n (cellsOf F)) (q : Nat) (hq : q < n) : w.cell? ⟨g, q, none⟩ = some (.int .u8 (F[q]?.getD 0)) := by
  obtain ⟨h1, h2⟩ := h
  rw [cellsOf_length] at h1
  rcases h2 with ⟨e, _⟩ | ⟨g', cap', cur, e, _, hg, hle, _, hsz, ht⟩
  · cases e
  · injection e with e1 _ e3
    injection e1 with e1
    injection e1 with e1
    subst e1 e3
    have hF : q < F.length := by omega
    have : (cur.toList.take (n * 1))[q]? = some (.int .u8 F[q]) := by rw [ht]; simp [cellsOf, hF]
    rw [List.getElem?_take] at this
    split at this
    · simp at this
      simp [World.cell?, hg, this, hF]
    · cases this
theorem own_thawed {w : World} {base n cp g : Nat} {F : List Int} (h : w.ownsRow base 5 1 (.slice (some ⟨g, 0, none⟩) n cp) n (cellsOf F)) (q : Nat) : w.frozen? ⟨g, q, none⟩ = false := by
  rcases h.2 with ⟨e, _⟩ | ⟨g', cap', cur, e, _, hg, _⟩
  · cases e
  · injection e with e1 _ e3
    injection e1 with e1
    injection e1 with e1
    subst e1 e3
    simp [World.frozen?, hg]
theorem own_set {w : World} {base n cp g : Nat} {F : List Int} (h : w.ownsRow base 5 1 (.slice (some ⟨g, 0, none⟩) n cp) n (cellsOf F)) (q : Nat) (x : Int) :
    (w.setCell ⟨g, q, none⟩ (.int .u8 x)).ownsRow base 5 1 (.slice (some ⟨g, 0, none⟩) n cp) n (cellsOf (F.set q x)) ∧ base ≤ g := by
  obtain ⟨h1, h2⟩ := h
  rw [cellsOf_length] at h1
  rcases h2 with ⟨e, _⟩ | ⟨g', cap', cur, e, hb, hg, hle, hm, hsz, ht⟩
  · cases e
  · injection e with e1 _ e3
    injection e1 with e1
    injection e1 with e1
    subst e1 e3
    refine ⟨⟨by simp [cellsOf]; omega, .inr ⟨g, cp, cur.setIfInBounds q (.int .u8 x), rfl, hb, ?_, hle, hm, by simpa using hsz, ?_⟩⟩, hb⟩
    · simp [World.setCell, Array.getElem?_modify, hg]
    · rw [Array.toList_setIfInBounds, List.take_set, ht]
      simp [cellsOf, List.map_set]
theorem flip_walk (c : Int) (r : Nat) (h0 : 0 ≤ c) (h1 : c ≤ 255) (hr : r < 8) : bits .xor .u8 c (2 ^ r % 256) = ((c.toNat ^^^ 2 ^ r : Nat) : Int) := by
  have h2 : 2 ^ r < 256 := Nat.pow_lt_pow_right (by omega) (show r < 8 from hr)
  have e : (2 : Int) ^ r = ((2 ^ r : Nat) : Int) := by simp
  rw [e]
  generalize 2 ^ r = m at *
  rw [show (m : Int) % 256 = (m : Int) by omega, u8_xor c (m : Int) h0 (by omega) (by omega) (by omega), Int.toNat_natCast]
set_option maxRecDepth 100000 in
set_option maxHeartbeats 4000000 in
theorem spoilt_walk (a : Option Addr) (len cap : Nat) (b : List Int) (t B : Nat) (w : World) (hI : IsBytes w a len cap b) (hl : len ≤ 2000) (ht : t < 65536) (hB : B < 4294967296) :
    Calls Try.prog 6 #[.slice a len cap, .int .u16 (t : Int), .int .u32 (B : Int)] w fun e w' => e = .returned (.bool true) ∧ Below w.heap.size w w' := by
  have hbl := hI.1
  have hbb := mem_bd hI.2.2.2.2.1
  have hN := wrapL_len b
  rw [hbl] at hN
  have hs1 := sz_pos 9 len
  have hs2 := sz_le 10 len
  have c1 := wrap_ok a len cap b w hI (by omega)
  have C1 : Hid (Calls Try.prog 8 _ _ _) := c1
  have HI : Hid (IsBytes w a len cap b) := hI
  obtain ⟨f, hf⟩ : ∃ f, wrapL b = f := ⟨_, rfl⟩
  have HF : Hid (wrapL b = f) := hf
  have HFB : Hid (∀ c ∈ f, 0 ≤ c ∧ c ≤ 255) := by rw [← hf]; exact wrapL_bd b hbb
  rw [hf] at C1 hN
  obtain ⟨N, hNN⟩ : ∃ N, f.length = N := ⟨_, rfl⟩
  have HNN : Hid (f.length = N) := hNN
  rw [hNN] at C1 hN
  obtain ⟨m, hm⟩ : ∃ m, sz 10 len = m := ⟨_, rfl⟩
  have hs1' : 1 ≤ m := by rw [← hm]; exact hs1
  rw [hm] at hN hs2
  have HM : Hid (sz 10 len = m ∧ N = m + len + 4) := ⟨hm, hN⟩
  have hN5 : 5 ≤ N := by omega
  have hN6 : N ≤ 2014 := by omega
  have hN7 : (5 : Int) ≤ (N : Int) := by omega
  have hN8 : IntKind.i64.wrap (8 * (N : Int)) = 8 * (N : Int) := by rw [IntKind.wrap_i64]; omega
  have hfrom : (N : Int) - (len : Int) - 4 = (m : Int) := by omega
  obtain ⟨k, hk⟩ : ∃ k, t % (8 * N) = k := ⟨_, rfl⟩
  have hk8 : k < 8 * N := by rw [← hk]; exact Nat.mod_lt _ (by omega)
  have hki : (t : Int) % (8 * (N : Int)) = (k : Int) := by rw [← hk]; simp
  clear c1 hI hf hNN hbb hs1 hm hN hk
  go_enter Try.func6, Try.ntmps6
  go_wp2_with (first | (go_at_call 8; refine C1.out.mono ?_; clear C1; rintro e w1 ⟨v1, rfl, ho1, hB1⟩
                        obtain ⟨g, cp, e1⟩ : ∃ g cp, v1 = .slice (some ⟨g, 0, none⟩) N cp := by
                          rcases ho1.2 with ⟨_, h0⟩ | ⟨g, cp, cur, e, _⟩
                          · omega
                          · exact ⟨g, cp, e⟩
                        subst e1))
  rw [hki]
  clear hki hN7
  have HO1 : Hid (w1.ownsRow w.heap.size 5 1 (.slice (some ⟨g, 0, none⟩) N cp) N (cellsOf f)) := ho1
  clear ho1
  go_loopw [11, 12, 13] (fun s l iv wr => ∃ i : Nat, i ≤ 32 ∧ k + i ≤ 8 * N ∧ iv = .int .i64 i ∧ s = .bool (someTo B i) ∧ l = .bool (lengthTo k B m i) ∧
    Hid (wr.ownsRow w.heap.size 5 1 (.slice (some ⟨g, 0, none⟩) N cp) N (cellsOf (flipTo f k B i))) ∧ Below w.heap.size w wr) (fun _ _ iv _ => 32 - (intOf iv).toNat)
  case atStart => exact ⟨0, by omega, by omega, rfl, rfl, rfl, HO1, hB1⟩
  case round =>
    obtain ⟨i, hi, hki, rfl, rfl, rfl, ho, hBr⟩ := hrel
    obtain ⟨S, hS⟩ : ∃ S, someTo B i = S := ⟨_, rfl⟩
    obtain ⟨Ln, hLn⟩ : ∃ Ln, lengthTo k B m i = Ln := ⟨_, rfl⟩
    rw [hS, hLn]
    by_cases hgo : i < 32 ∧ k + i < 8 * N
    · obtain ⟨g1, g2⟩ := hgo
      have g1' : (i : Int) < 32 := by omega
      have g2' : (k : Int) + (i : Int) < 8 * (N : Int) := by omega
      have hbt := bits_test B i hB
      cases hT : B.testBit i with
      | false =>
        rw [hT, show bitI false = 0 from rfl] at hbt
        go_wp2
        go_roundw
        case rel => exact ⟨i + 1, by omega, by omega, by simp, by rw [someTo, hT, hS]; simp, by rw [lengthTo, hT, hLn]; simp, by rw [flipTo, hT, if_neg (by simp)]; exact ho, hBr⟩
        case measure => simp [intOf]; omega
      | true =>
        rw [hT, show bitI true = 1 from rfl] at hbt
        obtain ⟨j, hj⟩ : ∃ j, k + i = j := ⟨_, rfl⟩
        have hji : (k : Int) + (i : Int) = (j : Int) := by omega
        obtain ⟨q, hq⟩ : ∃ q, j / 8 = q := ⟨_, rfl⟩
        obtain ⟨r, hr⟩ : ∃ r, j % 8 = r := ⟨_, rfl⟩
        have hqi : (j : Int) / 8 = (q : Int) := by omega
        have hri : (j : Int) % 8 = (r : Int) := by omega
        have hr8 : r < 8 := by omega
        have hqN : q < N := by omega
        obtain ⟨F, hF⟩ : ∃ F, flipTo f k B i = F := ⟨_, rfl⟩
        rw [hF] at ho
        have hcell := own_cell ho.out q hqN
        have hfroz := own_thawed ho.out q
        have hcb := HFB.out
        obtain ⟨c, hc⟩ : ∃ c, F[q]?.getD 0 = c := ⟨_, rfl⟩
        rw [hc] at hcell
        have hcb : 0 ≤ c ∧ c ≤ 255 := by
          rw [← hc]
          have hFq : q < F.length := by rw [← hF, flipTo_length, HNN.out]; exact hqN
          have := flipTo_bd f k B HFB.out i F[q] (by rw [hF]; exact List.getElem_mem hFq)
          simpa [hFq] using this
        have hx := flip_walk c r hcb.1 hcb.2 hr8
        have HJ : Hid (k + i = j ∧ j / 8 = q ∧ j % 8 = r) := ⟨hj, hq, hr⟩
        have hflip : flipTo f k B (i + 1) = F.set q ((c.toNat ^^^ 2 ^ r : Nat) : Int) := by
          rw [flipTo, hT, if_pos rfl, hF, hj]
          unfold flip1
          rw [hq, hr, hc]
        have hset := own_set ho.out q ((c.toNat ^^^ 2 ^ r : Nat) : Int)
        have hsome : someTo B (i + 1) = true := by rw [someTo, hT]; simp
        have hlen : lengthTo k B m (i + 1) = (Ln || decide (q < m)) := by rw [lengthTo, hT, hLn, hj, hq]; simp
        have HW : Hid ((wr.setCell ⟨g, q, none⟩ (.int .u8 ((c.toNat ^^^ 2 ^ r : Nat) : Int))).ownsRow w.heap.size 5 1 (.slice (some ⟨g, 0, none⟩) N cp) N (cellsOf (flipTo f k B (i + 1))) ∧ w.heap.size ≤ g) := by rw [hflip]; exact hset
        clear hj hq hr hset hflip
        go_wp2
        go_region
        go_wp2
        · rename_i hL1
          exact ⟨⟨i + 1, by omega, by omega, by simp, by rw [hsome], by rw [hlen, hL1]; rfl, HW.out.1, (hBr.setCell (p := ⟨g, q, none⟩) HW.out.2 _).drew⟩, by simp [intOf]; omega⟩
        · rename_i hL1
          exact ⟨⟨i + 1, by omega, by omega, by simp, by rw [hsome], by rw [hlen, Bool.eq_false_iff.2 hL1]; simp, HW.out.1, (hBr.setCell (p := ⟨g, q, none⟩) HW.out.2 _).drew⟩, by simp [intOf]; omega⟩
    · obtain ⟨F, hF⟩ : ∃ F, flipTo f k B i = F := ⟨_, rfl⟩
      have hFb : ∀ c ∈ F, 0 ≤ c ∧ c ≤ 255 := by rw [← hF]; exact flipTo_bd f k B HFB.out i
      have hFl : F.length = N := by rw [← hF, flipTo_length, HNN.out]
      rw [hF] at ho
      have C2 := open_any _ _ _ _ 0 wr (isBytes_own_slice ho.out hFb) (by omega)
      have hwl : F.length = (wrapL b).length := by rw [hFl, HF.out, HNN.out]
      have hXb : ∀ c ∈ (openZ F 0).1, 0 ≤ c ∧ c ≤ 255 := openZ_bd F 0 hFb
      have hst := str_same (openZ F 0).1 b hXb (mem_bd HI.out.2.2.2.2.1)
      have hL : Ln = true → (openZ F 0).2.2 = 0 → ((strOf (openZ F 0).1).toList == (strOf b).toList) = false := fun h1 h2 => by
        rw [hst, decide_eq_false]
        intro h3
        have e := open_other_frame b F hwl hFb h2 h3
        obtain ⟨j, hj1, hj2⟩ := someTo_true B i (lengthTo_some k B m i (hLn.trans h1))
        have hbit := flipTo_bit f k B (k + j) i (by rw [HNN.out]; omega)
        rw [hF, e, HF.out, decide_eq_true (by omega), show k + j - k = j by omega, hj2] at hbit
        simp at hbit
      have hS8 : Ln = false → S = true → (openZ F 0).2.2 = 8 := fun h1 h2 => by
        refine open_spoilt b F (by omega) hwl ?_ ?_
        · rw [hbl, HM.out.1, HF.out, ← hF]
          exact lengthTo_false f k B m i (hLn.trans h1)
        · intro hfe
          rw [HF.out, ← hF] at hfe
          have := feed_turned f k B i hi (by rw [HNN.out]; omega) hfe
          rw [hS, h2] at this
          cases this
      have hS0 : S = false → (openZ F 0).2.2 = 0 ∧ ((strOf (openZ F 0).1).toList == (strOf b).toList) = true := fun h1 => by
        have e : F = wrapL b := by rw [← hF, someTo_false f k B i (hS.trans h1), HF.out]
        rw [hst, e, open_whole b (by omega)]
        simp
      clear hst hXb
      generalize (openZ F 0).1 = X at *
      generalize (openZ F 0).2.1 = P at *
      generalize (openZ F 0).2.2 = E at *
      have hcase : ¬ (i : Int) < 32 ∨ ((i : Int) < 32 ∧ ¬ (k : Int) + (i : Int) < 8 * (N : Int)) := by omega
      rcases hcase with hx1 | ⟨hx1, hx2⟩
      ·
        cases Ln with
        | true =>
          by_cases hE : E = 0
          · subst hE
            have hst := hL rfl rfl
            go_wp2_with (first
              | (go_at_call 15; refine C2.mono ?_; clear C2; rintro e w2 ⟨v2, rfl, ho2, hB2⟩
                 have r1 := conv_own ho2
                 have r2 := conv_in (HI.out.later (hBr.trans (hB2.mono hBr.size))))
              | (go_at_call 14; refine (awake_any _).mono ?_; rintro e w8 ⟨rfl, hB8⟩))
            go_ret
            have k2 := hBr.trans (hB2.mono hBr.size)
            exact ⟨rfl, k2.trans (hB8.mono k2.size)⟩
          · go_wp2_with (first
              | (go_at_call 15; refine C2.mono ?_; clear C2; rintro e w2 ⟨v2, rfl, ho2, hB2⟩
                 have r1 := conv_own ho2
                 have r2 := conv_in (HI.out.later (hBr.trans (hB2.mono hBr.size))))
              | (go_at_call 14; refine (awake_any _).mono ?_; rintro e w8 ⟨rfl, hB8⟩))
            go_ret
            have k2 := hBr.trans (hB2.mono hBr.size)
            exact ⟨rfl, k2.trans (hB8.mono k2.size)⟩
        | false =>
          cases S with
          | true =>
            obtain rfl := hS8 rfl rfl
            go_wp2_with (first
              | (go_at_call 15; refine C2.mono ?_; clear C2; rintro e w2 ⟨v2, rfl, ho2, hB2⟩
                 have r1 := conv_own ho2
                 have r2 := conv_in (HI.out.later (hBr.trans (hB2.mono hBr.size))))
              | (go_at_call 14; refine (awake_any _).mono ?_; rintro e w8 ⟨rfl, hB8⟩))
            go_ret
            have k2 := hBr.trans (hB2.mono hBr.size)
            exact ⟨rfl, k2.trans (hB8.mono k2.size)⟩
          | false =>
            obtain ⟨rfl, hst⟩ := hS0 rfl
            go_wp2_with (first
              | (go_at_call 15; refine C2.mono ?_; clear C2; rintro e w2 ⟨v2, rfl, ho2, hB2⟩
                 have r1 := conv_own ho2
                 have r2 := conv_in (HI.out.later (hBr.trans (hB2.mono hBr.size))))
              | (go_at_call 14; refine (awake_any _).mono ?_; rintro e w8 ⟨rfl, hB8⟩))
            go_ret
            have k2 := hBr.trans (hB2.mono hBr.size)
            exact ⟨rfl, k2.trans (hB8.mono k2.size)⟩
      ·
        cases Ln with
        | true =>
          by_cases hE : E = 0
          · subst hE
            have hst := hL rfl rfl
            go_wp2_with (first
              | (go_at_call 15; refine C2.mono ?_; clear C2; rintro e w2 ⟨v2, rfl, ho2, hB2⟩
                 have r1 := conv_own ho2
                 have r2 := conv_in (HI.out.later (hBr.trans (hB2.mono hBr.size))))
              | (go_at_call 14; refine (awake_any _).mono ?_; rintro e w8 ⟨rfl, hB8⟩))
            go_ret
            have k2 := hBr.trans (hB2.mono hBr.size)
            exact ⟨rfl, k2.trans (hB8.mono k2.size)⟩
          · go_wp2_with (first
              | (go_at_call 15; refine C2.mono ?_; clear C2; rintro e w2 ⟨v2, rfl, ho2, hB2⟩
                 have r1 := conv_own ho2
                 have r2 := conv_in (HI.out.later (hBr.trans (hB2.mono hBr.size))))
              | (go_at_call 14; refine (awake_any _).mono ?_; rintro e w8 ⟨rfl, hB8⟩))
            go_ret
            have k2 := hBr.trans (hB2.mono hBr.size)
            exact ⟨rfl, k2.trans (hB8.mono k2.size)⟩
        | false =>
          cases S with
          | true =>
            obtain rfl := hS8 rfl rfl
            go_wp2_with (first
              | (go_at_call 15; refine C2.mono ?_; clear C2; rintro e w2 ⟨v2, rfl, ho2, hB2⟩
                 have r1 := conv_own ho2
                 have r2 := conv_in (HI.out.later (hBr.trans (hB2.mono hBr.size))))
              | (go_at_call 14; refine (awake_any _).mono ?_; rintro e w8 ⟨rfl, hB8⟩))
            go_ret
            have k2 := hBr.trans (hB2.mono hBr.size)
            exact ⟨rfl, k2.trans (hB8.mono k2.size)⟩
          | false =>
            obtain ⟨rfl, hst⟩ := hS0 rfl
            go_wp2_with (first
              | (go_at_call 15; refine C2.mono ?_; clear C2; rintro e w2 ⟨v2, rfl, ho2, hB2⟩
                 have r1 := conv_own ho2
                 have r2 := conv_in (HI.out.later (hBr.trans (hB2.mono hBr.size))))
              | (go_at_call 14; refine (awake_any _).mono ?_; rintro e w8 ⟨rfl, hB8⟩))
            go_ret
            have k2 := hBr.trans (hB2.mono hBr.size)
            exact ⟨rfl, k2.trans (hB8.mono k2.size)⟩
end Go.Proofs.Ytakjilbbhodiiaa
