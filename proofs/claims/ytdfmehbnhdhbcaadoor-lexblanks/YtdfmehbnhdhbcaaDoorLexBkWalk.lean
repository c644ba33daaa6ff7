/-
  The walk of the law LexBlanks.
-/
import Derived.Test.YtdfmehbnhdhbcaaDoorLexAwake
import Derived.Test.YtdfmehbnhdhbcaaDoorLexBkMath
import Derived.Test.YtdfmehbnhdhbcaaDoorArgs
import Derived.BigQuiet
namespace Go.Proofs.YtdfmehbnhdhbcaaDoor
open Go.RowKit

theorem strOf_glue (l m : List Int) : strOf l ++ strOf m = strOf (l ++ m) := by
  apply ByteArray.ext
  apply Array.ext'
  rw [ByteArray.data_append, Array.toList_append, strOf_data, strOf_data, strOf_data, List.map_append]
theorem bytes_glue (X S : ByteArray) : bytesS (X ++ ⟨#[32]⟩ ++ S) = bytesS X ++ [32] ++ bytesS S := by
  rw [bytesS_append, bytesS_append]; rfl
theorem glue_size (X S : ByteArray) : (X ++ ⟨#[32]⟩ ++ S).size = X.size + 1 + S.size := by
  rw [ByteArray.size_append, ByteArray.size_append]; rfl
def blk (k : Nat) : Int := if k % 3 = 0 then 32 else if k % 3 = 1 then 9 else 10
theorem blk_bd (k : Nat) : 0 ≤ blk k ∧ blk k ≤ 255 := by
  unfold blk
  repeat' split
  all_goals omega
theorem blk_is (k : Nat) : blankB (blk k) = true := by
  unfold blk
  repeat' split
  all_goals decide
def tkY : Tk := ⟨0, ⟨#[]⟩, 0⟩
/-- Tokens that a call answers, by index, wherever the world goes on. -/
theorem AllR.cells {l : List Tk} {p : Nat} {r : Int} {w w' : World} {e : Ending} (h : AllR (l, p, r) w e w') : ∃ a cap, e = .returned (.tuple #[.slice a l.length cap, .int .i64 (p : Int), .int .i64 r]) ∧ l.length ≤ cap ∧ cap ≤ maxLen ∧
    (0 < l.length → ∃ g, a = some ⟨g, 0, none⟩ ∧ ∀ W, Below w'.heap.size w' W → ∀ j, j < l.length → W.cell? ⟨g, j * 3, none⟩ = some (.int .i64 (ksT (l[j]?.getD tkY)).1) ∧ W.cell? ⟨g, j * 3 + 1, none⟩ = some (.string (ksT (l[j]?.getD tkY)).2)) ∧ Below w.heap.size w w' := by
  obtain ⟨v, he, ho, hb⟩ := h
  obtain ⟨a, cap, hv, h1, h2, h3⟩ := rowT_get ho rfl
  rw [hv] at he
  refine ⟨a, cap, he, h1, h2, fun h0 => ?_, hb⟩
  obtain ⟨g, ha, hc⟩ := h3 h0
  refine ⟨g, ha, fun W hW j hj => ?_⟩
  obtain ⟨c0, c1, -⟩ := hc j hj
  have hg : g < w'.heap.size := World.block_lt_of_cell? w' _ c0
  rw [hW.cell (p := ⟨g, j * 3, none⟩) hg, hW.cell (p := ⟨g, j * 3 + 1, none⟩) hg, c0, c1]
  simp [hj, ksT]
theorem same_ks {a b : List Tk} (h : a.map ksT = b.map ksT) : a.length = b.length ∧ ∀ j : Nat, ksT (a[j]?.getD tkY) = ksT (b[j]?.getD tkY) := by
  have hl : a.length = b.length := by simpa using congrArg List.length h
  refine ⟨hl, fun j => ?_⟩
  by_cases hj : j < a.length
  · have := congrArg (fun l : List (Int × ByteArray) => l[j]?) h
    simpa [hj, show j < b.length by omega] using this
  · rw [List.getElem?_eq_none (by omega), List.getElem?_eq_none (by omega)]
theorem blk_at (j : Nat) : ([.int .u8 32, .int .u8 9, .int .u8 10] : List Value)[j % 3]? = some (.int .u8 (blk j)) := by
  unfold blk
  have h : j % 3 = 0 ∨ j % 3 = 1 ∨ j % 3 = 2 := by omega
  rcases h with h | h | h <;> rw [h] <;> rfl
theorem conv_blk (w : World) (o : Obj) (c : Int) (h : 0 ≤ c ∧ c ≤ 255) : (convert 33 9 (.slice (some ⟨w.heap.size + 1, 0, none⟩) 1 1)).run Tryd.prog ((w.alloc o).alloc (.cells #[.int .u8 c] 5)) = .ok (.string (strOf [c])) ((w.alloc o).alloc (.cells #[.int .u8 c] 5)) := by
  have := conv_in (isBytes_one (w.alloc o) c h.1 h.2)
  rwa [size_alloc] at this
theorem snoc_blk (V : ByteArray) (c : Int) (h : 0 ≤ c ∧ c ≤ 255) : bytesS (V ++ strOf [c]) = bytesS V ++ [c] := by
  rw [bytesS_append, bytesS_strOf _ (by simpa using h)]
set_option maxRecDepth 100000 in
set_option maxHeartbeats 4000000 in
theorem blanks_walk (a : Option Addr) (n cap : Nat) (b : Option Addr) (m cbp : Nat) (S : Nat → ByteArray) (Z : Nat → Int) (w : World) (hT : LexT w) (hS : Strs maxLen w a n S) (_ : n ≤ cap) (_ : cap ≤ 9223372036854775807) (hZ : Ints .u8 w b m Z) (_ : m ≤ cbp) (_ : cbp ≤ 9223372036854775807) :
    Calls Tryd.prog 4 #[.slice a n cap, .slice b m cbp] w fun e w' => e = .returned (.bool true) ∧ Below w.heap.size w w' := by
  have HT : Hid (LexT w) := hT
  have HS : Hid (Strs maxLen w a n S) := hS
  have HZ : Hid (Ints .u8 w b m Z) := hZ
  clear hT hS hZ
  go_enter Tryd.func4, Tryd.ntmps4
  go_wp2
  go_loopw [5, 6, 7] (fun u5 u6 u7 wr => ∃ (k : Nat) (X Y : ByteArray), u5 = .string X ∧ u6 = .string Y ∧ u7 = .int .i64 k ∧ k ≤ 60 ∧ X.size ≤ 61 * k ∧ Y.size ≤ 65 * k ∧
    Hid (Below w.heap.size w wr ∧ ∃ ts, LexIs (bytesS X) ts ∧ LexIs (bytesS Y) ts)) (fun _ _ u7 _ => 60 - (intOf u7).toNat)
  case atStart => exact ⟨0, ⟨#[]⟩, ⟨#[]⟩, rfl, rfl, rfl, by omega, Nat.le_refl _, Nat.le_refl _, Below.refl _ _, [], LexIs.nil, LexIs.nil⟩
  case round =>
    obtain ⟨k, X, Y, rfl, rfl, rfl, hk, hX, hY, HU⟩ := hrel
    have HW : Hid (Below w.heap.size w wr) := HU.out.1
    by_cases hlt : k < n ∧ k < m ∧ k < 60
    · obtain ⟨h1, h2, h3⟩ := hlt
      have h1' : (k : Int) < (n : Int) := by omega
      have h2' : (k : Int) < (m : Int) := by omega
      have h3' : (k : Int) < 60 := by omega
      obtain ⟨g, o, rfl, hg⟩ := HS.out (by omega)
      obtain ⟨d, q, rfl, hd⟩ := HZ.out (by omega)
      have hcell := (hg k h1).1
      have hbyte := hd k h2
      have HCs : Hid (∀ W, Below w.heap.size w W → W.cell? ⟨g, o + k, none⟩ = some (.string (S k))) := fun W hb => cell_later hcell hb
      have HCz : Hid (∀ W, Below w.heap.size w W → W.cell? ⟨d, q + k, none⟩ = some (.int .u8 (Z k))) := fun W hb => cell_later hbyte.1 hb
      obtain ⟨hz0, hz1⟩ := wf_u8 hbyte.2
      clear hg hd hcell hbyte
      generalize S k = s at HCs
      generalize Z k = z at HCz hz0 hz1
      have HA : Hid (Calls Tryd.prog 6 #[.string s] wr (AllR (allZ s) wr)) := all_lex s wr (HT.out.later HW.out)
      have hiff := lexIs_of_all s
      have hlong := fun h : 8192 < s.size => (if_pos h : allZ s = ([], 0, 2))
      generalize allZ s = R at HA hiff hlong
      obtain ⟨l, p, e⟩ := R
      dsimp only at hiff
      have c0 := HCs.out wr HW.out
      by_cases hbad : 60 < s.size ∨ ¬ e = 0
      · by_cases hsz : 60 < s.size
        · have hsz' : (60 : Int) < (s.size : Int) := by omega
          clear hbad hiff hlong HU hsz
          go_wp2_with (first
            | (go_at_call 6
               refine HA.out.mono ?_
               clear HA
               rintro e1 w1 ⟨v, rfl, ho, hB1⟩
               obtain ⟨a1, cp1, rfl⟩ := rowT_form ho
               have K1 := HW.out.trans (hB1.mono HW.out.size)
               have c1 := HCs.out w1 K1
               clear ho)
            | (go_at_call 8; refine (awake17 _ (HT.out.later K1)).mono ?_; rintro e w8 ⟨rfl, hB8⟩))
          try rw [Exit.noGoto_ret]
          go_ret
          exact ⟨rfl, K1.trans (hB8.mono K1.size)⟩
        · have hsz' : ¬ (60 : Int) < (s.size : Int) := by omega
          have he : ¬ e = 0 := by omega
          have heb : (e == (0 : Int)) = false := by simp [he]
          have heb2 : (e != (0 : Int)) = true := by simp [he]
          clear hbad hiff hlong HU hsz
          go_wp2_with (first
            | (go_at_call 6
               refine HA.out.mono ?_
               clear HA
               rintro e1 w1 ⟨v, rfl, ho, hB1⟩
               obtain ⟨a1, cp1, rfl⟩ := rowT_form ho
               have K1 := HW.out.trans (hB1.mono HW.out.size)
               have c1 := HCs.out w1 K1
               clear ho)
            | (go_at_call 8; refine (awake17 _ (HT.out.later K1)).mono ?_; rintro e w8 ⟨rfl, hB8⟩))
          try rw [Exit.noGoto_ret]
          go_ret
          exact ⟨rfl, K1.trans (hB8.mono K1.size)⟩
      · have hsz : s.size ≤ 60 := by omega
        have hsz' : ¬ (60 : Int) < (s.size : Int) := by omega
        obtain rfl : e = 0 := by omega
        obtain ⟨us, hus⟩ := hiff rfl
        obtain ⟨hB, ts, hx, hy⟩ := HU.out
        have HX : Hid (LexIs (bytesS (X ++ ⟨#[32]⟩ ++ s)) (ts ++ us)) := by
          show LexIs _ _
          rw [bytes_glue]
          exact hx.more (bytesS_bd X) (bytesS_bd s) hus
        have HY : Hid (LexIs (bytesS Y) ts) := hy
        have HS2 : Hid (LexIs (bytesS s) us) := hus
        clear hx hy hus hB HU hiff hlong hbad
        go_wp2_with (first
          | (go_at_call 6
             refine HA.out.mono ?_
             clear HA
             rintro e1 w1 ⟨v, rfl, ho, hB1⟩
             obtain ⟨a1, cp1, rfl⟩ := rowT_form ho
             have K1 := HW.out.trans (hB1.mono HW.out.size)
             have c1 := HCs.out w1 K1
             clear ho))
        have HK1 : Hid (Below w.heap.size w w1) := K1
        clear K1 c0 c1 hB1 HW HT HS HZ
        generalize wr = wo at *
        obtain ⟨z5, hz5⟩ : ∃ z5 : Nat, (z5 : Int) = z % 5 := ⟨(z % 5).toNat, by omega⟩
        have hz5b : z5 < 5 := by omega
        go_loopw [6, 11] (fun u6 u11 wi => ∃ (j : Nat) (V : ByteArray), u6 = .string V ∧ u11 = .int .i64 j ∧ j ≤ z5 ∧ V.size ≤ 65 * k + j ∧ Hid (Below w.heap.size w wi ∧ LexIs (bytesS V) ts)) (fun _ u11 _ => z5 - (intOf u11).toNat)
        case atStart => exact ⟨0, Y, rfl, rfl, Nat.zero_le _, by omega, HK1.out, HY.out⟩
        case round =>
          obtain ⟨j, V, rfl, rfl, hj, hV, HV⟩ := hrel
          have c3 := HCz.out wr HV.out.1
          by_cases hj5 : j < z5
          · have hj5' : (j : Int) < z % 5 := by omega
            have hbl := blk_at j
            have hcv := fun o => conv_blk wr o (blk j) (blk_bd j)
            have HV2 : Hid (LexIs (bytesS (V ++ strOf [blk j])) ts) := by
              show LexIs _ _
              rw [snoc_blk V _ (blk_bd j)]
              exact HV.out.2.snoc (bytesS_bd V) _ (blk_is j) (blk_bd j)
            have hy1 : (strOf [blk j]).size = 1 := by rw [strOf_size]; rfl
            generalize blk j = c at hbl hcv HV2 hy1
            generalize strOf [c] = y at hcv HV2 hy1
            have hVy : (V ++ y).size = V.size + 1 := by rw [ByteArray.size_append, hy1]
            have HVy : Hid ((V ++ y).size = V.size + 1) := hVy
            have HB := HV.out.1
            have HB2 : Hid (∀ o1 o2, Below w.heap.size w ((wr.alloc o1).alloc o2)) := fun o1 o2 => (HB.alloc HB.size o1).alloc (HB.alloc HB.size o1).size o2
            clear HB hVy
            go_wp2
            go_roundw
            case rel => exact ⟨j + 1, V ++ y, rfl, by go_num, by omega, by rw [HVy.out]; omega, HB2.out _ _, HV2.out⟩
            case measure => simp [intOf]; omega
          · obtain rfl : j = z5 := by omega
            have hj5' : ¬ (j : Int) < z % 5 := by omega
            have c4 := HCs.out wr HV.out.1
            have HV2 : Hid (LexIs (bytesS (V ++ ⟨#[32]⟩ ++ s)) (ts ++ us)) := by
              show LexIs _ _
              rw [bytes_glue]
              exact HV.out.2.more (bytesS_bd V) (bytesS_bd s) HS2.out
            have HXs : Hid ((X ++ ⟨#[32]⟩ ++ s).size = X.size + 1 + s.size) := glue_size X s
            have HVs : Hid ((V ++ ⟨#[32]⟩ ++ s).size = V.size + 1 + s.size) := glue_size V s
            have HB : Hid (Below w.heap.size w wr) := HV.out.1
            go_wp2
            go_roundw
            case rel => exact ⟨k + 1, X ++ ⟨#[32]⟩ ++ s, V ++ ⟨#[32]⟩ ++ s, rfl, rfl, by go_num, by omega, by rw [HXs.out]; omega, by rw [HVs.out]; omega, HB.out, _, HX.out, HV2.out⟩
            case measure => simp [intOf]; omega
    · obtain ⟨hB, ts, hx, hy⟩ := HU.out
      obtain ⟨x1, x2⟩ := all_of_lexIs X ts (by omega) hx
      obtain ⟨y1, y2⟩ := all_of_lexIs Y ts (by omega) hy
      have hks := same_ks (x2.trans y2.symm)
      have hl1 := (allZ_err X).2.2.2.2
      have HA : Hid (Calls Tryd.prog 6 #[.string X] wr (AllR (allZ X) wr)) := all_lex X wr (HT.out.later HW.out)
      have HBc : Hid (∀ w', Below w.heap.size w w' → Calls Tryd.prog 6 #[.string Y] w' (AllR (allZ Y) w')) := fun w' hb => all_lex Y w' (HT.out.later hb)
      generalize allZ X = R1 at HA x1 hks hl1
      generalize allZ Y = R2 at HBc y1 hks
      obtain ⟨l1, p1, e1⟩ := R1
      obtain ⟨l2, p2, e2⟩ := R2
      dsimp only at x1 y1 hks hl1
      subst x1 y1
      obtain ⟨hlen, hks⟩ := hks
      have HN : Hid (l1.length = l2.length) := hlen
      have HK : Hid (∀ j : Nat, ksT (l1[j]?.getD tkY) = ksT (l2[j]?.getD tkY)) := hks
      clear hx hy x2 y2 hB HU hlen hks HS HZ
      generalize wr = wo at *
      have h3 : ¬ k < n ∨ (k < n ∧ ¬ k < m) ∨ (k < n ∧ k < m ∧ ¬ k < 60) := by omega
      clear hlt
      rcases h3 with h1 | ⟨h1, h2⟩ | ⟨h1, h2, h3⟩
      · have h1' : ¬ (k : Int) < (n : Int) := by omega
        clear h1
        go_wp2_with (first
          | (go_at_call 6
             refine HA.out.mono ?_
             clear HA
             intro r1 w1 hA
             obtain ⟨a1, c1, rfl, ha1, ha2, ha3, hB1⟩ := hA.cells
             clear hA
             have K1 := HW.out.trans (hB1.mono HW.out.size)
             have HC1 : Hid (_ → _) := ha3
             clear ha3)
          | (go_at_call 6
             refine (HBc.out _ K1).mono ?_
             clear HBc
             intro r2 w2 hA
             obtain ⟨a2, c2, rfl, hb1, hb2, hb3, hB2⟩ := hA.cells
             clear hA
             rw [← HN.out] at hb1 hb3 ⊢
             have K2 := K1.trans (hB2.mono K1.size)
             have HC2 : Hid (_ → _) := hb3
             clear hb3))
        have HB2 : Hid (Below w1.heap.size w1 w2) := hB2
        have HK2 : Hid (Below w.heap.size w w2) := K2
        clear hB1 hB2 K1 K2 HN
        generalize l1.length = L at *
        go_loopw [18] (fun i wr => ∃ k : Nat, k ≤ L ∧ i = .int .i64 k ∧ Hid (Below w2.heap.size w2 wr)) (fun i _ => L - (intOf i).toNat)
        case atStart => exact ⟨0, Nat.zero_le _, rfl, Below.refl _ _⟩
        case round =>
          obtain ⟨i, hi, rfl, HI⟩ := hrel
          by_cases hil : i < L
          · have hil' : (i : Int) < (L : Int) := by omega
            obtain ⟨g, rfl, hg⟩ := HC1.out (by omega)
            obtain ⟨d, rfl, hd⟩ := HC2.out (by omega)
            obtain ⟨a0, a1⟩ := hg wr (HB2.out.trans (HI.out.mono HB2.out.size)) i hil
            obtain ⟨b0, b1⟩ := hd wr HI.out i hil
            rw [← HK.out i] at b0 b1
            clear hg hd HC1 HC2
            generalize ksT (l1[i]?.getD tkY) = x at a0 a1 b0 b1
            obtain ⟨K, S⟩ := x
            dsimp only at a0 a1 b0 b1
            go_wp2
            go_big_quiet (fail)
            go_wp2
            go_roundw
            case rel => exact ⟨i + 1, by omega, by go_num, HI.out.trans ⟨rfl, rfl, rfl, Nat.le_refl _, fun _ _ => rfl⟩⟩
            case measure => simp [intOf]; omega
          · obtain rfl : i = L := by omega
            have hge : ¬ (i : Int) < (i : Int) := by omega
            have KB := HK2.out.trans (HI.out.mono HK2.out.size)
            go_wp2_with (first
              | (go_at_call 8; refine (awake17 _ (HT.out.later KB)).mono ?_; rintro e w8 ⟨rfl, hB8⟩))
            go_ret
            exact ⟨rfl, KB.trans (hB8.mono KB.size)⟩
      · have h1' : (k : Int) < (n : Int) := by omega
        have h2' : ¬ (k : Int) < (m : Int) := by omega
        clear h1 h2
        go_wp2_with (first
          | (go_at_call 6
             refine HA.out.mono ?_
             clear HA
             intro r1 w1 hA
             obtain ⟨a1, c1, rfl, ha1, ha2, ha3, hB1⟩ := hA.cells
             clear hA
             have K1 := HW.out.trans (hB1.mono HW.out.size)
             have HC1 : Hid (_ → _) := ha3
             clear ha3)
          | (go_at_call 6
             refine (HBc.out _ K1).mono ?_
             clear HBc
             intro r2 w2 hA
             obtain ⟨a2, c2, rfl, hb1, hb2, hb3, hB2⟩ := hA.cells
             clear hA
             rw [← HN.out] at hb1 hb3 ⊢
             have K2 := K1.trans (hB2.mono K1.size)
             have HC2 : Hid (_ → _) := hb3
             clear hb3))
        have HB2 : Hid (Below w1.heap.size w1 w2) := hB2
        have HK2 : Hid (Below w.heap.size w w2) := K2
        clear hB1 hB2 K1 K2 HN
        generalize l1.length = L at *
        go_loopw [18] (fun i wr => ∃ k : Nat, k ≤ L ∧ i = .int .i64 k ∧ Hid (Below w2.heap.size w2 wr)) (fun i _ => L - (intOf i).toNat)
        case atStart => exact ⟨0, Nat.zero_le _, rfl, Below.refl _ _⟩
        case round =>
          obtain ⟨i, hi, rfl, HI⟩ := hrel
          by_cases hil : i < L
          · have hil' : (i : Int) < (L : Int) := by omega
            obtain ⟨g, rfl, hg⟩ := HC1.out (by omega)
            obtain ⟨d, rfl, hd⟩ := HC2.out (by omega)
            obtain ⟨a0, a1⟩ := hg wr (HB2.out.trans (HI.out.mono HB2.out.size)) i hil
            obtain ⟨b0, b1⟩ := hd wr HI.out i hil
            rw [← HK.out i] at b0 b1
            clear hg hd HC1 HC2
            generalize ksT (l1[i]?.getD tkY) = x at a0 a1 b0 b1
            obtain ⟨K, S⟩ := x
            dsimp only at a0 a1 b0 b1
            go_wp2
            go_big_quiet (fail)
            go_wp2
            go_roundw
            case rel => exact ⟨i + 1, by omega, by go_num, HI.out.trans ⟨rfl, rfl, rfl, Nat.le_refl _, fun _ _ => rfl⟩⟩
            case measure => simp [intOf]; omega
          · obtain rfl : i = L := by omega
            have hge : ¬ (i : Int) < (i : Int) := by omega
            have KB := HK2.out.trans (HI.out.mono HK2.out.size)
            go_wp2_with (first
              | (go_at_call 8; refine (awake17 _ (HT.out.later KB)).mono ?_; rintro e w8 ⟨rfl, hB8⟩))
            go_ret
            exact ⟨rfl, KB.trans (hB8.mono KB.size)⟩
      · have h1' : (k : Int) < (n : Int) := by omega
        have h2' : (k : Int) < (m : Int) := by omega
        have h3' : ¬ (k : Int) < 60 := by omega
        clear h1 h2 h3
        go_wp2_with (first
          | (go_at_call 6
             refine HA.out.mono ?_
             clear HA
             intro r1 w1 hA
             obtain ⟨a1, c1, rfl, ha1, ha2, ha3, hB1⟩ := hA.cells
             clear hA
             have K1 := HW.out.trans (hB1.mono HW.out.size)
             have HC1 : Hid (_ → _) := ha3
             clear ha3)
          | (go_at_call 6
             refine (HBc.out _ K1).mono ?_
             clear HBc
             intro r2 w2 hA
             obtain ⟨a2, c2, rfl, hb1, hb2, hb3, hB2⟩ := hA.cells
             clear hA
             rw [← HN.out] at hb1 hb3 ⊢
             have K2 := K1.trans (hB2.mono K1.size)
             have HC2 : Hid (_ → _) := hb3
             clear hb3))
        have HB2 : Hid (Below w1.heap.size w1 w2) := hB2
        have HK2 : Hid (Below w.heap.size w w2) := K2
        clear hB1 hB2 K1 K2 HN
        generalize l1.length = L at *
        go_loopw [18] (fun i wr => ∃ k : Nat, k ≤ L ∧ i = .int .i64 k ∧ Hid (Below w2.heap.size w2 wr)) (fun i _ => L - (intOf i).toNat)
        case atStart => exact ⟨0, Nat.zero_le _, rfl, Below.refl _ _⟩
        case round =>
          obtain ⟨i, hi, rfl, HI⟩ := hrel
          by_cases hil : i < L
          · have hil' : (i : Int) < (L : Int) := by omega
            obtain ⟨g, rfl, hg⟩ := HC1.out (by omega)
            obtain ⟨d, rfl, hd⟩ := HC2.out (by omega)
            obtain ⟨a0, a1⟩ := hg wr (HB2.out.trans (HI.out.mono HB2.out.size)) i hil
            obtain ⟨b0, b1⟩ := hd wr HI.out i hil
            rw [← HK.out i] at b0 b1
            clear hg hd HC1 HC2
            generalize ksT (l1[i]?.getD tkY) = x at a0 a1 b0 b1
            obtain ⟨K, S⟩ := x
            dsimp only at a0 a1 b0 b1
            go_wp2
            go_big_quiet (fail)
            go_wp2
            go_roundw
            case rel => exact ⟨i + 1, by omega, by go_num, HI.out.trans ⟨rfl, rfl, rfl, Nat.le_refl _, fun _ _ => rfl⟩⟩
            case measure => simp [intOf]; omega
          · obtain rfl : i = L := by omega
            have hge : ¬ (i : Int) < (i : Int) := by omega
            have KB := HK2.out.trans (HI.out.mono HK2.out.size)
            go_wp2_with (first
              | (go_at_call 8; refine (awake17 _ (HT.out.later KB)).mono ?_; rintro e w8 ⟨rfl, hB8⟩))
            go_ret
            exact ⟨rfl, KB.trans (hB8.mono KB.size)⟩
end Go.Proofs.YtdfmehbnhdhbcaaDoor
