/-
  The walk of the law LexPlaces. Made by tools/mk_lexplaces17.py.
-/
import Derived.Test.YtdfmehbnhdhbcaaDoorLexAwake
import Derived.Test.YtdfmehbnhdhbcaaDoorLexPlMath
import Derived.BigQuiet
namespace Go.Proofs.YtdfmehbnhdhbcaaDoor
open Go.RowKit

theorem below_two {w0 wr : World} (h : Below w0.heap.size w0 wr) (o : Obj) (a : Nat) : Below w0.heap.size w0 ((wr.alloc o).drewN a) :=
  (h.alloc h.size o).trans ⟨rfl, rfl, rfl, Nat.le_refl _, fun _ _ => rfl⟩
theorem bytes_part (s : ByteArray) (a b : Nat) : bytesS (s.extract a b) = ((bytesS s).drop a).take (b - a) := by
  simp [bytesS, ByteArray.data_extract, List.map_drop, List.map_take]
def tk0 : Tk := ⟨0, ⟨#[]⟩, 0⟩
/-- All that LexPlaces asks of tokens, by index. -/
theorem places_of (s : ByteArray) (he : (allZ s).2.2 = 0) : ∃ (T : Nat → Tk) (n : Nat), n = (allZ s).1.length ∧ 0 < n ∧ n ≤ 8193 ∧ (∀ j (h : j < (allZ s).1.length), (allZ s).1[j] = T j) ∧
    (∀ j, j < n → ((T j).k = 6 ↔ j + 1 = n) ∧ (T j).p ≤ s.size ∧ ((T j).k ≠ 4 → (T j).p + (T j).s.size ≤ s.size ∧ s.extract (T j).p ((T j).p + (T j).s.size) = (T j).s) ∧ (j + 1 = n → (T j).p = s.size)) ∧
    (∀ j, j + 1 < n → (T j).p < (T (j + 1)).p) := by
  have P := all_placed s he
  have hlen := (allZ_err s).2.2.2.2
  generalize (allZ s).1 = l at P hlen
  have hne := placed_ne P
  have hT : ∀ j (h : j < l.length), l[j] = l[j]?.getD tk0 := fun j h => by simp [h]
  refine ⟨fun j => l[j]?.getD tk0, l.length, rfl, List.length_pos_iff.2 hne, hlen, hT, fun j hj => ?_, fun j hj => ?_⟩
  · have G := placed_get l 0 P j hj
    rw [hT j hj, bytesS_length] at G
    obtain ⟨g1, g2, g3, g4, g5⟩ := G
    refine ⟨g1, g3, fun hk => ?_, g5⟩
    obtain ⟨h1, h2⟩ := g4 hk
    refine ⟨h1, bytesS_inj ?_⟩
    rw [bytes_part, Nat.add_sub_cancel_left]
    exact h2
  · have := placed_rise l 0 P j hj
    rw [hT _ hj, hT _ (by omega)] at this
    exact this
/-- All's tokens in memory, by index. -/
theorem all_rows (s : ByteArray) (w : World) (hT : LexT w) (T : Nat → Tk) (n : Nat) (hn : n = (allZ s).1.length) (h0 : 0 < n) (hT' : ∀ j (h : j < (allZ s).1.length), (allZ s).1[j] = T j) :
    Calls Tryd.prog 6 #[.string s] w fun e w' => ∃ g cap, e = .returned (.tuple #[.slice (some ⟨g, 0, none⟩) n cap, .int .i64 ((allZ s).2.1 : Int), .int .i64 (allZ s).2.2]) ∧ n ≤ cap ∧ cap ≤ maxLen ∧ g < w'.heap.size ∧
      (∀ j, j < n → w'.cell? ⟨g, j * 3, none⟩ = some (.int .i64 (T j).k) ∧ w'.cell? ⟨g, j * 3 + 1, none⟩ = some (.string (T j).s) ∧ w'.cell? ⟨g, j * 3 + 2, none⟩ = some (.int .i64 ((T j).p : Int))) ∧ Below w.heap.size w w' := by
  refine (all_lex s w hT).mono fun e w' ⟨v, he, ho, hb⟩ => ?_
  rw [← hn] at ho
  obtain ⟨a, cap, hv, h1, h2, h3⟩ := rowT_get ho hn
  obtain ⟨g, ha, hc⟩ := h3 h0
  rw [hv, ha] at he
  refine ⟨g, cap, he, h1, h2, ?_, fun j hj => ?_, hb⟩
  · exact World.block_lt_of_cell? w' _ (hc 0 (by omega)).1
  · have := hc j (by omega)
    rwa [hT' j (by omega)] at this

set_option maxRecDepth 100000 in
set_option maxHeartbeats 4000000 in
theorem places_bad (s : ByteArray) (w : World) (hT : LexT w) (he : (allZ s).2.2 ≠ 0) : Calls Tryd.prog 5 #[.string s] w fun e w' => e = .returned (.bool true) ∧ Below w.heap.size w w' := by
  obtain ⟨e1, e2, -, -, -⟩ := allZ_err s
  have hc := all_lex s w hT
  have h1 := e1 he
  generalize allZ s = Z at hc h1 e2 he
  obtain ⟨l, n, e⟩ := Z
  dsimp only at h1 e2 he
  subst h1
  have HC : Hid (Calls Tryd.prog 6 #[.string s] w fun e' w' => ∃ a cap, e' = .returned (.tuple #[.slice a 0 cap, .int .i64 (n : Int), .int .i64 e]) ∧ Below w.heap.size w w') :=
    hc.mono fun e' w' ⟨v, he, ho, hb⟩ => by
      obtain ⟨a, cap, hv⟩ := rowT_form ho
      rw [hv] at he
      exact ⟨a, cap, he, hb⟩
  have HT : Hid (LexT w) := hT
  have heb : (e == (0 : Int)) = false := by simp [he]
  have hn0 : (0 : Int) ≤ (n : Int) := by omega
  have hns : (n : Int) ≤ (s.size : Int) := by omega
  clear hc hT e1
  go_enter Tryd.func5, Tryd.ntmps5
  go_wp2_with (first
    | (go_at_call 6; refine HC.out.mono ?_; clear HC; rintro e w1 ⟨a, cap, rfl, hB1⟩)
    | (go_at_call 8; refine (awake17 _ (HT.out.later hB1)).mono ?_; rintro e w8 ⟨rfl, hB8⟩))
  go_ret
  exact ⟨rfl, hB1.trans (hB8.mono hB1.size)⟩
set_option maxRecDepth 100000 in
set_option maxHeartbeats 8000000 in
theorem places_good (s : ByteArray) (w : World) (hT : LexT w) (he : (allZ s).2.2 = 0) : Calls Tryd.prog 5 #[.string s] w fun e w' => e = .returned (.bool true) ∧ Below w.heap.size w w' := by
  obtain ⟨T, n, hn, h0, hn2, hTj, hF, hG⟩ := places_of s he
  have hc := all_rows s w hT T n hn h0 hTj
  have hs2 := (allZ_err s).2.2.2.1 he
  rw [he, hs2] at hc
  have hs3 : s.size ≤ 8192 := by
    by_cases h : 8192 < s.size
    · have e : allZ s = ([], 0, 2) := if_pos h
      rw [e] at he
      simp at he
    · omega
  have HC : Hid (Calls Tryd.prog 6 _ _ _) := hc
  have HT : Hid (LexT w) := hT
  have HF : Hid (∀ j, j < n → _) := hF
  have HG : Hid (∀ j, j + 1 < n → (T j).p < (T (j + 1)).p) := hG
  clear hc hT hF hG hn hTj he hs2
  go_enter Tryd.func5, Tryd.ntmps5
  go_wp2_with (first
    | (go_at_call 6; refine HC.out.mono ?_; clear HC; rintro e w1 ⟨g, cap, rfl, hc1, hc2, hg, hcell, hB1⟩))
  have HLt : Hid (g < w1.heap.size) := hg
  have H1 : Hid (Below w.heap.size w w1) := hB1
  have HCell : Hid (∀ W, Below w1.heap.size w1 W → ∀ j, j < n → W.cell? ⟨g, j * 3, none⟩ = some (.int .i64 (T j).k) ∧ W.cell? ⟨g, j * 3 + 1, none⟩ = some (.string (T j).s) ∧ W.cell? ⟨g, j * 3 + 2, none⟩ = some (.int .i64 ((T j).p : Int))) := fun W hb j hj => by
    have h := hcell j hj
    rw [hb.cell (p := ⟨g, j * 3, none⟩) hg, hb.cell (p := ⟨g, j * 3 + 1, none⟩) hg, hb.cell (p := ⟨g, j * 3 + 2, none⟩) hg]
    exact h
  clear hg hB1 hcell
  go_loopw [6] (fun i wr => ∃ k : Nat, k ≤ n ∧ i = .int .i64 k ∧ Hid (Below w1.heap.size w1 wr)) (fun i _ => n - (intOf i).toNat)
  case atStart => exact ⟨0, Nat.zero_le _, rfl, Below.refl _ _⟩
  case round =>
    obtain ⟨k, hk, rfl, HB⟩ := hrel
    by_cases hlt : k < n
    · have hlt' : (k : Int) < (n : Int) := by omega
      obtain ⟨c0, c1, c2⟩ := HCell.out wr HB.out k hlt
      obtain ⟨f1, f2, f3, f4⟩ := HF.out k hlt
      by_cases hz : k = 0
      · by_cases hl : k + 1 = n
        · skip
          subst hz
          have d0 : wr.cell? ⟨g, 0, none⟩ = some (.int .i64 (T 0).k) := c0
          have d1 : wr.cell? ⟨g, 1, none⟩ = some (.string (T 0).s) := c1
          have d2 : wr.cell? ⟨g, 2, none⟩ = some (.int .i64 ((T 0).p : Int)) := c2
          clear c0 c1 c2
          generalize T 0 = x at d0 d1 d2 f1 f2 f3 f4
          obtain ⟨K, S, p⟩ := x
          dsimp only at d0 d1 d2 f1 f2 f3 f4
          obtain rfl : K = 6 := f1.2 hl
          have hn1 : IntKind.i64.wrap ((n : Int) - 1) = 0 := by rw [IntKind.wrap_i64]; omega
          obtain ⟨g1, g2⟩ := f3 (by decide)
          obtain ⟨r, hr⟩ : ∃ r, r = p + S.size := ⟨_, rfl⟩
          have hr1 : IntKind.i64.wrap ((p : Int) + (S.size : Int)) = (r : Int) := by rw [IntKind.wrap_i64]; omega
          have hr2 : ¬ (s.size : Int) < (r : Int) := by omega
          have hsl : ∀ w' : World, (Instr.slice 9 (.string s) (some (.int .i64 (p : Int))) (some (.int .i64 (r : Int))) none).run Tryd.prog w' = .ok (.string S) w' := fun w' => by
            rw [run_slice_string_if w' 9 s .i64 .i64 (p : Int) (r : Int) Tryd.underlying9]
            simp only [Int.toNat_natCast, hr, g2]
            rw [if_pos ⟨by omega, by omega⟩, if_pos ⟨by omega, by omega⟩]
          clear g1 g2 hr
          have hp0 : ¬ (p : Int) < 0 := by omega
          have hps : ¬ (s.size : Int) < (p : Int) := by omega
          clear f1 f2 f3 f4 hl
          go_wp2
          have e1 : ¬ (p : Int) < 0 := by omega
          have e2 : ¬ (s.size : Int) < (p : Int) := by omega
          go_big_quiet (fail)
          go_wp2
          have e4 : ¬ (s.size : Int) < (r : Int) := by omega
          go_big_quiet (fail)
          go_wp2
          go_roundw
          case rel => exact ⟨0 + 1, by omega, by go_num, below_two HB.out _ _⟩
          case measure => simp [intOf]; omega
        · by_cases h4 : (T k).k = 4
          · skip
            subst hz
            have d0 : wr.cell? ⟨g, 0, none⟩ = some (.int .i64 (T 0).k) := c0
            have d1 : wr.cell? ⟨g, 1, none⟩ = some (.string (T 0).s) := c1
            have d2 : wr.cell? ⟨g, 2, none⟩ = some (.int .i64 ((T 0).p : Int)) := c2
            clear c0 c1 c2
            generalize T 0 = x at d0 d1 d2 f1 f2 f3 f4 h4
            obtain ⟨K, S, p⟩ := x
            dsimp only at d0 d1 d2 f1 f2 f3 f4 h4
            have hK6 : ¬ K = 6 := fun h => hl (f1.1 h)
            have hK6b : (K == (6 : Int)) = false := by simp [hK6]
            obtain ⟨m, hm⟩ : ∃ m, n = m + 1 := ⟨n - 1, by omega⟩
            have hn1 : IntKind.i64.wrap ((n : Int) - 1) = (m : Int) := by rw [IntKind.wrap_i64]; omega
            have hkm : ¬ (0 : Int) = (m : Int) := by omega
            have hkmb : ((0 : Int) == (m : Int)) = false := beq_eq_false_iff_ne.2 hkm
            obtain rfl : K = 4 := h4
            clear hm
            have hp0 : ¬ (p : Int) < 0 := by omega
            have hps : ¬ (s.size : Int) < (p : Int) := by omega
            clear f1 f2 f3 f4 hl
            go_wp2
            have e1 : ¬ (p : Int) < 0 := by omega
            have e2 : ¬ (s.size : Int) < (p : Int) := by omega
            go_big_quiet (fail)
            go_wp2
            go_big_quiet (fail)
            go_wp2
            go_roundw
            case rel => exact ⟨0 + 1, by omega, by go_num, below_two HB.out _ _⟩
            case measure => simp [intOf]; omega
          · skip
            subst hz
            have d0 : wr.cell? ⟨g, 0, none⟩ = some (.int .i64 (T 0).k) := c0
            have d1 : wr.cell? ⟨g, 1, none⟩ = some (.string (T 0).s) := c1
            have d2 : wr.cell? ⟨g, 2, none⟩ = some (.int .i64 ((T 0).p : Int)) := c2
            clear c0 c1 c2
            generalize T 0 = x at d0 d1 d2 f1 f2 f3 f4 h4
            obtain ⟨K, S, p⟩ := x
            dsimp only at d0 d1 d2 f1 f2 f3 f4 h4
            have hK6 : ¬ K = 6 := fun h => hl (f1.1 h)
            have hK6b : (K == (6 : Int)) = false := by simp [hK6]
            obtain ⟨m, hm⟩ : ∃ m, n = m + 1 := ⟨n - 1, by omega⟩
            have hn1 : IntKind.i64.wrap ((n : Int) - 1) = (m : Int) := by rw [IntKind.wrap_i64]; omega
            have hkm : ¬ (0 : Int) = (m : Int) := by omega
            have hkmb : ((0 : Int) == (m : Int)) = false := beq_eq_false_iff_ne.2 hkm
            have hK4b : (K == (4 : Int)) = false := by simp [h4]
            obtain ⟨g1, g2⟩ := f3 h4
            clear hm
            obtain ⟨r, hr⟩ : ∃ r, r = p + S.size := ⟨_, rfl⟩
            have hr1 : IntKind.i64.wrap ((p : Int) + (S.size : Int)) = (r : Int) := by rw [IntKind.wrap_i64]; omega
            have hr2 : ¬ (s.size : Int) < (r : Int) := by omega
            have hsl : ∀ w' : World, (Instr.slice 9 (.string s) (some (.int .i64 (p : Int))) (some (.int .i64 (r : Int))) none).run Tryd.prog w' = .ok (.string S) w' := fun w' => by
              rw [run_slice_string_if w' 9 s .i64 .i64 (p : Int) (r : Int) Tryd.underlying9]
              simp only [Int.toNat_natCast, hr, g2]
              rw [if_pos ⟨by omega, by omega⟩, if_pos ⟨by omega, by omega⟩]
            clear g1 g2 hr
            have hp0 : ¬ (p : Int) < 0 := by omega
            have hps : ¬ (s.size : Int) < (p : Int) := by omega
            clear f1 f2 f3 f4 hl
            go_wp2
            have e1 : ¬ (p : Int) < 0 := by omega
            have e2 : ¬ (s.size : Int) < (p : Int) := by omega
            go_big_quiet (fail)
            go_wp2
            have hK4n : (K != (4 : Int)) = true := by simp [h4]
            have e4 : ¬ (s.size : Int) < (r : Int) := by omega
            go_big_quiet (fail)
            go_wp2
            go_roundw
            case rel => exact ⟨0 + 1, by omega, by go_num, below_two HB.out _ _⟩
            case measure => simp [intOf]; omega
      · by_cases hl : k + 1 = n
        · skip
          have hk0 : 0 < k := by omega
          obtain ⟨q, hq⟩ : ∃ q, k = q + 1 := ⟨k - 1, by omega⟩
          have hqk : IntKind.i64.wrap ((k : Int) - 1) = (q : Int) := by rw [IntKind.wrap_i64]; omega
          have hqn : (q : Int) < (n : Int) := by omega
          have hpq := HG.out q (by omega)
          rw [← hq] at hpq
          have cq : ∀ o, (wr.alloc o).cell? ⟨g, q * 3 + 2, none⟩ = some (.int .i64 ((T q).p : Int)) := fun o => by
            rw [((Below.refl wr.heap.size wr).alloc (Nat.le_refl _) o).cell (p := ⟨g, q * 3 + 2, none⟩) (Nat.lt_of_lt_of_le HLt.out HB.out.size)]
            exact (HCell.out wr HB.out q (by omega)).2.2
          clear hq
          generalize T k = x at c0 c1 c2 f1 f2 f3 f4 hpq
          obtain ⟨K, S, p⟩ := x
          dsimp only at c0 c1 c2 f1 f2 f3 f4 hpq
          generalize (T q).p = pq at cq hpq
          have hpq' : ¬ (p : Int) ≤ (pq : Int) := by omega
          obtain rfl : K = 6 := f1.2 hl
          have hn1 : IntKind.i64.wrap ((n : Int) - 1) = (k : Int) := by rw [IntKind.wrap_i64]; omega
          obtain ⟨g1, g2⟩ := f3 (by decide)
          obtain ⟨r, hr⟩ : ∃ r, r = p + S.size := ⟨_, rfl⟩
          have hr1 : IntKind.i64.wrap ((p : Int) + (S.size : Int)) = (r : Int) := by rw [IntKind.wrap_i64]; omega
          have hr2 : ¬ (s.size : Int) < (r : Int) := by omega
          have hsl : ∀ w' : World, (Instr.slice 9 (.string s) (some (.int .i64 (p : Int))) (some (.int .i64 (r : Int))) none).run Tryd.prog w' = .ok (.string S) w' := fun w' => by
            rw [run_slice_string_if w' 9 s .i64 .i64 (p : Int) (r : Int) Tryd.underlying9]
            simp only [Int.toNat_natCast, hr, g2]
            rw [if_pos ⟨by omega, by omega⟩, if_pos ⟨by omega, by omega⟩]
          clear g1 g2 hr
          have hp0 : ¬ (p : Int) < 0 := by omega
          have hps : ¬ (s.size : Int) < (p : Int) := by omega
          clear f1 f2 f3 f4 hl hz
          go_wp2
          have e1 : ¬ (p : Int) < 0 := by omega
          have e2 : ¬ (s.size : Int) < (p : Int) := by omega
          have e3 : ¬ (p : Int) ≤ (pq : Int) := by omega
          have e5 : ¬ p ≤ pq := by omega
          have e6 : 0 < k := by omega
          have e7 : q < n := by omega
          go_big_quiet (fail)
          go_wp2
          have e4 : ¬ (s.size : Int) < (r : Int) := by omega
          go_big_quiet (fail)
          go_wp2
          go_roundw
          case rel => exact ⟨k + 1, by omega, by go_num, below_two HB.out _ _⟩
          case measure => simp [intOf]; omega
        · by_cases h4 : (T k).k = 4
          · skip
            have hk0 : 0 < k := by omega
            obtain ⟨q, hq⟩ : ∃ q, k = q + 1 := ⟨k - 1, by omega⟩
            have hqk : IntKind.i64.wrap ((k : Int) - 1) = (q : Int) := by rw [IntKind.wrap_i64]; omega
            have hqn : (q : Int) < (n : Int) := by omega
            have hpq := HG.out q (by omega)
            rw [← hq] at hpq
            have cq : ∀ o, (wr.alloc o).cell? ⟨g, q * 3 + 2, none⟩ = some (.int .i64 ((T q).p : Int)) := fun o => by
              rw [((Below.refl wr.heap.size wr).alloc (Nat.le_refl _) o).cell (p := ⟨g, q * 3 + 2, none⟩) (Nat.lt_of_lt_of_le HLt.out HB.out.size)]
              exact (HCell.out wr HB.out q (by omega)).2.2
            clear hq
            generalize T k = x at c0 c1 c2 f1 f2 f3 f4 h4 hpq
            obtain ⟨K, S, p⟩ := x
            dsimp only at c0 c1 c2 f1 f2 f3 f4 h4 hpq
            generalize (T q).p = pq at cq hpq
            have hpq' : ¬ (p : Int) ≤ (pq : Int) := by omega
            have hK6 : ¬ K = 6 := fun h => hl (f1.1 h)
            have hK6b : (K == (6 : Int)) = false := by simp [hK6]
            obtain ⟨m, hm⟩ : ∃ m, n = m + 1 := ⟨n - 1, by omega⟩
            have hn1 : IntKind.i64.wrap ((n : Int) - 1) = (m : Int) := by rw [IntKind.wrap_i64]; omega
            have hkm : ¬ (k : Int) = (m : Int) := by omega
            have hkm2 : ¬ k = m := by omega
            have hkmb : ((k : Int) == (m : Int)) = false := beq_eq_false_iff_ne.2 hkm
            obtain rfl : K = 4 := h4
            clear hm
            have hp0 : ¬ (p : Int) < 0 := by omega
            have hps : ¬ (s.size : Int) < (p : Int) := by omega
            clear f1 f2 f3 f4 hl hz
            go_wp2
            have e1 : ¬ (p : Int) < 0 := by omega
            have e2 : ¬ (s.size : Int) < (p : Int) := by omega
            have e3 : ¬ (p : Int) ≤ (pq : Int) := by omega
            have e5 : ¬ p ≤ pq := by omega
            have e6 : 0 < k := by omega
            have e7 : q < n := by omega
            go_big_quiet (fail)
            go_wp2
            go_big_quiet (fail)
            go_wp2
            go_roundw
            case rel => exact ⟨k + 1, by omega, by go_num, below_two HB.out _ _⟩
            case measure => simp [intOf]; omega
          · skip
            have hk0 : 0 < k := by omega
            obtain ⟨q, hq⟩ : ∃ q, k = q + 1 := ⟨k - 1, by omega⟩
            have hqk : IntKind.i64.wrap ((k : Int) - 1) = (q : Int) := by rw [IntKind.wrap_i64]; omega
            have hqn : (q : Int) < (n : Int) := by omega
            have hpq := HG.out q (by omega)
            rw [← hq] at hpq
            have cq : ∀ o, (wr.alloc o).cell? ⟨g, q * 3 + 2, none⟩ = some (.int .i64 ((T q).p : Int)) := fun o => by
              rw [((Below.refl wr.heap.size wr).alloc (Nat.le_refl _) o).cell (p := ⟨g, q * 3 + 2, none⟩) (Nat.lt_of_lt_of_le HLt.out HB.out.size)]
              exact (HCell.out wr HB.out q (by omega)).2.2
            clear hq
            generalize T k = x at c0 c1 c2 f1 f2 f3 f4 h4 hpq
            obtain ⟨K, S, p⟩ := x
            dsimp only at c0 c1 c2 f1 f2 f3 f4 h4 hpq
            generalize (T q).p = pq at cq hpq
            have hpq' : ¬ (p : Int) ≤ (pq : Int) := by omega
            have hK6 : ¬ K = 6 := fun h => hl (f1.1 h)
            have hK6b : (K == (6 : Int)) = false := by simp [hK6]
            obtain ⟨m, hm⟩ : ∃ m, n = m + 1 := ⟨n - 1, by omega⟩
            have hn1 : IntKind.i64.wrap ((n : Int) - 1) = (m : Int) := by rw [IntKind.wrap_i64]; omega
            have hkm : ¬ (k : Int) = (m : Int) := by omega
            have hkm2 : ¬ k = m := by omega
            have hkmb : ((k : Int) == (m : Int)) = false := beq_eq_false_iff_ne.2 hkm
            have hK4b : (K == (4 : Int)) = false := by simp [h4]
            obtain ⟨g1, g2⟩ := f3 h4
            clear hm
            obtain ⟨r, hr⟩ : ∃ r, r = p + S.size := ⟨_, rfl⟩
            have hr1 : IntKind.i64.wrap ((p : Int) + (S.size : Int)) = (r : Int) := by rw [IntKind.wrap_i64]; omega
            have hr2 : ¬ (s.size : Int) < (r : Int) := by omega
            have hsl : ∀ w' : World, (Instr.slice 9 (.string s) (some (.int .i64 (p : Int))) (some (.int .i64 (r : Int))) none).run Tryd.prog w' = .ok (.string S) w' := fun w' => by
              rw [run_slice_string_if w' 9 s .i64 .i64 (p : Int) (r : Int) Tryd.underlying9]
              simp only [Int.toNat_natCast, hr, g2]
              rw [if_pos ⟨by omega, by omega⟩, if_pos ⟨by omega, by omega⟩]
            clear g1 g2 hr
            have hp0 : ¬ (p : Int) < 0 := by omega
            have hps : ¬ (s.size : Int) < (p : Int) := by omega
            clear f1 f2 f3 f4 hl hz
            go_wp2
            have e1 : ¬ (p : Int) < 0 := by omega
            have e2 : ¬ (s.size : Int) < (p : Int) := by omega
            have e3 : ¬ (p : Int) ≤ (pq : Int) := by omega
            have e5 : ¬ p ≤ pq := by omega
            have e6 : 0 < k := by omega
            have e7 : q < n := by omega
            go_big_quiet (fail)
            go_wp2
            have hK4n : (K != (4 : Int)) = true := by simp [h4]
            have e4 : ¬ (s.size : Int) < (r : Int) := by omega
            go_big_quiet (fail)
            go_wp2
            go_roundw
            case rel => exact ⟨k + 1, by omega, by go_num, below_two HB.out _ _⟩
            case measure => simp [intOf]; omega
    · obtain rfl : k = n := by omega
      have hge : ¬ (k : Int) < (k : Int) := by omega
      have hk1 : (0 : Int) < (k : Int) := by omega
      have c2 : wr.cell? ⟨g, (k - 1) * 3 + 2, none⟩ = some (.int .i64 (s.size : Int)) := by
        rw [(HCell.out wr HB.out (k - 1) (by omega)).2.2, (HF.out (k - 1) (by omega)).2.2.2 (by omega)]
      have KB := H1.out.trans (HB.out.mono H1.out.size)
      go_wp2_with (first
        | (go_at_call 8; refine (awake17 _ (HT.out.later KB)).mono ?_; rintro e w8 ⟨rfl, hB8⟩))
      go_ret
      exact ⟨rfl, KB.trans (hB8.mono KB.size)⟩
theorem places_walk (s : ByteArray) (w : World) (hT : LexT w) : Calls Tryd.prog 5 #[.string s] w fun e w' => e = .returned (.bool true) ∧ Below w.heap.size w w' := by
  by_cases he : (allZ s).2.2 = 0
  · exact places_good s w hT he
  · exact places_bad s w hT he
end Go.Proofs.YtdfmehbnhdhbcaaDoor
