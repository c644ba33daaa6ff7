/-
  The walk of the law LexAll.
-/
import Derived.Test.YtdfmehbnhdhbcaaDoorLexRefAll
import Derived.Test.YtdfmehbnhdhbcaaDoorLexAwake
import Derived.BigQuiet
namespace Go.Proofs.YtdfmehbnhdhbcaaDoor
open Go.RowKit

def tkZ : Tk := ⟨0, ⟨#[]⟩, 0⟩
/-- Tokens that a call answers, by index, wherever the world goes on. -/
theorem AllR.rows {Z : List Tk × Nat × Int} {w w' : World} {e : Ending} (h : AllR Z w e w') : ∃ a cap, e = .returned (.tuple #[.slice a Z.1.length cap, .int .i64 (Z.2.1 : Int), .int .i64 Z.2.2]) ∧ Z.1.length ≤ cap ∧ cap ≤ maxLen ∧
    (0 < Z.1.length → ∃ g, a = some ⟨g, 0, none⟩ ∧ ∀ W, Below w'.heap.size w' W → ∀ j, j < Z.1.length → W.cell? ⟨g, j * 3, none⟩ = some (.int .i64 (Z.1[j]?.getD tkZ).k) ∧ W.cell? ⟨g, j * 3 + 1, none⟩ = some (.string (Z.1[j]?.getD tkZ).s) ∧ W.cell? ⟨g, j * 3 + 2, none⟩ = some (.int .i64 ((Z.1[j]?.getD tkZ).p : Int))) ∧ Below w.heap.size w w' := by
  obtain ⟨v, he, ho, hb⟩ := h
  obtain ⟨a, cap, hv, h1, h2, h3⟩ := rowT_get ho rfl
  rw [hv] at he
  refine ⟨a, cap, he, h1, h2, fun h0 => ?_, hb⟩
  obtain ⟨g, ha, hc⟩ := h3 h0
  refine ⟨g, ha, fun W hW j hj => ?_⟩
  obtain ⟨c0, c1, c2⟩ := hc j hj
  have hg : g < w'.heap.size := World.block_lt_of_cell? w' _ c0
  rw [hW.cell (p := ⟨g, j * 3, none⟩) hg, hW.cell (p := ⟨g, j * 3 + 1, none⟩) hg, hW.cell (p := ⟨g, j * 3 + 2, none⟩) hg, c0, c1, c2]
  simp [hj]
set_option maxRecDepth 100000 in
set_option maxHeartbeats 4000000 in
theorem allT_walk (s : ByteArray) (w : World) (hT : LexT w) : Calls Tryd.prog 3 #[.string s] w fun e w' => e = .returned (.bool true) ∧ Below w.heap.size w w' := by
  have hl := (allZ_err s).2.2.2.2
  have HC : Hid (Calls Tryd.prog 6 #[.string s] w (AllR (allZ s) w)) := all_lex s w hT
  have HR : Hid (∀ w', Calls Tryd.prog 7 #[.string s] w' (AllR (allZ s) w')) := fun w' => rall_any s w'
  have HT : Hid (LexT w) := hT
  clear hT
  generalize allZ s = Z at HC HR hl
  obtain ⟨l, n, e⟩ := Z
  dsimp only at hl
  go_enter Tryd.func3, Tryd.ntmps3
  go_wp2_with (first
    | (go_at_call 6
       refine HC.out.mono ?_
       clear HC
       intro e1 w1 hA
       obtain ⟨a, cap, rfl, ha1, ha2, ha3, hB1⟩ := hA.rows
       clear hA
       have HA : Hid (_ → _) := ha3
       clear ha3
       dsimp only at ha1 ⊢)
    | (go_at_call 7
       refine (HR.out _).mono ?_
       clear HR
       intro e2 w2 hA
       obtain ⟨b, cbp, rfl, hb1, hb2, hb3, hB2⟩ := hA.rows
       clear hA
       have HB : Hid (_ → _) := hb3
       clear hb3
       dsimp only at hb1 ⊢))
  have H2 : Hid (Below w.heap.size w w2) := hB1.trans (hB2.mono hB1.size)
  have H12 : Hid (Below w1.heap.size w1 w2) := hB2
  clear hB1 hB2
  generalize l.length = m at *
  go_loopw [9] (fun i wr => ∃ k : Nat, k ≤ m ∧ i = .int .i64 k ∧ Hid (Below w2.heap.size w2 wr)) (fun i _ => m - (intOf i).toNat)
  case atStart => exact ⟨0, Nat.zero_le _, rfl, Below.refl _ _⟩
  case round =>
    obtain ⟨k, hk, rfl, HW⟩ := hrel
    by_cases hlt : k < m
    · have hlt' : (k : Int) < (m : Int) := by omega
      obtain ⟨g, rfl, hg⟩ := HA.out (by omega)
      obtain ⟨d, rfl, hd⟩ := HB.out (by omega)
      obtain ⟨a0, a1, a2⟩ := hg wr (H12.out.trans (HW.out.mono H12.out.size)) k hlt
      obtain ⟨b0, b1, b2⟩ := hd wr HW.out k hlt
      clear hg hd HA HB
      generalize l[k]?.getD tkZ = x at a0 a1 a2 b0 b1 b2
      obtain ⟨K, S, p⟩ := x
      dsimp only at a0 a1 a2 b0 b1 b2
      go_wp2
      go_big_quiet (fail)
      go_wp2
      go_roundw
      case rel => exact ⟨k + 1, by omega, by go_num, HW.out.trans ⟨rfl, rfl, rfl, Nat.le_refl _, fun _ _ => rfl⟩⟩
      case measure => simp [intOf]; omega
    · obtain rfl : k = m := by omega
      have hge : ¬ (k : Int) < (k : Int) := by omega
      have KB := H2.out.trans (HW.out.mono H2.out.size)
      go_wp2_with (first
        | (go_at_call 8; refine (awake17 _ (HT.out.later KB)).mono ?_; rintro e w8 ⟨rfl, hB8⟩))
      go_ret
      exact ⟨rfl, KB.trans (hB8.mono KB.size)⟩
end Go.Proofs.YtdfmehbnhdhbcaaDoor
