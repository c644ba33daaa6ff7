/-
  word.Fold and the document's Fold: the bytes of a text in a new row, turned one by one, as a text again.
-/
import Derived.Test.YtgmooknbfcdcoaaWordRef
namespace Go.Proofs.Ytgmooknbfcdcoaa
open Go.RowKit

/-- Block g holds the n bytes L, and they may be written. -/
structure Rowed (g n : Nat) (L : Nat → Int) (w : World) : Prop where
  cell : ∀ j, j < n → w.cell? ⟨g, j, none⟩ = some (.int .u8 (L j))
  thaw : ∀ j, j < n → w.frozen? ⟨g, j, none⟩ = false
theorem Rowed.later {g n : Nat} {L : Nat → Int} {w w' : World} (h : Rowed g n L w) (hb : Below w.heap.size w w') : Rowed g n L w' := by
  have hg : ∀ j, j < n → g < w.heap.size := fun j hj => World.block_lt_of_cell? w ⟨g, j, none⟩ (h.cell j hj)
  exact ⟨fun j hj => by rw [hb.cell (p := ⟨g, j, none⟩) (hg j hj)]; exact h.cell j hj, fun j hj => by rw [hb.frozen (p := ⟨g, j, none⟩) (hg j hj)]; exact h.thaw j hj⟩
theorem Rowed.set {g n : Nat} {L : Nat → Int} {w : World} (h : Rowed g n L w) (k : Nat) (hk : k < n) (x : Int) : Rowed g n (fun j => if j = k then x else L j) (w.setCell ⟨g, k, none⟩ (.int .u8 x)) := by
  refine ⟨fun j hj => ?_, fun j hj => by rw [World.frozen?_setCell]; exact h.thaw j hj⟩
  by_cases e : j = k
  · subst e
    rw [World.cell?_setCell_same _ _ _ (h.cell j hj), if_pos rfl]
  · rw [World.cell?_setCell_other _ _ _ _ (fun c => e (by injection c with _ c; exact c.symm)), h.cell j hj, if_neg e]
theorem Rowed.congr {g n : Nat} {L M : Nat → Int} {w : World} (h : Rowed g n L w) (e : ∀ j, j < n → L j = M j) : Rowed g n M w := ⟨fun j hj => by rw [← e j hj]; exact h.cell j hj, h.thaw⟩
/-- Such bytes as a text. -/
theorem conv_rowed {g n : Nat} {L : List Int} {w : World} (cap : Nat) (hl : L.length = n) (h : Rowed g n (fun j => L[j]?.getD 0) w) : (convert 28 9 (.slice (some ⟨g, 0, none⟩) n cap)).run Try.prog w = .ok (.string (strOf L)) w := by
  refine conv_some w ⟨g, 0, none⟩ n cap L hl fun j v hj => ?_
  have hj' : j < L.length := by
    have := (List.getElem?_eq_some_iff.1 hj).1
    rwa [cellsOf_length] at this
  rw [addr_add, Nat.zero_add, h.cell j (by omega)]
  simp [cellsOf, hj'] at hj
  simp [hj', hj]
/-- '[]byte(s)'. -/
theorem bytes_of (s : ByteArray) (w : World) : ∃ (w1 : World) (cap : Nat), (convert 9 28 (.string s)).run Try.prog w = .ok (.slice (some ⟨w.heap.size, 0, none⟩) s.size cap) w1 ∧ s.size ≤ cap ∧
    Rowed w.heap.size s.size (byteAt s) w1 ∧ w1.heap.size = w.heap.size + 1 ∧ Below w.heap.size w w1 := by
  have hr := run_bytes_of_string (P := Try.prog) w 9 28 5 s Try.underlying9 Try.underlying28 Try.underlying5
  have hge := grownCap_ge w s.size 0 5
  obtain ⟨G, hG⟩ : ∃ G, grownCap w s.size 0 5 = G := ⟨_, rfl⟩
  rw [hG] at hr hge
  have hcs : (bytesRow s G).size = G := by
    unfold bytesRow
    simp
    have : s.data.size = s.size := rfl
    omega
  refine ⟨_, G, hr, by omega, ⟨fun j hj => ?_, fun j hj => ?_⟩, ?_, ?_⟩
  · have hj' : j < s.data.size := hj
    rw [show w.heap.size = w.drew.heap.size from rfl, World.cell?_alloc_mark, bytesRow_at s G j hj']
    have e := byteAt_get s j hj
    rw [← e]; rfl
  · rw [show w.heap.size = w.drew.heap.size from rfl, World.frozen?_alloc_mark, hcs]
    simp; omega
  · show (w.drew.heap.push _).size = _
    simp
  · exact ((Below.refl _ w).drew).alloc (Nat.le_refl _) _

theorem iter_setCell (u : World) (s : ByteArray) (p g k : Nat) (v : Value) (h : g < u.heap.size) : (u.iter s p).setCell ⟨g, k, none⟩ v = (u.setCell ⟨g, k, none⟩ v).iter s p := by
  simp only [World.iter, World.alloc, World.setCell]
  congr 1
  apply Array.ext
  · simp
  · intro i h1 h2
    simp only [Array.getElem_modify, Array.getElem_push, Array.size_modify]
    by_cases e : i < u.heap.size
    · simp [e]
    · have : ¬ g = i := by omega
      simp [e, this]
theorem setCell_size (u : World) (a : Addr) (v : Value) : (u.setCell a v).heap.size = u.heap.size := by simp [World.setCell]

theorem next_over {u : World} {m : Nat} (hm : u.heap.size = m) (s : ByteArray) (p : Nat) (hp : p < s.size) (ty : TypeId) :
    (Instr.next (.pointer (some ⟨m, 0, none⟩)) true ty).run Try.prog (u.iter s p) = .ok (.tuple #[.bool true, .int .i64 p, .int .i32 (Utf8.decode s p).1]) (u.iter s (p + (Utf8.decode s p).2)) := by
  rw [← hm]; exact run_next_any (P := Try.prog) u s p ty hp
theorem next_end {u : World} {m : Nat} (hm : u.heap.size = m) (s : ByteArray) (p : Nat) (hp : ¬ p < s.size) (ty : TypeId) :
    (Instr.next (.pointer (some ⟨m, 0, none⟩)) true ty).run Try.prog (u.iter s p) = .ok (.tuple #[.bool false]) (u.iter s p) := by
  rw [← hm]; exact run_next_end u s p ty hp

def partC (s : ByteArray) (p : Nat) (j : Nat) : Int := if j < p then foldC (byteAt s j) else byteAt s j
theorem part_step (s : ByteArray) (p j : Nat) (hc : largeB (byteAt s p) = true) : (if j = p then byteAt s p + 32 else partC s p j) = partC s (p + 1) j := by
  unfold partC
  by_cases e : j = p
  · subst e; rw [if_pos rfl, if_pos (by omega)]; unfold foldC; rw [hc]; rfl
  · rw [if_neg e]
    by_cases h : j < p
    · rw [if_pos h, if_pos (by omega)]
    · rw [if_neg h, if_neg (by omega)]
theorem part_over (s : ByteArray) (p q j : Nat) (hpq : p ≤ q) (h : ∀ j, p ≤ j → j < q → largeB (byteAt s j) = false) : partC s p j = partC s q j := by
  unfold partC
  by_cases h1 : j < p
  · rw [if_pos h1, if_pos (by omega)]
  · by_cases h2 : j < q
    · rw [if_neg h1, if_pos h2]; unfold foldC; rw [h j (by omega) h2]; rfl
    · rw [if_neg h1, if_neg h2]
theorem part_end (s : ByteArray) (p j : Nat) (hp : s.size ≤ p) (hj : j < s.size) : partC s p j = ((bytesS s).map foldC)[j]?.getD 0 := by
  have h : j < (bytesS s).length := by rw [bytesS_length]; exact hj
  unfold partC
  rw [if_pos (by omega)]
  simp [byteAt, h]

set_option maxRecDepth 100000 in
set_option maxHeartbeats 2000000 in
theorem fold_any (s : ByteArray) (w : World) : Calls Try.prog 9 #[.string s] w fun e w' => e = .returned (.string (foldS s)) ∧ Below w.heap.size w w' := by
  obtain ⟨w1, cap, hconv, hcap, hR, h1, hB1⟩ := bytes_of s w
  have HR : Hid (Rowed w.heap.size s.size (byteAt s) w1) := hR
  have HB1 : Hid (Below w.heap.size w w1) := hB1
  have H1 : Hid (w1.heap.size = w.heap.size + 1) := h1
  obtain ⟨g, hg⟩ : ∃ g, g = w.heap.size := ⟨_, rfl⟩
  have HG : Hid (g = w.heap.size) := hg
  rw [← hg] at hconv HR
  clear hR h1 hB1 hg
  go_enter Try.func9, Try.ntmps9
  go_wp2
  go_loopw [] (fun wr => ∃ (p : Nat) (u : World), wr = u.iter s p ∧ p ≤ s.size ∧ Hid (u.heap.size = w1.heap.size ∧ Rowed g s.size (partC s p) u ∧ Below w.heap.size w u)) (fun wr => s.size - wr.iterPos w1.heap.size)
  case atStart => exact ⟨0, w1, rfl, Nat.zero_le _, rfl, HR.out.congr (fun j _ => by unfold partC; rw [if_neg (by omega)]), HB1.out⟩
  case round =>
    obtain ⟨p, u, rfl, hps, HU⟩ := hrel
    have hit : (u.iter s p).iterPos w1.heap.size = p := by rw [← HU.out.1]; exact World.iterPos_iter u s p
    rw [hit]
    have HIT : Hid (∀ q, (u.iter s q).iterPos w1.heap.size = q) := fun q => by rw [← HU.out.1]; exact World.iterPos_iter u s q
    clear hit
    by_cases hp : p < s.size
    · have hbd := byteAt_bd s p
      by_cases ha : byteAt s p < 128
      · have hnx : ∀ ty, (Instr.next (.pointer (some ⟨w1.heap.size, 0, none⟩)) true ty).run Try.prog (u.iter s p) = .ok (.tuple #[.bool true, .int .i64 p, .int .i32 (byteAt s p)]) (u.iter s (p + 1)) := fun ty => by
          have e := run_next_any (P := Try.prog) u s p ty hp
          rw [rune_byte s p hp ha] at e
          rw [← HU.out.1, e, Int.toNat_of_nonneg hbd.1]
        have hlt : (p : Int) < (s.size : Int) := by omega
        cases hg : largeB (byteAt s p) with
        | true =>
          have HS : Hid (∀ w', Calls Try.prog 17 #[.int .i32 (byteAt s p)] w' fun e w'' => e = .returned (.bool true) ∧ w'' = w') := fun w' => by have := large_any (byteAt s p) w'; rwa [hg] at this
          have hR2 := HU.out.2.1.later (below_iter u s (p + 1))
          have hcell := hR2.cell p hp
          have hthaw := hR2.thaw p hp
          have hpc : partC s p p = byteAt s p := by unfold partC; rw [if_neg (by omega)]
          rw [hpc] at hcell
          clear hR2 hpc
          have hb32 : byteAt s p + 32 ≤ 255 := by unfold largeB at hg; simp only [decide_eq_true_eq] at hg; omega
          go_wp2_with (first | (go_at_call 17; refine (HS.out _).mono ?_; rintro e w1 ⟨rfl, hw1⟩; replace hw1 := hw1.symm; subst hw1))
          go_roundw
          case rel => exact ⟨p + 1, u.setCell ⟨g, p, none⟩ (.int .u8 (byteAt s p + 32)), iter_setCell u s (p + 1) g p _ (by rw [HU.out.1, H1.out, HG.out]; omega), by omega, (setCell_size _ _ _).trans HU.out.1, (HU.out.2.1.set p hp _).congr (fun j _ => part_step s p j hg), HU.out.2.2.setCell (Nat.le_of_eq HG.out.symm) _⟩
          case measure =>
            have e := iter_setCell u s (p + 1) g p (.int .u8 (byteAt s p + 32)) (by rw [HU.out.1, H1.out, HG.out]; omega)
            have e2 := World.iterPos_iter (u.setCell ⟨g, p, none⟩ (.int .u8 (byteAt s p + 32))) s (p + 1)
            rw [setCell_size, HU.out.1] at e2
            rw [e, e2]
            omega
        | false =>
          have HS : Hid (∀ w', Calls Try.prog 17 #[.int .i32 (byteAt s p)] w' fun e w'' => e = .returned (.bool false) ∧ w'' = w') := fun w' => by have := large_any (byteAt s p) w'; rwa [hg] at this
          go_wp2_with (first | (go_at_call 17; refine (HS.out _).mono ?_; rintro e w1 ⟨rfl, hw1⟩; replace hw1 := hw1.symm; subst hw1))
          go_roundw
          case rel => exact ⟨p + 1, u, rfl, by omega, HU.out.1, HU.out.2.1.congr (fun j _ => part_over s p (p + 1) j (by omega) (fun k h1 h2 => by rw [show k = p by omega]; exact hg)), HU.out.2.2⟩
          case measure => simp [HIT.out]; omega
      · obtain ⟨r1, r2, r3, r4⟩ := rune_over s p hp (by omega)
        have hnx := next_over HU.out.1 s p hp
        have HO : Hid (∀ j, p ≤ j → j < p + (Utf8.decode s p).2 → largeB (byteAt s j) = false) := fun j h1 h2 => decide_eq_false (by have := r4 j h1 h2; omega)
        obtain ⟨c, hc⟩ : ∃ c : Int, c = ((Utf8.decode s p).1 : Int) := ⟨_, rfl⟩
        have hc1 : 128 ≤ c := by omega
        rw [← hc] at hnx
        clear r4 r1
        generalize (Utf8.decode s p).2 = q at hnx r2 r3 HO
        have hl : largeB c = false := decide_eq_false (by omega)
        have HS : Hid (∀ w', Calls Try.prog 17 #[.int .i32 c] w' fun e w'' => e = .returned (.bool false) ∧ w'' = w') := fun w' => by have := large_any c w'; rwa [hl] at this
        clear hl hc
        go_wp2_with (first | (go_at_call 17; refine (HS.out _).mono ?_; rintro e w1 ⟨rfl, hw1⟩; replace hw1 := hw1.symm; subst hw1))
        go_roundw
        case rel => exact ⟨p + q, u, rfl, r3, HU.out.1, HU.out.2.1.congr (fun j _ => part_over s p (p + q) j (by omega) HO.out), HU.out.2.2⟩
        case measure => simp [HIT.out]; omega
    · have hnx := next_end HU.out.1 s p hp
      have hcv := conv_rowed cap (L := (bytesS s).map foldC) (by rw [List.length_map, bytesS_length]) ((HU.out.2.1.later (below_iter u s p)).congr (fun j hj => part_end s p j (by omega) hj))
      go_wp2
      go_ret
      have hb := HU.out.2.2
      exact ⟨rfl, hb.trans ((below_iter u s p).mono hb.size)⟩

set_option maxRecDepth 100000 in
set_option maxHeartbeats 2000000 in
theorem refFold_any (s : ByteArray) (w : World) (hs : s.size ≤ maxLen) : Calls Try.prog 10 #[.string s] w fun e w' => e = .returned (.string (foldS s)) ∧ Below w.heap.size w w' := by
  unfold maxLen at hs
  obtain ⟨w1, cap, hconv, hcap, hR, h1, hB1⟩ := bytes_of s w
  have HR : Hid (Rowed w.heap.size s.size (byteAt s) w1) := hR
  have HB1 : Hid (Below w.heap.size w w1) := hB1
  obtain ⟨g, hg⟩ : ∃ g, g = w.heap.size := ⟨_, rfl⟩
  have HG : Hid (g = w.heap.size) := hg
  rw [← hg] at hconv HR
  clear hR h1 hB1 hg
  go_enter Try.func10, Try.ntmps10
  go_wp2
  go_loopw [4] (fun i u => ∃ p : Nat, i = .int .i64 p ∧ p ≤ s.size ∧ Hid (Rowed g s.size (partC s p) u ∧ Below w.heap.size w u)) (fun i _ => s.size - (intOf i).toNat)
  case atStart => exact ⟨0, rfl, Nat.zero_le _, HR.out.congr (fun j _ => by unfold partC; rw [if_neg (by omega)]), HB1.out⟩
  case round =>
    obtain ⟨p, rfl, hps, HU⟩ := hrel
    by_cases hp : p < s.size
    · have hbd := byteAt_bd s p
      have hlt : (p : Int) < (s.size : Int) := by omega
      have hcell := HU.out.1.cell p hp
      have hthaw := HU.out.1.thaw p hp
      have hpc : partC s p p = byteAt s p := by unfold partC; rw [if_neg (by omega)]
      rw [hpc] at hcell
      clear hpc
      cases hg : largeB (byteAt s p) with
      | true =>
        have HS : Hid (∀ w', Calls Try.prog 18 #[.int .u8 (byteAt s p)] w' fun e w'' => e = .returned (.bool true) ∧ w'' = w') := fun w' => by have := refUp_any (byteAt s p) w'; rwa [hg] at this
        have hb32 : byteAt s p + 32 ≤ 255 := by unfold largeB at hg; simp only [decide_eq_true_eq] at hg; omega
        go_wp2_with (first | (go_at_call 18; refine (HS.out _).mono ?_; rintro e w1 ⟨rfl, hw1⟩; replace hw1 := hw1.symm; subst hw1))
        go_roundw
        case rel => exact ⟨p + 1, by go_num, by omega, (HU.out.1.set p hp _).congr (fun j _ => part_step s p j hg), HU.out.2.setCell (Nat.le_of_eq HG.out.symm) _⟩
        case measure => simp [intOf]; omega
      | false =>
        have HS : Hid (∀ w', Calls Try.prog 18 #[.int .u8 (byteAt s p)] w' fun e w'' => e = .returned (.bool false) ∧ w'' = w') := fun w' => by have := refUp_any (byteAt s p) w'; rwa [hg] at this
        go_wp2_with (first | (go_at_call 18; refine (HS.out _).mono ?_; rintro e w1 ⟨rfl, hw1⟩; replace hw1 := hw1.symm; subst hw1))
        go_roundw
        case rel => exact ⟨p + 1, by go_num, by omega, HU.out.1.congr (fun j _ => part_over s p (p + 1) j (by omega) (fun k h1 h2 => by rw [show k = p by omega]; exact hg)), HU.out.2⟩
        case measure => simp [intOf]; omega
    · have hge : ¬ (p : Int) < (s.size : Int) := by omega
      have hcv := conv_rowed cap (L := (bytesS s).map foldC) (by rw [List.length_map, bytesS_length]) (HU.out.1.congr (fun j hj => part_end s p j (by omega) hj))
      go_wp2
      go_ret
      exact ⟨rfl, HU.out.2⟩
set_option maxHeartbeats 400000 in
theorem less_any (a b : ByteArray) (w : World) : Calls Try.prog 11 #[.string a, .string b] w fun e w' => e = .returned (.bool (Op.bytesLess a.toList b.toList)) ∧ w' = w := by
  go_enter Try.func11, Try.ntmps11
  go_wp2
  go_ret
  exact ⟨rfl, rfl⟩
end Go.Proofs.Ytgmooknbfcdcoaa
