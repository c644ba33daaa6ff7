/-
  What vint.Put makes, at every slice of bytes (nil too) and every number: a new row that holds the slice's bytes and behind them the number's.
-/
import Derived.Test.YtjnkplmcopihbaaGetAny
import Derived.Test.YtjnkplmcopihbaaEnc
import Derived.Laws.CopyOwn
import Derived.Laws.AppendOwn
import Derived.OwnWalk
namespace Go.Proofs.Ytjnkplmcopihbaa
open Go.RowKit

/-- Bytes as cells. -/
def cellsOf (l : List Int) : List Value := l.map (Value.int .u8)
theorem cellsOf_append (a b : List Int) : cellsOf (a ++ b) = cellsOf a ++ cellsOf b := by simp [cellsOf]
theorem cellsOf_length (a : List Int) : (cellsOf a).length = a.length := by simp [cellsOf]
theorem info5 : (Try.prog.info? 5).map (fun i => (i.zero, i.size, i.bytes)) = some (some (.int .u8 0), 1, 1) := by kernel_rfl
theorem size5 : (Try.prog.info? 5).map (·.size) = some 1 := by kernel_rfl
/-- What is put into an append of one byte. -/
theorem byte_last (m : Nat) (h : m < 128) : IntKind.u8.wrap (m : Int) = (m : Int) := by
  rw [IntKind.wrap_u8']; omega
theorem byte_more (m : Nat) : bits .or .u8 ((m : Int) % 256) 128 = ((m % 128 + 128 : Nat) : Int) := by
  rw [u8_or _ 128 (by omega) (by omega) (by omega) (by omega), show (128 : Int).toNat = 128 from rfl]
  have e : ((m : Int) % 256).toNat = m % 256 := by omega
  rw [e]
  have e2 := nat_join 7 128 (m % 128) (by omega) (by omega)
  have e3 : m % 256 ||| 128 = m % 128 + 128 := by
    by_cases hp : m % 256 < 128
    · rw [Nat.or_comm, show m % 256 = m % 128 by omega, e2]; omega
    · have e4 : m % 256 = 128 ||| (m % 128) := by rw [e2]; omega
      calc m % 256 ||| 128 = (128 ||| (m % 128)) ||| 128 := by rw [← e4]
        _ = (128 ||| 128) ||| (m % 128) := by rw [Nat.or_assoc, Nat.or_comm (m % 128), ← Nat.or_assoc]
        _ = m % 128 + 128 := by rw [Nat.or_self, e2]; omega
  rw [e3]

theorem addr_add (b off j : Nat) : (⟨b, off, none⟩ : Addr).add j = ⟨b, off + j, none⟩ := by
  unfold Addr.add; split <;> simp_all
/-- 'copy' into the row that was just made. -/
theorem copy_in (a : Option Addr) (len cap s : Nat) (zs : List Int) (L : List Value) (w : World) (h : IsBytes w a len cap zs) (hL : L.length = len + s) (hm : len + s ≤ maxLen) :
    ∃ w2, (Builtin.copy_ #[53, 53] 3 #[.slice (some ⟨w.heap.size, 0, none⟩) len (len + s), .slice a len cap]).run Try.prog (w.alloc (.cells L.toArray 5)) = .ok (.int .i64 (len : Int)) w2 ∧
      w2.ownsRow w.heap.size 5 1 (.slice (some ⟨w.heap.size, 0, none⟩) len (len + s)) len (cellsOf zs) ∧ Below w.heap.size w w2 ∧ w.heap.size < w2.heap.size := by
  obtain ⟨hl, hcap, hmax, _, hb, hc⟩ := h
  have hB : Below w.heap.size w (w.alloc (.cells L.toArray 5)) := (Below.refl _ _).alloc (Nat.le_refl _) _
  have hnew := heap_alloc_new w (.cells L.toArray 5)
  by_cases h0 : len = 0
  · subst h0
    have hz : zs = [] := List.eq_nil_of_length_eq_zero hl
    refine ⟨_, run_copy_none (P := Try.prog) _ 53 53 3 5 _ _ 0 _ 0 _ Try.underlying53 size5 (by simp), ⟨by simp [hz, cellsOf], .inr ⟨w.heap.size, 0 + s, L.toArray, rfl, Nat.le_refl _, hnew, by omega, by omega, by simp [hL], by simp [hz, cellsOf]⟩⟩, hB, by simp⟩
  · obtain ⟨b, off, rfl, hcell⟩ := hc (by omega)
    have hlen : (cellsOf zs).length = len := by rw [cellsOf_length, hl]
    have r := run_copy_row (P := Try.prog) (w.alloc (.cells L.toArray 5)) 53 53 3 5 w.heap.size 0 len (len + s) ⟨b, off, none⟩ len cap L.toArray 5 (cellsOf zs) Try.underlying53 size5 hnew (by rw [hlen]; simp)
      (by
        intro j v hj
        have hjl : j < len := by
          have := (List.getElem?_eq_some_iff.1 hj).1
          omega
        have hcj := hcell j hjl
        rw [addr_add]
        have hblk : b < w.heap.size := World.block_lt_of_cell? w _ hcj
        have e1 : (w.alloc (.cells L.toArray 5)).cell? ⟨b, off + j, none⟩ = w.cell? ⟨b, off + j, none⟩ := hB.cell (p := ⟨b, off + j, none⟩) hblk
        rw [e1, hcj]
        have hj' : j < zs.length := by omega
        simp [cellsOf, hj'] at hj
        simp [hj', hj])
      (by rw [hlen]; simp; omega) (ints_oneCell .u8 zs)
    rw [hlen] at r
    refine ⟨_, r, ⟨by rw [hlen]; omega, .inr ⟨w.heap.size, len + s, _, rfl, Nat.le_refl _, setRow_heap _ _ _ _ _ _ hnew, by omega, by omega, ?_, ?_⟩⟩, below_setRow hB (Nat.le_refl _) _, ?_⟩
    · simp [hlen, hL]
    · simp [hlen]
    · simp [World.setRow]

theorem ret_sl {g k k' c : Nat} (h : k = k') : Ending.returned (.slice (some ⟨g, 0, none⟩) k c) = .returned (.slice (some ⟨g, 0, none⟩) k' c) := by rw [h]

set_option maxHeartbeats 1000000 in
/-- Put answers a new row, the heap's next block. -/
theorem put_any (a : Option Addr) (len cap : Nat) (zs : List Int) (n : Nat) (w : World) (h : IsBytes w a len cap zs) (hreach : cap ≤ 140737488351232) (hn : n < 18446744073709551616) :
    Calls Try.prog 41 #[.slice a len cap, .int .u64 n] w fun e w' =>
      e = .returned (.slice (some ⟨w.heap.size, 0, none⟩) (len + sz 10 n) (len + sz 10 n)) ∧
      w'.ownsRow w.heap.size 5 1 (.slice (some ⟨w.heap.size, 0, none⟩) (len + sz 10 n) (len + sz 10 n)) (len + sz 10 n) (cellsOf (zs ++ enc 10 n)) ∧ Below w.heap.size w w' := by
  have hl := h.1
  have hcap := h.2.1
  have cs := size_any n
  simp only [Int.toNat_natCast] at cs
  have hs10 := sz_le 10 n
  have he := enc_length 10 n
  obtain ⟨s, hs⟩ : ∃ s, s = sz 10 n := ⟨_, rfl⟩
  rw [← hs] at cs hs10 he ⊢
  clear hs
  obtain ⟨i0, hi, hz0, hz1, hz2⟩ := info_parts info5
  obtain ⟨L, hLl, hmk⟩ : ∃ L : List Value, L.length = len + s ∧ ∀ w : World, (Instr.makeSlice 53 (.int .i64 (len : Int)) (.int .i64 ((len : Int) + (s : Int)))).run Try.prog w = .ok (.slice (some ⟨w.heap.size, 0, none⟩) len (len + s)) (w.alloc (.cells L.toArray 5)) := by
    refine ⟨(madeCells (Value.int .u8 0).cells (((len : Int) + (s : Int)).toNat * i0.size)).toList, ?_, fun w => ?_⟩
    · rw [Array.length_toList, size_madeCells, hz1]; omega
    · have r := run_make (P := Try.prog) w 53 5 i0 (.int .u8 0) Try.underlying53 hi hz0 .i64 .i64 len ((len : Int) + (s : Int)) (by omega) (by omega) (by rw [hz2]; omega) (by omega)
      rw [r, Int.toNat_natCast, show ((len : Int) + (s : Int)).toNat = len + s by omega]
  obtain ⟨w2, hcp, hown2, hB2, hsz2⟩ := copy_in a len cap s zs L w h hLl (by unfold maxLen; omega)
  have CS : Hid (∀ w, 0 ≤ (n : Int) → (n : Int) < 18446744073709551616 → _) := cs
  have HE : Hid ((enc 10 n).length = s) := he
  clear cs h he
  go_enter Try.func41, Try.ntmps41
  go_wp2_with (go_at_call 46; refine (CS.out _ (by omega) (by omega)).mono ?_; rintro e w1 ⟨rfl, hw1⟩; replace hw1 := hw1.symm; subst hw1)
  clear hcp hmk
  go_loopw [1, 5] (fun nv out wr => ∃ (f m : Nat) (pre : List Int), nv = .int .u64 m ∧ out = .slice (some ⟨w.heap.size, 0, none⟩) (len + pre.length) (len + s) ∧ m < 128 ^ (f + 1) ∧ m ≤ n ∧ Hid (pre ++ enc (f + 1) m = enc 10 n) ∧
    wr.ownsRow w.heap.size 5 1 (.slice (some ⟨w.heap.size, 0, none⟩) (len + pre.length) (len + s)) (len + pre.length) (cellsOf (zs ++ pre)) ∧ Below w.heap.size w wr ∧ w.heap.size < wr.heap.size) (fun nv _ _ => (intOf nv).toNat)
  case atStart => exact ⟨9, n, [], rfl, rfl, Nat.lt_of_lt_of_le hn (by decide), Nat.le_refl _, rfl, by simpa using hown2, hB2, hsz2⟩
  case round =>
    obtain ⟨f, m, pre, rfl, rfl, hf, hmn, HP, hown, hB, hsz⟩ := hrel
    have hpl : pre.length + sz (f + 1) m = s := by
      have h1 := congrArg List.length HP.out
      rw [List.length_append, enc_length, HE.out] at h1
      exact h1
    have hsp := sz_pos f m
    by_cases hm : m < 128
    · have hm' : ¬ (128 : Int) ≤ (m : Int) := by omega
      have hbyte := byte_last m hm
      have hs1 : sz (f + 1) m = 1 := by simp [sz, hm]
      have HP2 : Hid (zs ++ pre ++ [(m : Int)] = zs ++ enc 10 n) := by show _ = _; rw [← HP.out, enc_last f m hm, List.append_assoc]
      go_wp2_with (first
        | (at_builtin; refine wpList_append_fits _ rfl (.tmp 27) (.tmp 30) 53 rfl w.heap.size 5 i0 1 Try.underlying53 hi hz1 w.heap.size (len + pre.length) (len + s) _ rfl (hown.alloc _) ⟨wr.heap.size, 0, none⟩ 1 1 (cellsOf [(m : Int)]) rfl rfl (cell_one_new _ _ _) (ints_oneCell .u8 [(m : Int)]) (by omega) ?_; intro w4 hown4 hgrow4))
      go_ret
      have hq : len + pre.length + 1 = len + s := by omega
      rw [hq, ← cellsOf_append, HP2.out] at hown4
      refine ⟨ret_sl hq, hown4, (hB.alloc (by omega) _).grown hgrow4 (by simp; omega) ?_⟩
      intro k hk
      cases hk
      exact Nat.le_refl _
    · have hm' : (128 : Int) ≤ (m : Int) := by omega
      obtain ⟨f', rfl, hf'⟩ := pow_drop f m hf (by omega)
      obtain ⟨c, hbyte, hcm⟩ : ∃ c : Int, bits .or .u8 ((m : Int) % 256) 128 = c ∧ Hid (c = ((m % 128 + 128 : Nat) : Int)) := ⟨_, rfl, byte_more m⟩
      have HP2 : Hid (pre ++ [c] ++ enc (f' + 1) (m / 128) = enc 10 n) := by show _ = _; rw [← HP.out, enc_more (f' + 1) m (by omega), hcm.out]; simp
      have hs1 : sz (f' + 1 + 1) m = 1 + sz (f' + 1) (m / 128) := by rw [show sz (f' + 1 + 1) m = if m < 128 then 1 else 1 + sz (f' + 1) (m / 128) from rfl, if_neg hm]
      go_wp2_with (first
        | (at_builtin; refine wpList_append_fits _ rfl (.tmp 19) (.tmp 23) 53 rfl w.heap.size 5 i0 1 Try.underlying53 hi hz1 w.heap.size (len + pre.length) (len + s) _ rfl (hown.alloc _) ⟨wr.heap.size, 0, none⟩ 1 1 (cellsOf [c]) rfl rfl (cell_one_new _ _ _) (ints_oneCell .u8 [c]) (by omega) ?_; intro w4 hown4 hgrow4)
        | (go_at_call 47; refine (moved7 _ _).mono ?_; rintro e w5 ⟨rfl, hw5⟩; replace hw5 := hw5.symm; subst hw5))
      have hq : len + pre.length + 1 = len + (pre ++ [c]).length := by simp; omega
      rw [hq, ← cellsOf_append, List.append_assoc] at hown4
      have hB4 : Below w.heap.size w w4 := by
        refine (hB.alloc (by omega) _).grown hgrow4 (by simp; omega) ?_
        intro k hk
        cases hk
        exact Nat.le_refl _
      have hsz4 : w.heap.size < w4.heap.size := by
        have := hgrow4.size
        simp at this
        omega
      go_roundw
      case rel => exact ⟨f', m / 128, pre ++ [c], by go_num, by rw [hq], hf', by omega, HP2, hown4, hB4, hsz4⟩
      case measure => simp [intOf]; omega
end Go.Proofs.Ytjnkplmcopihbaa
