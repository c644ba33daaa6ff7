/-
  slices.Grow of no bytes, slices.Concat of slices of bytes, bytes.Equal.
-/
import Derived.Test.YtakjilbbhodiiaaBytes
import Derived.Lib.AppendZeros
namespace Go.Proofs.Ytakjilbbhodiiaa
open Go.RowKit

set_option maxHeartbeats 1000000 in
theorem grow_none (n : Nat) (w : World) (h0 : 0 < n) (hn : n ≤ 140737488355328) :
    Calls Try.prog 32 #[.slice none 0 0, .int .i64 (n : Int)] w fun e w' => ∃ v, e = .returned v ∧ w'.ownsRow w.heap.size 5 1 v 0 (cellsOf []) ∧ Below w.heap.size w w' := by
  obtain ⟨i0, hi, hz0, hz1, hz2⟩ := info_parts info5
  have r := Lib.run_append_nil_zeros (P := Try.prog) w 22 3 22 5 i0 (.int .u8 0) .i64 .i64 Try.underlying22 Try.underlying3 hi hz0 n h0 (by omega) (by omega) (by rw [hz2]; omega)
  have hge := grownCap_ge w n 0 5
  have hcm := grownCap_le_maxLen w n 0 5 (by unfold maxLen; omega)
  obtain ⟨G, hG⟩ : ∃ G, grownCap w n 0 5 = G := ⟨_, rfl⟩
  rw [hG] at r hge hcm
  obtain ⟨cur, hcur⟩ : ∃ cur, Builtin.zeroCells (Value.int .u8 0).cells n ++ Builtin.zeroCells (Value.int .u8 0).cells (G - n) = cur := ⟨_, rfl⟩
  rw [hcur] at r
  have hsz : cur.size = G := by
    rw [← hcur, Array.size_append, size_zeroCells, size_zeroCells, show (Value.int .u8 0).cells.size = 1 from rfl]
    omega
  have R : Hid (_ = _) := r
  clear r
  go_enter Try.func32, Try.ntmps32
  go_wp2_with (first | (at_builtin; refine wpList_append_run2 rfl (.tmp 20) (.tmp 21) 22 3 rfl _ _ _ rfl rfl R.out ?_))
  go_ret
  refine ⟨_, rfl, ⟨rfl, .inr ⟨w.heap.size, G, cur, rfl, Nat.le_refl _, heap_alloc_new w _, Nat.zero_le _, hcm, by omega, rfl⟩⟩, ((Below.refl _ w).alloc (Nat.le_refl _) _).drew⟩

/-- The first k of bytes, one behind the other. -/
def catTo (Z : Nat → List Int) : Nat → List Int
  | 0 => []
  | k + 1 => catTo Z k ++ Z k
theorem catTo_le (Z : Nat → List Int) (n k : Nat) (h : k ≤ n) : (catTo Z k).length ≤ (catTo Z n).length := by
  induction n with
  | zero => obtain rfl : k = 0 := by omega
            exact Nat.le_refl _
  | succ n ih =>
    by_cases e : k = n + 1
    · rw [e]; exact Nat.le_refl _
    · have := ih (by omega)
      simp only [catTo, List.length_append]
      omega
set_option maxRecDepth 100000 in
set_option maxHeartbeats 2000000 in
/-- slices.Concat of n slices of bytes: all of them, one behind the other, in new memory. -/
theorem concat_any (g n : Nat) (A : Nat → Option Addr) (L C : Nat → Nat) (Z : Nat → List Int) (w : World) (hc : ∀ j, j < n → w.cell? ⟨g, j, none⟩ = some (.slice (A j) (L j) (C j)) ∧ IsBytes w (A j) (L j) (C j) (Z j))
    (hn : n ≤ 1000) (h0 : 0 < (catTo Z n).length) (hbig : (catTo Z n).length ≤ 140737488355328) :
    Calls Try.prog 21 #[.slice (some ⟨g, 0, none⟩) n n] w fun e w' => ∃ v, e = .returned v ∧ w'.ownsRow w.heap.size 5 1 v (catTo Z n).length (cellsOf (catTo Z n)) ∧ Below w.heap.size w w' := by
  obtain ⟨T, hT⟩ : ∃ T, (catTo Z n).length = T := ⟨_, rfl⟩
  have HT : Hid ((catTo Z n).length = T) := hT
  have c1 := grow_none T w (by omega) (by omega)
  have C1 : Hid (Calls Try.prog 32 _ _ _) := c1
  have hle : ∀ k, k ≤ n → (catTo Z k).length ≤ T := fun k hk => by rw [← hT]; exact catTo_le Z n k hk
  have Hle : Hid (∀ k, k ≤ n → (catTo Z k).length ≤ T) := hle
  have HC : Hid (∀ j, j < n → w.cell? ⟨g, j, none⟩ = some (.slice (A j) (L j) (C j)) ∧ IsBytes w (A j) (L j) (C j) (Z j)) := hc
  have hTb : T ≤ 140737488355328 := by omega
  clear c1 hle hc h0 hbig hT
  go_enter Try.func21, Try.ntmps21
  go_wp2
  go_loopw [3, 11] (fun p i wr => ∃ k : Nat, k ≤ n ∧ i = .int .i64 k ∧ p = .int .i64 ((catTo Z k).length : Int) ∧ wr = w) (fun _ i _ => n - (intOf i).toNat)
  case atStart => exact ⟨0, Nat.zero_le _, rfl, rfl, rfl⟩
  case round =>
    obtain ⟨k, hk, rfl, rfl, rfl⟩ := hrel
    obtain ⟨S, hS⟩ : ∃ S, (catTo Z k).length = S := ⟨_, rfl⟩
    rw [hS]
    have hSle := Hle.out k hk
    rw [hS] at hSle
    by_cases hlt : k < n
    · have hck := (HC.out k hlt).1
      have hlk := (HC.out k hlt).2.1
      have hS2 := Hle.out (k + 1) (by omega)
      have hS3 : (catTo Z (k + 1)).length = S + L k := by simp only [catTo, List.length_append]; omega
      rw [hS3] at hS2
      go_wp2
      go_roundw
      case rel => exact ⟨k + 1, by omega, by simp, by rw [hS3]; simp, trivial⟩
      case measure => simp [intOf]; omega
    · obtain rfl : k = n := by omega
      obtain rfl : S = T := hS.symm.trans HT.out
      go_wp2_with (first | (go_at_call 32; refine C1.out.mono ?_; rintro e w1 ⟨v1, rfl, ho1, hB1⟩))
      go_loopw [6, 27] (fun p i wx => ∃ m : Nat, m ≤ k ∧ i = .int .i64 m ∧ wx.ownsRow wr.heap.size 5 1 p (catTo Z m).length (cellsOf (catTo Z m)) ∧ Below wr.heap.size wr wx) (fun _ i _ => k - (intOf i).toNat)
      case atStart => exact ⟨0, Nat.zero_le _, rfl, ho1, hB1⟩
      case round =>
        obtain ⟨m, hm, rfl, hom, hBm⟩ := hrel
        by_cases hml : m < k
        · have hcm := (hBm.cell (World.block_lt_of_cell? _ _ (HC.out m hml).1)).trans (HC.out m hml).1
          have hIm := (HC.out m hml).2.later hBm
          have hlm := hIm.1
          have hS2 := Hle.out (m + 1) (by omega)
          have hS3 : (catTo Z (m + 1)).length = (catTo Z m).length + L m := by simp only [catTo, List.length_append]; omega
          rw [hS3] at hS2
          obtain ⟨v2, w2, r2, o2, g2⟩ := append_in hom hIm hBm.size (by omega)
          have HO2 : Hid (w2.ownsRow _ 5 1 v2 ((catTo Z m).length + L m) (cellsOf (catTo Z m ++ Z m))) := o2
          have HB2 : Hid (Below _ _ w2) := hBm.grown g2 hBm.size (fun j hj => (hom.lt j hj).1)
          have R2 : Hid (_ = _) := r2
          clear hom hIm o2 g2 r2
          go_wp2_with (first | (at_builtin; refine wpList_append_run rfl (.tmp 31) (.tmp 32) 22 rfl _ _ _ rfl rfl R2.out ?_))
          go_roundw
          case rel => exact ⟨m + 1, by omega, by simp, by rw [hS3]; exact HO2.out, HB2.out⟩
          case measure => simp [intOf]; omega
        · obtain rfl : m = k := by omega
          go_wp2
          go_ret
          have e := HT.out
          exact ⟨_, rfl, by rw [← e]; exact hom, hBm⟩
theorem str_list (l : List Int) : (strOf l).toList = l.map fun n => UInt8.ofNat n.toNat := by
  have h : ∀ (l : List Int) (r : ByteArray), (l.foldl (fun r n => r.push (UInt8.ofNat n.toNat)) r).data.toList = r.data.toList ++ l.map fun n => UInt8.ofNat n.toNat := by
    intro l
    induction l with
    | nil => intro r; simp
    | cons x l ih => intro r; rw [List.foldl_cons, ih]; cases r; simp [ByteArray.push]
  rw [ByteArray.toList_eq, strOf, h]
  rfl
/-- Two strings are the same just where the bytes are. -/
theorem str_same (zs ys : List Int) (hz : ∀ c ∈ zs, 0 ≤ c ∧ c ≤ 255) (hy : ∀ c ∈ ys, 0 ≤ c ∧ c ≤ 255) : ((strOf zs).toList == (strOf ys).toList) = decide (zs = ys) := by
  have back : ∀ l : List Int, (∀ c ∈ l, 0 ≤ c ∧ c ≤ 255) → ((strOf l).toList.map fun b => (b.toNat : Int)) = l := by
    intro l hl
    rw [str_list, List.map_map]
    apply List.ext_getElem (by simp)
    intro i h1 h2
    have := hl l[i] (List.getElem_mem h2)
    simp
    omega
  by_cases h : zs = ys
  · subst h; simp
  · rw [decide_eq_false h]
    cases hb : ((strOf zs).toList == (strOf ys).toList) with
    | false => rfl
    | true =>
      have e := congrArg (List.map fun b : UInt8 => (b.toNat : Int)) (eq_of_beq hb)
      rw [back zs hz, back ys hy] at e
      exact absurd e h
set_option maxHeartbeats 400000 in
/-- bytes.Equal: the same bytes. -/
theorem equal_any (a0 a1 : Option Addr) (len0 cap0 len1 cap1 : Nat) (zs ys : List Int) (w : World) (hz : IsBytes w a0 len0 cap0 zs) (hy : IsBytes w a1 len1 cap1 ys) :
    Calls Try.prog 25 #[.slice a0 len0 cap0, .slice a1 len1 cap1] w fun e w' => e = .returned (.bool (decide (zs = ys))) ∧ w' = w := by
  have r0 := conv_in hz
  have r1 := conv_in hy
  have he := str_same zs ys (mem_bd hz.2.2.2.2.1) (mem_bd hy.2.2.2.2.1)
  clear hz hy
  go_enter Try.func25, Try.ntmps25
  go_wp2
  go_ret
  exact ⟨rfl, rfl⟩
end Go.Proofs.Ytakjilbbhodiiaa
