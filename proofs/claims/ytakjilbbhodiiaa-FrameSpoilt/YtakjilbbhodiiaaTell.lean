/-
  How the program tells sums: the bits that 'bits' goes through, the closure of 'teller', More, Sum.
-/
import Derived.Test.YtakjilbbhodiiaaCrc
import Derived.Test.YtakjilbbhodiiaaBytes
import Derived.RangeFuncNested
import Derived.RangeFuncBound
import Derived.RangeFuncCalls
import Derived.RangeFuncLeaves
import Derived.Shelf.Abstract
import Derived.Shelf.RegionOpen
import Derived.WalkKit
import Derived.OwnWalkIn
import Derived.TacticsInMore
import Derived.LoopNIn
import Derived.LoopIn
import Derived.Laws.BitsAllLaws
namespace Go.Proofs.Ytakjilbbhodiiaa
open Go.RowKit Go.Shelf
attribute [local go_sem] Oper.semAt_some

/-- Nothing below n₀ turns but block h. -/
structure Kept (n₀ h : Nat) (w w' : World) : Prop where
  os : w'.os = w.os
  tape : w'.tape = w.tape
  output : w'.output = w.output
  size : w.heap.size ≤ w'.heap.size
  block : ∀ k, k < n₀ → k ≠ h → w'.heap[k]? = w.heap[k]?
theorem Kept.refl (n₀ h : Nat) (w : World) : Kept n₀ h w w := ⟨rfl, rfl, rfl, Nat.le_refl _, fun _ _ _ => rfl⟩
theorem Kept.trans {n₀ h : Nat} {a b c : World} (x : Kept n₀ h a b) (y : Kept n₀ h b c) : Kept n₀ h a c :=
  ⟨y.os.trans x.os, y.tape.trans x.tape, y.output.trans x.output, Nat.le_trans x.size y.size, fun k hk hn => (y.block k hk hn).trans (x.block k hk hn)⟩
theorem Kept.mono {n₀ n₁ h : Nat} {a b : World} (x : Kept n₀ h a b) (hn : n₁ ≤ n₀) : Kept n₁ h a b := ⟨x.os, x.tape, x.output, x.size, fun k hk hh => x.block k (by omega) hh⟩
theorem Kept.of {n₀ h : Nat} {a b : World} (x : Below n₀ a b) : Kept n₀ h a b := ⟨x.os, x.tape, x.output, x.size, fun k hk _ => x.block k hk⟩
theorem Kept.grown {n₀ h : Nat} {a b c : World} {row : Option Nat} (x : Kept n₀ h a b) (hg : b.grownBy c row) (hn : n₀ ≤ b.heap.size) (hr : ∀ k, row = some k → n₀ ≤ k) : Kept n₀ h a c :=
  ⟨hg.os.trans x.os, hg.tape.trans x.tape, hg.output.trans x.output, Nat.le_trans x.size hg.size, fun k hk hh => (hg.block k (by omega) (fun e => by have := hr k e.symm; omega)).trans (x.block k hk hh)⟩
theorem Kept.setCell {n₀ h : Nat} {a b : World} (x : Kept n₀ h a b) (u : Value) : Kept n₀ h a (b.setCell ⟨h, 0, none⟩ u) :=
  ⟨x.os, x.tape, x.output, by have := x.size; simp [World.setCell]; omega, fun k hk hh => (Below.heap_setCell _ _ _ _ hh).trans (x.block k hk hh)⟩
theorem Kept.putObj {n₀ h : Nat} {w : World} (hn : n₀ ≤ w.heap.size) (W : World) (l : Nat) (o o' : Obj) (hl : w.heap.size ≤ l) (hW : W.heap[l]? = some o) (_ : o.isCells = false) (_ : o.isWalk = false) : Kept n₀ h W (W.putObj l o') :=
  (Kept.refl n₀ h W).grown (grownBy_putObj' W l o') (by have := (Array.getElem?_eq_some_iff.1 hW).1; omega) (fun k e => by cases e; omega)
theorem Kept.own {β : Type} {n₀ h B : Nat} {w₀ : World} (hn : n₀ ≤ w₀.heap.size) (hB : n₀ ≤ B) : OwnFrom B (fun (_ : β) W => Kept n₀ h w₀ W) :=
  fun _ _ _ _ hs hg hr => hs.grown hg (Nat.le_trans hn hs.size) (fun k e => Nat.le_trans hB (hr k e).1)
theorem Kept.cell {n₀ h : Nat} {w w' : World} (x : Kept n₀ h w w') {p : Addr} (hp : p.block < n₀) (hh : p.block ≠ h) : w'.cell? p = w.cell? p := World.cell?_of_block (w := w) (x.block p.block hp hh)

theorem and_one_u32 (x : Int) (h0 : 0 ≤ x) (h1 : x < 4294967296) : bits .and .u32 x 1 = x % 2 := by
  rw [u32_and x 1 h0 h1 (by omega) (by omega), show (1 : Int).toNat = 1 from rfl, Nat.and_one_is_mod]
  omega
theorem bit_walk (zs : List Int) (k q : Nat) (hq : q < 8) (hz : 0 ≤ zs[k]?.getD 0 ∧ zs[k]?.getD 0 ≤ 255) :
    bits .and .u32 (zs[k]?.getD 0 / 2 ^ q % 4294967296) 1 = bitI (bitZ zs (8 * k + q)) := by
  obtain ⟨m, hm⟩ := Int.eq_ofNat_of_zero_le hz.1
  have e : (m : Int) / 2 ^ q = ((m / 2 ^ q : Nat) : Int) := by simp
  have hl : m / 2 ^ q ≤ m := Nat.div_le_self _ _
  unfold bitZ bitI
  rw [show (8 * k + q) / 8 = k by omega, show (8 * k + q) % 8 = q by omega, hm, e, and_one_u32 _ (by omega) (by omega), Int.toNat_natCast]
  by_cases hb : m / 2 ^ q % 2 = 1
  · simp [hb]; omega
  · have : m / 2 ^ q % 2 = 0 := by omega
    simp [this]; omega

set_option maxRecDepth 100000 in
set_option maxHeartbeats 2000000 in
/-- The bits of bytes, one by one, for every body that keeps all but block h. -/
theorem bits1_in (F : Fence) (n : Nat) (hf : F.fn 35) (hro : F.round = none) (hn : 1 ≤ n) (l Bs n₀ h b off len cap : Nat) (zs : List Int) (hreach : len ≤ 140737488351232) (hb : b < n₀) (hbh : b ≠ h) (hz : ∀ j : Nat, 0 ≤ zs[j]?.getD 0 ∧ zs[j]?.getD 0 ≤ 255) (J Jx : List Bool → World → Prop)
    (hY : ∀ pre x W, J pre W → pre.length < 8 * len → YieldAt F (n - 1) Try.prog l #[.int .u32 (bitI x)] W fun e W' =>
      (e = .returned (.bool true) ∧ J (pre ++ [x]) W' ∧ Kept n₀ h W W') ∨ (e = .returned (.bool false) ∧ Jx (pre ++ [x]) W'))
    (W : World) (hBs : W.cell? ⟨Bs, 0, none⟩ = some (.slice (some ⟨b, off, none⟩) len cap)) (hc : ∀ j, j < len → W.cell? ⟨b, off + j, none⟩ = some (.int .u8 (zs[j]?.getD 0))) (h0 : J [] W) :
    CallsIn F n Try.prog 35 #[.func (.yield l) #[] #[], .pointer (some ⟨Bs, 0, none⟩)] W fun e W' => (∃ v, e = .returned v) ∧
      ((∃ ys, ys = bitsTo zs (8 * len) ∧ J ys W') ∨ (∃ pre, True ∧ Jx pre W')) := by
  refine callsIn_of_wp Try.func35 rfl hf ?_ hro
  simp only [Try.ntmps35, List.size_toArray, List.length_cons, List.length_nil, Nat.reduceAdd, Nat.reduceSub, Array.replicate_succ, Array.replicate_zero, List.push_toArray, List.append_toArray, List.nil_append, List.cons_append]
  gi_wp2
  gi_loopw [8] (fun i wr => ∃ k : Nat, k ≤ len ∧ i = .int .i64 k ∧ J (bitsTo zs (8 * k)) wr ∧ Kept n₀ h W wr)
    (fun i _ => len - (intOf i).toNat)
  case atStart => exact ⟨0, Nat.zero_le _, rfl, h0, Kept.refl _ _ _⟩
  case round =>
    obtain ⟨k, hk, rfl, hJs, hnx⟩ := hrel
    by_cases hlt : k < len
    · have hcx : wr.cell? ⟨b, off + k, none⟩ = some (.int .u8 (zs[k]?.getD 0)) := (hnx.cell (p := ⟨b, off + k, none⟩) hb hbh).trans (hc k hlt)
      have hzk := hz k
      gi_wp2
      gi_loopw [12] (fun i wi => ∃ q : Nat, q ≤ 8 ∧ i = .int .i64 q ∧ J (bitsTo zs (8 * k + q)) wi ∧ Kept n₀ h W wi)
        (fun i _ => 8 - (intOf i).toNat)
      case atStart => exact ⟨0, Nat.zero_le _, rfl, hJs, hnx⟩
      case round =>
        obtain ⟨q, hq, rfl, hJq, hnq⟩ := hrel
        by_cases hql : q < 8
        · obtain ⟨fn, tmps, assign, body, hy, hR⟩ := hY _ (bitZ zs (8 * k + q)) _ hJq (by rw [bitsTo_length]; omega)
          have hbit := bit_walk zs k q hql hzk
          gi_wp2
          refine hR.mono ?_
          rintro e W3 (⟨rfl, hJ3, hk3⟩ | ⟨rfl, hJx3⟩)
          · gi_wp2
            go_roundw
            case rel => exact ⟨q + 1, by omega, by simp, by rw [show 8 * k + (q + 1) = 8 * k + q + 1 by omega, bitsTo_succ]; exact hJ3, hnq.trans hk3⟩
            case measure => simp [intOf]; omega
          · gi_wp2
            refine bodyPost_ret (results_none rfl _ _ _) rfl ?_
            exact ⟨⟨_, rfl⟩, .inr ⟨_, trivial, hJx3⟩⟩
        · obtain rfl : q = 8 := by omega
          gi_wp2
          go_roundw
          case rel => exact ⟨k + 1, by omega, by simp, by rw [show 8 * (k + 1) = 8 * k + 8 by omega]; exact hJq, hnq⟩
          case measure => simp [intOf]; omega
    · obtain rfl : k = len := by omega
      gi_wp2
      go_end0
      exact ⟨⟨_, rfl⟩, .inl ⟨_, rfl, hJs⟩⟩

set_option maxRecDepth 100000 in
set_option maxHeartbeats 1000000 in
/-- No bytes, no bits. -/
theorem bits1_nil_in (F : Fence) (n : Nat) (hf : F.fn 35) (hro : F.round = none) (l Bs cap : Nat) (a : Option Addr) (J : List Bool → World → Prop) (W : World) (hBs : W.cell? ⟨Bs, 0, none⟩ = some (.slice a 0 cap)) (h0 : J [] W) :
    CallsIn F n Try.prog 35 #[.func (.yield l) #[] #[], .pointer (some ⟨Bs, 0, none⟩)] W fun e W' => (∃ v, e = .returned v) ∧ J [] W' := by
  refine callsIn_of_wp Try.func35 rfl hf ?_ hro
  simp only [Try.ntmps35, List.size_toArray, List.length_cons, List.length_nil, Nat.reduceAdd, Nat.reduceSub, Array.replicate_succ, Array.replicate_zero, List.push_toArray, List.append_toArray, List.nil_append, List.cons_append]
  gi_wp2
  gi_loopw [8] (fun i wr => i = .int .i64 0 ∧ J [] wr) (fun _ _ => 0)
  case atStart => exact ⟨rfl, h0⟩
  case round =>
    obtain ⟨rfl, hJs⟩ := hrel
    gi_wp2
    go_end0
    exact ⟨⟨_, rfl⟩, hJs⟩

set_option maxHeartbeats 1000000 in
theorem bits_in (F : Fence) (n : Nat) (hf : F.fn 31) (hro : F.round = none) (a : Option Addr) (len cap : Nat) (w : World) :
    CallsIn F n Try.prog 31 #[.slice a len cap] w fun e w' => e = .returned (.func (.func 35) #[] #[.pointer (some ⟨w.heap.size, 0, none⟩)]) ∧ w' = w.alloc (.cells #[.slice a len cap] 22) := by
  refine callsIn_of_wp Try.func31 rfl hf ?_ hro
  simp only [Try.ntmps31, List.size_toArray, List.length_cons, List.length_nil, Nat.reduceAdd, Nat.reduceSub, Array.replicate_succ, Array.replicate_zero, List.push_toArray, List.append_toArray, List.nil_append, List.cons_append]
  gi_wp2
  go_ret
  exact ⟨rfl, rfl⟩

/-- What 'bits' goes through. -/
theorem bits_stops (F : Fence) (n : Nat) (hf : F.fn 35) (hro : F.round = none) (hn : 1 ≤ n) (Bs h : Nat) (a : Option Addr) (len cap : Nat) (zs : List Int) (w : World) (hBs : Bs < w.heap.size) (hreach : len ≤ 140737488351232)
    (hc : w.cell? ⟨Bs, 0, none⟩ = some (.slice a len cap)) (hI : IsBytes w a len cap zs) (hh : ∀ b off, a = some ⟨b, off, none⟩ → 0 < len → b ≠ h) :
    SeqStopsK F n Try.prog 35 #[.pointer (some ⟨Bs, 0, none⟩)] (fun x : Bool => #[Value.int .u32 (bitI x)]) (Kept w.heap.size h) (fun ys => ys = bitsOf zs) (fun _ => True) (8 * len) w := fun l J Jx W hW _ _ hY h0 => by
  have hc' := (hW.cell (p := ⟨Bs, 0, none⟩) hBs).trans hc
  have hl := hI.1
  by_cases hz : len = 0
  · subst hz
    have : zs = [] := List.eq_nil_of_length_eq_zero hl
    subst this
    exact (bits1_nil_in F n hf hro l Bs cap a J W hc' h0).mono fun e W' ⟨he, hj⟩ => ⟨he, .inl ⟨_, rfl, hj⟩⟩
  · obtain ⟨b, off, rfl, hcell⟩ := hI.2.2.2.2.2 (by omega)
    have hb : b < w.heap.size := World.block_lt_of_cell? w _ (hcell 0 (by omega))
    refine (bits1_in F n hf hro hn l Bs w.heap.size h b off len cap zs hreach hb (hh b off rfl (by omega)) hI.2.2.2.2.1 J Jx hY W hc' (fun j hj => (hW.cell (p := ⟨b, off + j, none⟩) hb).trans (hcell j hj)) h0).mono ?_
    rintro e W' ⟨he, ⟨ys, rfl, hj⟩ | ⟨pre, _, hj⟩⟩
    · exact ⟨he, .inl ⟨_, by rw [bitsOf, hl], hj⟩⟩
    · exact ⟨he, .inr ⟨_, trivial, hj⟩⟩
end Go.Proofs.Ytakjilbbhodiiaa
