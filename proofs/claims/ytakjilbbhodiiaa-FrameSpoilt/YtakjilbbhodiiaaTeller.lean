/-
  The closure that tells sums; More and Sum.
-/
import Derived.Test.YtakjilbbhodiiaaTell
import Derived.RangeFuncBox
namespace Go.Proofs.Ytakjilbbhodiiaa
open Go.RowKit Go.Shelf
attribute [local go_sem] Oper.semAt_some

theorem turn_walk (s : Nat) (x : Bool) (hs : s < 4294967296) : bits .xor .u32 (bits .and .u32 (s : Int) 1) (bitI x) = bitI ((s % 2 == 1) != x) := by
  rw [and_one_u32 _ (by omega) (by omega)]
  have e : (s : Int) % 2 = ((s % 2 : Nat) : Int) := by omega
  rw [e]
  rcases Nat.mod_two_eq_zero_or_one s with h | h <;> rw [h] <;> cases x <;> decide
theorem down_walk (s : Nat) (hs : s < 4294967296) : bits .xor .u32 ((s : Int) / 2) 3988292384 = ((s / 2 ^^^ 3988292384 : Nat) : Int) := by
  have e : (s : Int) / 2 = ((s / 2 : Nat) : Int) := by omega
  rw [e]
  exact u32_xor_nat (s / 2) 3988292384 (by omega) (by omega)
theorem ones_walk (s : Nat) (hs : s < 4294967296) : bits .xor .u32 (s : Int) 4294967295 = ((s ^^^ 4294967295 : Nat) : Int) := u32_xor_nat s 4294967295 hs (by omega)

set_option maxRecDepth 100000 in
set_option maxHeartbeats 2000000 in
/-- The closure: it feeds the bytes to the sum that it holds. -/
theorem told_in (F : Fence) (n : Nat) (h30 : F.fn 30) (h31 : F.fn 31) (h35 : F.fn 35) (hro : F.round = none) (hn : 3 ≤ n) (Bs s : Nat) (a : Option Addr) (len cap : Nat) (zs : List Int) (w : World) (hreach : len ≤ 140737488351232)
    (hI : IsBytes w a len cap zs) (hs : s < 4294967296) (hbox : Boxed w Bs 23 (.int .u32 (s : Int))) :
    CallsIn F n Try.prog 30 #[.slice a len cap, .pointer (some ⟨Bs, 0, none⟩)] w fun e w' => e = .returned (.int .u32 ((feed s zs ^^^ 4294967295 : Nat) : Int)) ∧
      Boxed w' Bs 23 (.int .u32 (feed s zs : Int)) ∧ Kept w.heap.size Bs w w' := by
  have h1 : 1 ≤ n := by omega
  have hne : ∀ b off, a = some ⟨b, off, none⟩ → 0 < len → b ≠ Bs := by
    rintro b off rfl h0 rfl
    obtain ⟨b', off', e, hcell⟩ := hI.2.2.2.2.2 h0
    cases e
    have h2 := hcell 0 h0
    simp [World.cell?, show w.heap[b]? = _ from hbox] at h2
    cases off with
    | zero => simp at h2
    | succ o => simp at h2
  refine callsIn_of_wp_marks Try.func30 rfl h30 ?_ hro
  simp only [Try.ntmps30, List.size_toArray, List.length_cons, List.length_nil, Nat.reduceAdd, Nat.reduceSub, Array.replicate_succ, Array.replicate_zero, List.push_toArray, List.append_toArray, List.nil_append, List.cons_append]
  gi_wp2_with (gi_at_call 31; refine (bits_in F (n - 1) h31 hro _ _ _ _).mono ?_; rintro e w' ⟨rfl, rfl⟩)
  have hb := (Boxed.new w 22 (.slice a len cap)).cell
  have hB0 : Below w.heap.size w (w.alloc (.cells #[.slice a len cap] 22)) := (Below.refl _ w).alloc (Nat.le_refl _) _
  refine wpIn_rangeFunc_ownF hro h1 (gf := 35) (lb := #[.pointer (some ⟨w.heap.size, 0, none⟩)]) rfl h35 (enters_of Try.func35 (by kernel_rfl) rfl)
    (bits_stops F (n - 1) h35 hro (by omega) w.heap.size Bs a len cap zs _ (by simp) hreach hb (hI.later hB0) hne) (fun x y => x.trans y) (Kept.putObj (Nat.le_refl _)) (Below.refl _ _) (fun _ => rfl)
    (fun pre W => Boxed W Bs 23 (.int .u32 (run s pre : Int)) ∧ Kept w.heap.size Bs w W)
    (fun _ _ _ => False)
    (OwnFrom.and (Own.from (boxed_own _ _ _) _) (Kept.own (Nat.le_refl _) (by simp)))
    (fun _ _ _ _ _ hs _ _ => hs)
    ⟨hbox.alloc _, Kept.of hB0⟩
    (fun x => { tmps := #[.slice a len cap, .pointer (some ⟨Bs, 0, none⟩), undef, .int .u32 0, .int .u32 (bitI x), undef, .slice a len cap, .func (.func 35) #[] #[.pointer (some ⟨w.heap.size, 0, none⟩)], .int .u32 (bitI x), undef, undef, undef, undef, undef, undef, undef, undef, undef, undef, undef, undef], defers := [] }) ?assign ?body ?done ?stop
  case assign =>
    intro l x W K hK
    gi_wp2
    exact hK
  case body =>
    rintro l pre x W ⟨hbW, hkW⟩ _
    obtain ⟨S, hS⟩ : ∃ S, run s pre = S := ⟨_, rfl⟩
    have hSlt : S < 4294967296 := by rw [← hS]; exact run_lt _ _ hs
    have hnew : run s (pre ++ [x]) = step S x := by rw [run_snoc, hS]
    rw [hS] at hbW
    have hcW := hbW.cell
    have hfW := hbW.frozen
    have ht := turn_walk S x hSlt
    have hd := down_walk S hSlt
    gi_wp2
    · rename_i hx
      have hst : step S x = S / 2 ^^^ 3988292384 := by
        unfold step
        rw [if_pos]
        cases hv : (S % 2 == 1) != x with
        | true => rfl
        | false => rw [hv] at hx; exact absurd hx (by decide)
      have b2 := (hbW.set (.int .u32 ((S : Int) / 2))).set (.int .u32 ((S / 2 ^^^ 3988292384 : Nat) : Int))
      exact ⟨(KeepsOthers.setCell _ _ _).trans (KeepsOthers.setCell _ _ _), ((Kept.refl _ _ _).setCell _).setCell _, by rw [hnew, hst]; exact b2, (hkW.setCell _).setCell _⟩
    · rename_i hx
      have hst : step S x = S / 2 := by
        unfold step
        rw [if_neg]
        cases hv : (S % 2 == 1) != x with
        | true => rw [hv] at hx; exact absurd hx (by decide)
        | false => decide
      have b2 := hbW.set (.int .u32 ((S : Int) / 2))
      exact ⟨KeepsOthers.setCell _ _ _, (Kept.refl _ _ _).setCell _, by rw [hnew, hst]; exact b2, hkW.setCell _⟩
  case done =>
    rintro D ys W hD rfl ⟨hbW, hkW⟩ hK
    have hlt := feed_lt s zs hs
    have ho := ones_walk (feed s zs) hlt
    change Boxed W Bs 23 (.int .u32 (feed s zs : Int)) at hbW
    have hcW := hbW.cell
    gi_wp2
    refine ⟨by simp, .inl ⟨_, _, rfl, run_takeDeferred hK, ?_⟩⟩
    refine ⟨_, results_tmp rfl _ _ _, rfl, hbW.kept (grownBy_putObj' _ _ _) (fun e => ?_), hkW.trans (Kept.putObj (w := w) (Nat.le_refl _) W D _ _ (by simp at hD; omega) hK rfl rfl)⟩
    cases e
    rw [show W.heap[Bs]? = _ from hbW] at hK
    cases hK
  case stop =>
    rintro D c pre W _ _ h _
    exact h.elim

/-- The closure, wherever it is called. -/
theorem told_any (Bs s : Nat) (a : Option Addr) (len cap : Nat) (zs : List Int) (w : World) (hreach : len ≤ 140737488351232)
    (hI : IsBytes w a len cap zs) (hs : s < 4294967296) (hbox : Boxed w Bs 23 (.int .u32 (s : Int))) :
    Calls Try.prog 30 #[.slice a len cap, .pointer (some ⟨Bs, 0, none⟩)] w fun e w' => e = .returned (.int .u32 ((feed s zs ^^^ 4294967295 : Nat) : Int)) ∧
      Boxed w' Bs 23 (.int .u32 (feed s zs : Int)) ∧ Kept w.heap.size Bs w w' :=
  (callsIn_wide (n := 3)).1 (told_in Fence.wide 3 trivial trivial trivial rfl (Nat.le_refl _) Bs s a len cap zs w hreach hI hs hbox)
set_option maxHeartbeats 400000 in
theorem teller_any (s : Nat) (w : World) (hs : s < 4294967296) :
    Calls Try.prog 20 #[.int .u32 (s : Int)] w fun e w' => e = .returned (.func (.func 30) #[] #[.pointer (some ⟨w.heap.size, 0, none⟩)]) ∧
      Boxed w' w.heap.size 23 (.int .u32 ((s ^^^ 4294967295 : Nat) : Int)) ∧ Below w.heap.size w w' := by
  have ho := ones_walk s hs
  go_enter Try.func20, Try.ntmps20
  go_wp2
  go_ret
  exact ⟨rfl, Boxed.new w 23 _, (Below.refl _ w).alloc (Nat.le_refl _) _⟩
theorem Kept.below {n h : Nat} {w w' : World} (k : Kept n h w w') (B : Nat) (hB : B ≤ n) (hh : B ≤ h) : Below B w w' := ⟨k.os, k.tape, k.output, k.size, fun i hi => k.block i (by omega) (by omega)⟩
set_option maxHeartbeats 400000 in
/-- More: the sum goes on. -/
theorem more_any (s : Nat) (a : Option Addr) (len cap : Nat) (zs : List Int) (w : World) (hI : IsBytes w a len cap zs) (hreach : len ≤ 140737488351232) (hs : s < 4294967296) :
    Calls Try.prog 12 #[.int .u32 (s : Int), .slice a len cap] w fun e w' => e = .returned (.int .u32 (moreN s zs : Int)) ∧ Below w.heap.size w w' := by
  have c1 := teller_any s w hs
  have C1 : Hid (Calls Try.prog 20 _ _ _) := c1
  have I0 : Hid (IsBytes w a len cap zs) := hI
  clear c1 hI
  go_enter Try.func12, Try.ntmps12
  go_wp2_with (first
    | (go_at_call 20; refine C1.out.mono ?_; rintro e w1 ⟨rfl, hb1, hB1⟩)
    | (go_at_call 30; refine (told_any _ _ _ _ _ zs _ hreach (I0.out.later hB1) (xor_ones_lt s hs) hb1).mono ?_; rintro e w2 ⟨rfl, hb2, hK2⟩))
  go_ret
  exact ⟨rfl, hB1.trans (hK2.below _ hB1.size (Nat.le_refl _))⟩
set_option maxHeartbeats 400000 in
theorem sum_any (a : Option Addr) (len cap : Nat) (zs : List Int) (w : World) (hI : IsBytes w a len cap zs) (hreach : len ≤ 140737488351232) :
    Calls Try.prog 10 #[.slice a len cap] w fun e w' => e = .returned (.int .u32 (moreN 0 zs : Int)) ∧ Below w.heap.size w w' := by
  have c1 := more_any 0 a len cap zs w hI hreach (by omega)
  have C1 : Hid (Calls Try.prog 12 _ _ _) := c1
  clear c1 hI
  go_enter Try.func10, Try.ntmps10
  go_wp2_with (first | (go_at_call 12; refine C1.out.mono ?_; rintro e w1 ⟨rfl, hB1⟩))
  go_ret
  exact ⟨rfl, hB1⟩
end Go.Proofs.Ytakjilbbhodiiaa
