/-
  The walk of the law FrameSums: Wrap, Sum and More answer as the document's.
-/
import Derived.Test.YtakjilbbhodiiaaWrap
namespace Go.Proofs.Ytakjilbbhodiiaa
open Go.RowKit

theorem wrapL_bd (zs : List Int) (h : ∀ c ∈ zs, 0 ≤ c ∧ c ≤ 255) : ∀ c ∈ wrapL zs, 0 ≤ c ∧ c ≤ 255 := bd_append (bd_append (enc_bd _ _) h) (le4_bd _)
set_option maxRecDepth 100000 in
set_option maxHeartbeats 1000000 in
theorem sums_ok (a : Option Addr) (len cap : Nat) (zs : List Int) (s : Nat) (w : World) (hz : IsBytes w a len cap zs) (hs : s < 4294967296) (hl : len ≤ 65536) :
    Calls Try.prog 3 #[.slice a len cap, .int .u32 (s : Int)] w fun e w' => e = .returned (.bool true) ∧ Below w.heap.size w w' := by
  have hbz := mem_bd hz.2.2.2.2.1
  have c1 := wrap_ok a len cap zs w hz hl
  have C1 : Hid (Calls Try.prog 8 _ _ _) := c1
  have HZ : Hid (IsBytes w a len cap zs) := hz
  clear c1 hz
  go_enter Try.func3, Try.ntmps3
  go_wp2_with (first
    | (go_at_call 8; refine C1.out.mono ?_; clear C1; rintro e w1 ⟨v1, rfl, ho1, hB1⟩
       have C2 := refWrap_ok a len cap zs w1 (HZ.out.later hB1) hl)
    | (go_at_call 9; refine C2.mono ?_; clear C2; rintro e w2 ⟨v2, rfl, ho2, hB2⟩
       have k2 := hB1.trans (hB2.mono hB1.size)
       have C3 := sum_any a len cap zs w2 (HZ.out.later k2) (by omega))
    | (go_at_call 10; refine C3.mono ?_; clear C3; rintro e w3 ⟨rfl, hB3⟩
       have k3 := k2.trans (hB3.mono k2.size)
       have C4 := refSum_any a len cap zs w3 (HZ.out.later k3) (by omega)
       have C5 := more_any s a len cap zs w3 (HZ.out.later k3) (by omega) hs)
    | (go_at_call 11; refine C4.mono ?_; clear C4; rintro e w4 ⟨rfl, hw4⟩; replace hw4 := hw4.symm; subst hw4)
    | (go_at_call 12; refine C5.mono ?_; clear C5; rintro e w5 ⟨rfl, hB5⟩
       have k5 := k3.trans (hB5.mono k3.size)
       have C6 := refMore_any s a len cap zs w5 (HZ.out.later k5) (by omega) hs
       have r1 := conv_own (own_below (own_below (own_below ho1 hB2) hB3) hB5)
       have r2 := conv_own (own_below (own_below ho2 hB3) hB5))
    | (go_at_call 13; refine C6.mono ?_; clear C6; rintro e w6 ⟨rfl, hw6⟩; replace hw6 := hw6.symm; subst hw6)
    | (go_at_call 14; refine (awake_any _).mono ?_; rintro e w8 ⟨rfl, hB8⟩))
  go_ret
  exact ⟨rfl, k5.trans (hB8.mono k5.size)⟩
set_option maxRecDepth 100000 in
set_option maxHeartbeats 1000000 in
theorem sums_long (a : Option Addr) (len cap : Nat) (zs : List Int) (s : Nat) (w : World) (hz : IsBytes w a len cap zs) (hs : s < 4294967296) (hl : 65536 < len) (hr : len ≤ 140737488351232) :
    Calls Try.prog 3 #[.slice a len cap, .int .u32 (s : Int)] w fun e w' => e = .returned (.bool true) ∧ Below w.heap.size w w' := by
  have c1 := wrap_long a len cap w hl
  have c2 := refWrap_long a len cap w hl
  have c3 := sum_any a len cap zs w hz hr
  have C1 : Hid (Calls Try.prog 8 _ _ _) := c1
  have C2 : Hid (Calls Try.prog 9 _ _ _) := c2
  have C3 : Hid (Calls Try.prog 10 _ _ _) := c3
  have HZ : Hid (IsBytes w a len cap zs) := hz
  clear c1 c2 c3 hz
  go_enter Try.func3, Try.ntmps3
  go_wp2_with (first
    | (go_at_call 8; refine C1.out.mono ?_; clear C1; rintro e w1 ⟨rfl, hw1⟩; replace hw1 := hw1.symm; subst hw1)
    | (go_at_call 9; refine C2.out.mono ?_; clear C2; rintro e w2 ⟨rfl, hw2⟩; replace hw2 := hw2.symm; subst hw2)
    | (go_at_call 10; refine C3.out.mono ?_; clear C3; rintro e w3 ⟨rfl, k3⟩
       have C4 := refSum_any a len cap zs w3 (HZ.out.later k3) (by omega)
       have C5 := more_any s a len cap zs w3 (HZ.out.later k3) (by omega) hs)
    | (go_at_call 11; refine C4.mono ?_; clear C4; rintro e w4 ⟨rfl, hw4⟩; replace hw4 := hw4.symm; subst hw4)
    | (go_at_call 12; refine C5.mono ?_; clear C5; rintro e w5 ⟨rfl, hB5⟩
       have k5 := k3.trans (hB5.mono k3.size)
       have C6 := refMore_any s a len cap zs w5 (HZ.out.later k5) (by omega) hs
       have r1 := conv_none w5 0 0)
    | (go_at_call 13; refine C6.mono ?_; clear C6; rintro e w6 ⟨rfl, hw6⟩; replace hw6 := hw6.symm; subst hw6)
    | (go_at_call 14; refine (awake_any _).mono ?_; rintro e w8 ⟨rfl, hB8⟩))
  go_ret
  exact ⟨rfl, k5.trans (hB8.mono k5.size)⟩
end Go.Proofs.Ytakjilbbhodiiaa
