/-
  What vint.Get answers, at every slice of bytes and every place.
-/
import Derived.Test.YtjnkplmcopihbaaLeaves
import Derived.OpenShut
import Derived.Deep.LoopGhost
import Derived.Outline
namespace Go.Proofs.Ytjnkplmcopihbaa
open Go.RowKit

def intOf : Value → Int | .int _ q => q | _ => 0
theorem drop_step {zs : List Int} {len k : Nat} (hk : k < len) (hz : len ≤ zs.length) : (zs.take len).drop k = zs[k]?.getD 0 :: (zs.take len).drop (k + 1) := by
  have h1 : k < (zs.take len).length := by simp; omega
  rw [List.drop_eq_getElem_cons h1]
  congr 1
  have h2 : k < zs.length := by omega
  simp [List.getElem_take, h2]
theorem drop_end {zs : List Int} {len k : Nat} (hk : len ≤ k) : (zs.take len).drop k = [] := by
  apply List.drop_eq_nil_of_le
  simp; omega

set_option maxHeartbeats 400000 in
theorem get_out (a : Option Addr) (len cap : Nat) (p : Int) (w : World) (hl : len ≤ maxLen) (hp : p < 0 ∨ (len : Int) < p) :
    Calls Try.prog 48 #[.slice a len cap, .int .i64 p] w fun e w' => e = .returned (.tuple #[.int .u64 0, .int .i64 0, .int .i64 1]) ∧ w' = w := by
  unfold maxLen at hl
  rcases hp with hp | hp
  · go_enter Try.func48, Try.ntmps48
    go_wp2
    go_step3
    go_wp2
    rw [Exit.noGoto_ret]
    go_ret3
    exact ⟨rfl, rfl⟩
  · have h' : ¬ p < 0 := by omega
    go_enter Try.func48, Try.ntmps48
    go_wp2
    go_step3
    go_wp2
    rw [Exit.noGoto_ret]
    go_ret3
    exact ⟨rfl, rfl⟩

theorem movedAt (n m : Int) (w : World) (h0 : 0 ≤ m) (h1 : m ≤ 63) :
    Calls Try.prog 47 #[.int .u64 n, .int .i64 m] w fun e w' => e = .returned (.int .u64 (IntKind.u64.wrap (n * 2 ^ m.toNat))) ∧ w' = w := by
  obtain ⟨k, rfl⟩ := Int.eq_ofNat_of_zero_le h0
  rw [Int.toNat_natCast]
  exact movedUp n k w (by omega)
theorem low7 (c : Int) (h0 : 0 ≤ c) (h1 : c ≤ 255) : bits .andNot .u8 c 128 = c % 128 := by
  rw [u8_andNot c 128 h0 (by omega) (by omega) (by omega), show 255 - (128 : Int).toNat = 127 from rfl, nat_mask7]
  omega
/-- 'join', in the walk's own form. -/
theorem join_at (X : Int) (k : Nat) (c d : Int) (h0 : 0 ≤ X) (h1 : X < 2 ^ (7 * k)) (hd : d = c % 128) (h : goesOnB k c = true) :
    bits .or .u64 X (IntKind.u64.wrap (c % 128 * 2 ^ (k * 7))) = X + d * 2 ^ (7 * k) := by
  rw [Nat.mul_comm k 7, ← hd]
  exact (join X k c d h0 h1 hd h).1
theorem tup3 {a b : Int} {c d : Int} {e f : Int} (h1 : a = b) (h2 : c = d) (h3 : e = f) :
    Ending.returned (.tuple #[.int .u64 a, .int .i64 c, .int .i64 e]) = .returned (.tuple #[.int .u64 b, .int .i64 d, .int .i64 f]) := by rw [h1, h2, h3]

set_option maxHeartbeats 400000 in
/-- At the end of the bytes: too short. -/
theorem get_end (a : Option Addr) (len cap : Nat) (w : World) (hcap : len ≤ cap) (hmax : cap ≤ maxLen) (ha : a = none → cap = 0) :
    Calls Try.prog 48 #[.slice a len cap, .int .i64 len] w fun e w' => e = .returned (.tuple #[.int .u64 0, .int .i64 len, .int .i64 3]) ∧ w' = w := by
  unfold maxLen at hmax
  have h1 : ¬ (len : Int) < 0 := by omega
  have h2 : ¬ (len : Int) < (len : Int) := by omega
  cases a with
  | none =>
    obtain rfl := ha rfl
    obtain rfl : len = 0 := by omega
    go_enter Try.func48, Try.ntmps48
    go_wp2
    go_step3
    go_wp2
    go_step3
    go_wp2
    refine wp_loop_rounds 1 ?_
    rw [rounds_succ]
    go_wp2
    rw [Exit.noGoto_ret]
    go_ret3
    exact ⟨rfl, rfl⟩
  | some x =>
    clear ha
    by_cases he : cap = len
    · go_enter Try.func48, Try.ntmps48
      go_wp2
      go_step3
      go_wp2
      go_step3
      go_wp2
      refine wp_loop_rounds 1 ?_
      rw [rounds_succ]
      go_wp2
      rw [Exit.noGoto_ret]
      go_ret3
      exact ⟨rfl, rfl⟩
    · go_enter Try.func48, Try.ntmps48
      go_wp2
      go_step3
      go_wp2
      go_step3
      go_wp2
      refine wp_loop_rounds 1 ?_
      rw [rounds_succ]
      go_wp2
      rw [Exit.noGoto_ret]
      go_ret3
      exact ⟨rfl, rfl⟩

set_option maxHeartbeats 400000 in
theorem get_row (b off len cap : Nat) (zs : List Int) (p : Nat) (w : World) (hz : len ≤ zs.length) (hcap : len ≤ cap) (hmax : cap ≤ maxLen) (hp : p < len)
    (hc : ∀ j, j < len → w.cell? ⟨b, off + j, none⟩ = some (.int .u8 (zs[j]?.getD 0))) (hr : ∀ j : Nat, 0 ≤ zs[j]?.getD 0 ∧ zs[j]?.getD 0 ≤ 255) :
    Calls Try.prog 48 #[.slice (some ⟨b, off, none⟩) len cap, .int .i64 p] w fun e w' =>
      e = .returned (.tuple #[.int .u64 (dec 0 0 ((zs.take len).drop p)).1, .int .i64 (p + (dec 0 0 ((zs.take len).drop p)).2.1 : Nat), .int .i64 (dec 0 0 ((zs.take len).drop p)).2.2]) ∧ w' = w := by
  unfold maxLen at hmax
  have h1 : ¬ (p : Int) < 0 := by omega
  have h2 : ¬ (len : Int) < (p : Int) := by omega
  have h3 : ¬ len < p := by omega
  have h4 : ¬ cap = p := by omega
  obtain ⟨r, hrr⟩ : ∃ r, r = dec 0 0 ((zs.take len).drop p) := ⟨_, rfl⟩
  rw [← hrr]
  have HR : Hid (r = dec 0 0 ((zs.take len).drop p)) := hrr
  have HC : Hid (∀ j, j < len → w.cell? ⟨b, off + j, none⟩ = some (.int .u8 (zs[j]?.getD 0))) := hc
  have HB : Hid (∀ j : Nat, 0 ≤ zs[j]?.getD 0 ∧ zs[j]?.getD 0 ≤ 255) := hr
  clear hrr hc hr
  go_enter Try.func48, Try.ntmps48
  go_wp2
  go_step3
  go_wp2
  go_step3
  go_wp2
  go_loop [7, 8, 9, 26] (fun n nx e i => ∃ (k : Nat) (X : Int), p + k ≤ len ∧ k ≤ 9 ∧ n = .int .u64 X ∧ nx = .int .i64 len ∧ e = .int .i64 3 ∧ i = .int .i64 k ∧ 0 ≤ X ∧ Hid (X < 2 ^ (7 * k)) ∧ Hid (r = dec X k ((zs.take len).drop (p + k)))) (fun _ _ _ i => len - p - (intOf i).toNat)
  case atStart => exact ⟨0, 0, by omega, by omega, rfl, rfl, rfl, rfl, by omega, by show (0 : Int) < _; simp, HR⟩
  case round =>
    obtain ⟨k, X, hk, hk9, rfl, rfl, rfl, rfl, hX0, HX, HD⟩ := hrel
    by_cases hlt : p + k < len
    · have hcell := HC.out (p + k) hlt
      rw [← Nat.add_assoc] at hcell
      have hcb := HB.out (p + k)
      have HS : Hid ((zs.take len).drop (p + k) = zs[p + k]?.getD 0 :: (zs.take len).drop (p + k + 1)) := drop_step hlt hz
      generalize zs[p + k]?.getD 0 = c at hcell hcb HS
      have hlow := low7 c hcb.1 hcb.2
      have hlt' : (k : Int) < ((len - p : Nat) : Int) := by omega
      cases hg : goesOnB k c with
      | false =>
        go_wp2_with (first | (go_at_call 47; refine (movedAt _ _ _ (by omega) (by omega)).mono ?_; rintro e w' ⟨rfl, rfl⟩) | (go_at_call 50; refine (goesOn_any _ _ _).mono ?_; rintro e w' ⟨rfl, rfl⟩))
        rw [Exit.noGoto_ret]
        go_ret3
        have hr := HD.out
        rw [HS.out, dec_bad X k c _ hg] at hr
        subst hr
        exact ⟨tup3 rfl (Int.natCast_add p k).symm rfl, rfl⟩
      | true =>
        by_cases hl : c < 128
        · go_wp2_with (first | (go_at_call 47; refine (movedAt _ _ _ (by omega) (by omega)).mono ?_; rintro e w' ⟨rfl, rfl⟩) | (go_at_call 50; refine (goesOn_any _ _ _).mono ?_; rintro e w' ⟨rfl, rfl⟩))
          rw [Exit.noGoto_ret]
          go_ret3
          have hr := HD.out
          rw [HS.out, dec_last X k c _ hg hl] at hr
          subst hr
          exact ⟨tup3 (join_at X k c c hX0 HX.out (by omega) hg) (Int.natCast_add p (k + 1)).symm rfl, rfl⟩
        · go_wp2_with (first | (go_at_call 47; refine (movedAt _ _ _ (by omega) (by omega)).mono ?_; rintro e w' ⟨rfl, rfl⟩) | (go_at_call 50; refine (goesOn_any _ _ _).mono ?_; rintro e w' ⟨rfl, rfl⟩))
          have j := join X k c (c - 128) hX0 HX.out (by omega) hg
          have e := join_at X k c (c - 128) hX0 HX.out (by omega) hg
          have hk8 := goes_more k c hg (by omega)
          go_round
          case rel => exact ⟨k + 1, X + (c - 128) * 2 ^ (7 * k), by omega, by omega, by rw [e], rfl, rfl, by go_num, j.2.2.1, j.2.1, by show r = _; rw [HD.out, HS.out, dec_more X k c _ hg (by omega)]; rfl⟩
          case measure => simp [intOf]; omega
    · have hge : ¬ (k : Int) < ((len - p : Nat) : Int) := by omega
      go_wp2
      go_ret3
      have hr := HD.out
      rw [drop_end (by omega)] at hr
      subst hr
      refine ⟨tup3 rfl ?_ rfl, rfl⟩
      show (len : Int) = ((p + k : Nat) : Int)
      omega
end Go.Proofs.Ytjnkplmcopihbaa
