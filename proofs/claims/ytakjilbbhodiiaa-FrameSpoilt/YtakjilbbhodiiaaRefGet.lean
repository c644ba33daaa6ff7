/-
  What the document's Get answers, at every slice of bytes and every place: the same as vint.Get.
-/
import Derived.Test.YtakjilbbhodiiaaGet
namespace Go.Proofs.Ytakjilbbhodiiaa
open Go.RowKit

theorem join_to (X : Int) (k : Nat) (c d : Int) (h0 : 0 ≤ X) (h1 : X < 2 ^ (7 * k)) (hd : d = c % 128) (h : goesOnB k c = true) :
    bits .or .u64 X (IntKind.u64.wrap (c % 128 * 2 ^ (7 * k))) = X + d * 2 ^ (7 * k) := by
  rw [← hd]
  exact (join X k c d h0 h1 hd h).1

set_option maxHeartbeats 400000 in
theorem refGet_out (a : Option Addr) (len cap : Nat) (p : Int) (w : World) (hl : len ≤ maxLen) (hp : p < 0 ∨ (len : Int) < p) :
    Calls Try.prog 27 #[.slice a len cap, .int .i64 p] w fun e w' => e = .returned (.tuple #[.int .u64 0, .int .i64 0, .int .i64 1]) ∧ w' = w := by
  unfold maxLen at hl
  rcases hp with hp | hp
  · go_enter Try.func27, Try.ntmps27
    go_wp2
    go_ret3
    exact ⟨rfl, rfl⟩
  · have h' : ¬ p < 0 := by omega
    go_enter Try.func27, Try.ntmps27
    go_wp2
    go_ret3
    exact ⟨rfl, rfl⟩

set_option maxHeartbeats 400000 in
/-- At the end of the bytes: too short. -/
theorem refGet_end (a : Option Addr) (len cap : Nat) (w : World) (hcap : len ≤ cap) (hmax : cap ≤ maxLen) :
    Calls Try.prog 27 #[.slice a len cap, .int .i64 len] w fun e w' => e = .returned (.tuple #[.int .u64 0, .int .i64 len, .int .i64 3]) ∧ w' = w := by
  unfold maxLen at hmax
  have h1 : ¬ (len : Int) < 0 := by omega
  have h2 : ¬ (len : Int) < (len : Int) := by omega
  go_enter Try.func27, Try.ntmps27
  go_wp2
  refine wp_loop_rounds 1 ?_
  rw [rounds_succ]
  go_wp2
  go_ret3
  exact ⟨rfl, rfl⟩

set_option maxHeartbeats 400000 in
theorem refGet_row (b off len cap : Nat) (zs : List Int) (p : Nat) (w : World) (hz : len ≤ zs.length) (hcap : len ≤ cap) (hmax : cap ≤ maxLen) (hp : p < len)
    (hc : ∀ j, j < len → w.cell? ⟨b, off + j, none⟩ = some (.int .u8 (zs[j]?.getD 0))) (hr : ∀ j : Nat, 0 ≤ zs[j]?.getD 0 ∧ zs[j]?.getD 0 ≤ 255) :
    Calls Try.prog 27 #[.slice (some ⟨b, off, none⟩) len cap, .int .i64 p] w fun e w' =>
      e = .returned (.tuple #[.int .u64 (dec 0 0 ((zs.take len).drop p)).1, .int .i64 (p + (dec 0 0 ((zs.take len).drop p)).2.1 : Nat), .int .i64 (dec 0 0 ((zs.take len).drop p)).2.2]) ∧ w' = w := by
  unfold maxLen at hmax
  have h1 : ¬ (p : Int) < 0 := by omega
  have h2 : ¬ (len : Int) < (p : Int) := by omega
  have h3 : ¬ len < p := by omega
  obtain ⟨r, hrr⟩ : ∃ r, r = dec 0 0 ((zs.take len).drop p) := ⟨_, rfl⟩
  rw [← hrr]
  have HR : Hid (r = dec 0 0 ((zs.take len).drop p)) := hrr
  have HC : Hid (∀ j, j < len → w.cell? ⟨b, off + j, none⟩ = some (.int .u8 (zs[j]?.getD 0))) := hc
  have HB : Hid (∀ j : Nat, 0 ≤ zs[j]?.getD 0 ∧ zs[j]?.getD 0 ≤ 255) := hr
  clear hrr hc hr
  go_enter Try.func27, Try.ntmps27
  go_wp2
  go_loop [7, 8] (fun n i => ∃ (k : Nat) (X : Int), p + k ≤ len ∧ k ≤ 9 ∧ n = .int .u64 X ∧ i = .int .i64 k ∧ 0 ≤ X ∧ Hid (X < 2 ^ (7 * k)) ∧ Hid (r = dec X k ((zs.take len).drop (p + k)))) (fun _ i => len - p - (intOf i).toNat)
  case atStart => exact ⟨0, 0, by omega, by omega, rfl, rfl, by omega, by show (0 : Int) < _; simp, HR⟩
  case round =>
    obtain ⟨k, X, hk, hk9, rfl, rfl, hX0, HX, HD⟩ := hrel
    by_cases hlt : p + k < len
    · have hcell := HC.out (p + k) hlt
      have hcb := HB.out (p + k)
      have HS : Hid ((zs.take len).drop (p + k) = zs[p + k]?.getD 0 :: (zs.take len).drop (p + k + 1)) := drop_step hlt hz
      generalize zs[p + k]?.getD 0 = c at hcell hcb HS
      have hlt' : ¬ (len : Int) ≤ (p : Int) + (k : Int) := by omega
      by_cases h9 : k = 9
      · subst h9
        by_cases hc1 : c = 1
        · subst hc1
          go_wp2
          go_ret3
          have hr := HD.out
          have j := join X 9 1 1 hX0 HX.out (by omega) (by decide)
          rw [HS.out, dec_last X 9 1 _ (by decide) (by omega)] at hr
          subst hr
          have j1 := j.1
          rw [IntKind.wrap_u64, show ((1 : Int) * 2 ^ (7 * 9) % 18446744073709551616) = 9223372036854775808 by decide] at j1
          exact ⟨tup3 j1 (by simp; omega) rfl, rfl⟩
        · have hg : goesOnB (9 : Nat) c = false := by simp [goesOnB]; omega
          have HG : Hid (goesOnB (9 : Nat) c = false) := hg
          clear hg
          have hcc : c = 0 ∨ 1 < c := by omega
          rcases hcc with rfl | hcc
          all_goals
            go_wp2
            go_ret3
            have hr := HD.out
            rw [HS.out, dec_bad X 9 _ _ HG.out] at hr
            subst hr
            exact ⟨tup3 rfl (Int.natCast_add p 9).symm rfl, rfl⟩
      · have hk9' : ((k : Int) == 9) = false := by simp; omega
        have hk8 : k ≤ 8 := by omega
        by_cases hz0 : 0 < k ∧ c = 0
        · obtain ⟨hk0, hc0⟩ := hz0
          have HG : Hid (goesOnB k c = false) := by show _ = _; simp [goesOnB]; omega
          have hk0' : (0 : Int) < (k : Int) := by omega
          subst hc0
          go_wp2
          go_ret3
          have hr := HD.out
          rw [HS.out, dec_bad X k _ _ HG.out] at hr
          subst hr
          exact ⟨tup3 rfl (Int.natCast_add p k).symm rfl, rfl⟩
        · have HG : Hid (goesOnB k c = true) := by show _ = _; simp [goesOnB]; omega
          have hcase : ¬ (0 : Int) < (k : Int) ∨ (0 : Int) < (k : Int) ∧ (c == 0) = false := by
            by_cases h0 : k = 0
            · exact .inl (by omega)
            · exact .inr ⟨by omega, by simp; omega⟩
          clear hz0
          by_cases hl : c < 128
          · rcases hcase with hk0 | ⟨hk0, hcn⟩
            all_goals
              go_wp2
              go_ret3
              have hr := HD.out
              rw [HS.out, dec_last X _ c _ HG.out hl] at hr
              subst hr
              exact ⟨tup3 (join_to X k c c hX0 HX.out (by omega) HG.out) (Int.natCast_add p (k + 1)).symm rfl, rfl⟩
          · rcases hcase with hk0 | ⟨hk0, hcn⟩
            all_goals
              go_wp2
              have j := join X k c (c - 128) hX0 HX.out (by omega) HG.out
              have e := join_to X k c (c - 128) hX0 HX.out (by omega) HG.out
              go_round
              case rel => exact ⟨k + 1, X + (c - 128) * 2 ^ (7 * k), by omega, by omega, by rw [e], by go_num, j.2.2.1, j.2.1, by show r = _; rw [HD.out, HS.out, dec_more X k c _ HG.out (by omega)]; rfl⟩
              case measure => simp [intOf]; omega
    · have hge : (len : Int) ≤ (p : Int) + (k : Int) := by omega
      go_wp2
      go_ret3
      have hr := HD.out
      rw [drop_end (by omega)] at hr
      subst hr
      refine ⟨tup3 rfl ?_ rfl, rfl⟩
      show (len : Int) = ((p + k : Nat) : Int)
      omega
end Go.Proofs.Ytakjilbbhodiiaa
