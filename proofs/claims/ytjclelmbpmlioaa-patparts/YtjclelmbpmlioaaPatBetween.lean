/-
  pat.between: may each PNot among the parts stand where it does?
-/
import Derived.Test.YtjclelmbpmlioaaPatMadeMath
import Derived.Test.YtjclelmbpmlioaaPatRefSame
import Derived.Test.YtjclelmbpmlioaaArgs
namespace Go.Proofs.Ytjclelmbpmlioaa
open Go.RowKit

set_option maxRecDepth 100000 in
set_option maxHeartbeats 8000000 in
theorem between_any (x : Pt) (whole : Bool) (b o : Nat) (w : World) (hN : NodeP w b o x) (hX : IsP w x) :
    Calls Try.prog 31 #[.pointer (some ⟨b, o, none⟩), .bool whole] w fun e w' => e = .returned (.bool (betweenB x whole)) ∧ Below w.heap.size w w' := by
  obtain ⟨r, hr⟩ : ∃ r, r = betweenB x whole := ⟨_, rfl⟩
  have HF : Hid (∀ i, i < x.n → notB x whole i = false → r = false) := fun i hi h => hr.trans (allN_false hi h)
  have HT : Hid ((∀ i, i < x.n → notB x whole i = true) → r = true) := fun h => hr.trans (allN_true.2 h)
  rw [← hr]
  have HN : Hid (NodeP w b o x) := hN
  have HX : Hid (IsP w x) := hX
  have hlen := hX.len
  obtain ⟨d0, d1, d2, d3, d4, d5⟩ := hN
  clear hr hX
  go_enter Try.func31, Try.ntmps31
  go_wp2
  clear d0 d1 d2 d3 d4 d5
  go_loopw [13] (fun u wr => ∃ k : Nat, k ≤ x.n ∧ u = .int .i64 k ∧ Hid (∀ i, i < k → notB x whole i = true) ∧ Below w.heap.size w wr) (fun u _ => x.n - (intOf u).toNat)
  case atStart => exact ⟨0, Nat.zero_le _, rfl, fun i hi => absurd hi (Nat.not_lt_zero _), Below.refl _ _⟩
  case round =>
    obtain ⟨k, hk, rfl, HK, hB⟩ := hrel
    by_cases hkn : k < x.n
    · obtain ⟨A, hA, hB2, hs, hm⟩ := boxP_one (x.c k) wr
      have HB : Hid (Below w.heap.size w A) := hB.trans (hB2.mono hB.size)
      obtain ⟨b1, o1, ea, hn1, -⟩ := (HX.out.later hB).part hkn
      obtain ⟨e0, e1, e2, e3, e4, e5⟩ := HN.out.later HB.out
      obtain ⟨c0, c1, c2, c3, c4, c5⟩ := hn1
      obtain ⟨g0, g1, g2, g3, g4, g5⟩ := hm.at0
      have HKN : Hid (k < x.n) := hkn
      rw [ea] at e5 ⊢
      have next : (notB x whole k = true) → ∀ i, i < k + 1 → notB x whole i = true := fun h i hi => by
        by_cases e : i = k
        · rw [e]; exact h
        · exact HK.out i (by omega)
      by_cases h6 : (x.c k).k = 6
      · have t1 := ne_yes h6
        by_cases h2 : x.k = 2
        · have t2 := ne_yes h2
          by_cases h0 : k = 0
          · have t3 : (((k : Nat) : Int) == 0) = true := by simp [h0]
            have HE : Hid (notB x whole k = false) := by show _ = _; rw [h0] at h6 ⊢; simp [notB, h6]
            clear h6 h2 h0 next ea hm hB2 hs hB
            go_wp2
            all_goals first
              | (go_ret; exact ⟨by rw [HF.out k HKN.out HE.out]; rfl, HB.out⟩)
          · obtain ⟨j, hj⟩ : ∃ j, k = j + 1 := ⟨k - 1, by omega⟩
            have hq : ((k : Nat) : Int) - 1 = (j : Int) := by omega
            have hjn : j < x.n := by omega
            have t3 : (((k : Nat) : Int) == 0) = false := by simp; omega
            obtain ⟨b2, o2, ea2, hn2, -⟩ := (HX.out.later HB.out).part hjn
            rw [ea] at ea2
            cases ea2
            obtain ⟨f0, f1, f2, f3, f4, f5⟩ := hn2
            have hkj : x.c (k - 1) = x.c j := by rw [hj]; rfl
            by_cases h5 : (x.c j).k = 6
            · have t4 : ((x.c j).k == 6) = true := by simp [h5]
              have HE : Hid (notB x whole k = false) := by show _ = _; simp [notB, h6, hkj, h5]
              clear h6 h2 h0 next ea hm hB2 hs hB hj hkj h5
              go_wp2
              all_goals first
                | (go_ret; exact ⟨by rw [HF.out k HKN.out HE.out]; rfl, HB.out⟩)
            · have t4 : ((x.c j).k == 6) = false := by simp [h5]
              by_cases hl : k + 1 = x.n
              · have t5 : (((k : Nat) : Int) == ((x.n : Nat) : Int) - 1) = true := by simp; omega
                cases whole with
                | false =>
                  have HE : Hid (notB x false k = false) := by show _ = _; simp [notB, h6, hl]
                  clear h6 h2 h0 next ea hm hB2 hs hB hj hkj h5 hl
                  go_wp2
                  all_goals first
                    | (go_ret; exact ⟨by rw [HF.out k HKN.out HE.out]; rfl, HB.out⟩)
                | true =>
                  have HE : Hid (∀ i, i < k + 1 → notB x true i = true) := next (by simp [notB, h2, h0, hkj, h5])
                  clear h6 h2 h0 next ea hm hB2 hs hB hj hkj h5 hl
                  go_wp2
                  go_roundw
                  case rel => exact ⟨k + 1, HKN.out, by go_num, HE, HB.out⟩
                  case measure => have := HKN.out; simp [intOf]; omega
              · have t5 : (((k : Nat) : Int) == ((x.n : Nat) : Int) - 1) = false := by simp; omega
                have HE : Hid (∀ i, i < k + 1 → notB x whole i = true) := next (by simp [notB, h2, h0, hkj, h5, hl])
                clear h6 h2 h0 next ea hm hB2 hs hB hj hkj h5 hl
                go_wp2
                go_roundw
                case rel => exact ⟨k + 1, HKN.out, by go_num, HE, HB.out⟩
                case measure => have := HKN.out; simp [intOf]; omega
        · have t2 := ne_no h2
          have HE : Hid (notB x whole k = false) := by show _ = _; simp [notB, h6, h2]
          clear h6 h2 next ea hm hB2 hs hB
          go_wp2
          all_goals first
            | (go_ret; exact ⟨by rw [HF.out k HKN.out HE.out]; rfl, HB.out⟩)
      · have t1 := ne_no h6
        have HE : Hid (∀ i, i < k + 1 → notB x whole i = true) := next (by simp [notB, h6])
        clear h6 next ea hm hB2 hs hB
        go_wp2
        go_roundw
        case rel => exact ⟨k + 1, HKN.out, by go_num, HE, HB.out⟩
        case measure => have := HKN.out; simp [intOf]; omega
    · obtain rfl : k = x.n := by omega
      go_wp2
      go_ret
      exact ⟨by rw [HT.out HK.out]; rfl, hB⟩
end Go.Proofs.Ytjclelmbpmlioaa
