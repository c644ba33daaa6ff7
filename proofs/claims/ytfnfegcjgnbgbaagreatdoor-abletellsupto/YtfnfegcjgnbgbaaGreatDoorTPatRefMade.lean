/-
  The document's own Made.
-/
import Derived.Test.YtfnfegcjgnbgbaaGreatDoorTPatRefOnce
import Derived.Test.YtfnfegcjgnbgbaaGreatDoorTPatRefLeaf
import Derived.Test.YtfnfegcjgnbgbaaGreatDoorTPatApart
namespace Go.Proofs.YtfnfegcjgnbgbaaGreatDoor
open Go.RowKit

set_option maxRecDepth 100000 in
set_option maxHeartbeats 8000000 in
theorem refMade_any (x : Pt) (w : World) (hX : IsP w x) (hsm : x.size ≤ 1048576) (hok : POk x) : Calls Tryz.prog 37 #[x.val] w fun e w' => ∃ z : Int, e = .returned (.int .i64 z) ∧ MadeZ x z ∧ Below w.heap.size w w' := by
  obtain ⟨A, hA, hB, hs, hn⟩ := boxP_one x w
  obtain ⟨a0, a1, a2, a3, a4, a5⟩ := hn.at0
  have HB : Hid (Below w.heap.size w A) := hB
  have HN : Hid (NodeP A w.heap.size 0 x) := hn
  obtain ⟨c, hc⟩ : ∃ c, c = chkP x := ⟨_, rfl⟩
  have C1 : Hid (Calls Tryz.prog 60 #[x.val] A fun e w' => e = .returned (.int .i64 c) ∧ Below A.heap.size A w') := by
    rw [hc]
    exact refCheckP_any x A (hX.later hB) hsm hok
  obtain ⟨b1, hb1⟩ : ∃ b1, b1 = notsP x true := ⟨_, rfl⟩
  obtain ⟨b2, hb2⟩ : ∃ b2, b2 = oncePB x := ⟨_, rfl⟩
  have C2 : Hid (∀ d, Below A.heap.size A d → Calls Tryz.prog 64 #[x.val, .bool true] d fun e w' => e = .returned (.bool b1) ∧ Below d.heap.size d w') := fun d h => by
    rw [hb1]
    exact refNots_any x true d ((hX.later hB).later h)
  have C3 : Hid (∀ d, Below A.heap.size A d → Calls Tryz.prog 65 #[x.val] d fun e w' => e = .returned (.bool b2) ∧ Below d.heap.size d w') := fun d h => by
    rw [hb2]
    exact refOnce_any x d ((hX.later hB).later h) hsm
  have HZ : Hid (¬ c = 0 → MadeZ x c) := fun h => .inl ⟨hc ▸ h, hc⟩
  have HM : c = 0 → (MadeP x ↔ x.k ≠ 6 ∧ b1 = true ∧ b2 = true) := fun h => by
    have hr := (chkP_zero.1 (hc.symm.trans h)).2.2
    rw [made_ref hr, hb1, hb2]
    constructor
    · rintro ⟨q1, q2, q3⟩
      exact ⟨q1, q2, oncePB_yes q3⟩
    · rintro ⟨q1, q2, q3⟩
      refine ⟨q1, q2, Classical.byContradiction fun q => ?_⟩
      rw [oncePB_no q] at q3
      cases q3
  have H0 : Hid (c = 0 → x.k ≠ 6 → b1 = true → b2 = true → MadeZ x 0) := fun h q1 q2 q3 => .inr (.inl ⟨hc.symm.trans h, (HM h).2 ⟨q1, q2, q3⟩, rfl⟩)
  have H4 : Hid (c = 0 → ¬ (x.k ≠ 6 ∧ b1 = true ∧ b2 = true) → MadeZ x 4) := fun h q => .inr (.inr ⟨hc.symm.trans h, fun e => q ((HM h).1 e), rfl⟩)
  clear hX hok hsm hB hn hs hc hb1 hb2 HM
  by_cases h0 : c = 0
  · have t0 : (c != 0) = false := by simp [h0]
    have Z0 := H0.out h0
    have Z4 := H4.out h0
    have HZ0 : Hid _ := Z0
    have HZ4 : Hid _ := Z4
    clear H0 H4 HZ Z0 Z4 h0
    by_cases h6 : x.k = 6
    · have t6 : (x.k == 6) = true := by simpa using h6
      have F : Hid (MadeZ x 4) := HZ4.out fun q => q.1 h6
      clear h6 HZ0 HZ4
      go_enter Tryz.func37, Tryz.ntmps37
      go_wp2_with (first | (go_at_call 60; refine C1.out.mono ?_; rintro e w1 ⟨rfl, hB1⟩; obtain ⟨e0, e1, e2, e3, e4, e5⟩ := (HN.out.later hB1).at0))
      go_ret
      exact ⟨_, rfl, F.out, HB.out.trans (hB1.mono HB.out.size)⟩
    · have t6 : (x.k == 6) = false := by simpa using h6
      have H6 : Hid (x.k ≠ 6) := h6
      clear h6
      cases b1
      · have F : Hid (MadeZ x 4) := HZ4.out fun q => by cases q.2.1
        clear HZ0 HZ4
        go_enter Tryz.func37, Tryz.ntmps37
        go_wp2_with (first
          | (go_at_call 60; refine C1.out.mono ?_; rintro e w1 ⟨rfl, hB1⟩; obtain ⟨e0, e1, e2, e3, e4, e5⟩ := (HN.out.later hB1).at0)
          | (go_at_call 64; refine (C2.out _ hB1).mono ?_; rintro e w2 ⟨rfl, hB2⟩))
        go_ret
        exact ⟨_, rfl, F.out, HB.out.trans ((hB1.trans (hB2.mono hB1.size)).mono HB.out.size)⟩
      · cases b2
        · have F : Hid (MadeZ x 4) := HZ4.out fun q => by cases q.2.2
          clear HZ0 HZ4
          go_enter Tryz.func37, Tryz.ntmps37
          go_wp2_with (first
            | (go_at_call 60; refine C1.out.mono ?_; rintro e w1 ⟨rfl, hB1⟩; obtain ⟨e0, e1, e2, e3, e4, e5⟩ := (HN.out.later hB1).at0)
            | (go_at_call 64; refine (C2.out _ hB1).mono ?_; rintro e w2 ⟨rfl, hB2⟩; have hB12 := hB1.trans (hB2.mono hB1.size); obtain ⟨g0, g1, g2, g3, g4, g5⟩ := (HN.out.later hB12).at0)
            | (go_at_call 65; refine (C3.out _ hB12).mono ?_; rintro e w3 ⟨rfl, hB3⟩))
          go_ret
          exact ⟨_, rfl, F.out, HB.out.trans ((hB12.trans (hB3.mono hB12.size)).mono HB.out.size)⟩
        · have F : Hid (MadeZ x 0) := HZ0.out H6.out rfl rfl
          clear HZ0 HZ4
          go_enter Tryz.func37, Tryz.ntmps37
          go_wp2_with (first
            | (go_at_call 60; refine C1.out.mono ?_; rintro e w1 ⟨rfl, hB1⟩; obtain ⟨e0, e1, e2, e3, e4, e5⟩ := (HN.out.later hB1).at0)
            | (go_at_call 64; refine (C2.out _ hB1).mono ?_; rintro e w2 ⟨rfl, hB2⟩; have hB12 := hB1.trans (hB2.mono hB1.size); obtain ⟨g0, g1, g2, g3, g4, g5⟩ := (HN.out.later hB12).at0)
            | (go_at_call 65; refine (C3.out _ hB12).mono ?_; rintro e w3 ⟨rfl, hB3⟩))
          go_ret
          exact ⟨_, rfl, F.out, HB.out.trans ((hB12.trans (hB3.mono hB12.size)).mono HB.out.size)⟩
  · have t0 : (c != 0) = true := by simp [h0]
    have F : Hid (MadeZ x c) := HZ.out h0
    clear H0 H4 HZ h0
    go_enter Tryz.func37, Tryz.ntmps37
    go_wp2_with (first | (go_at_call 60; refine C1.out.mono ?_; rintro e w1 ⟨rfl, hB1⟩; obtain ⟨e0, e1, e2, e3, e4, e5⟩ := (HN.out.later hB1).at0))
    go_ret
    exact ⟨_, rfl, F.out, HB.out.trans (hB1.mono HB.out.size)⟩
end Go.Proofs.YtfnfegcjgnbgbaaGreatDoor
