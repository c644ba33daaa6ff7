/-
  The document's own right, of a node whose kind has no parts.
  The document's own right, of a node whose kind has parts; all of it; its Check.
-/
import Derived.Test.YtfnfegcjgnbgbaaGreatDoorTPatRefSame
import Derived.Test.YtfnfegcjgnbgbaaGreatDoorTPatRightMath
import Derived.Test.YtfnfegcjgnbgbaaGreatDoorTAbRefRow
import Derived.Test.YtfnfegcjgnbgbaaGreatDoorTPatFresh
import Derived.Deep.RegionWith
namespace Go.Proofs.YtfnfegcjgnbgbaaGreatDoor
open Go.RowKit

theorem rightN_leaf {x : Pt} (hrow : isRow x.k = false) : rightN x = (x.n == 0 && (nameB x.s && (nameB x.t && (if x.k = 5 then cntB x.lo x.hi else ((x.k == 1 || x.k == 6) && (x.lo == 0 && x.hi == 0)))))) := by
  unfold rightN
  rw [if_neg (by rw [hrow]; simp)]
  by_cases h5 : x.k = 5
  · rw [if_pos h5, if_pos h5]
    unfold manyB
    cases nameB x.s <;> cases nameB x.t <;> cases cntB x.lo x.hi <;> simp
  · rw [if_neg h5, if_neg h5]
    by_cases h16 : x.k = 1 ∨ x.k = 6
    · rw [if_pos h16]
      have : (x.k == 1 || x.k == 6) = true := by simpa using h16
      rw [this]
      unfold leafB
      cases nameB x.s <;> cases nameB x.t <;> cases (x.lo == 0) <;> cases (x.hi == 0) <;> simp
    · rw [if_neg h16]
      have : (x.k == 1 || x.k == 6) = false := by simpa using h16
      rw [this]
      simp
set_option maxRecDepth 100000 in
set_option maxHeartbeats 4000000 in
theorem refRight_leaf0 (x : Pt) (w : World) (hs1 : x.s.size ≤ maxLen) (hs2 : x.t.size ≤ maxLen) (_ : x.n ≤ 9223372036854775807) (hrow : isRow x.k = false) (h : (x.n == 0 && (nameB x.s && nameB x.t)) = false) :
    Calls Tryz.prog 82 #[x.val] w fun e w' => e = .returned (.bool false) ∧ Below w.heap.size w w' := by
  obtain ⟨A, hA, hB, hs, hn⟩ := boxP_one x w
  obtain ⟨a0, a1, a2, a3, a4, a5⟩ := hn.at0
  have HB : Hid (Below w.heap.size w A) := hB
  have HN : Hid (NodeP A w.heap.size 0 x) := hn
  have hR := refRow_any x A
  rw [hrow] at hR
  have N1 := fun d => refName_any x.s d hs1
  have N2 := fun d => refName_any x.t d hs2
  clear hB hn hrow hs1 hs2
  cases h0 : x.n == 0
  · have t0 : (((x.n : Nat) : Int) != 0) = true := by simpa using h0
    clear h h0
    go_enter Tryz.func82, Tryz.ntmps82
    go_wp2_with (go_at_call 97; refine hR.mono ?_; clear hR; rintro e w1 ⟨rfl, hB1⟩; obtain ⟨b0, b1, b2, b3, b4, b5⟩ := (HN.out.later hB1).at0)
    all_goals first
      | (rename_i q1 q2; cases q1; done)
      | (go_ret; exact ⟨rfl, HB.out.trans (hB1.mono HB.out.size)⟩)
  · have t0 : (((x.n : Nat) : Int) != 0) = false := by simpa using h0
    cases h1 : nameB x.s
    · rw [h1] at N1
      clear h h0
      go_enter Tryz.func82, Tryz.ntmps82
      go_wp2_with (first
        | (go_at_call 97; refine hR.mono ?_; clear hR; rintro e w1 ⟨rfl, hB1⟩; obtain ⟨b0, b1, b2, b3, b4, b5⟩ := (HN.out.later hB1).at0)
        | (go_at_call 61; refine (N1 _).mono ?_; rintro e w2 ⟨rfl, rfl⟩))
      all_goals first
        | (rename_i q1 q2; cases q1; done)
        | (go_ret; exact ⟨rfl, HB.out.trans (hB1.mono HB.out.size)⟩)
    · have h2 : nameB x.t = false := by rw [h0, h1] at h; simpa using h
      rw [h1] at N1
      rw [h2] at N2
      clear h h0 h1 h2
      go_enter Tryz.func82, Tryz.ntmps82
      go_wp2_with (first
        | (go_at_call 97; refine hR.mono ?_; clear hR; rintro e w1 ⟨rfl, hB1⟩; obtain ⟨b0, b1, b2, b3, b4, b5⟩ := (HN.out.later hB1).at0)
        | (go_at_call 61; refine (N1 _).mono ?_; clear N1; rintro e w2 ⟨rfl, rfl⟩)
        | (go_at_call 61; refine (N2 _).mono ?_; rintro e w2 ⟨rfl, rfl⟩))
      all_goals first
        | (rename_i q1 q2; cases q1; done)
        | (go_ret; exact ⟨rfl, HB.out.trans (hB1.mono HB.out.size)⟩)
set_option maxRecDepth 100000 in
set_option maxHeartbeats 4000000 in
theorem refRight_leaf1 (x : Pt) (w : World) (hs1 : x.s.size ≤ maxLen) (hs2 : x.t.size ≤ maxLen) (hrow : isRow x.k = false) (h0 : x.n = 0) (h1 : nameB x.s = true) (h2 : nameB x.t = true) (h5 : (x.k == 5) = false) :
    Calls Tryz.prog 82 #[x.val] w fun e w' => e = .returned (.bool ((x.k == 1 || x.k == 6) && (x.lo == 0 && x.hi == 0))) ∧ Below w.heap.size w w' := by
  obtain ⟨A, hA, hB, hs, hn⟩ := boxP_one x w
  obtain ⟨a0, a1, a2, a3, a4, a5⟩ := hn.at0
  have HB : Hid (Below w.heap.size w A) := hB
  have HN : Hid (NodeP A w.heap.size 0 x) := hn
  have hR := refRow_any x A
  rw [hrow] at hR
  have N1 := fun d => refName_any x.s d hs1
  have N2 := fun d => refName_any x.t d hs2
  rw [h1] at N1
  rw [h2] at N2
  have t0 : (((x.n : Nat) : Int) != 0) = false := by simp [h0]
  clear hB hn hrow hs1 hs2 h0 h1 h2
  cases k1 : x.k == 1
  · cases k6 : x.k == 6
    · go_enter Tryz.func82, Tryz.ntmps82
      go_wp2_with (first
        | (go_at_call 97; refine hR.mono ?_; clear hR; rintro e w1 ⟨rfl, hB1⟩; obtain ⟨b0, b1, b2, b3, b4, b5⟩ := (HN.out.later hB1).at0)
        | (go_at_call 61; refine (N1 _).mono ?_; clear N1; rintro e w2 ⟨rfl, rfl⟩)
        | (go_at_call 61; refine (N2 _).mono ?_; clear N2; rintro e w2 ⟨rfl, rfl⟩))
      all_goals first
        | (rename_i q1 q2; cases q1; done)
        | (go_ret; exact ⟨rfl, HB.out.trans (hB1.mono HB.out.size)⟩)
    · cases l0 : x.lo == 0
      · go_enter Tryz.func82, Tryz.ntmps82
        go_wp2_with (first
          | (go_at_call 97; refine hR.mono ?_; clear hR; rintro e w1 ⟨rfl, hB1⟩; obtain ⟨b0, b1, b2, b3, b4, b5⟩ := (HN.out.later hB1).at0)
          | (go_at_call 61; refine (N1 _).mono ?_; clear N1; rintro e w2 ⟨rfl, rfl⟩)
          | (go_at_call 61; refine (N2 _).mono ?_; clear N2; rintro e w2 ⟨rfl, rfl⟩))
        all_goals first
          | (rename_i q1 q2; cases q1; done)
          | (go_ret; exact ⟨rfl, HB.out.trans (hB1.mono HB.out.size)⟩)
      · cases i0 : x.hi == 0
        · go_enter Tryz.func82, Tryz.ntmps82
          go_wp2_with (first
            | (go_at_call 97; refine hR.mono ?_; clear hR; rintro e w1 ⟨rfl, hB1⟩; obtain ⟨b0, b1, b2, b3, b4, b5⟩ := (HN.out.later hB1).at0)
            | (go_at_call 61; refine (N1 _).mono ?_; clear N1; rintro e w2 ⟨rfl, rfl⟩)
            | (go_at_call 61; refine (N2 _).mono ?_; clear N2; rintro e w2 ⟨rfl, rfl⟩))
          all_goals first
            | (rename_i q1 q2; cases q1; done)
            | (go_ret; exact ⟨rfl, HB.out.trans (hB1.mono HB.out.size)⟩)
        · go_enter Tryz.func82, Tryz.ntmps82
          go_wp2_with (first
            | (go_at_call 97; refine hR.mono ?_; clear hR; rintro e w1 ⟨rfl, hB1⟩; obtain ⟨b0, b1, b2, b3, b4, b5⟩ := (HN.out.later hB1).at0)
            | (go_at_call 61; refine (N1 _).mono ?_; clear N1; rintro e w2 ⟨rfl, rfl⟩)
            | (go_at_call 61; refine (N2 _).mono ?_; clear N2; rintro e w2 ⟨rfl, rfl⟩))
          all_goals first
            | (rename_i q1 q2; cases q1; done)
            | (go_ret; exact ⟨rfl, HB.out.trans (hB1.mono HB.out.size)⟩)
  · cases l0 : x.lo == 0
    · go_enter Tryz.func82, Tryz.ntmps82
      go_wp2_with (first
        | (go_at_call 97; refine hR.mono ?_; clear hR; rintro e w1 ⟨rfl, hB1⟩; obtain ⟨b0, b1, b2, b3, b4, b5⟩ := (HN.out.later hB1).at0)
        | (go_at_call 61; refine (N1 _).mono ?_; clear N1; rintro e w2 ⟨rfl, rfl⟩)
        | (go_at_call 61; refine (N2 _).mono ?_; clear N2; rintro e w2 ⟨rfl, rfl⟩))
      all_goals first
        | (rename_i q1 q2; cases q1; done)
        | (go_ret; exact ⟨rfl, HB.out.trans (hB1.mono HB.out.size)⟩)
    · cases i0 : x.hi == 0
      · go_enter Tryz.func82, Tryz.ntmps82
        go_wp2_with (first
          | (go_at_call 97; refine hR.mono ?_; clear hR; rintro e w1 ⟨rfl, hB1⟩; obtain ⟨b0, b1, b2, b3, b4, b5⟩ := (HN.out.later hB1).at0)
          | (go_at_call 61; refine (N1 _).mono ?_; clear N1; rintro e w2 ⟨rfl, rfl⟩)
          | (go_at_call 61; refine (N2 _).mono ?_; clear N2; rintro e w2 ⟨rfl, rfl⟩))
        all_goals first
          | (rename_i q1 q2; cases q1; done)
          | (go_ret; exact ⟨rfl, HB.out.trans (hB1.mono HB.out.size)⟩)
      · go_enter Tryz.func82, Tryz.ntmps82
        go_wp2_with (first
          | (go_at_call 97; refine hR.mono ?_; clear hR; rintro e w1 ⟨rfl, hB1⟩; obtain ⟨b0, b1, b2, b3, b4, b5⟩ := (HN.out.later hB1).at0)
          | (go_at_call 61; refine (N1 _).mono ?_; clear N1; rintro e w2 ⟨rfl, rfl⟩)
          | (go_at_call 61; refine (N2 _).mono ?_; clear N2; rintro e w2 ⟨rfl, rfl⟩))
        all_goals first
          | (rename_i q1 q2; cases q1; done)
          | (go_ret; exact ⟨rfl, HB.out.trans (hB1.mono HB.out.size)⟩)
set_option maxRecDepth 100000 in
set_option maxHeartbeats 4000000 in
theorem refRight_leaf5 (x : Pt) (w : World) (hs1 : x.s.size ≤ maxLen) (hs2 : x.t.size ≤ maxLen) (hrow : isRow x.k = false) (h0 : x.n = 0) (h1 : nameB x.s = true) (h2 : nameB x.t = true) (h5 : (x.k == 5) = true) :
    Calls Tryz.prog 82 #[x.val] w fun e w' => e = .returned (.bool (cntB x.lo x.hi)) ∧ Below w.heap.size w w' := by
  obtain ⟨A, hA, hB, hs, hn⟩ := boxP_one x w
  obtain ⟨a0, a1, a2, a3, a4, a5⟩ := hn.at0
  have HB : Hid (Below w.heap.size w A) := hB
  have HN : Hid (NodeP A w.heap.size 0 x) := hn
  have hR := refRow_any x A
  rw [hrow] at hR
  have N1 := fun d => refName_any x.s d hs1
  have N2 := fun d => refName_any x.t d hs2
  rw [h1] at N1
  rw [h2] at N2
  have t0 : (((x.n : Nat) : Int) != 0) = false := by simp [h0]
  clear hB hn hrow hs1 hs2 h0 h1 h2
  by_cases c1 : 1 ≤ x.lo
  · by_cases c2 : x.lo ≤ 1000
    · cases c3 : x.hi == 0
      · by_cases c4 : x.lo ≤ x.hi
        · by_cases c5 : x.hi ≤ 1000
          · cases c6 : x.lo == 1
            · have HE : Hid (cntB x.lo x.hi = true) := by show cntB x.lo x.hi = true; unfold cntB; simp [c1, c2, c3, c4, c5, c6]
              go_enter Tryz.func82, Tryz.ntmps82
              go_wp2_with (first
                | (go_at_call 97; refine hR.mono ?_; clear hR; rintro e w1 ⟨rfl, hB1⟩; obtain ⟨b0, b1, b2, b3, b4, b5⟩ := (HN.out.later hB1).at0)
                | (go_at_call 61; refine (N1 _).mono ?_; clear N1; rintro e w2 ⟨rfl, rfl⟩)
                | (go_at_call 61; refine (N2 _).mono ?_; clear N2; rintro e w2 ⟨rfl, rfl⟩))
              all_goals first
                | (rename_i q1 q2; cases q1; done)
                | (go_ret; exact ⟨by rw [HE.out]; rfl, HB.out.trans (hB1.mono HB.out.size)⟩)
            · cases c7 : x.hi == 1
              · have HE : Hid (cntB x.lo x.hi = true) := by show cntB x.lo x.hi = true; unfold cntB; simp [c1, c2, c3, c4, c5, c6, c7]
                go_enter Tryz.func82, Tryz.ntmps82
                go_wp2_with (first
                  | (go_at_call 97; refine hR.mono ?_; clear hR; rintro e w1 ⟨rfl, hB1⟩; obtain ⟨b0, b1, b2, b3, b4, b5⟩ := (HN.out.later hB1).at0)
                  | (go_at_call 61; refine (N1 _).mono ?_; clear N1; rintro e w2 ⟨rfl, rfl⟩)
                  | (go_at_call 61; refine (N2 _).mono ?_; clear N2; rintro e w2 ⟨rfl, rfl⟩))
                all_goals first
                  | (rename_i q1 q2; cases q1; done)
                  | (go_ret; exact ⟨by rw [HE.out]; rfl, HB.out.trans (hB1.mono HB.out.size)⟩)
              · have HE : Hid (cntB x.lo x.hi = false) := by show cntB x.lo x.hi = false; unfold cntB; simp [c1, c2, c3, c4, c5, c6, c7]
                go_enter Tryz.func82, Tryz.ntmps82
                go_wp2_with (first
                  | (go_at_call 97; refine hR.mono ?_; clear hR; rintro e w1 ⟨rfl, hB1⟩; obtain ⟨b0, b1, b2, b3, b4, b5⟩ := (HN.out.later hB1).at0)
                  | (go_at_call 61; refine (N1 _).mono ?_; clear N1; rintro e w2 ⟨rfl, rfl⟩)
                  | (go_at_call 61; refine (N2 _).mono ?_; clear N2; rintro e w2 ⟨rfl, rfl⟩))
                all_goals first
                  | (rename_i q1 q2; cases q1; done)
                  | (go_ret; exact ⟨by rw [HE.out]; rfl, HB.out.trans (hB1.mono HB.out.size)⟩)
          · have HE : Hid (cntB x.lo x.hi = false) := by show cntB x.lo x.hi = false; unfold cntB; simp [c1, c2, c3, c4, c5]
            go_enter Tryz.func82, Tryz.ntmps82
            go_wp2_with (first
              | (go_at_call 97; refine hR.mono ?_; clear hR; rintro e w1 ⟨rfl, hB1⟩; obtain ⟨b0, b1, b2, b3, b4, b5⟩ := (HN.out.later hB1).at0)
              | (go_at_call 61; refine (N1 _).mono ?_; clear N1; rintro e w2 ⟨rfl, rfl⟩)
              | (go_at_call 61; refine (N2 _).mono ?_; clear N2; rintro e w2 ⟨rfl, rfl⟩))
            all_goals first
              | (rename_i q1 q2; cases q1; done)
              | (go_ret; exact ⟨by rw [HE.out]; rfl, HB.out.trans (hB1.mono HB.out.size)⟩)
        · have HE : Hid (cntB x.lo x.hi = false) := by show cntB x.lo x.hi = false; unfold cntB; simp [c1, c2, c3, c4]
          go_enter Tryz.func82, Tryz.ntmps82
          go_wp2_with (first
            | (go_at_call 97; refine hR.mono ?_; clear hR; rintro e w1 ⟨rfl, hB1⟩; obtain ⟨b0, b1, b2, b3, b4, b5⟩ := (HN.out.later hB1).at0)
            | (go_at_call 61; refine (N1 _).mono ?_; clear N1; rintro e w2 ⟨rfl, rfl⟩)
            | (go_at_call 61; refine (N2 _).mono ?_; clear N2; rintro e w2 ⟨rfl, rfl⟩))
          all_goals first
            | (rename_i q1 q2; cases q1; done)
            | (go_ret; exact ⟨by rw [HE.out]; rfl, HB.out.trans (hB1.mono HB.out.size)⟩)
      · cases c6 : x.lo == 1
        · have HE : Hid (cntB x.lo x.hi = true) := by show cntB x.lo x.hi = true; unfold cntB; simp [c1, c2, c3, c6]
          go_enter Tryz.func82, Tryz.ntmps82
          go_wp2_with (first
            | (go_at_call 97; refine hR.mono ?_; clear hR; rintro e w1 ⟨rfl, hB1⟩; obtain ⟨b0, b1, b2, b3, b4, b5⟩ := (HN.out.later hB1).at0)
            | (go_at_call 61; refine (N1 _).mono ?_; clear N1; rintro e w2 ⟨rfl, rfl⟩)
            | (go_at_call 61; refine (N2 _).mono ?_; clear N2; rintro e w2 ⟨rfl, rfl⟩))
          all_goals first
            | (rename_i q1 q2; cases q1; done)
            | (go_ret; exact ⟨by rw [HE.out]; rfl, HB.out.trans (hB1.mono HB.out.size)⟩)
        · have c7 : (x.hi == 1) = false := by simp at c3 ⊢; omega
          have HE : Hid (cntB x.lo x.hi = true) := by show cntB x.lo x.hi = true; unfold cntB; simp [c1, c2, c3, c6, c7]
          go_enter Tryz.func82, Tryz.ntmps82
          go_wp2_with (first
            | (go_at_call 97; refine hR.mono ?_; clear hR; rintro e w1 ⟨rfl, hB1⟩; obtain ⟨b0, b1, b2, b3, b4, b5⟩ := (HN.out.later hB1).at0)
            | (go_at_call 61; refine (N1 _).mono ?_; clear N1; rintro e w2 ⟨rfl, rfl⟩)
            | (go_at_call 61; refine (N2 _).mono ?_; clear N2; rintro e w2 ⟨rfl, rfl⟩))
          all_goals first
            | (rename_i q1 q2; cases q1; done)
            | (go_ret; exact ⟨by rw [HE.out]; rfl, HB.out.trans (hB1.mono HB.out.size)⟩)
    · have HE : Hid (cntB x.lo x.hi = false) := by show cntB x.lo x.hi = false; unfold cntB; simp [c1, c2]
      go_enter Tryz.func82, Tryz.ntmps82
      go_wp2_with (first
        | (go_at_call 97; refine hR.mono ?_; clear hR; rintro e w1 ⟨rfl, hB1⟩; obtain ⟨b0, b1, b2, b3, b4, b5⟩ := (HN.out.later hB1).at0)
        | (go_at_call 61; refine (N1 _).mono ?_; clear N1; rintro e w2 ⟨rfl, rfl⟩)
        | (go_at_call 61; refine (N2 _).mono ?_; clear N2; rintro e w2 ⟨rfl, rfl⟩))
      all_goals first
        | (rename_i q1 q2; cases q1; done)
        | (go_ret; exact ⟨by rw [HE.out]; rfl, HB.out.trans (hB1.mono HB.out.size)⟩)
  · have HE : Hid (cntB x.lo x.hi = false) := by show cntB x.lo x.hi = false; unfold cntB; simp [c1]
    go_enter Tryz.func82, Tryz.ntmps82
    go_wp2_with (first
      | (go_at_call 97; refine hR.mono ?_; clear hR; rintro e w1 ⟨rfl, hB1⟩; obtain ⟨b0, b1, b2, b3, b4, b5⟩ := (HN.out.later hB1).at0)
      | (go_at_call 61; refine (N1 _).mono ?_; clear N1; rintro e w2 ⟨rfl, rfl⟩)
      | (go_at_call 61; refine (N2 _).mono ?_; clear N2; rintro e w2 ⟨rfl, rfl⟩))
    all_goals first
      | (rename_i q1 q2; cases q1; done)
      | (go_ret; exact ⟨by rw [HE.out]; rfl, HB.out.trans (hB1.mono HB.out.size)⟩)
/-- Of a node whose kind has no parts. -/
theorem refRight_leaf (x : Pt) (w : World) (hs1 : x.s.size ≤ maxLen) (hs2 : x.t.size ≤ maxLen) (hl : x.n ≤ 9223372036854775807) (hrow : isRow x.k = false) :
    Calls Tryz.prog 82 #[x.val] w fun e w' => e = .returned (.bool (rightN x)) ∧ Below w.heap.size w w' := by
  rw [rightN_leaf hrow]
  cases h : x.n == 0 && (nameB x.s && nameB x.t) with
  | false =>
    have := refRight_leaf0 x w hs1 hs2 hl hrow h
    have e : (x.n == 0 && (nameB x.s && (nameB x.t && (if x.k = 5 then cntB x.lo x.hi else ((x.k == 1 || x.k == 6) && (x.lo == 0 && x.hi == 0)))))) = false := by
      rw [← Bool.and_assoc (nameB x.s), ← Bool.and_assoc, h, Bool.false_and]
    rw [e]
    exact this
  | true =>
    simp only [Bool.and_eq_true] at h
    obtain ⟨h0, h1, h2⟩ := h
    have h0' : x.n = 0 := by simpa using h0
    rw [h0, h1, h2, Bool.true_and, Bool.true_and, Bool.true_and]
    by_cases h5 : x.k = 5
    · rw [if_pos h5]
      exact refRight_leaf5 x w hs1 hs2 hrow h0' h1 h2 (by simp [h5])
    · rw [if_neg h5]
      exact refRight_leaf1 x w hs1 hs2 hrow h0' h1 h2 (by simp [h5])
end Go.Proofs.YtfnfegcjgnbgbaaGreatDoor
namespace Go.Proofs.YtfnfegcjgnbgbaaGreatDoor
open Go.RowKit

theorem row_false {x : Pt} (hrow : isRow x.k = true) (h : ¬ (emptyB x.s = true ∧ emptyB x.t = true ∧ x.lo = 0 ∧ x.hi = 0 ∧ 2 ≤ x.n)) : rightP x = false := by
  rw [Bool.eq_false_iff]
  intro e
  rw [rightP_eq, Bool.and_eq_true] at e
  have e1 := e.1
  unfold rightN at e1
  rw [if_pos hrow] at e1
  unfold rowB at e1
  simp only [Bool.and_eq_true, beq_iff_eq, decide_eq_true_eq] at e1
  exact h ⟨e1.1, e1.2.1, e1.2.2.1, e1.2.2.2.1, e1.2.2.2.2.1⟩
theorem row_part {x : Pt} (hrow : isRow x.k = true) {i : Nat} (hi : i < x.n) (h : ¬ ((x.c i).k ≠ x.k ∧ rightP (x.c i) = true)) : rightP x = false := by
  rw [Bool.eq_false_iff]
  intro e
  rw [rightP_eq, Bool.and_eq_true, allN_true] at e
  have e1 := e.1
  unfold rightN at e1
  rw [if_pos hrow] at e1
  unfold rowB ownB at e1
  simp only [Bool.and_eq_true, Bool.not_not, allN_true] at e1
  have e2 := e1.2.2.2.2.2 i hi
  refine h ⟨fun q => ?_, e.2 i hi⟩
  rw [q] at e2
  simp at e2
theorem row_true {x : Pt} (hrow : isRow x.k = true) (h : emptyB x.s = true ∧ emptyB x.t = true ∧ x.lo = 0 ∧ x.hi = 0 ∧ 2 ≤ x.n) (hp : ∀ i, i < x.n → (x.c i).k ≠ x.k ∧ rightP (x.c i) = true) : rightP x = true := by
  obtain ⟨h1, h2, h3, h4, h5⟩ := h
  rw [rightP_eq, Bool.and_eq_true, allN_true]
  refine ⟨?_, fun i hi => (hp i hi).2⟩
  unfold rightN
  rw [if_pos hrow]
  unfold rowB ownB
  simp only [Bool.and_eq_true, Bool.not_not, allN_true, beq_iff_eq, decide_eq_true_eq]
  refine ⟨h1, h2, h3, h4, h5, fun i hi => ?_⟩
  have := (hp i hi).1
  simpa using this
set_option maxRecDepth 100000 in
set_option maxHeartbeats 8000000 in
theorem refRight_row (x : Pt) (w : World) (hX : IsP w x) (hrow : isRow x.k = true) (hh : emptyB x.s = true ∧ emptyB x.t = true ∧ x.lo = 0 ∧ x.hi = 0 ∧ 2 ≤ x.n)
    (ih : ∀ i, i < x.n → ∀ (w : World), IsP w (x.c i) → Calls Tryz.prog 82 #[(x.c i).val] w fun e w' => e = .returned (.bool (rightP (x.c i))) ∧ Below w.heap.size w w') :
    Calls Tryz.prog 82 #[x.val] w fun e w' => e = .returned (.bool (rightP x)) ∧ Below w.heap.size w w' := by
  obtain ⟨r, hr⟩ : ∃ r, r = rightP x := ⟨_, rfl⟩
  have HF : Hid (∀ i, i < x.n → ¬ ((x.c i).k ≠ x.k ∧ rightP (x.c i) = true) → r = false) := fun i hi h => hr.trans (row_part hrow hi h)
  have HT : Hid ((∀ i, i < x.n → (x.c i).k ≠ x.k ∧ rightP (x.c i) = true) → r = true) := fun h => hr.trans (row_true hrow hh h)
  rw [← hr]
  obtain ⟨A, hA, hB, hs, hn⟩ := boxP_one x w
  obtain ⟨a0, a1, a2, a3, a4, a5⟩ := hn.at0
  have HB : Hid (Below w.heap.size w A) := hB
  have HN : Hid (NodeP A w.heap.size 0 x) := hn
  have hR := refRow_any x A
  rw [hrow] at hR
  have HX : Hid (IsP w x) := hX
  have hlen := hX.len
  have HI : Hid (∀ i, i < x.n → ∀ W, Below w.heap.size w W → Calls Tryz.prog 82 #[(x.c i).val] W fun e w' => e = .returned (.bool (rightP (x.c i))) ∧ Below W.heap.size W w') := fun i hi W hW => by
    obtain ⟨_, _, _, _, h1⟩ := (hX.later hW).part hi
    exact ih i hi W h1
  obtain ⟨h1, h2, h3, h4, h5⟩ := hh
  have t1 : (x.s.toList == []) = true := h1
  have t2 : (x.t.toList == []) = true := h2
  have t3 : (x.lo != 0) = false := by simp [h3]
  have t4 : (x.hi != 0) = false := by simp [h4]
  have t5 : ¬ (((x.n : Nat) : Int) < 2) := by omega
  clear hB hn hX ih hr hrow h1 h2 h3 h4 h5 hs
  go_enter Tryz.func82, Tryz.ntmps82
  go_wp2_with (go_at_call 97; refine hR.mono ?_; clear hR; rintro e w1 ⟨rfl, hB1⟩; obtain ⟨b0, b1, b2, b3, b4, b5⟩ := (HN.out.later hB1).at0)
  have hw1 : Below w.heap.size w w1 := HB.out.trans (hB1.mono HB.out.size)
  have HN1 : Hid (NodeP w1 w.heap.size 0 x) := HN.out.later hB1
  clear HN a0 a1 a2 a3 a4 a5 b0 b1 b2 b3 b4 b5 t1 t2 t3 t4 t5 hB1 HB
  go_loopw [3] (fun u wr => ∃ k : Nat, k ≤ x.n ∧ u = .int .i64 k ∧ Hid (∀ i, i < k → (x.c i).k ≠ x.k ∧ rightP (x.c i) = true) ∧ Below w1.heap.size w1 wr) (fun u _ => x.n - (intOf u).toNat)
  case atStart => exact ⟨0, Nat.zero_le _, rfl, fun i hi => absurd hi (Nat.not_lt_zero _), Below.refl _ _⟩
  case round =>
    obtain ⟨k, hk, rfl, HK, hB⟩ := hrel
    have hw := hw1.trans (hB.mono hw1.size)
    obtain ⟨c0, c1, c2, c3, c4, c5⟩ := (HN1.out.later hB).at0
    by_cases hkn : k < x.n
    · obtain ⟨b, o, ea, hn, -⟩ := (HX.out.later hw).part hkn
      rw [ea] at c5
      obtain ⟨d0, d1, d2, d3, d4, d5⟩ := hn
      have HKN : Hid (k < x.n) := hkn
      have HQ : Hid (Below w.heap.size w wr) := hw
      by_cases hkk : (x.c k).k = x.k
      · have t : ((x.c k).k == x.k) = true := by simpa using hkk
        have HE : Hid (r = false) := HF.out k hkn (fun q => q.1 hkk)
        clear hw hkk ea
        go_wp2_with fail
        go_quiet (fail)
        go_wp2
        try rw [Exit.noGoto_ret]
        go_ret
        exact ⟨by rw [HE.out]; rfl, bd HQ.out _⟩
      · have t : ((x.c k).k == x.k) = false := by simpa using hkk
        have hc := HI.out k hkn wr.drew (hw.trans (Below.refl _ _).drew)
        have HKK : Hid (¬ (x.c k).k = x.k) := hkk
        obtain ⟨z, hz⟩ : ∃ z, z = rightP (x.c k) := ⟨_, rfl⟩
        rw [← hz] at hc
        have HE : Hid (z = rightP (x.c k)) := hz
        clear hw hz ea hkk
        go_wp2_with fail
        go_region_with (go_at_call 82; refine hc.mono ?_; clear hc; rintro e w2 ⟨rfl, hB2⟩)
        all_goals cases z
        all_goals go_wp2
        all_goals first
          | (go_ret; exact ⟨by rw [HF.out k HKN.out (fun q => by have := HE.out; rw [q.2] at this; cases this)]; rfl, HQ.out.trans ((Below.refl _ _).drew.trans (hB2.mono (by have := HQ.out.size; exact this)))⟩)
          | (go_roundw
             case rel =>
               refine ⟨k + 1, HKN.out, by go_num, fun i hi => ?_, hB.trans ((Below.refl _ _).drew.trans (hB2.mono hB.size))⟩
               by_cases e : i = k
               · rw [e]; exact ⟨HKK.out, HE.out.symm⟩
               · exact HK.out i (by omega)
             case measure => have := HKN.out; simp [intOf]; omega)
    · obtain rfl : k = x.n := by omega
      go_wp2
      go_ret
      exact ⟨by rw [HT.out HK.out]; rfl, hw⟩
set_option maxRecDepth 100000 in
set_option maxHeartbeats 8000000 in
theorem refRight_no (x : Pt) (w : World) (hX : IsP w x) (hrow : isRow x.k = true) (h : ¬ (emptyB x.s = true ∧ emptyB x.t = true ∧ x.lo = 0 ∧ x.hi = 0 ∧ 2 ≤ x.n)) :
    Calls Tryz.prog 82 #[x.val] w fun e w' => e = .returned (.bool false) ∧ Below w.heap.size w w' := by
  obtain ⟨A, hA, hB, hs, hn⟩ := boxP_one x w
  obtain ⟨a0, a1, a2, a3, a4, a5⟩ := hn.at0
  have HB : Hid (Below w.heap.size w A) := hB
  have HN : Hid (NodeP A w.heap.size 0 x) := hn
  have hR := refRow_any x A
  rw [hrow] at hR
  have hlen := hX.len
  clear hB hn hX hrow hs
  by_cases h1 : emptyB x.s = true
  · have t1 : (x.s.toList == []) = true := h1
    by_cases h2 : emptyB x.t = true
    · have t2 : (x.t.toList == []) = true := h2
      by_cases h3 : x.lo = 0
      · have t3 : (x.lo != 0) = false := by simp [h3]
        by_cases h4 : x.hi = 0
        · have t4 : (x.hi != 0) = false := by simp [h4]
          by_cases h5 : 2 ≤ x.n
          · have t5 : ¬ (((x.n : Nat) : Int) < 2) := by omega
            exact absurd ⟨h1, h2, h3, h4, h5⟩ h
          · have t5 : (((x.n : Nat) : Int) < 2) := by omega
            clear h h1 h2 h3 h4 h5
            go_enter Tryz.func82, Tryz.ntmps82
            go_wp2_with (go_at_call 97; refine hR.mono ?_; clear hR; rintro e w1 ⟨rfl, hB1⟩; obtain ⟨b0, b1, b2, b3, b4, b5⟩ := (HN.out.later hB1).at0)
            go_ret
            exact ⟨rfl, HB.out.trans (hB1.mono HB.out.size)⟩
        · have t4 : (x.hi != 0) = true := by simp [h4]
          clear h h1 h2 h3 h4
          go_enter Tryz.func82, Tryz.ntmps82
          go_wp2_with (go_at_call 97; refine hR.mono ?_; clear hR; rintro e w1 ⟨rfl, hB1⟩; obtain ⟨b0, b1, b2, b3, b4, b5⟩ := (HN.out.later hB1).at0)
          go_ret
          exact ⟨rfl, HB.out.trans (hB1.mono HB.out.size)⟩
      · have t3 : (x.lo != 0) = true := by simp [h3]
        clear h h1 h2 h3
        go_enter Tryz.func82, Tryz.ntmps82
        go_wp2_with (go_at_call 97; refine hR.mono ?_; clear hR; rintro e w1 ⟨rfl, hB1⟩; obtain ⟨b0, b1, b2, b3, b4, b5⟩ := (HN.out.later hB1).at0)
        go_ret
        exact ⟨rfl, HB.out.trans (hB1.mono HB.out.size)⟩
    · have t2 : (x.t.toList == []) = false := by unfold emptyB at h2; simpa using h2
      clear h h1 h2
      go_enter Tryz.func82, Tryz.ntmps82
      go_wp2_with (go_at_call 97; refine hR.mono ?_; clear hR; rintro e w1 ⟨rfl, hB1⟩; obtain ⟨b0, b1, b2, b3, b4, b5⟩ := (HN.out.later hB1).at0)
      go_ret
      exact ⟨rfl, HB.out.trans (hB1.mono HB.out.size)⟩
  · have t1 : (x.s.toList == []) = false := by unfold emptyB at h1; simpa using h1
    clear h h1
    go_enter Tryz.func82, Tryz.ntmps82
    go_wp2_with (go_at_call 97; refine hR.mono ?_; clear hR; rintro e w1 ⟨rfl, hB1⟩; obtain ⟨b0, b1, b2, b3, b4, b5⟩ := (HN.out.later hB1).at0)
    go_ret
    exact ⟨rfl, HB.out.trans (hB1.mono HB.out.size)⟩
theorem refRightP_any : ∀ (x : Pt) (w : World), IsP w x → POk x → Calls Tryz.prog 82 #[x.val] w fun e w' => e = .returned (.bool (rightP x)) ∧ Below w.heap.size w w' := by
  refine Pt.ind fun x ih w hX hok => ?_
  cases hrow : isRow x.k with
  | true =>
    by_cases h : emptyB x.s = true ∧ emptyB x.t = true ∧ x.lo = 0 ∧ x.hi = 0 ∧ 2 ≤ x.n
    · exact refRight_row x w hX hrow h fun i hi w' h' => ih i hi w' h' (((pOk_eq x).1 hok).2.2 i hi)
    · rw [row_false hrow h]
      exact refRight_no x w hX hrow h
  | false =>
    have e : rightP x = rightN x := by
      rw [rightP_eq]
      by_cases h0 : x.n = 0
      · rw [h0]; simp [allN]
      · have : rightN x = false := by
          rw [rightN_leaf hrow]
          have : (x.n == 0) = false := by simpa using h0
          rw [this]; rfl
        rw [this]; rfl
    rw [e]
    exact refRight_leaf x w ((pOk_eq x).1 hok).1 ((pOk_eq x).1 hok).2.1 hX.len hrow
set_option maxRecDepth 100000 in
theorem refCheckP_any (x : Pt) (w : World) (hX : IsP w x) (hsm : x.size ≤ 1048576) (hok : POk x) : Calls Tryz.prog 60 #[x.val] w fun e w' => e = .returned (.int .i64 (chkP x)) ∧ Below w.heap.size w w' := by
  obtain ⟨A, hA, hB, hs, hn⟩ := boxP_one x w
  obtain ⟨a0, a1, a2, a3, a4, a5⟩ := hn.at0
  have HB : Hid (Below w.heap.size w A) := hB
  have HN : Hid (NodeP A w.heap.size 0 x) := hn
  have C1 : Hid (Calls Tryz.prog 22 #[x.val] A _) := refSizeP_any x A (hX.later hB) hsm
  have C2 : Hid (∀ d, Below A.heap.size A d → Calls Tryz.prog 81 #[x.val] d _) := fun d h => refDeepP_any x d ((hX.later hB).later h) hsm
  have C3 : Hid (∀ d, Below A.heap.size A d → Calls Tryz.prog 82 #[x.val] d _) := fun d h => refRightP_any x d ((hX.later hB).later h) hok
  obtain ⟨r, hr⟩ : ∃ r, r = rightP x := ⟨_, rfl⟩
  rw [← hr] at C3
  have H1 : Hid (64 < x.size → chkP x = 2) := fun h => by unfold chkP; rw [if_pos (.inl h)]
  have H2 : Hid (8 < x.deep → chkP x = 2) := fun h => by unfold chkP; rw [if_pos (.inr h)]
  have H3 : Hid (¬ 64 < x.size → ¬ 8 < x.deep → chkP x = if r = true then 0 else 1) := fun h1 h2 => by unfold chkP; rw [if_neg (by omega), hr]
  obtain ⟨v, hv⟩ : ∃ v, v = chkP x := ⟨_, rfl⟩
  rw [← hv] at H1 H2 H3 ⊢
  obtain ⟨sz, hsz⟩ : ∃ sz, sz = x.size := ⟨_, rfl⟩
  obtain ⟨dp, hdp⟩ : ∃ dp, dp = x.deep := ⟨_, rfl⟩
  rw [← hsz] at H1 H3 C1
  rw [← hdp] at H2 H3 C2
  clear hX hok hB hn hs hr hv hsz hdp hsm
  by_cases h1 : 64 < sz
  · have t1 : ((64 : Int) < ((sz : Nat) : Int)) := by omega
    rw [H1.out h1]
    clear h1 H1 H2 H3
    go_enter Tryz.func60, Tryz.ntmps60
    go_wp2_with (first
      | (go_at_call 22; refine C1.out.mono ?_; rintro e w1 ⟨rfl, hB1⟩; obtain ⟨b0, b1, b2, b3, b4, b5⟩ := (HN.out.later hB1).at0)
      | (go_at_call 81; refine (C2.out _ hB1).mono ?_; rintro e w2 ⟨rfl, hB2⟩; have hB12 := hB1.trans (hB2.mono hB1.size); obtain ⟨c0, c1, c2, c3, c4, c5⟩ := (HN.out.later hB12).at0)
      | (go_at_call 82; refine (C3.out _ hB12).mono ?_; rintro e w3 ⟨rfl, hB3⟩))
    go_ret
    exact ⟨rfl, HB.out.trans (hB1.mono HB.out.size)⟩
  · have t1 : ¬ ((64 : Int) < ((sz : Nat) : Int)) := by omega
    by_cases h2 : 8 < dp
    · have t2 : ((8 : Int) < ((dp : Nat) : Int)) := by omega
      rw [H2.out h2]
      clear h1 h2 H1 H2 H3
      go_enter Tryz.func60, Tryz.ntmps60
      go_wp2_with (first
      | (go_at_call 22; refine C1.out.mono ?_; rintro e w1 ⟨rfl, hB1⟩; obtain ⟨b0, b1, b2, b3, b4, b5⟩ := (HN.out.later hB1).at0)
      | (go_at_call 81; refine (C2.out _ hB1).mono ?_; rintro e w2 ⟨rfl, hB2⟩; have hB12 := hB1.trans (hB2.mono hB1.size); obtain ⟨c0, c1, c2, c3, c4, c5⟩ := (HN.out.later hB12).at0)
      | (go_at_call 82; refine (C3.out _ hB12).mono ?_; rintro e w3 ⟨rfl, hB3⟩))
      go_ret
      exact ⟨rfl, HB.out.trans (hB12.mono HB.out.size)⟩
    · have t2 : ¬ ((8 : Int) < ((dp : Nat) : Int)) := by omega
      rw [H3.out h1 h2]
      clear h1 h2 H1 H2 H3
      cases r
      · go_enter Tryz.func60, Tryz.ntmps60
        go_wp2_with (first
      | (go_at_call 22; refine C1.out.mono ?_; rintro e w1 ⟨rfl, hB1⟩; obtain ⟨b0, b1, b2, b3, b4, b5⟩ := (HN.out.later hB1).at0)
      | (go_at_call 81; refine (C2.out _ hB1).mono ?_; rintro e w2 ⟨rfl, hB2⟩; have hB12 := hB1.trans (hB2.mono hB1.size); obtain ⟨c0, c1, c2, c3, c4, c5⟩ := (HN.out.later hB12).at0)
      | (go_at_call 82; refine (C3.out _ hB12).mono ?_; rintro e w3 ⟨rfl, hB3⟩))
        go_ret
        exact ⟨rfl, HB.out.trans ((hB12.trans (hB3.mono hB12.size)).mono HB.out.size)⟩
      · go_enter Tryz.func60, Tryz.ntmps60
        go_wp2_with (first
      | (go_at_call 22; refine C1.out.mono ?_; rintro e w1 ⟨rfl, hB1⟩; obtain ⟨b0, b1, b2, b3, b4, b5⟩ := (HN.out.later hB1).at0)
      | (go_at_call 81; refine (C2.out _ hB1).mono ?_; rintro e w2 ⟨rfl, hB2⟩; have hB12 := hB1.trans (hB2.mono hB1.size); obtain ⟨c0, c1, c2, c3, c4, c5⟩ := (HN.out.later hB12).at0)
      | (go_at_call 82; refine (C3.out _ hB12).mono ?_; rintro e w3 ⟨rfl, hB3⟩))
        go_ret
        exact ⟨rfl, HB.out.trans ((hB12.trans (hB3.mono hB12.size)).mono HB.out.size)⟩
end Go.Proofs.YtfnfegcjgnbgbaaGreatDoor
