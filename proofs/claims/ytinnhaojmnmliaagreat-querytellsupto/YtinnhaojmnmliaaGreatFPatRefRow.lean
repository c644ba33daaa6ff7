/-
  The document's own Row and agree.
  The document's own right, of a node whose kind has no parts.
  pat.Deep and the document's.
-/
import Derived.Test.YtinnhaojmnmliaaGreatFPatNamed
import Derived.Test.YtinnhaojmnmliaaGreatCPatBase
import Derived.Test.YtinnhaojmnmliaaGreatFPatKinds
import Derived.Test.YtinnhaojmnmliaaGreatFVarsMath
import Derived.Test.YtinnhaojmnmliaaGreatFPatDown
namespace Go.Proofs.YtinnhaojmnmliaaGreat
open Go.RowKit

set_option maxRecDepth 100000 in
set_option maxHeartbeats 2000000 in
theorem refRow_any (x : Pt) (w : World) : Calls Tryz.prog 91 #[x.val] w fun e w' => e = .returned (.bool (isRow x.k)) ∧ Below w.heap.size w w' := by
  obtain ⟨A, hA, hB, hs, hn⟩ := boxP_one x w
  obtain ⟨a0, a1, a2, a3, a4, a5⟩ := hn.at0
  have HB : Hid (Below w.heap.size w A) := hB
  have hr : isRow x.k = (x.k == 2 || x.k == 3 || x.k == 4) := rfl
  rw [hr]
  clear hB hn hr
  cases h2 : x.k == 2
  · cases h3 : x.k == 3
    · cases h4 : x.k == 4
      all_goals (go_enter Tryz.func91, Tryz.ntmps91)
      all_goals go_wp2
      all_goals go_ret
      all_goals exact ⟨rfl, HB.out⟩
    · go_enter Tryz.func91, Tryz.ntmps91
      go_wp2
      go_ret
      exact ⟨rfl, HB.out⟩
  · go_enter Tryz.func91, Tryz.ntmps91
    go_wp2
    go_ret
    exact ⟨rfl, HB.out⟩
end Go.Proofs.YtinnhaojmnmliaaGreat
namespace Go.Proofs.YtinnhaojmnmliaaGreat
open Go.RowKit

theorem rightN_leaf {x : Pt} (hrow : isRow x.k = false) : rightN x = (x.n == 0 && (nameB x.s && (nameB x.t && (if x.k = 5 then cntB x.lo x.hi else ((x.k == 1 || x.k == 6) && (x.lo == 0 && x.hi == 0)))))) := by
  unfold rightN
  rw [if_neg (by rw [hrow]; simp)]
  by_cases h5 : x.k = 5
  · rw [if_pos h5, if_pos h5]
    unfold manyB
    cases nameB x.s <;> cases nameB x.t <;> cases cntB x.lo x.hi <;> simp
  · rw [if_neg h5, if_neg h5]
    by_cases h16 : x.k = 1 ∨ x.k = 6
    · rw [if_pos h16]
      have : (x.k == 1 || x.k == 6) = true := by simpa using h16
      rw [this]
      unfold leafB
      cases nameB x.s <;> cases nameB x.t <;> cases (x.lo == 0) <;> cases (x.hi == 0) <;> simp
    · rw [if_neg h16]
      have : (x.k == 1 || x.k == 6) = false := by simpa using h16
      rw [this]
      simp
set_option maxRecDepth 100000 in
set_option maxHeartbeats 4000000 in
theorem refRight_leaf0 (x : Pt) (w : World) (hs1 : x.s.size ≤ maxLen) (hs2 : x.t.size ≤ maxLen) (_ : x.n ≤ 9223372036854775807) (hrow : isRow x.k = false) (h : (x.n == 0 && (nameB x.s && nameB x.t)) = false) :
    Calls Tryz.prog 64 #[x.val] w fun e w' => e = .returned (.bool false) ∧ Below w.heap.size w w' := by
  obtain ⟨A, hA, hB, hs, hn⟩ := boxP_one x w
  obtain ⟨a0, a1, a2, a3, a4, a5⟩ := hn.at0
  have HB : Hid (Below w.heap.size w A) := hB
  have HN : Hid (NodeP A w.heap.size 0 x) := hn
  have hR := refRow_any x A
  rw [hrow] at hR
  have N1 := fun d => refName_any x.s d hs1
  have N2 := fun d => refName_any x.t d hs2
  clear hB hn hrow hs1 hs2
  cases h0 : x.n == 0
  · have t0 : (((x.n : Nat) : Int) != 0) = true := by simpa using h0
    clear h h0
    go_enter Tryz.func64, Tryz.ntmps64
    go_wp2_with (go_at_call 91; refine hR.mono ?_; clear hR; rintro e w1 ⟨rfl, hB1⟩; obtain ⟨b0, b1, b2, b3, b4, b5⟩ := (HN.out.later hB1).at0)
    all_goals first
      | (rename_i q1 q2; cases q1; done)
      | (go_ret; exact ⟨rfl, HB.out.trans (hB1.mono HB.out.size)⟩)
  · have t0 : (((x.n : Nat) : Int) != 0) = false := by simpa using h0
    cases h1 : nameB x.s
    · rw [h1] at N1
      clear h h0
      go_enter Tryz.func64, Tryz.ntmps64
      go_wp2_with (first
        | (go_at_call 91; refine hR.mono ?_; clear hR; rintro e w1 ⟨rfl, hB1⟩; obtain ⟨b0, b1, b2, b3, b4, b5⟩ := (HN.out.later hB1).at0)
        | (go_at_call 32; refine (N1 _).mono ?_; rintro e w2 ⟨rfl, rfl⟩))
      all_goals first
        | (rename_i q1 q2; cases q1; done)
        | (go_ret; exact ⟨rfl, HB.out.trans (hB1.mono HB.out.size)⟩)
    · have h2 : nameB x.t = false := by rw [h0, h1] at h; simpa using h
      rw [h1] at N1
      rw [h2] at N2
      clear h h0 h1 h2
      go_enter Tryz.func64, Tryz.ntmps64
      go_wp2_with (first
        | (go_at_call 91; refine hR.mono ?_; clear hR; rintro e w1 ⟨rfl, hB1⟩; obtain ⟨b0, b1, b2, b3, b4, b5⟩ := (HN.out.later hB1).at0)
        | (go_at_call 32; refine (N1 _).mono ?_; clear N1; rintro e w2 ⟨rfl, rfl⟩)
        | (go_at_call 32; refine (N2 _).mono ?_; rintro e w2 ⟨rfl, rfl⟩))
      all_goals first
        | (rename_i q1 q2; cases q1; done)
        | (go_ret; exact ⟨rfl, HB.out.trans (hB1.mono HB.out.size)⟩)
set_option maxRecDepth 100000 in
set_option maxHeartbeats 4000000 in
theorem refRight_leaf1 (x : Pt) (w : World) (hs1 : x.s.size ≤ maxLen) (hs2 : x.t.size ≤ maxLen) (hrow : isRow x.k = false) (h0 : x.n = 0) (h1 : nameB x.s = true) (h2 : nameB x.t = true) (h5 : (x.k == 5) = false) :
    Calls Tryz.prog 64 #[x.val] w fun e w' => e = .returned (.bool ((x.k == 1 || x.k == 6) && (x.lo == 0 && x.hi == 0))) ∧ Below w.heap.size w w' := by
  obtain ⟨A, hA, hB, hs, hn⟩ := boxP_one x w
  obtain ⟨a0, a1, a2, a3, a4, a5⟩ := hn.at0
  have HB : Hid (Below w.heap.size w A) := hB
  have HN : Hid (NodeP A w.heap.size 0 x) := hn
  have hR := refRow_any x A
  rw [hrow] at hR
  have N1 := fun d => refName_any x.s d hs1
  have N2 := fun d => refName_any x.t d hs2
  rw [h1] at N1
  rw [h2] at N2
  have t0 : (((x.n : Nat) : Int) != 0) = false := by simp [h0]
  clear hB hn hrow hs1 hs2 h0 h1 h2
  cases k1 : x.k == 1
  · cases k6 : x.k == 6
    · go_enter Tryz.func64, Tryz.ntmps64
      go_wp2_with (first
        | (go_at_call 91; refine hR.mono ?_; clear hR; rintro e w1 ⟨rfl, hB1⟩; obtain ⟨b0, b1, b2, b3, b4, b5⟩ := (HN.out.later hB1).at0)
        | (go_at_call 32; refine (N1 _).mono ?_; clear N1; rintro e w2 ⟨rfl, rfl⟩)
        | (go_at_call 32; refine (N2 _).mono ?_; clear N2; rintro e w2 ⟨rfl, rfl⟩))
      all_goals first
        | (rename_i q1 q2; cases q1; done)
        | (go_ret; exact ⟨rfl, HB.out.trans (hB1.mono HB.out.size)⟩)
    · cases l0 : x.lo == 0
      · go_enter Tryz.func64, Tryz.ntmps64
        go_wp2_with (first
          | (go_at_call 91; refine hR.mono ?_; clear hR; rintro e w1 ⟨rfl, hB1⟩; obtain ⟨b0, b1, b2, b3, b4, b5⟩ := (HN.out.later hB1).at0)
          | (go_at_call 32; refine (N1 _).mono ?_; clear N1; rintro e w2 ⟨rfl, rfl⟩)
          | (go_at_call 32; refine (N2 _).mono ?_; clear N2; rintro e w2 ⟨rfl, rfl⟩))
        all_goals first
          | (rename_i q1 q2; cases q1; done)
          | (go_ret; exact ⟨rfl, HB.out.trans (hB1.mono HB.out.size)⟩)
      · cases i0 : x.hi == 0
        · go_enter Tryz.func64, Tryz.ntmps64
          go_wp2_with (first
            | (go_at_call 91; refine hR.mono ?_; clear hR; rintro e w1 ⟨rfl, hB1⟩; obtain ⟨b0, b1, b2, b3, b4, b5⟩ := (HN.out.later hB1).at0)
            | (go_at_call 32; refine (N1 _).mono ?_; clear N1; rintro e w2 ⟨rfl, rfl⟩)
            | (go_at_call 32; refine (N2 _).mono ?_; clear N2; rintro e w2 ⟨rfl, rfl⟩))
          all_goals first
            | (rename_i q1 q2; cases q1; done)
            | (go_ret; exact ⟨rfl, HB.out.trans (hB1.mono HB.out.size)⟩)
        · go_enter Tryz.func64, Tryz.ntmps64
          go_wp2_with (first
            | (go_at_call 91; refine hR.mono ?_; clear hR; rintro e w1 ⟨rfl, hB1⟩; obtain ⟨b0, b1, b2, b3, b4, b5⟩ := (HN.out.later hB1).at0)
            | (go_at_call 32; refine (N1 _).mono ?_; clear N1; rintro e w2 ⟨rfl, rfl⟩)
            | (go_at_call 32; refine (N2 _).mono ?_; clear N2; rintro e w2 ⟨rfl, rfl⟩))
          all_goals first
            | (rename_i q1 q2; cases q1; done)
            | (go_ret; exact ⟨rfl, HB.out.trans (hB1.mono HB.out.size)⟩)
  · cases l0 : x.lo == 0
    · go_enter Tryz.func64, Tryz.ntmps64
      go_wp2_with (first
        | (go_at_call 91; refine hR.mono ?_; clear hR; rintro e w1 ⟨rfl, hB1⟩; obtain ⟨b0, b1, b2, b3, b4, b5⟩ := (HN.out.later hB1).at0)
        | (go_at_call 32; refine (N1 _).mono ?_; clear N1; rintro e w2 ⟨rfl, rfl⟩)
        | (go_at_call 32; refine (N2 _).mono ?_; clear N2; rintro e w2 ⟨rfl, rfl⟩))
      all_goals first
        | (rename_i q1 q2; cases q1; done)
        | (go_ret; exact ⟨rfl, HB.out.trans (hB1.mono HB.out.size)⟩)
    · cases i0 : x.hi == 0
      · go_enter Tryz.func64, Tryz.ntmps64
        go_wp2_with (first
          | (go_at_call 91; refine hR.mono ?_; clear hR; rintro e w1 ⟨rfl, hB1⟩; obtain ⟨b0, b1, b2, b3, b4, b5⟩ := (HN.out.later hB1).at0)
          | (go_at_call 32; refine (N1 _).mono ?_; clear N1; rintro e w2 ⟨rfl, rfl⟩)
          | (go_at_call 32; refine (N2 _).mono ?_; clear N2; rintro e w2 ⟨rfl, rfl⟩))
        all_goals first
          | (rename_i q1 q2; cases q1; done)
          | (go_ret; exact ⟨rfl, HB.out.trans (hB1.mono HB.out.size)⟩)
      · go_enter Tryz.func64, Tryz.ntmps64
        go_wp2_with (first
          | (go_at_call 91; refine hR.mono ?_; clear hR; rintro e w1 ⟨rfl, hB1⟩; obtain ⟨b0, b1, b2, b3, b4, b5⟩ := (HN.out.later hB1).at0)
          | (go_at_call 32; refine (N1 _).mono ?_; clear N1; rintro e w2 ⟨rfl, rfl⟩)
          | (go_at_call 32; refine (N2 _).mono ?_; clear N2; rintro e w2 ⟨rfl, rfl⟩))
        all_goals first
          | (rename_i q1 q2; cases q1; done)
          | (go_ret; exact ⟨rfl, HB.out.trans (hB1.mono HB.out.size)⟩)
set_option maxRecDepth 100000 in
set_option maxHeartbeats 4000000 in
theorem refRight_leaf5 (x : Pt) (w : World) (hs1 : x.s.size ≤ maxLen) (hs2 : x.t.size ≤ maxLen) (hrow : isRow x.k = false) (h0 : x.n = 0) (h1 : nameB x.s = true) (h2 : nameB x.t = true) (h5 : (x.k == 5) = true) :
    Calls Tryz.prog 64 #[x.val] w fun e w' => e = .returned (.bool (cntB x.lo x.hi)) ∧ Below w.heap.size w w' := by
  obtain ⟨A, hA, hB, hs, hn⟩ := boxP_one x w
  obtain ⟨a0, a1, a2, a3, a4, a5⟩ := hn.at0
  have HB : Hid (Below w.heap.size w A) := hB
  have HN : Hid (NodeP A w.heap.size 0 x) := hn
  have hR := refRow_any x A
  rw [hrow] at hR
  have N1 := fun d => refName_any x.s d hs1
  have N2 := fun d => refName_any x.t d hs2
  rw [h1] at N1
  rw [h2] at N2
  have t0 : (((x.n : Nat) : Int) != 0) = false := by simp [h0]
  clear hB hn hrow hs1 hs2 h0 h1 h2
  by_cases c1 : 1 ≤ x.lo
  · by_cases c2 : x.lo ≤ 1000
    · cases c3 : x.hi == 0
      · by_cases c4 : x.lo ≤ x.hi
        · by_cases c5 : x.hi ≤ 1000
          · cases c6 : x.lo == 1
            · have HE : Hid (cntB x.lo x.hi = true) := by show cntB x.lo x.hi = true; unfold cntB; simp [c1, c2, c3, c4, c5, c6]
              go_enter Tryz.func64, Tryz.ntmps64
              go_wp2_with (first
                | (go_at_call 91; refine hR.mono ?_; clear hR; rintro e w1 ⟨rfl, hB1⟩; obtain ⟨b0, b1, b2, b3, b4, b5⟩ := (HN.out.later hB1).at0)
                | (go_at_call 32; refine (N1 _).mono ?_; clear N1; rintro e w2 ⟨rfl, rfl⟩)
                | (go_at_call 32; refine (N2 _).mono ?_; clear N2; rintro e w2 ⟨rfl, rfl⟩))
              all_goals first
                | (rename_i q1 q2; cases q1; done)
                | (go_ret; exact ⟨by rw [HE.out]; rfl, HB.out.trans (hB1.mono HB.out.size)⟩)
            · cases c7 : x.hi == 1
              · have HE : Hid (cntB x.lo x.hi = true) := by show cntB x.lo x.hi = true; unfold cntB; simp [c1, c2, c3, c4, c5, c6, c7]
                go_enter Tryz.func64, Tryz.ntmps64
                go_wp2_with (first
                  | (go_at_call 91; refine hR.mono ?_; clear hR; rintro e w1 ⟨rfl, hB1⟩; obtain ⟨b0, b1, b2, b3, b4, b5⟩ := (HN.out.later hB1).at0)
                  | (go_at_call 32; refine (N1 _).mono ?_; clear N1; rintro e w2 ⟨rfl, rfl⟩)
                  | (go_at_call 32; refine (N2 _).mono ?_; clear N2; rintro e w2 ⟨rfl, rfl⟩))
                all_goals first
                  | (rename_i q1 q2; cases q1; done)
                  | (go_ret; exact ⟨by rw [HE.out]; rfl, HB.out.trans (hB1.mono HB.out.size)⟩)
              · have HE : Hid (cntB x.lo x.hi = false) := by show cntB x.lo x.hi = false; unfold cntB; simp [c1, c2, c3, c4, c5, c6, c7]
                go_enter Tryz.func64, Tryz.ntmps64
                go_wp2_with (first
                  | (go_at_call 91; refine hR.mono ?_; clear hR; rintro e w1 ⟨rfl, hB1⟩; obtain ⟨b0, b1, b2, b3, b4, b5⟩ := (HN.out.later hB1).at0)
                  | (go_at_call 32; refine (N1 _).mono ?_; clear N1; rintro e w2 ⟨rfl, rfl⟩)
                  | (go_at_call 32; refine (N2 _).mono ?_; clear N2; rintro e w2 ⟨rfl, rfl⟩))
                all_goals first
                  | (rename_i q1 q2; cases q1; done)
                  | (go_ret; exact ⟨by rw [HE.out]; rfl, HB.out.trans (hB1.mono HB.out.size)⟩)
          · have HE : Hid (cntB x.lo x.hi = false) := by show cntB x.lo x.hi = false; unfold cntB; simp [c1, c2, c3, c4, c5]
            go_enter Tryz.func64, Tryz.ntmps64
            go_wp2_with (first
              | (go_at_call 91; refine hR.mono ?_; clear hR; rintro e w1 ⟨rfl, hB1⟩; obtain ⟨b0, b1, b2, b3, b4, b5⟩ := (HN.out.later hB1).at0)
              | (go_at_call 32; refine (N1 _).mono ?_; clear N1; rintro e w2 ⟨rfl, rfl⟩)
              | (go_at_call 32; refine (N2 _).mono ?_; clear N2; rintro e w2 ⟨rfl, rfl⟩))
            all_goals first
              | (rename_i q1 q2; cases q1; done)
              | (go_ret; exact ⟨by rw [HE.out]; rfl, HB.out.trans (hB1.mono HB.out.size)⟩)
        · have HE : Hid (cntB x.lo x.hi = false) := by show cntB x.lo x.hi = false; unfold cntB; simp [c1, c2, c3, c4]
          go_enter Tryz.func64, Tryz.ntmps64
          go_wp2_with (first
            | (go_at_call 91; refine hR.mono ?_; clear hR; rintro e w1 ⟨rfl, hB1⟩; obtain ⟨b0, b1, b2, b3, b4, b5⟩ := (HN.out.later hB1).at0)
            | (go_at_call 32; refine (N1 _).mono ?_; clear N1; rintro e w2 ⟨rfl, rfl⟩)
            | (go_at_call 32; refine (N2 _).mono ?_; clear N2; rintro e w2 ⟨rfl, rfl⟩))
          all_goals first
            | (rename_i q1 q2; cases q1; done)
            | (go_ret; exact ⟨by rw [HE.out]; rfl, HB.out.trans (hB1.mono HB.out.size)⟩)
      · cases c6 : x.lo == 1
        · have HE : Hid (cntB x.lo x.hi = true) := by show cntB x.lo x.hi = true; unfold cntB; simp [c1, c2, c3, c6]
          go_enter Tryz.func64, Tryz.ntmps64
          go_wp2_with (first
            | (go_at_call 91; refine hR.mono ?_; clear hR; rintro e w1 ⟨rfl, hB1⟩; obtain ⟨b0, b1, b2, b3, b4, b5⟩ := (HN.out.later hB1).at0)
            | (go_at_call 32; refine (N1 _).mono ?_; clear N1; rintro e w2 ⟨rfl, rfl⟩)
            | (go_at_call 32; refine (N2 _).mono ?_; clear N2; rintro e w2 ⟨rfl, rfl⟩))
          all_goals first
            | (rename_i q1 q2; cases q1; done)
            | (go_ret; exact ⟨by rw [HE.out]; rfl, HB.out.trans (hB1.mono HB.out.size)⟩)
        · have c7 : (x.hi == 1) = false := by simp at c3 ⊢; omega
          have HE : Hid (cntB x.lo x.hi = true) := by show cntB x.lo x.hi = true; unfold cntB; simp [c1, c2, c3, c6, c7]
          go_enter Tryz.func64, Tryz.ntmps64
          go_wp2_with (first
            | (go_at_call 91; refine hR.mono ?_; clear hR; rintro e w1 ⟨rfl, hB1⟩; obtain ⟨b0, b1, b2, b3, b4, b5⟩ := (HN.out.later hB1).at0)
            | (go_at_call 32; refine (N1 _).mono ?_; clear N1; rintro e w2 ⟨rfl, rfl⟩)
            | (go_at_call 32; refine (N2 _).mono ?_; clear N2; rintro e w2 ⟨rfl, rfl⟩))
          all_goals first
            | (rename_i q1 q2; cases q1; done)
            | (go_ret; exact ⟨by rw [HE.out]; rfl, HB.out.trans (hB1.mono HB.out.size)⟩)
    · have HE : Hid (cntB x.lo x.hi = false) := by show cntB x.lo x.hi = false; unfold cntB; simp [c1, c2]
      go_enter Tryz.func64, Tryz.ntmps64
      go_wp2_with (first
        | (go_at_call 91; refine hR.mono ?_; clear hR; rintro e w1 ⟨rfl, hB1⟩; obtain ⟨b0, b1, b2, b3, b4, b5⟩ := (HN.out.later hB1).at0)
        | (go_at_call 32; refine (N1 _).mono ?_; clear N1; rintro e w2 ⟨rfl, rfl⟩)
        | (go_at_call 32; refine (N2 _).mono ?_; clear N2; rintro e w2 ⟨rfl, rfl⟩))
      all_goals first
        | (rename_i q1 q2; cases q1; done)
        | (go_ret; exact ⟨by rw [HE.out]; rfl, HB.out.trans (hB1.mono HB.out.size)⟩)
  · have HE : Hid (cntB x.lo x.hi = false) := by show cntB x.lo x.hi = false; unfold cntB; simp [c1]
    go_enter Tryz.func64, Tryz.ntmps64
    go_wp2_with (first
      | (go_at_call 91; refine hR.mono ?_; clear hR; rintro e w1 ⟨rfl, hB1⟩; obtain ⟨b0, b1, b2, b3, b4, b5⟩ := (HN.out.later hB1).at0)
      | (go_at_call 32; refine (N1 _).mono ?_; clear N1; rintro e w2 ⟨rfl, rfl⟩)
      | (go_at_call 32; refine (N2 _).mono ?_; clear N2; rintro e w2 ⟨rfl, rfl⟩))
    all_goals first
      | (rename_i q1 q2; cases q1; done)
      | (go_ret; exact ⟨by rw [HE.out]; rfl, HB.out.trans (hB1.mono HB.out.size)⟩)
/-- Of a node whose kind has no parts. -/
theorem refRight_leaf (x : Pt) (w : World) (hs1 : x.s.size ≤ maxLen) (hs2 : x.t.size ≤ maxLen) (hl : x.n ≤ 9223372036854775807) (hrow : isRow x.k = false) :
    Calls Tryz.prog 64 #[x.val] w fun e w' => e = .returned (.bool (rightN x)) ∧ Below w.heap.size w w' := by
  rw [rightN_leaf hrow]
  cases h : x.n == 0 && (nameB x.s && nameB x.t) with
  | false =>
    have := refRight_leaf0 x w hs1 hs2 hl hrow h
    have e : (x.n == 0 && (nameB x.s && (nameB x.t && (if x.k = 5 then cntB x.lo x.hi else ((x.k == 1 || x.k == 6) && (x.lo == 0 && x.hi == 0)))))) = false := by
      rw [← Bool.and_assoc (nameB x.s), ← Bool.and_assoc, h, Bool.false_and]
    rw [e]
    exact this
  | true =>
    simp only [Bool.and_eq_true] at h
    obtain ⟨h0, h1, h2⟩ := h
    have h0' : x.n = 0 := by simpa using h0
    rw [h0, h1, h2, Bool.true_and, Bool.true_and, Bool.true_and]
    by_cases h5 : x.k = 5
    · rw [if_pos h5]
      exact refRight_leaf5 x w hs1 hs2 hrow h0' h1 h2 (by simp [h5])
    · rw [if_neg h5]
      exact refRight_leaf1 x w hs1 hs2 hrow h0' h1 h2 (by simp [h5])
end Go.Proofs.YtinnhaojmnmliaaGreat
namespace Go.Proofs.YtinnhaojmnmliaaGreat
open Go.RowKit Go.Shelf
attribute [local go_sem] Oper.semAt_some

/-- The greatest of what is told of the nodes. -/
def mxP (l : List (Nat × Pt)) : Nat := l.foldl (fun m v => max m v.1) 0
theorem mxP_snoc (l : List (Nat × Pt)) (v : Nat × Pt) : mxP (l ++ [v]) = max (mxP l) v.1 := by simp [mxP]
theorem mxP_le (l : List (Nat × Pt)) (m : Nat) (h : ∀ v ∈ l, v.1 ≤ m) : ∀ a, a ≤ m → l.foldl (fun m v => max m v.1) a ≤ m := by
  induction l with
  | nil => intro a ha; exact ha
  | cons v l ih => intro a ha; exact ih (fun v hv => h v (List.mem_cons_of_mem _ hv)) _ (by have := h v (by simp); show max a v.1 ≤ m; omega)
theorem le_mxP (l : List (Nat × Pt)) : ∀ a, a ≤ l.foldl (fun m v => max m v.1) a ∧ ∀ v ∈ l, v.1 ≤ l.foldl (fun m v => max m v.1) a := by
  induction l with
  | nil => intro a; exact ⟨Nat.le_refl _, fun v hv => by simp at hv⟩
  | cons v l ih =>
    intro a
    obtain ⟨h1, h2⟩ := ih (max a v.1)
    refine ⟨Nat.le_trans (by omega) h1, fun u hu => ?_⟩
    rcases List.mem_cons.1 hu with rfl | hu
    · exact Nat.le_trans (by omega) h1
    · exact h2 u hu
theorem mxP_vis (x : Pt) : mxP (visP 1 x) = x.deep := by
  have h1 : mxP (visP 1 x) ≤ x.deep := mxP_le _ _ (fun v hv => by have := (vis_deep x 1 v hv).1; have := v.2.deep_pos; omega) 0 (Nat.zero_le _)
  obtain ⟨v, hv, hd⟩ := vis_deepest x 1
  have h2 := (le_mxP (visP 1 x) 0).2 v hv
  have h3 : v.1 ≤ mxP (visP 1 x) := h2
  omega

set_option maxRecDepth 100000 in
set_option maxHeartbeats 4000000 in
theorem refDeepP_any : ∀ (x : Pt) (w : World), IsP w x → x.size ≤ 1048576 → Calls Tryz.prog 63 #[x.val] w fun e w' => e = .returned (.int .i64 (x.deep : Int)) ∧ Below w.heap.size w w' := by
  refine Pt.ind fun x ih w hX hsm => ?_
  have HR : Hid (x.deep = maxN (fun i => (x.c i).deep) x.n + 1) := x.deep_eq
  have HD : Hid (x.deep ≤ 1048576) := Nat.le_trans x.deep_size hsm
  have HI : Hid (∀ i, i < x.n → ∀ w, IsP w (x.c i) → Calls Tryz.prog 63 #[(x.c i).val] w fun e w' => e = .returned (.int .i64 ((x.c i).deep : Int)) ∧ Below w.heap.size w w') := fun i hi w h => ih i hi w h (by have := x.size_part i hi; omega)
  have HX : Hid (IsP w x) := hX
  have hlen := hX.len
  obtain ⟨A, hA⟩ : ∃ A, w.alloc (.cells x.cells 24) = A := ⟨_, rfl⟩
  have HB : Hid (Below w.heap.size w A) := by show Below _ _ _; rw [← hA]; exact (Below.refl _ w).alloc (Nat.le_refl _) _
  have HN : Hid (NodeP A w.heap.size 0 x) := by show NodeP _ _ _ _; rw [← hA]; exact nodeP_new w _ x
  have hs : A.heap.size = w.heap.size + 1 := by rw [← hA]; simp
  clear ih hX hsm
  go_enter Tryz.func63, Tryz.ntmps63
  go_wp2_with fail
  go_loopw [3, 4] (fun u v wr => ∃ k m : Nat, k ≤ x.n ∧ u = .int .i64 (m : Int) ∧ Hid (m = maxN (fun i => (x.c i).deep) k) ∧ v = .int .i64 k ∧ Below A.heap.size A wr) (fun _ v _ => x.n - (intOf v).toNat)
  case atStart => exact ⟨0, 0, Nat.zero_le _, rfl, rfl, rfl, Below.refl _ _⟩
  case round =>
    obtain ⟨k, m, hk, rfl, Hm, rfl, hB⟩ := hrel
    obtain ⟨-, -, -, -, -, c6⟩ := (nodeP_on HN.out (hB.mono (by omega))).at0
    have hw := HB.out.trans (hB.mono (by omega))
    by_cases hkn : k < x.n
    · obtain ⟨b, o, ea, hn, hx⟩ := (HX.out.later hw).part hkn
      rw [ea] at c6
      obtain ⟨d0, d1, d2, d3, d4, d5⟩ := hn
      have hc := HI.out k hkn wr hx
      obtain ⟨q, hq⟩ : ∃ q, q = (x.c k).deep := ⟨_, rfl⟩
      rw [← hq] at hc
      have HQ : Hid (q = (x.c k).deep) := hq
      have HK : Hid (k < x.n) := hkn
      clear hx hw hq
      go_wp2_with (go_at_call 63; refine hc.mono ?_; rintro e w2 ⟨rfl, hB2⟩)
      refine ⟨⟨k + 1, max m q, HK.out, ?_, by show max m q = max (maxN _ k) _; rw [← Hm.out]; show max m q = max m (x.c k).deep; rw [← HQ.out], by simp, hB.trans (hB2.mono hB.size)⟩, by have := HK.out; simp [intOf]; omega⟩
      first
        | rw [show ((max m q : Nat) : Int) = max (m : Int) q by omega]
        | (by_cases hmq : m < q
           · rw [if_pos hmq, show max m q = q by omega]
           · rw [if_neg hmq, show max m q = m by omega])
    · have hk' : k = x.n := by omega
      subst hk'
      have e : x.deep = m + 1 := by rw [HR.out, Hm.out]
      have e2 := HD.out
      have hm1 : m + 1 ≤ 1048576 := by omega
      go_wp2
      go_ret
      exact ⟨ret_int (by omega), hw⟩
end Go.Proofs.YtinnhaojmnmliaaGreat
