/-
  The document's Check of queries: plain facts; of no function.
  The document's item: is it right?
-/
import Derived.Test.YtinnhaojmnmliaaGreatFQryClausesC
import Derived.Test.YtinnhaojmnmliaaGreatFVarsMath
namespace Go.Proofs.YtinnhaojmnmliaaGreat
open Go.RowKit

/-- Key, Mode and Within are right. -/
def fine0 (q : Qy) : Bool := (decide (q.key = ⟨#[]⟩) || nameB q.key) && (decide (0 ≤ q.mode) && (decide (q.mode ≤ 2) && (decide (0 ≤ q.win) && decide (q.win ≤ 1099511627776))))
theorem argB_zero (b : Bool) : argB b = 0 ↔ b = true := by cases b <;> simp [argB]
theorem argB_one (b : Bool) (h : ¬ argB b = 0) : argB b = 1 := by cases b <;> simp [argB] at h ⊢
theorem fine0_iff (q : Qy) : fine0 q = true ↔ cl6 q = 0 ∧ cl7 q = 0 ∧ cl8 q = 0 := by
  unfold fine0 cl6 cl7 cl8
  rw [argB_zero, argB_zero, argB_zero]
  simp only [Bool.and_eq_true]
  constructor
  · rintro ⟨h1, h2, h3, h4, h5⟩
    exact ⟨h1, ⟨h2, h3⟩, h4, h5⟩
  · rintro ⟨h1, ⟨h2, h3⟩, h4, h5⟩
    exact ⟨h1, h2, h3, h4, h5⟩
theorem items_next {q : Qy} {k : Nat} : ItemsR q (k + 1) ↔ ItemsR q k ∧ rightI (q.it k) = true ∧ ∀ j, j < k → (q.it j).nm ≠ (q.it k).nm := by
  constructor
  · rintro ⟨h1, h2⟩
    exact ⟨⟨fun i hi => h1 i (by omega), fun i hi => h2 i (by omega)⟩, h1 k (by omega), h2 k (by omega)⟩
  · rintro ⟨⟨h1, h2⟩, h3, h4⟩
    refine ⟨fun i hi => ?_, fun i hi => ?_⟩
    · by_cases e : i = k
      · rw [e]; exact h3
      · exact h1 i (by omega)
    · by_cases e : i = k
      · rw [e]; exact h4
      · exact h2 i (by omega)
theorem items_none (q : Qy) : ItemsR q 0 := ⟨fun _ hi => absurd hi (Nat.not_lt_zero _), fun _ hi => absurd hi (Nat.not_lt_zero _)⟩
theorem clN_late {q : Qy} : ∀ j, 4 ≤ j → j < 9 → ¬ clN q j = 0 → clN q j = 1
  | 0, h, _, _ => by omega
  | 1, h, _, _ => by omega
  | 2, h, _, _ => by omega
  | 3, h, _, _ => by omega
  | 4, _, _, h => by
    show cl5 q = 1
    have : ¬ cl5 q = 0 := h
    unfold cl5 at this ⊢
    split at this
    · rename_i e; rw [if_pos e]
    · exact absurd rfl this
  | 5, _, _, h => argB_one _ h
  | 6, _, _, h => argB_one _ h
  | 7, _, _, h => argB_one _ h
  | 8, _, _, h => by
    show cl9 q = 1
    have : ¬ cl9 q = 0 := h
    unfold cl9 at this ⊢
    split at this
    · exact absurd rfl this
    · rename_i e; rw [if_neg e]
  | n + 9, _, h, _ => by omega
theorem least_of {p : Nat → Prop} : ∀ n, p n → ∃ k, k ≤ n ∧ p k ∧ ∀ j, j < k → ¬ p j := by
  intro n
  induction n using Nat.strongRecOn with
  | _ n ih =>
    intro h
    by_cases e : ∃ j, j < n ∧ p j
    · obtain ⟨j, h1, h2⟩ := e
      obtain ⟨k, h3, h4, h5⟩ := ih j h1 h2
      exact ⟨k, by omega, h4, h5⟩
    · exact ⟨n, Nat.le_refl _, h, fun j hj hp => e ⟨j, hj, hp⟩⟩
theorem chkQ_end {q : Qy} (h : ∀ j, j < 4 → clN q j = 0) (b : Bool) (hb : b = true ↔ (fine0 q = true ∧ ∀ j, j < q.n → (q.c j).k ≠ 16) ∧ ItemsR q q.m) : chkQ q = if b = true then 0 else 1 := by
  have h5 : cl5 q = 0 ↔ ∀ j, j < q.n → (q.c j).k ≠ 16 := by
    unfold cl5
    constructor
    · intro e j hj hk
      rw [if_pos ⟨j, hj, hk⟩] at e
      omega
    · intro e
      rw [if_neg]
      rintro ⟨j, hj, hk⟩
      exact e j hj hk
  have h9 : cl9 q = 0 ↔ ItemsR q q.m := by
    unfold cl9
    constructor
    · intro e
      by_cases g : ItemsR q q.m
      · exact g
      · rw [if_neg g] at e; omega
    · intro e; rw [if_pos e]
  rw [fine0_iff, ← h5, ← h9] at hb
  cases b with
  | true =>
    obtain ⟨⟨⟨a6, a7, a8⟩, a5⟩, a9⟩ := hb.1 rfl
    rw [if_pos rfl]
    refine lexN_zero.2 fun j hj => ?_
    by_cases e : j < 4
    · exact h j e
    · match j, e, hj with
      | 4, _, _ => exact a5
      | 5, _, _ => exact a6
      | 6, _, _ => exact a7
      | 7, _, _ => exact a8
      | 8, _, _ => exact a9
      | 0, e, _ => exact absurd (by omega) e
      | 1, e, _ => exact absurd (by omega) e
      | 2, e, _ => exact absurd (by omega) e
      | 3, e, _ => exact absurd (by omega) e
      | n + 9, _, hj => omega
  | false =>
    rw [if_neg (by simp)]
    have : ∃ j, j < 9 ∧ ¬ clN q j = 0 := by
      apply Classical.byContradiction
      intro e
      have g : ∀ j, j < 9 → clN q j = 0 := fun j hj => Classical.byContradiction fun k => e ⟨j, hj, k⟩
      exact absurd (hb.2 ⟨⟨⟨g 5 (by omega), g 6 (by omega), g 7 (by omega)⟩, g 4 (by omega)⟩, g 8 (by omega)⟩) (by simp)
    obtain ⟨j, hj, hn⟩ := this
    obtain ⟨k, h1, h2, h3⟩ := least_of (p := fun j => ¬ clN q j = 0) j hn
    have hk4 : 4 ≤ k := Classical.byContradiction fun e => h2 (h k (by omega))
    rw [← clN_late k hk4 (by omega) h2]
    exact lexN_first (by omega) (fun i hi => Classical.byContradiction fun e => h3 i hi e) h2
theorem sum_on {z : Int} {s t sx : Nat} (hz : z = ((s : Nat) : Int)) (h : t = s + sx ∧ s + sx ≤ 1048576) : wrap64 (z + ((sx : Nat) : Int)) = ((t : Nat) : Int) := by
  rw [hz, h.1, wrap64]
  omega
end Go.Proofs.YtinnhaojmnmliaaGreat
namespace Go.Proofs.YtinnhaojmnmliaaGreat
open Go.RowKit

set_option maxRecDepth 100000 in
set_option maxHeartbeats 4000000 in
theorem refItem_any (x : It) (w : World) (hn : x.nm.size ≤ maxLen ∧ x.s.size ≤ maxLen ∧ x.f.size ≤ maxLen) : Calls Tryz.prog 34 #[x.val] w fun e w' => e = .returned (.bool (rightI x)) ∧ Below w.heap.size w w' := by
  have hB : Below w.heap.size w (w.alloc (.cells x.cells 56)) := (Below.refl _ w).alloc (Nat.le_refl _) _
  obtain ⟨k0, k1, k2, k3⟩ := itAt_new w 56 x
  have HB : Hid (Below w.heap.size w (w.alloc (.cells x.cells 56))) := hB
  have C2 : Hid (∀ d, Calls Tryz.prog 32 #[.string x.nm] d fun e w' => e = .returned (.bool (nameB x.nm)) ∧ w' = d) := fun d => refName_any _ d hn.1
  have C3 : Hid (∀ d, Calls Tryz.prog 32 #[.string x.s] d fun e w' => e = .returned (.bool (nameB x.s)) ∧ w' = d) := fun d => refName_any _ d hn.2.1
  have C4 : Hid (∀ d, Calls Tryz.prog 32 #[.string x.f] d fun e w' => e = .returned (.bool (nameB x.f)) ∧ w' = d) := fun d => refName_any _ d hn.2.2
  clear hn hB
  by_cases b1 : nameB x.nm = true
  · by_cases b2 : nameB x.s = true
    · by_cases h : x.k = 3
      · by_cases f0 : x.f = ⟨#[]⟩
        · have hr : rightI x = true := by simp [rightI, b1, b2, h, f0]
          rw [hr]
          rw [b1] at C2
          rw [b2] at C3
          have u3 : (x.k == 3) = true := by simp [h]
          have u1 : (x.k == 1) = false := by simp; omega
          have u2 : (x.k == 2) = false := by simp; omega
          have u4 : (x.k == 4) = false := by simp; omega
          have uf : (x.f.toList == []) = true := by rw [f0, nil_list]; rfl
          clear hr b1 b2 h f0
          go_enter Tryz.func34, Tryz.ntmps34
          go_wp2_with (first
            | (go_at_call 32; refine (C2.out _).mono ?_; clear C2; rintro e w2 ⟨rfl, rfl⟩)
            | (go_at_call 32; refine (C3.out _).mono ?_; clear C3; rintro e w3 ⟨rfl, rfl⟩)
            | (go_at_call 32; refine (C4.out _).mono ?_; clear C4; rintro e w4 ⟨rfl, rfl⟩))
          go_ret
          exact ⟨rfl, HB.out⟩
        · have hr : rightI x = false := by simp [rightI, b1, b2, h, f0]
          rw [hr]
          rw [b1] at C2
          rw [b2] at C3
          have u3 : (x.k == 3) = true := by simp [h]
          have u1 : (x.k == 1) = false := by simp; omega
          have u2 : (x.k == 2) = false := by simp; omega
          have u4 : (x.k == 4) = false := by simp; omega
          have uf : (x.f.toList == []) = false := no_empty f0
          clear hr b1 b2 h f0
          go_enter Tryz.func34, Tryz.ntmps34
          go_wp2_with (first
            | (go_at_call 32; refine (C2.out _).mono ?_; clear C2; rintro e w2 ⟨rfl, rfl⟩)
            | (go_at_call 32; refine (C3.out _).mono ?_; clear C3; rintro e w3 ⟨rfl, rfl⟩)
            | (go_at_call 32; refine (C4.out _).mono ?_; clear C4; rintro e w4 ⟨rfl, rfl⟩))
          go_ret
          exact ⟨rfl, HB.out⟩
      · have h3 := h
        clear h
        by_cases h : x.k = 1
        · have hr : rightI x = nameB x.f := by simp [rightI, b1, b2, h]
          rw [hr]
          rw [b1] at C2
          rw [b2] at C3
          have u3 : (x.k == 3) = false := by simp; omega
          have u1 : (x.k == 1) = true := by simp [h]
          have u2 : (x.k == 2) = false := by simp; omega
          have u4 : (x.k == 4) = false := by simp; omega
          clear hr b1 b2 h h3
          go_enter Tryz.func34, Tryz.ntmps34
          go_wp2_with (first
            | (go_at_call 32; refine (C2.out _).mono ?_; clear C2; rintro e w2 ⟨rfl, rfl⟩)
            | (go_at_call 32; refine (C3.out _).mono ?_; clear C3; rintro e w3 ⟨rfl, rfl⟩)
            | (go_at_call 32; refine (C4.out _).mono ?_; clear C4; rintro e w4 ⟨rfl, rfl⟩))
          go_ret
          exact ⟨rfl, HB.out⟩
        · have h1 := h
          clear h
          by_cases h : x.k = 2
          · have hr : rightI x = nameB x.f := by simp [rightI, b1, b2, h]
            rw [hr]
            rw [b1] at C2
            rw [b2] at C3
            have u3 : (x.k == 3) = false := by simp; omega
            have u1 : (x.k == 1) = false := by simp; omega
            have u2 : (x.k == 2) = true := by simp [h]
            have u4 : (x.k == 4) = false := by simp; omega
            clear hr b1 b2 h h3 h1
            go_enter Tryz.func34, Tryz.ntmps34
            go_wp2_with (first
              | (go_at_call 32; refine (C2.out _).mono ?_; clear C2; rintro e w2 ⟨rfl, rfl⟩)
              | (go_at_call 32; refine (C3.out _).mono ?_; clear C3; rintro e w3 ⟨rfl, rfl⟩)
              | (go_at_call 32; refine (C4.out _).mono ?_; clear C4; rintro e w4 ⟨rfl, rfl⟩))
            go_ret
            exact ⟨rfl, HB.out⟩
          · have h2 := h
            clear h
            by_cases h : x.k = 4
            · have hr : rightI x = nameB x.f := by simp [rightI, b1, b2, h]
              rw [hr]
              rw [b1] at C2
              rw [b2] at C3
              have u3 : (x.k == 3) = false := by simp; omega
              have u1 : (x.k == 1) = false := by simp; omega
              have u2 : (x.k == 2) = false := by simp; omega
              have u4 : (x.k == 4) = true := by simp [h]
              clear hr b1 b2 h h3 h1 h2
              go_enter Tryz.func34, Tryz.ntmps34
              go_wp2_with (first
                | (go_at_call 32; refine (C2.out _).mono ?_; clear C2; rintro e w2 ⟨rfl, rfl⟩)
                | (go_at_call 32; refine (C3.out _).mono ?_; clear C3; rintro e w3 ⟨rfl, rfl⟩)
                | (go_at_call 32; refine (C4.out _).mono ?_; clear C4; rintro e w4 ⟨rfl, rfl⟩))
              go_ret
              exact ⟨rfl, HB.out⟩
            · have hr : rightI x = false := by
                unfold rightI
                by_cases t1 : (1 : Int) ≤ x.k
                · rw [decide_eq_false (show ¬ x.k ≤ 4 by omega)]; simp
                · rw [decide_eq_false t1]; simp
              rw [hr]
              rw [b1] at C2
              rw [b2] at C3
              have u3 : (x.k == 3) = false := by simp; omega
              have u1 : (x.k == 1) = false := by simp; omega
              have u2 : (x.k == 2) = false := by simp; omega
              have u4 : (x.k == 4) = false := by simp; omega
              clear hr b1 b2 h h1 h2 h3
              go_enter Tryz.func34, Tryz.ntmps34
              go_wp2_with (first
                | (go_at_call 32; refine (C2.out _).mono ?_; clear C2; rintro e w2 ⟨rfl, rfl⟩)
                | (go_at_call 32; refine (C3.out _).mono ?_; clear C3; rintro e w3 ⟨rfl, rfl⟩)
                | (go_at_call 32; refine (C4.out _).mono ?_; clear C4; rintro e w4 ⟨rfl, rfl⟩))
              go_ret
              exact ⟨rfl, HB.out⟩
    · have hf : nameB x.s = false := by simpa using b2
      have hr : rightI x = false := by simp [rightI, hf]
      rw [hr]
      rw [b1] at C2
      rw [hf] at C3
      clear hr hf b1 b2
      go_enter Tryz.func34, Tryz.ntmps34
      go_wp2_with (first
        | (go_at_call 32; refine (C2.out _).mono ?_; clear C2; rintro e w2 ⟨rfl, rfl⟩)
        | (go_at_call 32; refine (C3.out _).mono ?_; clear C3; rintro e w3 ⟨rfl, rfl⟩)
        | (go_at_call 32; refine (C4.out _).mono ?_; clear C4; rintro e w4 ⟨rfl, rfl⟩))
      go_ret
      exact ⟨rfl, HB.out⟩
  · have hf : nameB x.nm = false := by simpa using b1
    have hr : rightI x = false := by simp [rightI, hf]
    rw [hr]
    rw [hf] at C2
    clear hr hf b1
    go_enter Tryz.func34, Tryz.ntmps34
    go_wp2_with (first
      | (go_at_call 32; refine (C2.out _).mono ?_; clear C2; rintro e w2 ⟨rfl, rfl⟩)
      | (go_at_call 32; refine (C3.out _).mono ?_; clear C3; rintro e w3 ⟨rfl, rfl⟩)
      | (go_at_call 32; refine (C4.out _).mono ?_; clear C4; rintro e w4 ⟨rfl, rfl⟩))
    go_ret
    exact ⟨rfl, HB.out⟩
end Go.Proofs.YtinnhaojmnmliaaGreat
