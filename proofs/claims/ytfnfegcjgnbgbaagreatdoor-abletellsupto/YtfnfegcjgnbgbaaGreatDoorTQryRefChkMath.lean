/-
  The document's Check of queries: plain facts; of no function.
  The document's item: is it right?
  The document's Check of queries: no Key.
-/
import Derived.Test.YtfnfegcjgnbgbaaGreatDoorTQryBase
import Derived.Test.YtfnfegcjgnbgbaaGreatDoorTAbRefRow
import Derived.Test.YtfnfegcjgnbgbaaGreatDoorTExprRefRightPD
import Derived.Test.YtfnfegcjgnbgbaaGreatDoorTPatRefLeaf
namespace Go.Proofs.YtfnfegcjgnbgbaaGreatDoor
open Go.RowKit

/-- Key, Mode and Within are right. -/
def fine0 (q : Qy) : Bool := (decide (q.key = ⟨#[]⟩) || nameB q.key) && (decide (0 ≤ q.mode) && (decide (q.mode ≤ 2) && (decide (0 ≤ q.win) && decide (q.win ≤ 1099511627776))))
theorem argB_zero (b : Bool) : argB b = 0 ↔ b = true := by cases b <;> simp [argB]
theorem argB_one (b : Bool) (h : ¬ argB b = 0) : argB b = 1 := by cases b <;> simp [argB] at h ⊢
theorem fine0_iff (q : Qy) : fine0 q = true ↔ cl6 q = 0 ∧ cl7 q = 0 ∧ cl8 q = 0 := by
  unfold fine0 cl6 cl7 cl8
  rw [argB_zero, argB_zero, argB_zero]
  simp only [Bool.and_eq_true]
  constructor
  · rintro ⟨h1, h2, h3, h4, h5⟩
    exact ⟨h1, ⟨h2, h3⟩, h4, h5⟩
  · rintro ⟨h1, ⟨h2, h3⟩, h4, h5⟩
    exact ⟨h1, h2, h3, h4, h5⟩
theorem items_next {q : Qy} {k : Nat} : ItemsR q (k + 1) ↔ ItemsR q k ∧ rightI (q.it k) = true ∧ ∀ j, j < k → (q.it j).nm ≠ (q.it k).nm := by
  constructor
  · rintro ⟨h1, h2⟩
    exact ⟨⟨fun i hi => h1 i (by omega), fun i hi => h2 i (by omega)⟩, h1 k (by omega), h2 k (by omega)⟩
  · rintro ⟨⟨h1, h2⟩, h3, h4⟩
    refine ⟨fun i hi => ?_, fun i hi => ?_⟩
    · by_cases e : i = k
      · rw [e]; exact h3
      · exact h1 i (by omega)
    · by_cases e : i = k
      · rw [e]; exact h4
      · exact h2 i (by omega)
theorem items_none (q : Qy) : ItemsR q 0 := ⟨fun _ hi => absurd hi (Nat.not_lt_zero _), fun _ hi => absurd hi (Nat.not_lt_zero _)⟩
theorem clN_late {q : Qy} : ∀ j, 4 ≤ j → j < 9 → ¬ clN q j = 0 → clN q j = 1
  | 0, h, _, _ => by omega
  | 1, h, _, _ => by omega
  | 2, h, _, _ => by omega
  | 3, h, _, _ => by omega
  | 4, _, _, h => by
    show cl5 q = 1
    have : ¬ cl5 q = 0 := h
    unfold cl5 at this ⊢
    split at this
    · rename_i e; rw [if_pos e]
    · exact absurd rfl this
  | 5, _, _, h => argB_one _ h
  | 6, _, _, h => argB_one _ h
  | 7, _, _, h => argB_one _ h
  | 8, _, _, h => by
    show cl9 q = 1
    have : ¬ cl9 q = 0 := h
    unfold cl9 at this ⊢
    split at this
    · exact absurd rfl this
    · rename_i e; rw [if_neg e]
  | n + 9, _, h, _ => by omega
theorem least_of {p : Nat → Prop} : ∀ n, p n → ∃ k, k ≤ n ∧ p k ∧ ∀ j, j < k → ¬ p j := by
  intro n
  induction n using Nat.strongRecOn with
  | _ n ih =>
    intro h
    by_cases e : ∃ j, j < n ∧ p j
    · obtain ⟨j, h1, h2⟩ := e
      obtain ⟨k, h3, h4, h5⟩ := ih j h1 h2
      exact ⟨k, by omega, h4, h5⟩
    · exact ⟨n, Nat.le_refl _, h, fun j hj hp => e ⟨j, hj, hp⟩⟩
theorem chkQ_end {q : Qy} (h : ∀ j, j < 4 → clN q j = 0) (b : Bool) (hb : b = true ↔ (fine0 q = true ∧ ∀ j, j < q.n → (q.c j).k ≠ 16) ∧ ItemsR q q.m) : chkQ q = if b = true then 0 else 1 := by
  have h5 : cl5 q = 0 ↔ ∀ j, j < q.n → (q.c j).k ≠ 16 := by
    unfold cl5
    constructor
    · intro e j hj hk
      rw [if_pos ⟨j, hj, hk⟩] at e
      omega
    · intro e
      rw [if_neg]
      rintro ⟨j, hj, hk⟩
      exact e j hj hk
  have h9 : cl9 q = 0 ↔ ItemsR q q.m := by
    unfold cl9
    constructor
    · intro e
      by_cases g : ItemsR q q.m
      · exact g
      · rw [if_neg g] at e; omega
    · intro e; rw [if_pos e]
  rw [fine0_iff, ← h5, ← h9] at hb
  cases b with
  | true =>
    obtain ⟨⟨⟨a6, a7, a8⟩, a5⟩, a9⟩ := hb.1 rfl
    rw [if_pos rfl]
    refine lexN_zero.2 fun j hj => ?_
    by_cases e : j < 4
    · exact h j e
    · match j, e, hj with
      | 4, _, _ => exact a5
      | 5, _, _ => exact a6
      | 6, _, _ => exact a7
      | 7, _, _ => exact a8
      | 8, _, _ => exact a9
      | 0, e, _ => exact absurd (by omega) e
      | 1, e, _ => exact absurd (by omega) e
      | 2, e, _ => exact absurd (by omega) e
      | 3, e, _ => exact absurd (by omega) e
      | n + 9, _, hj => omega
  | false =>
    rw [if_neg (by simp)]
    have : ∃ j, j < 9 ∧ ¬ clN q j = 0 := by
      apply Classical.byContradiction
      intro e
      have g : ∀ j, j < 9 → clN q j = 0 := fun j hj => Classical.byContradiction fun k => e ⟨j, hj, k⟩
      exact absurd (hb.2 ⟨⟨⟨g 5 (by omega), g 6 (by omega), g 7 (by omega)⟩, g 4 (by omega)⟩, g 8 (by omega)⟩) (by simp)
    obtain ⟨j, hj, hn⟩ := this
    obtain ⟨k, h1, h2, h3⟩ := least_of (p := fun j => ¬ clN q j = 0) j hn
    have hk4 : 4 ≤ k := Classical.byContradiction fun e => h2 (h k (by omega))
    rw [← clN_late k hk4 (by omega) h2]
    exact lexN_first (by omega) (fun i hi => Classical.byContradiction fun e => h3 i hi e) h2
theorem sum_on {z : Int} {s t sx : Nat} (hz : z = ((s : Nat) : Int)) (h : t = s + sx ∧ s + sx ≤ 1048576) : wrap64 (z + ((sx : Nat) : Int)) = ((t : Nat) : Int) := by
  rw [hz, h.1, wrap64]
  omega
end Go.Proofs.YtfnfegcjgnbgbaaGreatDoor
namespace Go.Proofs.YtfnfegcjgnbgbaaGreatDoor
open Go.RowKit

set_option maxRecDepth 100000 in
set_option maxHeartbeats 4000000 in
theorem refItem_any (x : It) (w : World) (hn : x.nm.size ≤ maxLen ∧ x.s.size ≤ maxLen ∧ x.f.size ≤ maxLen) : Calls Tryz.prog 63 #[x.val] w fun e w' => e = .returned (.bool (rightI x)) ∧ Below w.heap.size w w' := by
  have hB : Below w.heap.size w (w.alloc (.cells x.cells 93)) := (Below.refl _ w).alloc (Nat.le_refl _) _
  obtain ⟨k0, k1, k2, k3⟩ := itAt_new w 93 x
  have HB : Hid (Below w.heap.size w (w.alloc (.cells x.cells 93))) := hB
  have C2 : Hid (∀ d, Calls Tryz.prog 61 #[.string x.nm] d fun e w' => e = .returned (.bool (nameB x.nm)) ∧ w' = d) := fun d => refName_any _ d hn.1
  have C3 : Hid (∀ d, Calls Tryz.prog 61 #[.string x.s] d fun e w' => e = .returned (.bool (nameB x.s)) ∧ w' = d) := fun d => refName_any _ d hn.2.1
  have C4 : Hid (∀ d, Calls Tryz.prog 61 #[.string x.f] d fun e w' => e = .returned (.bool (nameB x.f)) ∧ w' = d) := fun d => refName_any _ d hn.2.2
  clear hn hB
  by_cases b1 : nameB x.nm = true
  · by_cases b2 : nameB x.s = true
    · by_cases h : x.k = 3
      · by_cases f0 : x.f = ⟨#[]⟩
        · have hr : rightI x = true := by simp [rightI, b1, b2, h, f0]
          rw [hr]
          rw [b1] at C2
          rw [b2] at C3
          have u3 : (x.k == 3) = true := by simp [h]
          have u1 : (x.k == 1) = false := by simp; omega
          have u2 : (x.k == 2) = false := by simp; omega
          have u4 : (x.k == 4) = false := by simp; omega
          have uf : (x.f.toList == []) = true := by rw [f0, nil_list]; rfl
          clear hr b1 b2 h f0
          go_enter Tryz.func63, Tryz.ntmps63
          go_wp2_with (first
            | (go_at_call 61; refine (C2.out _).mono ?_; clear C2; rintro e w2 ⟨rfl, rfl⟩)
            | (go_at_call 61; refine (C3.out _).mono ?_; clear C3; rintro e w3 ⟨rfl, rfl⟩)
            | (go_at_call 61; refine (C4.out _).mono ?_; clear C4; rintro e w4 ⟨rfl, rfl⟩))
          go_ret
          exact ⟨rfl, HB.out⟩
        · have hr : rightI x = false := by simp [rightI, b1, b2, h, f0]
          rw [hr]
          rw [b1] at C2
          rw [b2] at C3
          have u3 : (x.k == 3) = true := by simp [h]
          have u1 : (x.k == 1) = false := by simp; omega
          have u2 : (x.k == 2) = false := by simp; omega
          have u4 : (x.k == 4) = false := by simp; omega
          have uf : (x.f.toList == []) = false := no_empty f0
          clear hr b1 b2 h f0
          go_enter Tryz.func63, Tryz.ntmps63
          go_wp2_with (first
            | (go_at_call 61; refine (C2.out _).mono ?_; clear C2; rintro e w2 ⟨rfl, rfl⟩)
            | (go_at_call 61; refine (C3.out _).mono ?_; clear C3; rintro e w3 ⟨rfl, rfl⟩)
            | (go_at_call 61; refine (C4.out _).mono ?_; clear C4; rintro e w4 ⟨rfl, rfl⟩))
          go_ret
          exact ⟨rfl, HB.out⟩
      · have h3 := h
        clear h
        by_cases h : x.k = 1
        · have hr : rightI x = nameB x.f := by simp [rightI, b1, b2, h]
          rw [hr]
          rw [b1] at C2
          rw [b2] at C3
          have u3 : (x.k == 3) = false := by simp; omega
          have u1 : (x.k == 1) = true := by simp [h]
          have u2 : (x.k == 2) = false := by simp; omega
          have u4 : (x.k == 4) = false := by simp; omega
          clear hr b1 b2 h h3
          go_enter Tryz.func63, Tryz.ntmps63
          go_wp2_with (first
            | (go_at_call 61; refine (C2.out _).mono ?_; clear C2; rintro e w2 ⟨rfl, rfl⟩)
            | (go_at_call 61; refine (C3.out _).mono ?_; clear C3; rintro e w3 ⟨rfl, rfl⟩)
            | (go_at_call 61; refine (C4.out _).mono ?_; clear C4; rintro e w4 ⟨rfl, rfl⟩))
          go_ret
          exact ⟨rfl, HB.out⟩
        · have h1 := h
          clear h
          by_cases h : x.k = 2
          · have hr : rightI x = nameB x.f := by simp [rightI, b1, b2, h]
            rw [hr]
            rw [b1] at C2
            rw [b2] at C3
            have u3 : (x.k == 3) = false := by simp; omega
            have u1 : (x.k == 1) = false := by simp; omega
            have u2 : (x.k == 2) = true := by simp [h]
            have u4 : (x.k == 4) = false := by simp; omega
            clear hr b1 b2 h h3 h1
            go_enter Tryz.func63, Tryz.ntmps63
            go_wp2_with (first
              | (go_at_call 61; refine (C2.out _).mono ?_; clear C2; rintro e w2 ⟨rfl, rfl⟩)
              | (go_at_call 61; refine (C3.out _).mono ?_; clear C3; rintro e w3 ⟨rfl, rfl⟩)
              | (go_at_call 61; refine (C4.out _).mono ?_; clear C4; rintro e w4 ⟨rfl, rfl⟩))
            go_ret
            exact ⟨rfl, HB.out⟩
          · have h2 := h
            clear h
            by_cases h : x.k = 4
            · have hr : rightI x = nameB x.f := by simp [rightI, b1, b2, h]
              rw [hr]
              rw [b1] at C2
              rw [b2] at C3
              have u3 : (x.k == 3) = false := by simp; omega
              have u1 : (x.k == 1) = false := by simp; omega
              have u2 : (x.k == 2) = false := by simp; omega
              have u4 : (x.k == 4) = true := by simp [h]
              clear hr b1 b2 h h3 h1 h2
              go_enter Tryz.func63, Tryz.ntmps63
              go_wp2_with (first
                | (go_at_call 61; refine (C2.out _).mono ?_; clear C2; rintro e w2 ⟨rfl, rfl⟩)
                | (go_at_call 61; refine (C3.out _).mono ?_; clear C3; rintro e w3 ⟨rfl, rfl⟩)
                | (go_at_call 61; refine (C4.out _).mono ?_; clear C4; rintro e w4 ⟨rfl, rfl⟩))
              go_ret
              exact ⟨rfl, HB.out⟩
            · have hr : rightI x = false := by
                unfold rightI
                by_cases t1 : (1 : Int) ≤ x.k
                · rw [decide_eq_false (show ¬ x.k ≤ 4 by omega)]; simp
                · rw [decide_eq_false t1]; simp
              rw [hr]
              rw [b1] at C2
              rw [b2] at C3
              have u3 : (x.k == 3) = false := by simp; omega
              have u1 : (x.k == 1) = false := by simp; omega
              have u2 : (x.k == 2) = false := by simp; omega
              have u4 : (x.k == 4) = false := by simp; omega
              clear hr b1 b2 h h1 h2 h3
              go_enter Tryz.func63, Tryz.ntmps63
              go_wp2_with (first
                | (go_at_call 61; refine (C2.out _).mono ?_; clear C2; rintro e w2 ⟨rfl, rfl⟩)
                | (go_at_call 61; refine (C3.out _).mono ?_; clear C3; rintro e w3 ⟨rfl, rfl⟩)
                | (go_at_call 61; refine (C4.out _).mono ?_; clear C4; rintro e w4 ⟨rfl, rfl⟩))
              go_ret
              exact ⟨rfl, HB.out⟩
    · have hf : nameB x.s = false := by simpa using b2
      have hr : rightI x = false := by simp [rightI, hf]
      rw [hr]
      rw [b1] at C2
      rw [hf] at C3
      clear hr hf b1 b2
      go_enter Tryz.func63, Tryz.ntmps63
      go_wp2_with (first
        | (go_at_call 61; refine (C2.out _).mono ?_; clear C2; rintro e w2 ⟨rfl, rfl⟩)
        | (go_at_call 61; refine (C3.out _).mono ?_; clear C3; rintro e w3 ⟨rfl, rfl⟩)
        | (go_at_call 61; refine (C4.out _).mono ?_; clear C4; rintro e w4 ⟨rfl, rfl⟩))
      go_ret
      exact ⟨rfl, HB.out⟩
  · have hf : nameB x.nm = false := by simpa using b1
    have hr : rightI x = false := by simp [rightI, hf]
    rw [hr]
    rw [hf] at C2
    clear hr hf b1
    go_enter Tryz.func63, Tryz.ntmps63
    go_wp2_with (first
      | (go_at_call 61; refine (C2.out _).mono ?_; clear C2; rintro e w2 ⟨rfl, rfl⟩)
      | (go_at_call 61; refine (C3.out _).mono ?_; clear C3; rintro e w3 ⟨rfl, rfl⟩)
      | (go_at_call 61; refine (C4.out _).mono ?_; clear C4; rintro e w4 ⟨rfl, rfl⟩))
    go_ret
    exact ⟨rfl, HB.out⟩
end Go.Proofs.YtfnfegcjgnbgbaaGreatDoor
namespace Go.Proofs.YtfnfegcjgnbgbaaGreatDoor
open Go.RowKit

set_option maxRecDepth 100000 in
set_option maxHeartbeats 60000000 in
theorem refCheckQ_a (q : Qy) (w : World) (hQ : IsQ w q) (hok : QOk q) (hsm : q.bulk ≤ 1048576) (z0 : chkP q.p = 0) (n1 : q.n ≤ 16) (n2 : q.m ≤ 16) (hkey : q.key = ⟨#[]⟩) : Calls Tryz.prog 36 #[q.val] w fun e w' => e = .returned (.int .i64 (chkQ q)) ∧ Below w.heap.size w w' := by
  have hb := hsm
  unfold Qy.bulk at hb
  have hB0 : Below w.heap.size w (w.alloc (.cells q.cells 28)) := (Below.refl _ _).alloc (Nat.le_refl _) _
  have C1 : Hid (Calls Tryz.prog 60 #[q.p.val] (w.alloc (.cells q.cells 28)) fun e w' => e = .returned (.int .i64 0) ∧ Below (w.alloc (.cells q.cells 28)).heap.size (w.alloc (.cells q.cells 28)) w') := by
    have := refCheckP_any q.p _ (hQ.p.later hB0) (by omega) hok.p
    rw [z0] at this
    exact this
  have CN : Hid (∀ d, Calls Tryz.prog 61 #[.string q.key] d fun e w' => e = .returned (.bool (nameB q.key)) ∧ d = w') := fun d => (refName_any _ d hok.key).mono fun _ _ h => ⟨h.1, h.2.symm⟩
  have HC : Hid (∀ i, i < q.n → ∀ W, Below w.heap.size w W → Calls Tryz.prog 62 #[(q.c i).val] W fun e w' => e = .returned (.int .i64 (chkX (q.c i))) ∧ Below W.heap.size W w') := fun i hi W hW => by
    obtain ⟨_, _, _, _, h1⟩ := (hQ.x.later hW).part (x := q.x) hi
    have hs : (q.c i).size < q.x.size := q.x.size_part i hi
    refine (refCheckX_any (q.c i) W h1 (((xOk_eq q.x).1 hok.x).2.2 i hi) (by omega)).mono ?_
    rintro e w' ⟨r, rfl, hr, hB⟩
    rw [chkX_of hr]
    exact ⟨rfl, hB⟩
  have HS : Hid (∀ i, i < q.n → ∀ W, Below w.heap.size w W → Calls Tryz.prog 23 #[(q.c i).val] W fun e w' => e = .returned (.int .i64 ((q.c i).size : Nat)) ∧ Below W.heap.size W w') := fun i hi W hW => by
    obtain ⟨_, _, _, _, h1⟩ := (hQ.x.later hW).part (x := q.x) hi
    have hs : (q.c i).size < q.x.size := q.x.size_part i hi
    have := refSize_any (q.c i) W h1
    rw [szZ_small _ (by omega)] at this
    exact this
  have HIT : Hid (∀ i, i < q.m → ∀ W, Calls Tryz.prog 63 #[(q.it i).val] W fun e w' => e = .returned (.bool (rightI (q.it i))) ∧ Below W.heap.size W w') := fun i hi W => refItem_any _ W (hok.it i hi)
  have HQ : Hid (IsQ w q) := hQ
  have qb := QB.new w q
  have QB0 : Hid (QB (w.alloc (.cells q.cells 28)) w.heap.size q) := qb
  obtain ⟨⟨k0, k1, k2, k3, k4, k5⟩, k6, k7, k8, k9, k10⟩ := qb.at0
  have HB0 : Hid (Below w.heap.size w (w.alloc (.cells q.cells 28))) := hB0
  have Z1 : Hid (clN q 0 = 0) := z0
  have Z2 : Hid (clN q 1 = 0) := if_neg (by omega)
  have HXS : Hid (q.x.size = 1 + sumN (fun i => (q.c i).size) q.n ∧ q.x.size ≤ 1048576) := ⟨q.x.size_eq, by omega⟩
  have R3 : Hid (∀ k, k < q.n → (∀ j, j < k → chkX (q.c j) = 0) → ¬ chkX (q.c k) = 0 → chkQ q = chkX (q.c k)) := fun k hk h1 h2 => by
    have e : clN q 2 = chkX (q.c k) := lexN_first (f := fun i => chkX (q.c i)) hk h1 h2
    rw [← e]
    exact lexN_first (f := clN q) (by omega) (fun j hj => by
      match j, hj with
      | 0, _ => exact Z1.out
      | 1, _ => exact Z2.out) (by rw [e]; exact h2)
  have R4 : Hid ((∀ j, j < q.n → chkX (q.c j) = 0) → 100 ≤ sumN (fun i => (q.c i).size) q.n → chkQ q = 2) := fun h1 h2 => by
    have e : clN q 3 = 2 := if_pos (by have := HXS.out; omega)
    rw [← e]
    exact lexN_first (f := clN q) (by omega) (fun j hj => by
      match j, hj with
      | 0, _ => exact Z1.out
      | 1, _ => exact Z2.out
      | 2, _ => exact lexN_zero.2 h1) (by rw [e]; decide)
  obtain ⟨F, hF⟩ : ∃ F, F = fine0 q := ⟨_, rfl⟩
  have R5 : Hid ((∀ j, j < q.n → chkX (q.c j) = 0) → ¬ 100 ≤ sumN (fun i => (q.c i).size) q.n → ∀ b : Bool, (b = true ↔ (F = true ∧ ∀ j, j < q.n → (q.c j).k ≠ 16) ∧ ItemsR q q.m) → chkQ q = if b = true then 0 else 1) := fun h1 h2 b h3 => by
    rw [hF] at h3
    exact chkQ_end (fun j hj => by
      match j, hj with
      | 0, _ => exact Z1.out
      | 1, _ => exact Z2.out
      | 2, _ => exact lexN_zero.2 h1
      | 3, _ => exact if_neg (by have := HXS.out; omega)) b h3
  obtain ⟨v, hv⟩ : ∃ v, v = chkQ q := ⟨_, rfl⟩
  rw [← hv] at R3 R4 R5 ⊢
  have t1 : ¬ ((16 : Int) < ((q.n : Nat) : Int)) := by omega
  have t2 : ¬ ((16 : Int) < ((q.m : Nat) : Int)) := by omega
  have hln : q.n ≤ 9223372036854775807 := by omega
  have hlm : q.m ≤ 9223372036854775807 := by omega
  have KEY : (decide (q.key = ⟨#[]⟩) || nameB q.key) = true := by rw [decide_eq_true hkey]; rfl
  have tk : (q.key.toList == []) = true := by rw [hkey, nil_list]; rfl
  clear hkey CN
  have HL : (¬ 0 ≤ q.mode ∧ F = false) ∨ (0 ≤ q.mode ∧ ¬ q.mode ≤ 2 ∧ F = false) ∨ (0 ≤ q.mode ∧ q.mode ≤ 2 ∧ ¬ 0 ≤ q.win ∧ F = false) ∨ (0 ≤ q.mode ∧ q.mode ≤ 2 ∧ 0 ≤ q.win ∧ F = decide (q.win ≤ 1099511627776)) := by
    rw [hF]
    unfold fine0
    rw [KEY]
    by_cases a0 : 0 ≤ q.mode
    · by_cases a1 : q.mode ≤ 2
      · by_cases a2 : 0 ≤ q.win
        · exact .inr (.inr (.inr ⟨a0, a1, a2, by simp [a0, a1, a2]⟩))
        · exact .inr (.inr (.inl ⟨a0, a1, a2, by simp [a0, a1, a2]⟩))
      · exact .inr (.inl ⟨a0, a1, by simp [a0, a1]⟩)
    · exact .inl ⟨a0, by simp [a0]⟩
  clear hQ qb hB0 hb hsm hok z0 n1 n2 hv hF KEY
  rcases HL with ⟨a0, hFv⟩ | ⟨a0, a1, hFv⟩ | ⟨a0, a1, a2, hFv⟩ | ⟨a0, a1, a2, hFv⟩
  all_goals have HFv : Hid _ := hFv
  all_goals clear hFv
  all_goals (
    go_enter Tryz.func36, Tryz.ntmps36
    go_wp2_with (first
      | (go_at_call 60; refine C1.out.mono ?_; clear C1; rintro e w1 ⟨rfl, hB1⟩; clear k0 k1 k2 k3 k4 k5 k6 k7 k8 k9 k10; obtain ⟨⟨k0, k1, k2, k3, k4, k5⟩, k6, k7, k8, k9, k10⟩ := (QB0.out.later hB1).at0)
      | (fail))
    have hw1 : Below w.heap.size w w1 := HB0.out.trans (hB1.mono HB0.out.size)
    have QB1 : Hid (QB w1 w.heap.size q) := QB0.out.later hB1
    clear k0 k1 k2 k3 k4 k5 k6 k7 k8 k9 k10 QB0 HB0 hB1
    go_loopw [3, 4, 5, 6] (fun ev f s iv wr => ∃ (k : Nat) (b : Bool) (z : Int), k ≤ q.n ∧ ev = .int .i64 0 ∧ f = .bool b ∧ s = .int .i64 z ∧ iv = .int .i64 k ∧ Hid (b = true ↔ F = true ∧ ∀ j, j < k → (q.c j).k ≠ 16) ∧ Hid (z = ((sumN (fun i => (q.c i).size) k : Nat) : Int)) ∧ Hid (∀ j, j < k → chkX (q.c j) = 0) ∧ Below w1.heap.size w1 wr) (fun _ _ _ iv _ => q.n - (intOf iv).toNat)
    case atStart => exact ⟨0, _, 0, Nat.zero_le _, rfl, rfl, rfl, rfl, ⟨fun h => ⟨HFv.out.trans h, fun j hj => absurd hj (Nat.not_lt_zero _)⟩, fun h => HFv.out.symm.trans h.1⟩, (rfl : (0 : Int) = _), fun j hj => absurd hj (Nat.not_lt_zero _), Below.refl _ _⟩
    case round =>
      obtain ⟨k, b, z, hk, rfl, rfl, rfl, rfl, HBB, HZ, HK, hB⟩ := hrel
      have hw := hw1.trans (hB.mono hw1.size)
      obtain ⟨-, c6, -, -, -, c10⟩ := (QB1.out.later hB).at0
      by_cases hkn : k < q.n
      · obtain ⟨g, o, ea, hn1, -⟩ := (HQ.out.x.later hw).part (x := q.x) hkn
        have EA : Hid (q.a = some ⟨g, o, none⟩) := ea
        rw [EA.out] at c6
        have HN1 : Hid (Node wr g (o + k * 7) (q.c k)) := hn1
        have hn2 : Node wr g (o + k * 7) (q.c k) := hn1
        obtain ⟨d0, d1, d2, d3, d4, d5, d6⟩ := hn2
        have HKN : Hid (k < q.n) := hkn
        have hc := HC.out k hkn wr hw
        have hs := HS.out k hkn
        have HSS : Hid (sumN (fun i => (q.c i).size) (k + 1) = sumN (fun i => (q.c i).size) k + (q.c k).size ∧ sumN (fun i => (q.c i).size) k + (q.c k).size ≤ 1048576) := ⟨rfl, by have := sumN_part (f := fun i => (q.c i).size) hkn; have := HXS.out; omega⟩
        obtain ⟨cx, hcx⟩ : ∃ cx, cx = chkX (q.c k) := ⟨_, rfl⟩
        rw [← hcx] at hc
        obtain ⟨sx, hsx⟩ : ∃ sx, sx = (q.c k).size := ⟨_, rfl⟩
        rw [← hsx] at hs HSS
        clear ea hn1 hsx
        by_cases hz : cx = 0
        · have HCX : Hid (∀ j, j < k + 1 → chkX (q.c j) = 0) := fun j hj => by
            by_cases e : j = k
            · rw [e, ← hcx]; exact hz
            · exact HK.out j (by omega)
          rw [hz] at hc
          clear hcx hz HK
          have HW : Hid (Below w.heap.size w wr) := hw
          have HBW : Hid (Below w1.heap.size w1 wr) := hB
          clear hw hB
          cases b
          · go_wp2_with (first
              | (go_at_call 62; refine hc.mono ?_; clear hc; rintro e w2 ⟨rfl, hB2⟩; have hb2 := HBW.out.trans (hB2.mono HBW.out.size); have hw2 := hw1.trans (hb2.mono hw1.size); clear c6 c10 d0 d1 d2 d3 d4 d5 d6; obtain ⟨-, c6, -, -, -, c10⟩ := (QB1.out.later hb2).at0; rw [EA.out] at c6; have hn3 : Node w2 g (o + k * 7) (q.c k) := HN1.out.later hB2; obtain ⟨d0, d1, d2, d3, d4, d5, d6⟩ := hn3)
              | (go_at_call 23; refine (hs _ hw2).mono ?_; clear hs; rintro e w3 ⟨rfl, hB3⟩; have hb3 := hb2.trans (hB3.mono hb2.size); clear c6 c10 d0 d1 d2 d3 d4 d5 d6; obtain ⟨-, c6, -, -, -, c10⟩ := (QB1.out.later hb3).at0; rw [EA.out] at c6; have hn3 : Node w3 g (o + k * 7) (q.c k) := (HN1.out.later hB2).later hB3; obtain ⟨d0, d1, d2, d3, d4, d5, d6⟩ := hn3))
            go_roundw
            case rel =>
              refine ⟨k + 1, false, _, HKN.out, rfl, rfl, rfl, by go_num, ?_, ?_, HCX, hb3⟩
              · exact ⟨fun h => absurd h (by simp), fun h => HBB.out.2 ⟨h.1, fun j hj => h.2 j (by omega)⟩⟩
              · exact sum_on HZ.out HSS.out
            case measure => have := HKN.out; simp [intOf]; omega
          · by_cases h16 : (q.c k).k = 16
            · have H16 : Hid ((q.c k).k = 16) := h16
              have u16 : ((q.c k).k != 16) = false := by simp [h16]
              clear h16
              go_wp2_with (first
                | (go_at_call 62; refine hc.mono ?_; clear hc; rintro e w2 ⟨rfl, hB2⟩; have hb2 := HBW.out.trans (hB2.mono HBW.out.size); have hw2 := hw1.trans (hb2.mono hw1.size); clear c6 c10 d0 d1 d2 d3 d4 d5 d6; obtain ⟨-, c6, -, -, -, c10⟩ := (QB1.out.later hb2).at0; rw [EA.out] at c6; have hn3 : Node w2 g (o + k * 7) (q.c k) := HN1.out.later hB2; obtain ⟨d0, d1, d2, d3, d4, d5, d6⟩ := hn3)
                | (go_at_call 23; refine (hs _ hw2).mono ?_; clear hs; rintro e w3 ⟨rfl, hB3⟩; have hb3 := hb2.trans (hB3.mono hb2.size); clear c6 c10 d0 d1 d2 d3 d4 d5 d6; obtain ⟨-, c6, -, -, -, c10⟩ := (QB1.out.later hb3).at0; rw [EA.out] at c6; have hn3 : Node w3 g (o + k * 7) (q.c k) := (HN1.out.later hB2).later hB3; obtain ⟨d0, d1, d2, d3, d4, d5, d6⟩ := hn3))
              go_roundw
              case rel =>
                refine ⟨k + 1, false, _, HKN.out, rfl, rfl, rfl, by go_num, ?_, ?_, HCX, hb3⟩
                · exact ⟨fun h => absurd h (by simp), fun h => absurd H16.out (h.2 k (by omega))⟩
                · exact sum_on HZ.out HSS.out
              case measure => have := HKN.out; simp [intOf]; omega
            · have H16 : Hid (¬ (q.c k).k = 16) := h16
              have u16 : ((q.c k).k != 16) = true := by simp [h16]
              clear h16
              go_wp2_with (first
                | (go_at_call 62; refine hc.mono ?_; clear hc; rintro e w2 ⟨rfl, hB2⟩; have hb2 := HBW.out.trans (hB2.mono HBW.out.size); have hw2 := hw1.trans (hb2.mono hw1.size); clear c6 c10 d0 d1 d2 d3 d4 d5 d6; obtain ⟨-, c6, -, -, -, c10⟩ := (QB1.out.later hb2).at0; rw [EA.out] at c6; have hn3 : Node w2 g (o + k * 7) (q.c k) := HN1.out.later hB2; obtain ⟨d0, d1, d2, d3, d4, d5, d6⟩ := hn3)
                | (go_at_call 23; refine (hs _ hw2).mono ?_; clear hs; rintro e w3 ⟨rfl, hB3⟩; have hb3 := hb2.trans (hB3.mono hb2.size); clear c6 c10 d0 d1 d2 d3 d4 d5 d6; obtain ⟨-, c6, -, -, -, c10⟩ := (QB1.out.later hb3).at0; rw [EA.out] at c6; have hn3 : Node w3 g (o + k * 7) (q.c k) := (HN1.out.later hB2).later hB3; obtain ⟨d0, d1, d2, d3, d4, d5, d6⟩ := hn3))
              go_roundw
              case rel =>
                refine ⟨k + 1, true, _, HKN.out, rfl, rfl, rfl, by go_num, ?_, ?_, HCX, hb3⟩
                · refine ⟨fun _ => ⟨(HBB.out.1 (by trivial)).1, fun j hj => ?_⟩, fun _ => rfl⟩
                  by_cases e : j = k
                  · rw [e]; exact H16.out
                  · exact (HBB.out.1 (by trivial)).2 j (by omega)
                · exact sum_on HZ.out HSS.out
              case measure => have := HKN.out; simp [intOf]; omega
        · have hvv : Hid (v = cx) := by show _ = _; rw [hcx]; exact R3.out k hkn HK.out (by rw [← hcx]; exact hz)
          have tz : (cx != 0) = true := by simp [hz]
          clear hcx hz HK R3 R4 R5
          go_wp2_with (first | (go_at_call 62; refine hc.mono ?_; clear hc; rintro e w2 ⟨rfl, hB2⟩))
          go_ret
          exact ⟨by rw [hvv.out]; rfl, hw.trans (hB2.mono hw.size)⟩
      · obtain rfl : k = q.n := by omega
        clear R3
        by_cases hz : 100 ≤ sumN (fun i => (q.c i).size) q.n
        · have hvv : Hid (v = 2) := R4.out HK.out hz
          have tz : (100 : Int) ≤ z := by rw [HZ.out]; omega
          clear hz HZ HK R4 R5
          go_wp2
          go_ret
          exact ⟨by rw [hvv.out]; rfl, hw⟩
        · have tz : ¬ (100 : Int) ≤ z := by rw [HZ.out]; omega
          have R6 := R5.out HK.out hz
          have R7 : Hid (∀ b2 : Bool, (b2 = true ↔ b = true ∧ ItemsR q q.m) → v = if b2 = true then 0 else 1) := fun b2 h => R6 b2 (by rw [h, HBB.out])
          clear hz HZ HK R4 R5 R6 HBB
          go_wp2_with fail
          have H50 : Hid (Below w1.heap.size w1 wr) := hB
          clear c6 c10 hw hB hk hkn
          obtain ⟨w5, hw5⟩ : ∃ w5, w5 = wr := ⟨_, rfl⟩
          rw [← hw5] at H50 ⊢
          clear hw5
          go_loopw [4, 7] (fun f iv wr => ∃ (k : Nat) (b' : Bool), k ≤ q.m ∧ f = .bool b' ∧ iv = .int .i64 k ∧ Hid (b' = true ↔ b = true ∧ ItemsR q k) ∧ Below w5.heap.size w5 wr) (fun _ iv _ => q.m - (intOf iv).toNat)
          case atStart => exact ⟨0, b, Nat.zero_le _, rfl, rfl, ⟨fun h => ⟨h, items_none q⟩, fun h => h.1⟩, Below.refl _ _⟩
          case round =>
            obtain ⟨k, b', hk, rfl, rfl, HI, hB⟩ := hrel
            have hb5 := H50.out.trans (hB.mono H50.out.size)
            have hw := hw1.trans (hb5.mono hw1.size)
            obtain ⟨-, -, -, -, -, c10⟩ := (QB1.out.later hb5).at0
            by_cases hkn : k < q.m
            · have HKN : Hid (k < q.m) := hkn
              have HN : Hid (ItemsR q (k + 1) ↔ ItemsR q k ∧ rightI (q.it k) = true ∧ ∀ j, j < k → (q.it j).nm ≠ (q.it k).nm) := items_next
              cases b'
              · have HJ : Hid ((false = true ∧ ∀ j, j < k → (q.it j).nm ≠ (q.it k).nm) ↔ b = true ∧ ItemsR q (k + 1)) := ⟨fun h => absurd h.1 (by simp), fun h => absurd (HI.out.2 ⟨h.1, (HN.out.1 h.2).1⟩) (by simp)⟩
                clear HI HN
                go_wp2_with fail
                have H6 : Hid (Below w1.heap.size w1 wr) := hb5
                have H5 : Hid (Below w5.heap.size w5 wr) := hB
                clear c10 hw hB hb5 hk hkn
                obtain ⟨w6, hw6⟩ : ∃ w6, w6 = wr := ⟨_, rfl⟩
                rw [← hw6] at H6 H5 ⊢
                clear hw6
                go_loopw [4, 8] (fun f jv ws => ∃ (n : Nat) (b2 : Bool), n ≤ k ∧ f = .bool b2 ∧ jv = .int .i64 n ∧ Hid (b2 = true ↔ false = true ∧ ∀ j, j < n → (q.it j).nm ≠ (q.it k).nm) ∧ Below w6.heap.size w6 ws) (fun _ jv _ => k - (intOf jv).toNat)
                case atStart => exact ⟨0, false, Nat.zero_le _, rfl, rfl, ⟨fun h => ⟨h, fun j hj => absurd hj (Nat.not_lt_zero _)⟩, fun h => h.1⟩, Below.refl _ _⟩
                case round =>
                  obtain ⟨n, b2, hn, rfl, rfl, HB2, hBs⟩ := hrel
                  have hb6 := H6.out.trans (hBs.mono H6.out.size)
                  have hws := hw1.trans (hb6.mono hw1.size)
                  obtain ⟨-, -, -, -, -, e10⟩ := (QB1.out.later hb6).at0
                  by_cases hnk : n < k
                  · have HNK : Hid (n < k) := hnk
                    obtain ⟨g', o', ea', m0, m1, m2, m3⟩ := (HQ.out.it.later hws) n (by have := HKN.out; omega)
                    obtain ⟨g'', o'', ea'', s0, s1, s2, s3⟩ := (HQ.out.it.later hws) k HKN.out
                    rw [ea'] at ea''
                    cases ea''
                    rw [ea'] at e10
                    clear ea'
                    have hnm : n < q.m := by have := HKN.out; omega
                    have hkm : k < q.m := HKN.out
                    cases b2
                    · go_wp2_with fail
                      go_quiet (fail)
                      go_wp2
                      go_roundw
                      case rel =>
                        refine ⟨n + 1, false, HNK.out, rfl, by go_num, ?_, bd hBs _⟩
                        refine ⟨fun h => absurd h (by simp), fun h => HB2.out.2 ⟨h.1, fun j hj => h.2 j (by omega)⟩⟩
                      case measure => have := HNK.out; simp [intOf]; omega
                    · by_cases e : (q.it n).nm = (q.it k).nm
                      · have HE : Hid ((q.it n).nm = (q.it k).nm) := e
                        have t := str_yes e
                        clear e
                        go_wp2_with fail
                        go_quiet (fail)
                        go_wp2
                        go_roundw
                        case rel =>
                          refine ⟨n + 1, false, HNK.out, rfl, by go_num, ?_, bd hBs _⟩
                          exact ⟨fun h => absurd h (by simp), fun h => absurd HE.out (h.2 n (by omega))⟩
                        case measure => have := HNK.out; simp [intOf]; omega
                      · have HE : Hid (¬ (q.it n).nm = (q.it k).nm) := e
                        have t := str_not e
                        clear e
                        go_wp2_with fail
                        go_quiet (fail)
                        go_wp2
                        go_roundw
                        case rel =>
                          refine ⟨n + 1, true, HNK.out, rfl, by go_num, ?_, bd hBs _⟩
                          refine ⟨fun _ => ⟨(HB2.out.1 (by trivial)).1, fun j hj => ?_⟩, fun _ => rfl⟩
                          by_cases q2 : j = n
                          · rw [q2]; exact HE.out
                          · exact (HB2.out.1 (by trivial)).2 j (by omega)
                        case measure => have := HNK.out; simp [intOf]; omega
                  · obtain rfl : n = k := by omega
                    have hkm : n < q.m := HKN.out
                    go_wp2
                    go_roundw
                    case rel =>
                      refine ⟨n + 1, b2, HKN.out, rfl, by go_num, ?_, H5.out.trans (hBs.mono H5.out.size)⟩
                      exact ⟨fun h => HJ.out.1 (HB2.out.1 h), fun h => HB2.out.2 (HJ.out.2 h)⟩
                    case measure => have := HKN.out; simp [intOf]; omega
              · obtain ⟨g, o, ea, d0, d1, d2, d3⟩ := (HQ.out.it.later hw) k hkn
                rw [ea] at c10
                have hc := HIT.out k hkn wr
                obtain ⟨r, hr⟩ : ∃ r, r = rightI (q.it k) := ⟨_, rfl⟩
                rw [← hr] at hc HN
                have HJ : Hid ((r = true ∧ ∀ j, j < k → (q.it j).nm ≠ (q.it k).nm) ↔ b = true ∧ ItemsR q (k + 1)) := ⟨fun h => ⟨(HI.out.1 (by trivial)).1, HN.out.2 ⟨(HI.out.1 (by trivial)).2, h.1, h.2⟩⟩, fun h => (HN.out.1 h.2).2⟩
                clear HI HN hr ea
                go_wp2_with (first | (go_at_call 63; refine hc.mono ?_; clear hc; rintro e w6 ⟨rfl, hB6⟩))
                have H6 : Hid (Below w1.heap.size w1 w6) := hb5.trans (hB6.mono hb5.size)
                have H5 : Hid (Below w5.heap.size w5 w6) := hB.trans (hB6.mono hB.size)
                clear c10 hw hB hb5 hk hkn d0 d1 d2 d3 hB6
                go_loopw [4, 8] (fun f jv ws => ∃ (n : Nat) (b2 : Bool), n ≤ k ∧ f = .bool b2 ∧ jv = .int .i64 n ∧ Hid (b2 = true ↔ r = true ∧ ∀ j, j < n → (q.it j).nm ≠ (q.it k).nm) ∧ Below w6.heap.size w6 ws) (fun _ jv _ => k - (intOf jv).toNat)
                case atStart => exact ⟨0, r, Nat.zero_le _, rfl, rfl, ⟨fun h => ⟨h, fun j hj => absurd hj (Nat.not_lt_zero _)⟩, fun h => h.1⟩, Below.refl _ _⟩
                case round =>
                  obtain ⟨n, b2, hn, rfl, rfl, HB2, hBs⟩ := hrel
                  have hb6 := H6.out.trans (hBs.mono H6.out.size)
                  have hws := hw1.trans (hb6.mono hw1.size)
                  obtain ⟨-, -, -, -, -, e10⟩ := (QB1.out.later hb6).at0
                  by_cases hnk : n < k
                  · have HNK : Hid (n < k) := hnk
                    obtain ⟨g', o', ea', m0, m1, m2, m3⟩ := (HQ.out.it.later hws) n (by have := HKN.out; omega)
                    obtain ⟨g'', o'', ea'', s0, s1, s2, s3⟩ := (HQ.out.it.later hws) k HKN.out
                    rw [ea'] at ea''
                    cases ea''
                    rw [ea'] at e10
                    clear ea'
                    have hnm : n < q.m := by have := HKN.out; omega
                    have hkm : k < q.m := HKN.out
                    cases b2
                    · go_wp2_with fail
                      go_quiet (fail)
                      go_wp2
                      go_roundw
                      case rel =>
                        refine ⟨n + 1, false, HNK.out, rfl, by go_num, ?_, bd hBs _⟩
                        refine ⟨fun h => absurd h (by simp), fun h => HB2.out.2 ⟨h.1, fun j hj => h.2 j (by omega)⟩⟩
                      case measure => have := HNK.out; simp [intOf]; omega
                    · by_cases e : (q.it n).nm = (q.it k).nm
                      · have HE : Hid ((q.it n).nm = (q.it k).nm) := e
                        have t := str_yes e
                        clear e
                        go_wp2_with fail
                        go_quiet (fail)
                        go_wp2
                        go_roundw
                        case rel =>
                          refine ⟨n + 1, false, HNK.out, rfl, by go_num, ?_, bd hBs _⟩
                          exact ⟨fun h => absurd h (by simp), fun h => absurd HE.out (h.2 n (by omega))⟩
                        case measure => have := HNK.out; simp [intOf]; omega
                      · have HE : Hid (¬ (q.it n).nm = (q.it k).nm) := e
                        have t := str_not e
                        clear e
                        go_wp2_with fail
                        go_quiet (fail)
                        go_wp2
                        go_roundw
                        case rel =>
                          refine ⟨n + 1, true, HNK.out, rfl, by go_num, ?_, bd hBs _⟩
                          refine ⟨fun _ => ⟨(HB2.out.1 (by trivial)).1, fun j hj => ?_⟩, fun _ => rfl⟩
                          by_cases q2 : j = n
                          · rw [q2]; exact HE.out
                          · exact (HB2.out.1 (by trivial)).2 j (by omega)
                        case measure => have := HNK.out; simp [intOf]; omega
                  · obtain rfl : n = k := by omega
                    have hkm : n < q.m := HKN.out
                    go_wp2
                    go_roundw
                    case rel =>
                      refine ⟨n + 1, b2, HKN.out, rfl, by go_num, ?_, H5.out.trans (hBs.mono H5.out.size)⟩
                      exact ⟨fun h => HJ.out.1 (HB2.out.1 h), fun h => HB2.out.2 (HJ.out.2 h)⟩
                    case measure => have := HKN.out; simp [intOf]; omega
            · obtain rfl : k = q.m := by omega
              cases b'
              · have hvv : Hid (v = 1) := R7.out false HI.out
                clear R7 HI
                go_wp2
                go_ret
                exact ⟨by rw [hvv.out]; rfl, hw⟩
              · have hvv : Hid (v = 0) := R7.out true HI.out
                clear R7 HI
                go_wp2
                go_ret
                exact ⟨by rw [hvv.out]; rfl, hw⟩)
end Go.Proofs.YtfnfegcjgnbgbaaGreatDoor
