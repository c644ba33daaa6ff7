/-
  The document's Check of queries: a Key.
  The document's Check of queries.
-/
import Derived.Test.YtfnfegcjgnbgbaaGreatDoorTQryRefChkMath
import Derived.Test.YtfnfegcjgnbgbaaGreatDoorTExprRefRightPD
import Derived.Test.YtfnfegcjgnbgbaaGreatDoorTPatRefLeaf
namespace Go.Proofs.YtfnfegcjgnbgbaaGreatDoor
open Go.RowKit

set_option maxRecDepth 100000 in
set_option maxHeartbeats 60000000 in
theorem refCheckQ_b (q : Qy) (w : World) (hQ : IsQ w q) (hok : QOk q) (hsm : q.bulk ≤ 1048576) (z0 : chkP q.p = 0) (n1 : q.n ≤ 16) (n2 : q.m ≤ 16) (hkey : ¬ q.key = ⟨#[]⟩) : Calls Tryz.prog 36 #[q.val] w fun e w' => e = .returned (.int .i64 (chkQ q)) ∧ Below w.heap.size w w' := by
  have hb := hsm
  unfold Qy.bulk at hb
  have hB0 : Below w.heap.size w (w.alloc (.cells q.cells 28)) := (Below.refl _ _).alloc (Nat.le_refl _) _
  have C1 : Hid (Calls Tryz.prog 60 #[q.p.val] (w.alloc (.cells q.cells 28)) fun e w' => e = .returned (.int .i64 0) ∧ Below (w.alloc (.cells q.cells 28)).heap.size (w.alloc (.cells q.cells 28)) w') := by
    have := refCheckP_any q.p _ (hQ.p.later hB0) (by omega) hok.p
    rw [z0] at this
    exact this
  have CN : Hid (∀ d, Calls Tryz.prog 61 #[.string q.key] d fun e w' => e = .returned (.bool (nameB q.key)) ∧ d = w') := fun d => (refName_any _ d hok.key).mono fun _ _ h => ⟨h.1, h.2.symm⟩
  have HC : Hid (∀ i, i < q.n → ∀ W, Below w.heap.size w W → Calls Tryz.prog 62 #[(q.c i).val] W fun e w' => e = .returned (.int .i64 (chkX (q.c i))) ∧ Below W.heap.size W w') := fun i hi W hW => by
    obtain ⟨_, _, _, _, h1⟩ := (hQ.x.later hW).part (x := q.x) hi
    have hs : (q.c i).size < q.x.size := q.x.size_part i hi
    refine (refCheckX_any (q.c i) W h1 (((xOk_eq q.x).1 hok.x).2.2 i hi) (by omega)).mono ?_
    rintro e w' ⟨r, rfl, hr, hB⟩
    rw [chkX_of hr]
    exact ⟨rfl, hB⟩
  have HS : Hid (∀ i, i < q.n → ∀ W, Below w.heap.size w W → Calls Tryz.prog 23 #[(q.c i).val] W fun e w' => e = .returned (.int .i64 ((q.c i).size : Nat)) ∧ Below W.heap.size W w') := fun i hi W hW => by
    obtain ⟨_, _, _, _, h1⟩ := (hQ.x.later hW).part (x := q.x) hi
    have hs : (q.c i).size < q.x.size := q.x.size_part i hi
    have := refSize_any (q.c i) W h1
    rw [szZ_small _ (by omega)] at this
    exact this
  have HIT : Hid (∀ i, i < q.m → ∀ W, Calls Tryz.prog 63 #[(q.it i).val] W fun e w' => e = .returned (.bool (rightI (q.it i))) ∧ Below W.heap.size W w') := fun i hi W => refItem_any _ W (hok.it i hi)
  have HQ : Hid (IsQ w q) := hQ
  have qb := QB.new w q
  have QB0 : Hid (QB (w.alloc (.cells q.cells 28)) w.heap.size q) := qb
  obtain ⟨⟨k0, k1, k2, k3, k4, k5⟩, k6, k7, k8, k9, k10⟩ := qb.at0
  have HB0 : Hid (Below w.heap.size w (w.alloc (.cells q.cells 28))) := hB0
  have Z1 : Hid (clN q 0 = 0) := z0
  have Z2 : Hid (clN q 1 = 0) := if_neg (by omega)
  have HXS : Hid (q.x.size = 1 + sumN (fun i => (q.c i).size) q.n ∧ q.x.size ≤ 1048576) := ⟨q.x.size_eq, by omega⟩
  have R3 : Hid (∀ k, k < q.n → (∀ j, j < k → chkX (q.c j) = 0) → ¬ chkX (q.c k) = 0 → chkQ q = chkX (q.c k)) := fun k hk h1 h2 => by
    have e : clN q 2 = chkX (q.c k) := lexN_first (f := fun i => chkX (q.c i)) hk h1 h2
    rw [← e]
    exact lexN_first (f := clN q) (by omega) (fun j hj => by
      match j, hj with
      | 0, _ => exact Z1.out
      | 1, _ => exact Z2.out) (by rw [e]; exact h2)
  have R4 : Hid ((∀ j, j < q.n → chkX (q.c j) = 0) → 100 ≤ sumN (fun i => (q.c i).size) q.n → chkQ q = 2) := fun h1 h2 => by
    have e : clN q 3 = 2 := if_pos (by have := HXS.out; omega)
    rw [← e]
    exact lexN_first (f := clN q) (by omega) (fun j hj => by
      match j, hj with
      | 0, _ => exact Z1.out
      | 1, _ => exact Z2.out
      | 2, _ => exact lexN_zero.2 h1) (by rw [e]; decide)
  obtain ⟨F, hF⟩ : ∃ F, F = fine0 q := ⟨_, rfl⟩
  have R5 : Hid ((∀ j, j < q.n → chkX (q.c j) = 0) → ¬ 100 ≤ sumN (fun i => (q.c i).size) q.n → ∀ b : Bool, (b = true ↔ (F = true ∧ ∀ j, j < q.n → (q.c j).k ≠ 16) ∧ ItemsR q q.m) → chkQ q = if b = true then 0 else 1) := fun h1 h2 b h3 => by
    rw [hF] at h3
    exact chkQ_end (fun j hj => by
      match j, hj with
      | 0, _ => exact Z1.out
      | 1, _ => exact Z2.out
      | 2, _ => exact lexN_zero.2 h1
      | 3, _ => exact if_neg (by have := HXS.out; omega)) b h3
  obtain ⟨v, hv⟩ : ∃ v, v = chkQ q := ⟨_, rfl⟩
  rw [← hv] at R3 R4 R5 ⊢
  have t1 : ¬ ((16 : Int) < ((q.n : Nat) : Int)) := by omega
  have t2 : ¬ ((16 : Int) < ((q.m : Nat) : Int)) := by omega
  have hln : q.n ≤ 9223372036854775807 := by omega
  have hlm : q.m ≤ 9223372036854775807 := by omega
  have tk : (q.key.toList == []) = false := no_empty hkey
  have HL : (nameB q.key = false ∧ F = false) ∨ (nameB q.key = true ∧ ¬ 0 ≤ q.mode ∧ F = false) ∨ (nameB q.key = true ∧ 0 ≤ q.mode ∧ ¬ q.mode ≤ 2 ∧ F = false) ∨ (nameB q.key = true ∧ 0 ≤ q.mode ∧ q.mode ≤ 2 ∧ ¬ 0 ≤ q.win ∧ F = false) ∨ (nameB q.key = true ∧ 0 ≤ q.mode ∧ q.mode ≤ 2 ∧ 0 ≤ q.win ∧ F = decide (q.win ≤ 1099511627776)) := by
    rw [hF]
    unfold fine0
    rw [decide_eq_false hkey, Bool.false_or]
    cases hnm : nameB q.key with
    | false => exact .inl ⟨rfl, rfl⟩
    | true =>
      by_cases a0 : 0 ≤ q.mode
      · by_cases a1 : q.mode ≤ 2
        · by_cases a2 : 0 ≤ q.win
          · exact .inr (.inr (.inr (.inr ⟨rfl, a0, a1, a2, by simp [a0, a1, a2]⟩)))
          · exact .inr (.inr (.inr (.inl ⟨rfl, a0, a1, a2, by simp [a0, a1, a2]⟩)))
        · exact .inr (.inr (.inl ⟨rfl, a0, a1, by simp [a0, a1]⟩))
      · exact .inr (.inl ⟨rfl, a0, by simp [a0]⟩)
  clear hkey hQ qb hB0 hb hsm hok z0 n1 n2 hv hF
  rcases HL with ⟨hnm, hFv⟩ | ⟨hnm, a0, hFv⟩ | ⟨hnm, a0, a1, hFv⟩ | ⟨hnm, a0, a1, a2, hFv⟩ | ⟨hnm, a0, a1, a2, hFv⟩
  all_goals rw [hnm] at CN
  all_goals clear hnm
  all_goals have HFv : Hid _ := hFv
  all_goals clear hFv
  all_goals (
    go_enter Tryz.func36, Tryz.ntmps36
    go_wp2_with (first
      | (go_at_call 60; refine C1.out.mono ?_; clear C1; rintro e w1 ⟨rfl, hB1⟩; clear k0 k1 k2 k3 k4 k5 k6 k7 k8 k9 k10; obtain ⟨⟨k0, k1, k2, k3, k4, k5⟩, k6, k7, k8, k9, k10⟩ := (QB0.out.later hB1).at0)
      | (go_at_call 61; refine (CN.out _).mono ?_; clear CN; rintro e w2 ⟨rfl, rfl⟩))
    have hw1 : Below w.heap.size w w1 := HB0.out.trans (hB1.mono HB0.out.size)
    have QB1 : Hid (QB w1 w.heap.size q) := QB0.out.later hB1
    clear k0 k1 k2 k3 k4 k5 k6 k7 k8 k9 k10 QB0 HB0 hB1
    go_loopw [3, 4, 5, 6] (fun ev f s iv wr => ∃ (k : Nat) (b : Bool) (z : Int), k ≤ q.n ∧ ev = .int .i64 0 ∧ f = .bool b ∧ s = .int .i64 z ∧ iv = .int .i64 k ∧ Hid (b = true ↔ F = true ∧ ∀ j, j < k → (q.c j).k ≠ 16) ∧ Hid (z = ((sumN (fun i => (q.c i).size) k : Nat) : Int)) ∧ Hid (∀ j, j < k → chkX (q.c j) = 0) ∧ Below w1.heap.size w1 wr) (fun _ _ _ iv _ => q.n - (intOf iv).toNat)
    case atStart => exact ⟨0, _, 0, Nat.zero_le _, rfl, rfl, rfl, rfl, ⟨fun h => ⟨HFv.out.trans h, fun j hj => absurd hj (Nat.not_lt_zero _)⟩, fun h => HFv.out.symm.trans h.1⟩, (rfl : (0 : Int) = _), fun j hj => absurd hj (Nat.not_lt_zero _), Below.refl _ _⟩
    case round =>
      obtain ⟨k, b, z, hk, rfl, rfl, rfl, rfl, HBB, HZ, HK, hB⟩ := hrel
      have hw := hw1.trans (hB.mono hw1.size)
      obtain ⟨-, c6, -, -, -, c10⟩ := (QB1.out.later hB).at0
      by_cases hkn : k < q.n
      · obtain ⟨g, o, ea, hn1, -⟩ := (HQ.out.x.later hw).part (x := q.x) hkn
        have EA : Hid (q.a = some ⟨g, o, none⟩) := ea
        rw [EA.out] at c6
        have HN1 : Hid (Node wr g (o + k * 7) (q.c k)) := hn1
        have hn2 : Node wr g (o + k * 7) (q.c k) := hn1
        obtain ⟨d0, d1, d2, d3, d4, d5, d6⟩ := hn2
        have HKN : Hid (k < q.n) := hkn
        have hc := HC.out k hkn wr hw
        have hs := HS.out k hkn
        have HSS : Hid (sumN (fun i => (q.c i).size) (k + 1) = sumN (fun i => (q.c i).size) k + (q.c k).size ∧ sumN (fun i => (q.c i).size) k + (q.c k).size ≤ 1048576) := ⟨rfl, by have := sumN_part (f := fun i => (q.c i).size) hkn; have := HXS.out; omega⟩
        obtain ⟨cx, hcx⟩ : ∃ cx, cx = chkX (q.c k) := ⟨_, rfl⟩
        rw [← hcx] at hc
        obtain ⟨sx, hsx⟩ : ∃ sx, sx = (q.c k).size := ⟨_, rfl⟩
        rw [← hsx] at hs HSS
        clear ea hn1 hsx
        by_cases hz : cx = 0
        · have HCX : Hid (∀ j, j < k + 1 → chkX (q.c j) = 0) := fun j hj => by
            by_cases e : j = k
            · rw [e, ← hcx]; exact hz
            · exact HK.out j (by omega)
          rw [hz] at hc
          clear hcx hz HK
          have HW : Hid (Below w.heap.size w wr) := hw
          have HBW : Hid (Below w1.heap.size w1 wr) := hB
          clear hw hB
          cases b
          · go_wp2_with (first
              | (go_at_call 62; refine hc.mono ?_; clear hc; rintro e w2 ⟨rfl, hB2⟩; have hb2 := HBW.out.trans (hB2.mono HBW.out.size); have hw2 := hw1.trans (hb2.mono hw1.size); clear c6 c10 d0 d1 d2 d3 d4 d5 d6; obtain ⟨-, c6, -, -, -, c10⟩ := (QB1.out.later hb2).at0; rw [EA.out] at c6; have hn3 : Node w2 g (o + k * 7) (q.c k) := HN1.out.later hB2; obtain ⟨d0, d1, d2, d3, d4, d5, d6⟩ := hn3)
              | (go_at_call 23; refine (hs _ hw2).mono ?_; clear hs; rintro e w3 ⟨rfl, hB3⟩; have hb3 := hb2.trans (hB3.mono hb2.size); clear c6 c10 d0 d1 d2 d3 d4 d5 d6; obtain ⟨-, c6, -, -, -, c10⟩ := (QB1.out.later hb3).at0; rw [EA.out] at c6; have hn3 : Node w3 g (o + k * 7) (q.c k) := (HN1.out.later hB2).later hB3; obtain ⟨d0, d1, d2, d3, d4, d5, d6⟩ := hn3))
            go_roundw
            case rel =>
              refine ⟨k + 1, false, _, HKN.out, rfl, rfl, rfl, by go_num, ?_, ?_, HCX, hb3⟩
              · exact ⟨fun h => absurd h (by simp), fun h => HBB.out.2 ⟨h.1, fun j hj => h.2 j (by omega)⟩⟩
              · exact sum_on HZ.out HSS.out
            case measure => have := HKN.out; simp [intOf]; omega
          · by_cases h16 : (q.c k).k = 16
            · have H16 : Hid ((q.c k).k = 16) := h16
              have u16 : ((q.c k).k != 16) = false := by simp [h16]
              clear h16
              go_wp2_with (first
                | (go_at_call 62; refine hc.mono ?_; clear hc; rintro e w2 ⟨rfl, hB2⟩; have hb2 := HBW.out.trans (hB2.mono HBW.out.size); have hw2 := hw1.trans (hb2.mono hw1.size); clear c6 c10 d0 d1 d2 d3 d4 d5 d6; obtain ⟨-, c6, -, -, -, c10⟩ := (QB1.out.later hb2).at0; rw [EA.out] at c6; have hn3 : Node w2 g (o + k * 7) (q.c k) := HN1.out.later hB2; obtain ⟨d0, d1, d2, d3, d4, d5, d6⟩ := hn3)
                | (go_at_call 23; refine (hs _ hw2).mono ?_; clear hs; rintro e w3 ⟨rfl, hB3⟩; have hb3 := hb2.trans (hB3.mono hb2.size); clear c6 c10 d0 d1 d2 d3 d4 d5 d6; obtain ⟨-, c6, -, -, -, c10⟩ := (QB1.out.later hb3).at0; rw [EA.out] at c6; have hn3 : Node w3 g (o + k * 7) (q.c k) := (HN1.out.later hB2).later hB3; obtain ⟨d0, d1, d2, d3, d4, d5, d6⟩ := hn3))
              go_roundw
              case rel =>
                refine ⟨k + 1, false, _, HKN.out, rfl, rfl, rfl, by go_num, ?_, ?_, HCX, hb3⟩
                · exact ⟨fun h => absurd h (by simp), fun h => absurd H16.out (h.2 k (by omega))⟩
                · exact sum_on HZ.out HSS.out
              case measure => have := HKN.out; simp [intOf]; omega
            · have H16 : Hid (¬ (q.c k).k = 16) := h16
              have u16 : ((q.c k).k != 16) = true := by simp [h16]
              clear h16
              go_wp2_with (first
                | (go_at_call 62; refine hc.mono ?_; clear hc; rintro e w2 ⟨rfl, hB2⟩; have hb2 := HBW.out.trans (hB2.mono HBW.out.size); have hw2 := hw1.trans (hb2.mono hw1.size); clear c6 c10 d0 d1 d2 d3 d4 d5 d6; obtain ⟨-, c6, -, -, -, c10⟩ := (QB1.out.later hb2).at0; rw [EA.out] at c6; have hn3 : Node w2 g (o + k * 7) (q.c k) := HN1.out.later hB2; obtain ⟨d0, d1, d2, d3, d4, d5, d6⟩ := hn3)
                | (go_at_call 23; refine (hs _ hw2).mono ?_; clear hs; rintro e w3 ⟨rfl, hB3⟩; have hb3 := hb2.trans (hB3.mono hb2.size); clear c6 c10 d0 d1 d2 d3 d4 d5 d6; obtain ⟨-, c6, -, -, -, c10⟩ := (QB1.out.later hb3).at0; rw [EA.out] at c6; have hn3 : Node w3 g (o + k * 7) (q.c k) := (HN1.out.later hB2).later hB3; obtain ⟨d0, d1, d2, d3, d4, d5, d6⟩ := hn3))
              go_roundw
              case rel =>
                refine ⟨k + 1, true, _, HKN.out, rfl, rfl, rfl, by go_num, ?_, ?_, HCX, hb3⟩
                · refine ⟨fun _ => ⟨(HBB.out.1 (by trivial)).1, fun j hj => ?_⟩, fun _ => rfl⟩
                  by_cases e : j = k
                  · rw [e]; exact H16.out
                  · exact (HBB.out.1 (by trivial)).2 j (by omega)
                · exact sum_on HZ.out HSS.out
              case measure => have := HKN.out; simp [intOf]; omega
        · have hvv : Hid (v = cx) := by show _ = _; rw [hcx]; exact R3.out k hkn HK.out (by rw [← hcx]; exact hz)
          have tz : (cx != 0) = true := by simp [hz]
          clear hcx hz HK R3 R4 R5
          go_wp2_with (first | (go_at_call 62; refine hc.mono ?_; clear hc; rintro e w2 ⟨rfl, hB2⟩))
          go_ret
          exact ⟨by rw [hvv.out]; rfl, hw.trans (hB2.mono hw.size)⟩
      · obtain rfl : k = q.n := by omega
        clear R3
        by_cases hz : 100 ≤ sumN (fun i => (q.c i).size) q.n
        · have hvv : Hid (v = 2) := R4.out HK.out hz
          have tz : (100 : Int) ≤ z := by rw [HZ.out]; omega
          clear hz HZ HK R4 R5
          go_wp2
          go_ret
          exact ⟨by rw [hvv.out]; rfl, hw⟩
        · have tz : ¬ (100 : Int) ≤ z := by rw [HZ.out]; omega
          have R6 := R5.out HK.out hz
          have R7 : Hid (∀ b2 : Bool, (b2 = true ↔ b = true ∧ ItemsR q q.m) → v = if b2 = true then 0 else 1) := fun b2 h => R6 b2 (by rw [h, HBB.out])
          clear hz HZ HK R4 R5 R6 HBB
          go_wp2_with fail
          have H50 : Hid (Below w1.heap.size w1 wr) := hB
          clear c6 c10 hw hB hk hkn
          obtain ⟨w5, hw5⟩ : ∃ w5, w5 = wr := ⟨_, rfl⟩
          rw [← hw5] at H50 ⊢
          clear hw5
          go_loopw [4, 7] (fun f iv wr => ∃ (k : Nat) (b' : Bool), k ≤ q.m ∧ f = .bool b' ∧ iv = .int .i64 k ∧ Hid (b' = true ↔ b = true ∧ ItemsR q k) ∧ Below w5.heap.size w5 wr) (fun _ iv _ => q.m - (intOf iv).toNat)
          case atStart => exact ⟨0, b, Nat.zero_le _, rfl, rfl, ⟨fun h => ⟨h, items_none q⟩, fun h => h.1⟩, Below.refl _ _⟩
          case round =>
            obtain ⟨k, b', hk, rfl, rfl, HI, hB⟩ := hrel
            have hb5 := H50.out.trans (hB.mono H50.out.size)
            have hw := hw1.trans (hb5.mono hw1.size)
            obtain ⟨-, -, -, -, -, c10⟩ := (QB1.out.later hb5).at0
            by_cases hkn : k < q.m
            · have HKN : Hid (k < q.m) := hkn
              have HN : Hid (ItemsR q (k + 1) ↔ ItemsR q k ∧ rightI (q.it k) = true ∧ ∀ j, j < k → (q.it j).nm ≠ (q.it k).nm) := items_next
              cases b'
              · have HJ : Hid ((false = true ∧ ∀ j, j < k → (q.it j).nm ≠ (q.it k).nm) ↔ b = true ∧ ItemsR q (k + 1)) := ⟨fun h => absurd h.1 (by simp), fun h => absurd (HI.out.2 ⟨h.1, (HN.out.1 h.2).1⟩) (by simp)⟩
                clear HI HN
                go_wp2_with fail
                have H6 : Hid (Below w1.heap.size w1 wr) := hb5
                have H5 : Hid (Below w5.heap.size w5 wr) := hB
                clear c10 hw hB hb5 hk hkn
                obtain ⟨w6, hw6⟩ : ∃ w6, w6 = wr := ⟨_, rfl⟩
                rw [← hw6] at H6 H5 ⊢
                clear hw6
                go_loopw [4, 8] (fun f jv ws => ∃ (n : Nat) (b2 : Bool), n ≤ k ∧ f = .bool b2 ∧ jv = .int .i64 n ∧ Hid (b2 = true ↔ false = true ∧ ∀ j, j < n → (q.it j).nm ≠ (q.it k).nm) ∧ Below w6.heap.size w6 ws) (fun _ jv _ => k - (intOf jv).toNat)
                case atStart => exact ⟨0, false, Nat.zero_le _, rfl, rfl, ⟨fun h => ⟨h, fun j hj => absurd hj (Nat.not_lt_zero _)⟩, fun h => h.1⟩, Below.refl _ _⟩
                case round =>
                  obtain ⟨n, b2, hn, rfl, rfl, HB2, hBs⟩ := hrel
                  have hb6 := H6.out.trans (hBs.mono H6.out.size)
                  have hws := hw1.trans (hb6.mono hw1.size)
                  obtain ⟨-, -, -, -, -, e10⟩ := (QB1.out.later hb6).at0
                  by_cases hnk : n < k
                  · have HNK : Hid (n < k) := hnk
                    obtain ⟨g', o', ea', m0, m1, m2, m3⟩ := (HQ.out.it.later hws) n (by have := HKN.out; omega)
                    obtain ⟨g'', o'', ea'', s0, s1, s2, s3⟩ := (HQ.out.it.later hws) k HKN.out
                    rw [ea'] at ea''
                    cases ea''
                    rw [ea'] at e10
                    clear ea'
                    have hnm : n < q.m := by have := HKN.out; omega
                    have hkm : k < q.m := HKN.out
                    cases b2
                    · go_wp2_with fail
                      go_quiet (fail)
                      go_wp2
                      go_roundw
                      case rel =>
                        refine ⟨n + 1, false, HNK.out, rfl, by go_num, ?_, bd hBs _⟩
                        refine ⟨fun h => absurd h (by simp), fun h => HB2.out.2 ⟨h.1, fun j hj => h.2 j (by omega)⟩⟩
                      case measure => have := HNK.out; simp [intOf]; omega
                    · by_cases e : (q.it n).nm = (q.it k).nm
                      · have HE : Hid ((q.it n).nm = (q.it k).nm) := e
                        have t := str_yes e
                        clear e
                        go_wp2_with fail
                        go_quiet (fail)
                        go_wp2
                        go_roundw
                        case rel =>
                          refine ⟨n + 1, false, HNK.out, rfl, by go_num, ?_, bd hBs _⟩
                          exact ⟨fun h => absurd h (by simp), fun h => absurd HE.out (h.2 n (by omega))⟩
                        case measure => have := HNK.out; simp [intOf]; omega
                      · have HE : Hid (¬ (q.it n).nm = (q.it k).nm) := e
                        have t := str_not e
                        clear e
                        go_wp2_with fail
                        go_quiet (fail)
                        go_wp2
                        go_roundw
                        case rel =>
                          refine ⟨n + 1, true, HNK.out, rfl, by go_num, ?_, bd hBs _⟩
                          refine ⟨fun _ => ⟨(HB2.out.1 (by trivial)).1, fun j hj => ?_⟩, fun _ => rfl⟩
                          by_cases q2 : j = n
                          · rw [q2]; exact HE.out
                          · exact (HB2.out.1 (by trivial)).2 j (by omega)
                        case measure => have := HNK.out; simp [intOf]; omega
                  · obtain rfl : n = k := by omega
                    have hkm : n < q.m := HKN.out
                    go_wp2
                    go_roundw
                    case rel =>
                      refine ⟨n + 1, b2, HKN.out, rfl, by go_num, ?_, H5.out.trans (hBs.mono H5.out.size)⟩
                      exact ⟨fun h => HJ.out.1 (HB2.out.1 h), fun h => HB2.out.2 (HJ.out.2 h)⟩
                    case measure => have := HKN.out; simp [intOf]; omega
              · obtain ⟨g, o, ea, d0, d1, d2, d3⟩ := (HQ.out.it.later hw) k hkn
                rw [ea] at c10
                have hc := HIT.out k hkn wr
                obtain ⟨r, hr⟩ : ∃ r, r = rightI (q.it k) := ⟨_, rfl⟩
                rw [← hr] at hc HN
                have HJ : Hid ((r = true ∧ ∀ j, j < k → (q.it j).nm ≠ (q.it k).nm) ↔ b = true ∧ ItemsR q (k + 1)) := ⟨fun h => ⟨(HI.out.1 (by trivial)).1, HN.out.2 ⟨(HI.out.1 (by trivial)).2, h.1, h.2⟩⟩, fun h => (HN.out.1 h.2).2⟩
                clear HI HN hr ea
                go_wp2_with (first | (go_at_call 63; refine hc.mono ?_; clear hc; rintro e w6 ⟨rfl, hB6⟩))
                have H6 : Hid (Below w1.heap.size w1 w6) := hb5.trans (hB6.mono hb5.size)
                have H5 : Hid (Below w5.heap.size w5 w6) := hB.trans (hB6.mono hB.size)
                clear c10 hw hB hb5 hk hkn d0 d1 d2 d3 hB6
                go_loopw [4, 8] (fun f jv ws => ∃ (n : Nat) (b2 : Bool), n ≤ k ∧ f = .bool b2 ∧ jv = .int .i64 n ∧ Hid (b2 = true ↔ r = true ∧ ∀ j, j < n → (q.it j).nm ≠ (q.it k).nm) ∧ Below w6.heap.size w6 ws) (fun _ jv _ => k - (intOf jv).toNat)
                case atStart => exact ⟨0, r, Nat.zero_le _, rfl, rfl, ⟨fun h => ⟨h, fun j hj => absurd hj (Nat.not_lt_zero _)⟩, fun h => h.1⟩, Below.refl _ _⟩
                case round =>
                  obtain ⟨n, b2, hn, rfl, rfl, HB2, hBs⟩ := hrel
                  have hb6 := H6.out.trans (hBs.mono H6.out.size)
                  have hws := hw1.trans (hb6.mono hw1.size)
                  obtain ⟨-, -, -, -, -, e10⟩ := (QB1.out.later hb6).at0
                  by_cases hnk : n < k
                  · have HNK : Hid (n < k) := hnk
                    obtain ⟨g', o', ea', m0, m1, m2, m3⟩ := (HQ.out.it.later hws) n (by have := HKN.out; omega)
                    obtain ⟨g'', o'', ea'', s0, s1, s2, s3⟩ := (HQ.out.it.later hws) k HKN.out
                    rw [ea'] at ea''
                    cases ea''
                    rw [ea'] at e10
                    clear ea'
                    have hnm : n < q.m := by have := HKN.out; omega
                    have hkm : k < q.m := HKN.out
                    cases b2
                    · go_wp2_with fail
                      go_quiet (fail)
                      go_wp2
                      go_roundw
                      case rel =>
                        refine ⟨n + 1, false, HNK.out, rfl, by go_num, ?_, bd hBs _⟩
                        refine ⟨fun h => absurd h (by simp), fun h => HB2.out.2 ⟨h.1, fun j hj => h.2 j (by omega)⟩⟩
                      case measure => have := HNK.out; simp [intOf]; omega
                    · by_cases e : (q.it n).nm = (q.it k).nm
                      · have HE : Hid ((q.it n).nm = (q.it k).nm) := e
                        have t := str_yes e
                        clear e
                        go_wp2_with fail
                        go_quiet (fail)
                        go_wp2
                        go_roundw
                        case rel =>
                          refine ⟨n + 1, false, HNK.out, rfl, by go_num, ?_, bd hBs _⟩
                          exact ⟨fun h => absurd h (by simp), fun h => absurd HE.out (h.2 n (by omega))⟩
                        case measure => have := HNK.out; simp [intOf]; omega
                      · have HE : Hid (¬ (q.it n).nm = (q.it k).nm) := e
                        have t := str_not e
                        clear e
                        go_wp2_with fail
                        go_quiet (fail)
                        go_wp2
                        go_roundw
                        case rel =>
                          refine ⟨n + 1, true, HNK.out, rfl, by go_num, ?_, bd hBs _⟩
                          refine ⟨fun _ => ⟨(HB2.out.1 (by trivial)).1, fun j hj => ?_⟩, fun _ => rfl⟩
                          by_cases q2 : j = n
                          · rw [q2]; exact HE.out
                          · exact (HB2.out.1 (by trivial)).2 j (by omega)
                        case measure => have := HNK.out; simp [intOf]; omega
                  · obtain rfl : n = k := by omega
                    have hkm : n < q.m := HKN.out
                    go_wp2
                    go_roundw
                    case rel =>
                      refine ⟨n + 1, b2, HKN.out, rfl, by go_num, ?_, H5.out.trans (hBs.mono H5.out.size)⟩
                      exact ⟨fun h => HJ.out.1 (HB2.out.1 h), fun h => HB2.out.2 (HJ.out.2 h)⟩
                    case measure => have := HKN.out; simp [intOf]; omega
            · obtain rfl : k = q.m := by omega
              cases b'
              · have hvv : Hid (v = 1) := R7.out false HI.out
                clear R7 HI
                go_wp2
                go_ret
                exact ⟨by rw [hvv.out]; rfl, hw⟩
              · have hvv : Hid (v = 0) := R7.out true HI.out
                clear R7 HI
                go_wp2
                go_ret
                exact ⟨by rw [hvv.out]; rfl, hw⟩)
end Go.Proofs.YtfnfegcjgnbgbaaGreatDoor
namespace Go.Proofs.YtfnfegcjgnbgbaaGreatDoor
open Go.RowKit

set_option maxRecDepth 100000 in
set_option maxHeartbeats 8000000 in
theorem refCheckQ_p (q : Qy) (w : World) (hQ : IsQ w q) (hok : QOk q) (hsm : q.bulk ≤ 1048576) (z0 : ¬ chkP q.p = 0) : Calls Tryz.prog 36 #[q.val] w fun e w' => e = .returned (.int .i64 (chkQ q)) ∧ Below w.heap.size w w' := by
  have hb := hsm
  unfold Qy.bulk at hb
  have hB0 : Below w.heap.size w (w.alloc (.cells q.cells 28)) := (Below.refl _ _).alloc (Nat.le_refl _) _
  obtain ⟨cz, hcz⟩ : ∃ cz, cz = chkP q.p := ⟨_, rfl⟩
  have C1 : Hid (Calls Tryz.prog 60 #[q.p.val] (w.alloc (.cells q.cells 28)) fun e w' => e = .returned (.int .i64 cz) ∧ Below (w.alloc (.cells q.cells 28)).heap.size (w.alloc (.cells q.cells 28)) w') := by
    have := refCheckP_any q.p _ (hQ.p.later hB0) (by omega) hok.p
    rw [← hcz] at this
    exact this
  have hr : chkQ q = cz := by
    rw [hcz]
    exact lexN_first (f := clN q) (k := 0) (by omega) (fun j hj => absurd hj (Nat.not_lt_zero _)) z0
  rw [hr]
  have tz : (cz != 0) = true := by rw [hcz]; simp [z0]
  obtain ⟨⟨k0, k1, k2, k3, k4, k5⟩, k6, k7, k8, k9, k10⟩ := (QB.new w q).at0
  have HB0 : Hid (Below w.heap.size w (w.alloc (.cells q.cells 28))) := hB0
  clear hQ hok hsm z0 hb hB0 hcz hr
  go_enter Tryz.func36, Tryz.ntmps36
  go_wp2_with (first | (go_at_call 60; refine C1.out.mono ?_; clear C1; rintro e w1 ⟨rfl, hB1⟩))
  go_ret
  exact ⟨rfl, HB0.out.trans (hB1.mono HB0.out.size)⟩
set_option maxRecDepth 100000 in
set_option maxHeartbeats 8000000 in
theorem refCheckQ_n (q : Qy) (w : World) (hQ : IsQ w q) (hok : QOk q) (hsm : q.bulk ≤ 1048576) (z0 : chkP q.p = 0) (hn : 16 < q.n ∨ 16 < q.m) : Calls Tryz.prog 36 #[q.val] w fun e w' => e = .returned (.int .i64 (chkQ q)) ∧ Below w.heap.size w w' := by
  have hb := hsm
  unfold Qy.bulk at hb
  have hB0 : Below w.heap.size w (w.alloc (.cells q.cells 28)) := (Below.refl _ _).alloc (Nat.le_refl _) _
  have C1 : Hid (Calls Tryz.prog 60 #[q.p.val] (w.alloc (.cells q.cells 28)) fun e w' => e = .returned (.int .i64 0) ∧ Below (w.alloc (.cells q.cells 28)).heap.size (w.alloc (.cells q.cells 28)) w') := by
    have := refCheckP_any q.p _ (hQ.p.later hB0) (by omega) hok.p
    rw [z0] at this
    exact this
  have hr : chkQ q = 2 := by
    have e : clN q 1 = 2 := if_pos hn
    rw [← e]
    exact lexN_first (f := clN q) (k := 1) (by omega) (fun j hj => by obtain rfl : j = 0 := by omega
                                                                      exact z0) (by rw [e]; decide)
  rw [hr]
  have QB0 : Hid (QB (w.alloc (.cells q.cells 28)) w.heap.size q) := QB.new w q
  obtain ⟨⟨k0, k1, k2, k3, k4, k5⟩, k6, k7, k8, k9, k10⟩ := (QB.new w q).at0
  have HB0 : Hid (Below w.heap.size w (w.alloc (.cells q.cells 28))) := hB0
  have hcase : (16 : Int) < ((q.n : Nat) : Int) ∨ (¬ (16 : Int) < ((q.n : Nat) : Int) ∧ (16 : Int) < ((q.m : Nat) : Int)) := by omega
  clear hQ hok hsm z0 hb hB0 hr hn
  rcases hcase with t1 | ⟨t1, t2⟩
  · go_enter Tryz.func36, Tryz.ntmps36
    go_wp2_with (first | (go_at_call 60; refine C1.out.mono ?_; clear C1; rintro e w1 ⟨rfl, hB1⟩; clear k0 k1 k2 k3 k4 k5 k6 k7 k8 k9 k10; obtain ⟨⟨k0, k1, k2, k3, k4, k5⟩, k6, k7, k8, k9, k10⟩ := (QB0.out.later hB1).at0))
    go_ret
    exact ⟨rfl, HB0.out.trans (hB1.mono HB0.out.size)⟩
  · go_enter Tryz.func36, Tryz.ntmps36
    go_wp2_with (first | (go_at_call 60; refine C1.out.mono ?_; clear C1; rintro e w1 ⟨rfl, hB1⟩; clear k0 k1 k2 k3 k4 k5 k6 k7 k8 k9 k10; obtain ⟨⟨k0, k1, k2, k3, k4, k5⟩, k6, k7, k8, k9, k10⟩ := (QB0.out.later hB1).at0))
    go_ret
    exact ⟨rfl, HB0.out.trans (hB1.mono HB0.out.size)⟩
theorem refCheckQ_any (q : Qy) (w : World) (hQ : IsQ w q) (hok : QOk q) (hsm : q.bulk ≤ 1048576) : Calls Tryz.prog 36 #[q.val] w fun e w' => e = .returned (.int .i64 (chkQ q)) ∧ Below w.heap.size w w' := by
  by_cases z0 : chkP q.p = 0
  · by_cases hn : 16 < q.n ∨ 16 < q.m
    · exact refCheckQ_n q w hQ hok hsm z0 hn
    · by_cases hkey : q.key = ⟨#[]⟩
      · exact refCheckQ_a q w hQ hok hsm z0 (by omega) (by omega) hkey
      · exact refCheckQ_b q w hQ hok hsm z0 (by omega) (by omega) hkey
  · exact refCheckQ_p q w hQ hok hsm z0
end Go.Proofs.YtfnfegcjgnbgbaaGreatDoor
