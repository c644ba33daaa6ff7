/-
  query.Check of a query of any size.
  query.Where; the document's Light of queries; law13's awake.
-/
import Derived.Test.YtfnfegcjgnbgbaaGreatDoorTQryBase
import Derived.Test.YtfnfegcjgnbgbaaGreatDoorTPatFirsts
import Derived.Test.YtfnfegcjgnbgbaaGreatDoorTExprCheck
import Derived.Test.YtfnfegcjgnbgbaaGreatDoorTExprKinds
import Derived.Test.YtfnfegcjgnbgbaaGreatDoorTExprAlone
import Derived.Test.YtfnfegcjgnbgbaaGreatDoorTTrees
import Derived.Test.YtfnfegcjgnbgbaaGreatDoorTAbNote
import Derived.Test.YtfnfegcjgnbgbaaGreatDoorTExprMath
import Derived.Test.YtfnfegcjgnbgbaaGreatDoorTValOrder
import Derived.Test.YtfnfegcjgnbgbaaGreatDoorTPatKinds
import Derived.Sort.CutIn
import Derived.Lib.MinMax
import Derived.Maps.OwnSet
import Derived.Maps.OwnIn
import Derived.Maps.Views
namespace Go.Proofs.YtfnfegcjgnbgbaaGreatDoor
open Go.RowKit

set_option maxRecDepth 100000 in
set_option maxHeartbeats 4000000 in
theorem cl1F_any (q : Qy) (w : World) (hQ : IsQ w q) : Calls Tryz.prog 41 #[q.val] w fun e w' => e = .returned (.int .i64 (cl1 q)) ∧ Below w.heap.size w w' := by
  have hB : Below w.heap.size w (w.alloc (.cells q.cells 77)) := (Below.refl _ w).alloc (Nat.le_refl _) _
  have hx0 := alloc_new w (.cells q.cells 77)
  obtain ⟨⟨k0, k1, k2, k3, k4, k5⟩, k6, k7, k8, k9, k10⟩ := qat0 hx0
  have HB : Hid (Below w.heap.size w (w.alloc (.cells q.cells 77))) := hB
  have C1 : Hid (Calls Tryz.prog 50 #[q.p.val] (w.alloc (.cells q.cells 77)) _) := checkPF_any q.p _ (hQ.p.later hB)
  clear hQ hB hx0
  go_enter Tryz.func41, Tryz.ntmps41
  go_wp2_with (first | (go_at_call 50; refine C1.out.mono ?_; rintro e w1 ⟨rfl, hB1⟩))
  go_ret
  exact ⟨rfl, HB.out.trans (hB1.mono HB.out.size)⟩
set_option maxRecDepth 100000 in
set_option maxHeartbeats 4000000 in
theorem cl2F_any (q : Qy) (w : World) : Calls Tryz.prog 42 #[q.val] w fun e w' => e = .returned (.int .i64 (cl2 q)) ∧ Below w.heap.size w w' := by
  have hB : Below w.heap.size w (w.alloc (.cells q.cells 77)) := (Below.refl _ w).alloc (Nat.le_refl _) _
  have hx0 := alloc_new w (.cells q.cells 77)
  obtain ⟨⟨k0, k1, k2, k3, k4, k5⟩, k6, k7, k8, k9, k10⟩ := qat0 hx0
  have HB : Hid (Below w.heap.size w (w.alloc (.cells q.cells 77))) := hB
  have HR : Hid (∀ h1 : 16 < q.n, cl2 q = 2) := fun h1 => if_pos (.inl h1)
  have HR2 : Hid (∀ h1 : 16 < q.m, cl2 q = 2) := fun h1 => if_pos (.inr h1)
  have HR3 : Hid (∀ (h1 : ¬ 16 < q.n) (h2 : ¬ 16 < q.m), cl2 q = 0) := fun h1 h2 => if_neg (by omega)
  obtain ⟨v, hv⟩ : ∃ v, v = cl2 q := ⟨_, rfl⟩
  rw [← hv] at HR HR2 HR3 ⊢
  clear hB hx0 hv
  by_cases h1 : 16 < q.n
  · rw [HR.out h1]
    clear HR HR2 HR3
    have t1 : ((16 : Int) < ((q.n : Nat) : Int)) := by omega
    clear h1
    go_enter Tryz.func42, Tryz.ntmps42
    go_wp2
    go_ret
    exact ⟨rfl, HB.out⟩
  · have t1 : ¬ ((16 : Int) < ((q.n : Nat) : Int)) := by omega
    by_cases h2 : 16 < q.m
    · rw [HR2.out h2]
      clear HR HR2 HR3
      have t2 : ((16 : Int) < ((q.m : Nat) : Int)) := by omega
      clear h1 h2
      go_enter Tryz.func42, Tryz.ntmps42
      go_wp2
      go_ret
      exact ⟨rfl, HB.out⟩
    · rw [HR3.out h1 h2]
      clear HR HR2 HR3
      have t2 : ¬ ((16 : Int) < ((q.m : Nat) : Int)) := by omega
      clear h1 h2
      go_enter Tryz.func42, Tryz.ntmps42
      go_wp2
      go_ret
      exact ⟨rfl, HB.out⟩
set_option maxRecDepth 100000 in
set_option maxHeartbeats 4000000 in
theorem cl3F_any (q : Qy) (w : World) (hQ : IsQ w q) : Calls Tryz.prog 43 #[q.val] w fun e w' => e = .returned (.int .i64 (cl3 q)) ∧ Below w.heap.size w w' := by
  have hB : Below w.heap.size w (w.alloc (.cells q.cells 77)) := (Below.refl _ w).alloc (Nat.le_refl _) _
  have hx0 := alloc_new w (.cells q.cells 77)
  obtain ⟨⟨k0, k1, k2, k3, k4, k5⟩, k6, k7, k8, k9, k10⟩ := qat0 hx0
  have HB : Hid (Below w.heap.size w (w.alloc (.cells q.cells 77))) := hB
  have HI : Hid (∀ i, i < q.n → ∀ W, Below w.heap.size w W → Calls Tryz.prog 66 #[(q.c i).val] W fun e w' => e = .returned (.int .i64 (chkX (q.c i))) ∧ Below W.heap.size W w') := fun i hi W hW => by
    obtain ⟨_, _, _, _, h1⟩ := (hQ.x.later hW).part (x := q.x) hi
    refine (checkX_any _ W h1).mono ?_
    rintro e w' ⟨r, rfl, h2, h3⟩
    have h2' : ChkX (q.c i) r := h2
    rw [← chkX_of h2']
    exact ⟨rfl, h3⟩
  have HF : Hid (∀ k, k < q.n → (∀ j, j < k → chkX (q.c j) = 0) → ¬ chkX (q.c k) = 0 → cl3 q = chkX (q.c k)) := fun k hk hz hn => lexN_first (f := fun i => chkX (q.c i)) hk hz hn
  have HZ : Hid ((∀ j, j < q.n → chkX (q.c j) = 0) → cl3 q = 0) := fun h => lexN_zero.2 h
  obtain ⟨v, hv⟩ : ∃ v, v = cl3 q := ⟨_, rfl⟩
  rw [← hv] at HF HZ ⊢
  have HX : Hid (IsX w q.x) := hQ.x
  have hlen : q.n ≤ 9223372036854775807 := hQ.x.len
  clear hQ hB hx0 hv k0 k1 k2 k3 k4 k5 k7 k8 k9 k10
  go_enter Tryz.func43, Tryz.ntmps43
  go_wp2_with fail
  go_loopw [9] (fun u wr => ∃ k : Nat, k ≤ q.n ∧ u = .int .i64 k ∧ Hid (∀ j, j < k → chkX (q.c j) = 0) ∧ Below w.heap.size w wr) (fun u _ => q.n - (intOf u).toNat)
  case atStart => exact ⟨0, Nat.zero_le _, rfl, fun j hj => absurd hj (Nat.not_lt_zero _), HB.out⟩
  case round =>
    obtain ⟨k, hk, rfl, HK, hBr⟩ := hrel
    clear k6
    by_cases hkn : k < q.n
    · obtain ⟨b, o, ea, hn, -⟩ := (HX.out.later hBr).part hkn
      have ea' : q.a = some ⟨b, o, none⟩ := ea
      rw [ea']
      have hn' : Node wr b (o + k * 7) (q.c k) := hn
      obtain ⟨d0, d1, d2, d3, d4, d5, d6⟩ := hn'
      have hB2 : Below wr.heap.size wr (wr.alloc (.cells (q.c k).cells 51)) := (Below.refl _ _).alloc (Nat.le_refl _) _
      have hbb := hBr.trans (hB2.mono hBr.size)
      have hc := HI.out k hkn _ hbb
      obtain ⟨g0, g1, g2, g3, g4, g5, g6⟩ := (node_new wr 51 (q.c k)).at0
      have HBB : Hid _ := hbb
      have HKN : Hid (k < q.n) := hkn
      obtain ⟨z, hz⟩ : ∃ z, z = chkX (q.c k) := ⟨_, rfl⟩
      rw [← hz] at hc
      have HE : Hid (z = chkX (q.c k)) := hz
      clear hz ea ea' hn hB2 hbb
      by_cases hz0 : z = 0
      · have t : (z != 0) = false := by simp [hz0]
        have HZ0 : Hid (z = 0) := hz0
        clear hz0
        go_wp2_with (first | (go_at_call 66; refine hc.mono ?_; clear hc; rintro e w2 ⟨rfl, hB2⟩))
        refine ⟨⟨k + 1, HKN.out, by simp, fun j hj => ?_, HBB.out.trans (hB2.mono HBB.out.size)⟩, ?_⟩
        · by_cases e : j = k
          · rw [e, ← HE.out]; exact HZ0.out
          · exact HK.out j (by omega)
        · have := HKN.out; simp [intOf]; omega
      · have t : (z != 0) = true := by simp [hz0]
        have HZ0 : Hid (¬ z = 0) := hz0
        clear hz0
        go_wp2_with (first | (go_at_call 66; refine hc.mono ?_; clear hc; rintro e w2 ⟨rfl, hB2⟩))
        try rw [Exit.noGoto_ret]
        go_ret
        exact ⟨by rw [HF.out k HKN.out HK.out (HE.out ▸ HZ0.out), ← HE.out]; rfl, HBB.out.trans (hB2.mono HBB.out.size)⟩
    · obtain rfl : k = q.n := by omega
      go_wp2
      go_ret
      exact ⟨by rw [HZ.out HK.out]; rfl, hBr⟩
/-- What the first three clauses let through is small. -/
theorem bulk_of {q : Qy} (h : ∀ j, j < 3 → clN q j = 0) : q.bulk ≤ 1048576 := by
  have h1 : chkP q.p = 0 := h 0 (by omega)
  have h2 : cl2 q = 0 := h 1 (by omega)
  have h3 : ∀ i, i < q.n → chkX (q.c i) = 0 := lexN_zero.1 (h 2 (by omega))
  have hp : q.p.size ≤ 64 := (chkP_zero.1 h1).1
  have hn : ¬ (16 < q.n ∨ 16 < q.m) := fun e => by
    unfold cl2 at h2
    rw [if_pos e] at h2
    cases h2
  have hx : ∀ i, i < q.n → (q.c i).size ≤ 100 := fun i hi => by
    have := h3 i hi
    unfold chkX at this
    split at this
    · cases this
    · omega
  have key : ∀ k, k ≤ q.n → sumN (fun i => (q.c i).size) k ≤ 100 * k := by
    intro k
    induction k with
    | zero => intro _; exact Nat.le_refl _
    | succ k ih =>
      intro hk
      have h4 := ih (by omega)
      have h5 := hx k (by omega)
      simp only [sumN]
      omega
  have h4 := key q.n (Nat.le_refl _)
  have h5 : q.x.size = 1 + sumN (fun i => (q.c i).size) q.n := X.size_eq q.x
  unfold Qy.bulk
  omega
set_option maxRecDepth 100000 in
set_option maxHeartbeats 16000000 in
theorem checkQF_any (q : Qy) (w : World) (hQ : IsQ w q) (hok : QOk q) : Calls Tryz.prog 24 #[q.val] w fun e w' => e = .returned (.int .i64 (chkQ q)) ∧ Below w.heap.size w w' := by
  have C0 : Hid (∀ d, Below w.heap.size w d → Calls Tryz.prog 41 #[q.val] d fun e w' => e = .returned (.int .i64 (clN q 0)) ∧ Below d.heap.size d w') := fun d h => cl1F_any q d (hQ.later h)
  have C1 : Hid (∀ d, Below w.heap.size w d → Calls Tryz.prog 42 #[q.val] d fun e w' => e = .returned (.int .i64 (clN q 1)) ∧ Below d.heap.size d w') := fun d h => cl2F_any q d
  have C2 : Hid (∀ d, Below w.heap.size w d → Calls Tryz.prog 43 #[q.val] d fun e w' => e = .returned (.int .i64 (clN q 2)) ∧ Below d.heap.size d w') := fun d h => cl3F_any q d (hQ.later h)
  have C3 : Hid (∀ d, Below w.heap.size w d → (∀ j, j < 3 → clN q j = 0) → Calls Tryz.prog 44 #[q.val] d fun e w' => e = .returned (.int .i64 (clN q 3)) ∧ Below d.heap.size d w') := fun d h h0 => cl4_any q d (hQ.later h) hok (bulk_of h0)
  have C4 : Hid (∀ d, Below w.heap.size w d → (∀ j, j < 3 → clN q j = 0) → Calls Tryz.prog 45 #[q.val] d fun e w' => e = .returned (.int .i64 (clN q 4)) ∧ Below d.heap.size d w') := fun d h h0 => cl5_any q d (hQ.later h) hok (bulk_of h0)
  have C5 : Hid (∀ d, Below w.heap.size w d → (∀ j, j < 3 → clN q j = 0) → Calls Tryz.prog 46 #[q.val] d fun e w' => e = .returned (.int .i64 (clN q 5)) ∧ Below d.heap.size d w') := fun d h h0 => cl6_any q d (hQ.later h) hok (bulk_of h0)
  have C6 : Hid (∀ d, Below w.heap.size w d → (∀ j, j < 3 → clN q j = 0) → Calls Tryz.prog 47 #[q.val] d fun e w' => e = .returned (.int .i64 (clN q 6)) ∧ Below d.heap.size d w') := fun d h h0 => cl7_any q d (hQ.later h) hok (bulk_of h0)
  have C7 : Hid (∀ d, Below w.heap.size w d → (∀ j, j < 3 → clN q j = 0) → Calls Tryz.prog 48 #[q.val] d fun e w' => e = .returned (.int .i64 (clN q 7)) ∧ Below d.heap.size d w') := fun d h h0 => cl8_any q d (hQ.later h) hok (bulk_of h0)
  have C8 : Hid (∀ d, Below w.heap.size w d → (∀ j, j < 3 → clN q j = 0) → Calls Tryz.prog 49 #[q.val] d fun e w' => e = .returned (.int .i64 (clN q 8)) ∧ Below d.heap.size d w') := fun d h h0 => cl9_any q d (hQ.later h) hok (bulk_of h0)
  have HF : Hid (∀ k, k < 9 → (∀ j, j < k → clN q j = 0) → ¬ clN q k = 0 → chkQ q = clN q k) := fun k hk hz hn => lexN_first (f := clN q) hk hz hn
  have HZ : Hid ((∀ j, j < 9 → clN q j = 0) → chkQ q = 0) := fun h => lexN_zero.2 h
  obtain ⟨v, hv⟩ : ∃ v, v = chkQ q := ⟨_, rfl⟩
  rw [← hv] at HF HZ ⊢
  clear hQ hok hv
  go_enter Tryz.func24, Tryz.ntmps24
  go_upto_region 2 with fail
  obtain ⟨A, hA⟩ : ∃ A, (w.alloc (.cells q.cells 28)).alloc (.cells q.cells 77) = A := ⟨_, rfl⟩
  have hA' := hA
  unfold Qy.cells at hA'
  rw [hA']
  have hsz : A.heap.size = w.heap.size + 2 := by rw [← hA]; simp
  have hB : Below w.heap.size w A := by rw [← hA]; exact ((Below.refl _ w).alloc (Nat.le_refl _) _).alloc (by simp) _
  have hx1 : A.heap[w.heap.size + 1]? = some (.cells q.cells 77 (0, 0)) := by
    have := alloc_new (w.alloc (.cells q.cells 28)) (.cells q.cells 77)
    rw [World.size_alloc, hA] at this
    exact this
  obtain ⟨⟨k0, k1, k2, k3, k4, k5⟩, k6, k7, k8, k9, k10⟩ := qat0 hx1
  clear hA hA' hx1
  go_wp2_with fail
  obtain ⟨qv, hqv⟩ : ∃ qv : Value, qv = .agg #[.int .i64 q.p.k, .string q.p.s, .string q.p.t, .int .i64 q.p.lo, .int .i64 q.p.hi, .slice q.p.a q.p.n q.p.cap, .slice q.a q.n q.cap, .string q.key, .int .i64 q.mode, .int .i64 q.win, .slice q.ia q.m q.icap] := ⟨_, rfl⟩
  rw [← hqv]
  rw [show q.val = qv from hqv.symm] at C0
  rw [show q.val = qv from hqv.symm] at C1
  rw [show q.val = qv from hqv.symm] at C2
  rw [show q.val = qv from hqv.symm] at C3
  rw [show q.val = qv from hqv.symm] at C4
  rw [show q.val = qv from hqv.symm] at C5
  rw [show q.val = qv from hqv.symm] at C6
  rw [show q.val = qv from hqv.symm] at C7
  rw [show q.val = qv from hqv.symm] at C8
  have HSZ : Hid (A.heap.size = w.heap.size + 2) := hsz
  have HB : Hid (Below w.heap.size w A) := hB
  obtain ⟨F, hF⟩ : ∃ F, A.alloc (.cells #[.func (.func 41) #[qv] #[], .func (.func 42) #[qv] #[], .func (.func 43) #[qv] #[], .func (.func 44) #[qv] #[], .func (.func 45) #[qv] #[], .func (.func 46) #[qv] #[], .func (.func 47) #[qv] #[], .func (.func 48) #[qv] #[], .func (.func 49) #[qv] #[]] 78) = F := ⟨_, rfl⟩
  rw [hF]
  have hBF : Below A.heap.size A F := by rw [← hF]; exact (Below.refl _ _).alloc (Nat.le_refl _) _
  have hf := alloc_new A (.cells #[.func (.func 41) #[qv] #[], .func (.func 42) #[qv] #[], .func (.func 43) #[qv] #[], .func (.func 44) #[qv] #[], .func (.func 45) #[qv] #[], .func (.func 46) #[qv] #[], .func (.func 47) #[qv] #[], .func (.func 48) #[qv] #[], .func (.func 49) #[qv] #[]] 78)
  rw [hF, hsz] at hf
  have F0 : Hid (F.cell? ⟨w.heap.size + 2, 0, none⟩ = some (.func (.func 41) #[qv] #[])) := by show _ = _; simp [World.cell?, hf]
  have F1 : Hid (F.cell? ⟨w.heap.size + 2, 1, none⟩ = some (.func (.func 42) #[qv] #[])) := by show _ = _; simp [World.cell?, hf]
  have F2 : Hid (F.cell? ⟨w.heap.size + 2, 2, none⟩ = some (.func (.func 43) #[qv] #[])) := by show _ = _; simp [World.cell?, hf]
  have F3 : Hid (F.cell? ⟨w.heap.size + 2, 3, none⟩ = some (.func (.func 44) #[qv] #[])) := by show _ = _; simp [World.cell?, hf]
  have F4 : Hid (F.cell? ⟨w.heap.size + 2, 4, none⟩ = some (.func (.func 45) #[qv] #[])) := by show _ = _; simp [World.cell?, hf]
  have F5 : Hid (F.cell? ⟨w.heap.size + 2, 5, none⟩ = some (.func (.func 46) #[qv] #[])) := by show _ = _; simp [World.cell?, hf]
  have F6 : Hid (F.cell? ⟨w.heap.size + 2, 6, none⟩ = some (.func (.func 47) #[qv] #[])) := by show _ = _; simp [World.cell?, hf]
  have F7 : Hid (F.cell? ⟨w.heap.size + 2, 7, none⟩ = some (.func (.func 48) #[qv] #[])) := by show _ = _; simp [World.cell?, hf]
  have F8 : Hid (F.cell? ⟨w.heap.size + 2, 8, none⟩ = some (.func (.func 49) #[qv] #[])) := by show _ = _; simp [World.cell?, hf]
  clear hf hF hsz hB k0 k1 k2 k3 k4 k5 k6 k7 k8 k9 k10 hqv
  have hwF : Below w.heap.size w F := HB.out.trans (hBF.mono HB.out.size)
  go_loopw [28] (fun u wr => ∃ k : Nat, k ≤ 9 ∧ u = .int .i64 k ∧ Hid (∀ j, j < k → clN q j = 0) ∧ Below F.heap.size F wr) (fun u _ => 9 - (intOf u).toNat)
  case atStart => exact ⟨0, Nat.zero_le _, rfl, fun j hj => absurd hj (Nat.not_lt_zero _), Below.refl _ _⟩
  case round =>
    obtain ⟨k, hk, rfl, HK, hBr⟩ := hrel
    have hw := hwF.trans (hBr.mono hwF.size)
    by_cases hkn : k < 9
    · have hcs : k = 0 ∨ k = 1 ∨ k = 2 ∨ k = 3 ∨ k = 4 ∨ k = 5 ∨ k = 6 ∨ k = 7 ∨ k = 8 := by omega
      clear hk hkn
      rcases hcs with rfl | rfl | rfl | rfl | rfl | rfl | rfl | rfl | rfl
      · have c := cell_later F0.out hBr
        have hc := C0.out wr hw
        obtain ⟨z, hz⟩ : ∃ z, z = clN q 0 := ⟨_, rfl⟩
        rw [← hz] at hc
        have HE : Hid (z = clN q 0) := hz
        have HW : Hid (Below w.heap.size w wr) := hw
        clear hz hw
        by_cases hz0 : z = 0
        · have t : (z != 0) = false := by simp [hz0]
          have HZ0 : Hid (z = 0) := hz0
          clear hz0
          go_wp2_with (first | (go_at_call 41; refine hc.mono ?_; clear hc; rintro e w2 ⟨rfl, hB2⟩))
          have hnx : ∀ j, j < 0 + 1 → clN q j = 0 := fun j hj => by
            by_cases e : j = 0
            · rw [e, ← HE.out]; exact HZ0.out
            · exact HK.out j (by omega)
          first
            | (refine ⟨⟨0 + 1, by omega, by simp, hnx, hBr.trans (hB2.mono hBr.size)⟩, ?_⟩
               simp [intOf])
            | (go_roundw
               case rel => exact ⟨0 + 1, by omega, by go_num, hnx, hBr.trans (hB2.mono hBr.size)⟩
               case measure => simp [intOf])
        · have t : (z != 0) = true := by simp [hz0]
          have HZ0 : Hid (¬ z = 0) := hz0
          clear hz0
          go_wp2_with (first | (go_at_call 41; refine hc.mono ?_; clear hc; rintro e w2 ⟨rfl, hB2⟩))
          try rw [Exit.noGoto_ret]
          go_ret
          exact ⟨by rw [HF.out 0 (by omega) HK.out (HE.out ▸ HZ0.out), ← HE.out]; rfl, HW.out.trans (hB2.mono HW.out.size)⟩
      · have c := cell_later F1.out hBr
        have hc := C1.out wr hw
        obtain ⟨z, hz⟩ : ∃ z, z = clN q 1 := ⟨_, rfl⟩
        rw [← hz] at hc
        have HE : Hid (z = clN q 1) := hz
        have HW : Hid (Below w.heap.size w wr) := hw
        clear hz hw
        by_cases hz0 : z = 0
        · have t : (z != 0) = false := by simp [hz0]
          have HZ0 : Hid (z = 0) := hz0
          clear hz0
          go_wp2_with (first | (go_at_call 42; refine hc.mono ?_; clear hc; rintro e w2 ⟨rfl, hB2⟩))
          have hnx : ∀ j, j < 1 + 1 → clN q j = 0 := fun j hj => by
            by_cases e : j = 1
            · rw [e, ← HE.out]; exact HZ0.out
            · exact HK.out j (by omega)
          first
            | (refine ⟨⟨1 + 1, by omega, by simp, hnx, hBr.trans (hB2.mono hBr.size)⟩, ?_⟩
               simp [intOf])
            | (go_roundw
               case rel => exact ⟨1 + 1, by omega, by go_num, hnx, hBr.trans (hB2.mono hBr.size)⟩
               case measure => simp [intOf])
        · have t : (z != 0) = true := by simp [hz0]
          have HZ0 : Hid (¬ z = 0) := hz0
          clear hz0
          go_wp2_with (first | (go_at_call 42; refine hc.mono ?_; clear hc; rintro e w2 ⟨rfl, hB2⟩))
          try rw [Exit.noGoto_ret]
          go_ret
          exact ⟨by rw [HF.out 1 (by omega) HK.out (HE.out ▸ HZ0.out), ← HE.out]; rfl, HW.out.trans (hB2.mono HW.out.size)⟩
      · have c := cell_later F2.out hBr
        have hc := C2.out wr hw
        obtain ⟨z, hz⟩ : ∃ z, z = clN q 2 := ⟨_, rfl⟩
        rw [← hz] at hc
        have HE : Hid (z = clN q 2) := hz
        have HW : Hid (Below w.heap.size w wr) := hw
        clear hz hw
        by_cases hz0 : z = 0
        · have t : (z != 0) = false := by simp [hz0]
          have HZ0 : Hid (z = 0) := hz0
          clear hz0
          go_wp2_with (first | (go_at_call 43; refine hc.mono ?_; clear hc; rintro e w2 ⟨rfl, hB2⟩))
          have hnx : ∀ j, j < 2 + 1 → clN q j = 0 := fun j hj => by
            by_cases e : j = 2
            · rw [e, ← HE.out]; exact HZ0.out
            · exact HK.out j (by omega)
          first
            | (refine ⟨⟨2 + 1, by omega, by simp, hnx, hBr.trans (hB2.mono hBr.size)⟩, ?_⟩
               simp [intOf])
            | (go_roundw
               case rel => exact ⟨2 + 1, by omega, by go_num, hnx, hBr.trans (hB2.mono hBr.size)⟩
               case measure => simp [intOf])
        · have t : (z != 0) = true := by simp [hz0]
          have HZ0 : Hid (¬ z = 0) := hz0
          clear hz0
          go_wp2_with (first | (go_at_call 43; refine hc.mono ?_; clear hc; rintro e w2 ⟨rfl, hB2⟩))
          try rw [Exit.noGoto_ret]
          go_ret
          exact ⟨by rw [HF.out 2 (by omega) HK.out (HE.out ▸ HZ0.out), ← HE.out]; rfl, HW.out.trans (hB2.mono HW.out.size)⟩
      · have c := cell_later F3.out hBr
        have hc := C3.out wr hw (fun j hj => HK.out j (by omega))
        obtain ⟨z, hz⟩ : ∃ z, z = clN q 3 := ⟨_, rfl⟩
        rw [← hz] at hc
        have HE : Hid (z = clN q 3) := hz
        have HW : Hid (Below w.heap.size w wr) := hw
        clear hz hw
        by_cases hz0 : z = 0
        · have t : (z != 0) = false := by simp [hz0]
          have HZ0 : Hid (z = 0) := hz0
          clear hz0
          go_wp2_with (first | (go_at_call 44; refine hc.mono ?_; clear hc; rintro e w2 ⟨rfl, hB2⟩))
          have hnx : ∀ j, j < 3 + 1 → clN q j = 0 := fun j hj => by
            by_cases e : j = 3
            · rw [e, ← HE.out]; exact HZ0.out
            · exact HK.out j (by omega)
          first
            | (refine ⟨⟨3 + 1, by omega, by simp, hnx, hBr.trans (hB2.mono hBr.size)⟩, ?_⟩
               simp [intOf])
            | (go_roundw
               case rel => exact ⟨3 + 1, by omega, by go_num, hnx, hBr.trans (hB2.mono hBr.size)⟩
               case measure => simp [intOf])
        · have t : (z != 0) = true := by simp [hz0]
          have HZ0 : Hid (¬ z = 0) := hz0
          clear hz0
          go_wp2_with (first | (go_at_call 44; refine hc.mono ?_; clear hc; rintro e w2 ⟨rfl, hB2⟩))
          try rw [Exit.noGoto_ret]
          go_ret
          exact ⟨by rw [HF.out 3 (by omega) HK.out (HE.out ▸ HZ0.out), ← HE.out]; rfl, HW.out.trans (hB2.mono HW.out.size)⟩
      · have c := cell_later F4.out hBr
        have hc := C4.out wr hw (fun j hj => HK.out j (by omega))
        obtain ⟨z, hz⟩ : ∃ z, z = clN q 4 := ⟨_, rfl⟩
        rw [← hz] at hc
        have HE : Hid (z = clN q 4) := hz
        have HW : Hid (Below w.heap.size w wr) := hw
        clear hz hw
        by_cases hz0 : z = 0
        · have t : (z != 0) = false := by simp [hz0]
          have HZ0 : Hid (z = 0) := hz0
          clear hz0
          go_wp2_with (first | (go_at_call 45; refine hc.mono ?_; clear hc; rintro e w2 ⟨rfl, hB2⟩))
          have hnx : ∀ j, j < 4 + 1 → clN q j = 0 := fun j hj => by
            by_cases e : j = 4
            · rw [e, ← HE.out]; exact HZ0.out
            · exact HK.out j (by omega)
          first
            | (refine ⟨⟨4 + 1, by omega, by simp, hnx, hBr.trans (hB2.mono hBr.size)⟩, ?_⟩
               simp [intOf])
            | (go_roundw
               case rel => exact ⟨4 + 1, by omega, by go_num, hnx, hBr.trans (hB2.mono hBr.size)⟩
               case measure => simp [intOf])
        · have t : (z != 0) = true := by simp [hz0]
          have HZ0 : Hid (¬ z = 0) := hz0
          clear hz0
          go_wp2_with (first | (go_at_call 45; refine hc.mono ?_; clear hc; rintro e w2 ⟨rfl, hB2⟩))
          try rw [Exit.noGoto_ret]
          go_ret
          exact ⟨by rw [HF.out 4 (by omega) HK.out (HE.out ▸ HZ0.out), ← HE.out]; rfl, HW.out.trans (hB2.mono HW.out.size)⟩
      · have c := cell_later F5.out hBr
        have hc := C5.out wr hw (fun j hj => HK.out j (by omega))
        obtain ⟨z, hz⟩ : ∃ z, z = clN q 5 := ⟨_, rfl⟩
        rw [← hz] at hc
        have HE : Hid (z = clN q 5) := hz
        have HW : Hid (Below w.heap.size w wr) := hw
        clear hz hw
        by_cases hz0 : z = 0
        · have t : (z != 0) = false := by simp [hz0]
          have HZ0 : Hid (z = 0) := hz0
          clear hz0
          go_wp2_with (first | (go_at_call 46; refine hc.mono ?_; clear hc; rintro e w2 ⟨rfl, hB2⟩))
          have hnx : ∀ j, j < 5 + 1 → clN q j = 0 := fun j hj => by
            by_cases e : j = 5
            · rw [e, ← HE.out]; exact HZ0.out
            · exact HK.out j (by omega)
          first
            | (refine ⟨⟨5 + 1, by omega, by simp, hnx, hBr.trans (hB2.mono hBr.size)⟩, ?_⟩
               simp [intOf])
            | (go_roundw
               case rel => exact ⟨5 + 1, by omega, by go_num, hnx, hBr.trans (hB2.mono hBr.size)⟩
               case measure => simp [intOf])
        · have t : (z != 0) = true := by simp [hz0]
          have HZ0 : Hid (¬ z = 0) := hz0
          clear hz0
          go_wp2_with (first | (go_at_call 46; refine hc.mono ?_; clear hc; rintro e w2 ⟨rfl, hB2⟩))
          try rw [Exit.noGoto_ret]
          go_ret
          exact ⟨by rw [HF.out 5 (by omega) HK.out (HE.out ▸ HZ0.out), ← HE.out]; rfl, HW.out.trans (hB2.mono HW.out.size)⟩
      · have c := cell_later F6.out hBr
        have hc := C6.out wr hw (fun j hj => HK.out j (by omega))
        obtain ⟨z, hz⟩ : ∃ z, z = clN q 6 := ⟨_, rfl⟩
        rw [← hz] at hc
        have HE : Hid (z = clN q 6) := hz
        have HW : Hid (Below w.heap.size w wr) := hw
        clear hz hw
        by_cases hz0 : z = 0
        · have t : (z != 0) = false := by simp [hz0]
          have HZ0 : Hid (z = 0) := hz0
          clear hz0
          go_wp2_with (first | (go_at_call 47; refine hc.mono ?_; clear hc; rintro e w2 ⟨rfl, hB2⟩))
          have hnx : ∀ j, j < 6 + 1 → clN q j = 0 := fun j hj => by
            by_cases e : j = 6
            · rw [e, ← HE.out]; exact HZ0.out
            · exact HK.out j (by omega)
          first
            | (refine ⟨⟨6 + 1, by omega, by simp, hnx, hBr.trans (hB2.mono hBr.size)⟩, ?_⟩
               simp [intOf])
            | (go_roundw
               case rel => exact ⟨6 + 1, by omega, by go_num, hnx, hBr.trans (hB2.mono hBr.size)⟩
               case measure => simp [intOf])
        · have t : (z != 0) = true := by simp [hz0]
          have HZ0 : Hid (¬ z = 0) := hz0
          clear hz0
          go_wp2_with (first | (go_at_call 47; refine hc.mono ?_; clear hc; rintro e w2 ⟨rfl, hB2⟩))
          try rw [Exit.noGoto_ret]
          go_ret
          exact ⟨by rw [HF.out 6 (by omega) HK.out (HE.out ▸ HZ0.out), ← HE.out]; rfl, HW.out.trans (hB2.mono HW.out.size)⟩
      · have c := cell_later F7.out hBr
        have hc := C7.out wr hw (fun j hj => HK.out j (by omega))
        obtain ⟨z, hz⟩ : ∃ z, z = clN q 7 := ⟨_, rfl⟩
        rw [← hz] at hc
        have HE : Hid (z = clN q 7) := hz
        have HW : Hid (Below w.heap.size w wr) := hw
        clear hz hw
        by_cases hz0 : z = 0
        · have t : (z != 0) = false := by simp [hz0]
          have HZ0 : Hid (z = 0) := hz0
          clear hz0
          go_wp2_with (first | (go_at_call 48; refine hc.mono ?_; clear hc; rintro e w2 ⟨rfl, hB2⟩))
          have hnx : ∀ j, j < 7 + 1 → clN q j = 0 := fun j hj => by
            by_cases e : j = 7
            · rw [e, ← HE.out]; exact HZ0.out
            · exact HK.out j (by omega)
          first
            | (refine ⟨⟨7 + 1, by omega, by simp, hnx, hBr.trans (hB2.mono hBr.size)⟩, ?_⟩
               simp [intOf])
            | (go_roundw
               case rel => exact ⟨7 + 1, by omega, by go_num, hnx, hBr.trans (hB2.mono hBr.size)⟩
               case measure => simp [intOf])
        · have t : (z != 0) = true := by simp [hz0]
          have HZ0 : Hid (¬ z = 0) := hz0
          clear hz0
          go_wp2_with (first | (go_at_call 48; refine hc.mono ?_; clear hc; rintro e w2 ⟨rfl, hB2⟩))
          try rw [Exit.noGoto_ret]
          go_ret
          exact ⟨by rw [HF.out 7 (by omega) HK.out (HE.out ▸ HZ0.out), ← HE.out]; rfl, HW.out.trans (hB2.mono HW.out.size)⟩
      · have c := cell_later F8.out hBr
        have hc := C8.out wr hw (fun j hj => HK.out j (by omega))
        obtain ⟨z, hz⟩ : ∃ z, z = clN q 8 := ⟨_, rfl⟩
        rw [← hz] at hc
        have HE : Hid (z = clN q 8) := hz
        have HW : Hid (Below w.heap.size w wr) := hw
        clear hz hw
        by_cases hz0 : z = 0
        · have t : (z != 0) = false := by simp [hz0]
          have HZ0 : Hid (z = 0) := hz0
          clear hz0
          go_wp2_with (first | (go_at_call 49; refine hc.mono ?_; clear hc; rintro e w2 ⟨rfl, hB2⟩))
          have hnx : ∀ j, j < 8 + 1 → clN q j = 0 := fun j hj => by
            by_cases e : j = 8
            · rw [e, ← HE.out]; exact HZ0.out
            · exact HK.out j (by omega)
          first
            | (refine ⟨⟨8 + 1, by omega, by simp, hnx, hBr.trans (hB2.mono hBr.size)⟩, ?_⟩
               simp [intOf])
            | (go_roundw
               case rel => exact ⟨8 + 1, by omega, by go_num, hnx, hBr.trans (hB2.mono hBr.size)⟩
               case measure => simp [intOf])
        · have t : (z != 0) = true := by simp [hz0]
          have HZ0 : Hid (¬ z = 0) := hz0
          clear hz0
          go_wp2_with (first | (go_at_call 49; refine hc.mono ?_; clear hc; rintro e w2 ⟨rfl, hB2⟩))
          try rw [Exit.noGoto_ret]
          go_ret
          exact ⟨by rw [HF.out 8 (by omega) HK.out (HE.out ▸ HZ0.out), ← HE.out]; rfl, HW.out.trans (hB2.mono HW.out.size)⟩
    · obtain rfl : k = 9 := by omega
      go_wp2
      go_ret
      exact ⟨by rw [HZ.out HK.out]; rfl, hw⟩
end Go.Proofs.YtfnfegcjgnbgbaaGreatDoor
namespace Go.Proofs.YtfnfegcjgnbgbaaGreatDoor
open Go.RowKit

/-- One of the two. -/
def SomeB (w : World) (e : Ending) (w' : World) : Prop := ∃ b : Bool, e = .returned (.bool b) ∧ Below w.heap.size w w'
set_option maxRecDepth 100000 in
set_option maxHeartbeats 4000000 in
theorem lightQ_wide (q : Qy) (w : World) (hQ : IsQ w q) : Calls Tryz.prog 5 #[q.val] w (SomeB w) := by
  have hB0 : Below w.heap.size w (w.alloc (.cells q.cells 28)) := (Below.refl _ _).alloc (Nat.le_refl _) _
  have C1 : Hid (Calls Tryz.prog 22 #[q.p.val] (w.alloc (.cells q.cells 28)) _) := refSizeP_wide q.p _ (hQ.p.later hB0)
  have HI : Hid (∀ i, i < q.n → ∀ W, Below w.heap.size w W → Calls Tryz.prog 23 #[(q.c i).val] W fun e w' => e = .returned (.int .i64 (szZ (q.c i))) ∧ Below W.heap.size W w') := fun i hi W hW => by
    obtain ⟨_, _, _, _, h1⟩ := (hQ.x.later hW).part (x := q.x) hi
    exact refSize_any _ W h1
  have HQ : Hid (IsQ w q) := hQ
  have qb := QB.new w q
  have QB0 : Hid (QB (w.alloc (.cells q.cells 28)) w.heap.size q) := qb
  obtain ⟨⟨k0, k1, k2, k3, k4, k5⟩, -⟩ := qb.at0
  have hlen : q.n ≤ 9223372036854775807 := hQ.x.len
  have HB0 : Hid (Below w.heap.size w (w.alloc (.cells q.cells 28))) := hB0
  clear hQ qb hB0
  go_enter Tryz.func5, Tryz.ntmps5
  go_wp2_with (first | (go_at_call 22; refine C1.out.mono ?_; rintro e w1 ⟨rfl, hB1⟩))
  have hw1 : Below w.heap.size w w1 := HB0.out.trans (hB1.mono HB0.out.size)
  have QB1 : Hid (QB w1 w.heap.size q) := QB0.out.later hB1
  clear k0 k1 k2 k3 k4 k5 C1 QB0 HB0 hB1
  go_loopw [3, 4] (fun u v wr => ∃ (k : Nat) (z : Int), k ≤ q.n ∧ u = .int .i64 z ∧ v = .int .i64 k ∧ Below w1.heap.size w1 wr) (fun _ v _ => q.n - (intOf v).toNat)
  case atStart => exact ⟨0, _, Nat.zero_le _, rfl, rfl, Below.refl _ _⟩
  case round =>
    obtain ⟨k, z, hk, rfl, rfl, hB⟩ := hrel
    have hw := hw1.trans (hB.mono hw1.size)
    obtain ⟨-, c6, -, -, -, c10⟩ := (QB1.out.later hB).at0
    by_cases hkn : k < q.n
    · obtain ⟨b, o, ea, hn, -⟩ := (HQ.out.x.later hw).part (x := q.x) hkn
      have ea1 : q.a = some ⟨b, o, none⟩ := ea
      rw [ea1] at c6
      have hn1 : Node wr b (o + k * 7) (q.c k) := hn
      obtain ⟨d0, d1, d2, d3, d4, d5, d6⟩ := hn1
      have hc := HI.out k hkn wr hw
      have HKN : Hid (k < q.n) := hkn
      clear ea ea1 hn
      go_wp2_with (first | (go_at_call 23; refine hc.mono ?_; clear hc; rintro e w2 ⟨rfl, hB2⟩))
      refine ⟨⟨k + 1, _, HKN.out, rfl, by simp, hB.trans (hB2.mono hB.size)⟩, ?_⟩
      have := HKN.out
      simp [intOf]
      omega
    · obtain rfl : k = q.n := by omega
      go_wp2
      all_goals go_ret
      all_goals exact ⟨_, rfl, hw⟩
theorem lightQ_any (q : Qy) (w : World) (hQ : IsQ w q) (_ : q.bulk ≤ 1048576) : Calls Tryz.prog 5 #[q.val] w (SomeB w) := lightQ_wide q w hQ
end Go.Proofs.YtfnfegcjgnbgbaaGreatDoor
