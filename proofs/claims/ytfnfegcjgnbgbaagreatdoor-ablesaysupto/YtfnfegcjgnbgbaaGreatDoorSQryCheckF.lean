/-
  query.Check of a query of any size.
  Queries that came in.
-/
import Derived.Test.YtfnfegcjgnbgbaaGreatDoorSQryBase
import Derived.Test.YtfnfegcjgnbgbaaGreatDoorSPatFirsts
import Derived.Test.YtfnfegcjgnbgbaaGreatDoorSPatUses
import Derived.Test.YtfnfegcjgnbgbaaGreatDoorSExprCheck
namespace Go.Proofs.YtfnfegcjgnbgbaaGreatDoor
open Go.RowKit

set_option maxRecDepth 100000 in
set_option maxHeartbeats 4000000 in
theorem cl1F_any (q : Qy) (w : World) (hQ : IsQ w q) : Calls Tryz.prog 41 #[q.val] w fun e w' => e = .returned (.int .i64 (cl1 q)) ∧ Below w.heap.size w w' := by
  have hB : Below w.heap.size w (w.alloc (.cells q.cells 77)) := (Below.refl _ w).alloc (Nat.le_refl _) _
  have hx0 := alloc_new w (.cells q.cells 77)
  obtain ⟨⟨k0, k1, k2, k3, k4, k5⟩, k6, k7, k8, k9, k10⟩ := qat0 hx0
  have HB : Hid (Below w.heap.size w (w.alloc (.cells q.cells 77))) := hB
  have C1 : Hid (Calls Tryz.prog 50 #[q.p.val] (w.alloc (.cells q.cells 77)) _) := checkPF_any q.p _ (hQ.p.later hB)
  clear hQ hB hx0
  go_enter Tryz.func41, Tryz.ntmps41
  go_wp2_with (first | (go_at_call 50; refine C1.out.mono ?_; rintro e w1 ⟨rfl, hB1⟩))
  go_ret
  exact ⟨rfl, HB.out.trans (hB1.mono HB.out.size)⟩
set_option maxRecDepth 100000 in
set_option maxHeartbeats 4000000 in
theorem cl2F_any (q : Qy) (w : World) : Calls Tryz.prog 42 #[q.val] w fun e w' => e = .returned (.int .i64 (cl2 q)) ∧ Below w.heap.size w w' := by
  have hB : Below w.heap.size w (w.alloc (.cells q.cells 77)) := (Below.refl _ w).alloc (Nat.le_refl _) _
  have hx0 := alloc_new w (.cells q.cells 77)
  obtain ⟨⟨k0, k1, k2, k3, k4, k5⟩, k6, k7, k8, k9, k10⟩ := qat0 hx0
  have HB : Hid (Below w.heap.size w (w.alloc (.cells q.cells 77))) := hB
  have HR : Hid (∀ h1 : 16 < q.n, cl2 q = 2) := fun h1 => if_pos (.inl h1)
  have HR2 : Hid (∀ h1 : 16 < q.m, cl2 q = 2) := fun h1 => if_pos (.inr h1)
  have HR3 : Hid (∀ (h1 : ¬ 16 < q.n) (h2 : ¬ 16 < q.m), cl2 q = 0) := fun h1 h2 => if_neg (by omega)
  obtain ⟨v, hv⟩ : ∃ v, v = cl2 q := ⟨_, rfl⟩
  rw [← hv] at HR HR2 HR3 ⊢
  clear hB hx0 hv
  by_cases h1 : 16 < q.n
  · rw [HR.out h1]
    clear HR HR2 HR3
    have t1 : ((16 : Int) < ((q.n : Nat) : Int)) := by omega
    clear h1
    go_enter Tryz.func42, Tryz.ntmps42
    go_wp2
    go_ret
    exact ⟨rfl, HB.out⟩
  · have t1 : ¬ ((16 : Int) < ((q.n : Nat) : Int)) := by omega
    by_cases h2 : 16 < q.m
    · rw [HR2.out h2]
      clear HR HR2 HR3
      have t2 : ((16 : Int) < ((q.m : Nat) : Int)) := by omega
      clear h1 h2
      go_enter Tryz.func42, Tryz.ntmps42
      go_wp2
      go_ret
      exact ⟨rfl, HB.out⟩
    · rw [HR3.out h1 h2]
      clear HR HR2 HR3
      have t2 : ¬ ((16 : Int) < ((q.m : Nat) : Int)) := by omega
      clear h1 h2
      go_enter Tryz.func42, Tryz.ntmps42
      go_wp2
      go_ret
      exact ⟨rfl, HB.out⟩
set_option maxRecDepth 100000 in
set_option maxHeartbeats 4000000 in
theorem cl3F_any (q : Qy) (w : World) (hQ : IsQ w q) : Calls Tryz.prog 43 #[q.val] w fun e w' => e = .returned (.int .i64 (cl3 q)) ∧ Below w.heap.size w w' := by
  have hB : Below w.heap.size w (w.alloc (.cells q.cells 77)) := (Below.refl _ w).alloc (Nat.le_refl _) _
  have hx0 := alloc_new w (.cells q.cells 77)
  obtain ⟨⟨k0, k1, k2, k3, k4, k5⟩, k6, k7, k8, k9, k10⟩ := qat0 hx0
  have HB : Hid (Below w.heap.size w (w.alloc (.cells q.cells 77))) := hB
  have HI : Hid (∀ i, i < q.n → ∀ W, Below w.heap.size w W → Calls Tryz.prog 66 #[(q.c i).val] W fun e w' => e = .returned (.int .i64 (chkX (q.c i))) ∧ Below W.heap.size W w') := fun i hi W hW => by
    obtain ⟨_, _, _, _, h1⟩ := (hQ.x.later hW).part (x := q.x) hi
    refine (checkX_any _ W h1).mono ?_
    rintro e w' ⟨r, rfl, h2, h3⟩
    have h2' : ChkX (q.c i) r := h2
    rw [← chkX_of h2']
    exact ⟨rfl, h3⟩
  have HF : Hid (∀ k, k < q.n → (∀ j, j < k → chkX (q.c j) = 0) → ¬ chkX (q.c k) = 0 → cl3 q = chkX (q.c k)) := fun k hk hz hn => lexN_first (f := fun i => chkX (q.c i)) hk hz hn
  have HZ : Hid ((∀ j, j < q.n → chkX (q.c j) = 0) → cl3 q = 0) := fun h => lexN_zero.2 h
  obtain ⟨v, hv⟩ : ∃ v, v = cl3 q := ⟨_, rfl⟩
  rw [← hv] at HF HZ ⊢
  have HX : Hid (IsX w q.x) := hQ.x
  have hlen : q.n ≤ 9223372036854775807 := hQ.x.len
  clear hQ hB hx0 hv k0 k1 k2 k3 k4 k5 k7 k8 k9 k10
  go_enter Tryz.func43, Tryz.ntmps43
  go_wp2_with fail
  go_loopw [9] (fun u wr => ∃ k : Nat, k ≤ q.n ∧ u = .int .i64 k ∧ Hid (∀ j, j < k → chkX (q.c j) = 0) ∧ Below w.heap.size w wr) (fun u _ => q.n - (intOf u).toNat)
  case atStart => exact ⟨0, Nat.zero_le _, rfl, fun j hj => absurd hj (Nat.not_lt_zero _), HB.out⟩
  case round =>
    obtain ⟨k, hk, rfl, HK, hBr⟩ := hrel
    clear k6
    by_cases hkn : k < q.n
    · obtain ⟨b, o, ea, hn, -⟩ := (HX.out.later hBr).part hkn
      have ea' : q.a = some ⟨b, o, none⟩ := ea
      rw [ea']
      have hn' : Node wr b (o + k * 7) (q.c k) := hn
      obtain ⟨d0, d1, d2, d3, d4, d5, d6⟩ := hn'
      have hB2 : Below wr.heap.size wr (wr.alloc (.cells (q.c k).cells 51)) := (Below.refl _ _).alloc (Nat.le_refl _) _
      have hbb := hBr.trans (hB2.mono hBr.size)
      have hc := HI.out k hkn _ hbb
      obtain ⟨g0, g1, g2, g3, g4, g5, g6⟩ := (node_new wr 51 (q.c k)).at0
      have HBB : Hid _ := hbb
      have HKN : Hid (k < q.n) := hkn
      obtain ⟨z, hz⟩ : ∃ z, z = chkX (q.c k) := ⟨_, rfl⟩
      rw [← hz] at hc
      have HE : Hid (z = chkX (q.c k)) := hz
      clear hz ea ea' hn hB2 hbb
      by_cases hz0 : z = 0
      · have t : (z != 0) = false := by simp [hz0]
        have HZ0 : Hid (z = 0) := hz0
        clear hz0
        go_wp2_with (first | (go_at_call 66; refine hc.mono ?_; clear hc; rintro e w2 ⟨rfl, hB2⟩))
        refine ⟨⟨k + 1, HKN.out, by simp, fun j hj => ?_, HBB.out.trans (hB2.mono HBB.out.size)⟩, ?_⟩
        · by_cases e : j = k
          · rw [e, ← HE.out]; exact HZ0.out
          · exact HK.out j (by omega)
        · have := HKN.out; simp [intOf]; omega
      · have t : (z != 0) = true := by simp [hz0]
        have HZ0 : Hid (¬ z = 0) := hz0
        clear hz0
        go_wp2_with (first | (go_at_call 66; refine hc.mono ?_; clear hc; rintro e w2 ⟨rfl, hB2⟩))
        try rw [Exit.noGoto_ret]
        go_ret
        exact ⟨by rw [HF.out k HKN.out HK.out (HE.out ▸ HZ0.out), ← HE.out]; rfl, HBB.out.trans (hB2.mono HBB.out.size)⟩
    · obtain rfl : k = q.n := by omega
      go_wp2
      go_ret
      exact ⟨by rw [HZ.out HK.out]; rfl, hBr⟩
/-- What the first three clauses let through is small. -/
theorem bulk_of {q : Qy} (h : ∀ j, j < 3 → clN q j = 0) : q.bulk ≤ 1048576 := by
  have h1 : chkP q.p = 0 := h 0 (by omega)
  have h2 : cl2 q = 0 := h 1 (by omega)
  have h3 : ∀ i, i < q.n → chkX (q.c i) = 0 := lexN_zero.1 (h 2 (by omega))
  have hp : q.p.size ≤ 64 := (chkP_zero.1 h1).1
  have hn : ¬ (16 < q.n ∨ 16 < q.m) := fun e => by
    unfold cl2 at h2
    rw [if_pos e] at h2
    cases h2
  have hx : ∀ i, i < q.n → (q.c i).size ≤ 100 := fun i hi => by
    have := h3 i hi
    unfold chkX at this
    split at this
    · cases this
    · omega
  have key : ∀ k, k ≤ q.n → sumN (fun i => (q.c i).size) k ≤ 100 * k := by
    intro k
    induction k with
    | zero => intro _; exact Nat.le_refl _
    | succ k ih =>
      intro hk
      have h4 := ih (by omega)
      have h5 := hx k (by omega)
      simp only [sumN]
      omega
  have h4 := key q.n (Nat.le_refl _)
  have h5 : q.x.size = 1 + sumN (fun i => (q.c i).size) q.n := X.size_eq q.x
  unfold Qy.bulk
  omega
set_option maxRecDepth 100000 in
set_option maxHeartbeats 16000000 in
theorem checkQF_any (q : Qy) (w : World) (hQ : IsQ w q) (hok : QOk q) : Calls Tryz.prog 24 #[q.val] w fun e w' => e = .returned (.int .i64 (chkQ q)) ∧ Below w.heap.size w w' := by
  have C0 : Hid (∀ d, Below w.heap.size w d → Calls Tryz.prog 41 #[q.val] d fun e w' => e = .returned (.int .i64 (clN q 0)) ∧ Below d.heap.size d w') := fun d h => cl1F_any q d (hQ.later h)
  have C1 : Hid (∀ d, Below w.heap.size w d → Calls Tryz.prog 42 #[q.val] d fun e w' => e = .returned (.int .i64 (clN q 1)) ∧ Below d.heap.size d w') := fun d h => cl2F_any q d
  have C2 : Hid (∀ d, Below w.heap.size w d → Calls Tryz.prog 43 #[q.val] d fun e w' => e = .returned (.int .i64 (clN q 2)) ∧ Below d.heap.size d w') := fun d h => cl3F_any q d (hQ.later h)
  have C3 : Hid (∀ d, Below w.heap.size w d → (∀ j, j < 3 → clN q j = 0) → Calls Tryz.prog 44 #[q.val] d fun e w' => e = .returned (.int .i64 (clN q 3)) ∧ Below d.heap.size d w') := fun d h h0 => cl4_any q d (hQ.later h) hok (bulk_of h0)
  have C4 : Hid (∀ d, Below w.heap.size w d → (∀ j, j < 3 → clN q j = 0) → Calls Tryz.prog 45 #[q.val] d fun e w' => e = .returned (.int .i64 (clN q 4)) ∧ Below d.heap.size d w') := fun d h h0 => cl5_any q d (hQ.later h) hok (bulk_of h0)
  have C5 : Hid (∀ d, Below w.heap.size w d → (∀ j, j < 3 → clN q j = 0) → Calls Tryz.prog 46 #[q.val] d fun e w' => e = .returned (.int .i64 (clN q 5)) ∧ Below d.heap.size d w') := fun d h h0 => cl6_any q d (hQ.later h) hok (bulk_of h0)
  have C6 : Hid (∀ d, Below w.heap.size w d → (∀ j, j < 3 → clN q j = 0) → Calls Tryz.prog 47 #[q.val] d fun e w' => e = .returned (.int .i64 (clN q 6)) ∧ Below d.heap.size d w') := fun d h h0 => cl7_any q d (hQ.later h) hok (bulk_of h0)
  have C7 : Hid (∀ d, Below w.heap.size w d → (∀ j, j < 3 → clN q j = 0) → Calls Tryz.prog 48 #[q.val] d fun e w' => e = .returned (.int .i64 (clN q 7)) ∧ Below d.heap.size d w') := fun d h h0 => cl8_any q d (hQ.later h) hok (bulk_of h0)
  have C8 : Hid (∀ d, Below w.heap.size w d → (∀ j, j < 3 → clN q j = 0) → Calls Tryz.prog 49 #[q.val] d fun e w' => e = .returned (.int .i64 (clN q 8)) ∧ Below d.heap.size d w') := fun d h h0 => cl9_any q d (hQ.later h) hok (bulk_of h0)
  have HF : Hid (∀ k, k < 9 → (∀ j, j < k → clN q j = 0) → ¬ clN q k = 0 → chkQ q = clN q k) := fun k hk hz hn => lexN_first (f := clN q) hk hz hn
  have HZ : Hid ((∀ j, j < 9 → clN q j = 0) → chkQ q = 0) := fun h => lexN_zero.2 h
  obtain ⟨v, hv⟩ : ∃ v, v = chkQ q := ⟨_, rfl⟩
  rw [← hv] at HF HZ ⊢
  clear hQ hok hv
  go_enter Tryz.func24, Tryz.ntmps24
  go_upto_region 2 with fail
  obtain ⟨A, hA⟩ : ∃ A, (w.alloc (.cells q.cells 28)).alloc (.cells q.cells 77) = A := ⟨_, rfl⟩
  have hA' := hA
  unfold Qy.cells at hA'
  rw [hA']
  have hsz : A.heap.size = w.heap.size + 2 := by rw [← hA]; simp
  have hB : Below w.heap.size w A := by rw [← hA]; exact ((Below.refl _ w).alloc (Nat.le_refl _) _).alloc (by simp) _
  have hx1 : A.heap[w.heap.size + 1]? = some (.cells q.cells 77 (0, 0)) := by
    have := alloc_new (w.alloc (.cells q.cells 28)) (.cells q.cells 77)
    rw [World.size_alloc, hA] at this
    exact this
  obtain ⟨⟨k0, k1, k2, k3, k4, k5⟩, k6, k7, k8, k9, k10⟩ := qat0 hx1
  clear hA hA' hx1
  go_wp2_with fail
  obtain ⟨qv, hqv⟩ : ∃ qv : Value, qv = .agg #[.int .i64 q.p.k, .string q.p.s, .string q.p.t, .int .i64 q.p.lo, .int .i64 q.p.hi, .slice q.p.a q.p.n q.p.cap, .slice q.a q.n q.cap, .string q.key, .int .i64 q.mode, .int .i64 q.win, .slice q.ia q.m q.icap] := ⟨_, rfl⟩
  rw [← hqv]
  rw [show q.val = qv from hqv.symm] at C0
  rw [show q.val = qv from hqv.symm] at C1
  rw [show q.val = qv from hqv.symm] at C2
  rw [show q.val = qv from hqv.symm] at C3
  rw [show q.val = qv from hqv.symm] at C4
  rw [show q.val = qv from hqv.symm] at C5
  rw [show q.val = qv from hqv.symm] at C6
  rw [show q.val = qv from hqv.symm] at C7
  rw [show q.val = qv from hqv.symm] at C8
  have HSZ : Hid (A.heap.size = w.heap.size + 2) := hsz
  have HB : Hid (Below w.heap.size w A) := hB
  obtain ⟨F, hF⟩ : ∃ F, A.alloc (.cells #[.func (.func 41) #[qv] #[], .func (.func 42) #[qv] #[], .func (.func 43) #[qv] #[], .func (.func 44) #[qv] #[], .func (.func 45) #[qv] #[], .func (.func 46) #[qv] #[], .func (.func 47) #[qv] #[], .func (.func 48) #[qv] #[], .func (.func 49) #[qv] #[]] 78) = F := ⟨_, rfl⟩
  rw [hF]
  have hBF : Below A.heap.size A F := by rw [← hF]; exact (Below.refl _ _).alloc (Nat.le_refl _) _
  have hf := alloc_new A (.cells #[.func (.func 41) #[qv] #[], .func (.func 42) #[qv] #[], .func (.func 43) #[qv] #[], .func (.func 44) #[qv] #[], .func (.func 45) #[qv] #[], .func (.func 46) #[qv] #[], .func (.func 47) #[qv] #[], .func (.func 48) #[qv] #[], .func (.func 49) #[qv] #[]] 78)
  rw [hF, hsz] at hf
  have F0 : Hid (F.cell? ⟨w.heap.size + 2, 0, none⟩ = some (.func (.func 41) #[qv] #[])) := by show _ = _; simp [World.cell?, hf]
  have F1 : Hid (F.cell? ⟨w.heap.size + 2, 1, none⟩ = some (.func (.func 42) #[qv] #[])) := by show _ = _; simp [World.cell?, hf]
  have F2 : Hid (F.cell? ⟨w.heap.size + 2, 2, none⟩ = some (.func (.func 43) #[qv] #[])) := by show _ = _; simp [World.cell?, hf]
  have F3 : Hid (F.cell? ⟨w.heap.size + 2, 3, none⟩ = some (.func (.func 44) #[qv] #[])) := by show _ = _; simp [World.cell?, hf]
  have F4 : Hid (F.cell? ⟨w.heap.size + 2, 4, none⟩ = some (.func (.func 45) #[qv] #[])) := by show _ = _; simp [World.cell?, hf]
  have F5 : Hid (F.cell? ⟨w.heap.size + 2, 5, none⟩ = some (.func (.func 46) #[qv] #[])) := by show _ = _; simp [World.cell?, hf]
  have F6 : Hid (F.cell? ⟨w.heap.size + 2, 6, none⟩ = some (.func (.func 47) #[qv] #[])) := by show _ = _; simp [World.cell?, hf]
  have F7 : Hid (F.cell? ⟨w.heap.size + 2, 7, none⟩ = some (.func (.func 48) #[qv] #[])) := by show _ = _; simp [World.cell?, hf]
  have F8 : Hid (F.cell? ⟨w.heap.size + 2, 8, none⟩ = some (.func (.func 49) #[qv] #[])) := by show _ = _; simp [World.cell?, hf]
  clear hf hF hsz hB k0 k1 k2 k3 k4 k5 k6 k7 k8 k9 k10 hqv
  have hwF : Below w.heap.size w F := HB.out.trans (hBF.mono HB.out.size)
  go_loopw [28] (fun u wr => ∃ k : Nat, k ≤ 9 ∧ u = .int .i64 k ∧ Hid (∀ j, j < k → clN q j = 0) ∧ Below F.heap.size F wr) (fun u _ => 9 - (intOf u).toNat)
  case atStart => exact ⟨0, Nat.zero_le _, rfl, fun j hj => absurd hj (Nat.not_lt_zero _), Below.refl _ _⟩
  case round =>
    obtain ⟨k, hk, rfl, HK, hBr⟩ := hrel
    have hw := hwF.trans (hBr.mono hwF.size)
    by_cases hkn : k < 9
    · have hcs : k = 0 ∨ k = 1 ∨ k = 2 ∨ k = 3 ∨ k = 4 ∨ k = 5 ∨ k = 6 ∨ k = 7 ∨ k = 8 := by omega
      clear hk hkn
      rcases hcs with rfl | rfl | rfl | rfl | rfl | rfl | rfl | rfl | rfl
      · have c := cell_later F0.out hBr
        have hc := C0.out wr hw
        obtain ⟨z, hz⟩ : ∃ z, z = clN q 0 := ⟨_, rfl⟩
        rw [← hz] at hc
        have HE : Hid (z = clN q 0) := hz
        have HW : Hid (Below w.heap.size w wr) := hw
        clear hz hw
        by_cases hz0 : z = 0
        · have t : (z != 0) = false := by simp [hz0]
          have HZ0 : Hid (z = 0) := hz0
          clear hz0
          go_wp2_with (first | (go_at_call 41; refine hc.mono ?_; clear hc; rintro e w2 ⟨rfl, hB2⟩))
          have hnx : ∀ j, j < 0 + 1 → clN q j = 0 := fun j hj => by
            by_cases e : j = 0
            · rw [e, ← HE.out]; exact HZ0.out
            · exact HK.out j (by omega)
          first
            | (refine ⟨⟨0 + 1, by omega, by simp, hnx, hBr.trans (hB2.mono hBr.size)⟩, ?_⟩
               simp [intOf])
            | (go_roundw
               case rel => exact ⟨0 + 1, by omega, by go_num, hnx, hBr.trans (hB2.mono hBr.size)⟩
               case measure => simp [intOf])
        · have t : (z != 0) = true := by simp [hz0]
          have HZ0 : Hid (¬ z = 0) := hz0
          clear hz0
          go_wp2_with (first | (go_at_call 41; refine hc.mono ?_; clear hc; rintro e w2 ⟨rfl, hB2⟩))
          try rw [Exit.noGoto_ret]
          go_ret
          exact ⟨by rw [HF.out 0 (by omega) HK.out (HE.out ▸ HZ0.out), ← HE.out]; rfl, HW.out.trans (hB2.mono HW.out.size)⟩
      · have c := cell_later F1.out hBr
        have hc := C1.out wr hw
        obtain ⟨z, hz⟩ : ∃ z, z = clN q 1 := ⟨_, rfl⟩
        rw [← hz] at hc
        have HE : Hid (z = clN q 1) := hz
        have HW : Hid (Below w.heap.size w wr) := hw
        clear hz hw
        by_cases hz0 : z = 0
        · have t : (z != 0) = false := by simp [hz0]
          have HZ0 : Hid (z = 0) := hz0
          clear hz0
          go_wp2_with (first | (go_at_call 42; refine hc.mono ?_; clear hc; rintro e w2 ⟨rfl, hB2⟩))
          have hnx : ∀ j, j < 1 + 1 → clN q j = 0 := fun j hj => by
            by_cases e : j = 1
            · rw [e, ← HE.out]; exact HZ0.out
            · exact HK.out j (by omega)
          first
            | (refine ⟨⟨1 + 1, by omega, by simp, hnx, hBr.trans (hB2.mono hBr.size)⟩, ?_⟩
               simp [intOf])
            | (go_roundw
               case rel => exact ⟨1 + 1, by omega, by go_num, hnx, hBr.trans (hB2.mono hBr.size)⟩
               case measure => simp [intOf])
        · have t : (z != 0) = true := by simp [hz0]
          have HZ0 : Hid (¬ z = 0) := hz0
          clear hz0
          go_wp2_with (first | (go_at_call 42; refine hc.mono ?_; clear hc; rintro e w2 ⟨rfl, hB2⟩))
          try rw [Exit.noGoto_ret]
          go_ret
          exact ⟨by rw [HF.out 1 (by omega) HK.out (HE.out ▸ HZ0.out), ← HE.out]; rfl, HW.out.trans (hB2.mono HW.out.size)⟩
      · have c := cell_later F2.out hBr
        have hc := C2.out wr hw
        obtain ⟨z, hz⟩ : ∃ z, z = clN q 2 := ⟨_, rfl⟩
        rw [← hz] at hc
        have HE : Hid (z = clN q 2) := hz
        have HW : Hid (Below w.heap.size w wr) := hw
        clear hz hw
        by_cases hz0 : z = 0
        · have t : (z != 0) = false := by simp [hz0]
          have HZ0 : Hid (z = 0) := hz0
          clear hz0
          go_wp2_with (first | (go_at_call 43; refine hc.mono ?_; clear hc; rintro e w2 ⟨rfl, hB2⟩))
          have hnx : ∀ j, j < 2 + 1 → clN q j = 0 := fun j hj => by
            by_cases e : j = 2
            · rw [e, ← HE.out]; exact HZ0.out
            · exact HK.out j (by omega)
          first
            | (refine ⟨⟨2 + 1, by omega, by simp, hnx, hBr.trans (hB2.mono hBr.size)⟩, ?_⟩
               simp [intOf])
            | (go_roundw
               case rel => exact ⟨2 + 1, by omega, by go_num, hnx, hBr.trans (hB2.mono hBr.size)⟩
               case measure => simp [intOf])
        · have t : (z != 0) = true := by simp [hz0]
          have HZ0 : Hid (¬ z = 0) := hz0
          clear hz0
          go_wp2_with (first | (go_at_call 43; refine hc.mono ?_; clear hc; rintro e w2 ⟨rfl, hB2⟩))
          try rw [Exit.noGoto_ret]
          go_ret
          exact ⟨by rw [HF.out 2 (by omega) HK.out (HE.out ▸ HZ0.out), ← HE.out]; rfl, HW.out.trans (hB2.mono HW.out.size)⟩
      · have c := cell_later F3.out hBr
        have hc := C3.out wr hw (fun j hj => HK.out j (by omega))
        obtain ⟨z, hz⟩ : ∃ z, z = clN q 3 := ⟨_, rfl⟩
        rw [← hz] at hc
        have HE : Hid (z = clN q 3) := hz
        have HW : Hid (Below w.heap.size w wr) := hw
        clear hz hw
        by_cases hz0 : z = 0
        · have t : (z != 0) = false := by simp [hz0]
          have HZ0 : Hid (z = 0) := hz0
          clear hz0
          go_wp2_with (first | (go_at_call 44; refine hc.mono ?_; clear hc; rintro e w2 ⟨rfl, hB2⟩))
          have hnx : ∀ j, j < 3 + 1 → clN q j = 0 := fun j hj => by
            by_cases e : j = 3
            · rw [e, ← HE.out]; exact HZ0.out
            · exact HK.out j (by omega)
          first
            | (refine ⟨⟨3 + 1, by omega, by simp, hnx, hBr.trans (hB2.mono hBr.size)⟩, ?_⟩
               simp [intOf])
            | (go_roundw
               case rel => exact ⟨3 + 1, by omega, by go_num, hnx, hBr.trans (hB2.mono hBr.size)⟩
               case measure => simp [intOf])
        · have t : (z != 0) = true := by simp [hz0]
          have HZ0 : Hid (¬ z = 0) := hz0
          clear hz0
          go_wp2_with (first | (go_at_call 44; refine hc.mono ?_; clear hc; rintro e w2 ⟨rfl, hB2⟩))
          try rw [Exit.noGoto_ret]
          go_ret
          exact ⟨by rw [HF.out 3 (by omega) HK.out (HE.out ▸ HZ0.out), ← HE.out]; rfl, HW.out.trans (hB2.mono HW.out.size)⟩
      · have c := cell_later F4.out hBr
        have hc := C4.out wr hw (fun j hj => HK.out j (by omega))
        obtain ⟨z, hz⟩ : ∃ z, z = clN q 4 := ⟨_, rfl⟩
        rw [← hz] at hc
        have HE : Hid (z = clN q 4) := hz
        have HW : Hid (Below w.heap.size w wr) := hw
        clear hz hw
        by_cases hz0 : z = 0
        · have t : (z != 0) = false := by simp [hz0]
          have HZ0 : Hid (z = 0) := hz0
          clear hz0
          go_wp2_with (first | (go_at_call 45; refine hc.mono ?_; clear hc; rintro e w2 ⟨rfl, hB2⟩))
          have hnx : ∀ j, j < 4 + 1 → clN q j = 0 := fun j hj => by
            by_cases e : j = 4
            · rw [e, ← HE.out]; exact HZ0.out
            · exact HK.out j (by omega)
          first
            | (refine ⟨⟨4 + 1, by omega, by simp, hnx, hBr.trans (hB2.mono hBr.size)⟩, ?_⟩
               simp [intOf])
            | (go_roundw
               case rel => exact ⟨4 + 1, by omega, by go_num, hnx, hBr.trans (hB2.mono hBr.size)⟩
               case measure => simp [intOf])
        · have t : (z != 0) = true := by simp [hz0]
          have HZ0 : Hid (¬ z = 0) := hz0
          clear hz0
          go_wp2_with (first | (go_at_call 45; refine hc.mono ?_; clear hc; rintro e w2 ⟨rfl, hB2⟩))
          try rw [Exit.noGoto_ret]
          go_ret
          exact ⟨by rw [HF.out 4 (by omega) HK.out (HE.out ▸ HZ0.out), ← HE.out]; rfl, HW.out.trans (hB2.mono HW.out.size)⟩
      · have c := cell_later F5.out hBr
        have hc := C5.out wr hw (fun j hj => HK.out j (by omega))
        obtain ⟨z, hz⟩ : ∃ z, z = clN q 5 := ⟨_, rfl⟩
        rw [← hz] at hc
        have HE : Hid (z = clN q 5) := hz
        have HW : Hid (Below w.heap.size w wr) := hw
        clear hz hw
        by_cases hz0 : z = 0
        · have t : (z != 0) = false := by simp [hz0]
          have HZ0 : Hid (z = 0) := hz0
          clear hz0
          go_wp2_with (first | (go_at_call 46; refine hc.mono ?_; clear hc; rintro e w2 ⟨rfl, hB2⟩))
          have hnx : ∀ j, j < 5 + 1 → clN q j = 0 := fun j hj => by
            by_cases e : j = 5
            · rw [e, ← HE.out]; exact HZ0.out
            · exact HK.out j (by omega)
          first
            | (refine ⟨⟨5 + 1, by omega, by simp, hnx, hBr.trans (hB2.mono hBr.size)⟩, ?_⟩
               simp [intOf])
            | (go_roundw
               case rel => exact ⟨5 + 1, by omega, by go_num, hnx, hBr.trans (hB2.mono hBr.size)⟩
               case measure => simp [intOf])
        · have t : (z != 0) = true := by simp [hz0]
          have HZ0 : Hid (¬ z = 0) := hz0
          clear hz0
          go_wp2_with (first | (go_at_call 46; refine hc.mono ?_; clear hc; rintro e w2 ⟨rfl, hB2⟩))
          try rw [Exit.noGoto_ret]
          go_ret
          exact ⟨by rw [HF.out 5 (by omega) HK.out (HE.out ▸ HZ0.out), ← HE.out]; rfl, HW.out.trans (hB2.mono HW.out.size)⟩
      · have c := cell_later F6.out hBr
        have hc := C6.out wr hw (fun j hj => HK.out j (by omega))
        obtain ⟨z, hz⟩ : ∃ z, z = clN q 6 := ⟨_, rfl⟩
        rw [← hz] at hc
        have HE : Hid (z = clN q 6) := hz
        have HW : Hid (Below w.heap.size w wr) := hw
        clear hz hw
        by_cases hz0 : z = 0
        · have t : (z != 0) = false := by simp [hz0]
          have HZ0 : Hid (z = 0) := hz0
          clear hz0
          go_wp2_with (first | (go_at_call 47; refine hc.mono ?_; clear hc; rintro e w2 ⟨rfl, hB2⟩))
          have hnx : ∀ j, j < 6 + 1 → clN q j = 0 := fun j hj => by
            by_cases e : j = 6
            · rw [e, ← HE.out]; exact HZ0.out
            · exact HK.out j (by omega)
          first
            | (refine ⟨⟨6 + 1, by omega, by simp, hnx, hBr.trans (hB2.mono hBr.size)⟩, ?_⟩
               simp [intOf])
            | (go_roundw
               case rel => exact ⟨6 + 1, by omega, by go_num, hnx, hBr.trans (hB2.mono hBr.size)⟩
               case measure => simp [intOf])
        · have t : (z != 0) = true := by simp [hz0]
          have HZ0 : Hid (¬ z = 0) := hz0
          clear hz0
          go_wp2_with (first | (go_at_call 47; refine hc.mono ?_; clear hc; rintro e w2 ⟨rfl, hB2⟩))
          try rw [Exit.noGoto_ret]
          go_ret
          exact ⟨by rw [HF.out 6 (by omega) HK.out (HE.out ▸ HZ0.out), ← HE.out]; rfl, HW.out.trans (hB2.mono HW.out.size)⟩
      · have c := cell_later F7.out hBr
        have hc := C7.out wr hw (fun j hj => HK.out j (by omega))
        obtain ⟨z, hz⟩ : ∃ z, z = clN q 7 := ⟨_, rfl⟩
        rw [← hz] at hc
        have HE : Hid (z = clN q 7) := hz
        have HW : Hid (Below w.heap.size w wr) := hw
        clear hz hw
        by_cases hz0 : z = 0
        · have t : (z != 0) = false := by simp [hz0]
          have HZ0 : Hid (z = 0) := hz0
          clear hz0
          go_wp2_with (first | (go_at_call 48; refine hc.mono ?_; clear hc; rintro e w2 ⟨rfl, hB2⟩))
          have hnx : ∀ j, j < 7 + 1 → clN q j = 0 := fun j hj => by
            by_cases e : j = 7
            · rw [e, ← HE.out]; exact HZ0.out
            · exact HK.out j (by omega)
          first
            | (refine ⟨⟨7 + 1, by omega, by simp, hnx, hBr.trans (hB2.mono hBr.size)⟩, ?_⟩
               simp [intOf])
            | (go_roundw
               case rel => exact ⟨7 + 1, by omega, by go_num, hnx, hBr.trans (hB2.mono hBr.size)⟩
               case measure => simp [intOf])
        · have t : (z != 0) = true := by simp [hz0]
          have HZ0 : Hid (¬ z = 0) := hz0
          clear hz0
          go_wp2_with (first | (go_at_call 48; refine hc.mono ?_; clear hc; rintro e w2 ⟨rfl, hB2⟩))
          try rw [Exit.noGoto_ret]
          go_ret
          exact ⟨by rw [HF.out 7 (by omega) HK.out (HE.out ▸ HZ0.out), ← HE.out]; rfl, HW.out.trans (hB2.mono HW.out.size)⟩
      · have c := cell_later F8.out hBr
        have hc := C8.out wr hw (fun j hj => HK.out j (by omega))
        obtain ⟨z, hz⟩ : ∃ z, z = clN q 8 := ⟨_, rfl⟩
        rw [← hz] at hc
        have HE : Hid (z = clN q 8) := hz
        have HW : Hid (Below w.heap.size w wr) := hw
        clear hz hw
        by_cases hz0 : z = 0
        · have t : (z != 0) = false := by simp [hz0]
          have HZ0 : Hid (z = 0) := hz0
          clear hz0
          go_wp2_with (first | (go_at_call 49; refine hc.mono ?_; clear hc; rintro e w2 ⟨rfl, hB2⟩))
          have hnx : ∀ j, j < 8 + 1 → clN q j = 0 := fun j hj => by
            by_cases e : j = 8
            · rw [e, ← HE.out]; exact HZ0.out
            · exact HK.out j (by omega)
          first
            | (refine ⟨⟨8 + 1, by omega, by simp, hnx, hBr.trans (hB2.mono hBr.size)⟩, ?_⟩
               simp [intOf])
            | (go_roundw
               case rel => exact ⟨8 + 1, by omega, by go_num, hnx, hBr.trans (hB2.mono hBr.size)⟩
               case measure => simp [intOf])
        · have t : (z != 0) = true := by simp [hz0]
          have HZ0 : Hid (¬ z = 0) := hz0
          clear hz0
          go_wp2_with (first | (go_at_call 49; refine hc.mono ?_; clear hc; rintro e w2 ⟨rfl, hB2⟩))
          try rw [Exit.noGoto_ret]
          go_ret
          exact ⟨by rw [HF.out 8 (by omega) HK.out (HE.out ▸ HZ0.out), ← HE.out]; rfl, HW.out.trans (hB2.mono HW.out.size)⟩
    · obtain rfl : k = 9 := by omega
      go_wp2
      go_ret
      exact ⟨by rw [HZ.out HK.out]; rfl, hw⟩
end Go.Proofs.YtfnfegcjgnbgbaaGreatDoor
namespace Go.Proofs.YtfnfegcjgnbgbaaGreatDoor
open Go.RowKit Go.ChangeShapes Go.WideShapes

section
variable {H : Type} {enc : TypeId × Value → H} {w : World} {base : Nat} {spare : Nat → Bool} {held : Bool}
theorem item_under : ∃ f0 f1 f2 f3 : Field, Tryz.prog.underlying 93 = some (.struct #[f0, f1, f2, f3]) ∧ f0.offset = 0 ∧ f1.offset = 1 ∧ f2.offset = 2 ∧ f3.offset = 3 ∧ f0.type = 9 ∧ f1.type = 3 ∧ f2.type = 9 ∧ f3.type = 9 := ⟨_, _, _, _, Tryz.underlying93, rfl, rfl, rfl, rfl, rfl, rfl, rfl, rfl⟩
theorem cells_item : Tryz.prog.cellsOf 93 = 4 := by kernel_rfl
set_option maxRecDepth 100000 in
theorem trod_item {fuel : Nat} {cs : List Value} {x : DataW H × List MemPlace} (h : DataW.trod enc Tryz.prog w base spare held fuel 93 cs = some x) :
    ∃ q : It, cs = [.string q.nm, .int .i64 q.k, .string q.s, .string q.f] ∧ q.nm.size ≤ maxLen ∧ q.s.size ≤ maxLen ∧ q.f.size ≤ maxLen := by
  obtain ⟨f0, f1, f2, f3, hu, o0, o1, o2, o3, t0, t1, t2, t3⟩ := item_under
  obtain ⟨xs, n, rfl, rfl, hl, hlen, hf⟩ := DataW.trod_struct hu h
  rw [cells_item] at hl
  match xs, hlen, cs, hl with
  | [y0, y1, y2, y3], _, [c0, c1, c2, c3], _ =>
    have g0 := hf 0 f0 rfl
    have g1 := hf 1 f1 rfl
    have g2 := hf 2 f2 rfl
    have g3 := hf 3 f3 rfl
    rw [o0, t0, cells_s] at g0
    rw [o1, t1, cells_i] at g1
    rw [o2, t2, cells_s] at g2
    rw [o3, t3, cells_s] at g3
    simp at g0 g1 g2 g3
    obtain ⟨nm, e0, -, w0⟩ := DataW.trod_string Tryz.underlying9 g0
    obtain ⟨k, e1, -, -⟩ := DataW.trod_int Tryz.underlying3 g1
    obtain ⟨s, e2, -, w2⟩ := DataW.trod_string Tryz.underlying9 g2
    obtain ⟨f, e3, -, w3⟩ := DataW.trod_string Tryz.underlying9 g3
    simp at e0 e1 e2 e3
    subst e0 e1 e2 e3
    exact ⟨⟨nm, k, s, f⟩, rfl, w0, w2, w3⟩
set_option maxRecDepth 100000 in
theorem open_its {fuel : Nat} {cs : List Value} {d : DataW H} {p : List MemPlace} (hf : DataW.trod enc Tryz.prog w base spare held fuel 26 cs = some (d, p)) :
    ∃ (a : Option Addr) (len cap : Nat) (I : Nat → It), cs = [.slice a len cap] ∧ Its w a len I ∧ len ≤ cap ∧ cap ≤ 9223372036854775807 ∧ (∀ j, j < len → (I j).nm.size ≤ maxLen ∧ (I j).s.size ≤ maxLen ∧ (I j).f.size ≤ maxLen) ∧ len ≤ Rows.uptoBulk d := by
  rcases Deep.open_slice Tryz.underlying26 hf with ⟨e4, _⟩ | ⟨a', len, cap, mm, nn, D, Pl, e4, _, hl4, hcm, hmm, hdp, hx⟩
  · exact ⟨none, 0, 0, fun _ => ⟨⟨#[]⟩, 0, ⟨#[]⟩, ⟨#[]⟩⟩, e4, fun i h => by omega, by omega, by omega, fun j hj => by omega, Nat.zero_le _⟩
  · cases hdp
    have hlm : len ≤ mm := by rw [hmm]; split <;> omega
    have each : ∀ i, i < len → ∃ q : It, w.cell? (a'.add (i * 4)) = some (.string q.nm) ∧ w.cell? (a'.add (i * 4 + 1)) = some (.int .i64 q.k) ∧ w.cell? (a'.add (i * 4 + 2)) = some (.string q.s) ∧ w.cell? (a'.add (i * 4 + 3)) = some (.string q.f) ∧ q.nm.size ≤ maxLen ∧ q.s.size ≤ maxLen ∧ q.f.size ≤ maxLen := by
      intro i hi
      obtain ⟨cs', h1, h2⟩ := hx i (by omega)
      rw [cells_item] at h1
      obtain ⟨_, hlen, hcell⟩ := World.cells?_some h1
      obtain ⟨q, rfl, w1, w2, w3⟩ := trod_item h2
      have d0 := hcell 0 (by omega)
      have d1 := hcell 1 (by omega)
      have d2 := hcell 2 (by omega)
      have d3 := hcell 3 (by omega)
      rw [Deep.add_add] at d0 d1 d2 d3
      exact ⟨q, by simpa using d0, by simpa using d1, by simpa using d2, by simpa using d3, w1, w2, w3⟩
    have : Inhabited It := ⟨⟨⟨#[]⟩, 0, ⟨#[]⟩, ⟨#[]⟩⟩⟩
    obtain ⟨q, hq⟩ := Deep.choose_lt each
    refine ⟨some a', len, cap, q, e4, fun i hi => ?_, hl4, by unfold maxLen at hcm; omega, fun j hj => (hq j hj).2.2.2.2, ?_⟩
    · obtain ⟨b, off, spot⟩ := a'
      obtain ⟨d0, d1, d2, d3, -⟩ := hq i hi
      have hspot : spot = none := by simpa [Addr.add] using World.cell?_spot (hq 0 (by omega)).1
      subst hspot
      rw [add_none] at d0 d1 d2 d3
      refine ⟨b, off, rfl, ?_, ?_, ?_, ?_⟩
      · exact d0
      · rw [Nat.add_assoc]; exact d1
      · rw [Nat.add_assoc]; exact d2
      · rw [Nat.add_assoc]; exact d3
    · have hone : ∀ x : DataW H, 1 ≤ Rows.uptoBulk x := fun x => by rw [Rows.uptoBulk.eq_def]; split <;> omega
      have hsum : ∀ m, m ≤ sumN (fun i => Rows.uptoBulk (D i)) m := by
        intro m
        induction m with
        | zero => exact Nat.le_refl _
        | succ m ih => have := hone (D m); simp only [sumN]; omega
      have := hsum len
      simp only [Rows.uptoBulk, bulk_range]
      omega
theorem query_under : ∃ f0 f1 f2 f3 f4 f5 : Field, Tryz.prog.underlying 28 = some (.struct #[f0, f1, f2, f3, f4, f5]) ∧ f0.offset = 0 ∧ f1.offset = 6 ∧ f2.offset = 7 ∧ f3.offset = 8 ∧ f4.offset = 9 ∧ f5.offset = 10 ∧ f0.type = 24 ∧ f1.type = 25 ∧ f2.type = 9 ∧ f3.type = 3 ∧ f4.type = 2 ∧ f5.type = 26 := ⟨_, _, _, _, _, _, Tryz.underlying28, rfl, rfl, rfl, rfl, rfl, rfl, rfl, rfl, rfl, rfl, rfl, rfl⟩
theorem cells_q : Tryz.prog.cellsOf 28 = 11 := by kernel_rfl
theorem cells_il : Tryz.prog.cellsOf 26 = 1 := by kernel_rfl
theorem cells_64 : Tryz.prog.cellsOf 2 = 1 := by kernel_rfl
set_option maxRecDepth 100000 in
theorem trod_q {fuel : Nat} {cs : List Value} {x : DataW H × List MemPlace} (h : DataW.trod enc Tryz.prog w base spare held fuel 28 cs = some x) :
    ∃ q : Qy, cs = q.cells.toList ∧ IsQ w q ∧ q.bulk ≤ Rows.uptoBulk x.1 ∧ QOk q := by
  obtain ⟨f0, f1, f2, f3, f4, f5, hu, o0, o1, o2, o3, o4, o5, t0, t1, t2, t3, t4, t5⟩ := query_under
  obtain ⟨xs, n, rfl, rfl, hl, hlen, hf⟩ := DataW.trod_struct hu h
  rw [cells_q] at hl
  match xs, hlen, cs, hl with
  | [y0, y1, y2, y3, y4, y5], _, [c0, c1, c2, c3, c4, c5, c6, c7, c8, c9, c10], _ =>
    have hb : Rows.uptoBulk y0.1 + Rows.uptoBulk y1.1 + Rows.uptoBulk y5.1 + 1 ≤ Rows.uptoBulk (DataW.agg (H := H) ([y0, y1, y2, y3, y4, y5].map (·.1))) := by
      simp only [List.map_cons, List.map_nil, Rows.uptoBulk, Rows.uptoBulkAll]
      omega
    have g0 := hf 0 f0 rfl
    have g1 := hf 1 f1 rfl
    have g2 := hf 2 f2 rfl
    have g3 := hf 3 f3 rfl
    have g4 := hf 4 f4 rfl
    have g5 := hf 5 f5 rfl
    rw [o0, t0, cells_p] at g0
    rw [o1, t1, cells_xl] at g1
    rw [o2, t2, cells_s] at g2
    rw [o3, t3, cells_i] at g3
    rw [o4, t4, cells_64] at g4
    rw [o5, t5, cells_il] at g5
    simp at g0 g1 g2 g3 g4 g5
    obtain ⟨pt, e0, hP, hps, hpo⟩ := trod_p _ _ _ _ g0 (Nat.le_refl _)
    obtain ⟨ky, e2, -, w2⟩ := DataW.trod_string Tryz.underlying9 g2
    obtain ⟨md, e3, -, -⟩ := DataW.trod_int Tryz.underlying3 g3
    obtain ⟨wi, e4, -, -⟩ := DataW.trod_int Tryz.underlying2 g4
    obtain ⟨ia, im, icap, I, e5, hI, hi1, hi2, hi3, hi4⟩ := open_its g5
    have hxs : ∃ (a : Option Addr) (len cap : Nat), c6 = .slice a len cap := by
      rcases Deep.open_slice Tryz.underlying25 g1 with ⟨e, _⟩ | ⟨a', len', cap', _, _, _, _, e, _⟩
      · simp at e; exact ⟨_, _, _, e⟩
      · simp at e; exact ⟨_, _, _, e⟩
    obtain ⟨a, len, cap, rfl⟩ := hxs
    obtain ⟨c, hX, hxsz, hxo⟩ := open_xs (a := a) (len := len) (cap := cap) ⟨_, g1⟩
    simp at e0 e2 e3 e4 e5
    obtain ⟨rfl, rfl, rfl, rfl, rfl, rfl⟩ := e0
    subst e2 e3 e4 e5
    refine ⟨⟨pt, a, len, cap, c, ky, md, wi, ia, im, icap, I⟩, rfl, ⟨hP, ?_, hI, hi1, hi2⟩, ?_, ⟨hpo, ?_, w2, hi3⟩⟩
    · rw [isX_eq] at hX ⊢
      exact hX
    · unfold Qy.bulk
      have e : (Qy.x ⟨pt, a, len, cap, c, ky, md, wi, ia, im, icap, I⟩).size = (X.all a len cap c).size := rfl
      rw [e]
      dsimp only at hb ⊢
      omega
    · rw [xOk_eq] at hxo ⊢
      exact hxo
set_option maxRecDepth 100000 in
/-- A query that came in. -/
theorem open_q {v : Value} {d : DataW H} {p : List MemPlace} {r : Reach} {b0 : Nat} (hv : Value.okWide Tryz.prog w r b0 28 v) (h : DataW.Trod enc Tryz.prog w base spare held 28 v d p) :
    ∃ q : Qy, v = q.val ∧ IsQ w q ∧ q.bulk ≤ Rows.uptoBulk d ∧ QOk q := by
  obtain ⟨f0, f1, f2, f3, f4, f5, hu, -⟩ := query_under
  obtain ⟨cs, rfl, hc⟩ := okWide_struct hu hv
  obtain ⟨fuel, hf⟩ := h
  obtain ⟨q, e, hq, hs, ho⟩ := trod_q hf
  simp only [Value.cells] at e
  refine ⟨q, ?_, hq, hs, ho⟩
  have : cs = q.cells := by
    apply Array.ext'
    simpa using e
  rw [this]
end
end Go.Proofs.YtfnfegcjgnbgbaaGreatDoor
