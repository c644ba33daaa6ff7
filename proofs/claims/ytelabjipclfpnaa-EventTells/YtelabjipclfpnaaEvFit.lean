/-
  event.fit (P8.1): do the values fit their fields' kinds?
-/
import Derived.Test.YtelabjipclfpnaaEvBase
import Derived.Test.YtelabjipclfpnaaHeld
import Derived.Deep.RegionHeld3
import Derived.BigQuiet
namespace Go.Proofs.Ytelabjipclfpnaa
open Go.RowKit

set_option maxRecDepth 100000 in
set_option maxHeartbeats 4000000 in
theorem fit_any (va : Option Addr) (vc : Nat) (V : Nat → Val) (fa : Option Addr) (n fc : Nat) (Nm : Nat → ByteArray) (K : Nat → Int) (w : World) (H : Vals w va n V) (HF : Flds w fa n Nm K) (hn : n ≤ 9223372036854775807) :
    Calls Try.prog 32 #[.slice va n vc, .slice fa n fc] w fun e w' => e = .returned (.bool (fitTo V K n)) ∧ Below w.heap.size w w' := by
  obtain ⟨r, hr⟩ : ∃ r, r = fitTo V K n := ⟨_, rfl⟩
  rw [← hr]
  have HRR : Hid (r = fitTo V K n) := hr
  have HV : Hid (Vals w va n V) := H
  have HG : Hid (Flds w fa n Nm K) := HF
  clear H HF hr
  go_enter Try.func32, Try.ntmps32
  go_wp2
  go_loopw [9] (fun v wr => ∃ k : Nat, k ≤ n ∧ v = .int .i64 k ∧ Hid (fitTo V K k = true) ∧ Below w.heap.size w wr) (fun v _ => n - (intOf v).toNat)
  case atStart => exact ⟨0, Nat.zero_le _, rfl, rfl, Below.refl _ _⟩
  case round =>
    obtain ⟨k, hk, rfl, HA, hB⟩ := hrel
    by_cases hkn : k < n
    · obtain ⟨b, off, rfl, hc⟩ := (HV.out.later hB) (by omega)
      obtain ⟨b2, off2, rfl, hc2⟩ := (HG.out.later hB) (by omega)
      have f0 := (hc2 k hkn).1.1
      have f1 := (hc2 k hkn).1.2
      have HB1 : Below wr.heap.size wr (wr.alloc (fldO (Nm k) (K k))) := (Below.refl _ _).alloc (Nat.le_refl _) _
      have HX : Hid (Below wr.heap.size wr (wr.alloc (fldO (Nm k) (K k)))) := HB1
      have g0 := (hc k hkn).1
      have g1 := (hc k hkn).2.1
      have g2 := (hc k hkn).2.2
      have HG0 : Hid (wr.cell? ⟨b, off + k * 3, none⟩ = some (.int .i64 (V k).k) ∧ wr.cell? ⟨b, off + k * 3 + 1, none⟩ = some (.int .i64 (V k).n) ∧ wr.cell? ⟨b, off + k * 3 + 2, none⟩ = some (.string (V k).s)) := ⟨g0, g1, g2⟩
      clear hc hc2 HB1 g0 g1 g2
      go_upto_region 4 with fail
      have x1 : (wr.alloc (fldO (Nm k) (K k))).cell? ⟨wr.heap.size, 1, none⟩ = some (.int .i64 (K k)) := by simp
      obtain ⟨W, hW⟩ : ∃ W, W = wr.alloc (fldO (Nm k) (K k)) := ⟨_, rfl⟩
      obtain ⟨bs, hbs⟩ : ∃ bs, bs = wr.heap.size := ⟨_, rfl⟩
      rw [← hW] at HX
      rw [← hW, ← hbs] at x1
      rw [← hW, ← hbs]
      clear hW hbs f0 f1
      have g0 := cell_later HG0.out.1 HX.out
      have g1 := cell_later HG0.out.2.1 HX.out
      have g2 := cell_later HG0.out.2.2 HX.out
      obtain ⟨y, hy⟩ : ∃ y, y = fitsV (V k).k (V k).n (V k).s (K k) := ⟨_, rfl⟩
      have C6 : Hid (∀ d, Below W.heap.size W d → Calls Try.prog 40 #[valV (V k).k (V k).n (V k).s, .int .i64 (K k)] d fun e w' => e = .returned (.bool y) ∧ Below d.heap.size d w') := fun d _ => by rw [hy]; exact valFits_any _ _ _ _ d
      have HY : Hid (y = fitsV (V k).k (V k).n (V k).s (K k)) := hy
      clear hy HG0
      refine wp_region_noPanic ?_
      refine wp_region_held_drew (S := fun w' => Below W.heap.size W w') (by kernel_rfl) ((Below.refl _ _).drew) (fun hHeld => ?_)
      have hT : Below W.heap.size W W.drew := hHeld
      obtain ⟨d, hd⟩ : ∃ d, d = W.drew := ⟨_, rfl⟩
      rw [← hd] at hHeld hT ⊢
      clear hd
      refine wpAnyH_take (i := 0) (oi := ⟨some 14, Op.move (Operand.tmp 0), 24, _, _, _⟩) (v := ?v0) rfl (by kernel_rfl) (by kernel_rfl) (by kernel_rfl) (fun _ _ _ h => h) (Or.inl ⟨by rfl, ?hy0⟩) hHeld ?rest0
      case hy0 => intro w9 hSw; go_simp; (try with_reducible rfl)
      try simp only [Act.put, List.setIfInBounds_toArray, List.set_cons_zero, List.set_cons_succ]
      refine wpAnyH_take (i := 1) (oi := ⟨some 15, Op.move (Operand.tmp 5), 3, _, _, _⟩) (v := ?v1) rfl (by kernel_rfl) (by kernel_rfl) (by kernel_rfl) (fun _ _ _ h => h) (Or.inl ⟨by rfl, ?hy1⟩) hHeld ?rest1
      case hy1 => intro w9 hSw; go_simp; (try with_reducible rfl)
      try simp only [Act.put, List.setIfInBounds_toArray, List.set_cons_zero, List.set_cons_succ]
      refine wpAnyH_take (i := 2) (oi := ⟨some 16, Op.indexAddr 24 (Operand.tmp 14) (Operand.tmp 15), 0, _, _, _⟩) (v := ?v2) rfl (by kernel_rfl) (by kernel_rfl) (by kernel_rfl) (fun _ _ _ h => h) (Or.inl ⟨by rfl, ?hy2⟩) hHeld ?rest2
      case hy2 => intro w9 hSw; go_simp; (try with_reducible rfl)
      try simp only [Act.put, List.setIfInBounds_toArray, List.set_cons_zero, List.set_cons_succ]
      refine wpAnyH_take (i := 3) (oi := ⟨some 17, Op.load 34 (Operand.tmp 16), 34, _, _, _⟩) (v := ?v3) rfl (by kernel_rfl) (by kernel_rfl) (by kernel_rfl) (fun _ _ _ h => h) (Or.inl ⟨by rfl, ?hy3⟩) hHeld ?rest3
      case hy3 => intro w9 hSw; have c0 := cell_later g0 hSw; have c1 := cell_later g1 hSw; have c2 := cell_later g2 hSw; go_simp; (try with_reducible rfl)
      try simp only [Act.put, List.setIfInBounds_toArray, List.set_cons_zero, List.set_cons_succ]
      refine wpAnyH_take (i := 4) (oi := ⟨some 18, Op.fieldAddr 52 (Operand.tmp 6) 1, 0, _, _, _⟩) (v := ?v4) rfl (by kernel_rfl) (by kernel_rfl) (by kernel_rfl) (fun _ _ _ h => h) (Or.inl ⟨by rfl, ?hy4⟩) hHeld ?rest4
      case hy4 => intro w9 hSw; go_simp; (try with_reducible rfl)
      try simp only [Act.put, List.setIfInBounds_toArray, List.set_cons_zero, List.set_cons_succ]
      refine wpAnyH_take (i := 5) (oi := ⟨some 19, Op.load 3 (Operand.tmp 18), 3, _, _, _⟩) (v := ?v5) rfl (by kernel_rfl) (by kernel_rfl) (by kernel_rfl) (fun _ _ _ h => h) (Or.inl ⟨by rfl, ?hy5⟩) hHeld ?rest5
      case hy5 => intro w9 hSw; have c0 := cell_later x1 hSw; go_simp; (try with_reducible rfl)
      try simp only [Act.put, List.setIfInBounds_toArray, List.set_cons_zero, List.set_cons_succ]
      refine wpAnyH_ready (rs := [6]) (by kernel_rfl) (by simp) ?_
      refine AllReadyH.cons (o := ⟨some 20, Op.call { callee := Callee.value (Operand.func 40), args := #[Operand.tmp 17, Operand.tmp 19], argTypes := #[34, 3] }, 4, _, _, _⟩) rfl (fun K hK => ?_) AllReadyH.nil
      go_simp
      refine (C6.out _ hHeld).mono ?_
      rintro e x6 ⟨rfl, hN6⟩
      go_wp2_with fail
      have hT6 : Below W.heap.size W x6 := hT.trans (hN6.mono hT.size)
      refine hK.out _ _ (hHeld.trans (hN6.mono hHeld.size)) (fun _ => held_up (S' := fun w' => Below x6.heap.size x6 w') (fun w' h' => (hHeld.trans (hN6.mono hHeld.size)).trans (h'.mono (Nat.le_trans hHeld.size hN6.size))) _ _ _ _ ?_)
      clear hK K hHeld hT
      have hT : Below W.heap.size W x6 := hT6
      have hHeld : Below x6.heap.size x6 x6 := Below.refl _ _
      clear hT6 hN6
      try simp only [Act.put, List.setIfInBounds_toArray, List.set_cons_zero, List.set_cons_succ]
      refine wpAnyH_take (i := 7) (oi := ⟨some 21, Op.unOp UnOp.not 4 (Operand.tmp 20), 4, _, _, _⟩) (v := ?v7) rfl (by kernel_rfl) (by kernel_rfl) (by kernel_rfl) (fun _ _ _ h => h) (Or.inl ⟨by rfl, ?hy7⟩) hHeld ?rest7
      case hy7 => intro w9 hSw; go_simp; (try with_reducible rfl)
      try simp only [Act.put, List.setIfInBounds_toArray, List.set_cons_zero, List.set_cons_succ]
      refine wpAnyH_done (by kernel_rfl) ?_ _
      refine NoPanic.normal ?_
      clear g0 g1 g2 x1 C6
      cases y with
      | true =>
        go_wp2
        go_roundw
        case rel => exact ⟨k + 1, by omega, by go_num, by show fitTo V K (k + 1) = true; simp only [fitTo]; rw [HA.out, ← HY.out]; rfl, bt (bt hB HX.out) hT⟩
        case measure => simp [intOf]; omega
      | false =>
        go_wp2
        try rw [Exit.noGoto_ret]
        go_ret
        exact ⟨ret_bool (by rw [HRR.out, fitTo_not V K n k hkn HY.out.symm]), bt (bt hB HX.out) hT⟩
    · obtain rfl : k = n := by omega
      go_wp2
      go_ret
      exact ⟨ret_bool (by rw [HRR.out, HA.out]), hB⟩
end Go.Proofs.Ytelabjipclfpnaa
