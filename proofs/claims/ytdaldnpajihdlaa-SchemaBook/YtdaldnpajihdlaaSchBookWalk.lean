/-
  SchemaBook's walk (P7.1): in schemas that may be together each is found by its name, and each field by its own.
-/
import Derived.Test.YtdaldnpajihdlaaSchBook
import Derived.Test.YtdaldnpajihdlaaSchField
import Derived.Deep.RegionHeld3
namespace Go.Proofs.Ytdaldnpajihdlaa
open Go.RowKit

set_option maxRecDepth 100000 in
set_option maxHeartbeats 4000000 in
theorem schemaBook_not (a : Option Addr) (n cap : Nat) (Q : Nat → Sch) (w : World) (H : Schs w a n Q) (h : ¬ bookZ n Q = 0) :
    Calls Try.prog 5 #[.slice a n cap] w fun e w' => e = .returned (.bool true) ∧ Below w.heap.size w w' := by
  have C : Hid (Calls Try.prog 12 _ w _) := book_any a n cap Q w H
  generalize bookZ n Q = y at C h
  have h1 : (y == 0) = false := by simpa using h
  clear H
  go_enter Try.func5, Try.ntmps5
  go_wp2_with (first
    | (go_at_call 12; refine C.out.mono ?_; rintro e w1 ⟨rfl, hB1⟩)
    | (go_at_call 16; refine (awake_any _).mono ?_; rintro e w2 ⟨rfl, hB2⟩))
  go_ret
  exact ⟨rfl, bt hB1 hB2⟩
set_option maxRecDepth 100000 in
set_option maxHeartbeats 4000000 in
theorem schemaBook_ok (a : Option Addr) (n cap : Nat) (Q : Nat → Sch) (w : World) (H : Schs w a n Q) (h : bookZ n Q = 0) :
    Calls Try.prog 5 #[.slice a n cap] w fun e w' => e = .returned (.bool true) ∧ Below w.heap.size w w' := by
  have C : Hid (Calls Try.prog 12 _ w _) := book_any a n cap Q w H
  rw [h] at C
  obtain ⟨hn, hk, hd⟩ : n ≤ 16 ∧ chks Q n = 0 ∧ dupB (fun j => (Q j).nm) n = false := by
    unfold bookZ at h
    split at h
    · omega
    · split at h
      · split at h
        · omega
        · rename_i h1 h2 h3
          exact ⟨by omega, h2, by simpa using h3⟩
      · contradiction
  have HK : Hid (∀ j, j < n → (Q j).chk = 0) := chks_ok Q n hk
  have HD : Hid (∀ i j, i < j → j < n → ¬ (Q i).nm = (Q j).nm) := dupB_not _ n hd
  have HF : Hid (Schs w a n Q) := H
  clear H h hk hd
  go_enter Try.func5, Try.ntmps5
  go_wp2_with (first | (go_at_call 12; refine C.out.mono ?_; rintro e w1 ⟨rfl, hB1⟩))
  clear C
  go_loopw [3] (fun v wr => ∃ k : Nat, k ≤ n ∧ v = .int .i64 k ∧ Below w.heap.size w wr) (fun v _ => n - (intOf v).toNat)
  case atStart => exact ⟨0, Nat.zero_le _, rfl, hB1⟩
  case round =>
    clear hB1
    obtain ⟨k, hk, rfl, hB⟩ := hrel
    by_cases hkn : k < n
    · generalize wr = wo at *
      have HG := HF.out.later hB
      have C6 : Hid (Calls Try.prog 6 _ wo _) := find_some a n cap k _ _ (Q k).nm wo HG.1 (by omega) hkn rfl (fun j hj => HD.out j k hj hkn)
      obtain ⟨b, off, rfl, hc⟩ := HG.1 (by omega)
      have f0 := (hc k hkn).1.1
      obtain ⟨hl, _, hdf, _⟩ := chkZ_ok (HK.out k hkn)
      have HL : Hid (∀ i j, i < j → j < (Q k).l → ¬ (Q k).fn i = (Q k).fn j) := dupB_not _ _ hdf
      have HFL : Hid (Flds wo (Q k).a (Q k).l (Q k).fn (Q k).fk) := (HG.2 k hkn).1
      have HC : Hid (wo.cell? ⟨b, off + k * 2, none⟩ = some (.string (Q k).nm) ∧ wo.cell? ⟨b, off + k * 2 + 1, none⟩ = some (Q k).v) := (hc k hkn).1
      clear hc hdf HG
      go_wp2_with (first | (go_at_call 6; refine C6.out.mono ?_; rintro e w6 ⟨rfl, hB6⟩))
      clear f0 C6
      generalize Q k = x at *
      obtain ⟨S, fa, fl, fc, fn, fk⟩ := x
      simp only [Sch.v] at *
      go_loopw [6] (fun v wr => ∃ j : Nat, j ≤ fl ∧ v = .int .i64 j ∧ Below wo.heap.size wo wr) (fun v _ => fl - (intOf v).toNat)
      case atStart => exact ⟨0, Nat.zero_le _, rfl, hB6⟩
      case round =>
        clear hB6
        obtain ⟨j, hj, rfl, hBi⟩ := hrel
        have f0 := cell_later HC.out.1 hBi
        have f1 := cell_later HC.out.2 hBi
        by_cases hjl : j < fl
        · have HFi := HFL.out.later hBi
          have C13 : Hid (∀ d, Below wr.heap.size wr d → Calls Try.prog 8 #[schV S (.slice fa fl fc), .string (fn j)] d fun e w' => e = .returned (.tuple #[.int .i64 j, .int .i64 (fk j), .bool true]) ∧ Below d.heap.size d w') :=
            fun d hd => field_some S fa fl fc j fn fk (fn j) d (HFi.later hd) (by omega) hjl rfl (fun i hi => HL.out i j hi hjl)
          obtain ⟨b2, off2, rfl, hc2⟩ := HFi (by omega)
          have f2 := (hc2 j hjl).1.1
          have f3 : wr.cell? ⟨b2, off2 + j * 2 + 1, none⟩ = some (.int .i64 (fk j)) := (hc2 j hjl).1.2
          clear hc2 HFi
          go_wp2_with fail
          refine wp_region_noPanic ?_
          refine wp_region_held_drew (S := fun w' => Below wr.heap.size wr w') (by kernel_rfl) ((Below.refl _ _).drew) (fun hHeld => ?_)
          have hT : Below wr.heap.size wr wr.drew := hHeld
          obtain ⟨d, hd⟩ : ∃ d, d = wr.drew := ⟨_, rfl⟩
          rw [← hd] at hHeld hT ⊢
          clear hd
          refine wpAnyH_take (i := 0) (oi := ⟨some 48, Op.move (Operand.tmp 0), 22, _, _, _⟩) (v := ?v0) rfl (by kernel_rfl) (by kernel_rfl) (by kernel_rfl) (fun _ _ _ h => h) (Or.inl ⟨by rfl, ?hy0⟩) hHeld ?rest0
          case hy0 => intro w9 hSw; go_simp; (try with_reducible rfl)
          try simp only [Act.put, List.setIfInBounds_toArray, List.set_cons_zero, List.set_cons_succ]
          refine wpAnyH_take (i := 1) (oi := ⟨some 49, Op.move (Operand.tmp 3), 3, _, _, _⟩) (v := ?v1) rfl (by kernel_rfl) (by kernel_rfl) (by kernel_rfl) (fun _ _ _ h => h) (Or.inl ⟨by rfl, ?hy1⟩) hHeld ?rest1
          case hy1 => intro w9 hSw; go_simp; (try with_reducible rfl)
          try simp only [Act.put, List.setIfInBounds_toArray, List.set_cons_zero, List.set_cons_succ]
          refine wpAnyH_take (i := 2) (oi := ⟨some 50, Op.indexAddr 22 (Operand.tmp 48) (Operand.tmp 49), 0, _, _, _⟩) (v := ?v2) rfl (by kernel_rfl) (by kernel_rfl) (by kernel_rfl) (fun _ _ _ h => h) (Or.inl ⟨by rfl, ?hy2⟩) hHeld ?rest2
          case hy2 => intro w9 hSw; go_simp; (try with_reducible rfl)
          try simp only [Act.put, List.setIfInBounds_toArray, List.set_cons_zero, List.set_cons_succ]
          refine wpAnyH_take (i := 3) (oi := ⟨some 51, Op.load 25 (Operand.tmp 50), 25, _, _, _⟩) (v := ?v3) rfl (by kernel_rfl) (by kernel_rfl) (by kernel_rfl) (fun _ _ _ h => h) (Or.inl ⟨by rfl, ?hy3⟩) hHeld ?rest3
          case hy3 => intro w9 hSw; have c0 := cell_later f0 hSw; have c1 := cell_later f1 hSw; go_simp; (try with_reducible rfl)
          try simp only [Act.put, List.setIfInBounds_toArray, List.set_cons_zero, List.set_cons_succ]
          refine wpAnyH_take (i := 4) (oi := ⟨some 52, Op.move (Operand.tmp 0), 22, _, _, _⟩) (v := ?v4) rfl (by kernel_rfl) (by kernel_rfl) (by kernel_rfl) (fun _ _ _ h => h) (Or.inl ⟨by rfl, ?hy4⟩) hHeld ?rest4
          case hy4 => intro w9 hSw; go_simp; (try with_reducible rfl)
          try simp only [Act.put, List.setIfInBounds_toArray, List.set_cons_zero, List.set_cons_succ]
          refine wpAnyH_take (i := 5) (oi := ⟨some 53, Op.move (Operand.tmp 3), 3, _, _, _⟩) (v := ?v5) rfl (by kernel_rfl) (by kernel_rfl) (by kernel_rfl) (fun _ _ _ h => h) (Or.inl ⟨by rfl, ?hy5⟩) hHeld ?rest5
          case hy5 => intro w9 hSw; go_simp; (try with_reducible rfl)
          try simp only [Act.put, List.setIfInBounds_toArray, List.set_cons_zero, List.set_cons_succ]
          refine wpAnyH_take (i := 6) (oi := ⟨some 54, Op.indexAddr 22 (Operand.tmp 52) (Operand.tmp 53), 0, _, _, _⟩) (v := ?v6) rfl (by kernel_rfl) (by kernel_rfl) (by kernel_rfl) (fun _ _ _ h => h) (Or.inl ⟨by rfl, ?hy6⟩) hHeld ?rest6
          case hy6 => intro w9 hSw; go_simp; (try with_reducible rfl)
          try simp only [Act.put, List.setIfInBounds_toArray, List.set_cons_zero, List.set_cons_succ]
          refine wpAnyH_take (i := 7) (oi := ⟨some 55, Op.fieldAddr 25 (Operand.tmp 54) 1, 0, _, _, _⟩) (v := ?v7) rfl (by kernel_rfl) (by kernel_rfl) (by kernel_rfl) (fun _ _ _ h => h) (Or.inl ⟨by rfl, ?hy7⟩) hHeld ?rest7
          case hy7 => intro w9 hSw; go_simp; (try with_reducible rfl)
          try simp only [Act.put, List.setIfInBounds_toArray, List.set_cons_zero, List.set_cons_succ]
          refine wpAnyH_take (i := 8) (oi := ⟨some 56, Op.load 23 (Operand.tmp 55), 23, _, _, _⟩) (v := ?v8) rfl (by kernel_rfl) (by kernel_rfl) (by kernel_rfl) (fun _ _ _ h => h) (Or.inl ⟨by rfl, ?hy8⟩) hHeld ?rest8
          case hy8 => intro w9 hSw; have c1 := cell_later f1 hSw; go_simp; (try with_reducible rfl)
          try simp only [Act.put, List.setIfInBounds_toArray, List.set_cons_zero, List.set_cons_succ]
          refine wpAnyH_take (i := 9) (oi := ⟨some 57, Op.move (Operand.tmp 6), 3, _, _, _⟩) (v := ?v9) rfl (by kernel_rfl) (by kernel_rfl) (by kernel_rfl) (fun _ _ _ h => h) (Or.inl ⟨by rfl, ?hy9⟩) hHeld ?rest9
          case hy9 => intro w9 hSw; go_simp; (try with_reducible rfl)
          try simp only [Act.put, List.setIfInBounds_toArray, List.set_cons_zero, List.set_cons_succ]
          refine wpAnyH_take (i := 10) (oi := ⟨some 58, Op.indexAddr 23 (Operand.tmp 56) (Operand.tmp 57), 0, _, _, _⟩) (v := ?v10) rfl (by kernel_rfl) (by kernel_rfl) (by kernel_rfl) (fun _ _ _ h => h) (Or.inl ⟨by rfl, ?hy10⟩) hHeld ?rest10
          case hy10 => intro w9 hSw; go_simp; (try with_reducible rfl)
          try simp only [Act.put, List.setIfInBounds_toArray, List.set_cons_zero, List.set_cons_succ]
          refine wpAnyH_take (i := 11) (oi := ⟨some 59, Op.fieldAddr 52 (Operand.tmp 58) 0, 0, _, _, _⟩) (v := ?v11) rfl (by kernel_rfl) (by kernel_rfl) (by kernel_rfl) (fun _ _ _ h => h) (Or.inl ⟨by rfl, ?hy11⟩) hHeld ?rest11
          case hy11 => intro w9 hSw; go_simp; (try with_reducible rfl)
          try simp only [Act.put, List.setIfInBounds_toArray, List.set_cons_zero, List.set_cons_succ]
          refine wpAnyH_take (i := 12) (oi := ⟨some 60, Op.load 9 (Operand.tmp 59), 9, _, _, _⟩) (v := ?v12) rfl (by kernel_rfl) (by kernel_rfl) (by kernel_rfl) (fun _ _ _ h => h) (Or.inl ⟨by rfl, ?hy12⟩) hHeld ?rest12
          case hy12 => intro w9 hSw; have c2 := cell_later f2 hSw; go_simp; (try with_reducible rfl)
          try simp only [Act.put, List.setIfInBounds_toArray, List.set_cons_zero, List.set_cons_succ]
          refine wpAnyH_ready (rs := [13]) (by kernel_rfl) (by simp) ?_
          refine AllReadyH.cons (o := ⟨some 61, Op.call { callee := Callee.value (Operand.func 8), args := #[Operand.tmp 51, Operand.tmp 60], argTypes := #[25, 9] }, 28, _, _, _⟩) rfl (fun K hK => ?_) AllReadyH.nil
          go_simp
          refine (C13.out _ hHeld).mono ?_
          rintro e x13 ⟨rfl, hN13⟩
          go_wp2_with fail
          have hT13 : Below wr.heap.size wr x13 := hT.trans (hN13.mono hT.size)
          refine hK.out _ _ (hHeld.trans (hN13.mono hHeld.size)) (fun _ => held_up (S' := fun w' => Below x13.heap.size x13 w') (fun w' h' => (hHeld.trans (hN13.mono hHeld.size)).trans (h'.mono (Nat.le_trans hHeld.size hN13.size))) _ _ _ _ ?_)
          clear hK K hHeld hT
          have hT : Below wr.heap.size wr x13 := hT13
          have hHeld : Below x13.heap.size x13 x13 := Below.refl _ _
          clear hT13 hN13
          try simp only [Act.put, List.setIfInBounds_toArray, List.set_cons_zero, List.set_cons_succ]
          refine wpAnyH_take (i := 14) (oi := ⟨some 47, Op.move (Operand.tmp 61), 28, _, _, _⟩) (v := ?v14) rfl (by kernel_rfl) (by kernel_rfl) (by kernel_rfl) (fun _ _ _ h => h) (Or.inl ⟨by rfl, ?hy14⟩) hHeld ?rest14
          case hy14 => intro w9 hSw; go_simp; (try with_reducible rfl)
          try simp only [Act.put, List.setIfInBounds_toArray, List.set_cons_zero, List.set_cons_succ]
          refine wpAnyH_take (i := 15) (oi := ⟨some 62, Op.extract (Operand.tmp 47) 0, 3, _, _, _⟩) (v := ?v15) rfl (by kernel_rfl) (by kernel_rfl) (by kernel_rfl) (fun _ _ _ h => h) (Or.inl ⟨by rfl, ?hy15⟩) hHeld ?rest15
          case hy15 => intro w9 hSw; go_simp; (try with_reducible rfl)
          try simp only [Act.put, List.setIfInBounds_toArray, List.set_cons_zero, List.set_cons_succ]
          refine wpAnyH_take (i := 16) (oi := ⟨some 63, Op.extract (Operand.tmp 47) 1, 3, _, _, _⟩) (v := ?v16) rfl (by kernel_rfl) (by kernel_rfl) (by kernel_rfl) (fun _ _ _ h => h) (Or.inl ⟨by rfl, ?hy16⟩) hHeld ?rest16
          case hy16 => intro w9 hSw; go_simp; (try with_reducible rfl)
          try simp only [Act.put, List.setIfInBounds_toArray, List.set_cons_zero, List.set_cons_succ]
          refine wpAnyH_take (i := 17) (oi := ⟨some 64, Op.extract (Operand.tmp 47) 2, 4, _, _, _⟩) (v := ?v17) rfl (by kernel_rfl) (by kernel_rfl) (by kernel_rfl) (fun _ _ _ h => h) (Or.inl ⟨by rfl, ?hy17⟩) hHeld ?rest17
          case hy17 => intro w9 hSw; go_simp; (try with_reducible rfl)
          try simp only [Act.put, List.setIfInBounds_toArray, List.set_cons_zero, List.set_cons_succ]
          refine wpAnyH_take (i := 18) (oi := ⟨some 7, Op.assign (Operand.tmp 62), 3, _, _, _⟩) (v := ?v18) rfl (by kernel_rfl) (by kernel_rfl) (by kernel_rfl) (fun _ _ _ h => h) (Or.inl ⟨by rfl, ?hy18⟩) hHeld ?rest18
          case hy18 => intro w9 hSw; go_simp; (try with_reducible rfl)
          try simp only [Act.put, List.setIfInBounds_toArray, List.set_cons_zero, List.set_cons_succ]
          refine wpAnyH_take (i := 19) (oi := ⟨some 8, Op.assign (Operand.tmp 63), 3, _, _, _⟩) (v := ?v19) rfl (by kernel_rfl) (by kernel_rfl) (by kernel_rfl) (fun _ _ _ h => h) (Or.inl ⟨by rfl, ?hy19⟩) hHeld ?rest19
          case hy19 => intro w9 hSw; go_simp; (try with_reducible rfl)
          try simp only [Act.put, List.setIfInBounds_toArray, List.set_cons_zero, List.set_cons_succ]
          refine wpAnyH_take (i := 20) (oi := ⟨some 9, Op.assign (Operand.tmp 64), 4, _, _, _⟩) (v := ?v20) rfl (by kernel_rfl) (by kernel_rfl) (by kernel_rfl) (fun _ _ _ h => h) (Or.inl ⟨by rfl, ?hy20⟩) hHeld ?rest20
          case hy20 => intro w9 hSw; go_simp; (try with_reducible rfl)
          try simp only [Act.put, List.setIfInBounds_toArray, List.set_cons_zero, List.set_cons_succ]
          refine wpAnyH_done (by kernel_rfl) ?_ _
          refine NoPanic.normal ?_
          have g0 := cell_later f0 hT
          have g1 := cell_later f1 hT
          have g3 := cell_later f3 hT
          clear f0 f1 f2 f3
          go_wp2
          go_roundw
          case rel => exact ⟨j + 1, by omega, by go_num, bt hBi hT⟩
          case measure => simp [intOf]; omega
        · go_wp2
          go_roundw
          case rel => exact ⟨k + 1, by omega, by go_num, bt hB hBi⟩
          case measure => simp [intOf]; omega
    · obtain rfl : k = n := by omega
      go_wp2_with (first | (go_at_call 16; refine (awake_any _).mono ?_; rintro e w2 ⟨rfl, hB2⟩))
      go_ret
      exact ⟨rfl, bt hB hB2⟩
theorem schemaBook_walk (a : Option Addr) (n cap : Nat) (Q : Nat → Sch) (w : World) (H : Schs w a n Q) :
    Calls Try.prog 5 #[.slice a n cap] w fun e w' => e = .returned (.bool true) ∧ Below w.heap.size w w' := by
  by_cases h : bookZ n Q = 0
  · exact schemaBook_ok a n cap Q w H h
  · exact schemaBook_not a n cap Q w H h
end Go.Proofs.Ytdaldnpajihdlaa
