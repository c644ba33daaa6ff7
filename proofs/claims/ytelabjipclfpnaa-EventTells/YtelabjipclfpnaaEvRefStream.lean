/-
  The document's Stream (haruspexref08, P8.1); Stream tells the same.
-/
import Derived.Test.YtelabjipclfpnaaEvRefCheck
import Derived.Test.YtelabjipclfpnaaEvStream
namespace Go.Proofs.Ytelabjipclfpnaa
open Go.RowKit

set_option maxRecDepth 100000 in
set_option maxHeartbeats 2000000 in
theorem refStream_long (a : Option Addr) (n cap : Nat) (sa : Option Addr) (m sc : Nat) (w : World) (hm : ¬ m ≤ 4096) :
    Calls Try.prog 8 #[.slice a n cap, .slice sa m sc] w fun e w' => e = .returned (.tuple #[.int .i64 0, .int .i64 2]) ∧ Below w.heap.size w w' := by
  have h : 4096 < (m : Int) := by omega
  go_enter Try.func8, Try.ntmps8
  go_wp2
  exact bodyPost_ret (v := .tuple #[.int .i64 0, .int .i64 2]) (by simp [results, Try.results8, go_sem]) rfl ⟨rfl, Below.refl _ _⟩
set_option maxRecDepth 100000 in
set_option maxHeartbeats 4000000 in
theorem refStream_few (a : Option Addr) (n cap : Nat) (Q : Nat → Sch) (sa : Option Addr) (m sc : Nat) (E : Nat → Evt) (w : World) (H : Schs w a n Q) (hn : n ≤ 9223372036854775807) (HE : Evts w sa m E) (hm : m ≤ 4096) (i : Nat) (c : Int) (hi : i ≤ m) (hb : ∀ j, j < i → badAt n Q E j = 0) (h1 : i < m → c = badAt n Q E i ∧ ¬ c = 0) (h2 : i = m → c = 0) :
    Calls Try.prog 8 #[.slice a n cap, .slice sa m sc] w fun e w' => e = .returned (.tuple #[.int .i64 i, .int .i64 c]) ∧ Below w.heap.size w w' := by
  have h0 : ¬ 4096 < (m : Int) := by omega
  have HQ : Hid (Schs w a n Q) := H
  have HV : Hid (Evts w sa m E) := HE
  have HB : Hid (∀ j, j < i → badAt n Q E j = 0) := hb
  have H1 : Hid (i < m → c = badAt n Q E i ∧ ¬ c = 0) := h1
  have H2 : Hid (i = m → c = 0) := h2
  clear H HE hb h1 h2
  go_enter Try.func8, Try.ntmps8
  go_wp2
  go_loopw [6] (fun v wr => ∃ k : Nat, k ≤ i ∧ v = .int .i64 k ∧ Below w.heap.size w wr) (fun v _ => m - (intOf v).toNat)
  case atStart => exact ⟨0, Nat.zero_le _, rfl, Below.refl _ _⟩
  case round =>
    obtain ⟨k, hk, rfl, hB⟩ := hrel
    by_cases hkm : k < m
    · have HG := HV.out.later hB
      obtain ⟨b, off, rfl, hc⟩ := HG.1 (by omega)
      obtain ⟨f0, f1, f2⟩ := hc k hkm
      obtain ⟨p, hp⟩ : ∃ p : Nat, p = k - 1 := ⟨_, rfl⟩
      have HP : Hid (wr.cell? ⟨b, off + p * 3 + 1, none⟩ = some (.int .i64 (E p).t)) := (hc p (by omega)).2.1
      have HP1 : Hid (wr.cell? ⟨b, off + k * 3 + 1, none⟩ = some (.int .i64 (E k).t)) := f1
      have C6 : Hid (Calls Try.prog 14 #[.slice a n cap, evtV (E k).ty (E k).t (E k).v] wr fun e w' => e = .returned (.int .i64 (evZ n Q (E k))) ∧ Below wr.heap.size wr w') := refEvCheck_any a n cap Q (E k) _ (HQ.out.later hB) hn (HG.2 k hkm)
      obtain ⟨y, hy⟩ : ∃ y, y = evZ n Q (E k) := ⟨_, rfl⟩
      rw [← hy] at C6
      have HY : Hid (y = evZ n Q (E k)) := hy
      have hpm : p < m := by omega
      have HPP : Hid (p = k - 1) := hp
      clear hc hy HG hp
      by_cases hy : y = 0
      · subst hy
        go_wp2_with (first | (go_at_call 14; refine C6.out.mono ?_; rintro e W ⟨rfl, hB7⟩))
        have hBW : Hid (Below w.heap.size w W) := bt hB hB7
        have g1 := cell_later HP.out hB7
        have q1 := cell_later HP1.out hB7
        clear f0 f1 f2 C6 HP HP1
        by_cases hk0 : 0 < k
        · have hw : IntKind.i64.wrap ((k : Int) - 1) = (p : Int) := by rw [IntKind.wrap_i64]; have := HPP.out; omega
          have HM : Hid (IntKind.i64.wrap ((k : Int) - 1) = (p : Int)) := hw
          have hk1 : (k : Int) > 0 := by omega
          clear hw
          refine wp_region_noPanic ?_
          refine wp_region_held_drew (S := fun w' => Below W.heap.size W w') (by kernel_rfl) ((Below.refl _ _).drew) (fun hHeld => ?_)
          have hT : Below W.heap.size W W.drew := hHeld
          obtain ⟨d, hd⟩ : ∃ d, d = W.drew := ⟨_, rfl⟩
          rw [← hd] at hHeld hT ⊢
          clear hd
          refine wpAnyH_take (i := 0) (oi := ⟨some 27, Op.move (Operand.tmp 6), 3, _, _, _⟩) (v := ?v0y) rfl (by kernel_rfl) (by kernel_rfl) (by kernel_rfl) (fun _ _ _ h => h) (Or.inl ⟨by rfl, ?hy0y⟩) hHeld ?rest0y
          case hy0y => intro w9 hSw; go_simp; (try with_reducible rfl)
          try simp only [Act.put, List.setIfInBounds_toArray, List.set_cons_zero, List.set_cons_succ]
          refine wpAnyH_take (i := 1) (oi := ⟨some 28, Op.binOp BinOp.gtr 3 (Operand.tmp 27) (Operand.const (Value.int IntKind.i64 0)) 3, 4, _, _, _⟩) (v := ?v1y) rfl (by kernel_rfl) (by kernel_rfl) (by kernel_rfl) (fun _ _ _ h => h) (Or.inl ⟨by rfl, ?hy1y⟩) hHeld ?rest1y
          case hy1y => intro w9 hSw; go_simp; (try with_reducible rfl)
          try simp only [Act.put, List.setIfInBounds_toArray, List.set_cons_zero, List.set_cons_succ]
          refine wpAnyH_take (i := 2) (oi := ⟨some 29, Op.move (Operand.tmp 28), 4, _, _, _⟩) (v := ?v2y) rfl (by kernel_rfl) (by kernel_rfl) (by kernel_rfl) (fun _ _ _ h => h) (Or.inl ⟨by rfl, ?hy2y⟩) hHeld ?rest2y
          case hy2y => intro w9 hSw; go_simp; (try with_reducible rfl)
          try simp only [Act.put, List.setIfInBounds_toArray, List.set_cons_zero, List.set_cons_succ]
          refine wpAnyH_take (i := 3) (oi := ⟨some 30, Op.move (Operand.tmp 1), 23, _, _, _⟩) (v := ?v3y) rfl (by kernel_rfl) (by kernel_rfl) (by kernel_rfl) (fun _ _ _ h => h) (Or.inl ⟨by rfl, ?hy3y⟩) hHeld ?rest3y
          case hy3y => intro w9 hSw; go_simp; (try with_reducible rfl)
          try simp only [Act.put, List.setIfInBounds_toArray, List.set_cons_zero, List.set_cons_succ]
          refine wpAnyH_take (i := 4) (oi := ⟨some 31, Op.move (Operand.tmp 6), 3, _, _, _⟩) (v := ?v4y) rfl (by kernel_rfl) (by kernel_rfl) (by kernel_rfl) (fun _ _ _ h => h) (Or.inl ⟨by rfl, ?hy4y⟩) hHeld ?rest4y
          case hy4y => intro w9 hSw; go_simp; (try with_reducible rfl)
          try simp only [Act.put, List.setIfInBounds_toArray, List.set_cons_zero, List.set_cons_succ]
          refine wpAnyH_take (i := 5) (oi := ⟨some 32, Op.indexAddr 23 (Operand.tmp 30) (Operand.tmp 31), 0, _, _, _⟩) (v := ?v5y) rfl (by kernel_rfl) (by kernel_rfl) (by kernel_rfl) (fun _ _ _ h => h) (Or.inl ⟨by rfl, ?hy5y⟩) hHeld ?rest5y
          case hy5y => intro w9 hSw; go_simp; (try with_reducible rfl)
          try simp only [Act.put, List.setIfInBounds_toArray, List.set_cons_zero, List.set_cons_succ]
          refine wpAnyH_take (i := 6) (oi := ⟨some 33, Op.fieldAddr 26 (Operand.tmp 32) 1, 0, _, _, _⟩) (v := ?v6y) rfl (by kernel_rfl) (by kernel_rfl) (by kernel_rfl) (fun _ _ _ h => h) (Or.inl ⟨by rfl, ?hy6y⟩) hHeld ?rest6y
          case hy6y => intro w9 hSw; go_simp; (try with_reducible rfl)
          try simp only [Act.put, List.setIfInBounds_toArray, List.set_cons_zero, List.set_cons_succ]
          refine wpAnyH_take (i := 7) (oi := ⟨some 34, Op.load 2 (Operand.tmp 33), 2, _, _, _⟩) (v := ?v7y) rfl (by kernel_rfl) (by kernel_rfl) (by kernel_rfl) (fun _ _ _ h => h) (Or.inl ⟨by rfl, ?hy7y⟩) hHeld ?rest7y
          case hy7y => intro w9 hSw; have c0 := cell_later q1 hSw; go_simp; (try with_reducible rfl)
          try simp only [Act.put, List.setIfInBounds_toArray, List.set_cons_zero, List.set_cons_succ]
          refine wpAnyH_take (i := 8) (oi := ⟨some 35, Op.move (Operand.tmp 1), 23, _, _, _⟩) (v := ?v8y) rfl (by kernel_rfl) (by kernel_rfl) (by kernel_rfl) (fun _ _ _ h => h) (Or.inl ⟨by rfl, ?hy8y⟩) hHeld ?rest8y
          case hy8y => intro w9 hSw; go_simp; (try with_reducible rfl)
          try simp only [Act.put, List.setIfInBounds_toArray, List.set_cons_zero, List.set_cons_succ]
          refine wpAnyH_take (i := 9) (oi := ⟨some 36, Op.move (Operand.tmp 6), 3, _, _, _⟩) (v := ?v9y) rfl (by kernel_rfl) (by kernel_rfl) (by kernel_rfl) (fun _ _ _ h => h) (Or.inl ⟨by rfl, ?hy9y⟩) hHeld ?rest9y
          case hy9y => intro w9 hSw; go_simp; (try with_reducible rfl)
          try simp only [Act.put, List.setIfInBounds_toArray, List.set_cons_zero, List.set_cons_succ]
          refine wpAnyH_take (i := 10) (oi := ⟨some 37, Op.binOp BinOp.sub 3 (Operand.tmp 36) (Operand.const (Value.int IntKind.i64 1)) 3, 3, _, _, _⟩) (v := .int .i64 (p : Nat)) rfl (by kernel_rfl) (by kernel_rfl) (by kernel_rfl) (fun _ _ _ h => h) (Or.inl ⟨by rfl, ?hy10y⟩) hHeld ?rest10y
          case hy10y => intro w9 hSw; go_simp; exact HM.out
          try simp only [Act.put, List.setIfInBounds_toArray, List.set_cons_zero, List.set_cons_succ]
          refine wpAnyH_take (i := 11) (oi := ⟨some 38, Op.indexAddr 23 (Operand.tmp 35) (Operand.tmp 37), 0, _, _, _⟩) (v := ?v11y) rfl (by kernel_rfl) (by kernel_rfl) (by kernel_rfl) (fun _ _ _ h => h) (Or.inl ⟨by rfl, ?hy11y⟩) hHeld ?rest11y
          case hy11y => intro w9 hSw; go_simp; (try with_reducible rfl)
          try simp only [Act.put, List.setIfInBounds_toArray, List.set_cons_zero, List.set_cons_succ]
          refine wpAnyH_take (i := 12) (oi := ⟨some 39, Op.fieldAddr 26 (Operand.tmp 38) 1, 0, _, _, _⟩) (v := ?v12y) rfl (by kernel_rfl) (by kernel_rfl) (by kernel_rfl) (fun _ _ _ h => h) (Or.inl ⟨by rfl, ?hy12y⟩) hHeld ?rest12y
          case hy12y => intro w9 hSw; go_simp; (try with_reducible rfl)
          try simp only [Act.put, List.setIfInBounds_toArray, List.set_cons_zero, List.set_cons_succ]
          refine wpAnyH_take (i := 13) (oi := ⟨some 40, Op.load 2 (Operand.tmp 39), 2, _, _, _⟩) (v := ?v13y) rfl (by kernel_rfl) (by kernel_rfl) (by kernel_rfl) (fun _ _ _ h => h) (Or.inl ⟨by rfl, ?hy13y⟩) hHeld ?rest13y
          case hy13y => intro w9 hSw; have c0 := cell_later g1 hSw; go_simp; (try with_reducible rfl)
          try simp only [Act.put, List.setIfInBounds_toArray, List.set_cons_zero, List.set_cons_succ]
          refine wpAnyH_take (i := 14) (oi := ⟨some 41, Op.binOp BinOp.lss 2 (Operand.tmp 34) (Operand.tmp 40) 2, 4, _, _, _⟩) (v := ?v14y) rfl (by kernel_rfl) (by kernel_rfl) (by kernel_rfl) (fun _ _ _ h => h) (Or.inl ⟨by rfl, ?hy14y⟩) hHeld ?rest14y
          case hy14y => intro w9 hSw; go_simp; (try with_reducible rfl)
          try simp only [Act.put, List.setIfInBounds_toArray, List.set_cons_zero, List.set_cons_succ]
          refine wpAnyH_take (i := 15) (oi := ⟨some 42, Op.pick (Operand.tmp 29) (Operand.tmp 41) (Operand.const (Value.bool false)), 4, _, _, _⟩) (v := ?v15y) rfl (by kernel_rfl) (by kernel_rfl) (by kernel_rfl) (fun _ _ _ h => h) (Or.inl ⟨by rfl, ?hy15y⟩) hHeld ?rest15y
          case hy15y => intro w9 hSw; go_simp; (try with_reducible rfl)
          try simp only [Act.put, List.setIfInBounds_toArray, List.set_cons_zero, List.set_cons_succ]
          refine wpAnyH_done (by kernel_rfl) ?_ _
          refine NoPanic.normal ?_
          clear g1 q1 HM
          by_cases hlt : (E k).t < (E p).t
          · have hbad : badAt n Q E k = 11 := by
              unfold badAt
              rw [if_pos HY.out.symm, if_pos ⟨hk0, HPP.out ▸ hlt⟩]
            have hki : k = i := by
              rcases Nat.lt_or_ge k i with h | h
              · have := HB.out k h; omega
              · omega
            subst hki
            have hc : c = 11 := (H1.out hkm).1.trans hbad
            subst hc
            clear hbad
            go_wp2
            try rw [Exit.noGoto_ret]
            exact bodyPost_ret (v := .tuple #[.int .i64 k, .int .i64 11]) (by simp [results, Try.results8, go_sem]) rfl ⟨rfl, bt hBW.out hT⟩
          · have hbad : badAt n Q E k = 0 := by
              unfold badAt
              rw [if_pos HY.out.symm, if_neg (by rw [← HPP.out]; intro h; exact hlt h.2)]
            have hki : k < i := by
              rcases Nat.lt_or_ge k i with h | h
              · exact h
              · have e1 : k = i := by omega
                subst e1
                exact absurd ((H1.out hkm).1.trans hbad) (H1.out hkm).2
            clear hbad
            go_wp2
            go_roundw
            case rel => exact ⟨k + 1, by omega, by go_num, bt hBW.out hT⟩
            case measure => simp [intOf]; omega
        · have hk1 : ¬ (k : Int) > 0 := by omega
          have hbad : badAt n Q E k = 0 := by
            unfold badAt
            rw [if_pos HY.out.symm, if_neg (by intro h; exact hk0 h.1)]
          have hki : k < i := by
            rcases Nat.lt_or_ge k i with h | h
            · exact h
            · have e1 : k = i := by omega
              subst e1
              exact absurd ((H1.out hkm).1.trans hbad) (H1.out hkm).2
          have HKI : Hid (k < i) := hki
          clear hbad g1 q1
          refine wp_region_noPanic ?_
          refine wp_region_held_drew (S := fun w' => Below W.heap.size W w') (by kernel_rfl) ((Below.refl _ _).drew) (fun hHeld => ?_)
          have hT : Below W.heap.size W W.drew := hHeld
          obtain ⟨d, hd⟩ : ∃ d, d = W.drew := ⟨_, rfl⟩
          rw [← hd] at hHeld hT ⊢
          clear hd
          refine wpAnyH_take (i := 0) (oi := ⟨some 27, Op.move (Operand.tmp 6), 3, _, _, _⟩) (v := ?v0n) rfl (by kernel_rfl) (by kernel_rfl) (by kernel_rfl) (fun _ _ _ h => h) (Or.inl ⟨by rfl, ?hy0n⟩) hHeld ?rest0n
          case hy0n => intro w9 hSw; go_simp; (try with_reducible rfl)
          try simp only [Act.put, List.setIfInBounds_toArray, List.set_cons_zero, List.set_cons_succ]
          refine wpAnyH_take (i := 1) (oi := ⟨some 28, Op.binOp BinOp.gtr 3 (Operand.tmp 27) (Operand.const (Value.int IntKind.i64 0)) 3, 4, _, _, _⟩) (v := ?v1n) rfl (by kernel_rfl) (by kernel_rfl) (by kernel_rfl) (fun _ _ _ h => h) (Or.inl ⟨by rfl, ?hy1n⟩) hHeld ?rest1n
          case hy1n => intro w9 hSw; go_simp; (try with_reducible rfl)
          try simp only [Act.put, List.setIfInBounds_toArray, List.set_cons_zero, List.set_cons_succ]
          refine wpAnyH_take (i := 2) (oi := ⟨some 29, Op.move (Operand.tmp 28), 4, _, _, _⟩) (v := ?v2n) rfl (by kernel_rfl) (by kernel_rfl) (by kernel_rfl) (fun _ _ _ h => h) (Or.inl ⟨by rfl, ?hy2n⟩) hHeld ?rest2n
          case hy2n => intro w9 hSw; go_simp; (try with_reducible rfl)
          try simp only [Act.put, List.setIfInBounds_toArray, List.set_cons_zero, List.set_cons_succ]
          refine wpAnyH_take (i := 3) (oi := ⟨some 30, Op.move (Operand.tmp 1), 23, _, _, _⟩) (v := undef) rfl (by kernel_rfl) (by kernel_rfl) (by kernel_rfl) (fun _ _ _ h => h) (Or.inr ⟨by rfl, rfl⟩) hHeld ?rest3n
          try simp only [Act.put, List.setIfInBounds_toArray, List.set_cons_zero, List.set_cons_succ]
          refine wpAnyH_take (i := 4) (oi := ⟨some 31, Op.move (Operand.tmp 6), 3, _, _, _⟩) (v := undef) rfl (by kernel_rfl) (by kernel_rfl) (by kernel_rfl) (fun _ _ _ h => h) (Or.inr ⟨by rfl, rfl⟩) hHeld ?rest4n
          try simp only [Act.put, List.setIfInBounds_toArray, List.set_cons_zero, List.set_cons_succ]
          refine wpAnyH_take (i := 5) (oi := ⟨some 32, Op.indexAddr 23 (Operand.tmp 30) (Operand.tmp 31), 0, _, _, _⟩) (v := undef) rfl (by kernel_rfl) (by kernel_rfl) (by kernel_rfl) (fun _ _ _ h => h) (Or.inr ⟨by rfl, rfl⟩) hHeld ?rest5n
          try simp only [Act.put, List.setIfInBounds_toArray, List.set_cons_zero, List.set_cons_succ]
          refine wpAnyH_take (i := 6) (oi := ⟨some 33, Op.fieldAddr 26 (Operand.tmp 32) 1, 0, _, _, _⟩) (v := undef) rfl (by kernel_rfl) (by kernel_rfl) (by kernel_rfl) (fun _ _ _ h => h) (Or.inr ⟨by rfl, rfl⟩) hHeld ?rest6n
          try simp only [Act.put, List.setIfInBounds_toArray, List.set_cons_zero, List.set_cons_succ]
          refine wpAnyH_take (i := 7) (oi := ⟨some 34, Op.load 2 (Operand.tmp 33), 2, _, _, _⟩) (v := undef) rfl (by kernel_rfl) (by kernel_rfl) (by kernel_rfl) (fun _ _ _ h => h) (Or.inr ⟨by rfl, rfl⟩) hHeld ?rest7n
          try simp only [Act.put, List.setIfInBounds_toArray, List.set_cons_zero, List.set_cons_succ]
          refine wpAnyH_take (i := 8) (oi := ⟨some 35, Op.move (Operand.tmp 1), 23, _, _, _⟩) (v := undef) rfl (by kernel_rfl) (by kernel_rfl) (by kernel_rfl) (fun _ _ _ h => h) (Or.inr ⟨by rfl, rfl⟩) hHeld ?rest8n
          try simp only [Act.put, List.setIfInBounds_toArray, List.set_cons_zero, List.set_cons_succ]
          refine wpAnyH_take (i := 9) (oi := ⟨some 36, Op.move (Operand.tmp 6), 3, _, _, _⟩) (v := undef) rfl (by kernel_rfl) (by kernel_rfl) (by kernel_rfl) (fun _ _ _ h => h) (Or.inr ⟨by rfl, rfl⟩) hHeld ?rest9n
          try simp only [Act.put, List.setIfInBounds_toArray, List.set_cons_zero, List.set_cons_succ]
          refine wpAnyH_take (i := 10) (oi := ⟨some 37, Op.binOp BinOp.sub 3 (Operand.tmp 36) (Operand.const (Value.int IntKind.i64 1)) 3, 3, _, _, _⟩) (v := undef) rfl (by kernel_rfl) (by kernel_rfl) (by kernel_rfl) (fun _ _ _ h => h) (Or.inr ⟨by rfl, rfl⟩) hHeld ?rest10n
          try simp only [Act.put, List.setIfInBounds_toArray, List.set_cons_zero, List.set_cons_succ]
          refine wpAnyH_take (i := 11) (oi := ⟨some 38, Op.indexAddr 23 (Operand.tmp 35) (Operand.tmp 37), 0, _, _, _⟩) (v := undef) rfl (by kernel_rfl) (by kernel_rfl) (by kernel_rfl) (fun _ _ _ h => h) (Or.inr ⟨by rfl, rfl⟩) hHeld ?rest11n
          try simp only [Act.put, List.setIfInBounds_toArray, List.set_cons_zero, List.set_cons_succ]
          refine wpAnyH_take (i := 12) (oi := ⟨some 39, Op.fieldAddr 26 (Operand.tmp 38) 1, 0, _, _, _⟩) (v := undef) rfl (by kernel_rfl) (by kernel_rfl) (by kernel_rfl) (fun _ _ _ h => h) (Or.inr ⟨by rfl, rfl⟩) hHeld ?rest12n
          try simp only [Act.put, List.setIfInBounds_toArray, List.set_cons_zero, List.set_cons_succ]
          refine wpAnyH_take (i := 13) (oi := ⟨some 40, Op.load 2 (Operand.tmp 39), 2, _, _, _⟩) (v := undef) rfl (by kernel_rfl) (by kernel_rfl) (by kernel_rfl) (fun _ _ _ h => h) (Or.inr ⟨by rfl, rfl⟩) hHeld ?rest13n
          try simp only [Act.put, List.setIfInBounds_toArray, List.set_cons_zero, List.set_cons_succ]
          refine wpAnyH_take (i := 14) (oi := ⟨some 41, Op.binOp BinOp.lss 2 (Operand.tmp 34) (Operand.tmp 40) 2, 4, _, _, _⟩) (v := undef) rfl (by kernel_rfl) (by kernel_rfl) (by kernel_rfl) (fun _ _ _ h => h) (Or.inr ⟨by rfl, rfl⟩) hHeld ?rest14n
          try simp only [Act.put, List.setIfInBounds_toArray, List.set_cons_zero, List.set_cons_succ]
          refine wpAnyH_take (i := 15) (oi := ⟨some 42, Op.pick (Operand.tmp 29) (Operand.tmp 41) (Operand.const (Value.bool false)), 4, _, _, _⟩) (v := ?v15n) rfl (by kernel_rfl) (by kernel_rfl) (by kernel_rfl) (fun _ _ _ h => h) (Or.inl ⟨by rfl, ?hy15n⟩) hHeld ?rest15n
          case hy15n => intro w9 hSw; go_simp; (try with_reducible rfl)
          try simp only [Act.put, List.setIfInBounds_toArray, List.set_cons_zero, List.set_cons_succ]
          refine wpAnyH_done (by kernel_rfl) ?_ _
          refine NoPanic.normal ?_
          go_wp2
          go_roundw
          case rel => exact ⟨k + 1, HKI.out, by go_num, bt hBW.out hT⟩
          case measure => simp [intOf]; omega
      · have hy1 : (y == 0) = false := by simpa using hy
        have hbad : badAt n Q E k = y := by
          unfold badAt
          rw [← HY.out, if_neg hy]
        have hki : k = i := by
          rcases Nat.lt_or_ge k i with h | h
          · have := HB.out k h; omega
          · omega
        subst hki
        have hc : c = y := (H1.out hkm).1.trans hbad
        subst hc
        clear hbad HY
        go_wp2_with (first | (go_at_call 14; refine C6.out.mono ?_; rintro e W ⟨rfl, hB7⟩))
        try rw [Exit.noGoto_ret]
        exact bodyPost_ret (v := .tuple #[.int .i64 k, .int .i64 c]) (by simp [results, Try.results8, go_sem]) rfl ⟨rfl, bt hB hB7⟩
    · obtain rfl : k = m := by omega
      obtain rfl : k = i := by omega
      have hc : c = 0 := H2.out rfl
      subst hc
      go_wp2
      exact bodyPost_ret (v := .tuple #[.int .i64 k, .int .i64 0]) (by simp [results, Try.results8, go_sem]) rfl ⟨rfl, hB⟩
/-- Stream and the document's tell the same. -/
theorem both_stream (a : Option Addr) (n cap : Nat) (Q : Nat → Sch) (sa : Option Addr) (m sc : Nat) (E : Nat → Evt) (w : World) (H : Schs w a n Q) (hn : n ≤ 9223372036854775807) (HE : Evts w sa m E) :
    ∃ (i c : Int), (∀ d, Below w.heap.size w d → Calls Try.prog 7 #[.slice a n cap, .slice sa m sc] d fun e w' => e = .returned (.tuple #[.int .i64 i, .int .i64 c]) ∧ Below d.heap.size d w') ∧
      ∀ d, Below w.heap.size w d → Calls Try.prog 8 #[.slice a n cap, .slice sa m sc] d fun e w' => e = .returned (.tuple #[.int .i64 i, .int .i64 c]) ∧ Below d.heap.size d w' := by
  by_cases hm : m ≤ 4096
  · rcases bad_or (badAt n Q E) m with ⟨i, h2, h3, h4⟩ | h4
    · exact ⟨i, badAt n Q E i, fun d hd => stream_few a n cap Q sa m sc E d (H.later hd) hn (HE.later hd) hm i _ (by omega) h4 (fun _ => ⟨rfl, h3⟩) (by omega), fun d hd => refStream_few a n cap Q sa m sc E d (H.later hd) hn (HE.later hd) hm i _ (by omega) h4 (fun _ => ⟨rfl, h3⟩) (by omega)⟩
    · exact ⟨m, 0, fun d hd => stream_few a n cap Q sa m sc E d (H.later hd) hn (HE.later hd) hm m 0 (by omega) h4 (by omega) (fun _ => rfl), fun d hd => refStream_few a n cap Q sa m sc E d (H.later hd) hn (HE.later hd) hm m 0 (by omega) h4 (by omega) (fun _ => rfl)⟩
  · exact ⟨0, 2, fun d _ => stream_long a n cap sa m sc d hm, fun d _ => refStream_long a n cap sa m sc d hm⟩
end Go.Proofs.Ytelabjipclfpnaa
