/-
  EventBegins' walk (P8.3): a beginning of a stream is one.
-/
import Derived.Test.YtelabjipclfpnaaEvStream
import Derived.Test.YtelabjipclfpnaaEvAwake
namespace Go.Proofs.Ytelabjipclfpnaa
open Go.RowKit

set_option maxRecDepth 100000 in
set_option maxHeartbeats 2000000 in
theorem begins_big (a : Option Addr) (n cap : Nat) (sa : Option Addr) (m sc : Nat) (u : Int) (w : World) (hm : ¬ m ≤ 200) :
    Calls Try.prog 4 #[.slice a n cap, .slice sa m sc, .int .u16 u] w fun e w' => e = .returned (.bool true) ∧ Below w.heap.size w w' := by
  have h : 200 < (m : Int) := by omega
  go_enter Try.func4, Try.ntmps4
  go_wp2_with (first | (go_at_call 6; refine (awake_any _).mono ?_; rintro e w1 ⟨rfl, hB1⟩))
  go_ret
  exact ⟨rfl, hB1⟩
set_option maxRecDepth 100000 in
set_option maxHeartbeats 4000000 in
theorem begins_bad (a : Option Addr) (n cap : Nat) (sa : Option Addr) (m sc : Nat) (u : Nat) (hu : u < 65536) (k i : Nat) (c f : Int) (q : Int) (w : World) (hm : m ≤ 200) (hmc : m ≤ sc) (hk : k = u % (m + 1)) (hi : i < m) (hc : ¬ c = 0)
    (c1 : ∀ d, Below w.heap.size w d → Calls Try.prog 7 #[.slice a n cap, .slice sa m sc] d fun e w' => e = .returned (.tuple #[.int .i64 i, .int .i64 c]) ∧ Below d.heap.size d w')
    (c2 : ∀ d, Below w.heap.size w d → Calls Try.prog 7 #[.slice a n cap, .slice sa k sc] d fun e w' => e = .returned (.tuple #[.int .i64 q, .int .i64 f]) ∧ Below d.heap.size d w') (hf : (f == 0) = decide ((k : Int) ≤ i)) :
    Calls Try.prog 4 #[.slice a n cap, .slice sa m sc, .int .u16 u] w fun e w' => e = .returned (.bool true) ∧ Below w.heap.size w w' := by
  have h : ¬ 200 < (m : Int) := by omega
  have hk2 : k ≤ m := by have := Nat.mod_lt u (show 0 < m + 1 by omega); omega
  have hc1 : (c == 0) = false := by simpa using hc
  have HK : Hid (k = u % (m + 1)) := hk
  have C1 : Hid (∀ d, _ → Calls Try.prog 7 _ d _) := c1
  have C2 : Hid (∀ d, _ → Calls Try.prog 7 _ d _) := c2
  clear c1 c2 hk hc
  go_enter Try.func4, Try.ntmps4
  go_upto_region 4 with fail
  have hke : (u : Int) % ((m : Int) + 1) = (k : Int) := by rw [HK.out]; simp
  rw [hke]
  clear hke HK
  go_upto_region 5 with (first | (go_at_call 7; refine (C1.out _ (Below.refl _ _)).mono ?_; rintro e w1 ⟨rfl, hB1⟩))
  clear C1
  go_wp2_with (first
    | (go_at_call 7; refine (C2.out _ hB1).mono ?_; rintro e w2 ⟨rfl, hB2⟩)
    | (go_at_call 6; refine (awake_any _).mono ?_; rintro e w3 ⟨rfl, hB3⟩))
  go_ret
  exact ⟨rfl, bt (bt hB1 hB2) hB3⟩
set_option maxRecDepth 100000 in
set_option maxHeartbeats 4000000 in
theorem begins_ok (a : Option Addr) (n cap : Nat) (sa : Option Addr) (m sc : Nat) (E : Nat → Evt) (u : Nat) (hu : u < 65536) (k : Nat) (w : World) (HE : Evts w sa m E) (hm : m ≤ 200) (hmc : m ≤ sc) (hk : k = u % (m + 1)) (ht : ∀ j, j + 1 < m → ¬ (E (j + 1)).t < (E j).t)
    (c1 : ∀ d, Below w.heap.size w d → Calls Try.prog 7 #[.slice a n cap, .slice sa m sc] d fun e w' => e = .returned (.tuple #[.int .i64 m, .int .i64 0]) ∧ Below d.heap.size d w')
    (c2 : ∀ d, Below w.heap.size w d → Calls Try.prog 7 #[.slice a n cap, .slice sa k sc] d fun e w' => e = .returned (.tuple #[.int .i64 k, .int .i64 0]) ∧ Below d.heap.size d w') :
    Calls Try.prog 4 #[.slice a n cap, .slice sa m sc, .int .u16 u] w fun e w' => e = .returned (.bool true) ∧ Below w.heap.size w w' := by
  have h : ¬ 200 < (m : Int) := by omega
  have hk2 : k ≤ m := by have := Nat.mod_lt u (show 0 < m + 1 by omega); omega
  have HK : Hid (k = u % (m + 1)) := hk
  have HV : Hid (Evts w sa m E) := HE
  have HL : Hid (∀ j, j + 1 < m → ¬ (E (j + 1)).t < (E j).t) := ht
  have C1 : Hid (∀ d, _ → Calls Try.prog 7 _ d _) := c1
  have C2 : Hid (∀ d, _ → Calls Try.prog 7 _ d _) := c2
  clear c1 c2 hk ht HE
  go_enter Try.func4, Try.ntmps4
  go_upto_region 4 with fail
  have hke : (u : Int) % ((m : Int) + 1) = (k : Int) := by rw [HK.out]; simp
  rw [hke]
  clear hke HK
  go_upto_region 5 with (first | (go_at_call 7; refine (C1.out _ (Below.refl _ _)).mono ?_; rintro e w1 ⟨rfl, hB1⟩))
  clear C1
  go_wp2_with (first | (go_at_call 7; refine (C2.out _ hB1).mono ?_; rintro e w2 ⟨rfl, hB2⟩))
  clear C2
  go_loopw [12] (fun v wr => ∃ q : Nat, 1 ≤ q ∧ v = .int .i64 q ∧ Below w.heap.size w wr) (fun v _ => m - (intOf v).toNat)
  case atStart => exact ⟨1, Nat.le_refl _, rfl, bt hB1 hB2⟩
  case round =>
    clear hB1 hB2
    obtain ⟨q, hq, rfl, hB⟩ := hrel
    by_cases hqm : q < m
    · obtain ⟨b, off, rfl, hc⟩ := (HV.out.later hB).1 (by omega)
      obtain ⟨j, hj⟩ : ∃ j, q = j + 1 := ⟨q - 1, by omega⟩
      have g1 := (hc q hqm).2.1
      have p1 := (hc j (by omega)).2.1
      have hw : IntKind.i64.wrap ((q : Int) - 1) = (j : Int) := by rw [IntKind.wrap_i64]; omega
      have HM : Hid (IntKind.i64.wrap ((q : Int) - 1) = (j : Int)) := hw
      have hlt : ¬ (E q).t < (E j).t := by have := HL.out j (by omega); rw [hj]; omega
      have hjl : j < m := by omega
      clear hc hw hj
      go_wp2_with fail
      refine wp_region_noPanic ?_
      refine wp_region_held_drew (S := fun w' => Below wr.heap.size wr w') (by kernel_rfl) ((Below.refl _ _).drew) (fun hHeld => ?_)
      have hT : Below wr.heap.size wr wr.drew := hHeld
      obtain ⟨d, hd⟩ : ∃ d, d = wr.drew := ⟨_, rfl⟩
      rw [← hd] at hHeld hT ⊢
      clear hd
      refine wpAnyH_take (i := 0) (oi := ⟨some 64, Op.move (Operand.tmp 1), 23, _, _, _⟩) (v := ?v0) rfl (by kernel_rfl) (by kernel_rfl) (by kernel_rfl) (fun _ _ _ h => h) (Or.inl ⟨by rfl, ?hy0⟩) hHeld ?rest0
      case hy0 => intro w9 hSw; go_simp; (try with_reducible rfl)
      try simp only [Act.put, List.setIfInBounds_toArray, List.set_cons_zero, List.set_cons_succ]
      refine wpAnyH_take (i := 1) (oi := ⟨some 65, Op.move (Operand.tmp 12), 3, _, _, _⟩) (v := ?v1) rfl (by kernel_rfl) (by kernel_rfl) (by kernel_rfl) (fun _ _ _ h => h) (Or.inl ⟨by rfl, ?hy1⟩) hHeld ?rest1
      case hy1 => intro w9 hSw; go_simp; (try with_reducible rfl)
      try simp only [Act.put, List.setIfInBounds_toArray, List.set_cons_zero, List.set_cons_succ]
      refine wpAnyH_take (i := 2) (oi := ⟨some 66, Op.indexAddr 23 (Operand.tmp 64) (Operand.tmp 65), 0, _, _, _⟩) (v := ?v2) rfl (by kernel_rfl) (by kernel_rfl) (by kernel_rfl) (fun _ _ _ h => h) (Or.inl ⟨by rfl, ?hy2⟩) hHeld ?rest2
      case hy2 => intro w9 hSw; go_simp; (try with_reducible rfl)
      try simp only [Act.put, List.setIfInBounds_toArray, List.set_cons_zero, List.set_cons_succ]
      refine wpAnyH_take (i := 3) (oi := ⟨some 67, Op.fieldAddr 26 (Operand.tmp 66) 1, 0, _, _, _⟩) (v := ?v3) rfl (by kernel_rfl) (by kernel_rfl) (by kernel_rfl) (fun _ _ _ h => h) (Or.inl ⟨by rfl, ?hy3⟩) hHeld ?rest3
      case hy3 => intro w9 hSw; go_simp; (try with_reducible rfl)
      try simp only [Act.put, List.setIfInBounds_toArray, List.set_cons_zero, List.set_cons_succ]
      refine wpAnyH_take (i := 4) (oi := ⟨some 68, Op.load 2 (Operand.tmp 67), 2, _, _, _⟩) (v := ?v4) rfl (by kernel_rfl) (by kernel_rfl) (by kernel_rfl) (fun _ _ _ h => h) (Or.inl ⟨by rfl, ?hy4⟩) hHeld ?rest4
      case hy4 => intro w9 hSw; have c0 := cell_later g1 hSw; go_simp; (try with_reducible rfl)
      try simp only [Act.put, List.setIfInBounds_toArray, List.set_cons_zero, List.set_cons_succ]
      refine wpAnyH_take (i := 5) (oi := ⟨some 69, Op.move (Operand.tmp 1), 23, _, _, _⟩) (v := ?v5) rfl (by kernel_rfl) (by kernel_rfl) (by kernel_rfl) (fun _ _ _ h => h) (Or.inl ⟨by rfl, ?hy5⟩) hHeld ?rest5
      case hy5 => intro w9 hSw; go_simp; (try with_reducible rfl)
      try simp only [Act.put, List.setIfInBounds_toArray, List.set_cons_zero, List.set_cons_succ]
      refine wpAnyH_take (i := 6) (oi := ⟨some 70, Op.move (Operand.tmp 12), 3, _, _, _⟩) (v := ?v6) rfl (by kernel_rfl) (by kernel_rfl) (by kernel_rfl) (fun _ _ _ h => h) (Or.inl ⟨by rfl, ?hy6⟩) hHeld ?rest6
      case hy6 => intro w9 hSw; go_simp; (try with_reducible rfl)
      try simp only [Act.put, List.setIfInBounds_toArray, List.set_cons_zero, List.set_cons_succ]
      refine wpAnyH_take (i := 7) (oi := ⟨some 71, Op.binOp BinOp.sub 3 (Operand.tmp 70) (Operand.const (Value.int IntKind.i64 1)) 3, 3, _, _, _⟩) (v := .int .i64 (j : Nat)) rfl (by kernel_rfl) (by kernel_rfl) (by kernel_rfl) (fun _ _ _ h => h) (Or.inl ⟨by rfl, ?hy7⟩) hHeld ?rest7
      case hy7 => intro w9 hSw; go_simp; exact HM.out
      try simp only [Act.put, List.setIfInBounds_toArray, List.set_cons_zero, List.set_cons_succ]
      refine wpAnyH_take (i := 8) (oi := ⟨some 72, Op.indexAddr 23 (Operand.tmp 69) (Operand.tmp 71), 0, _, _, _⟩) (v := ?v8) rfl (by kernel_rfl) (by kernel_rfl) (by kernel_rfl) (fun _ _ _ h => h) (Or.inl ⟨by rfl, ?hy8⟩) hHeld ?rest8
      case hy8 => intro w9 hSw; go_simp; (try with_reducible rfl)
      try simp only [Act.put, List.setIfInBounds_toArray, List.set_cons_zero, List.set_cons_succ]
      refine wpAnyH_take (i := 9) (oi := ⟨some 73, Op.fieldAddr 26 (Operand.tmp 72) 1, 0, _, _, _⟩) (v := ?v9) rfl (by kernel_rfl) (by kernel_rfl) (by kernel_rfl) (fun _ _ _ h => h) (Or.inl ⟨by rfl, ?hy9⟩) hHeld ?rest9
      case hy9 => intro w9 hSw; go_simp; (try with_reducible rfl)
      try simp only [Act.put, List.setIfInBounds_toArray, List.set_cons_zero, List.set_cons_succ]
      refine wpAnyH_take (i := 10) (oi := ⟨some 74, Op.load 2 (Operand.tmp 73), 2, _, _, _⟩) (v := ?v10) rfl (by kernel_rfl) (by kernel_rfl) (by kernel_rfl) (fun _ _ _ h => h) (Or.inl ⟨by rfl, ?hy10⟩) hHeld ?rest10
      case hy10 => intro w9 hSw; have c0 := cell_later p1 hSw; go_simp; (try with_reducible rfl)
      try simp only [Act.put, List.setIfInBounds_toArray, List.set_cons_zero, List.set_cons_succ]
      refine wpAnyH_take (i := 11) (oi := ⟨some 75, Op.binOp BinOp.lss 2 (Operand.tmp 68) (Operand.tmp 74) 2, 4, _, _, _⟩) (v := ?v11) rfl (by kernel_rfl) (by kernel_rfl) (by kernel_rfl) (fun _ _ _ h => h) (Or.inl ⟨by rfl, ?hy11⟩) hHeld ?rest11
      case hy11 => intro w9 hSw; go_simp; (try with_reducible rfl)
      try simp only [Act.put, List.setIfInBounds_toArray, List.set_cons_zero, List.set_cons_succ]
      refine wpAnyH_done (by kernel_rfl) ?_ _
      refine NoPanic.normal ?_
      go_wp2
      go_roundw
      case rel => exact ⟨q + 1, by omega, by go_num, bt hB hT⟩
      case measure => simp [intOf]; omega
    · go_wp2_with (first | (go_at_call 6; refine (awake_any _).mono ?_; rintro e w3 ⟨rfl, hB3⟩))
      go_ret
      exact ⟨rfl, bt hB hB3⟩
theorem eventBegins_walk (a : Option Addr) (n cap : Nat) (Q : Nat → Sch) (sa : Option Addr) (m sc : Nat) (E : Nat → Evt) (u : Int) (w : World) (H : Schs w a n Q) (hn : n ≤ 9223372036854775807) (HE : Evts w sa m E) (hmc : m ≤ sc) (h0 : 0 ≤ u) (h1 : u < 65536) :
    Calls Try.prog 4 #[.slice a n cap, .slice sa m sc, .int .u16 u] w fun e w' => e = .returned (.bool true) ∧ Below w.heap.size w w' := by
  by_cases hm : m ≤ 200
  · obtain ⟨v, rfl⟩ : ∃ v : Nat, u = (v : Int) := ⟨u.toNat, by omega⟩
    obtain ⟨k, hk⟩ : ∃ k, k = v % (m + 1) := ⟨_, rfl⟩
    have hk2 : k ≤ m := by have := Nat.mod_lt v (show 0 < m + 1 by omega); omega
    rcases bad_or (badAt n Q E) m with ⟨i, h2, h3, h4⟩ | h4
    · have c1 := fun d hd => stream_few a n cap Q sa m sc E d (H.later (w' := d) hd) hn (HE.later hd) (by omega) i _ (by omega) h4 (fun _ => ⟨rfl, h3⟩) (by omega)
      by_cases hki : k ≤ i
      · exact begins_bad a n cap sa m sc v (by omega) k i _ 0 k w hm hmc hk h2 h3 c1 (fun d hd => stream_few a n cap Q sa k sc E d (H.later hd) hn ((HE.part hk2).later hd) (by omega) k 0 (by omega) (fun j hj => h4 j (by omega)) (by omega) (fun _ => rfl)) (by rw [decide_eq_true (by omega)]; rfl)
      · exact begins_bad a n cap sa m sc v (by omega) k i _ (badAt n Q E i) i w hm hmc hk h2 h3 c1 (fun d hd => stream_few a n cap Q sa k sc E d (H.later hd) hn ((HE.part hk2).later hd) (by omega) i _ (by omega) h4 (fun _ => ⟨rfl, h3⟩) (by omega)) (by rw [decide_eq_false (by omega)]; simpa using h3)
    · refine begins_ok a n cap sa m sc E v (by omega) k w HE hm hmc hk (fun j hj hlt => ?_) (fun d hd => stream_few a n cap Q sa m sc E d (H.later hd) hn (HE.later hd) (by omega) m 0 (by omega) h4 (by omega) (fun _ => rfl)) (fun d hd => stream_few a n cap Q sa k sc E d (H.later hd) hn ((HE.part hk2).later hd) (by omega) k 0 (by omega) (fun j hj => h4 j (by omega)) (by omega) (fun _ => rfl))
      have := h4 (j + 1) hj
      unfold badAt at this
      split at this
      · rw [if_pos ⟨by omega, hlt⟩] at this
        omega
      · omega
  · exact begins_big a n cap sa m sc u w hm
end Go.Proofs.Ytelabjipclfpnaa
