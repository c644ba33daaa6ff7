/-
  The document's Sum: those of the other sign first.
-/
import Derived.Test.YtddeneaenhoegaaNumSum
import Derived.Test.YtddeneaenhoegaaHeld
namespace Go.Proofs.Ytddeneaenhoegaa
open Go.RowKit

theorem own_leI {w : World} {B B' e n : Nat} {v : Value} {xs : List Value} (h : w.ownsRow B e 1 v n xs) (hB : B' ≤ B) : w.ownsRow B' e 1 v n xs := by
  refine ⟨h.1, ?_⟩
  rcases h.2 with h2 | ⟨g, cap, cur, e1, hg, h3⟩
  · exact .inl h2
  · exact .inr ⟨g, cap, cur, e1, Nat.le_trans hB hg, h3⟩
theorem own_formI {w : World} {B e n : Nat} {v : Value} {xs : List Value} (h : w.ownsRow B e 1 v n xs) : ∃ a cap, v = .slice a n cap := by
  rcases h.2 with ⟨rfl, rfl⟩ | ⟨g, cap, cur, rfl, _⟩
  · exact ⟨_, _, rfl⟩
  · exact ⟨_, _, rfl⟩
def lenOf : Value → Nat | .slice _ n _ => n | _ => 0
theorem own_cells {w : World} {B n : Nat} {v : Value} {l : List Int} (h : w.ownsRow B 2 1 v n (cellsI l)) (h0 : 0 < n) (hb : ∀ c ∈ l, -9223372036854775808 ≤ c ∧ c < 9223372036854775808) :
    ∃ g cap, v = .slice (some ⟨g, 0, none⟩) n cap ∧ IsInts w (some ⟨g, 0, none⟩) n cap l := by
  obtain ⟨a, cap, rfl, hi⟩ := isInts_own h hb
  rcases h.2 with ⟨e, h1⟩ | ⟨g, c, cur, e, _⟩
  · omega
  · injection e with e1 _ e3
    subst e1 e3
    exact ⟨g, cap, rfl, hi⟩

theorem opp_more {S : Int} {l : List Int} {p k : Nat} (h : Opp S (l[p]?.getD 0) ∨ ∀ j, j < k → ¬ Opp S (l[j]?.getD 0)) (hk : ¬ Opp S (l[k]?.getD 0)) : Opp S (l[p]?.getD 0) ∨ ∀ j, j < k + 1 → ¬ Opp S (l[j]?.getD 0) :=
  h.imp_right fun hq j hj => by
    by_cases h1 : j < k
    · exact hq j h1
    · rw [show j = k by omega]; exact hk

set_option maxRecDepth 100000 in
set_option maxHeartbeats 4000000 in
theorem refSum_any (a : Option Addr) (len cap : Nat) (zs : List Int) (w : World) (h : IsInts w a len cap zs) (hl : len ≤ 300) :
    Calls Try.prog 6 #[.slice a len cap] w fun e w' => e = .returned (.tuple #[.int .i64 (sumZ zs).1, .int .i64 (sumZ zs).2]) ∧ Below w.heap.size w w' := by
  have hz := h.1
  have hbz := h.2.2.2.2.1
  obtain ⟨v1, w1, r1, o1, hB1⟩ := copiedI h (by omega)
  have HR : Hid (_ = _) := r1
  have HO : Hid (w1.ownsRow w.heap.size 2 1 v1 len (cellsI zs)) := o1
  clear h r1 o1
  go_enter Try.func6, Try.ntmps6
  go_wp2_with (first | (at_builtin; refine wpList_append_runI rfl (.tmp 10) (.tmp 11) 22 rfl _ _ _ rfl rfl HR.out ?_))
  go_loopw [4, 5] (fun s v wr => ∃ (S : Int) (l : List Int) (n : Nat), s = .int .i64 S ∧ -9223372036854775808 ≤ S ∧ S < 9223372036854775808 ∧ n ≤ len ∧ Hid (l.length = n) ∧ Hid (∀ c ∈ l, -9223372036854775808 ≤ c ∧ c < 9223372036854775808) ∧ Hid (S + tot l = tot zs) ∧ Hid (wr.ownsRow w.heap.size 2 1 v n (cellsI l)) ∧ Below w.heap.size w wr) (fun _ v _ => lenOf v)
  case atStart => exact ⟨0, zs, len, rfl, by omega, by omega, by omega, hz, hbz, by show _ = _; omega, HO, hB1⟩
  case round =>
    obtain ⟨S, l, n, rfl, hS0, hS1, hll, HN, HB, HT, HOw, hB⟩ := hrel
    by_cases h0 : n = 0
    · subst h0
      have hl0 : l = [] := List.eq_nil_of_length_eq_zero HN.out
      subst hl0
      obtain ⟨a2, c2, rfl, _⟩ := isInts_own HOw.out HB.out
      have e : sumZ zs = (S, 0) := by
        have := HT.out
        simp only [tot] at this
        unfold sumZ
        rw [← this, if_pos (by omega)]
        simp
      have HZ : Hid (sumZ zs = _) := e
      clear e HOw
      go_wp2
      go_ret2
      exact ⟨tup2 (by rw [HZ.out]) (by rw [HZ.out]), hB⟩
    · obtain ⟨g, c2, rfl, hI⟩ := own_cells HOw.out (by omega) HB.out
      have hc2 := hI.2.1
      have hm2 := hI.2.2.1
      unfold maxLen at hm2
      have HI : Hid (IsInts wr (some ⟨g, 0, none⟩) n c2 l) := hI
      have HC : Hid (∀ j, j < n → wr.cell? ⟨g, j, none⟩ = some (.int .i64 (l[j]?.getD 0))) := by
        intro j hj
        obtain ⟨b, off, e, hc⟩ := hI.2.2.2.2.2 (by omega)
        cases e
        simpa using hc j hj
      clear hI
      have h0' : (0 : Int) < (n : Int) := by omega
      go_wp2
      go_loop [6, 7] (fun av iv => ∃ (p k : Nat), av = .int .i64 p ∧ iv = .int .i64 k ∧ k ≤ n ∧ p < n ∧ Hid (Opp S (l[p]?.getD 0) ∨ ∀ j, j < k → ¬ Opp S (l[j]?.getD 0))) (fun _ iv => n - (intOf iv).toNat)
      case atStart => exact ⟨0, 0, rfl, rfl, by omega, by omega, .inr fun j hj => by omega⟩
      case round =>
        obtain ⟨p, k, rfl, rfl, hk, hp, HP⟩ := hrel
        by_cases hlt : k < n
        · have hlt' : (k : Int) < (n : Int) := by omega
          have hcell := HC.out k hlt
          obtain ⟨x, hx⟩ : ∃ x, l[k]?.getD 0 = x := ⟨_, rfl⟩
          have HX : Hid (l[k]?.getD 0 = x) := hx
          rw [hx] at hcell
          clear hx
          by_cases hs : 0 < S
          · by_cases hx0 : x < 0
            · go_wp2
              go_round
              case rel => exact ⟨k, k + 1, rfl, by go_num, by omega, hlt, .inl (by rw [HX.out]; exact .inl ⟨hs, hx0⟩)⟩
              case measure => simp [intOf]; omega
            · go_wp2
              go_round
              case rel => exact ⟨p, rfl, k + 1, by go_num, by omega, hp, opp_more HP.out (by rw [HX.out]; unfold Opp; omega)⟩
              case measure => simp [intOf]; omega
          · by_cases hx0 : 0 < x
            · go_wp2
              go_round
              case rel => exact ⟨k, rfl, k + 1, by go_num, by omega, hlt, .inl (by rw [HX.out]; exact .inr ⟨by omega, hx0⟩)⟩
              case measure => simp [intOf]; omega
            · go_wp2
              go_round
              case rel => exact ⟨p, rfl, k + 1, by go_num, by omega, hp, opp_more HP.out (by rw [HX.out]; unfold Opp; omega)⟩
              case measure => simp [intOf]; omega
        · have hge : ¬ (k : Int) < (n : Int) := by omega
          obtain rfl : k = n := by omega
          have hcell := HC.out p hp
          have hp' : (p : Int) < (k : Int) := by omega
          obtain ⟨x, hx⟩ : ∃ x, l[p]?.getD 0 = x := ⟨_, rfl⟩
          have hpl : p < l.length := by have := HN.out; omega
          have hxb := HB.out x (by rw [← hx]; simp [hpl])
          have HX : Hid (l[p]?.getD 0 = x) := hx
          rw [hx] at hcell
          clear hx
          by_cases hf : -9223372036854775808 ≤ S + x ∧ S + x < 9223372036854775808
          · have c := refAdd_any S x wr hS0 hS1 hxb.1 hxb.2
            rw [add_fits S x hf] at c
            have C1 : Hid (Calls Try.prog 10 _ _ _) := c
            clear c
            go_wp2_with (first | (go_at_call 10; refine C1.out.mono ?_; rintro e w2 ⟨rfl, hw2⟩; replace hw2 := hw2.symm; subst hw2))
            obtain ⟨X, hX⟩ : ∃ X : Addr, X = if c2 = p + 1 then ⟨g, 0, none⟩ else ⟨g, p + 1, none⟩ := ⟨_, rfl⟩
            have i1 := isInts_part HI.out 0 p ⟨g, 0, none⟩ (by omega) (by omega) (fun _ => rfl)
            have i2 := isInts_part HI.out (p + 1) k X (by omega) (by omega) (fun hq => by rw [hX, if_neg (by omega), Nat.zero_add])
            simp only [Nat.sub_zero, List.drop_zero] at i1
            have I1 : Hid (IsInts wr (some ⟨g, 0, none⟩) p c2 (l.take p)) := i1
            have I2 : Hid (IsInts wr (some X) (k - (p + 1)) (c2 - (p + 1)) ((l.drop (p + 1)).take (k - (p + 1)))) := i2
            have HXa : Hid (X = if c2 = p + 1 then ⟨g, 0, none⟩ else ⟨g, p + 1, none⟩) := hX
            clear i1 i2 hX
            refine wp_region_noPanic ?_
            refine wp_region_held_drew (S := fun w' => Below wr.heap.size wr w') (by kernel_rfl) ((Below.refl _ _).drew) (fun hHeld => ?_)
            obtain ⟨d, hd⟩ : ∃ d, d = wr.drew := ⟨_, rfl⟩
            rw [← hd] at hHeld ⊢
            clear hd
            have hd0 := hHeld.size
            obtain ⟨v4, w4, r4, o4, hB4⟩ := copiedI (I1.out.later hHeld) (by omega)
            obtain ⟨v5, w5, r5, o5, g5⟩ := append_ints o4 (I2.out.later (hHeld.trans (hB4.mono hHeld.size))) hB4.size (by omega)
            have hB5 := hB4.grown g5 hB4.size (fun q hq => (o4.lt q hq).1)
            have HR4 : Hid (_ = _) := r4
            have HR5 : Hid (_ = _) := r5
            have HO5 : Hid (World.ownsRow _ _ _ _ _ _ _) := o5
            clear r4 r5 o5 o4
            refine wpAnyH_take (i := 1) (oi := ⟨some 57, Op.move (Operand.tmp 5), 22, _, _, _⟩) (v := ?v1) rfl (by kernel_rfl) (by kernel_rfl) (by kernel_rfl) (fun _ _ _ h => h) (Or.inl ⟨by rfl, ?hy1⟩) hHeld ?rest1
            case hy1 => intro w9 hSw; go_simp; (try with_reducible rfl)
            try simp only [Act.put, List.setIfInBounds_toArray, List.set_cons_zero, List.set_cons_succ]
            refine wpAnyH_take (i := 2) (oi := ⟨some 58, Op.move (Operand.tmp 6), 3, _, _, _⟩) (v := ?v2) rfl (by kernel_rfl) (by kernel_rfl) (by kernel_rfl) (fun _ _ _ h => h) (Or.inl ⟨by rfl, ?hy2⟩) hHeld ?rest2
            case hy2 => intro w9 hSw; go_simp; (try with_reducible rfl)
            try simp only [Act.put, List.setIfInBounds_toArray, List.set_cons_zero, List.set_cons_succ]
            refine wpAnyH_take (i := 3) (oi := ⟨some 59, Op.slice 22 (Operand.tmp 57) none (some (Operand.tmp 58)) none, 22, _, _, _⟩) (v := .slice (some ⟨g, 0, none⟩) p c2) rfl (by kernel_rfl) (by kernel_rfl) (by kernel_rfl) (fun _ _ _ h => h) (Or.inl ⟨by rfl, ?hy3⟩) hHeld ?rest3
            case hy3 => intro w9 hSw; go_simp; exact fun hq => absurd hq (by omega)
            try simp only [Act.put, List.setIfInBounds_toArray, List.set_cons_zero, List.set_cons_succ]
            refine wpAnyH_take (i := 5) (oi := ⟨some 61, Op.move (Operand.tmp 5), 22, _, _, _⟩) (v := ?v5) rfl (by kernel_rfl) (by kernel_rfl) (by kernel_rfl) (fun _ _ _ h => h) (Or.inl ⟨by rfl, ?hy5⟩) hHeld ?rest5
            case hy5 => intro w9 hSw; go_simp; (try with_reducible rfl)
            try simp only [Act.put, List.setIfInBounds_toArray, List.set_cons_zero, List.set_cons_succ]
            refine wpAnyH_take (i := 6) (oi := ⟨some 62, Op.move (Operand.tmp 6), 3, _, _, _⟩) (v := ?v6) rfl (by kernel_rfl) (by kernel_rfl) (by kernel_rfl) (fun _ _ _ h => h) (Or.inl ⟨by rfl, ?hy6⟩) hHeld ?rest6
            case hy6 => intro w9 hSw; go_simp; (try with_reducible rfl)
            try simp only [Act.put, List.setIfInBounds_toArray, List.set_cons_zero, List.set_cons_succ]
            refine wpAnyH_take (i := 7) (oi := ⟨some 63, Op.binOp BinOp.add 3 (Operand.tmp 62) (Operand.const (Value.int IntKind.i64 1)) 3, 3, _, _, _⟩) (v := ?v7) rfl (by kernel_rfl) (by kernel_rfl) (by kernel_rfl) (fun _ _ _ h => h) (Or.inl ⟨by rfl, ?hy7⟩) hHeld ?rest7
            case hy7 => intro w9 hSw; go_simp; (try with_reducible rfl)
            try simp only [Act.put, List.setIfInBounds_toArray, List.set_cons_zero, List.set_cons_succ]
            refine wpAnyH_take (i := 8) (oi := ⟨some 64, Op.slice 22 (Operand.tmp 61) (some (Operand.tmp 63)) none none, 22, _, _, _⟩) (v := .slice (some X) (k - (p + 1)) (c2 - (p + 1))) rfl (by kernel_rfl) (by kernel_rfl) (by kernel_rfl) (fun _ _ _ h => h) (Or.inl ⟨by rfl, ?hy8⟩) hHeld ?rest8
            case hy8 => intro w9 hSw; go_simp; rw [show IntKind.i64.wrap ((p : Int) + 1) = ((p + 1 : Nat) : Int) by rw [IntKind.wrap_i64]; omega, Int.toNat_natCast, if_pos (by omega), HXa.out]; split <;> rfl
            try simp only [Act.put, List.setIfInBounds_toArray, List.set_cons_zero, List.set_cons_succ]
            refine wpAnyH_ready (rs := [0]) (by kernel_rfl) (by simp) ?_
            refine AllReadyH.cons (o := ⟨some 56, Op.buildSlice 22 0 #[], 22, _, _, _⟩) rfl (fun K hK => ?_) AllReadyH.nil
            go_simp
            refine hK.out _ _ (hHeld.alloc hHeld.size _) (fun _ => ?_)
            clear hK K
            refine wpAnyH_ready (rs := [4]) (by kernel_rfl) (by simp) ?_
            refine AllReadyH.cons (o := ⟨some 60, Op.call { callee := Callee.builtin Builtin.append, args := #[Operand.tmp 56, Operand.tmp 59], argTypes := #[22, 22] }, 22, _, _, _⟩) rfl (fun K hK => ?_) AllReadyH.nil
            rw [if_pos (by rfl)]
            refine wpOp_append_run (.tmp 56) (.tmp 59) 22 rfl _ _ _ rfl rfl HR4.out ?_
            refine hK.out _ _ (hHeld.trans (hB4.mono hHeld.size)) (fun _ => ?_)
            clear hK K
            try simp only [Act.put, List.setIfInBounds_toArray, List.set_cons_zero, List.set_cons_succ]
            refine wpAnyH_ready (rs := [9]) (by kernel_rfl) (by simp) ?_
            refine AllReadyH.cons (o := ⟨some 65, Op.call { callee := Callee.builtin Builtin.append, args := #[Operand.tmp 60, Operand.tmp 64], argTypes := #[22, 22] }, 22, _, _, _⟩) rfl (fun K hK => ?_) AllReadyH.nil
            rw [if_pos (by rfl)]
            refine wpOp_append_run (.tmp 60) (.tmp 64) 22 rfl _ _ _ rfl rfl HR5.out ?_
            have hB5r := hHeld.trans (hB5.mono hHeld.size)
            refine hK.out _ _ hB5r (fun hHeld => ?_)
            clear hK K
            try simp only [Act.put, List.setIfInBounds_toArray, List.set_cons_zero, List.set_cons_succ]
            refine wpAnyH_take (i := 10) (oi := ⟨some 5, Op.assign (Operand.tmp 65), 22, _, _, _⟩) (v := ?v10) rfl (by kernel_rfl) (by kernel_rfl) (by kernel_rfl) (fun _ _ _ h => h) (Or.inl ⟨by rfl, ?hy10⟩) hHeld ?rest10
            case hy10 => intro w9 hSw; go_simp; (try with_reducible rfl)
            try simp only [Act.put, List.setIfInBounds_toArray, List.set_cons_zero, List.set_cons_succ]
            refine wpAnyH_done (by kernel_rfl) ?_ _
            refine NoPanic.normal ?_
            go_wp2
            go_roundw
            case rel =>
              have ht : (l.drop (p + 1)).take (k - (p + 1)) = l.drop (p + 1) := List.take_of_length_le (by rw [List.length_drop, HN.out]; exact Nat.le_refl _)
              have ho := HO5.out
              rw [ht] at ho
              have hq : p + (k - (p + 1)) = k - 1 := by omega
              rw [hq] at ho
              refine ⟨S + x, l.take p ++ l.drop (p + 1), k - 1, rfl, hf.1, hf.2, by omega, ?_, fun c hc => HB.out c (mem_out l p c hc), ?_, ?_, ?_⟩
              · show _ = _
                rw [List.length_append, List.length_take, List.length_drop, HN.out]
                omega
              · show _ = _
                have h1 := tot_out l p hpl
                have h2 := HT.out
                rw [HX.out] at h1
                omega
              · exact own_leI ho (Nat.le_trans hB.size hd0)
              · exact hB.trans (hB5r.mono hB.size)
            case measure =>
              obtain ⟨a5, c5, e5⟩ := own_formI HO5.out
              rw [e5]
              simp [lenOf]
              omega
          · have c := refAdd_any S x wr hS0 hS1 hxb.1 hxb.2
            rw [add_over S x hf] at c
            have C1 : Hid (Calls Try.prog 10 _ _ _) := c
            have e : sumZ zs = (0, 10) := by
              have hb := beyond S l p hpl hS0 hS1 HB.out (HP.out.imp_right fun hq c hc => by
                obtain ⟨j, hj, rfl⟩ := List.getElem_of_mem hc
                have := hq j (by have := HN.out; omega)
                simpa [hj] using this) (by rw [HX.out]; exact hf)
              rw [HT.out] at hb
              exact if_neg hb
            have HZ : Hid (sumZ zs = _) := e
            clear c e
            go_wp2_with (first | (go_at_call 10; refine C1.out.mono ?_; rintro e w2 ⟨rfl, hw2⟩; replace hw2 := hw2.symm; subst hw2))
            go_ret2
            exact ⟨tup2 (by rw [HZ.out]) (by rw [HZ.out]), hB⟩
end Go.Proofs.Ytddeneaenhoegaa
