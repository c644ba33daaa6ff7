/-
  The document's Check and Book (P7.1).
-/
import Derived.Test.YtelabjipclfpnaaSchRef
import Derived.Test.YtelabjipclfpnaaWordRef
import Derived.Test.YtelabjipclfpnaaSchBox
namespace Go.Proofs.Ytelabjipclfpnaa
open Go.RowKit

/-- Is all right with the name and the first fields? -/
def fineB (S : ByteArray) (Nm : Nat → ByteArray) (K : Nat → Int) (i : Nat) : Bool := nameB S && (allR Nm K i && !dupB Nm i)
theorem fineB_next (S : ByteArray) (Nm : Nat → ByteArray) (K : Nat → Int) (i : Nat) : fineB S Nm K (i + 1) = ((fineB S Nm K i && rightF (Nm i) (K i)) && !seenB Nm (Nm i) i) := by
  unfold fineB
  simp only [allR, dupB]
  cases nameB S <;> cases allR Nm K i <;> cases dupB Nm i <;> cases rightF (Nm i) (K i) <;> cases seenB Nm (Nm i) i <;> rfl
theorem chkZ_fine (S : ByteArray) (n : Nat) (Nm : Nat → ByteArray) (K : Nat → Int) (h : n ≤ 16) : chkZ S n Nm K = if fineB S Nm K n = true then 0 else 1 := by
  unfold chkZ fineB
  rw [if_neg (by omega)]
  cases nameB S <;> cases allR Nm K n <;> cases dupB Nm n <;> rfl

set_option maxRecDepth 100000 in
set_option maxHeartbeats 4000000 in
theorem refCheck_long (S : ByteArray) (a : Option Addr) (n cap : Nat) (w : World) (hn : ¬ n ≤ 16) :
    Calls Try.prog 34 #[schV S (.slice a n cap)] w fun e w' => e = .returned (.int .i64 2) ∧ Below w.heap.size w w' := by
  have h16 : 16 < (n : Int) := by omega
  go_enter Try.func34, Try.ntmps34
  go_wp2
  go_ret
  exact ⟨rfl, (Below.refl _ _).alloc (Nat.le_refl _) _⟩
set_option maxRecDepth 100000 in
set_option maxHeartbeats 4000000 in
theorem refCheck_few (S : ByteArray) (a : Option Addr) (n cap : Nat) (Nm : Nat → ByteArray) (K : Nat → Int) (w : World) (H : Flds w a n Nm K) (hn : n ≤ 16) (hS : S.size ≤ maxLen) :
    Calls Try.prog 34 #[schV S (.slice a n cap)] w fun e w' => e = .returned (.int .i64 (if fineB S Nm K n = true then 0 else 1)) ∧ Below w.heap.size w w' := by
  obtain ⟨x, hx⟩ : ∃ x : Int, x = if fineB S Nm K n = true then 0 else 1 := ⟨_, rfl⟩
  rw [← hx]
  have HQ : Hid (x = if fineB S Nm K n = true then 0 else 1) := hx
  have h16 : ¬ 16 < (n : Int) := by omega
  have hB0 : Below w.heap.size w (w.alloc (schO S (.slice a n cap))) := (Below.refl _ _).alloc (Nat.le_refl _) _
  have HX : Hid ((w.alloc (schO S (.slice a n cap))).cell? ⟨w.heap.size, 0, none⟩ = some (.string S) ∧ (w.alloc (schO S (.slice a n cap))).cell? ⟨w.heap.size, 1, none⟩ = some (.slice a n cap)) := (Box2.new 50 w (.string S) (.slice a n cap)).cells
  have HF : Hid (Flds (w.alloc (schO S (.slice a n cap))) a n Nm K) := H.later hB0
  have HS : Hid (S.size ≤ maxLen) := hS
  clear hx H hS
  go_enter Try.func34, Try.ntmps34
  go_upto_region 1 with fail
  obtain ⟨W, hW⟩ : ∃ W, W = (w.alloc (schO S (.slice a n cap))) := ⟨_, rfl⟩
  obtain ⟨bs, hbs⟩ : ∃ bs, bs = w.heap.size := ⟨_, rfl⟩
  rw [← hW, ← hbs] at HX
  rw [← hW] at hB0 HF
  rw [← hW, ← hbs]
  clear hW hbs
  have x0 := HX.out.1
  have x1 := HX.out.2
  go_wp2_with (first | (go_at_call 43; refine (refName_any S _ HS.out).mono ?_; rintro e wn ⟨rfl, hwn⟩; replace hwn := hwn.symm; subst hwn))
  clear x0 x1
  go_loopw [3, 4] (fun u v wr => ∃ i : Nat, i ≤ n ∧ u = .bool (fineB S Nm K i) ∧ v = .int .i64 i ∧ Below W.heap.size W wr) (fun _ v _ => n - (intOf v).toNat)
  case atStart => exact ⟨0, Nat.zero_le _, by simp [fineB, allR, dupB], rfl, Below.refl _ _⟩
  case round =>
    obtain ⟨i, hi, rfl, rfl, hB⟩ := hrel
    have x1 := cell_later HX.out.2 hB
    by_cases hin : i < n
    · have HFl := HF.out.later hB
      have hB5 : Below wr.heap.size wr (wr.alloc (fldO (Nm i) (K i))) := (Below.refl _ _).alloc (Nat.le_refl _) _
      have hB6 := bt hB hB5
      have HX6 : Hid ((wr.alloc (fldO (Nm i) (K i))).cell? ⟨bs, 1, none⟩ = some (.slice a n cap)) := cell_later x1 hB5
      have HF6 : Hid ((wr.alloc (fldO (Nm i) (K i))).cell? ⟨wr.heap.size, 0, none⟩ = some (.string (Nm i))) := (Box2.new 52 wr (.string (Nm i)) (.int .i64 (K i))).cells.1
      have HG6 : Hid (Flds (wr.alloc (fldO (Nm i) (K i))) a n Nm K) := HFl.later hB5
      obtain ⟨b, off, rfl, hc⟩ := HFl (by omega)
      have f0 := (hc i hin).1.1
      have f1 : wr.cell? ⟨b, off + i * 2 + 1, none⟩ = some (.int .i64 (K i)) := (hc i hin).1.2
      have C : Hid (Calls Try.prog 43 _ (wr.alloc (fldO (Nm i) (K i))) _) := refName_any (Nm i) (wr.alloc (fldO (Nm i) (K i))) (hc i hin).2
      have hnx := fineB_next S Nm K i
      clear hc hB5 HFl
      cases hfi : fineB S Nm K i with
      | false =>
        rw [hfi] at hnx
        have HN : Hid (fineB S Nm K (i + 1) = false) := hnx
        clear hnx hfi
        go_upto_region 9 with fail
        generalize wr.heap.size = b6 at HF6 ⊢
        generalize wr.alloc (fldO (Nm i) (K i)) = W6 at hB6 HX6 HF6 HG6 ⊢
        go_wp2_with fail
        go_loopw [3, 6] (fun u v wr => ∃ k : Nat, k ≤ i ∧ u = .bool false ∧ v = .int .i64 k ∧ Below W6.heap.size W6 wr) (fun _ v _ => i - (intOf v).toNat)
        case atStart => exact ⟨0, Nat.zero_le _, rfl, rfl, Below.refl _ _⟩
        case round =>
          obtain ⟨k, hk, rfl, rfl, hBi⟩ := hrel
          by_cases hki : k < i
          · go_wp2_with fail
            go_quiet (fail)
            go_wp2
            go_roundw
            case rel => exact ⟨k + 1, by omega, rfl, by go_num, bd hBi _⟩
            case measure => simp [intOf]; omega
          · go_wp2
            go_roundw
            case rel => exact ⟨i + 1, by omega, by rw [HN.out], by go_num, bt hB6 hBi⟩
            case measure => simp [intOf]; omega

      | true =>
        rw [hfi, Bool.true_and] at hnx
        unfold rightF kindB at hnx
        clear hfi
        cases hnm : nameB (Nm i) with
        | false =>
          rw [hnm] at C hnx
          have HN : Hid (fineB S Nm K (i + 1) = false) := hnx
          clear hnx hnm
          go_upto_region 9 with (first | (go_at_call 43; refine C.out.mono ?_; rintro e wn ⟨rfl, hwn⟩; replace hwn := hwn.symm; subst hwn))
          generalize wr.heap.size = b6 at HF6 ⊢
          generalize wr.alloc (fldO (Nm i) (K i)) = W6 at hB6 HX6 HF6 HG6 ⊢
          go_wp2_with fail
          go_loopw [3, 6] (fun u v wr => ∃ k : Nat, k ≤ i ∧ u = .bool false ∧ v = .int .i64 k ∧ Below W6.heap.size W6 wr) (fun _ v _ => i - (intOf v).toNat)
          case atStart => exact ⟨0, Nat.zero_le _, rfl, rfl, Below.refl _ _⟩
          case round =>
            obtain ⟨k, hk, rfl, rfl, hBi⟩ := hrel
            by_cases hki : k < i
            · go_wp2_with fail
              go_quiet (fail)
              go_wp2
              go_roundw
              case rel => exact ⟨k + 1, by omega, rfl, by go_num, bd hBi _⟩
              case measure => simp [intOf]; omega
            · go_wp2
              go_roundw
              case rel => exact ⟨i + 1, by omega, by rw [HN.out], by go_num, bt hB6 hBi⟩
              case measure => simp [intOf]; omega

        | true =>
          rw [hnm, Bool.true_and] at hnx
          rw [hnm] at C
          clear hnm
          by_cases k1 : 1 ≤ K i
          · by_cases k3 : K i ≤ 3
            · rw [decide_eq_true k1, decide_eq_true k3] at hnx
              simp only [Bool.true_and] at hnx
              have HN : Hid (fineB S Nm K (i + 1) = !seenB Nm (Nm i) i) := hnx
              clear hnx
              go_upto_region 9 with (first | (go_at_call 43; refine C.out.mono ?_; rintro e wn ⟨rfl, hwn⟩; replace hwn := hwn.symm; subst hwn))
              generalize wr.heap.size = b6 at HF6 ⊢
              generalize wr.alloc (fldO (Nm i) (K i)) = W6 at hB6 HX6 HF6 HG6 ⊢
              go_wp2_with fail
              go_loopw [3, 6] (fun u v wr => ∃ k : Nat, k ≤ i ∧ u = .bool (!seenB Nm (Nm i) k) ∧ v = .int .i64 k ∧ Below W6.heap.size W6 wr) (fun _ v _ => i - (intOf v).toNat)
              case atStart => exact ⟨0, Nat.zero_le _, rfl, rfl, Below.refl _ _⟩
              case round =>
                obtain ⟨k, hk, rfl, rfl, hBi⟩ := hrel
                by_cases hki : k < i
                · have x1 := cell_later HX6.out hBi
                  have y0 := cell_later HF6.out hBi
                  obtain ⟨b2, off2, e2, hc⟩ := (HG6.out.later hBi) (by omega)
                  cases e2
                  have f0 := (hc k (by omega)).1.1
                  have hkn : k < n := by omega
                  clear hc
                  cases hse : seenB Nm (Nm i) k with
                  | true =>
                    have HNx : Hid (seenB Nm (Nm i) (k + 1) = true) := by show seenB Nm (Nm i) (k + 1) = true; simp only [seenB]; rw [hse]; rfl
                    clear hse
                    simp only [Bool.not_true]
                    go_wp2_with fail
                    go_quiet (fail)
                    go_wp2
                    go_roundw
                    case rel => exact ⟨k + 1, by omega, by rw [HNx.out]; rfl, by go_num, bd hBi _⟩
                    case measure => simp [intOf]; omega
                  | false =>
                    by_cases hs : Nm k = Nm i
                    · have s1 := str_yes hs
                      have HNx : Hid (seenB Nm (Nm i) (k + 1) = true) := by show seenB Nm (Nm i) (k + 1) = true; simp only [seenB]; rw [hse]; simp [hs]
                      clear hse hs
                      simp only [Bool.not_false]
                      go_wp2_with fail
                      go_quiet (fail)
                      go_wp2
                      go_roundw
                      case rel => exact ⟨k + 1, by omega, by rw [HNx.out]; rfl, by go_num, bd hBi _⟩
                      case measure => simp [intOf]; omega
                    · have s1 := str_not hs
                      have HNx : Hid (seenB Nm (Nm i) (k + 1) = false) := by show seenB Nm (Nm i) (k + 1) = false; simp only [seenB]; rw [hse]; simp [hs]
                      clear hse hs
                      simp only [Bool.not_false]
                      go_wp2_with fail
                      go_quiet (fail)
                      go_wp2
                      go_roundw
                      case rel => exact ⟨k + 1, by omega, by rw [HNx.out]; rfl, by go_num, bd hBi _⟩
                      case measure => simp [intOf]; omega
                · obtain rfl : k = i := by omega
                  go_wp2
                  go_roundw
                  case rel => exact ⟨k + 1, by omega, by rw [HN.out], by go_num, bt hB6 hBi⟩
                  case measure => simp [intOf]; omega

            · rw [decide_eq_false k3] at hnx
              simp only [Bool.and_false, Bool.false_and] at hnx
              have HN : Hid (fineB S Nm K (i + 1) = false) := hnx
              clear hnx
              go_upto_region 9 with (first | (go_at_call 43; refine C.out.mono ?_; rintro e wn ⟨rfl, hwn⟩; replace hwn := hwn.symm; subst hwn))
              generalize wr.heap.size = b6 at HF6 ⊢
              generalize wr.alloc (fldO (Nm i) (K i)) = W6 at hB6 HX6 HF6 HG6 ⊢
              go_wp2_with fail
              go_loopw [3, 6] (fun u v wr => ∃ k : Nat, k ≤ i ∧ u = .bool false ∧ v = .int .i64 k ∧ Below W6.heap.size W6 wr) (fun _ v _ => i - (intOf v).toNat)
              case atStart => exact ⟨0, Nat.zero_le _, congrArg Value.bool (decide_eq_false (by omega)), rfl, Below.refl _ _⟩
              case round =>
                obtain ⟨k, hk, rfl, rfl, hBi⟩ := hrel
                by_cases hki : k < i
                · go_wp2_with fail
                  go_quiet (fail)
                  go_wp2
                  go_roundw
                  case rel => exact ⟨k + 1, by omega, rfl, by go_num, bd hBi _⟩
                  case measure => simp [intOf]; omega
                · go_wp2
                  go_roundw
                  case rel => exact ⟨i + 1, by omega, by rw [HN.out], by go_num, bt hB6 hBi⟩
                  case measure => simp [intOf]; omega

          · rw [decide_eq_false k1] at hnx
            simp only [Bool.false_and] at hnx
            have HN : Hid (fineB S Nm K (i + 1) = false) := hnx
            clear hnx
            go_upto_region 9 with (first | (go_at_call 43; refine C.out.mono ?_; rintro e wn ⟨rfl, hwn⟩; replace hwn := hwn.symm; subst hwn))
            generalize wr.heap.size = b6 at HF6 ⊢
            generalize wr.alloc (fldO (Nm i) (K i)) = W6 at hB6 HX6 HF6 HG6 ⊢
            go_wp2_with fail
            go_loopw [3, 6] (fun u v wr => ∃ k : Nat, k ≤ i ∧ u = .bool false ∧ v = .int .i64 k ∧ Below W6.heap.size W6 wr) (fun _ v _ => i - (intOf v).toNat)
            case atStart => exact ⟨0, Nat.zero_le _, rfl, rfl, Below.refl _ _⟩
            case round =>
              obtain ⟨k, hk, rfl, rfl, hBi⟩ := hrel
              by_cases hki : k < i
              · go_wp2_with fail
                go_quiet (fail)
                go_wp2
                go_roundw
                case rel => exact ⟨k + 1, by omega, rfl, by go_num, bd hBi _⟩
                case measure => simp [intOf]; omega
              · go_wp2
                go_roundw
                case rel => exact ⟨i + 1, by omega, by rw [HN.out], by go_num, bt hB6 hBi⟩
                case measure => simp [intOf]; omega

    · obtain rfl : i = n := by omega
      cases hfi : fineB S Nm K i with
      | true =>
        have HA : Hid (fineB S Nm K i = true) := hfi
        clear hfi
        go_wp2
        go_ret
        exact ⟨ret_int (by rw [HQ.out, HA.out]; rfl), bt hB0 hB⟩
      | false =>
        have HA : Hid (fineB S Nm K i = false) := hfi
        clear hfi
        go_wp2
        go_ret
        exact ⟨ret_int (by rw [HQ.out, HA.out]; rfl), bt hB0 hB⟩
theorem refCheck_any (S : ByteArray) (a : Option Addr) (n cap : Nat) (Nm : Nat → ByteArray) (K : Nat → Int) (w : World) (H : Flds w a n Nm K) (hS : S.size ≤ maxLen) :
    Calls Try.prog 34 #[schV S (.slice a n cap)] w fun e w' => e = .returned (.int .i64 (chkZ S n Nm K)) ∧ Below w.heap.size w w' := by
  by_cases hn : n ≤ 16
  · rw [chkZ_fine S n Nm K hn]
    exact refCheck_few S a n cap Nm K w H hn hS
  · have e : chkZ S n Nm K = 2 := by unfold chkZ; rw [if_pos (by omega)]
    rw [e]
    exact refCheck_long S a n cap w hn
end Go.Proofs.Ytelabjipclfpnaa
