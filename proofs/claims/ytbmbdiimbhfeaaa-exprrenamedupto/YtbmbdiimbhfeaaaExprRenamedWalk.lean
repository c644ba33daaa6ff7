/-
  ExprRenamed's walk: one name for another, and back.
-/
import Derived.Test.YtbmbdiimbhfeaaaExprRenMath
import Derived.Deep.DeepCutAuto
namespace Go.Proofs.Ytbmbdiimbhfeaaa
open Go.RowKit

set_option maxRecDepth 100000 in
set_option maxHeartbeats 2000000 in
theorem exprRenamed_no (x : X) (v u : ByteArray) (w : World) (hX : IsX w x) (hlx : decide (szZ x ≤ 400) = false) :
    Calls Try.prog 6 #[x.val, .string v, .string u] w fun e w' => e = .returned (.bool true) ∧ Below w.heap.size w w' := by
  obtain ⟨A, hA, hB, hs, hn⟩ := box_one x w
  obtain ⟨a0, a1, a2, a3, a4, a5, a6⟩ := hn.at0
  have HB : Hid (Below w.heap.size w A) := hB
  have L1 : Hid (Calls Try.prog 7 #[x.val] A fun e w' => e = .returned (.bool false) ∧ Below A.heap.size A w') := by have := light_any x A (hX.later hB); rw [hlx] at this; exact this
  have W1 : Hid (∀ d, Calls Try.prog 8 #[] d fun e w' => e = .returned (.bool true) ∧ Below d.heap.size d w') := fun d => awake_any d
  clear hB hn hX hlx
  go_enter Try.func6, Try.ntmps6
  go_wp2_with (first
    | (go_at_call 7; refine L1.out.mono ?_; clear L1; rintro e w1 ⟨rfl, hB1⟩)
    | (go_at_call 8; refine (W1.out _).mono ?_; clear W1; rintro e w2 ⟨rfl, hB2⟩))
  go_ret
  exact ⟨rfl, HB.out.trans ((hB1.trans (hB2.mono hB1.size)).mono (by omega))⟩
set_option maxRecDepth 100000 in
set_option maxHeartbeats 4000000 in
theorem exprRenamed_has (x : X) (v u : ByteArray) (w : World) (hX : IsX w x) (hsm : x.size ≤ 1048576) (hlx : decide (szZ x ≤ 400) = true) (p : Nat) (hp : p < (varsX x).length) (hpu : atS (varsX x) p = u) (hpn : ∀ j, j < p → ¬ atS (varsX x) j = u) :
    Calls Try.prog 6 #[x.val, .string v, .string u] w fun e w' => e = .returned (.bool true) ∧ Below w.heap.size w w' := by
  obtain ⟨A, hA, hB, hs, hn⟩ := box_one x w
  obtain ⟨a0, a1, a2, a3, a4, a5, a6⟩ := hn.at0
  have HB : Hid (Below w.heap.size w A) := hB
  have NX : Hid (Node A w.heap.size 0 x) := hn
  have L1 : Hid (Calls Try.prog 7 #[x.val] A fun e w' => e = .returned (.bool true) ∧ Below A.heap.size A w') := by have := light_any x A (hX.later hB); rw [hlx] at this; exact this
  have W1 : Hid (∀ d, Calls Try.prog 8 #[] d fun e w' => e = .returned (.bool true) ∧ Below d.heap.size d w') := fun d => awake_any d
  obtain ⟨nv, hnv⟩ : ∃ nv, nv = (varsX x).length := ⟨_, rfl⟩
  have HNV : Hid (nv ≤ 1048576) := by show nv ≤ 1048576; rw [hnv]; have := vars_len x; omega
  have V1 : Hid (∀ d, Below A.heap.size A d → Calls Try.prog 20 #[x.val] d fun e w' => ∃ v, e = .returned v ∧ Hid (w'.ownsRow d.heap.size 9 1 v nv (cellsS (varsX x))) ∧ Below d.heap.size d w') := fun d h => by rw [hnv]; exact vars_any x d ((hX.later hB).later h) hsm
  rw [← hnv] at hp
  obtain ⟨S, hS⟩ : ∃ S, S = atS (varsX x) := ⟨_, rfl⟩
  rw [← hS] at hpu hpn
  have HP : Hid (p < nv) := hp
  have HPU : Hid (S p = u) := hpu
  have HPN : Hid (∀ j, j < p → ¬ S j = u) := hpn
  have HS : Hid (S = atS (varsX x)) := hS
  clear hB hn hX hlx hnv hp hpu hpn hS hsm
  go_enter Try.func6, Try.ntmps6
  go_wp2_with (first
    | (go_at_call 7; refine L1.out.mono ?_; clear L1; rintro e w1 ⟨rfl, hB1⟩; obtain ⟨b0, b1, b2, b3, b4, b5, b6⟩ := (NX.out.later hB1).at0)
    | (go_at_call 20; refine (V1.out _ hB1).mono ?_; clear V1; rintro e w2 ⟨vv, rfl, ho, hB2⟩; obtain ⟨al, capl, rfl, hx, -, hcl⟩ := own_txs ho.out; clear ho))
  rw [← HS.out] at hx
  have HX : Hid (Txs w2 al nv S) := hx
  clear hx
  go_loopw [8, 9] (fun b8 i wr => ∃ (k : Nat) (had : Bool), k ≤ p ∧ i = .int .i64 k ∧ b8 = .bool had ∧ wr = w2) (fun _ i _ => p - (intOf i).toNat)
  case atStart => exact ⟨0, false, Nat.zero_le _, rfl, rfl, rfl⟩
  case round =>
    obtain ⟨k, had, hk, rfl, rfl, hwr⟩ := hrel
    subst hwr
    have hlt : k < nv := by have := HP.out; omega
    have hnv := HNV.out
    have HLT : Hid (k < nv) := hlt
    obtain ⟨b, o, rfl, hc⟩ := HX.out (by omega)
    have ck := hc k hlt
    clear hc
    by_cases hkp : k = p
    · have heq : (S k).toList = u.toList := by rw [hkp, HPU.out]
      have HKP : Hid (k = p) := hkp
      have hne : ((S k).toList == u.toList) = true := by simpa using heq
      clear heq hkp
      go_wp2_with (go_at_call 8; refine (W1.out _).mono ?_; clear W1; rintro e w3 ⟨rfl, hB3⟩)
      go_ret
      exact ⟨rfl, HB.out.trans ((hB1.trans ((hB2.trans (hB3.mono hB2.size)).mono hB1.size)).mono (by omega))⟩
    · have hne' : ¬ S k = u := HPN.out k (by omega)
      have hne : ((S k).toList == u.toList) = false := by
        rw [beq_eq_false_iff_ne]
        exact fun q => hne' (bytes_eq q)
      have HKP : Hid (¬ k = p) := hkp
      clear hne' hkp
      cases had with
      | true =>
        go_wp2
        go_roundw
        case rel => exact ⟨k + 1, true, by have := HKP.out; omega, by go_num, rfl, by first | trivial | rfl⟩
        case measure => have := HKP.out; simp [intOf]; omega
      | false =>
        go_wp2
        go_roundw
        case rel => exact ⟨k + 1, _, by have := HKP.out; omega, by go_num, rfl, by first | trivial | rfl⟩
        case measure => have := HKP.out; simp [intOf]; omega
end Go.Proofs.Ytbmbdiimbhfeaaa
