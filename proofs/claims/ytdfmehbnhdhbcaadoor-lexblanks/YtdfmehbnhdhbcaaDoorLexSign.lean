/-
  lex.sign: the longest sign that stands there.
-/
import Derived.Test.YtdfmehbnhdhbcaaDoorLexTabs
namespace Go.Proofs.YtdfmehbnhdhbcaaDoor
open Go.RowKit

/-- What lex.first and its like answer: a token without its place, its length, the error. -/
def tokV (R : Int × List Int × Nat × Int) : Value := .tuple #[.agg #[.int .i64 R.1, .string (strOf R.2.1), .int .i64 0], .int .i64 (R.2.2.1 : Int), .int .i64 R.2.2.2]
theorem row_sg {w : World} (h : LexT w) : ∃ t f, ∀ o, (w.alloc o).heap[0]? = some (.cells sgC t f) := by
  obtain ⟨_, _, ⟨t, f, h1⟩⟩ := h
  exact ⟨t, f, fun o => by rw [((Below.refl w.heap.size w).alloc (Nat.le_refl _) o).block _ (lt_of_heap h1)]; exact h1⟩
theorem size_sg : (Tryd.prog.info? 53).map (·.size) = some sgC.size := by kernel_rfl
theorem below_alloc (w : World) (o : Obj) : Below w.heap.size w (w.alloc o) := (Below.refl _ _).alloc (Nat.le_refl _) o
set_option maxRecDepth 100000 in
set_option maxHeartbeats 4000000 in
theorem sign_lex (s : ByteArray) (w : World) (hT : LexT w) : Calls Tryd.prog 21 #[.string s] w fun e w' => e = .returned (tokV (sigR (bytesS s))) ∧ Below w.heap.size w w' := by
  obtain ⟨ty, fr, hrow⟩ := row_sg hT
  have HW : Hid (∀ o, (w.alloc o).heap[0]? = some (.cells sgC ty fr)) := hrow
  clear hrow hT
  have HI : Hid (∀ (k : Nat), k < 22 → ∀ w' : World, (Instr.index 53 (.agg sgC) (.int .i64 (k : Int))).run Tryd.prog w' = .ok (.string (sgS k)) w') := at_sg
  have HH : Hid (∀ g w', Calls Tryd.prog 30 #[.string s, .string g] w' fun e w'' => e = .returned (.bool (preB (bytesS s) (bytesS g))) ∧ w'' = w') := fun g w' => hasPre_any s g w'
  obtain ⟨V, hV⟩ : ∃ V, V = tokV (sigR (bytesS s)) := ⟨_, rfl⟩
  rw [← hV]
  have HV : Hid (V = tokV (sigR (bytesS s))) := hV
  clear hV
  go_enter Tryd.func21, Tryd.ntmps21
  go_wp2_with (refine wpList_load_row rfl 53 (Operand.global 0) rfl 0 rfl ty sgC fr _ (HW.out _) Tryd.underlying53 rfl size_sg ?_)
  go_loop [8] (fun i => ∃ k : Nat, k ≤ 22 ∧ i = .int .i64 k ∧ Hid (∀ j : Nat, j < k → preB (bytesS s) (bytesS (sgS j)) = false)) (fun i => 22 - (intOf i).toNat)
  case atStart => exact ⟨0, by omega, rfl, fun j hj => by omega⟩
  case round =>
    obtain ⟨k, hk, rfl, HN⟩ := hrel
    by_cases hlt : k < 22
    · have hlt' : (k : Int) < 22 := by omega
      have hidx := HI.out k hlt
      have HS := fun w' => HH.out (sgS k) w'
      cases hp : preB (bytesS s) (bytesS (sgS k)) with
      | true =>
        have e1 := sgnL_at (bytesS s) k hlt HN.out hp
        have hne : bytesS (sgS k) ≠ [] := by rw [sgS_bytes]; exact sgS_ne k hlt
        have e2 : V = .tuple #[.agg #[.int .i64 5, .string (sgS k), .int .i64 0], .int .i64 ((sgS k).size : Int), .int .i64 0] := by
          rw [HV.out]
          unfold sigR
          rw [e1, if_neg hne]
          unfold tokV
          dsimp only
          rw [strOf_bytesS, bytesS_length]
        rw [hp] at HS
        have HC : Hid (∀ w', Calls Tryd.prog 30 _ w' _) := HS
        have HE : Hid (V = _) := e2
        clear e1 e2 hne hp HS
        generalize sgS k = g at hidx HC HE
        go_wp2_with (first | (go_at_call 30; refine (HC.out _).mono ?_; rintro e w1 ⟨rfl, hw1⟩; replace hw1 := hw1.symm; subst hw1))
        try rw [Exit.noGoto_ret]
        refine bodyPost_ret (v := .tuple #[.agg #[.int .i64 5, .string g, .int .i64 0], .int .i64 (g.size : Int), .int .i64 0]) (by simp [results, Tryd.results21, go_sem]) rfl ⟨by rw [HE.out], ?_⟩
        exact below_alloc w _
      | false =>
        rw [hp] at HS
        have HC : Hid (∀ w', Calls Tryd.prog 30 _ w' _) := HS
        have HP : Hid (preB (bytesS s) (bytesS (sgS k)) = false) := hp
        clear hp HS
        generalize hg : sgS k = g at hidx HC
        clear hg
        go_wp2_with (first | (go_at_call 30; refine (HC.out _).mono ?_; rintro e w1 ⟨rfl, hw1⟩; replace hw1 := hw1.symm; subst hw1))
        go_round
        case rel => exact ⟨k + 1, by omega, by go_num, fun j hj => if h : j = k then by rw [h]; exact HP.out else HN.out j (by omega)⟩
        case measure => simp [intOf]; omega
    · obtain rfl : k = 22 := by omega
      have e1 := sgnL_no (bytesS s) HN.out
      have HE : Hid (V = .tuple #[.agg #[.int .i64 0, .string ⟨#[]⟩, .int .i64 0], .int .i64 0, .int .i64 4]) := by
        show V = _
        rw [HV.out]
        unfold sigR
        rw [if_pos e1]
        rfl
      clear e1
      go_wp2
      refine bodyPost_ret (v := .tuple #[.agg #[.int .i64 0, .string ⟨#[]⟩, .int .i64 0], .int .i64 0, .int .i64 4]) (by simp [results, Tryd.results21, go_sem]) rfl ⟨by rw [HE.out], ?_⟩
      exact below_alloc w _
end Go.Proofs.YtdfmehbnhdhbcaaDoor
