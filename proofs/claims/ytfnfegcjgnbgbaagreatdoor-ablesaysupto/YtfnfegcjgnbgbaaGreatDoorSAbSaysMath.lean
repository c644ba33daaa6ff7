/-
  When a dialect lacks nothing: what the documents' looks at a pattern tell; plain facts, of no function.
  word.Upper, word.large; the document's lower, upper, digit, Sign, Name, Upper.
  The document's Right of a value (haruspexref06), at any value.
-/
import Derived.Test.YtfnfegcjgnbgbaaGreatDoorSRangeBox
import Derived.Test.YtfnfegcjgnbgbaaGreatDoorSTxt
namespace Go.Proofs.YtfnfegcjgnbgbaaGreatDoor
open Go.RowKit

/-- Has it a node of a kind? -/
def hasB (k : Int) : Pt → Bool
  | .nil => (0 : Int) == k
  | .mk k' _ _ _ _ _ n _ c => (k' == k) || !allN (fun i => !hasB k (c i)) n
theorem hasB_eq (k : Int) (x : Pt) : hasB k x = ((x.k == k) || !allN (fun i => !hasB k (x.c i)) x.n) := by
  cases x with
  | nil => show ((0 : Int) == k) = (((0 : Int) == k) || !true); simp
  | mk => rfl
/-- Has each PMany Lo and Hi the same? -/
def exactB : Pt → Bool
  | .nil => true
  | .mk k _ _ lo hi _ n _ c => !(k == 5 && lo != hi) && allN (fun i => exactB (c i)) n
theorem exactB_eq (x : Pt) : exactB x = (!(x.k == 5 && x.lo != x.hi) && allN (fun i => exactB (x.c i)) x.n) := by
  cases x with
  | nil => rfl
  | mk => rfl
/-- Are all parts of PAnds atoms? -/
def atomsB : Pt → Bool
  | .nil => true
  | .mk k _ _ _ _ _ n _ c => allN (fun i => !(k == 3 && (c i).k != 1) && atomsB (c i)) n
theorem atomsB_eq (x : Pt) : atomsB x = allN (fun i => !(x.k == 3 && (x.c i).k != 1) && atomsB (x.c i)) x.n := by
  cases x with
  | nil => rfl
  | mk => rfl
theorem hasB_vis (k : Int) : ∀ (x : Pt) (way : List Int) (ink : Int), hasB k x = true ↔ ∃ v ∈ visW way ink x, v.2.2.k = k := by
  refine Pt.ind fun x ih way ink => ?_
  rw [hasB_eq, visW_eq]
  constructor
  · intro h
    by_cases e : x.k = k
    · exact ⟨_, List.mem_cons_self .., e⟩
    · have h1 : ¬ ∀ i, i < x.n → (!hasB k (x.c i)) = true := fun hh => by
        rw [allN_true.2 hh] at h
        simp [e] at h
      obtain ⟨i, hi⟩ := Classical.not_forall.1 h1
      obtain ⟨hin, hh⟩ := Classical.not_imp.1 hi
      have h2 : hasB k (x.c i) = true := by simpa using hh
      obtain ⟨v, hv, e2⟩ := (ih i hin (way ++ [(i : Int)]) x.k).1 h2
      exact ⟨v, List.mem_cons_of_mem _ (mem_catN.2 ⟨i, hin, hv⟩), e2⟩
  · rintro ⟨v, hv, e⟩
    rcases List.mem_cons.1 hv with rfl | hv
    · simp only at e
      simp [e]
    · obtain ⟨i, hi, hv⟩ := mem_catN.1 hv
      have h1 := (ih i hi _ _).2 ⟨v, hv, e⟩
      rw [allN_false hi (by rw [h1]; rfl)]
      simp
theorem exactB_vis : ∀ (x : Pt) (way : List Int) (ink : Int), exactB x = true ↔ ∀ v ∈ visW way ink x, ¬ (v.2.2.k = 5 ∧ v.2.2.lo ≠ v.2.2.hi) := by
  refine Pt.ind fun x ih way ink => ?_
  rw [exactB_eq, visW_eq, Bool.and_eq_true, allN_true]
  constructor
  · rintro ⟨h1, h2⟩ v hv
    rcases List.mem_cons.1 hv with rfl | hv
    · rintro ⟨a, b⟩
      simp [a, b] at h1
    · obtain ⟨i, hi, hv⟩ := mem_catN.1 hv
      exact (ih i hi _ _).1 (h2 i hi) v hv
  · intro h
    refine ⟨?_, fun i hi => (ih i hi _ _).2 fun v hv => h v (List.mem_cons_of_mem _ (mem_catN.2 ⟨i, hi, hv⟩))⟩
    have := h _ (List.mem_cons_self ..)
    simp only [not_and, ne_eq, Classical.not_not] at this
    by_cases e : x.k = 5
    · simp [e, this e]
    · simp [e]
theorem atomsB_vis : ∀ (x : Pt) (way : List Int) (ink : Int), (atomsB x = true ∧ ¬ (ink = 3 ∧ x.k ≠ 1)) ↔ ∀ v ∈ visW way ink x, ¬ (v.2.1 = 3 ∧ v.2.2.k ≠ 1) := by
  refine Pt.ind fun x ih way ink => ?_
  rw [atomsB_eq, visW_eq, allN_true]
  constructor
  · rintro ⟨h1, h2⟩ v hv
    rcases List.mem_cons.1 hv with rfl | hv
    · exact h2
    · obtain ⟨i, hi, hv⟩ := mem_catN.1 hv
      have h3 := h1 i hi
      rw [Bool.and_eq_true] at h3
      refine (ih i hi _ _).1 ⟨h3.2, ?_⟩ v hv
      rintro ⟨a, b⟩
      have := h3.1
      simp [a, b] at this
  · intro h
    refine ⟨fun i hi => ?_, h _ (List.mem_cons_self ..)⟩
    have h1 := (ih i hi (way ++ [(i : Int)]) x.k).2 fun v hv => h v (List.mem_cons_of_mem _ (mem_catN.2 ⟨i, hi, hv⟩))
    rw [Bool.and_eq_true]
    refine ⟨?_, h1.1⟩
    by_cases e : x.k = 3
    · by_cases e2 : (x.c i).k = 1
      · simp [e2]
      · exact absurd ⟨e, e2⟩ h1.2
    · simp [e]
/-- No note at all of a list. -/
theorem filter_nil {d : Int} {q : Qy} : ((usesL q).filter fun n => lacksB d n.2) = [] ↔ (∀ v ∈ visW [] 0 q.p, ∀ n ∈ ntsOf (tlP q.p) v, lacksB d n.2 = false) ∧ ∀ n ∈ clauseL q, lacksB d n.2 = false := by
  rw [List.filter_eq_nil_iff]
  unfold usesL
  constructor
  · intro h
    refine ⟨fun v hv n hn => ?_, fun n hn => ?_⟩
    · have := h n (List.mem_append_left _ (List.mem_flatMap.2 ⟨v, hv, hn⟩))
      simpa using this
    · have := h n (List.mem_append_right _ hn)
      simpa using this
  · rintro ⟨h1, h2⟩ n hn
    rcases List.mem_append.1 hn with hn | hn
    · obtain ⟨v, hv, hn⟩ := List.mem_flatMap.1 hn
      simp [h1 v hv n hn]
    · simp [h2 n hn]
theorem mem_if {α : Type} {b : Bool} {x y : α} : x ∈ (if b = true then [y] else []) ↔ b = true ∧ x = y := by cases b <;> simp
theorem mem_clause {q : Qy} {n : Nt} : n ∈ clauseL q ↔ (q.key.toList.isEmpty = false ∧ n = ([], 8)) ∨ n = ([], q.mode + 9) ∨ (q.win ≠ 0 ∧ n = ([], 12)) ∨ (0 < q.m ∧ n = ([], 13)) := by
  unfold clauseL
  rw [List.mem_append, List.mem_append, List.mem_append, List.mem_singleton, mem_if, mem_if, mem_if]
  simp only [Bool.not_eq_true', bne_iff_ne, decide_eq_true_eq]
theorem mem_nts {t : Pt} {v : VN} {n : Nt} : n ∈ ntsOf t v ↔ (thingB (ownZ v.2.2 t) = true ∧ n = (v.1, ownZ v.2.2 t)) ∨ ((v.2.1 = 3 ∧ v.2.2.k ≠ 1) ∧ n = (v.1, 14)) := by
  unfold ntsOf
  rw [List.mem_append, mem_if, mem_if]
  simp only [Bool.and_eq_true, beq_iff_eq, bne_iff_ne]
theorem ownZ_two {x t : Pt} : lacksB 1 (ownZ x t) = true ↔ x.k = 3 := by
  unfold ownZ lacksB
  repeat' split
  all_goals simp_all
theorem ownZ_many {x t : Pt} : lacksB 2 (ownZ x t) = true ↔ x.k = 5 ∧ x.lo ≠ x.hi := by
  unfold ownZ lacksB
  repeat' split
  all_goals simp_all
theorem ownZ_not {x t : Pt} : lacksB 3 (ownZ x t) = true ↔ x.k = 6 := by
  unfold ownZ lacksB
  repeat' split
  all_goals simp_all
theorem lacks_own {d : Int} {x t : Pt} (h : lacksB d (ownZ x t) = true) : thingB (ownZ x t) = true := by
  by_cases e : dialB d = true ∧ thingB (ownZ x t) = true
  · exact e.2
  · rw [lacks_no e] at h; cases h
theorem lacks_lit1 {z : Int} : lacksB 1 z = true ↔ z = 2 := by
  simp [lacksB]
theorem lacks_lit2 {z : Int} : lacksB 2 z = true ↔ z = 4 ∨ z = 8 ∨ z = 10 ∨ z = 11 ∨ z = 13 := by
  simp [lacksB, or_assoc]
theorem lacks_lit3 {z : Int} : lacksB 3 z = true ↔ z = 6 ∨ z = 7 ∨ z = 9 ∨ z = 14 := by
  simp [lacksB, or_assoc]
theorem says1 {q : Qy} (hm : 0 ≤ q.mode ∧ q.mode ≤ 2) : ((usesL q).filter fun n => lacksB 1 n.2) = [] ↔ hasB 3 q.p = false := by
  rw [filter_nil, Bool.eq_false_iff, ne_eq, hasB_vis 3 q.p [] 0]
  constructor
  · rintro ⟨h1, -⟩ ⟨v, hv, e⟩
    have h2 := (ownZ_two (t := tlP q.p)).2 e
    have := h1 v hv _ (mem_nts.2 (.inl ⟨lacks_own h2, rfl⟩))
    simp only at this
    rw [h2] at this
    cases this
  · intro h
    refine ⟨fun v hv n hn => ?_, fun n hn => ?_⟩
    · rcases mem_nts.1 hn with ⟨-, rfl⟩ | ⟨-, rfl⟩
      · rw [Bool.eq_false_iff]
        exact fun e => h ⟨v, hv, ownZ_two.1 e⟩
      · rfl
    · rw [Bool.eq_false_iff]
      intro e
      rw [lacks_lit1] at e
      rcases mem_clause.1 hn with ⟨-, rfl⟩ | rfl | ⟨-, rfl⟩ | ⟨-, rfl⟩ <;> simp only at e <;> omega
theorem says2 {q : Qy} (hm : 0 ≤ q.mode ∧ q.mode ≤ 2) : ((usesL q).filter fun n => lacksB 2 n.2) = [] ↔ exactB q.p = true ∧ q.key.toList.isEmpty = true ∧ q.m = 0 ∧ q.mode = 0 := by
  rw [filter_nil, exactB_vis q.p [] 0]
  constructor
  · rintro ⟨h1, h2⟩
    refine ⟨fun v hv e => ?_, ?_, ?_, ?_⟩
    · have h3 := (ownZ_many (t := tlP q.p)).2 e
      have := h1 v hv _ (mem_nts.2 (.inl ⟨lacks_own h3, rfl⟩))
      simp only at this
      rw [h3] at this
      cases this
    · cases hk : q.key.toList.isEmpty with
      | true => rfl
      | false => have := h2 _ (mem_clause.2 (.inl ⟨hk, rfl⟩)); cases this
    · by_cases e : q.m = 0
      · exact e
      · have := h2 _ (mem_clause.2 (.inr (.inr (.inr ⟨Nat.pos_of_ne_zero e, rfl⟩))))
        cases this
    · have := h2 _ (mem_clause.2 (.inr (.inl rfl)))
      rw [Bool.eq_false_iff, ne_eq, lacks_lit2] at this
      simp only at this
      omega
  · rintro ⟨h1, h2, h3, h4⟩
    refine ⟨fun v hv n hn => ?_, fun n hn => ?_⟩
    · rcases mem_nts.1 hn with ⟨-, rfl⟩ | ⟨-, rfl⟩
      · rw [Bool.eq_false_iff]
        exact fun e => h1 v hv (ownZ_many.1 e)
      · rfl
    · rw [Bool.eq_false_iff]
      intro e
      rw [lacks_lit2] at e
      rcases mem_clause.1 hn with ⟨hk, rfl⟩ | rfl | ⟨-, rfl⟩ | ⟨hk, rfl⟩ <;> simp only at e
      · rw [h2] at hk; cases hk
      · omega
      · omega
      · omega
theorem says3 {q : Qy} (hm : 0 ≤ q.mode ∧ q.mode ≤ 2) : ((usesL q).filter fun n => lacksB 3 n.2) = [] ↔ hasB 6 q.p = false ∧ atomsB q.p = true ∧ q.mode ≠ 0 := by
  have ha := atomsB_vis q.p [] 0
  rw [filter_nil, Bool.eq_false_iff, ne_eq, hasB_vis 6 q.p [] 0]
  constructor
  · rintro ⟨h1, h2⟩
    refine ⟨?_, (ha.2 fun v hv e => ?_).1, ?_⟩
    · rintro ⟨v, hv, e⟩
      have h3 := (ownZ_not (t := tlP q.p)).2 e
      have := h1 v hv _ (mem_nts.2 (.inl ⟨lacks_own h3, rfl⟩))
      simp only at this
      rw [h3] at this
      cases this
    · have := h1 v hv _ (mem_nts.2 (.inr ⟨e, rfl⟩))
      cases this
    · have := h2 _ (mem_clause.2 (.inr (.inl rfl)))
      rw [Bool.eq_false_iff, ne_eq, lacks_lit3] at this
      simp only at this
      omega
  · rintro ⟨h1, h2, h3⟩
    have h4 := ha.1 ⟨h2, fun e => by omega⟩
    refine ⟨fun v hv n hn => ?_, fun n hn => ?_⟩
    · rcases mem_nts.1 hn with ⟨-, rfl⟩ | ⟨e, rfl⟩
      · rw [Bool.eq_false_iff]
        exact fun e => h1 ⟨v, hv, ownZ_not.1 e⟩
      · exact absurd e (h4 v hv)
    · rw [Bool.eq_false_iff]
      intro e
      rw [lacks_lit3] at e
      rcases mem_clause.1 hn with ⟨-, rfl⟩ | rfl | ⟨-, rfl⟩ | ⟨-, rfl⟩ <;> simp only at e <;> omega
end Go.Proofs.YtfnfegcjgnbgbaaGreatDoor
namespace Go.Proofs.YtfnfegcjgnbgbaaGreatDoor
open Go.RowKit

set_option maxHeartbeats 400000 in
theorem refLower_any (r : Int) (w : World) : Calls Tryz.prog 84 #[.int .u8 r] w fun e w' => e = .returned (.bool (smallB r)) ∧ w' = w := by
  go_enter Tryz.func84, Tryz.ntmps84
  go_wp2
  all_goals go_ret
  all_goals refine ⟨ret_bool ?_, rfl⟩
  all_goals (unfold smallB; rw [Bool.eq_iff_iff]; simp <;> omega)
set_option maxHeartbeats 400000 in
theorem refDigit_any (r : Int) (w : World) : Calls Tryz.prog 98 #[.int .u8 r] w fun e w' => e = .returned (.bool (digitB r)) ∧ w' = w := by
  go_enter Tryz.func98, Tryz.ntmps98
  go_wp2
  all_goals go_ret
  all_goals refine ⟨ret_bool ?_, rfl⟩
  all_goals (unfold digitB; rw [Bool.eq_iff_iff]; simp <;> omega)
set_option maxHeartbeats 1000000 in
theorem refSign_any (r : Int) (w : World) : Calls Tryz.prog 83 #[.int .u8 r] w fun e w' => e = .returned (.bool (signB r)) ∧ w' = w := by
  obtain ⟨S, hS⟩ : ∃ S, S = smallB r := ⟨_, rfl⟩
  obtain ⟨D, hD⟩ : ∃ D, D = digitB r := ⟨_, rfl⟩
  have hl : ∀ w', Calls Tryz.prog 84 #[.int .u8 r] w' fun e w'' => e = .returned (.bool S) ∧ w'' = w' := fun w' => by rw [hS]; exact refLower_any r w'
  have hd : ∀ w', Calls Tryz.prog 98 #[.int .u8 r] w' fun e w'' => e = .returned (.bool D) ∧ w'' = w' := fun w' => by rw [hD]; exact refDigit_any r w'
  have e : signB r = (S || D || decide (r = 95)) := by rw [hS, hD]; unfold signB laterB digitB smallB; rw [Bool.eq_iff_iff]; simp only [Bool.or_eq_true, decide_eq_true_eq]; omega
  rw [e]
  have HL : Hid (∀ w', Calls Tryz.prog 84 _ w' _) := hl
  have HD : Hid (∀ w', Calls Tryz.prog 98 _ w' _) := hd
  clear hl hd hS hD e
  cases S <;> cases D
  all_goals (go_enter Tryz.func83, Tryz.ntmps83)
  all_goals (go_wp2_with (first | (go_at_call 84; refine (HL.out _).mono ?_; rintro e w1 ⟨rfl, hw1⟩; replace hw1 := hw1.symm; subst hw1) | (go_at_call 98; refine (HD.out _).mono ?_; rintro e w1 ⟨rfl, hw1⟩; replace hw1 := hw1.symm; subst hw1)))
  all_goals go_ret
  all_goals refine ⟨ret_bool ?_, rfl⟩
  all_goals (first | rfl | (rw [Bool.eq_iff_iff]; simp))

theorem sign_ok {c : Int} {j : Nat} (h : okB c j = true) : signB c = true := by
  unfold okB at h; unfold signB; simp only [Bool.or_eq_true, Bool.and_eq_true] at h ⊢
  exact h.imp id And.left
theorem sign_not {c : Int} (j : Nat) (h : signB c = false) : okB c j = false := by
  cases hk : okB c j with
  | false => rfl
  | true => rw [sign_ok hk] at h; cases h
theorem ok_sign {c : Int} {j : Nat} (hj : j ≠ 0) (h : signB c = true) : okB c j = true := by
  unfold okB; unfold signB at h; simp only [Bool.or_eq_true, Bool.and_eq_true, decide_eq_true_eq] at h ⊢
  exact h.imp id fun k => ⟨k, hj⟩

set_option maxRecDepth 100000 in
set_option maxHeartbeats 1000000 in
theorem refName_any (s : ByteArray) (w : World) (hs : s.size ≤ maxLen) : Calls Tryz.prog 61 #[.string s] w fun e w' => e = .returned (.bool (nameB s)) ∧ w' = w := by
  unfold maxLen at hs
  obtain ⟨B, hB⟩ : ∃ B, B = nameB s := ⟨_, rfl⟩
  rw [← hB]
  have HB : Hid (B = nameB s) := hB
  clear hB
  go_enter Tryz.func61, Tryz.ntmps61
  go_wp2
  go_loop [3] (fun i => ∃ k : Nat, k ≤ s.size ∧ i = .int .i64 k ∧ Hid (∀ j, j < k → signB (byteAt s j) = true)) (fun i => s.size - (intOf i).toNat)
  case atStart => exact ⟨0, Nat.zero_le _, rfl, fun j hj => by omega⟩
  case round =>
    obtain ⟨k, hk, rfl, HP⟩ := hrel
    by_cases hlt : k < s.size
    · have hlt' : (k : Int) < (s.size : Int) := by omega
      have hidx := at_str s k hlt
      cases hg : signB (byteAt s k) with
      | false =>
        have C : ∀ w', Calls Tryz.prog 83 #[.int .u8 (byteAt s k)] w' fun e w'' => e = .returned (.bool false) ∧ w'' = w' := fun w' => by rw [← hg]; exact refSign_any _ w'
        have HC : Hid (∀ w', Calls Tryz.prog 83 _ w' _) := C
        clear C
        go_wp2_with (first | (go_at_call 83; refine (HC.out _).mono ?_; rintro e w1 ⟨rfl, hw1⟩; replace hw1 := hw1.symm; subst hw1))
        try rw [Exit.noGoto_ret]
        go_ret
        exact ⟨ret_bool (by rw [HB.out, nameB_not k hlt (sign_not k hg)]), rfl⟩
      | true =>
        have C : ∀ w', Calls Tryz.prog 83 #[.int .u8 (byteAt s k)] w' fun e w'' => e = .returned (.bool true) ∧ w'' = w' := fun w' => by rw [← hg]; exact refSign_any _ w'
        have HC : Hid (∀ w', Calls Tryz.prog 83 _ w' _) := C
        clear C
        go_wp2_with (first | (go_at_call 83; refine (HC.out _).mono ?_; rintro e w1 ⟨rfl, hw1⟩; replace hw1 := hw1.symm; subst hw1))
        go_round
        case rel => exact ⟨k + 1, by omega, by go_num, fun j hj => if h : j = k then by rw [h]; exact hg else HP.out j (by omega)⟩
        case measure => simp [intOf]; omega
    · obtain rfl : k = s.size := by omega
      have hge : ¬ (s.size : Int) < (s.size : Int) := by omega
      by_cases h0 : s.size = 0
      · have h0' : (s.size : Int) = 0 := by omega
        go_wp2
        go_ret
        refine ⟨ret_bool ?_, rfl⟩
        rw [HB.out]; unfold nameB fitsB; simp [h0]
      · have hidx : ∀ w', (Instr.index 9 (.string s) (.int .i64 0)).run Tryz.prog w' = .ok (.int .u8 (byteAt s 0)) w' := fun w' => at_str s 0 (by omega) w'
        have HL : Hid (∀ w', Calls Tryz.prog 84 #[.int .u8 (byteAt s 0)] w' _) := fun w' => refLower_any (byteAt s 0) w'
        have h1 : (1 : Int) ≤ (s.size : Int) := by omega
        by_cases h32 : s.size ≤ 32
        · have h32' : (s.size : Int) ≤ 32 := by omega
          go_wp2_with (first | (go_at_call 84; refine (HL.out _).mono ?_; rintro e w1 ⟨rfl, hw1⟩; replace hw1 := hw1.symm; subst hw1))
          go_ret
          refine ⟨ret_bool ?_, rfl⟩
          rw [HB.out]
          cases hsm : smallB (byteAt s 0) with
          | true =>
            rw [nameB_all]
            · unfold fitsB; rw [decide_eq_true (by omega)]
            · intro j hj
              by_cases hj0 : j = 0
              · rw [hj0]; unfold okB; rw [hsm]; rfl
              · exact ok_sign hj0 (HP.out j hj)
          | false =>
            rw [nameB_not 0 (by omega)]
            unfold okB; rw [hsm]; simp
        · have h32' : ¬ (s.size : Int) ≤ 32 := by omega
          go_wp2_with (first | (go_at_call 84; refine (HL.out _).mono ?_; rintro e w1 ⟨rfl, hw1⟩; replace hw1 := hw1.symm; subst hw1))
          go_ret
          refine ⟨ret_bool ?_, rfl⟩
          rw [HB.out]; unfold nameB fitsB; rw [decide_eq_false (p := 1 ≤ s.size ∧ s.size ≤ 32) (by omega)]; simp

end Go.Proofs.YtfnfegcjgnbgbaaGreatDoor
namespace Go.Proofs.YtfnfegcjgnbgbaaGreatDoor
open Go.RowKit

set_option maxHeartbeats 1000000 in
theorem refRight_none (k n : Int) (s : ByteArray) (w : World) (h0 : (k == 0) = false) (h1 : (k == 1) = false) (h2 : (k == 2) = false) (h3 : (k == 3) = false) : Calls Tryz.prog 99 #[valV k n s] w fun e w' => e = .returned (.bool false) ∧ Below w.heap.size w w' := by
  go_enter Tryz.func99, Tryz.ntmps99
  go_wp2
  go_ret
  exact ⟨rfl, (Below.refl _ _).alloc (Nat.le_refl _) _⟩
set_option maxHeartbeats 1000000 in
theorem refRight_null0  (w : World) : Calls Tryz.prog 99 #[valV 0 0 ⟨#[]⟩] w fun e w' => e = .returned (.bool true) ∧ Below w.heap.size w w' := by
  go_enter Tryz.func99, Tryz.ntmps99
  go_wp2
  go_ret
  exact ⟨rfl, (Below.refl _ _).alloc (Nat.le_refl _) _⟩
set_option maxHeartbeats 1000000 in
theorem refRight_null1 (n : Int) (s : ByteArray) (w : World) (hn : (n == 0) = false) : Calls Tryz.prog 99 #[valV 0 n s] w fun e w' => e = .returned (.bool false) ∧ Below w.heap.size w w' := by
  go_enter Tryz.func99, Tryz.ntmps99
  go_wp2
  go_ret
  exact ⟨rfl, (Below.refl _ _).alloc (Nat.le_refl _) _⟩
set_option maxHeartbeats 1000000 in
theorem refRight_null2 (s : ByteArray) (w : World) (hs : (s.toList == []) = false) : Calls Tryz.prog 99 #[valV 0 0 s] w fun e w' => e = .returned (.bool false) ∧ Below w.heap.size w w' := by
  go_enter Tryz.func99, Tryz.ntmps99
  go_wp2
  go_ret
  exact ⟨rfl, (Below.refl _ _).alloc (Nat.le_refl _) _⟩
set_option maxHeartbeats 1000000 in
theorem refRight_bool0  (w : World) : Calls Tryz.prog 99 #[valV 1 0 ⟨#[]⟩] w fun e w' => e = .returned (.bool true) ∧ Below w.heap.size w w' := by
  go_enter Tryz.func99, Tryz.ntmps99
  go_wp2
  go_ret
  exact ⟨rfl, (Below.refl _ _).alloc (Nat.le_refl _) _⟩
set_option maxHeartbeats 1000000 in
theorem refRight_bool1  (w : World) : Calls Tryz.prog 99 #[valV 1 1 ⟨#[]⟩] w fun e w' => e = .returned (.bool true) ∧ Below w.heap.size w w' := by
  go_enter Tryz.func99, Tryz.ntmps99
  go_wp2
  go_ret
  exact ⟨rfl, (Below.refl _ _).alloc (Nat.le_refl _) _⟩
set_option maxHeartbeats 1000000 in
theorem refRight_bool2 (s : ByteArray) (w : World) (hs : (s.toList == []) = false) : Calls Tryz.prog 99 #[valV 1 0 s] w fun e w' => e = .returned (.bool false) ∧ Below w.heap.size w w' := by
  go_enter Tryz.func99, Tryz.ntmps99
  go_wp2
  go_ret
  exact ⟨rfl, (Below.refl _ _).alloc (Nat.le_refl _) _⟩
set_option maxHeartbeats 1000000 in
theorem refRight_bool3 (s : ByteArray) (w : World) (hs : (s.toList == []) = false) : Calls Tryz.prog 99 #[valV 1 1 s] w fun e w' => e = .returned (.bool false) ∧ Below w.heap.size w w' := by
  go_enter Tryz.func99, Tryz.ntmps99
  go_wp2
  go_ret
  exact ⟨rfl, (Below.refl _ _).alloc (Nat.le_refl _) _⟩
set_option maxHeartbeats 1000000 in
theorem refRight_bool4 (n : Int) (s : ByteArray) (w : World) (hn : (n == 0) = false) (h1 : (n == 1) = false) : Calls Tryz.prog 99 #[valV 1 n s] w fun e w' => e = .returned (.bool false) ∧ Below w.heap.size w w' := by
  go_enter Tryz.func99, Tryz.ntmps99
  go_wp2
  go_ret
  exact ⟨rfl, (Below.refl _ _).alloc (Nat.le_refl _) _⟩
set_option maxHeartbeats 1000000 in
theorem refRight_int0 (n : Int) (w : World) : Calls Tryz.prog 99 #[valV 2 n ⟨#[]⟩] w fun e w' => e = .returned (.bool true) ∧ Below w.heap.size w w' := by
  go_enter Tryz.func99, Tryz.ntmps99
  go_wp2
  go_ret
  exact ⟨rfl, (Below.refl _ _).alloc (Nat.le_refl _) _⟩
set_option maxHeartbeats 1000000 in
theorem refRight_int1 (n : Int) (s : ByteArray) (w : World) (hs : (s.toList == []) = false) : Calls Tryz.prog 99 #[valV 2 n s] w fun e w' => e = .returned (.bool false) ∧ Below w.heap.size w w' := by
  go_enter Tryz.func99, Tryz.ntmps99
  go_wp2
  go_ret
  exact ⟨rfl, (Below.refl _ _).alloc (Nat.le_refl _) _⟩
set_option maxHeartbeats 1000000 in
theorem refRight_text0 (s : ByteArray) (w : World) (hl : (s.size : Int) ≤ 256) : Calls Tryz.prog 99 #[valV 3 0 s] w fun e w' => e = .returned (.bool true) ∧ Below w.heap.size w w' := by
  go_enter Tryz.func99, Tryz.ntmps99
  go_wp2
  go_ret
  exact ⟨rfl, (Below.refl _ _).alloc (Nat.le_refl _) _⟩
set_option maxHeartbeats 1000000 in
theorem refRight_text1 (n : Int) (s : ByteArray) (w : World) (hn : (n == 0) = false) : Calls Tryz.prog 99 #[valV 3 n s] w fun e w' => e = .returned (.bool false) ∧ Below w.heap.size w w' := by
  go_enter Tryz.func99, Tryz.ntmps99
  go_wp2
  go_ret
  exact ⟨rfl, (Below.refl _ _).alloc (Nat.le_refl _) _⟩
set_option maxHeartbeats 1000000 in
theorem refRight_text2 (s : ByteArray) (w : World) (hl : ¬ (s.size : Int) ≤ 256) : Calls Tryz.prog 99 #[valV 3 0 s] w fun e w' => e = .returned (.bool false) ∧ Below w.heap.size w w' := by
  go_enter Tryz.func99, Tryz.ntmps99
  go_wp2
  go_ret
  exact ⟨rfl, (Below.refl _ _).alloc (Nat.le_refl _) _⟩
theorem refRight_any (k n : Int) (s : ByteArray) (w : World) : Calls Tryz.prog 99 #[valV k n s] w fun e w' => e = .returned (.bool (rightB k n s)) ∧ Below w.heap.size w w' := by
  unfold rightB
  by_cases h0 : k = 0
  · subst h0
    rw [if_pos rfl]
    by_cases hn : n = 0
    · subst hn
      cases hs : s.toList == [] with
      | true => obtain rfl := empty_str hs; simpa using refRight_null0 w
      | false => simpa using refRight_null2 s w hs
    · simpa [hn] using refRight_null1 n s w (by simpa using hn)
  · rw [if_neg h0]
    by_cases h1 : k = 1
    · subst h1
      rw [if_pos rfl]
      by_cases hn : n = 0
      · subst hn
        cases hs : s.toList == [] with
        | true => obtain rfl := empty_str hs; simpa using refRight_bool0 w
        | false => simpa using refRight_bool2 s w hs
      · by_cases hm : n = 1
        · subst hm
          cases hs : s.toList == [] with
          | true => obtain rfl := empty_str hs; simpa using refRight_bool1 w
          | false => simpa using refRight_bool3 s w hs
        · simpa [hn, hm] using refRight_bool4 n s w (by simpa using hn) (by simpa using hm)
    · rw [if_neg h1]
      by_cases h2 : k = 2
      · subst h2
        rw [if_pos rfl]
        cases hs : s.toList == [] with
        | true => obtain rfl := empty_str hs; exact refRight_int0 n w
        | false => exact refRight_int1 n s w hs
      · rw [if_neg h2]
        by_cases h3 : k = 3
        · subst h3
          rw [if_pos rfl]
          by_cases hn : n = 0
          · subst hn
            by_cases hl : (s.size : Int) ≤ 256
            · have e : decide (s.size ≤ 256) = true := decide_eq_true (by omega)
              rw [e]
              exact refRight_text0 s w hl
            · have e : decide (s.size ≤ 256) = false := decide_eq_false (by omega)
              rw [e]
              exact refRight_text2 s w hl
          · rw [decide_eq_false hn]; exact refRight_text1 n s w (by simpa using hn)
        · rw [if_neg h3]
          exact refRight_none k n s w (by simpa using h0) (by simpa using h1) (by simpa using h2) (by simpa using h3)
end Go.Proofs.YtfnfegcjgnbgbaaGreatDoor
