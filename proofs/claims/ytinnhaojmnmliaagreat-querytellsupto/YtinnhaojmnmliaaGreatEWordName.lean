/-
  word.Name and its small functions: a range over a text's runes is a walk over its bytes.
  What a right condition is, node by node; plain facts.
  slices.ContainsFunc of a condition's parts: is one of the same kind?
  expr.right at a node, kind by kind.
-/
import Derived.Test.YtinnhaojmnmliaaGreatEBrief
import Derived.Test.YtinnhaojmnmliaaGreatCExprNodes
import Derived.Test.YtinnhaojmnmliaaGreatCTxt
import Derived.BigQuiet
namespace Go.Proofs.YtinnhaojmnmliaaGreat
open Go.RowKit

set_option maxHeartbeats 400000 in
theorem small_any (r : Int) (w : World) : Calls Tryz.prog 89 #[.int .i32 r] w fun e w' => e = .returned (.bool (smallB r)) ∧ w' = w := by
  go_enter Tryz.func89, Tryz.ntmps89
  go_wp2
  all_goals go_ret
  all_goals refine ⟨ret_bool ?_, rfl⟩
  all_goals (unfold smallB; rw [Bool.eq_iff_iff]; simp <;> omega)
set_option maxHeartbeats 400000 in
theorem fits_any (s : ByteArray) (w : World) : Calls Tryz.prog 90 #[.string s] w fun e w' => e = .returned (.bool (fitsB s)) ∧ w' = w := by
  go_enter Tryz.func90, Tryz.ntmps90
  go_wp2
  all_goals go_ret
  all_goals refine ⟨ret_bool ?_, rfl⟩
  all_goals (unfold fitsB; rw [Bool.eq_iff_iff]; simp <;> omega)

theorem below_iter (w : World) (s : ByteArray) (p : Nat) : Below w.heap.size w (w.iter s p) := (Below.refl _ _).alloc (Nat.le_refl _) _

set_option maxRecDepth 100000 in
set_option maxHeartbeats 4000000 in
theorem name_any (s : ByteArray) (w : World) : Calls Tryz.prog 61 #[.string s] w fun e w' => e = .returned (.bool (nameB s)) ∧ Below w.heap.size w w' := by
  obtain ⟨B, hB⟩ : ∃ B, B = nameB s := ⟨_, rfl⟩
  rw [← hB]
  have HB : Hid (B = nameB s) := hB
  clear hB
  have hfit := fun w' => fits_any s w'
  have HF : Hid (∀ w', Calls Tryz.prog 90 _ w' _) := hfit
  clear hfit
  go_enter Tryz.func61, Tryz.ntmps61
  go_wp2
  go_loopw [] (fun w' => ∃ p : Nat, w' = w.iter s p ∧ Hid (∀ j, j < p → j < s.size → okB (byteAt s j) j = true)) (fun w' => s.size - w'.iterPos w.heap.size)
  case atStart => exact ⟨0, rfl, fun j hj => by omega⟩
  case round =>
    obtain ⟨p, rfl, HP⟩ := hrel
    by_cases hp : p < s.size
    · have hbd := byteAt_bd s p
      by_cases ha : byteAt s p < 128
      · have hnx : ∀ ty, (Instr.next (.pointer (some ⟨w.heap.size, 0, none⟩)) true ty).run Tryz.prog (w.iter s p) = .ok (.tuple #[.bool true, .int .i64 p, .int .i32 (byteAt s p)]) (w.iter s (p + 1)) := fun ty => by
          have e := run_next_any (P := Tryz.prog) w s p ty hp
          rw [rune_byte s p hp ha] at e
          rw [e, Int.toNat_of_nonneg hbd.1]
        obtain ⟨c, hc⟩ : ∃ c, c = byteAt s p := ⟨_, rfl⟩
        have HC : Hid (c = byteAt s p) := hc
        rw [← hc] at hnx hbd ha
        clear hc
        by_cases h1 : 97 ≤ c ∧ c ≤ 122
        · have hs : smallB c = true := decide_eq_true h1
          have HO : Hid (okB c p = true) := by show okB c p = true; unfold okB; rw [hs]; rfl
          have HS : Hid (∀ w', Calls Tryz.prog 89 #[.int .i32 c] w' fun e w'' => e = .returned (.bool true) ∧ w'' = w') := fun w' => by have := small_any c w'; rwa [hs] at this
          obtain ⟨h1a, h1b⟩ := h1
          clear hs
          go_wp2_with (first | (go_at_call 89; refine (HS.out _).mono ?_; rintro e w1 ⟨rfl, hw1⟩; replace hw1 := hw1.symm; subst hw1))
          go_roundw
          case rel => exact ⟨p + 1, rfl, fun j hj hjs => if h : j = p then by rw [h, ← HC.out]; exact HO.out else HP.out j (by omega) hjs⟩
          case measure => simp; omega
        · have hs : smallB c = false := decide_eq_false h1
          have HS : Hid (∀ w', Calls Tryz.prog 89 #[.int .i32 c] w' fun e w'' => e = .returned (.bool false) ∧ w'' = w') := fun w' => by have := small_any c w'; rwa [hs] at this
          by_cases h2 : 48 ≤ c ∧ c ≤ 57 ∨ c = 95
          · have hl : laterB c = true := decide_eq_true h2
            by_cases hp0 : p = 0
            · have HO : Hid (okB c p = false) := by show okB c p = false; unfold okB; rw [hs, hl, hp0]; rfl
              subst hp0
              clear hs hl h1
              rcases h2 with ⟨h2a, h2b⟩ | h2
              · go_wp2_with (first | (go_at_call 89; refine (HS.out _).mono ?_; rintro e w1 ⟨rfl, hw1⟩; replace hw1 := hw1.symm; subst hw1))
                try rw [Exit.noGoto_ret]
                go_ret
                exact ⟨ret_bool (by rw [HB.out, nameB_not _ hp (by rw [← HC.out]; exact HO.out)]), below_iter w s _⟩
              · subst h2
                go_wp2_with (first | (go_at_call 89; refine (HS.out _).mono ?_; rintro e w1 ⟨rfl, hw1⟩; replace hw1 := hw1.symm; subst hw1))
                try rw [Exit.noGoto_ret]
                go_ret
                exact ⟨ret_bool (by rw [HB.out, nameB_not _ hp (by rw [← HC.out]; exact HO.out)]), below_iter w s _⟩
            · have HO : Hid (okB c p = true) := by show okB c p = true; unfold okB; rw [hs, hl]; simp [hp0]
              have hp1 : ¬ (p : Int) = 0 := by omega
              clear hs hl h1
              rcases h2 with ⟨h2a, h2b⟩ | h2
              · go_wp2_with (first | (go_at_call 89; refine (HS.out _).mono ?_; rintro e w1 ⟨rfl, hw1⟩; replace hw1 := hw1.symm; subst hw1))
                go_roundw
                case rel => exact ⟨p + 1, rfl, fun j hj hjs => if h : j = p then by rw [h, ← HC.out]; exact HO.out else HP.out j (by omega) hjs⟩
                case measure => simp; omega
              · subst h2
                go_wp2_with (first | (go_at_call 89; refine (HS.out _).mono ?_; rintro e w1 ⟨rfl, hw1⟩; replace hw1 := hw1.symm; subst hw1))
                go_roundw
                case rel => exact ⟨p + 1, rfl, fun j hj hjs => if h : j = p then by rw [h, ← HC.out]; exact HO.out else HP.out j (by omega) hjs⟩
                case measure => simp; omega
          · have hl : laterB c = false := decide_eq_false h2
            have HO : Hid (okB c p = false) := by show okB c p = false; unfold okB; rw [hs, hl]; rfl
            have h95 : ¬ c = 95 := fun h => h2 (.inr h)
            have h95' : (c == (95 : Int)) = false := by simp [h95]
            clear hs hl h1
            by_cases h48 : 48 ≤ c
            · have h57 : ¬ c ≤ 57 := fun h => h2 (.inl ⟨h48, h⟩)
              clear h2
              by_cases hp0 : p = 0
              · subst hp0
                go_wp2_with (first | (go_at_call 89; refine (HS.out _).mono ?_; rintro e w1 ⟨rfl, hw1⟩; replace hw1 := hw1.symm; subst hw1))
                try rw [Exit.noGoto_ret]
                go_ret
                exact ⟨ret_bool (by rw [HB.out, nameB_not _ hp (by rw [← HC.out]; exact HO.out)]), below_iter w s _⟩
              · have hp1 : ¬ (p : Int) = 0 := by omega
                go_wp2_with (first | (go_at_call 89; refine (HS.out _).mono ?_; rintro e w1 ⟨rfl, hw1⟩; replace hw1 := hw1.symm; subst hw1))
                try rw [Exit.noGoto_ret]
                go_ret
                exact ⟨ret_bool (by rw [HB.out, nameB_not _ hp (by rw [← HC.out]; exact HO.out)]), below_iter w s _⟩
            · clear h2
              by_cases hp0 : p = 0
              · subst hp0
                go_wp2_with (first | (go_at_call 89; refine (HS.out _).mono ?_; rintro e w1 ⟨rfl, hw1⟩; replace hw1 := hw1.symm; subst hw1))
                try rw [Exit.noGoto_ret]
                go_ret
                exact ⟨ret_bool (by rw [HB.out, nameB_not _ hp (by rw [← HC.out]; exact HO.out)]), below_iter w s _⟩
              · have hp1 : ¬ (p : Int) = 0 := by omega
                go_wp2_with (first | (go_at_call 89; refine (HS.out _).mono ?_; rintro e w1 ⟨rfl, hw1⟩; replace hw1 := hw1.symm; subst hw1))
                try rw [Exit.noGoto_ret]
                go_ret
                exact ⟨ret_bool (by rw [HB.out, nameB_not _ hp (by rw [← HC.out]; exact HO.out)]), below_iter w s _⟩
      · obtain ⟨r1, r2, _, _⟩ := rune_over s p hp (by omega)
        have hnx : ∀ ty, (Instr.next (.pointer (some ⟨w.heap.size, 0, none⟩)) true ty).run Tryz.prog (w.iter s p) = _ := fun ty => run_next_any (P := Tryz.prog) w s p ty hp
        have HO : Hid (okB (byteAt s p) p = false) := by
          show okB (byteAt s p) p = false
          unfold okB smallB laterB
          rw [decide_eq_false (by omega), decide_eq_false (by omega)]; rfl
        obtain ⟨c, hc⟩ : ∃ c : Int, c = ((Utf8.decode s p).1 : Int) := ⟨_, rfl⟩
        have hc1 : 128 ≤ c := by omega
        rw [← hc] at hnx
        generalize (Utf8.decode s p).2 = q at hnx
        have hs : smallB c = false := decide_eq_false (by omega)
        have HS : Hid (∀ w', Calls Tryz.prog 89 #[.int .i32 c] w' fun e w'' => e = .returned (.bool false) ∧ w'' = w') := fun w' => by have := small_any c w'; rwa [hs] at this
        have h57 : ¬ c ≤ 57 := by omega
        have h48 : 48 ≤ c := by omega
        have h95 : ¬ c = 95 := by omega
        have h95' : (c == (95 : Int)) = false := by simp [h95]
        clear hs ha r1 r2 hbd hc
        by_cases hp0 : p = 0
        · subst hp0
          go_wp2_with (first | (go_at_call 89; refine (HS.out _).mono ?_; rintro e w1 ⟨rfl, hw1⟩; replace hw1 := hw1.symm; subst hw1))
          try rw [Exit.noGoto_ret]
          go_ret
          exact ⟨ret_bool (by rw [HB.out, nameB_not 0 hp HO.out]), below_iter w s _⟩
        · have hp1 : ¬ (p : Int) = 0 := by omega
          go_wp2_with (first | (go_at_call 89; refine (HS.out _).mono ?_; rintro e w1 ⟨rfl, hw1⟩; replace hw1 := hw1.symm; subst hw1))
          try rw [Exit.noGoto_ret]
          go_ret
          exact ⟨ret_bool (by rw [HB.out, nameB_not p hp HO.out]), below_iter w s _⟩
    · have hnx : ∀ ty, (Instr.next (.pointer (some ⟨w.heap.size, 0, none⟩)) true ty).run Tryz.prog (w.iter s p) = _ := fun ty => run_next_end w s p ty hp
      go_wp2_with (first | (go_at_call 90; refine (HF.out _).mono ?_; rintro e w1 ⟨rfl, hw1⟩; replace hw1 := hw1.symm; subst hw1))
      go_ret
      refine ⟨ret_bool ?_, below_iter w s p⟩
      rw [HB.out, nameB_all (fun j hj => HP.out j (by omega) hj)]
end Go.Proofs.YtinnhaojmnmliaaGreat
namespace Go.Proofs.YtinnhaojmnmliaaGreat
open Go.RowKit

/-- A node is right, but for its parts. -/
def NodeR (y : X) : Prop := (y.k ≠ 1 → y.v = val0) ∧ (y.k ≠ 2 → y.s = ⟨#[]⟩ ∧ y.f = ⟨#[]⟩) ∧
  ((y.k = 1 ∧ y.n = 0 ∧ rightB y.v.k y.v.n y.v.s = true) ∨ (y.k = 2 ∧ y.n = 0 ∧ nameB y.s = true ∧ nameB y.f = true) ∨ ((y.k = 3 ∨ y.k = 15) ∧ y.n = 1) ∨ (4 ≤ y.k ∧ y.k ≤ 14 ∧ y.n = 2) ∨
    ((y.k = 16 ∨ y.k = 17) ∧ 2 ≤ y.n ∧ ∀ i, i < y.n → (y.c i).k ≠ y.k))
def TreeR : X → Prop
  | .nil => NodeR .nil
  | .mk k v s f a n cap c => NodeR (.mk k v s f a n cap c) ∧ ∀ i, i < n → TreeR (c i)
theorem treeR_eq (x : X) : TreeR x ↔ NodeR x ∧ ∀ i, i < x.n → TreeR (x.c i) := by
  cases x with
  | nil => simp [TreeR, X.n]
  | mk => rfl
theorem treeR_vis : ∀ (x : X) (d : Int), TreeR x ↔ ∀ v ∈ visX d x, NodeR v.2 := by
  refine X.ind fun x ih d => ?_
  rw [treeR_eq, visX_eq]
  constructor
  · rintro ⟨h1, h2⟩ v hv
    rcases List.mem_cons.1 hv with rfl | hv
    · exact h1
    · obtain ⟨i, hi, h⟩ := mem_catN.1 hv
      exact (ih i hi _).1 (h2 i hi) v h
  · intro h
    exact ⟨h (d, x) List.mem_cons_self, fun i hi => (ih i hi (IntKind.i64.wrap (d + 1))).2 fun v hv => h v (List.mem_cons_of_mem _ (mem_catN.2 ⟨i, hi, hv⟩))⟩
theorem alZ_zero (x y : X) : alZ x y = 0 ↔ x.k = y.k ∧ x.v = y.v ∧ x.s = y.s ∧ x.f = y.f ∧ x.n = y.n := by
  unfold alZ
  rw [orI_zero, orI_zero, orI_zero, orI_zero, ordV_zero]
  constructor
  · rintro ⟨h1, h2, h3, h4, h5⟩
    exact ⟨cmpI_zero h1, h2, cmpS_zero h3, cmpS_zero h4, by have := cmpI_zero h5; omega⟩
  · rintro ⟨h1, h2, h3, h4, h5⟩
    rw [h1, h3, h4, h5]
    exact ⟨cmpI_self _, h2, cmpS_self _, cmpS_self _, cmpI_self _⟩
/-- The node that has just what its kind has. -/
def ownC (y : X) : X := .mk y.k y.v ⟨#[]⟩ ⟨#[]⟩ none 0 0 (fun _ => .nil)
def ownF (y : X) : X := .mk y.k val0 y.s y.f none 0 0 (fun _ => .nil)
def ownP (y : X) : X := .mk y.k val0 ⟨#[]⟩ ⟨#[]⟩ y.a y.n y.cap y.c
theorem nodeR_C (y : X) (h : y.k = 1) : NodeR y ↔ rightB y.v.k y.v.n y.v.s = true ∧ alZ y (ownC y) = 0 := by
  rw [alZ_zero]
  constructor
  · rintro ⟨h1, h2, h3⟩
    have h4 := h2 (by omega)
    rcases h3 with h3 | h3 | h3 | h3 | h3
    · exact ⟨h3.2.2, rfl, rfl, h4.1, h4.2, h3.2.1⟩
    all_goals omega
  · rintro ⟨h1, -, -, h4, h5, h6⟩
    exact ⟨fun e => absurd h e, fun _ => ⟨h4, h5⟩, .inl ⟨h, h6, h1⟩⟩
theorem nodeR_F (y : X) (h : y.k = 2) : NodeR y ↔ (nameB y.s = true ∧ nameB y.f = true) ∧ alZ y (ownF y) = 0 := by
  rw [alZ_zero]
  constructor
  · rintro ⟨h1, h2, h3⟩
    have h4 := h1 (by omega)
    rcases h3 with h3 | h3 | h3 | h3 | h3
    · omega
    · exact ⟨h3.2.2, rfl, h4, rfl, rfl, h3.2.1⟩
    all_goals omega
  · rintro ⟨h1, -, h3, -, -, h6⟩
    exact ⟨fun _ => h3, fun e => absurd h e, .inr (.inl ⟨h, h6, h1⟩)⟩
theorem nodeR_one (y : X) (h : y.k = 3 ∨ y.k = 15) : NodeR y ↔ y.n = 1 ∧ alZ y (ownP y) = 0 := by
  rw [alZ_zero]
  constructor
  · rintro ⟨h1, h2, h3⟩
    have h4 := h1 (by omega)
    have h5 := h2 (by omega)
    rcases h3 with h3 | h3 | h3 | h3 | h3
    · omega
    · omega
    · exact ⟨h3.2, rfl, h4, h5.1, h5.2, rfl⟩
    all_goals omega
  · rintro ⟨h1, -, h3, h4, h5, -⟩
    exact ⟨fun _ => h3, fun _ => ⟨h4, h5⟩, .inr (.inr (.inl ⟨h, h1⟩))⟩
theorem nodeR_two (y : X) (h : 4 ≤ y.k ∧ y.k ≤ 14) : NodeR y ↔ y.n = 2 ∧ alZ y (ownP y) = 0 := by
  rw [alZ_zero]
  constructor
  · rintro ⟨h1, h2, h3⟩
    have h4 := h1 (by omega)
    have h5 := h2 (by omega)
    rcases h3 with h3 | h3 | h3 | h3 | h3
    · omega
    · omega
    · omega
    · exact ⟨h3.2.2, rfl, h4, h5.1, h5.2, rfl⟩
    · omega
  · rintro ⟨h1, -, h3, h4, h5, -⟩
    exact ⟨fun _ => h3, fun _ => ⟨h4, h5⟩, .inr (.inr (.inr (.inl ⟨h.1, h.2, h1⟩)))⟩
theorem nodeR_many (y : X) (h : y.k = 16 ∨ y.k = 17) : NodeR y ↔ (2 ≤ y.n ∧ ∀ i, i < y.n → (y.c i).k ≠ y.k) ∧ alZ y (ownP y) = 0 := by
  rw [alZ_zero]
  constructor
  · rintro ⟨h1, h2, h3⟩
    have h4 := h1 (by omega)
    have h5 := h2 (by omega)
    rcases h3 with h3 | h3 | h3 | h3 | h3
    · omega
    · omega
    · omega
    · omega
    · exact ⟨h3.2, rfl, h4, h5.1, h5.2, rfl⟩
  · rintro ⟨h1, -, h3, h4, h5, -⟩
    exact ⟨fun _ => h3, fun _ => ⟨h4, h5⟩, .inr (.inr (.inr (.inr ⟨h, h1⟩)))⟩
theorem nodeR_none (y : X) (h : ¬ (1 ≤ y.k ∧ y.k ≤ 17)) : ¬ NodeR y := by
  rintro ⟨-, -, h3⟩
  omega
end Go.Proofs.YtinnhaojmnmliaaGreat
namespace Go.Proofs.YtinnhaojmnmliaaGreat
open Go.RowKit

theorem Node.at00 {w : World} {B : Nat} {x : X} (h : Node w B 0 x) : w.cell? ⟨B, 0, none⟩ = some (.int .i64 x.k) := h.1
set_option maxRecDepth 100000 in
set_option maxHeartbeats 1000000 in
theorem kind_any (z : X) (Bx b o : Nat) (k : Int) (w : World) (hb : w.cell? ⟨Bx, 0, none⟩ = some (.pointer (some ⟨b, o, none⟩))) (hk : w.cell? ⟨b, o, none⟩ = some (.int .i64 k)) :
    Calls Tryz.prog 108 #[z.val, .pointer (some ⟨Bx, 0, none⟩)] w fun e w' => e = .returned (.bool (z.k == k)) ∧ Below w.heap.size w w' := by
  obtain ⟨A, hA⟩ : ∃ A, w.alloc (.cells z.cells 32) = A := ⟨_, rfl⟩
  have hB : Below w.heap.size w A := by rw [← hA]; exact (Below.refl _ w).alloc (Nat.le_refl _) _
  have n0 : A.cell? ⟨w.heap.size, 0, none⟩ = some (.int .i64 z.k) := by rw [← hA]; exact (node_new w _ z).1
  have c1 := cell_later hb hB
  have c2 := cell_later hk hB
  have HB : Hid (Below w.heap.size w A) := hB
  clear hb hk hB
  go_enter Tryz.func108, Tryz.ntmps108
  go_wp2_with fail
  go_quiet (fail)
  go_wp2
  go_ret
  exact ⟨rfl, bd HB.out _⟩
set_option maxRecDepth 100000 in
set_option maxHeartbeats 1000000 in
theorem kinds_index (y : X) (Bx b o : Nat) (k : Int) (w : World) (hY : IsX w y) (hb : w.cell? ⟨Bx, 0, none⟩ = some (.pointer (some ⟨b, o, none⟩))) (hk : w.cell? ⟨b, o, none⟩ = some (.int .i64 k)) :
    Calls Tryz.prog 88 #[.slice y.a y.n y.cap, .func (.func 108) #[] #[.pointer (some ⟨Bx, 0, none⟩)]] w fun e w' => ∃ r : Int, e = .returned (.int .i64 r) ∧ (0 ≤ r ↔ ∃ i, i < y.n ∧ (y.c i).k = k) ∧ Below w.heap.size w w' := by
  have HY : Hid (IsX w y) := hY
  have hlen := hY.len
  obtain ⟨a, ha⟩ : ∃ a, a = y.a := ⟨_, rfl⟩
  rw [← ha]
  have HA : Hid (a = y.a) := ha
  clear ha
  have Hb : Hid (w.cell? ⟨Bx, 0, none⟩ = some (.pointer (some ⟨b, o, none⟩))) := hb
  have Hk : Hid (w.cell? ⟨b, o, none⟩ = some (.int .i64 k)) := hk
  clear hY hb hk
  go_enter Tryz.func88, Tryz.ntmps88
  go_wp2
  go_loopw [8] (fun u wr => ∃ i : Nat, i ≤ y.n ∧ u = .int .i64 i ∧ Hid (∀ j, j < i → (y.c j).k ≠ k) ∧ Below w.heap.size w wr) (fun u _ => y.n - (intOf u).toNat)
  case atStart => exact ⟨0, Nat.zero_le _, rfl, fun j hj => by omega, Below.refl _ _⟩
  case round =>
    obtain ⟨i, hi, rfl, HI, hB⟩ := hrel
    by_cases hin : i < y.n
    · obtain ⟨b2, o2, ea, hn, hx⟩ := (HY.out.later hB).part hin
      rw [← HA.out] at ea
      subst ea
      obtain ⟨d0, d1, d2, d3, d4, d5, d6⟩ := hn
      have hc := kind_any (y.c i) Bx b o k wr (cell_later Hb.out hB) (cell_later Hk.out hB)
      have HK : Hid (i < y.n) := hin
      clear hx
      by_cases hv : (y.c i).k = k
      · have hv' : ((y.c i).k == k) = true := by simpa using hv
        have HV : Hid ((y.c i).k = k) := hv
        rw [hv'] at hc
        clear hv hv'
        go_wp2_with (go_at_call 108; refine hc.mono ?_; rintro e w2 ⟨rfl, hB2⟩)
        try rw [Exit.noGoto_ret]
        go_ret
        exact ⟨_, rfl, ⟨fun _ => ⟨i, HK.out, HV.out⟩, fun _ => by omega⟩, hB.trans (hB2.mono hB.size)⟩
      · have hv' : ((y.c i).k == k) = false := by simpa using hv
        have HV : Hid (¬ (y.c i).k = k) := hv
        rw [hv'] at hc
        clear hv hv'
        go_wp2_with (go_at_call 108; refine hc.mono ?_; rintro e w2 ⟨rfl, hB2⟩)
        go_roundw
        case rel => exact ⟨i + 1, HK.out, by go_num, fun j hj => by by_cases e : j = i; (· rw [e]; exact HV.out); exact HI.out j (by omega), hB.trans (hB2.mono hB.size)⟩
        case measure => have := HK.out; simp [intOf]; omega
    · obtain rfl : i = y.n := by omega
      go_wp2
      go_ret
      refine ⟨_, rfl, ⟨fun h => by omega, fun ⟨j, hj, e⟩ => absurd e (HI.out j hj)⟩, hB⟩
set_option maxRecDepth 100000 in
set_option maxHeartbeats 1000000 in
theorem kinds_any (y : X) (Bx b o : Nat) (k : Int) (w : World) (hY : IsX w y) (hb : w.cell? ⟨Bx, 0, none⟩ = some (.pointer (some ⟨b, o, none⟩))) (hk : w.cell? ⟨b, o, none⟩ = some (.int .i64 k)) :
    Calls Tryz.prog 59 #[.slice y.a y.n y.cap, .func (.func 108) #[] #[.pointer (some ⟨Bx, 0, none⟩)]] w fun e w' => ∃ r : Bool, e = .returned (.bool r) ∧ (r = true ↔ ∃ i, i < y.n ∧ (y.c i).k = k) ∧ Below w.heap.size w w' := by
  have hc := kinds_index y Bx b o k w hY hb hk
  clear hY hb hk
  go_enter Tryz.func59, Tryz.ntmps59
  go_wp2_with (go_at_call 88; refine hc.mono ?_; rintro e w2 ⟨r, rfl, hr, hB2⟩; have HR : Hid (0 ≤ r ↔ ∃ i, i < y.n ∧ (y.c i).k = k) := hr; clear hr)
  go_ret
  exact ⟨decide (0 ≤ r), rfl, by rw [← HR.out]; simp, hB2⟩
end Go.Proofs.YtinnhaojmnmliaaGreat
namespace Go.Proofs.YtinnhaojmnmliaaGreat
open Go.RowKit

/-- The world in which expr.right has its own two boxes. -/
abbrev two1 (w : World) (b o : Nat) (q : X) : World := (w.alloc (.cells #[.pointer (some ⟨b, o, none⟩)] 81)).alloc (.cells q.cells 32)
theorem two1_facts (w : World) (b o : Nat) (y q : X) (h : Node w b o y) : Boxed (two1 w b o q) w.heap.size 81 (.pointer (some ⟨b, o, none⟩)) ∧ Node (two1 w b o q) b o y ∧ Node (two1 w b o q) (w.heap.size + 1) 0 q ∧ Below w.heap.size w (two1 w b o q) := by
  have hB : Below w.heap.size w (two1 w b o q) := ((Below.refl _ w).alloc (Nat.le_refl _) _).alloc (by simp) _
  refine ⟨(Boxed.new w _ _).alloc _, h.later hB, ?_, hB⟩
  have := node_new (w.alloc (.cells #[.pointer (some ⟨b, o, none⟩)] 81)) 32 q
  rwa [World.size_alloc] at this
/-- What has been drawn is nothing that Below asks. -/
theorem undrawn {V E w2 : World} (h : Below V.heap.size V w2) (e1 : V.os = E.os) (e2 : V.tape = E.tape) (e3 : V.output = E.output) (e4 : V.heap = E.heap) : Below E.heap.size E w2 :=
  ⟨h.os.trans e1, h.tape.trans e2, h.output.trans e3, by rw [← e4]; exact h.size, fun k hk => by rw [← e4] at hk ⊢; exact h.block k hk⟩
theorem on_box {E w2 : World} {B : Nat} {t : TypeId} {v : Value} (h : Boxed E B t v) (hB : Below E.heap.size E w2) : Boxed w2 B t v := Boxed.kept_of h hB h.lt
set_option maxRecDepth 100000 in
set_option maxHeartbeats 2000000 in
theorem right_C_true (b o : Nat) (y : X) (w : World) (hN : Node w b o y) (hk : y.k = 1) (hr : rightB y.v.k y.v.n y.v.s = true) :
    Calls Tryz.prog 87 #[.pointer (some ⟨b, o, none⟩)] w fun e w' => e = .returned (.bool (alZ y (X.mk 1 y.v ⟨#[]⟩ ⟨#[]⟩ none 0 0 (fun _ => .nil)) == 0)) ∧ Below w.heap.size w w' := by
  have hE : Hid (∀ q : X, Boxed (two1 w b o q) w.heap.size 81 (.pointer (some ⟨b, o, none⟩)) ∧ Node (two1 w b o q) b o y ∧ Node (two1 w b o q) (w.heap.size + 1) 0 q ∧ Below w.heap.size w (two1 w b o q)) := fun q => two1_facts w b o y q hN
  have one : ∀ o1 : Obj, Node (w.alloc o1) b o y := fun o1 => hN.later ((Below.refl _ w).alloc (Nat.le_refl _) _)
  have cells : ∀ o1 o2 : Obj, Node ((w.alloc o1).alloc o2) b o y := fun o1 o2 => hN.later (((Below.refl _ w).alloc (Nat.le_refl _) _).alloc (by simp) _)
  have a0 : ∀ o1 : Obj, (w.alloc o1).cell? ⟨b, o, none⟩ = some (.int .i64 1) := fun o1 => by rw [← hk]; exact (one o1).1
  have a6 : ∀ o1 : Obj, (w.alloc o1).cell? ⟨b, o + 6, none⟩ = some (.slice y.a y.n y.cap) := fun o1 => (one o1).2.2.2.2.2.2
  have c0 : ∀ o1 o2 : Obj, ((w.alloc o1).alloc o2).cell? ⟨b, o, none⟩ = some (.int .i64 1) := fun o1 o2 => by rw [← hk]; exact (cells o1 o2).1
  have c1 : ∀ o1 o2 : Obj, ((w.alloc o1).alloc o2).cell? ⟨b, o + 1, none⟩ = some (.int .i64 y.v.k) := fun o1 o2 => (cells o1 o2).2.1
  have c2 : ∀ o1 o2 : Obj, ((w.alloc o1).alloc o2).cell? ⟨b, o + 2, none⟩ = some (.int .i64 y.v.n) := fun o1 o2 => (cells o1 o2).2.2.1
  have c3 : ∀ o1 o2 : Obj, ((w.alloc o1).alloc o2).cell? ⟨b, o + 3, none⟩ = some (.string y.v.s) := fun o1 o2 => (cells o1 o2).2.2.2.1
  have c6 : ∀ o1 o2 : Obj, ((w.alloc o1).alloc o2).cell? ⟨b, o + 6, none⟩ = some (.slice y.a y.n y.cap) := fun o1 o2 => (cells o1 o2).2.2.2.2.2.2
  have hB6 : Hid True := trivial
  have hR : Hid (∀ d, Calls Tryz.prog 107 #[valV y.v.k y.v.n y.v.s] d fun e w' => e = .returned (.bool true) ∧ Below d.heap.size d w') := fun d => by have := right_any y.v.k y.v.n y.v.s d; rw [hr] at this; exact this
  clear hr
  clear hN one cells hB6
  go_enter Tryz.func87, Tryz.ntmps87
  go_wp2_with fail
  go_region
  go_wp2_with fail
  go_region
  go_wp2_with (first
    | (go_at_call 107; refine (hR.out _).mono ?_; rintro e x1 ⟨rfl, hN1⟩; have hT1 : Below (two1 w b o (X.mk 1 y.v ⟨#[]⟩ ⟨#[]⟩ none 0 0 (fun _ => .nil))).heap.size (two1 w b o (X.mk 1 y.v ⟨#[]⟩ ⟨#[]⟩ none 0 0 (fun _ => .nil))) x1 := undrawn hN1 rfl rfl rfl rfl; clear hN1; have bx1 := (on_box (hE.out (X.mk 1 y.v ⟨#[]⟩ ⟨#[]⟩ none 0 0 (fun _ => .nil))).1 hT1).cell)
    | (go_at_call 95; refine (alone_any b o (w.heap.size + 1) 0 y (X.mk 1 y.v ⟨#[]⟩ ⟨#[]⟩ none 0 0 (fun _ => .nil)) _ ((hE.out (X.mk 1 y.v ⟨#[]⟩ ⟨#[]⟩ none 0 0 (fun _ => .nil))).2.1.later hT1) ((hE.out (X.mk 1 y.v ⟨#[]⟩ ⟨#[]⟩ none 0 0 (fun _ => .nil))).2.2.1.later hT1)).mono ?_; rintro e x9 ⟨rfl, hN9⟩))
  go_ret
  exact ⟨rfl, (hE.out (X.mk 1 y.v ⟨#[]⟩ ⟨#[]⟩ none 0 0 (fun _ => .nil))).2.2.2.trans ((hT1.trans (hN9.mono hT1.size)).mono (hE.out (X.mk 1 y.v ⟨#[]⟩ ⟨#[]⟩ none 0 0 (fun _ => .nil))).2.2.2.size)⟩
set_option maxRecDepth 100000 in
set_option maxHeartbeats 2000000 in
theorem right_C_false (b o : Nat) (y : X) (w : World) (hN : Node w b o y) (hk : y.k = 1) (hr : rightB y.v.k y.v.n y.v.s = false) :
    Calls Tryz.prog 87 #[.pointer (some ⟨b, o, none⟩)] w fun e w' => e = .returned (.bool false) ∧ Below w.heap.size w w' := by
  have hE : Hid (∀ q : X, Boxed (two1 w b o q) w.heap.size 81 (.pointer (some ⟨b, o, none⟩)) ∧ Node (two1 w b o q) b o y ∧ Node (two1 w b o q) (w.heap.size + 1) 0 q ∧ Below w.heap.size w (two1 w b o q)) := fun q => two1_facts w b o y q hN
  have one : ∀ o1 : Obj, Node (w.alloc o1) b o y := fun o1 => hN.later ((Below.refl _ w).alloc (Nat.le_refl _) _)
  have cells : ∀ o1 o2 : Obj, Node ((w.alloc o1).alloc o2) b o y := fun o1 o2 => hN.later (((Below.refl _ w).alloc (Nat.le_refl _) _).alloc (by simp) _)
  have a0 : ∀ o1 : Obj, (w.alloc o1).cell? ⟨b, o, none⟩ = some (.int .i64 1) := fun o1 => by rw [← hk]; exact (one o1).1
  have a6 : ∀ o1 : Obj, (w.alloc o1).cell? ⟨b, o + 6, none⟩ = some (.slice y.a y.n y.cap) := fun o1 => (one o1).2.2.2.2.2.2
  have c0 : ∀ o1 o2 : Obj, ((w.alloc o1).alloc o2).cell? ⟨b, o, none⟩ = some (.int .i64 1) := fun o1 o2 => by rw [← hk]; exact (cells o1 o2).1
  have c1 : ∀ o1 o2 : Obj, ((w.alloc o1).alloc o2).cell? ⟨b, o + 1, none⟩ = some (.int .i64 y.v.k) := fun o1 o2 => (cells o1 o2).2.1
  have c2 : ∀ o1 o2 : Obj, ((w.alloc o1).alloc o2).cell? ⟨b, o + 2, none⟩ = some (.int .i64 y.v.n) := fun o1 o2 => (cells o1 o2).2.2.1
  have c3 : ∀ o1 o2 : Obj, ((w.alloc o1).alloc o2).cell? ⟨b, o + 3, none⟩ = some (.string y.v.s) := fun o1 o2 => (cells o1 o2).2.2.2.1
  have c6 : ∀ o1 o2 : Obj, ((w.alloc o1).alloc o2).cell? ⟨b, o + 6, none⟩ = some (.slice y.a y.n y.cap) := fun o1 o2 => (cells o1 o2).2.2.2.2.2.2
  have hB6 : Hid True := trivial
  have hR : Hid (∀ d, Calls Tryz.prog 107 #[valV y.v.k y.v.n y.v.s] d fun e w' => e = .returned (.bool false) ∧ Below d.heap.size d w') := fun d => by have := right_any y.v.k y.v.n y.v.s d; rw [hr] at this; exact this
  clear hr
  clear hN one cells hB6
  go_enter Tryz.func87, Tryz.ntmps87
  go_wp2_with fail
  go_region
  go_wp2_with fail
  go_region
  go_wp2_with (first
    | (go_at_call 107; refine (hR.out _).mono ?_; rintro e x1 ⟨rfl, hN1⟩; have hT1 : Below (two1 w b o (X.mk 1 y.v ⟨#[]⟩ ⟨#[]⟩ none 0 0 (fun _ => .nil))).heap.size (two1 w b o (X.mk 1 y.v ⟨#[]⟩ ⟨#[]⟩ none 0 0 (fun _ => .nil))) x1 := undrawn hN1 rfl rfl rfl rfl; clear hN1; have bx1 := (on_box (hE.out (X.mk 1 y.v ⟨#[]⟩ ⟨#[]⟩ none 0 0 (fun _ => .nil))).1 hT1).cell))
  go_ret
  exact ⟨rfl, (hE.out (X.mk 1 y.v ⟨#[]⟩ ⟨#[]⟩ none 0 0 (fun _ => .nil))).2.2.2.trans (hT1.mono (hE.out (X.mk 1 y.v ⟨#[]⟩ ⟨#[]⟩ none 0 0 (fun _ => .nil))).2.2.2.size)⟩
set_option maxRecDepth 100000 in
set_option maxHeartbeats 2000000 in
theorem right_F_ttrue (b o : Nat) (y : X) (w : World) (hN : Node w b o y) (hk : y.k = 2) (h1 : nameB y.s = true) (h2 : nameB y.f = true) :
    Calls Tryz.prog 87 #[.pointer (some ⟨b, o, none⟩)] w fun e w' => e = .returned (.bool (alZ y (X.mk 2 val0 y.s y.f none 0 0 (fun _ => .nil)) == 0)) ∧ Below w.heap.size w w' := by
  have hE : Hid (∀ q : X, Boxed (two1 w b o q) w.heap.size 81 (.pointer (some ⟨b, o, none⟩)) ∧ Node (two1 w b o q) b o y ∧ Node (two1 w b o q) (w.heap.size + 1) 0 q ∧ Below w.heap.size w (two1 w b o q)) := fun q => two1_facts w b o y q hN
  have one : ∀ o1 : Obj, Node (w.alloc o1) b o y := fun o1 => hN.later ((Below.refl _ w).alloc (Nat.le_refl _) _)
  have cells : ∀ o1 o2 : Obj, Node ((w.alloc o1).alloc o2) b o y := fun o1 o2 => hN.later (((Below.refl _ w).alloc (Nat.le_refl _) _).alloc (by simp) _)
  have a0 : ∀ o1 : Obj, (w.alloc o1).cell? ⟨b, o, none⟩ = some (.int .i64 2) := fun o1 => by rw [← hk]; exact (one o1).1
  have a6 : ∀ o1 : Obj, (w.alloc o1).cell? ⟨b, o + 6, none⟩ = some (.slice y.a y.n y.cap) := fun o1 => (one o1).2.2.2.2.2.2
  have c0 : ∀ o1 o2 : Obj, ((w.alloc o1).alloc o2).cell? ⟨b, o, none⟩ = some (.int .i64 2) := fun o1 o2 => by rw [← hk]; exact (cells o1 o2).1
  have c4 : ∀ o1 o2 : Obj, ((w.alloc o1).alloc o2).cell? ⟨b, o + 4, none⟩ = some (.string y.s) := fun o1 o2 => (cells o1 o2).2.2.2.2.1
  have c5 : ∀ o1 o2 : Obj, ((w.alloc o1).alloc o2).cell? ⟨b, o + 5, none⟩ = some (.string y.f) := fun o1 o2 => (cells o1 o2).2.2.2.2.2.1
  have c6 : ∀ o1 o2 : Obj, ((w.alloc o1).alloc o2).cell? ⟨b, o + 6, none⟩ = some (.slice y.a y.n y.cap) := fun o1 o2 => (cells o1 o2).2.2.2.2.2.2
  have hB6 : Hid True := trivial
  have hR1 : Hid (∀ d, Calls Tryz.prog 61 #[.string y.s] d fun e w' => e = .returned (.bool true) ∧ Below d.heap.size d w') := fun d => by have := name_any y.s d; rw [h1] at this; exact this
  have hR2 : Hid (∀ d, Calls Tryz.prog 61 #[.string y.f] d fun e w' => e = .returned (.bool true) ∧ Below d.heap.size d w') := fun d => by have := name_any y.f d; rw [h2] at this; exact this
  clear h1 h2
  clear hN one cells hB6
  go_enter Tryz.func87, Tryz.ntmps87
  go_wp2_with fail
  go_region
  go_wp2_with fail
  go_region
  go_wp2_with (first
    | (go_at_call 61; refine (hR1.out _).mono ?_; rintro e x1 ⟨rfl, hN1⟩; have hT1 : Below (two1 w b o (X.mk 2 val0 y.s y.f none 0 0 (fun _ => .nil))).heap.size (two1 w b o (X.mk 2 val0 y.s y.f none 0 0 (fun _ => .nil))) x1 := undrawn hN1 rfl rfl rfl rfl; clear hN1; have bx1 := (on_box (hE.out (X.mk 2 val0 y.s y.f none 0 0 (fun _ => .nil))).1 hT1).cell; clear hR1; have n1 := ((hE.out (X.mk 2 val0 y.s y.f none 0 0 (fun _ => .nil))).2.1.later hT1).2.2.2.2.2.1)
    | (go_at_call 61; refine (hR2.out _).mono ?_; rintro e x2 ⟨rfl, hN2⟩; have hT2 := hT1.trans (hN2.mono hT1.size); clear hN2; have bx2 := (on_box (hE.out (X.mk 2 val0 y.s y.f none 0 0 (fun _ => .nil))).1 hT2).cell)
    | (go_at_call 95; refine (alone_any b o (w.heap.size + 1) 0 y (X.mk 2 val0 y.s y.f none 0 0 (fun _ => .nil)) _ ((hE.out (X.mk 2 val0 y.s y.f none 0 0 (fun _ => .nil))).2.1.later hT2) ((hE.out (X.mk 2 val0 y.s y.f none 0 0 (fun _ => .nil))).2.2.1.later hT2)).mono ?_; rintro e x9 ⟨rfl, hN9⟩))
  go_ret
  exact ⟨rfl, (hE.out (X.mk 2 val0 y.s y.f none 0 0 (fun _ => .nil))).2.2.2.trans ((hT2.trans (hN9.mono hT2.size)).mono (hE.out (X.mk 2 val0 y.s y.f none 0 0 (fun _ => .nil))).2.2.2.size)⟩
set_option maxRecDepth 100000 in
set_option maxHeartbeats 2000000 in
theorem right_F_tfalse (b o : Nat) (y : X) (w : World) (hN : Node w b o y) (hk : y.k = 2) (h1 : nameB y.s = true) (h2 : nameB y.f = false) :
    Calls Tryz.prog 87 #[.pointer (some ⟨b, o, none⟩)] w fun e w' => e = .returned (.bool false) ∧ Below w.heap.size w w' := by
  have hE : Hid (∀ q : X, Boxed (two1 w b o q) w.heap.size 81 (.pointer (some ⟨b, o, none⟩)) ∧ Node (two1 w b o q) b o y ∧ Node (two1 w b o q) (w.heap.size + 1) 0 q ∧ Below w.heap.size w (two1 w b o q)) := fun q => two1_facts w b o y q hN
  have one : ∀ o1 : Obj, Node (w.alloc o1) b o y := fun o1 => hN.later ((Below.refl _ w).alloc (Nat.le_refl _) _)
  have cells : ∀ o1 o2 : Obj, Node ((w.alloc o1).alloc o2) b o y := fun o1 o2 => hN.later (((Below.refl _ w).alloc (Nat.le_refl _) _).alloc (by simp) _)
  have a0 : ∀ o1 : Obj, (w.alloc o1).cell? ⟨b, o, none⟩ = some (.int .i64 2) := fun o1 => by rw [← hk]; exact (one o1).1
  have a6 : ∀ o1 : Obj, (w.alloc o1).cell? ⟨b, o + 6, none⟩ = some (.slice y.a y.n y.cap) := fun o1 => (one o1).2.2.2.2.2.2
  have c0 : ∀ o1 o2 : Obj, ((w.alloc o1).alloc o2).cell? ⟨b, o, none⟩ = some (.int .i64 2) := fun o1 o2 => by rw [← hk]; exact (cells o1 o2).1
  have c4 : ∀ o1 o2 : Obj, ((w.alloc o1).alloc o2).cell? ⟨b, o + 4, none⟩ = some (.string y.s) := fun o1 o2 => (cells o1 o2).2.2.2.2.1
  have c5 : ∀ o1 o2 : Obj, ((w.alloc o1).alloc o2).cell? ⟨b, o + 5, none⟩ = some (.string y.f) := fun o1 o2 => (cells o1 o2).2.2.2.2.2.1
  have c6 : ∀ o1 o2 : Obj, ((w.alloc o1).alloc o2).cell? ⟨b, o + 6, none⟩ = some (.slice y.a y.n y.cap) := fun o1 o2 => (cells o1 o2).2.2.2.2.2.2
  have hB6 : Hid True := trivial
  have hR1 : Hid (∀ d, Calls Tryz.prog 61 #[.string y.s] d fun e w' => e = .returned (.bool true) ∧ Below d.heap.size d w') := fun d => by have := name_any y.s d; rw [h1] at this; exact this
  have hR2 : Hid (∀ d, Calls Tryz.prog 61 #[.string y.f] d fun e w' => e = .returned (.bool false) ∧ Below d.heap.size d w') := fun d => by have := name_any y.f d; rw [h2] at this; exact this
  clear h1 h2
  clear hN one cells hB6
  go_enter Tryz.func87, Tryz.ntmps87
  go_wp2_with fail
  go_region
  go_wp2_with fail
  go_region
  go_wp2_with (first
    | (go_at_call 61; refine (hR1.out _).mono ?_; rintro e x1 ⟨rfl, hN1⟩; have hT1 : Below (two1 w b o (X.mk 2 val0 y.s y.f none 0 0 (fun _ => .nil))).heap.size (two1 w b o (X.mk 2 val0 y.s y.f none 0 0 (fun _ => .nil))) x1 := undrawn hN1 rfl rfl rfl rfl; clear hN1; have bx1 := (on_box (hE.out (X.mk 2 val0 y.s y.f none 0 0 (fun _ => .nil))).1 hT1).cell; clear hR1; have n1 := ((hE.out (X.mk 2 val0 y.s y.f none 0 0 (fun _ => .nil))).2.1.later hT1).2.2.2.2.2.1)
    | (go_at_call 61; refine (hR2.out _).mono ?_; rintro e x2 ⟨rfl, hN2⟩; have hT2 := hT1.trans (hN2.mono hT1.size); clear hN2; have bx2 := (on_box (hE.out (X.mk 2 val0 y.s y.f none 0 0 (fun _ => .nil))).1 hT2).cell))
  go_ret
  exact ⟨rfl, (hE.out (X.mk 2 val0 y.s y.f none 0 0 (fun _ => .nil))).2.2.2.trans (hT2.mono (hE.out (X.mk 2 val0 y.s y.f none 0 0 (fun _ => .nil))).2.2.2.size)⟩
set_option maxRecDepth 100000 in
set_option maxHeartbeats 2000000 in
theorem right_F_false (b o : Nat) (y : X) (w : World) (hN : Node w b o y) (hk : y.k = 2) (h1 : nameB y.s = false) :
    Calls Tryz.prog 87 #[.pointer (some ⟨b, o, none⟩)] w fun e w' => e = .returned (.bool false) ∧ Below w.heap.size w w' := by
  have hE : Hid (∀ q : X, Boxed (two1 w b o q) w.heap.size 81 (.pointer (some ⟨b, o, none⟩)) ∧ Node (two1 w b o q) b o y ∧ Node (two1 w b o q) (w.heap.size + 1) 0 q ∧ Below w.heap.size w (two1 w b o q)) := fun q => two1_facts w b o y q hN
  have one : ∀ o1 : Obj, Node (w.alloc o1) b o y := fun o1 => hN.later ((Below.refl _ w).alloc (Nat.le_refl _) _)
  have cells : ∀ o1 o2 : Obj, Node ((w.alloc o1).alloc o2) b o y := fun o1 o2 => hN.later (((Below.refl _ w).alloc (Nat.le_refl _) _).alloc (by simp) _)
  have a0 : ∀ o1 : Obj, (w.alloc o1).cell? ⟨b, o, none⟩ = some (.int .i64 2) := fun o1 => by rw [← hk]; exact (one o1).1
  have a6 : ∀ o1 : Obj, (w.alloc o1).cell? ⟨b, o + 6, none⟩ = some (.slice y.a y.n y.cap) := fun o1 => (one o1).2.2.2.2.2.2
  have c0 : ∀ o1 o2 : Obj, ((w.alloc o1).alloc o2).cell? ⟨b, o, none⟩ = some (.int .i64 2) := fun o1 o2 => by rw [← hk]; exact (cells o1 o2).1
  have c4 : ∀ o1 o2 : Obj, ((w.alloc o1).alloc o2).cell? ⟨b, o + 4, none⟩ = some (.string y.s) := fun o1 o2 => (cells o1 o2).2.2.2.2.1
  have c5 : ∀ o1 o2 : Obj, ((w.alloc o1).alloc o2).cell? ⟨b, o + 5, none⟩ = some (.string y.f) := fun o1 o2 => (cells o1 o2).2.2.2.2.2.1
  have c6 : ∀ o1 o2 : Obj, ((w.alloc o1).alloc o2).cell? ⟨b, o + 6, none⟩ = some (.slice y.a y.n y.cap) := fun o1 o2 => (cells o1 o2).2.2.2.2.2.2
  have hB6 : Hid True := trivial
  have hR1 : Hid (∀ d, Calls Tryz.prog 61 #[.string y.s] d fun e w' => e = .returned (.bool false) ∧ Below d.heap.size d w') := fun d => by have := name_any y.s d; rw [h1] at this; exact this
  clear h1
  clear hN one cells hB6
  go_enter Tryz.func87, Tryz.ntmps87
  go_wp2_with fail
  go_region
  go_wp2_with fail
  go_region
  go_wp2_with (first
    | (go_at_call 61; refine (hR1.out _).mono ?_; rintro e x1 ⟨rfl, hN1⟩; have hT1 : Below (two1 w b o (X.mk 2 val0 y.s y.f none 0 0 (fun _ => .nil))).heap.size (two1 w b o (X.mk 2 val0 y.s y.f none 0 0 (fun _ => .nil))) x1 := undrawn hN1 rfl rfl rfl rfl; clear hN1; have bx1 := (on_box (hE.out (X.mk 2 val0 y.s y.f none 0 0 (fun _ => .nil))).1 hT1).cell; clear hR1))
  go_ret
  exact ⟨rfl, (hE.out (X.mk 2 val0 y.s y.f none 0 0 (fun _ => .nil))).2.2.2.trans (hT1.mono (hE.out (X.mk 2 val0 y.s y.f none 0 0 (fun _ => .nil))).2.2.2.size)⟩
end Go.Proofs.YtinnhaojmnmliaaGreat
