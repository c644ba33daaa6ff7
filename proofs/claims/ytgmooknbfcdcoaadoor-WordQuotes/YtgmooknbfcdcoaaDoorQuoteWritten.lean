/-
  word.written and word.Quote: any text, quoted.
-/
import Derived.Test.YtgmooknbfcdcoaaDoorQuoteBehind
import Derived.Test.YtgmooknbfcdcoaaDoorHeld
import Derived.Laws.BitsAllLaws
namespace Go.Proofs.YtgmooknbfcdcoaaDoor
open Go.RowKit

/-- A literal of bytes. -/
theorem isBytes_lit (w : World) (l : List Int) (hb : ∀ c ∈ l, 0 ≤ c ∧ c ≤ 255) (hl : l.length ≤ 1000) : IsBytes (w.alloc (.cells (cellsOf l).toArray 5)) (some ⟨w.heap.size, 0, none⟩) l.length l.length l := by
  refine ⟨rfl, Nat.le_refl _, by unfold maxLen; omega, (by intro h; cases h), ?_, fun _ => ⟨w.heap.size, 0, rfl, ?_⟩⟩
  · intro j
    by_cases hj : j < l.length
    · simpa [hj] using hb l[j] (List.getElem_mem hj)
    · simp [Nat.not_lt.1 hj]
  · intro j hj
    rw [World.cell?_alloc_mark]
    simp [cellsOf, hj]
/-- .. appended onto what the call owns. -/
theorem append_lit {w : World} {base L : Nat} {v : Value} {l : List Int} (hown : w.ownsRow base 5 1 v L (cellsOf l)) (hb : base ≤ w.heap.size) (m : List Int) (hm : ∀ c ∈ m, 0 ≤ c ∧ c ≤ 255) (hl : m.length ≤ 1000) (hbd : L + m.length ≤ 140737488355328) :
    ∃ v' w', (Builtin.append_ #[34, 34] 34 #[v, .slice (some ⟨w.heap.size, 0, none⟩) m.length m.length]).run Tryd.prog (w.alloc (.cells (cellsOf m).toArray 5)) = .ok v' w' ∧
      w'.ownsRow base 5 1 v' (L + m.length) (cellsOf (l ++ m)) ∧ Below base w w' := by
  obtain ⟨v', w', hr, ho, hg⟩ := append_in (hown.alloc (.cells (cellsOf m).toArray 5)) (isBytes_lit w m hm hl) (by simp; omega) hbd
  exact ⟨v', w', hr, ho, ((Below.refl base w).alloc hb _).grown hg (by simp; omega) (fun k hk => (hown.lt k hk).1)⟩
theorem and15 (c : Int) (h0 : 0 ≤ c) (h1 : c ≤ 255) : bits .and .u8 c 15 = c % 16 := by
  have h : ∀ n : Fin 256, bits .and .u8 (n.val : Int) 15 = (n.val : Int) % 16 := by decide +kernel
  have := h ⟨c.toNat, by omega⟩
  rwa [show ((⟨c.toNat, by omega⟩ : Fin 256).val : Int) = c by show (c.toNat : Int) = c; omega] at this

/-- An append at a step of a region that draws its order, by its run. -/
theorem wpOp_append_run {P : Program} {w w' : World} {o : Oper} {a : Act} {K : Act → World → Prop} {Q : Exit → Act → World → Prop} (s x : Operand) (t : TypeId)
    (hop : o.op = Op.call { callee := Callee.builtin Builtin.append, args := #[s, x], argTypes := #[t, t] }) (v y v' : Value) (hs : a.eval s = v) (hx : a.eval x = y)
    (hrun : (Builtin.append_ #[t, t] o.type #[v, y]).run P w = .ok v' w') (hK : K (a.put o.dst v') w') : Oper.wp P o a w K Q := by
  unfold Oper.wp
  simp [execOp, hop, resolve, invoke, builtin, hs, hx, hrun, Result.andThen]
  exact hK
set_option maxRecDepth 100000 in
set_option maxHeartbeats 4000000 in
theorem written_coded {w : World} {base L : Nat} {v : Value} {l : List Int} (c : Int) (h0 : 0 ≤ c) (h1 : c ≤ 255) (hp : plainB c = false) (hT : Tabs w) (hown : w.ownsRow base 5 1 v L (cellsOf l)) (hb : base ≤ w.heap.size) (h2 : 2 ≤ base) (hbd : L + 4 ≤ 140737488355328) :
    Calls Tryd.prog 11 #[v, .int .u8 c] w fun e w' => ∃ v', e = .returned v' ∧ w'.ownsRow base 5 1 v' (L + (signL c).length) (cellsOf (l ++ signL c)) ∧ Below base w w' := by
  have c1 := plain_any c w
  rw [hp] at c1
  have C1 : Hid (Calls Tryd.prog 17 _ _ _) := c1
  obtain ⟨q, hq⟩ : ∃ q : Nat, c / 16 = (q : Int) := ⟨(c / 16).toNat, by omega⟩
  obtain ⟨k, hk⟩ : ∃ k : Nat, c % 16 = (k : Int) := ⟨(c % 16).toNat, by omega⟩
  have eS : signL c = [92, 120, hexD (q : Int), hexD (k : Int)] := by unfold signL; rw [if_neg (by rw [hp]; simp), hq, hk]
  have hq1 : q < 16 := by omega
  have hk1 : k < 16 := by omega
  have hq2 : (q : Int) < 16 := by omega
  have hk2 : (k : Int) < 16 := by omega
  have ha : bits .and .u8 c 15 = (k : Int) := by rw [and15 c h0 h1, hk]
  have HS : Hid (∀ x ∈ [92, 120, hexD (q : Int), hexD (k : Int)], 0 ≤ x ∧ x ≤ 255) := fun x hx => by
    have a := hexD_bd q (by omega) (by omega)
    have b := hexD_bd k (by omega) (by omega)
    simp at hx
    omega
  rw [eS]
  have HO : Hid (w.ownsRow base 5 1 v L (cellsOf l)) := hown
  have HT : Hid (Tabs w) := hT
  clear c1 hp eS hown hT hk
  go_enter Tryd.func11, Tryd.ntmps11
  go_wp2_with (first
    | (go_at_call 17; refine C1.out.mono ?_; rintro e w1 ⟨rfl, hw1⟩; replace hw1 := hw1.symm; subst hw1))
  refine wp_region_noPanic ?_
  refine wp_region_held_drew (S := fun w' => Below base w w') (by kernel_rfl) ((Below.refl _ _).drew) (fun hHeld => ?_)
  have hD : Below w.heap.size w w.drew := (Below.refl _ _).drew
  obtain ⟨d, hd⟩ : ∃ d, d = w.drew := ⟨_, rfl⟩
  rw [← hd] at hHeld hD ⊢
  clear hd
  have hbd0 : base ≤ d.heap.size := Nat.le_trans hb hD.size
  obtain ⟨v3, w3, hr3, ho3, hB3⟩ := append_lit (own_below HO.out hD) hbd0 [92, 120, hexD (q : Int), hexD (k : Int)] HS.out (by simp) (by simp; omega)
  have HR : Hid (_ = _) := hr3
  clear hr3
  refine wpAnyH_take (i := 0) (oi := ⟨some 9, Op.move (Operand.tmp 0), 34, _, _, _⟩) (v := ?v0) rfl (by kernel_rfl) (by kernel_rfl) (by kernel_rfl) (fun _ _ _ h => h) (Or.inl ⟨by rfl, ?hy0⟩) hHeld ?rest0
  case hy0 => intro w9 hSw; go_simp; (try with_reducible rfl)
  try simp only [Act.put, List.setIfInBounds_toArray, List.set_cons_zero, List.set_cons_succ]
  refine wpAnyH_take (i := 1) (oi := ⟨some 10, Op.move (Operand.tmp 1), 5, _, _, _⟩) (v := ?v1) rfl (by kernel_rfl) (by kernel_rfl) (by kernel_rfl) (fun _ _ _ h => h) (Or.inl ⟨by rfl, ?hy1⟩) hHeld ?rest1
  case hy1 => intro w9 hSw; go_simp; (try with_reducible rfl)
  try simp only [Act.put, List.setIfInBounds_toArray, List.set_cons_zero, List.set_cons_succ]
  refine wpAnyH_take (i := 2) (oi := ⟨some 11, Op.binOp BinOp.shr 5 (Operand.tmp 10) (Operand.const (Value.int IntKind.u64 4)) 42, 5, _, _, _⟩) (v := ?v2) rfl (by kernel_rfl) (by kernel_rfl) (by kernel_rfl) (fun _ _ _ h => h) (Or.inl ⟨by rfl, ?hy2⟩) hHeld ?rest2
  case hy2 => intro w9 hSw; go_simp; (try with_reducible rfl)
  try simp only [Act.put, List.setIfInBounds_toArray, List.set_cons_zero, List.set_cons_succ]
  refine wpAnyH_take (i := 3) (oi := ⟨some 12, Op.indexAddr 41 (Operand.global 0) (Operand.tmp 11), 0, _, _, _⟩) (v := ?v3) rfl (by kernel_rfl) (by kernel_rfl) (by kernel_rfl) (fun _ _ _ h => h) (Or.inl ⟨by rfl, ?hy3⟩) hHeld ?rest3
  case hy3 => intro w9 hSw; go_simp; (try with_reducible rfl)
  try simp only [Act.put, List.setIfInBounds_toArray, List.set_cons_zero, List.set_cons_succ]
  refine wpAnyH_take (i := 4) (oi := ⟨some 13, Op.load 5 (Operand.tmp 12), 5, _, _, _⟩) (v := ?v4) rfl (by kernel_rfl) (by kernel_rfl) (by kernel_rfl) (fun _ _ _ h => h) (Or.inl ⟨by rfl, ?hy4⟩) hHeld ?rest4
  case hy4 => intro w9 hSw; have cc := cell_dig (HT.out.later hSw h2) q hq1; go_simp; (try with_reducible rfl)
  try simp only [Act.put, List.setIfInBounds_toArray, List.set_cons_zero, List.set_cons_succ]
  refine wpAnyH_take (i := 5) (oi := ⟨some 14, Op.move (Operand.tmp 1), 5, _, _, _⟩) (v := ?v5) rfl (by kernel_rfl) (by kernel_rfl) (by kernel_rfl) (fun _ _ _ h => h) (Or.inl ⟨by rfl, ?hy5⟩) hHeld ?rest5
  case hy5 => intro w9 hSw; go_simp; (try with_reducible rfl)
  try simp only [Act.put, List.setIfInBounds_toArray, List.set_cons_zero, List.set_cons_succ]
  refine wpAnyH_take (i := 6) (oi := ⟨some 15, Op.binOp BinOp.and 5 (Operand.tmp 14) (Operand.const (Value.int IntKind.u8 15)) 5, 5, _, _, _⟩) (v := ?v6) rfl (by kernel_rfl) (by kernel_rfl) (by kernel_rfl) (fun _ _ _ h => h) (Or.inl ⟨by rfl, ?hy6⟩) hHeld ?rest6
  case hy6 => intro w9 hSw; go_simp; (try with_reducible rfl)
  try simp only [Act.put, List.setIfInBounds_toArray, List.set_cons_zero, List.set_cons_succ]
  refine wpAnyH_take (i := 7) (oi := ⟨some 16, Op.indexAddr 41 (Operand.global 0) (Operand.tmp 15), 0, _, _, _⟩) (v := ?v7) rfl (by kernel_rfl) (by kernel_rfl) (by kernel_rfl) (fun _ _ _ h => h) (Or.inl ⟨by rfl, ?hy7⟩) hHeld ?rest7
  case hy7 => intro w9 hSw; go_simp; (try with_reducible rfl)
  try simp only [Act.put, List.setIfInBounds_toArray, List.set_cons_zero, List.set_cons_succ]
  refine wpAnyH_take (i := 8) (oi := ⟨some 17, Op.load 5 (Operand.tmp 16), 5, _, _, _⟩) (v := ?v8) rfl (by kernel_rfl) (by kernel_rfl) (by kernel_rfl) (fun _ _ _ h => h) (Or.inl ⟨by rfl, ?hy8⟩) hHeld ?rest8
  case hy8 => intro w9 hSw; have cc := cell_dig (HT.out.later hSw h2) k hk1; go_simp; (try with_reducible rfl)
  try simp only [Act.put, List.setIfInBounds_toArray, List.set_cons_zero, List.set_cons_succ]
  refine wpAnyH_ready (rs := [9]) (by kernel_rfl) (by simp) ?_
  refine AllReadyH.cons (o := ⟨some 18, Op.buildSlice 34 4 #[(0, Operand.const (Value.int IntKind.u8 92)), (1, Operand.const (Value.int IntKind.u8 120)), (2, Operand.tmp 13), (3, Operand.tmp 17)], 34, _, _, _⟩) rfl (fun K hK => ?_) AllReadyH.nil
  go_simp
  refine hK.out _ _ (hHeld.alloc hbd0 _) (fun _ => ?_)
  clear hK K
  refine wpAnyH_ready (rs := [10]) (by kernel_rfl) (by simp) ?_
  refine AllReadyH.cons (o := ⟨some 19, Op.call { callee := Callee.builtin Builtin.append, args := #[Operand.tmp 9, Operand.tmp 18], argTypes := #[34, 34] }, 34, _, _, _⟩) rfl (fun K hK => ?_) AllReadyH.nil
  rw [if_pos (by rfl)]
  refine wpOp_append_run (.tmp 9) (.tmp 18) 34 rfl _ _ _ rfl rfl HR.out ?_
  have hT3 := hHeld.trans hB3
  refine hK.out _ _ hT3 (fun hHeld => ?_)
  clear hK K
  try simp only [Act.put, List.setIfInBounds_toArray, List.set_cons_zero, List.set_cons_succ]
  refine wpAnyH_take (i := 11) (oi := ⟨some 4, Op.assign (Operand.tmp 19), 34, _, _, _⟩) (v := ?v11) rfl (by kernel_rfl) (by kernel_rfl) (by kernel_rfl) (fun _ _ _ h => h) (Or.inl ⟨by rfl, ?hy11⟩) hHeld ?rest11
  case hy11 => intro w9 hSw; go_simp; (try with_reducible rfl)
  try simp only [Act.put, List.setIfInBounds_toArray, List.set_cons_zero, List.set_cons_succ]
  refine wpAnyH_done (by kernel_rfl) ?_ _
  refine NoPanic.normal ?_
  go_wp2
  try rw [Exit.noGoto_ret]
  go_ret
  exact ⟨_, rfl, ho3, hT3⟩
set_option maxRecDepth 100000 in
set_option maxHeartbeats 2000000 in
theorem written_plain {w : World} {base L : Nat} {v : Value} {l : List Int} (c : Int) (h0 : 0 ≤ c) (h1 : c ≤ 255) (hp : plainB c = true) (hT : Tabs w) (hown : w.ownsRow base 5 1 v L (cellsOf l)) (hb : base ≤ w.heap.size) (hbd : L + 4 ≤ 140737488355328) :
    Calls Tryd.prog 11 #[v, .int .u8 c] w fun e w' => ∃ v', e = .returned v' ∧ w'.ownsRow base 5 1 v' (L + (signL c).length) (cellsOf (l ++ signL c)) ∧ Below base w w' := by
  have c1 := plain_any c w
  rw [hp] at c1
  have C1 : Hid (Calls Tryd.prog 17 _ _ _) := c1
  have c2 := behind_any c w hT
  by_cases hq : c = 39 ∨ c = 92
  · have eS : signL c = [92, c] := by unfold signL; rw [if_pos hp, if_pos hq]
    have eE : escZ c = 0 := by unfold escZ; rw [if_pos hq]
    rw [eE] at c2
    have C2 : Hid (Calls Tryd.prog 18 _ _ _) := c2
    rw [eS]
    clear c1 c2 hp hq eS eE hT
    have HO : Hid (w.ownsRow base 5 1 v L (cellsOf l)) := hown
    clear hown
    go_enter Tryd.func11, Tryd.ntmps11
    go_wp2_with (first
      | (go_at_call 17; refine C1.out.mono ?_; rintro e w1 ⟨rfl, hw1⟩; replace hw1 := hw1.symm; subst hw1)
      | (go_at_call 18; refine C2.out.mono ?_; clear C2; rintro e w2 ⟨rfl, hB2⟩
         obtain ⟨v3, w3, hr3, ho3, hB3⟩ := append_lit (own_below HO.out hB2) (Nat.le_trans hb hB2.size) [92, c] (by simp; omega) (by simp) (by simp; omega)
         have HR : Hid (_ = _) := hr3
         clear hr3)
      | (at_builtin; refine wpList_append_run rfl (.tmp 24) (.tmp 26) 34 rfl _ _ _ rfl rfl HR.out ?_))
    try rw [Exit.noGoto_ret]
    go_ret
    exact ⟨_, rfl, ho3, (hB2.mono hb).trans hB3⟩
  · have eS : signL c = [c] := by unfold signL; rw [if_pos hp, if_neg hq]
    obtain ⟨E, hE⟩ : ∃ E, E = escZ c := ⟨_, rfl⟩
    have hE0 : E ≠ 0 := by rw [hE]; unfold escZ; rw [if_neg hq]; split <;> omega
    rw [← hE] at c2
    have C2 : Hid (Calls Tryd.prog 18 _ _ _) := c2
    rw [eS]
    clear c1 c2 hp hq eS hE hT
    have HO : Hid (w.ownsRow base 5 1 v L (cellsOf l)) := hown
    clear hown
    go_enter Tryd.func11, Tryd.ntmps11
    go_wp2_with (first
      | (go_at_call 17; refine C1.out.mono ?_; rintro e w1 ⟨rfl, hw1⟩; replace hw1 := hw1.symm; subst hw1)
      | (go_at_call 18; refine C2.out.mono ?_; clear C2; rintro e w2 ⟨rfl, hB2⟩
         obtain ⟨v3, w3, hr3, ho3, hB3⟩ := append_lit (own_below HO.out hB2) (Nat.le_trans hb hB2.size) [c] (by simp; omega) (by simp) (by simp; omega)
         have HR : Hid (_ = _) := hr3
         clear hr3)
      | (at_builtin; refine wpList_append_run rfl (.tmp 28) (.tmp 30) 34 rfl _ _ _ rfl rfl HR.out ?_))
    go_ret
    exact ⟨_, rfl, ho3, (hB2.mono hb).trans hB3⟩
end Go.Proofs.YtgmooknbfcdcoaaDoor
