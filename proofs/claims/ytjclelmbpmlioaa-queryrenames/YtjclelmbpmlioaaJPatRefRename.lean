/-
  The document's Rename.
-/
import Derived.Test.YtjclelmbpmlioaaJBrief
import Derived.Test.YtjclelmbpmlioaaJPatRefSame
namespace Go.Proofs.Ytjclelmbpmlioaa
open Go.RowKit

/-- What the document's Rename hands back. -/
def RenAnsP (g : ByteArray → ByteArray) (x : Pt) (w : World) (e : Ending) (w' : World) : Prop :=
  ∃ y : Pt, e = .returned y.val ∧ IsP w' y ∧ Sm y (renP g x) ∧ (∀ k, inP k y → w.heap.size ≤ k) ∧ Below w.heap.size w w'
/-- The row with one more, and the box that holds it, behind the append and the store. -/
theorem renP_next {g : ByteArray → ByteArray} {x yi : Pt} {s : ByteArray} {w A wr x9 : World} {a1 : Option Addr} {i cap1 : Nat} {c : Nat → Pt}
    (hG : GrownP (w.heap.size + 3) wr (.slice a1 i cap1) i c) (hO : ∀ j, j < i → Sm (c j) (renP g (x.c j))) (hbox : wr.heap[w.heap.size + 2]? = some (.cells (Pt.mk x.k s x.t x.lo x.hi a1 i cap1 c).cells 24 (0, 0)))
    (hA : Below (w.heap.size + 2) A wr) (hs : w.heap.size + 3 ≤ wr.heap.size) (hi : i ≤ 1759218604390) (hI : IsP x9 yi) (ho : Sm yi (renP g (x.c i))) (hn : ∀ k, inP k yi → wr.heap.size ≤ k) (h9 : Below wr.heap.size wr x9) :
    ∃ a2 cap2 w2, (Builtin.append_ #[22, 22] 22 #[.slice a1 i cap1, .slice (some ⟨x9.heap.size, 0, none⟩) 1 1]).run Try.prog (x9.alloc (.cells yi.cells 24)) = .ok (.slice a2 (i + 1) cap2) w2 ∧
      Below (w.heap.size + 2) wr x9 ∧ Below (w.heap.size + 2) wr (x9.alloc (.cells yi.cells 24)) ∧ Below (w.heap.size + 2) wr w2 ∧ Below (w.heap.size + 2) wr (w2.setCell ⟨w.heap.size + 2, 5, none⟩ (.slice a2 (i + 1) cap2)) ∧
      (w2.cell? ⟨w.heap.size + 2, 5, none⟩ = some (.slice a1 i cap1) ∧ w2.frozen? ⟨w.heap.size + 2, 5, none⟩ = false) ∧
      ((w2.setCell ⟨w.heap.size + 2, 5, none⟩ (.slice a2 (i + 1) cap2)).heap[w.heap.size + 2]? = some (.cells (Pt.mk x.k s x.t x.lo x.hi a2 (i + 1) cap2 (updP c i yi)).cells 24 (0, 0)) ∧
        GrownP (w.heap.size + 3) (w2.setCell ⟨w.heap.size + 2, 5, none⟩ (.slice a2 (i + 1) cap2)) (.slice a2 (i + 1) cap2) (i + 1) (updP c i yi) ∧ (∀ j, j < i + 1 → Sm (updP c i yi j) (renP g (x.c j))) ∧
        Below (w.heap.size + 2) A (w2.setCell ⟨w.heap.size + 2, 5, none⟩ (.slice a2 (i + 1) cap2)) ∧ w.heap.size + 3 ≤ (w2.setCell ⟨w.heap.size + 2, 5, none⟩ (.slice a2 (i + 1) cap2)).heap.size) := by
  have h9s := h9.size
  obtain ⟨a2, cap2, w2, hrun, hG2, hB2, hs2⟩ := (hG.later h9).push (by omega) hi yi hI fun k hk => ⟨by have := hn k hk; omega, fun e => by have := (hG.1.lt k e).2; have := hn k hk; omega⟩
  have b9 : Below (w.heap.size + 2) wr x9 := h9.mono (by omega)
  have b2 : Below (w.heap.size + 2) wr w2 := b9.trans (hB2.mono (by omega))
  have hbox2 : w2.heap[w.heap.size + 2]? = some (.cells (Pt.mk x.k s x.t x.lo x.hi a1 i cap1 c).cells 24 (0, 0)) := (hB2.block _ (by omega)).trans ((h9.block _ (by omega)).trans hbox)
  have b3 : Below (w.heap.size + 2) wr (w2.setCell ⟨w.heap.size + 2, 5, none⟩ (.slice a2 (i + 1) cap2)) := b2.setCell (p := ⟨w.heap.size + 2, 5, none⟩) (by simp) _
  refine ⟨a2, cap2, w2, hrun, b9, b9.alloc (by omega) _, b2, b3, ⟨(nodeP_box hbox2).at0.2.2.2.2.2, FreeP.frozen ⟨_, hbox2⟩ 5⟩, ?_, ⟨?_, fun j hj => ?_⟩, fun j hj => ?_, hA.trans b3, by rw [World.size_setCell]; omega⟩
  · rw [heap_set hbox2]
    simp [Pt.k, Pt.s, Pt.t, Pt.lo, Pt.hi, Pt.a, Pt.n, Pt.cap]
  · refine hG2.1.kept (row := some (w.heap.size + 2)) ⟨rfl, rfl, rfl, by simp, fun k _ hne => Below.heap_setCell w2 ⟨w.heap.size + 2, 5, none⟩ _ k fun e => hne (by rw [show k = w.heap.size + 2 from e])⟩ (.inr fun e => ?_)
    have := (hG2.1.lt _ e).1
    omega
  · obtain ⟨q1, q2⟩ := hG2.2 j hj
    exact ⟨q1.kept (T := fun k => k ≠ w.heap.size + 2) (Kp.set _ (by simp)) fun k hk => by have := (q2 k hk).1; omega, q2⟩
  · by_cases e : j = i
    · subst e; rw [updP_same]; exact ho
    · rw [updP_other e]; exact hO j (by omega)
set_option maxRecDepth 100000 in
set_option maxHeartbeats 8000000 in
theorem refRenameP_one (a a' : Option Addr) (m m' cap cap' : Nat) (S T : Nat → ByteArray) (x : Pt) (w : World) (hm : m ≤ 9223372036854775807) (hm' : m' ≤ 9223372036854775807) (hk : nmd x.k = true) (k1 : (x.k == 1) = true) (hX : IsP w x) (hsm : WdP x) (hS : Txs w a m S) (hT : Txs w a' m' T)
    (ih : ∀ i, i < x.n → ∀ d, IsP d (x.c i) → Txs d a m S → Txs d a' m' T → Calls Try.prog 10 #[(x.c i).val, .slice a m cap, .slice a' m' cap'] d (RenAnsP (nameX S T (min m m')) (x.c i) d)) :
    Calls Try.prog 10 #[x.val, .slice a m cap, .slice a' m' cap'] w (RenAnsP (nameX S T (min m m')) x w) := by
  obtain ⟨g, hg⟩ : ∃ g, g = nameX S T (min m m') := ⟨_, rfl⟩
  have NM : Hid (∀ d, Below w.heap.size w d → Calls Try.prog 26 #[.string x.s, .slice a m cap, .slice a' m' cap'] d fun e w' => e = .returned (.string (g x.s)) ∧ w' = d) := fun d h => by rw [hg]; exact refVar_wide x.s a a' m m' cap cap' S T d (hS.later h) (hT.later h) hm hm'
  have HI : Hid (∀ i, i < x.n → ∀ d, Below w.heap.size w d → Calls Try.prog 10 #[(x.c i).val, .slice a m cap, .slice a' m' cap'] d (RenAnsP g (x.c i) d)) := fun i hi d h => by
    rw [hg]
    obtain ⟨_, _, _, _, hx⟩ := (hX.later h).part hi
    exact ih i hi d hx (hS.later h) (hT.later h)
  have hlen : x.n ≤ 1759218604390 := ((wdP_eq x).1 hsm).1
  obtain ⟨s, hs⟩ : ∃ s, s = g x.s := ⟨_, rfl⟩
  have HR : Hid (∀ (a1 : Option Addr) (cap1 : Nat) (c : Nat → Pt), (∀ j, j < x.n → Sm (c j) (renP g (x.c j))) → Sm (Pt.mk x.k s x.t x.lo x.hi a1 x.n cap1 c) (renP g x)) := fun a1 cap1 c h => by
    obtain ⟨q1, q2, q3, q4, q5, q6, q7⟩ := renP_parts g x
    refine (sm_iff _ _).2 ⟨q1.symm, ?_, q3.symm, q4.symm, q5.symm, q6.symm, fun i hi => by rw [q7]; exact h i hi⟩
    rw [q2, if_pos hk]
    exact hs
  rw [← hg]
  have HX : Hid (IsP w x) := hX
  obtain ⟨A, hA⟩ : ∃ A, ((w.alloc (.cells x.cells 24)).alloc (.cells Pt.nil.cells 24)).alloc (.cells (Pt.mk x.k s x.t x.lo x.hi none 0 0 x.c).cells 24) = A := ⟨_, rfl⟩
  have hB : Below w.heap.size w A := by rw [← hA]; exact (((Below.refl _ w).alloc (Nat.le_refl _) _).alloc (by simp) _).alloc (by simp; omega) _
  have hsz : A.heap.size = w.heap.size + 3 := by rw [← hA]; simp
  have hx0 : A.heap[w.heap.size]? = some (.cells x.cells 24 (0, 0)) := by
    rw [← hA]
    exact (alloc_old (by simp; omega)).trans ((alloc_old (by simp)).trans (alloc_new _ _))
  have hx1 : A.heap[w.heap.size + 1]? = some (.cells Pt.nil.cells 24 (0, 0)) := by
    rw [← hA, alloc_old (by simp)]
    exact alloc2_new _ _ _
  have hx2 : A.heap[w.heap.size + 2]? = some (.cells (Pt.mk x.k s x.t x.lo x.hi none 0 0 x.c).cells 24 (0, 0)) := by
    have := alloc_new ((w.alloc (.cells x.cells 24)).alloc (.cells Pt.nil.cells 24)) (.cells (Pt.mk x.k s x.t x.lo x.hi none 0 0 x.c).cells 24)
    rw [World.size_alloc, World.size_alloc, hA] at this
    exact this
  have HA : Hid (A.heap.size = w.heap.size + 3) := hsz
  have HX0 : Hid (A.heap[w.heap.size]? = some (.cells x.cells 24 (0, 0))) := hx0
  have HX1 : Hid (A.heap[w.heap.size + 1]? = some (.cells Pt.nil.cells 24 (0, 0))) := hx1
  have HX2 : Hid (A.heap[w.heap.size + 2]? = some (.cells (Pt.mk x.k s x.t x.lo x.hi none 0 0 x.c).cells 24 (0, 0))) := hx2
  have HB : Hid (Below w.heap.size w A) := hB
  have HS : Hid (g x.s = s) := hs.symm
  clear hs
  clear hg ih hX hS hT hsz hx0 hx1 hx2 hB hk hsm
  go_enter Try.func10, Try.ntmps10
  go_wp2_with (first | (go_at_call 26; refine (NM.out _ (((Below.refl _ _).alloc (Nat.le_refl _) _).alloc (by simp) _ |>.alloc (by simp; omega) _)).mono ?_; rintro e w1 ⟨rfl, hw1⟩; replace hw1 := hw1.symm; subst hw1))
  rw [HS.out]
  change Code.wp _ _ _ _ (((w.alloc (.cells x.cells 24)).alloc (.cells Pt.nil.cells 24)).alloc (.cells (Pt.mk x.k s x.t x.lo x.hi none 0 0 x.c).cells 24))
  rw [hA]
  clear hA NM HS
  go_loopw [8] (fun iv wr => ∃ (i : Nat) (a1 : Option Addr) (cap1 : Nat) (c : Nat → Pt), i ≤ x.n ∧ iv = .int .i64 i ∧ Hid (wr.heap[w.heap.size + 2]? = some (.cells (Pt.mk x.k s x.t x.lo x.hi a1 i cap1 c).cells 24 (0, 0))) ∧ Hid (GrownP (w.heap.size + 3) wr (.slice a1 i cap1) i c) ∧ Hid (∀ j, j < i → Sm (c j) (renP g (x.c j))) ∧ Below (w.heap.size + 2) A wr ∧ w.heap.size + 3 ≤ wr.heap.size) (fun iv _ => x.n - (intOf iv).toNat)
  case atStart => exact ⟨0, none, 0, x.c, Nat.zero_le _, rfl, HX2, grownP_nil _ _ _, fun j hj => absurd hj (Nat.not_lt_zero _), Below.refl _ _, by rw [HA.out]; exact Nat.le_refl _⟩
  case round =>
    obtain ⟨i, a1, cap1, c, hi, rfl, HBX, HG, HO, hBr, hsr⟩ := hrel
    have hwr : Below w.heap.size w wr := HB.out.trans (hBr.mono (by omega))
    have HXW : Hid (wr.heap[w.heap.size]? = some (.cells x.cells 24 (0, 0))) := (hBr.block _ (by omega)).trans HX0.out
    have c6 := (nodeP_box HXW.out).at0.2.2.2.2.2
    by_cases hin : i < x.n
    · obtain ⟨b, o, ea, hn, hx⟩ := (HX.out.later hwr).part hin
      have hbl : b < w.heap.size := by obtain ⟨b', o', ea', hn', _⟩ := HX.out.part hin; rw [ea] at ea'; cases ea'; exact hn'.lt
      have HC := HI.out i hin
      have HIN : Hid (i < x.n) := hin
      have C6 : Hid (wr.cell? ⟨w.heap.size, 5, none⟩ = some (.slice (some ⟨b, o, none⟩) x.n x.cap)) := by rw [← ea]; exact c6
      have N1 : Hid (NodeP wr b (o + i * 6) (x.c i)) := hn
      have C7 : Hid (wr.cell? ⟨w.heap.size + 2, 5, none⟩ = some (.slice a1 i cap1)) := (nodeP_box HBX.out).at0.2.2.2.2.2
      have HEA : Hid (x.a = some ⟨b, o, none⟩) := ea
      rw [ea] at c6
      clear ea hn hx hin
      have hile : i ≤ 1759218604390 := by omega
      go_wp2
      refine wp_region_noPanic ?_
      refine wp_region_held_drew (S := fun w' => Below (w.heap.size + 2) wr w') (by kernel_rfl) ((Below.refl _ _).drew) (fun hHeld => ?_)
      have hT : Below wr.heap.size wr wr.drew := (Below.refl _ _).drew
      obtain ⟨d, hdw⟩ : ∃ d, d = wr.drew := ⟨_, rfl⟩
      rw [← hdw] at hHeld hT ⊢
      clear hdw c6
      refine wpAnyH_take (i := 0) (oi := ⟨some 37, .fieldAddr 24 (.tmp 7) 5, 0, _, _, _⟩) (v := ?v0a) rfl (by kernel_rfl) (by kernel_rfl) (by kernel_rfl) (fun _ _ _ h => h) (Or.inl ⟨by rfl, ?hy0a⟩) hHeld ?rest0a
      case hy0a => intro w9 hSw; go_simp; (try with_reducible rfl)
      try simp only [Act.put, s_put, s_0, s_1]
      refine wpAnyH_take (i := 2) (oi := ⟨some 39, .fieldAddr 24 (.tmp 3) 5, 0, _, _, _⟩) (v := ?v2a) rfl (by kernel_rfl) (by kernel_rfl) (by kernel_rfl) (fun _ _ _ h => h) (Or.inl ⟨by rfl, ?hy2a⟩) hHeld ?rest2a
      case hy2a => intro w9 hSw; go_simp; (try with_reducible rfl)
      try simp only [Act.put, s_put, s_0, s_1]
      refine wpAnyH_take (i := 3) (oi := ⟨some 40, .load 22 (.tmp 39), 22, _, _, _⟩) (v := ?v3a) rfl (by kernel_rfl) (by kernel_rfl) (by kernel_rfl) (fun _ _ _ h => h) (Or.inl ⟨by rfl, ?hy3a⟩) hHeld ?rest3a
      case hy3a => intro w9 hSw; have cc := (hSw.cell (p := ⟨w.heap.size, 5, none⟩) (by simp)).trans C6.out; go_simp; (try with_reducible rfl)
      try simp only [Act.put, s_put, s_0, s_1]
      refine wpAnyH_take (i := 4) (oi := ⟨some 41, .move (.tmp 8), 3, _, _, _⟩) (v := ?v4a) rfl (by kernel_rfl) (by kernel_rfl) (by kernel_rfl) (fun _ _ _ h => h) (Or.inl ⟨by rfl, ?hy4a⟩) hHeld ?rest4a
      case hy4a => intro w9 hSw; go_simp; (try with_reducible rfl)
      try simp only [Act.put, s_put, s_0, s_1]
      refine wpAnyH_take (i := 5) (oi := ⟨some 42, .indexAddr 22 (.tmp 40) (.tmp 41), 0, _, _, _⟩) (v := ?v5a) rfl (by kernel_rfl) (by kernel_rfl) (by kernel_rfl) (fun _ _ _ h => h) (Or.inl ⟨by rfl, ?hy5a⟩) hHeld ?rest5a
      case hy5a => intro w9 hSw; go_simp; (try with_reducible rfl)
      try simp only [Act.put, s_put, s_0, s_1]
      refine wpAnyH_take (i := 6) (oi := ⟨some 43, .load 24 (.tmp 42), 24, _, _, _⟩) (v := ?v6a) rfl (by kernel_rfl) (by kernel_rfl) (by kernel_rfl) (fun _ _ _ h => h) (Or.inl ⟨by rfl, ?hy6a⟩) hHeld ?rest6a
      case hy6a => intro w9 hSw; obtain ⟨d0, d1, d2, d3, d4, d5⟩ := N1.out.below hSw (by omega); go_simp; (try with_reducible rfl)
      try simp only [Act.put, s_put, s_0, s_1]
      refine wpAnyH_take (i := 7) (oi := ⟨some 44, .move (.tmp 1), 25, _, _, _⟩) (v := ?v7a) rfl (by kernel_rfl) (by kernel_rfl) (by kernel_rfl) (fun _ _ _ h => h) (Or.inl ⟨by rfl, ?hy7a⟩) hHeld ?rest7a
      case hy7a => intro w9 hSw; go_simp; (try with_reducible rfl)
      try simp only [Act.put, s_put, s_0, s_1]
      refine wpAnyH_take (i := 8) (oi := ⟨some 45, .move (.tmp 2), 25, _, _, _⟩) (v := ?v8a) rfl (by kernel_rfl) (by kernel_rfl) (by kernel_rfl) (fun _ _ _ h => h) (Or.inl ⟨by rfl, ?hy8a⟩) hHeld ?rest8a
      case hy8a => intro w9 hSw; go_simp; (try with_reducible rfl)
      try simp only [Act.put, s_put, s_0, s_1]
      refine wpAnyH_ready (rs := [1, 9]) (by kernel_rfl) (by simp) ?_
      refine AllReadyH.cons (o := ⟨some 38, .load 22 (.tmp 37), 22, _, _, _⟩) rfl (fun K hK => ?_) (AllReadyH.cons (o := ⟨some 46, .call { callee := .value (.func 10), args := #[.tmp 43, .tmp 44, .tmp 45], argTypes := #[24, 25, 25] }, 24, _, _, _⟩) rfl (fun K hK => ?_) AllReadyH.nil)
      · have cc := (Below.cell hT (p := ⟨w.heap.size + 2, 5, none⟩) (by simp; omega)).trans C7.out
        go_simp
        clear cc
        refine hK.out _ _ hHeld (fun _ => ?_)
        clear hK K
        try simp only [Act.put, s_put, s_0, s_1]
        refine wpAnyH_ready (rs := [9]) (by kernel_rfl) (by simp) ?_
        refine AllReadyH.cons (o := ⟨some 46, .call { callee := .value (.func 10), args := #[.tmp 43, .tmp 44, .tmp 45], argTypes := #[24, 25, 25] }, 24, _, _, _⟩) rfl (fun K hK => ?_) AllReadyH.nil
        go_simp
        refine (HC _ (hwr.trans (hT.mono hwr.size))).mono ?_
        rintro e x9 ⟨yi, rfl, hI, ho, hnew, h9d⟩
        have h9 : Below wr.heap.size wr x9 := hT.trans (h9d.mono hT.size)
        obtain ⟨a2, cap2, w2, hrun, v1, v2, v3, v4, ⟨v5, v6⟩, v7⟩ := renP_next HG.out HO.out HBX.out hBr hsr hile hI ho (fun k hk => Nat.le_trans hT.size (hnew k hk)) h9
        have HV : Hid _ := v7
        clear v7 hI ho hnew h9d
        go_wp2_with fail
        refine hK.out _ _ v1 (fun _ => ?_)
        clear hK K
        try simp only [Act.put, s_put, s_0, s_1]
        refine wpAnyH_ready (rs := [10]) (by kernel_rfl) (by simp) ?_
        refine AllReadyH.cons (o := ⟨some 47, .buildSlice 22 1 #[(0, .tmp 46)], 22, _, _, _⟩) rfl (fun K hK => ?_) AllReadyH.nil
        go_simp
        refine hK.out _ _ v2 (fun _ => ?_)
        clear hK K
        try simp only [Act.put, s_put, s_0, s_1]
        refine wpAnyH_ready (rs := [11]) (by kernel_rfl) (by simp) ?_
        refine AllReadyH.cons (o := ⟨some 48, .call { callee := .builtin Builtin.append, args := #[.tmp 38, .tmp 47], argTypes := #[22, 22] }, 22, _, _, _⟩) rfl (fun K hK => ?_) AllReadyH.nil
        rw [if_pos (by rfl)]
        refine wpOp_append_at (.tmp 38) (.tmp 47) 22 rfl _ _ _ rfl rfl hrun ?_
        refine hK.out _ _ v3 (fun _ => ?_)
        clear hK K
        try simp only [Act.put, s_put, s_0, s_1]
        refine wpAnyH_ready (rs := [12]) (by kernel_rfl) (by simp) ?_
        refine AllReadyH.cons (o := ⟨some 49, .fieldAddr 24 (.tmp 7) 5, 0, _, _, _⟩) rfl (fun K hK => ?_) AllReadyH.nil
        go_simp
        refine hK.out _ _ v3 (fun _ => ?_)
        clear hK K
        try simp only [Act.put, s_put, s_0, s_1]
        refine wpAnyH_ready (rs := [13]) (by kernel_rfl) (by simp) ?_
        refine AllReadyH.cons (o := ⟨none, Op.store 22 (Operand.tmp 49) (Operand.tmp 48), 0, _, _, _⟩) rfl (fun K hK => ?_) AllReadyH.nil
        go_simp
        refine hK.out _ _ v4 (fun _ => ?_)
        clear hK K
        try simp only [Act.put, s_put, s_0, s_1]
        refine wpAnyH_done (by kernel_rfl) ?_ _
        refine NoPanic.normal ?_
        go_wp2
        go_roundw
        case rel => exact ⟨i + 1, a2, cap2, updP c i yi, HIN.out, by go_num, HV.out.1, HV.out.2.1, HV.out.2.2.1, HV.out.2.2.2.1, HV.out.2.2.2.2⟩
        case measure => have := HIN.out; simp [intOf]; omega
      · go_simp
        refine (HC _ (hwr.trans (hT.mono hwr.size))).mono ?_
        rintro e x9 ⟨yi, rfl, hI, ho, hnew, h9d⟩
        have h9 : Below wr.heap.size wr x9 := hT.trans (h9d.mono hT.size)
        obtain ⟨a2, cap2, w2, hrun, v1, v2, v3, v4, ⟨v5, v6⟩, v7⟩ := renP_next HG.out HO.out HBX.out hBr hsr hile hI ho (fun k hk => Nat.le_trans hT.size (hnew k hk)) h9
        have HV : Hid _ := v7
        clear v7 hI ho hnew h9d
        go_wp2_with fail
        refine hK.out _ _ v1 (fun _ => ?_)
        clear hK K
        try simp only [Act.put, s_put, s_0, s_1]
        refine wpAnyH_ready (rs := [1, 10]) (by kernel_rfl) (by simp) ?_
        refine AllReadyH.cons (o := ⟨some 38, .load 22 (.tmp 37), 22, _, _, _⟩) rfl (fun K hK => ?_) (AllReadyH.cons (o := ⟨some 47, .buildSlice 22 1 #[(0, .tmp 46)], 22, _, _, _⟩) rfl (fun K hK => ?_) AllReadyH.nil)
        · have cc := (Below.cell h9 (p := ⟨w.heap.size + 2, 5, none⟩) (by simp; omega)).trans C7.out
          go_simp
          clear cc
          refine hK.out _ _ v1 (fun _ => ?_)
          clear hK K
          try simp only [Act.put, s_put, s_0, s_1]
          refine wpAnyH_ready (rs := [10]) (by kernel_rfl) (by simp) ?_
          refine AllReadyH.cons (o := ⟨some 47, .buildSlice 22 1 #[(0, .tmp 46)], 22, _, _, _⟩) rfl (fun K hK => ?_) AllReadyH.nil
          go_simp
          refine hK.out _ _ v2 (fun _ => ?_)
          clear hK K
          try simp only [Act.put, s_put, s_0, s_1]
          refine wpAnyH_ready (rs := [11]) (by kernel_rfl) (by simp) ?_
          refine AllReadyH.cons (o := ⟨some 48, .call { callee := .builtin Builtin.append, args := #[.tmp 38, .tmp 47], argTypes := #[22, 22] }, 22, _, _, _⟩) rfl (fun K hK => ?_) AllReadyH.nil
          rw [if_pos (by rfl)]
          refine wpOp_append_at (.tmp 38) (.tmp 47) 22 rfl _ _ _ rfl rfl hrun ?_
          refine hK.out _ _ v3 (fun _ => ?_)
          clear hK K
          try simp only [Act.put, s_put, s_0, s_1]
          refine wpAnyH_ready (rs := [12]) (by kernel_rfl) (by simp) ?_
          refine AllReadyH.cons (o := ⟨some 49, .fieldAddr 24 (.tmp 7) 5, 0, _, _, _⟩) rfl (fun K hK => ?_) AllReadyH.nil
          go_simp
          refine hK.out _ _ v3 (fun _ => ?_)
          clear hK K
          try simp only [Act.put, s_put, s_0, s_1]
          refine wpAnyH_ready (rs := [13]) (by kernel_rfl) (by simp) ?_
          refine AllReadyH.cons (o := ⟨none, Op.store 22 (Operand.tmp 49) (Operand.tmp 48), 0, _, _, _⟩) rfl (fun K hK => ?_) AllReadyH.nil
          go_simp
          refine hK.out _ _ v4 (fun _ => ?_)
          clear hK K
          try simp only [Act.put, s_put, s_0, s_1]
          refine wpAnyH_done (by kernel_rfl) ?_ _
          refine NoPanic.normal ?_
          go_wp2
          go_roundw
          case rel => exact ⟨i + 1, a2, cap2, updP c i yi, HIN.out, by go_num, HV.out.1, HV.out.2.1, HV.out.2.2.1, HV.out.2.2.2.1, HV.out.2.2.2.2⟩
          case measure => have := HIN.out; simp [intOf]; omega
        · go_simp
          refine hK.out _ _ v2 (fun _ => ?_)
          clear hK K
          try simp only [Act.put, s_put, s_0, s_1]
          refine wpAnyH_ready (rs := [1]) (by kernel_rfl) (by simp) ?_
          refine AllReadyH.cons (o := ⟨some 38, .load 22 (.tmp 37), 22, _, _, _⟩) rfl (fun K hK => ?_) AllReadyH.nil
          have cc := (Below.cell (h9.alloc h9.size (.cells yi.cells 24)) (p := ⟨w.heap.size + 2, 5, none⟩) (by simp; omega)).trans C7.out
          go_simp
          clear cc
          refine hK.out _ _ v2 (fun _ => ?_)
          clear hK K
          try simp only [Act.put, s_put, s_0, s_1]
          refine wpAnyH_ready (rs := [11]) (by kernel_rfl) (by simp) ?_
          refine AllReadyH.cons (o := ⟨some 48, .call { callee := .builtin Builtin.append, args := #[.tmp 38, .tmp 47], argTypes := #[22, 22] }, 22, _, _, _⟩) rfl (fun K hK => ?_) AllReadyH.nil
          rw [if_pos (by rfl)]
          refine wpOp_append_at (.tmp 38) (.tmp 47) 22 rfl _ _ _ rfl rfl hrun ?_
          refine hK.out _ _ v3 (fun _ => ?_)
          clear hK K
          try simp only [Act.put, s_put, s_0, s_1]
          refine wpAnyH_ready (rs := [12]) (by kernel_rfl) (by simp) ?_
          refine AllReadyH.cons (o := ⟨some 49, .fieldAddr 24 (.tmp 7) 5, 0, _, _, _⟩) rfl (fun K hK => ?_) AllReadyH.nil
          go_simp
          refine hK.out _ _ v3 (fun _ => ?_)
          clear hK K
          try simp only [Act.put, s_put, s_0, s_1]
          refine wpAnyH_ready (rs := [13]) (by kernel_rfl) (by simp) ?_
          refine AllReadyH.cons (o := ⟨none, Op.store 22 (Operand.tmp 49) (Operand.tmp 48), 0, _, _, _⟩) rfl (fun K hK => ?_) AllReadyH.nil
          go_simp
          refine hK.out _ _ v4 (fun _ => ?_)
          clear hK K
          try simp only [Act.put, s_put, s_0, s_1]
          refine wpAnyH_done (by kernel_rfl) ?_ _
          refine NoPanic.normal ?_
          go_wp2
          go_roundw
          case rel => exact ⟨i + 1, a2, cap2, updP c i yi, HIN.out, by go_num, HV.out.1, HV.out.2.1, HV.out.2.2.1, HV.out.2.2.2.1, HV.out.2.2.2.2⟩
          case measure => have := HIN.out; simp [intOf]; omega
    · obtain rfl : i = x.n := by omega
      have z0 := (hBr.block (w.heap.size + 1) (by omega)).trans HX1.out
      obtain ⟨d0, d1, d2, d3, d4, d5⟩ := (nodeP_box HBX.out).at0
      obtain ⟨e0, e1, e2, e3, e4, e5⟩ := (nodeP_box z0).at0
      have gf : ∀ j, wr.frozen? ⟨w.heap.size + 1, j, none⟩ = false := fun j => FreeP.frozen ⟨_, z0⟩ j
      have f0 := gf 0
      have f1 := gf 1
      have f2 := gf 2
      have f3 := gf 3
      have f4 := gf 4
      have f5 := gf 5
      have hblk := heap_set6 (y := Pt.mk x.k s x.t x.lo x.hi a1 x.n cap1 c) z0
      obtain ⟨q1, q2⟩ := HG.out.is x.k s x.t x.lo x.hi
      have FIN : Hid (RenAnsP g x w (.returned (Pt.mk x.k s x.t x.lo x.hi a1 x.n cap1 c).val) (set6 wr (w.heap.size + 1) (Pt.mk x.k s x.t x.lo x.hi a1 x.n cap1 c))) :=
        ⟨_, rfl, q1.kept (T := fun k => k ≠ w.heap.size + 1) (fun k o hk _ e => (heap_set6_other hk).trans e) (fun k hk => by have := q2 k hk; omega), HR.out a1 cap1 c HO.out, fun k hk => by have := q2 k hk; omega, below_set6 hwr (by omega)⟩
      clear gf q1 q2 hin
      go_wp2
      refine bodyPost_ret (results_cell_row rfl _ _ (w.heap.size + 1) 24 _ (0, 0) _ rfl hblk Try.underlying24 rfl (by kernel_rfl)) rfl ?_
      exact FIN.out
set_option maxRecDepth 100000 in
set_option maxHeartbeats 8000000 in
theorem refRenameP_five (a a' : Option Addr) (m m' cap cap' : Nat) (S T : Nat → ByteArray) (x : Pt) (w : World) (hm : m ≤ 9223372036854775807) (hm' : m' ≤ 9223372036854775807) (hk : nmd x.k = true) (k1 : (x.k == 1) = false) (k2 : (x.k == 5) = true) (hX : IsP w x) (hsm : WdP x) (hS : Txs w a m S) (hT : Txs w a' m' T)
    (ih : ∀ i, i < x.n → ∀ d, IsP d (x.c i) → Txs d a m S → Txs d a' m' T → Calls Try.prog 10 #[(x.c i).val, .slice a m cap, .slice a' m' cap'] d (RenAnsP (nameX S T (min m m')) (x.c i) d)) :
    Calls Try.prog 10 #[x.val, .slice a m cap, .slice a' m' cap'] w (RenAnsP (nameX S T (min m m')) x w) := by
  obtain ⟨g, hg⟩ : ∃ g, g = nameX S T (min m m') := ⟨_, rfl⟩
  have NM : Hid (∀ d, Below w.heap.size w d → Calls Try.prog 26 #[.string x.s, .slice a m cap, .slice a' m' cap'] d fun e w' => e = .returned (.string (g x.s)) ∧ w' = d) := fun d h => by rw [hg]; exact refVar_wide x.s a a' m m' cap cap' S T d (hS.later h) (hT.later h) hm hm'
  have HI : Hid (∀ i, i < x.n → ∀ d, Below w.heap.size w d → Calls Try.prog 10 #[(x.c i).val, .slice a m cap, .slice a' m' cap'] d (RenAnsP g (x.c i) d)) := fun i hi d h => by
    rw [hg]
    obtain ⟨_, _, _, _, hx⟩ := (hX.later h).part hi
    exact ih i hi d hx (hS.later h) (hT.later h)
  have hlen : x.n ≤ 1759218604390 := ((wdP_eq x).1 hsm).1
  obtain ⟨s, hs⟩ : ∃ s, s = g x.s := ⟨_, rfl⟩
  have HR : Hid (∀ (a1 : Option Addr) (cap1 : Nat) (c : Nat → Pt), (∀ j, j < x.n → Sm (c j) (renP g (x.c j))) → Sm (Pt.mk x.k s x.t x.lo x.hi a1 x.n cap1 c) (renP g x)) := fun a1 cap1 c h => by
    obtain ⟨q1, q2, q3, q4, q5, q6, q7⟩ := renP_parts g x
    refine (sm_iff _ _).2 ⟨q1.symm, ?_, q3.symm, q4.symm, q5.symm, q6.symm, fun i hi => by rw [q7]; exact h i hi⟩
    rw [q2, if_pos hk]
    exact hs
  rw [← hg]
  have HX : Hid (IsP w x) := hX
  obtain ⟨A, hA⟩ : ∃ A, ((w.alloc (.cells x.cells 24)).alloc (.cells Pt.nil.cells 24)).alloc (.cells (Pt.mk x.k s x.t x.lo x.hi none 0 0 x.c).cells 24) = A := ⟨_, rfl⟩
  have hB : Below w.heap.size w A := by rw [← hA]; exact (((Below.refl _ w).alloc (Nat.le_refl _) _).alloc (by simp) _).alloc (by simp; omega) _
  have hsz : A.heap.size = w.heap.size + 3 := by rw [← hA]; simp
  have hx0 : A.heap[w.heap.size]? = some (.cells x.cells 24 (0, 0)) := by
    rw [← hA]
    exact (alloc_old (by simp; omega)).trans ((alloc_old (by simp)).trans (alloc_new _ _))
  have hx1 : A.heap[w.heap.size + 1]? = some (.cells Pt.nil.cells 24 (0, 0)) := by
    rw [← hA, alloc_old (by simp)]
    exact alloc2_new _ _ _
  have hx2 : A.heap[w.heap.size + 2]? = some (.cells (Pt.mk x.k s x.t x.lo x.hi none 0 0 x.c).cells 24 (0, 0)) := by
    have := alloc_new ((w.alloc (.cells x.cells 24)).alloc (.cells Pt.nil.cells 24)) (.cells (Pt.mk x.k s x.t x.lo x.hi none 0 0 x.c).cells 24)
    rw [World.size_alloc, World.size_alloc, hA] at this
    exact this
  have HA : Hid (A.heap.size = w.heap.size + 3) := hsz
  have HX0 : Hid (A.heap[w.heap.size]? = some (.cells x.cells 24 (0, 0))) := hx0
  have HX1 : Hid (A.heap[w.heap.size + 1]? = some (.cells Pt.nil.cells 24 (0, 0))) := hx1
  have HX2 : Hid (A.heap[w.heap.size + 2]? = some (.cells (Pt.mk x.k s x.t x.lo x.hi none 0 0 x.c).cells 24 (0, 0))) := hx2
  have HB : Hid (Below w.heap.size w A) := hB
  have HS : Hid (g x.s = s) := hs.symm
  clear hs
  clear hg ih hX hS hT hsz hx0 hx1 hx2 hB hk hsm
  go_enter Try.func10, Try.ntmps10
  go_wp2_with (first | (go_at_call 26; refine (NM.out _ (((Below.refl _ _).alloc (Nat.le_refl _) _).alloc (by simp) _ |>.alloc (by simp; omega) _)).mono ?_; rintro e w1 ⟨rfl, hw1⟩; replace hw1 := hw1.symm; subst hw1))
  rw [HS.out]
  change Code.wp _ _ _ _ (((w.alloc (.cells x.cells 24)).alloc (.cells Pt.nil.cells 24)).alloc (.cells (Pt.mk x.k s x.t x.lo x.hi none 0 0 x.c).cells 24))
  rw [hA]
  clear hA NM HS
  go_loopw [8] (fun iv wr => ∃ (i : Nat) (a1 : Option Addr) (cap1 : Nat) (c : Nat → Pt), i ≤ x.n ∧ iv = .int .i64 i ∧ Hid (wr.heap[w.heap.size + 2]? = some (.cells (Pt.mk x.k s x.t x.lo x.hi a1 i cap1 c).cells 24 (0, 0))) ∧ Hid (GrownP (w.heap.size + 3) wr (.slice a1 i cap1) i c) ∧ Hid (∀ j, j < i → Sm (c j) (renP g (x.c j))) ∧ Below (w.heap.size + 2) A wr ∧ w.heap.size + 3 ≤ wr.heap.size) (fun iv _ => x.n - (intOf iv).toNat)
  case atStart => exact ⟨0, none, 0, x.c, Nat.zero_le _, rfl, HX2, grownP_nil _ _ _, fun j hj => absurd hj (Nat.not_lt_zero _), Below.refl _ _, by rw [HA.out]; exact Nat.le_refl _⟩
  case round =>
    obtain ⟨i, a1, cap1, c, hi, rfl, HBX, HG, HO, hBr, hsr⟩ := hrel
    have hwr : Below w.heap.size w wr := HB.out.trans (hBr.mono (by omega))
    have HXW : Hid (wr.heap[w.heap.size]? = some (.cells x.cells 24 (0, 0))) := (hBr.block _ (by omega)).trans HX0.out
    have c6 := (nodeP_box HXW.out).at0.2.2.2.2.2
    by_cases hin : i < x.n
    · obtain ⟨b, o, ea, hn, hx⟩ := (HX.out.later hwr).part hin
      have hbl : b < w.heap.size := by obtain ⟨b', o', ea', hn', _⟩ := HX.out.part hin; rw [ea] at ea'; cases ea'; exact hn'.lt
      have HC := HI.out i hin
      have HIN : Hid (i < x.n) := hin
      have C6 : Hid (wr.cell? ⟨w.heap.size, 5, none⟩ = some (.slice (some ⟨b, o, none⟩) x.n x.cap)) := by rw [← ea]; exact c6
      have N1 : Hid (NodeP wr b (o + i * 6) (x.c i)) := hn
      have C7 : Hid (wr.cell? ⟨w.heap.size + 2, 5, none⟩ = some (.slice a1 i cap1)) := (nodeP_box HBX.out).at0.2.2.2.2.2
      have HEA : Hid (x.a = some ⟨b, o, none⟩) := ea
      rw [ea] at c6
      clear ea hn hx hin
      have hile : i ≤ 1759218604390 := by omega
      go_wp2
      refine wp_region_noPanic ?_
      refine wp_region_held_drew (S := fun w' => Below (w.heap.size + 2) wr w') (by kernel_rfl) ((Below.refl _ _).drew) (fun hHeld => ?_)
      have hT : Below wr.heap.size wr wr.drew := (Below.refl _ _).drew
      obtain ⟨d, hdw⟩ : ∃ d, d = wr.drew := ⟨_, rfl⟩
      rw [← hdw] at hHeld hT ⊢
      clear hdw c6
      refine wpAnyH_take (i := 0) (oi := ⟨some 37, .fieldAddr 24 (.tmp 7) 5, 0, _, _, _⟩) (v := ?v0a) rfl (by kernel_rfl) (by kernel_rfl) (by kernel_rfl) (fun _ _ _ h => h) (Or.inl ⟨by rfl, ?hy0a⟩) hHeld ?rest0a
      case hy0a => intro w9 hSw; go_simp; (try with_reducible rfl)
      try simp only [Act.put, s_put, s_0, s_1]
      refine wpAnyH_take (i := 2) (oi := ⟨some 39, .fieldAddr 24 (.tmp 3) 5, 0, _, _, _⟩) (v := ?v2a) rfl (by kernel_rfl) (by kernel_rfl) (by kernel_rfl) (fun _ _ _ h => h) (Or.inl ⟨by rfl, ?hy2a⟩) hHeld ?rest2a
      case hy2a => intro w9 hSw; go_simp; (try with_reducible rfl)
      try simp only [Act.put, s_put, s_0, s_1]
      refine wpAnyH_take (i := 3) (oi := ⟨some 40, .load 22 (.tmp 39), 22, _, _, _⟩) (v := ?v3a) rfl (by kernel_rfl) (by kernel_rfl) (by kernel_rfl) (fun _ _ _ h => h) (Or.inl ⟨by rfl, ?hy3a⟩) hHeld ?rest3a
      case hy3a => intro w9 hSw; have cc := (hSw.cell (p := ⟨w.heap.size, 5, none⟩) (by simp)).trans C6.out; go_simp; (try with_reducible rfl)
      try simp only [Act.put, s_put, s_0, s_1]
      refine wpAnyH_take (i := 4) (oi := ⟨some 41, .move (.tmp 8), 3, _, _, _⟩) (v := ?v4a) rfl (by kernel_rfl) (by kernel_rfl) (by kernel_rfl) (fun _ _ _ h => h) (Or.inl ⟨by rfl, ?hy4a⟩) hHeld ?rest4a
      case hy4a => intro w9 hSw; go_simp; (try with_reducible rfl)
      try simp only [Act.put, s_put, s_0, s_1]
      refine wpAnyH_take (i := 5) (oi := ⟨some 42, .indexAddr 22 (.tmp 40) (.tmp 41), 0, _, _, _⟩) (v := ?v5a) rfl (by kernel_rfl) (by kernel_rfl) (by kernel_rfl) (fun _ _ _ h => h) (Or.inl ⟨by rfl, ?hy5a⟩) hHeld ?rest5a
      case hy5a => intro w9 hSw; go_simp; (try with_reducible rfl)
      try simp only [Act.put, s_put, s_0, s_1]
      refine wpAnyH_take (i := 6) (oi := ⟨some 43, .load 24 (.tmp 42), 24, _, _, _⟩) (v := ?v6a) rfl (by kernel_rfl) (by kernel_rfl) (by kernel_rfl) (fun _ _ _ h => h) (Or.inl ⟨by rfl, ?hy6a⟩) hHeld ?rest6a
      case hy6a => intro w9 hSw; obtain ⟨d0, d1, d2, d3, d4, d5⟩ := N1.out.below hSw (by omega); go_simp; (try with_reducible rfl)
      try simp only [Act.put, s_put, s_0, s_1]
      refine wpAnyH_take (i := 7) (oi := ⟨some 44, .move (.tmp 1), 25, _, _, _⟩) (v := ?v7a) rfl (by kernel_rfl) (by kernel_rfl) (by kernel_rfl) (fun _ _ _ h => h) (Or.inl ⟨by rfl, ?hy7a⟩) hHeld ?rest7a
      case hy7a => intro w9 hSw; go_simp; (try with_reducible rfl)
      try simp only [Act.put, s_put, s_0, s_1]
      refine wpAnyH_take (i := 8) (oi := ⟨some 45, .move (.tmp 2), 25, _, _, _⟩) (v := ?v8a) rfl (by kernel_rfl) (by kernel_rfl) (by kernel_rfl) (fun _ _ _ h => h) (Or.inl ⟨by rfl, ?hy8a⟩) hHeld ?rest8a
      case hy8a => intro w9 hSw; go_simp; (try with_reducible rfl)
      try simp only [Act.put, s_put, s_0, s_1]
      refine wpAnyH_ready (rs := [1, 9]) (by kernel_rfl) (by simp) ?_
      refine AllReadyH.cons (o := ⟨some 38, .load 22 (.tmp 37), 22, _, _, _⟩) rfl (fun K hK => ?_) (AllReadyH.cons (o := ⟨some 46, .call { callee := .value (.func 10), args := #[.tmp 43, .tmp 44, .tmp 45], argTypes := #[24, 25, 25] }, 24, _, _, _⟩) rfl (fun K hK => ?_) AllReadyH.nil)
      · have cc := (Below.cell hT (p := ⟨w.heap.size + 2, 5, none⟩) (by simp; omega)).trans C7.out
        go_simp
        clear cc
        refine hK.out _ _ hHeld (fun _ => ?_)
        clear hK K
        try simp only [Act.put, s_put, s_0, s_1]
        refine wpAnyH_ready (rs := [9]) (by kernel_rfl) (by simp) ?_
        refine AllReadyH.cons (o := ⟨some 46, .call { callee := .value (.func 10), args := #[.tmp 43, .tmp 44, .tmp 45], argTypes := #[24, 25, 25] }, 24, _, _, _⟩) rfl (fun K hK => ?_) AllReadyH.nil
        go_simp
        refine (HC _ (hwr.trans (hT.mono hwr.size))).mono ?_
        rintro e x9 ⟨yi, rfl, hI, ho, hnew, h9d⟩
        have h9 : Below wr.heap.size wr x9 := hT.trans (h9d.mono hT.size)
        obtain ⟨a2, cap2, w2, hrun, v1, v2, v3, v4, ⟨v5, v6⟩, v7⟩ := renP_next HG.out HO.out HBX.out hBr hsr hile hI ho (fun k hk => Nat.le_trans hT.size (hnew k hk)) h9
        have HV : Hid _ := v7
        clear v7 hI ho hnew h9d
        go_wp2_with fail
        refine hK.out _ _ v1 (fun _ => ?_)
        clear hK K
        try simp only [Act.put, s_put, s_0, s_1]
        refine wpAnyH_ready (rs := [10]) (by kernel_rfl) (by simp) ?_
        refine AllReadyH.cons (o := ⟨some 47, .buildSlice 22 1 #[(0, .tmp 46)], 22, _, _, _⟩) rfl (fun K hK => ?_) AllReadyH.nil
        go_simp
        refine hK.out _ _ v2 (fun _ => ?_)
        clear hK K
        try simp only [Act.put, s_put, s_0, s_1]
        refine wpAnyH_ready (rs := [11]) (by kernel_rfl) (by simp) ?_
        refine AllReadyH.cons (o := ⟨some 48, .call { callee := .builtin Builtin.append, args := #[.tmp 38, .tmp 47], argTypes := #[22, 22] }, 22, _, _, _⟩) rfl (fun K hK => ?_) AllReadyH.nil
        rw [if_pos (by rfl)]
        refine wpOp_append_at (.tmp 38) (.tmp 47) 22 rfl _ _ _ rfl rfl hrun ?_
        refine hK.out _ _ v3 (fun _ => ?_)
        clear hK K
        try simp only [Act.put, s_put, s_0, s_1]
        refine wpAnyH_ready (rs := [12]) (by kernel_rfl) (by simp) ?_
        refine AllReadyH.cons (o := ⟨some 49, .fieldAddr 24 (.tmp 7) 5, 0, _, _, _⟩) rfl (fun K hK => ?_) AllReadyH.nil
        go_simp
        refine hK.out _ _ v3 (fun _ => ?_)
        clear hK K
        try simp only [Act.put, s_put, s_0, s_1]
        refine wpAnyH_ready (rs := [13]) (by kernel_rfl) (by simp) ?_
        refine AllReadyH.cons (o := ⟨none, Op.store 22 (Operand.tmp 49) (Operand.tmp 48), 0, _, _, _⟩) rfl (fun K hK => ?_) AllReadyH.nil
        go_simp
        refine hK.out _ _ v4 (fun _ => ?_)
        clear hK K
        try simp only [Act.put, s_put, s_0, s_1]
        refine wpAnyH_done (by kernel_rfl) ?_ _
        refine NoPanic.normal ?_
        go_wp2
        go_roundw
        case rel => exact ⟨i + 1, a2, cap2, updP c i yi, HIN.out, by go_num, HV.out.1, HV.out.2.1, HV.out.2.2.1, HV.out.2.2.2.1, HV.out.2.2.2.2⟩
        case measure => have := HIN.out; simp [intOf]; omega
      · go_simp
        refine (HC _ (hwr.trans (hT.mono hwr.size))).mono ?_
        rintro e x9 ⟨yi, rfl, hI, ho, hnew, h9d⟩
        have h9 : Below wr.heap.size wr x9 := hT.trans (h9d.mono hT.size)
        obtain ⟨a2, cap2, w2, hrun, v1, v2, v3, v4, ⟨v5, v6⟩, v7⟩ := renP_next HG.out HO.out HBX.out hBr hsr hile hI ho (fun k hk => Nat.le_trans hT.size (hnew k hk)) h9
        have HV : Hid _ := v7
        clear v7 hI ho hnew h9d
        go_wp2_with fail
        refine hK.out _ _ v1 (fun _ => ?_)
        clear hK K
        try simp only [Act.put, s_put, s_0, s_1]
        refine wpAnyH_ready (rs := [1, 10]) (by kernel_rfl) (by simp) ?_
        refine AllReadyH.cons (o := ⟨some 38, .load 22 (.tmp 37), 22, _, _, _⟩) rfl (fun K hK => ?_) (AllReadyH.cons (o := ⟨some 47, .buildSlice 22 1 #[(0, .tmp 46)], 22, _, _, _⟩) rfl (fun K hK => ?_) AllReadyH.nil)
        · have cc := (Below.cell h9 (p := ⟨w.heap.size + 2, 5, none⟩) (by simp; omega)).trans C7.out
          go_simp
          clear cc
          refine hK.out _ _ v1 (fun _ => ?_)
          clear hK K
          try simp only [Act.put, s_put, s_0, s_1]
          refine wpAnyH_ready (rs := [10]) (by kernel_rfl) (by simp) ?_
          refine AllReadyH.cons (o := ⟨some 47, .buildSlice 22 1 #[(0, .tmp 46)], 22, _, _, _⟩) rfl (fun K hK => ?_) AllReadyH.nil
          go_simp
          refine hK.out _ _ v2 (fun _ => ?_)
          clear hK K
          try simp only [Act.put, s_put, s_0, s_1]
          refine wpAnyH_ready (rs := [11]) (by kernel_rfl) (by simp) ?_
          refine AllReadyH.cons (o := ⟨some 48, .call { callee := .builtin Builtin.append, args := #[.tmp 38, .tmp 47], argTypes := #[22, 22] }, 22, _, _, _⟩) rfl (fun K hK => ?_) AllReadyH.nil
          rw [if_pos (by rfl)]
          refine wpOp_append_at (.tmp 38) (.tmp 47) 22 rfl _ _ _ rfl rfl hrun ?_
          refine hK.out _ _ v3 (fun _ => ?_)
          clear hK K
          try simp only [Act.put, s_put, s_0, s_1]
          refine wpAnyH_ready (rs := [12]) (by kernel_rfl) (by simp) ?_
          refine AllReadyH.cons (o := ⟨some 49, .fieldAddr 24 (.tmp 7) 5, 0, _, _, _⟩) rfl (fun K hK => ?_) AllReadyH.nil
          go_simp
          refine hK.out _ _ v3 (fun _ => ?_)
          clear hK K
          try simp only [Act.put, s_put, s_0, s_1]
          refine wpAnyH_ready (rs := [13]) (by kernel_rfl) (by simp) ?_
          refine AllReadyH.cons (o := ⟨none, Op.store 22 (Operand.tmp 49) (Operand.tmp 48), 0, _, _, _⟩) rfl (fun K hK => ?_) AllReadyH.nil
          go_simp
          refine hK.out _ _ v4 (fun _ => ?_)
          clear hK K
          try simp only [Act.put, s_put, s_0, s_1]
          refine wpAnyH_done (by kernel_rfl) ?_ _
          refine NoPanic.normal ?_
          go_wp2
          go_roundw
          case rel => exact ⟨i + 1, a2, cap2, updP c i yi, HIN.out, by go_num, HV.out.1, HV.out.2.1, HV.out.2.2.1, HV.out.2.2.2.1, HV.out.2.2.2.2⟩
          case measure => have := HIN.out; simp [intOf]; omega
        · go_simp
          refine hK.out _ _ v2 (fun _ => ?_)
          clear hK K
          try simp only [Act.put, s_put, s_0, s_1]
          refine wpAnyH_ready (rs := [1]) (by kernel_rfl) (by simp) ?_
          refine AllReadyH.cons (o := ⟨some 38, .load 22 (.tmp 37), 22, _, _, _⟩) rfl (fun K hK => ?_) AllReadyH.nil
          have cc := (Below.cell (h9.alloc h9.size (.cells yi.cells 24)) (p := ⟨w.heap.size + 2, 5, none⟩) (by simp; omega)).trans C7.out
          go_simp
          clear cc
          refine hK.out _ _ v2 (fun _ => ?_)
          clear hK K
          try simp only [Act.put, s_put, s_0, s_1]
          refine wpAnyH_ready (rs := [11]) (by kernel_rfl) (by simp) ?_
          refine AllReadyH.cons (o := ⟨some 48, .call { callee := .builtin Builtin.append, args := #[.tmp 38, .tmp 47], argTypes := #[22, 22] }, 22, _, _, _⟩) rfl (fun K hK => ?_) AllReadyH.nil
          rw [if_pos (by rfl)]
          refine wpOp_append_at (.tmp 38) (.tmp 47) 22 rfl _ _ _ rfl rfl hrun ?_
          refine hK.out _ _ v3 (fun _ => ?_)
          clear hK K
          try simp only [Act.put, s_put, s_0, s_1]
          refine wpAnyH_ready (rs := [12]) (by kernel_rfl) (by simp) ?_
          refine AllReadyH.cons (o := ⟨some 49, .fieldAddr 24 (.tmp 7) 5, 0, _, _, _⟩) rfl (fun K hK => ?_) AllReadyH.nil
          go_simp
          refine hK.out _ _ v3 (fun _ => ?_)
          clear hK K
          try simp only [Act.put, s_put, s_0, s_1]
          refine wpAnyH_ready (rs := [13]) (by kernel_rfl) (by simp) ?_
          refine AllReadyH.cons (o := ⟨none, Op.store 22 (Operand.tmp 49) (Operand.tmp 48), 0, _, _, _⟩) rfl (fun K hK => ?_) AllReadyH.nil
          go_simp
          refine hK.out _ _ v4 (fun _ => ?_)
          clear hK K
          try simp only [Act.put, s_put, s_0, s_1]
          refine wpAnyH_done (by kernel_rfl) ?_ _
          refine NoPanic.normal ?_
          go_wp2
          go_roundw
          case rel => exact ⟨i + 1, a2, cap2, updP c i yi, HIN.out, by go_num, HV.out.1, HV.out.2.1, HV.out.2.2.1, HV.out.2.2.2.1, HV.out.2.2.2.2⟩
          case measure => have := HIN.out; simp [intOf]; omega
    · obtain rfl : i = x.n := by omega
      have z0 := (hBr.block (w.heap.size + 1) (by omega)).trans HX1.out
      obtain ⟨d0, d1, d2, d3, d4, d5⟩ := (nodeP_box HBX.out).at0
      obtain ⟨e0, e1, e2, e3, e4, e5⟩ := (nodeP_box z0).at0
      have gf : ∀ j, wr.frozen? ⟨w.heap.size + 1, j, none⟩ = false := fun j => FreeP.frozen ⟨_, z0⟩ j
      have f0 := gf 0
      have f1 := gf 1
      have f2 := gf 2
      have f3 := gf 3
      have f4 := gf 4
      have f5 := gf 5
      have hblk := heap_set6 (y := Pt.mk x.k s x.t x.lo x.hi a1 x.n cap1 c) z0
      obtain ⟨q1, q2⟩ := HG.out.is x.k s x.t x.lo x.hi
      have FIN : Hid (RenAnsP g x w (.returned (Pt.mk x.k s x.t x.lo x.hi a1 x.n cap1 c).val) (set6 wr (w.heap.size + 1) (Pt.mk x.k s x.t x.lo x.hi a1 x.n cap1 c))) :=
        ⟨_, rfl, q1.kept (T := fun k => k ≠ w.heap.size + 1) (fun k o hk _ e => (heap_set6_other hk).trans e) (fun k hk => by have := q2 k hk; omega), HR.out a1 cap1 c HO.out, fun k hk => by have := q2 k hk; omega, below_set6 hwr (by omega)⟩
      clear gf q1 q2 hin
      go_wp2
      refine bodyPost_ret (results_cell_row rfl _ _ (w.heap.size + 1) 24 _ (0, 0) _ rfl hblk Try.underlying24 rfl (by kernel_rfl)) rfl ?_
      exact FIN.out
set_option maxRecDepth 100000 in
set_option maxHeartbeats 8000000 in
theorem refRenameP_six (a a' : Option Addr) (m m' cap cap' : Nat) (S T : Nat → ByteArray) (x : Pt) (w : World) (hm : m ≤ 9223372036854775807) (hm' : m' ≤ 9223372036854775807) (hk : nmd x.k = true) (k1 : (x.k == 1) = false) (k2 : (x.k == 5) = false) (k3 : (x.k == 6) = true) (hX : IsP w x) (hsm : WdP x) (hS : Txs w a m S) (hT : Txs w a' m' T)
    (ih : ∀ i, i < x.n → ∀ d, IsP d (x.c i) → Txs d a m S → Txs d a' m' T → Calls Try.prog 10 #[(x.c i).val, .slice a m cap, .slice a' m' cap'] d (RenAnsP (nameX S T (min m m')) (x.c i) d)) :
    Calls Try.prog 10 #[x.val, .slice a m cap, .slice a' m' cap'] w (RenAnsP (nameX S T (min m m')) x w) := by
  obtain ⟨g, hg⟩ : ∃ g, g = nameX S T (min m m') := ⟨_, rfl⟩
  have NM : Hid (∀ d, Below w.heap.size w d → Calls Try.prog 26 #[.string x.s, .slice a m cap, .slice a' m' cap'] d fun e w' => e = .returned (.string (g x.s)) ∧ w' = d) := fun d h => by rw [hg]; exact refVar_wide x.s a a' m m' cap cap' S T d (hS.later h) (hT.later h) hm hm'
  have HI : Hid (∀ i, i < x.n → ∀ d, Below w.heap.size w d → Calls Try.prog 10 #[(x.c i).val, .slice a m cap, .slice a' m' cap'] d (RenAnsP g (x.c i) d)) := fun i hi d h => by
    rw [hg]
    obtain ⟨_, _, _, _, hx⟩ := (hX.later h).part hi
    exact ih i hi d hx (hS.later h) (hT.later h)
  have hlen : x.n ≤ 1759218604390 := ((wdP_eq x).1 hsm).1
  obtain ⟨s, hs⟩ : ∃ s, s = g x.s := ⟨_, rfl⟩
  have HR : Hid (∀ (a1 : Option Addr) (cap1 : Nat) (c : Nat → Pt), (∀ j, j < x.n → Sm (c j) (renP g (x.c j))) → Sm (Pt.mk x.k s x.t x.lo x.hi a1 x.n cap1 c) (renP g x)) := fun a1 cap1 c h => by
    obtain ⟨q1, q2, q3, q4, q5, q6, q7⟩ := renP_parts g x
    refine (sm_iff _ _).2 ⟨q1.symm, ?_, q3.symm, q4.symm, q5.symm, q6.symm, fun i hi => by rw [q7]; exact h i hi⟩
    rw [q2, if_pos hk]
    exact hs
  rw [← hg]
  have HX : Hid (IsP w x) := hX
  obtain ⟨A, hA⟩ : ∃ A, ((w.alloc (.cells x.cells 24)).alloc (.cells Pt.nil.cells 24)).alloc (.cells (Pt.mk x.k s x.t x.lo x.hi none 0 0 x.c).cells 24) = A := ⟨_, rfl⟩
  have hB : Below w.heap.size w A := by rw [← hA]; exact (((Below.refl _ w).alloc (Nat.le_refl _) _).alloc (by simp) _).alloc (by simp; omega) _
  have hsz : A.heap.size = w.heap.size + 3 := by rw [← hA]; simp
  have hx0 : A.heap[w.heap.size]? = some (.cells x.cells 24 (0, 0)) := by
    rw [← hA]
    exact (alloc_old (by simp; omega)).trans ((alloc_old (by simp)).trans (alloc_new _ _))
  have hx1 : A.heap[w.heap.size + 1]? = some (.cells Pt.nil.cells 24 (0, 0)) := by
    rw [← hA, alloc_old (by simp)]
    exact alloc2_new _ _ _
  have hx2 : A.heap[w.heap.size + 2]? = some (.cells (Pt.mk x.k s x.t x.lo x.hi none 0 0 x.c).cells 24 (0, 0)) := by
    have := alloc_new ((w.alloc (.cells x.cells 24)).alloc (.cells Pt.nil.cells 24)) (.cells (Pt.mk x.k s x.t x.lo x.hi none 0 0 x.c).cells 24)
    rw [World.size_alloc, World.size_alloc, hA] at this
    exact this
  have HA : Hid (A.heap.size = w.heap.size + 3) := hsz
  have HX0 : Hid (A.heap[w.heap.size]? = some (.cells x.cells 24 (0, 0))) := hx0
  have HX1 : Hid (A.heap[w.heap.size + 1]? = some (.cells Pt.nil.cells 24 (0, 0))) := hx1
  have HX2 : Hid (A.heap[w.heap.size + 2]? = some (.cells (Pt.mk x.k s x.t x.lo x.hi none 0 0 x.c).cells 24 (0, 0))) := hx2
  have HB : Hid (Below w.heap.size w A) := hB
  have HS : Hid (g x.s = s) := hs.symm
  clear hs
  clear hg ih hX hS hT hsz hx0 hx1 hx2 hB hk hsm
  go_enter Try.func10, Try.ntmps10
  go_wp2_with (first | (go_at_call 26; refine (NM.out _ (((Below.refl _ _).alloc (Nat.le_refl _) _).alloc (by simp) _ |>.alloc (by simp; omega) _)).mono ?_; rintro e w1 ⟨rfl, hw1⟩; replace hw1 := hw1.symm; subst hw1))
  rw [HS.out]
  change Code.wp _ _ _ _ (((w.alloc (.cells x.cells 24)).alloc (.cells Pt.nil.cells 24)).alloc (.cells (Pt.mk x.k s x.t x.lo x.hi none 0 0 x.c).cells 24))
  rw [hA]
  clear hA NM HS
  go_loopw [8] (fun iv wr => ∃ (i : Nat) (a1 : Option Addr) (cap1 : Nat) (c : Nat → Pt), i ≤ x.n ∧ iv = .int .i64 i ∧ Hid (wr.heap[w.heap.size + 2]? = some (.cells (Pt.mk x.k s x.t x.lo x.hi a1 i cap1 c).cells 24 (0, 0))) ∧ Hid (GrownP (w.heap.size + 3) wr (.slice a1 i cap1) i c) ∧ Hid (∀ j, j < i → Sm (c j) (renP g (x.c j))) ∧ Below (w.heap.size + 2) A wr ∧ w.heap.size + 3 ≤ wr.heap.size) (fun iv _ => x.n - (intOf iv).toNat)
  case atStart => exact ⟨0, none, 0, x.c, Nat.zero_le _, rfl, HX2, grownP_nil _ _ _, fun j hj => absurd hj (Nat.not_lt_zero _), Below.refl _ _, by rw [HA.out]; exact Nat.le_refl _⟩
  case round =>
    obtain ⟨i, a1, cap1, c, hi, rfl, HBX, HG, HO, hBr, hsr⟩ := hrel
    have hwr : Below w.heap.size w wr := HB.out.trans (hBr.mono (by omega))
    have HXW : Hid (wr.heap[w.heap.size]? = some (.cells x.cells 24 (0, 0))) := (hBr.block _ (by omega)).trans HX0.out
    have c6 := (nodeP_box HXW.out).at0.2.2.2.2.2
    by_cases hin : i < x.n
    · obtain ⟨b, o, ea, hn, hx⟩ := (HX.out.later hwr).part hin
      have hbl : b < w.heap.size := by obtain ⟨b', o', ea', hn', _⟩ := HX.out.part hin; rw [ea] at ea'; cases ea'; exact hn'.lt
      have HC := HI.out i hin
      have HIN : Hid (i < x.n) := hin
      have C6 : Hid (wr.cell? ⟨w.heap.size, 5, none⟩ = some (.slice (some ⟨b, o, none⟩) x.n x.cap)) := by rw [← ea]; exact c6
      have N1 : Hid (NodeP wr b (o + i * 6) (x.c i)) := hn
      have C7 : Hid (wr.cell? ⟨w.heap.size + 2, 5, none⟩ = some (.slice a1 i cap1)) := (nodeP_box HBX.out).at0.2.2.2.2.2
      have HEA : Hid (x.a = some ⟨b, o, none⟩) := ea
      rw [ea] at c6
      clear ea hn hx hin
      have hile : i ≤ 1759218604390 := by omega
      go_wp2
      refine wp_region_noPanic ?_
      refine wp_region_held_drew (S := fun w' => Below (w.heap.size + 2) wr w') (by kernel_rfl) ((Below.refl _ _).drew) (fun hHeld => ?_)
      have hT : Below wr.heap.size wr wr.drew := (Below.refl _ _).drew
      obtain ⟨d, hdw⟩ : ∃ d, d = wr.drew := ⟨_, rfl⟩
      rw [← hdw] at hHeld hT ⊢
      clear hdw c6
      refine wpAnyH_take (i := 0) (oi := ⟨some 37, .fieldAddr 24 (.tmp 7) 5, 0, _, _, _⟩) (v := ?v0a) rfl (by kernel_rfl) (by kernel_rfl) (by kernel_rfl) (fun _ _ _ h => h) (Or.inl ⟨by rfl, ?hy0a⟩) hHeld ?rest0a
      case hy0a => intro w9 hSw; go_simp; (try with_reducible rfl)
      try simp only [Act.put, s_put, s_0, s_1]
      refine wpAnyH_take (i := 2) (oi := ⟨some 39, .fieldAddr 24 (.tmp 3) 5, 0, _, _, _⟩) (v := ?v2a) rfl (by kernel_rfl) (by kernel_rfl) (by kernel_rfl) (fun _ _ _ h => h) (Or.inl ⟨by rfl, ?hy2a⟩) hHeld ?rest2a
      case hy2a => intro w9 hSw; go_simp; (try with_reducible rfl)
      try simp only [Act.put, s_put, s_0, s_1]
      refine wpAnyH_take (i := 3) (oi := ⟨some 40, .load 22 (.tmp 39), 22, _, _, _⟩) (v := ?v3a) rfl (by kernel_rfl) (by kernel_rfl) (by kernel_rfl) (fun _ _ _ h => h) (Or.inl ⟨by rfl, ?hy3a⟩) hHeld ?rest3a
      case hy3a => intro w9 hSw; have cc := (hSw.cell (p := ⟨w.heap.size, 5, none⟩) (by simp)).trans C6.out; go_simp; (try with_reducible rfl)
      try simp only [Act.put, s_put, s_0, s_1]
      refine wpAnyH_take (i := 4) (oi := ⟨some 41, .move (.tmp 8), 3, _, _, _⟩) (v := ?v4a) rfl (by kernel_rfl) (by kernel_rfl) (by kernel_rfl) (fun _ _ _ h => h) (Or.inl ⟨by rfl, ?hy4a⟩) hHeld ?rest4a
      case hy4a => intro w9 hSw; go_simp; (try with_reducible rfl)
      try simp only [Act.put, s_put, s_0, s_1]
      refine wpAnyH_take (i := 5) (oi := ⟨some 42, .indexAddr 22 (.tmp 40) (.tmp 41), 0, _, _, _⟩) (v := ?v5a) rfl (by kernel_rfl) (by kernel_rfl) (by kernel_rfl) (fun _ _ _ h => h) (Or.inl ⟨by rfl, ?hy5a⟩) hHeld ?rest5a
      case hy5a => intro w9 hSw; go_simp; (try with_reducible rfl)
      try simp only [Act.put, s_put, s_0, s_1]
      refine wpAnyH_take (i := 6) (oi := ⟨some 43, .load 24 (.tmp 42), 24, _, _, _⟩) (v := ?v6a) rfl (by kernel_rfl) (by kernel_rfl) (by kernel_rfl) (fun _ _ _ h => h) (Or.inl ⟨by rfl, ?hy6a⟩) hHeld ?rest6a
      case hy6a => intro w9 hSw; obtain ⟨d0, d1, d2, d3, d4, d5⟩ := N1.out.below hSw (by omega); go_simp; (try with_reducible rfl)
      try simp only [Act.put, s_put, s_0, s_1]
      refine wpAnyH_take (i := 7) (oi := ⟨some 44, .move (.tmp 1), 25, _, _, _⟩) (v := ?v7a) rfl (by kernel_rfl) (by kernel_rfl) (by kernel_rfl) (fun _ _ _ h => h) (Or.inl ⟨by rfl, ?hy7a⟩) hHeld ?rest7a
      case hy7a => intro w9 hSw; go_simp; (try with_reducible rfl)
      try simp only [Act.put, s_put, s_0, s_1]
      refine wpAnyH_take (i := 8) (oi := ⟨some 45, .move (.tmp 2), 25, _, _, _⟩) (v := ?v8a) rfl (by kernel_rfl) (by kernel_rfl) (by kernel_rfl) (fun _ _ _ h => h) (Or.inl ⟨by rfl, ?hy8a⟩) hHeld ?rest8a
      case hy8a => intro w9 hSw; go_simp; (try with_reducible rfl)
      try simp only [Act.put, s_put, s_0, s_1]
      refine wpAnyH_ready (rs := [1, 9]) (by kernel_rfl) (by simp) ?_
      refine AllReadyH.cons (o := ⟨some 38, .load 22 (.tmp 37), 22, _, _, _⟩) rfl (fun K hK => ?_) (AllReadyH.cons (o := ⟨some 46, .call { callee := .value (.func 10), args := #[.tmp 43, .tmp 44, .tmp 45], argTypes := #[24, 25, 25] }, 24, _, _, _⟩) rfl (fun K hK => ?_) AllReadyH.nil)
      · have cc := (Below.cell hT (p := ⟨w.heap.size + 2, 5, none⟩) (by simp; omega)).trans C7.out
        go_simp
        clear cc
        refine hK.out _ _ hHeld (fun _ => ?_)
        clear hK K
        try simp only [Act.put, s_put, s_0, s_1]
        refine wpAnyH_ready (rs := [9]) (by kernel_rfl) (by simp) ?_
        refine AllReadyH.cons (o := ⟨some 46, .call { callee := .value (.func 10), args := #[.tmp 43, .tmp 44, .tmp 45], argTypes := #[24, 25, 25] }, 24, _, _, _⟩) rfl (fun K hK => ?_) AllReadyH.nil
        go_simp
        refine (HC _ (hwr.trans (hT.mono hwr.size))).mono ?_
        rintro e x9 ⟨yi, rfl, hI, ho, hnew, h9d⟩
        have h9 : Below wr.heap.size wr x9 := hT.trans (h9d.mono hT.size)
        obtain ⟨a2, cap2, w2, hrun, v1, v2, v3, v4, ⟨v5, v6⟩, v7⟩ := renP_next HG.out HO.out HBX.out hBr hsr hile hI ho (fun k hk => Nat.le_trans hT.size (hnew k hk)) h9
        have HV : Hid _ := v7
        clear v7 hI ho hnew h9d
        go_wp2_with fail
        refine hK.out _ _ v1 (fun _ => ?_)
        clear hK K
        try simp only [Act.put, s_put, s_0, s_1]
        refine wpAnyH_ready (rs := [10]) (by kernel_rfl) (by simp) ?_
        refine AllReadyH.cons (o := ⟨some 47, .buildSlice 22 1 #[(0, .tmp 46)], 22, _, _, _⟩) rfl (fun K hK => ?_) AllReadyH.nil
        go_simp
        refine hK.out _ _ v2 (fun _ => ?_)
        clear hK K
        try simp only [Act.put, s_put, s_0, s_1]
        refine wpAnyH_ready (rs := [11]) (by kernel_rfl) (by simp) ?_
        refine AllReadyH.cons (o := ⟨some 48, .call { callee := .builtin Builtin.append, args := #[.tmp 38, .tmp 47], argTypes := #[22, 22] }, 22, _, _, _⟩) rfl (fun K hK => ?_) AllReadyH.nil
        rw [if_pos (by rfl)]
        refine wpOp_append_at (.tmp 38) (.tmp 47) 22 rfl _ _ _ rfl rfl hrun ?_
        refine hK.out _ _ v3 (fun _ => ?_)
        clear hK K
        try simp only [Act.put, s_put, s_0, s_1]
        refine wpAnyH_ready (rs := [12]) (by kernel_rfl) (by simp) ?_
        refine AllReadyH.cons (o := ⟨some 49, .fieldAddr 24 (.tmp 7) 5, 0, _, _, _⟩) rfl (fun K hK => ?_) AllReadyH.nil
        go_simp
        refine hK.out _ _ v3 (fun _ => ?_)
        clear hK K
        try simp only [Act.put, s_put, s_0, s_1]
        refine wpAnyH_ready (rs := [13]) (by kernel_rfl) (by simp) ?_
        refine AllReadyH.cons (o := ⟨none, Op.store 22 (Operand.tmp 49) (Operand.tmp 48), 0, _, _, _⟩) rfl (fun K hK => ?_) AllReadyH.nil
        go_simp
        refine hK.out _ _ v4 (fun _ => ?_)
        clear hK K
        try simp only [Act.put, s_put, s_0, s_1]
        refine wpAnyH_done (by kernel_rfl) ?_ _
        refine NoPanic.normal ?_
        go_wp2
        go_roundw
        case rel => exact ⟨i + 1, a2, cap2, updP c i yi, HIN.out, by go_num, HV.out.1, HV.out.2.1, HV.out.2.2.1, HV.out.2.2.2.1, HV.out.2.2.2.2⟩
        case measure => have := HIN.out; simp [intOf]; omega
      · go_simp
        refine (HC _ (hwr.trans (hT.mono hwr.size))).mono ?_
        rintro e x9 ⟨yi, rfl, hI, ho, hnew, h9d⟩
        have h9 : Below wr.heap.size wr x9 := hT.trans (h9d.mono hT.size)
        obtain ⟨a2, cap2, w2, hrun, v1, v2, v3, v4, ⟨v5, v6⟩, v7⟩ := renP_next HG.out HO.out HBX.out hBr hsr hile hI ho (fun k hk => Nat.le_trans hT.size (hnew k hk)) h9
        have HV : Hid _ := v7
        clear v7 hI ho hnew h9d
        go_wp2_with fail
        refine hK.out _ _ v1 (fun _ => ?_)
        clear hK K
        try simp only [Act.put, s_put, s_0, s_1]
        refine wpAnyH_ready (rs := [1, 10]) (by kernel_rfl) (by simp) ?_
        refine AllReadyH.cons (o := ⟨some 38, .load 22 (.tmp 37), 22, _, _, _⟩) rfl (fun K hK => ?_) (AllReadyH.cons (o := ⟨some 47, .buildSlice 22 1 #[(0, .tmp 46)], 22, _, _, _⟩) rfl (fun K hK => ?_) AllReadyH.nil)
        · have cc := (Below.cell h9 (p := ⟨w.heap.size + 2, 5, none⟩) (by simp; omega)).trans C7.out
          go_simp
          clear cc
          refine hK.out _ _ v1 (fun _ => ?_)
          clear hK K
          try simp only [Act.put, s_put, s_0, s_1]
          refine wpAnyH_ready (rs := [10]) (by kernel_rfl) (by simp) ?_
          refine AllReadyH.cons (o := ⟨some 47, .buildSlice 22 1 #[(0, .tmp 46)], 22, _, _, _⟩) rfl (fun K hK => ?_) AllReadyH.nil
          go_simp
          refine hK.out _ _ v2 (fun _ => ?_)
          clear hK K
          try simp only [Act.put, s_put, s_0, s_1]
          refine wpAnyH_ready (rs := [11]) (by kernel_rfl) (by simp) ?_
          refine AllReadyH.cons (o := ⟨some 48, .call { callee := .builtin Builtin.append, args := #[.tmp 38, .tmp 47], argTypes := #[22, 22] }, 22, _, _, _⟩) rfl (fun K hK => ?_) AllReadyH.nil
          rw [if_pos (by rfl)]
          refine wpOp_append_at (.tmp 38) (.tmp 47) 22 rfl _ _ _ rfl rfl hrun ?_
          refine hK.out _ _ v3 (fun _ => ?_)
          clear hK K
          try simp only [Act.put, s_put, s_0, s_1]
          refine wpAnyH_ready (rs := [12]) (by kernel_rfl) (by simp) ?_
          refine AllReadyH.cons (o := ⟨some 49, .fieldAddr 24 (.tmp 7) 5, 0, _, _, _⟩) rfl (fun K hK => ?_) AllReadyH.nil
          go_simp
          refine hK.out _ _ v3 (fun _ => ?_)
          clear hK K
          try simp only [Act.put, s_put, s_0, s_1]
          refine wpAnyH_ready (rs := [13]) (by kernel_rfl) (by simp) ?_
          refine AllReadyH.cons (o := ⟨none, Op.store 22 (Operand.tmp 49) (Operand.tmp 48), 0, _, _, _⟩) rfl (fun K hK => ?_) AllReadyH.nil
          go_simp
          refine hK.out _ _ v4 (fun _ => ?_)
          clear hK K
          try simp only [Act.put, s_put, s_0, s_1]
          refine wpAnyH_done (by kernel_rfl) ?_ _
          refine NoPanic.normal ?_
          go_wp2
          go_roundw
          case rel => exact ⟨i + 1, a2, cap2, updP c i yi, HIN.out, by go_num, HV.out.1, HV.out.2.1, HV.out.2.2.1, HV.out.2.2.2.1, HV.out.2.2.2.2⟩
          case measure => have := HIN.out; simp [intOf]; omega
        · go_simp
          refine hK.out _ _ v2 (fun _ => ?_)
          clear hK K
          try simp only [Act.put, s_put, s_0, s_1]
          refine wpAnyH_ready (rs := [1]) (by kernel_rfl) (by simp) ?_
          refine AllReadyH.cons (o := ⟨some 38, .load 22 (.tmp 37), 22, _, _, _⟩) rfl (fun K hK => ?_) AllReadyH.nil
          have cc := (Below.cell (h9.alloc h9.size (.cells yi.cells 24)) (p := ⟨w.heap.size + 2, 5, none⟩) (by simp; omega)).trans C7.out
          go_simp
          clear cc
          refine hK.out _ _ v2 (fun _ => ?_)
          clear hK K
          try simp only [Act.put, s_put, s_0, s_1]
          refine wpAnyH_ready (rs := [11]) (by kernel_rfl) (by simp) ?_
          refine AllReadyH.cons (o := ⟨some 48, .call { callee := .builtin Builtin.append, args := #[.tmp 38, .tmp 47], argTypes := #[22, 22] }, 22, _, _, _⟩) rfl (fun K hK => ?_) AllReadyH.nil
          rw [if_pos (by rfl)]
          refine wpOp_append_at (.tmp 38) (.tmp 47) 22 rfl _ _ _ rfl rfl hrun ?_
          refine hK.out _ _ v3 (fun _ => ?_)
          clear hK K
          try simp only [Act.put, s_put, s_0, s_1]
          refine wpAnyH_ready (rs := [12]) (by kernel_rfl) (by simp) ?_
          refine AllReadyH.cons (o := ⟨some 49, .fieldAddr 24 (.tmp 7) 5, 0, _, _, _⟩) rfl (fun K hK => ?_) AllReadyH.nil
          go_simp
          refine hK.out _ _ v3 (fun _ => ?_)
          clear hK K
          try simp only [Act.put, s_put, s_0, s_1]
          refine wpAnyH_ready (rs := [13]) (by kernel_rfl) (by simp) ?_
          refine AllReadyH.cons (o := ⟨none, Op.store 22 (Operand.tmp 49) (Operand.tmp 48), 0, _, _, _⟩) rfl (fun K hK => ?_) AllReadyH.nil
          go_simp
          refine hK.out _ _ v4 (fun _ => ?_)
          clear hK K
          try simp only [Act.put, s_put, s_0, s_1]
          refine wpAnyH_done (by kernel_rfl) ?_ _
          refine NoPanic.normal ?_
          go_wp2
          go_roundw
          case rel => exact ⟨i + 1, a2, cap2, updP c i yi, HIN.out, by go_num, HV.out.1, HV.out.2.1, HV.out.2.2.1, HV.out.2.2.2.1, HV.out.2.2.2.2⟩
          case measure => have := HIN.out; simp [intOf]; omega
    · obtain rfl : i = x.n := by omega
      have z0 := (hBr.block (w.heap.size + 1) (by omega)).trans HX1.out
      obtain ⟨d0, d1, d2, d3, d4, d5⟩ := (nodeP_box HBX.out).at0
      obtain ⟨e0, e1, e2, e3, e4, e5⟩ := (nodeP_box z0).at0
      have gf : ∀ j, wr.frozen? ⟨w.heap.size + 1, j, none⟩ = false := fun j => FreeP.frozen ⟨_, z0⟩ j
      have f0 := gf 0
      have f1 := gf 1
      have f2 := gf 2
      have f3 := gf 3
      have f4 := gf 4
      have f5 := gf 5
      have hblk := heap_set6 (y := Pt.mk x.k s x.t x.lo x.hi a1 x.n cap1 c) z0
      obtain ⟨q1, q2⟩ := HG.out.is x.k s x.t x.lo x.hi
      have FIN : Hid (RenAnsP g x w (.returned (Pt.mk x.k s x.t x.lo x.hi a1 x.n cap1 c).val) (set6 wr (w.heap.size + 1) (Pt.mk x.k s x.t x.lo x.hi a1 x.n cap1 c))) :=
        ⟨_, rfl, q1.kept (T := fun k => k ≠ w.heap.size + 1) (fun k o hk _ e => (heap_set6_other hk).trans e) (fun k hk => by have := q2 k hk; omega), HR.out a1 cap1 c HO.out, fun k hk => by have := q2 k hk; omega, below_set6 hwr (by omega)⟩
      clear gf q1 q2 hin
      go_wp2
      refine bodyPost_ret (results_cell_row rfl _ _ (w.heap.size + 1) 24 _ (0, 0) _ rfl hblk Try.underlying24 rfl (by kernel_rfl)) rfl ?_
      exact FIN.out
set_option maxRecDepth 100000 in
set_option maxHeartbeats 8000000 in
theorem refRenameP_other (a a' : Option Addr) (m m' cap cap' : Nat) (S T : Nat → ByteArray) (x : Pt) (w : World) (hm : m ≤ 9223372036854775807) (hm' : m' ≤ 9223372036854775807) (hk : ¬ nmd x.k = true) (k1 : (x.k == 1) = false) (k2 : (x.k == 5) = false) (k3 : (x.k == 6) = false) (hX : IsP w x) (hsm : WdP x) (hS : Txs w a m S) (hT : Txs w a' m' T)
    (ih : ∀ i, i < x.n → ∀ d, IsP d (x.c i) → Txs d a m S → Txs d a' m' T → Calls Try.prog 10 #[(x.c i).val, .slice a m cap, .slice a' m' cap'] d (RenAnsP (nameX S T (min m m')) (x.c i) d)) :
    Calls Try.prog 10 #[x.val, .slice a m cap, .slice a' m' cap'] w (RenAnsP (nameX S T (min m m')) x w) := by
  obtain ⟨g, hg⟩ : ∃ g, g = nameX S T (min m m') := ⟨_, rfl⟩
  have NM : Hid (∀ d, Below w.heap.size w d → Calls Try.prog 26 #[.string x.s, .slice a m cap, .slice a' m' cap'] d fun e w' => e = .returned (.string (g x.s)) ∧ w' = d) := fun d h => by rw [hg]; exact refVar_wide x.s a a' m m' cap cap' S T d (hS.later h) (hT.later h) hm hm'
  have HI : Hid (∀ i, i < x.n → ∀ d, Below w.heap.size w d → Calls Try.prog 10 #[(x.c i).val, .slice a m cap, .slice a' m' cap'] d (RenAnsP g (x.c i) d)) := fun i hi d h => by
    rw [hg]
    obtain ⟨_, _, _, _, hx⟩ := (hX.later h).part hi
    exact ih i hi d hx (hS.later h) (hT.later h)
  have hlen : x.n ≤ 1759218604390 := ((wdP_eq x).1 hsm).1
  have HR : Hid (∀ (a1 : Option Addr) (cap1 : Nat) (c : Nat → Pt), (∀ j, j < x.n → Sm (c j) (renP g (x.c j))) → Sm (Pt.mk x.k x.s x.t x.lo x.hi a1 x.n cap1 c) (renP g x)) := fun a1 cap1 c h => by
    obtain ⟨q1, q2, q3, q4, q5, q6, q7⟩ := renP_parts g x
    refine (sm_iff _ _).2 ⟨q1.symm, ?_, q3.symm, q4.symm, q5.symm, q6.symm, fun i hi => by rw [q7]; exact h i hi⟩
    rw [q2, if_neg hk]
    rfl
  rw [← hg]
  have HX : Hid (IsP w x) := hX
  obtain ⟨A, hA⟩ : ∃ A, ((w.alloc (.cells x.cells 24)).alloc (.cells Pt.nil.cells 24)).alloc (.cells (Pt.mk x.k x.s x.t x.lo x.hi none 0 0 x.c).cells 24) = A := ⟨_, rfl⟩
  have hB : Below w.heap.size w A := by rw [← hA]; exact (((Below.refl _ w).alloc (Nat.le_refl _) _).alloc (by simp) _).alloc (by simp; omega) _
  have hsz : A.heap.size = w.heap.size + 3 := by rw [← hA]; simp
  have hx0 : A.heap[w.heap.size]? = some (.cells x.cells 24 (0, 0)) := by
    rw [← hA]
    exact (alloc_old (by simp; omega)).trans ((alloc_old (by simp)).trans (alloc_new _ _))
  have hx1 : A.heap[w.heap.size + 1]? = some (.cells Pt.nil.cells 24 (0, 0)) := by
    rw [← hA, alloc_old (by simp)]
    exact alloc2_new _ _ _
  have hx2 : A.heap[w.heap.size + 2]? = some (.cells (Pt.mk x.k x.s x.t x.lo x.hi none 0 0 x.c).cells 24 (0, 0)) := by
    have := alloc_new ((w.alloc (.cells x.cells 24)).alloc (.cells Pt.nil.cells 24)) (.cells (Pt.mk x.k x.s x.t x.lo x.hi none 0 0 x.c).cells 24)
    rw [World.size_alloc, World.size_alloc, hA] at this
    exact this
  have HA : Hid (A.heap.size = w.heap.size + 3) := hsz
  have HX0 : Hid (A.heap[w.heap.size]? = some (.cells x.cells 24 (0, 0))) := hx0
  have HX1 : Hid (A.heap[w.heap.size + 1]? = some (.cells Pt.nil.cells 24 (0, 0))) := hx1
  have HX2 : Hid (A.heap[w.heap.size + 2]? = some (.cells (Pt.mk x.k x.s x.t x.lo x.hi none 0 0 x.c).cells 24 (0, 0))) := hx2
  have HB : Hid (Below w.heap.size w A) := hB
  clear hg ih hX hS hT hsz hx0 hx1 hx2 hB hk hsm
  go_enter Try.func10, Try.ntmps10
  go_wp2
  change Code.wp _ _ _ _ (((w.alloc (.cells x.cells 24)).alloc (.cells Pt.nil.cells 24)).alloc (.cells (Pt.mk x.k x.s x.t x.lo x.hi none 0 0 x.c).cells 24))
  rw [hA]
  clear hA NM 
  go_loopw [8] (fun iv wr => ∃ (i : Nat) (a1 : Option Addr) (cap1 : Nat) (c : Nat → Pt), i ≤ x.n ∧ iv = .int .i64 i ∧ Hid (wr.heap[w.heap.size + 2]? = some (.cells (Pt.mk x.k x.s x.t x.lo x.hi a1 i cap1 c).cells 24 (0, 0))) ∧ Hid (GrownP (w.heap.size + 3) wr (.slice a1 i cap1) i c) ∧ Hid (∀ j, j < i → Sm (c j) (renP g (x.c j))) ∧ Below (w.heap.size + 2) A wr ∧ w.heap.size + 3 ≤ wr.heap.size) (fun iv _ => x.n - (intOf iv).toNat)
  case atStart => exact ⟨0, none, 0, x.c, Nat.zero_le _, rfl, HX2, grownP_nil _ _ _, fun j hj => absurd hj (Nat.not_lt_zero _), Below.refl _ _, by rw [HA.out]; exact Nat.le_refl _⟩
  case round =>
    obtain ⟨i, a1, cap1, c, hi, rfl, HBX, HG, HO, hBr, hsr⟩ := hrel
    have hwr : Below w.heap.size w wr := HB.out.trans (hBr.mono (by omega))
    have HXW : Hid (wr.heap[w.heap.size]? = some (.cells x.cells 24 (0, 0))) := (hBr.block _ (by omega)).trans HX0.out
    have c6 := (nodeP_box HXW.out).at0.2.2.2.2.2
    by_cases hin : i < x.n
    · obtain ⟨b, o, ea, hn, hx⟩ := (HX.out.later hwr).part hin
      have hbl : b < w.heap.size := by obtain ⟨b', o', ea', hn', _⟩ := HX.out.part hin; rw [ea] at ea'; cases ea'; exact hn'.lt
      have HC := HI.out i hin
      have HIN : Hid (i < x.n) := hin
      have C6 : Hid (wr.cell? ⟨w.heap.size, 5, none⟩ = some (.slice (some ⟨b, o, none⟩) x.n x.cap)) := by rw [← ea]; exact c6
      have N1 : Hid (NodeP wr b (o + i * 6) (x.c i)) := hn
      have C7 : Hid (wr.cell? ⟨w.heap.size + 2, 5, none⟩ = some (.slice a1 i cap1)) := (nodeP_box HBX.out).at0.2.2.2.2.2
      have HEA : Hid (x.a = some ⟨b, o, none⟩) := ea
      rw [ea] at c6
      clear ea hn hx hin
      have hile : i ≤ 1759218604390 := by omega
      go_wp2
      refine wp_region_noPanic ?_
      refine wp_region_held_drew (S := fun w' => Below (w.heap.size + 2) wr w') (by kernel_rfl) ((Below.refl _ _).drew) (fun hHeld => ?_)
      have hT : Below wr.heap.size wr wr.drew := (Below.refl _ _).drew
      obtain ⟨d, hdw⟩ : ∃ d, d = wr.drew := ⟨_, rfl⟩
      rw [← hdw] at hHeld hT ⊢
      clear hdw c6
      refine wpAnyH_take (i := 0) (oi := ⟨some 37, .fieldAddr 24 (.tmp 7) 5, 0, _, _, _⟩) (v := ?v0b) rfl (by kernel_rfl) (by kernel_rfl) (by kernel_rfl) (fun _ _ _ h => h) (Or.inl ⟨by rfl, ?hy0b⟩) hHeld ?rest0b
      case hy0b => intro w9 hSw; go_simp; (try with_reducible rfl)
      try simp only [Act.put, s_put, s_0, s_1]
      refine wpAnyH_take (i := 2) (oi := ⟨some 39, .fieldAddr 24 (.tmp 3) 5, 0, _, _, _⟩) (v := ?v2b) rfl (by kernel_rfl) (by kernel_rfl) (by kernel_rfl) (fun _ _ _ h => h) (Or.inl ⟨by rfl, ?hy2b⟩) hHeld ?rest2b
      case hy2b => intro w9 hSw; go_simp; (try with_reducible rfl)
      try simp only [Act.put, s_put, s_0, s_1]
      refine wpAnyH_take (i := 3) (oi := ⟨some 40, .load 22 (.tmp 39), 22, _, _, _⟩) (v := ?v3b) rfl (by kernel_rfl) (by kernel_rfl) (by kernel_rfl) (fun _ _ _ h => h) (Or.inl ⟨by rfl, ?hy3b⟩) hHeld ?rest3b
      case hy3b => intro w9 hSw; have cc := (hSw.cell (p := ⟨w.heap.size, 5, none⟩) (by simp)).trans C6.out; go_simp; (try with_reducible rfl)
      try simp only [Act.put, s_put, s_0, s_1]
      refine wpAnyH_take (i := 4) (oi := ⟨some 41, .move (.tmp 8), 3, _, _, _⟩) (v := ?v4b) rfl (by kernel_rfl) (by kernel_rfl) (by kernel_rfl) (fun _ _ _ h => h) (Or.inl ⟨by rfl, ?hy4b⟩) hHeld ?rest4b
      case hy4b => intro w9 hSw; go_simp; (try with_reducible rfl)
      try simp only [Act.put, s_put, s_0, s_1]
      refine wpAnyH_take (i := 5) (oi := ⟨some 42, .indexAddr 22 (.tmp 40) (.tmp 41), 0, _, _, _⟩) (v := ?v5b) rfl (by kernel_rfl) (by kernel_rfl) (by kernel_rfl) (fun _ _ _ h => h) (Or.inl ⟨by rfl, ?hy5b⟩) hHeld ?rest5b
      case hy5b => intro w9 hSw; go_simp; (try with_reducible rfl)
      try simp only [Act.put, s_put, s_0, s_1]
      refine wpAnyH_take (i := 6) (oi := ⟨some 43, .load 24 (.tmp 42), 24, _, _, _⟩) (v := ?v6b) rfl (by kernel_rfl) (by kernel_rfl) (by kernel_rfl) (fun _ _ _ h => h) (Or.inl ⟨by rfl, ?hy6b⟩) hHeld ?rest6b
      case hy6b => intro w9 hSw; obtain ⟨d0, d1, d2, d3, d4, d5⟩ := N1.out.below hSw (by omega); go_simp; (try with_reducible rfl)
      try simp only [Act.put, s_put, s_0, s_1]
      refine wpAnyH_take (i := 7) (oi := ⟨some 44, .move (.tmp 1), 25, _, _, _⟩) (v := ?v7b) rfl (by kernel_rfl) (by kernel_rfl) (by kernel_rfl) (fun _ _ _ h => h) (Or.inl ⟨by rfl, ?hy7b⟩) hHeld ?rest7b
      case hy7b => intro w9 hSw; go_simp; (try with_reducible rfl)
      try simp only [Act.put, s_put, s_0, s_1]
      refine wpAnyH_take (i := 8) (oi := ⟨some 45, .move (.tmp 2), 25, _, _, _⟩) (v := ?v8b) rfl (by kernel_rfl) (by kernel_rfl) (by kernel_rfl) (fun _ _ _ h => h) (Or.inl ⟨by rfl, ?hy8b⟩) hHeld ?rest8b
      case hy8b => intro w9 hSw; go_simp; (try with_reducible rfl)
      try simp only [Act.put, s_put, s_0, s_1]
      refine wpAnyH_ready (rs := [1, 9]) (by kernel_rfl) (by simp) ?_
      refine AllReadyH.cons (o := ⟨some 38, .load 22 (.tmp 37), 22, _, _, _⟩) rfl (fun K hK => ?_) (AllReadyH.cons (o := ⟨some 46, .call { callee := .value (.func 10), args := #[.tmp 43, .tmp 44, .tmp 45], argTypes := #[24, 25, 25] }, 24, _, _, _⟩) rfl (fun K hK => ?_) AllReadyH.nil)
      · have cc := (Below.cell hT (p := ⟨w.heap.size + 2, 5, none⟩) (by simp; omega)).trans C7.out
        go_simp
        clear cc
        refine hK.out _ _ hHeld (fun _ => ?_)
        clear hK K
        try simp only [Act.put, s_put, s_0, s_1]
        refine wpAnyH_ready (rs := [9]) (by kernel_rfl) (by simp) ?_
        refine AllReadyH.cons (o := ⟨some 46, .call { callee := .value (.func 10), args := #[.tmp 43, .tmp 44, .tmp 45], argTypes := #[24, 25, 25] }, 24, _, _, _⟩) rfl (fun K hK => ?_) AllReadyH.nil
        go_simp
        refine (HC _ (hwr.trans (hT.mono hwr.size))).mono ?_
        rintro e x9 ⟨yi, rfl, hI, ho, hnew, h9d⟩
        have h9 : Below wr.heap.size wr x9 := hT.trans (h9d.mono hT.size)
        obtain ⟨a2, cap2, w2, hrun, v1, v2, v3, v4, ⟨v5, v6⟩, v7⟩ := renP_next HG.out HO.out HBX.out hBr hsr hile hI ho (fun k hk => Nat.le_trans hT.size (hnew k hk)) h9
        have HV : Hid _ := v7
        clear v7 hI ho hnew h9d
        go_wp2_with fail
        refine hK.out _ _ v1 (fun _ => ?_)
        clear hK K
        try simp only [Act.put, s_put, s_0, s_1]
        refine wpAnyH_ready (rs := [10]) (by kernel_rfl) (by simp) ?_
        refine AllReadyH.cons (o := ⟨some 47, .buildSlice 22 1 #[(0, .tmp 46)], 22, _, _, _⟩) rfl (fun K hK => ?_) AllReadyH.nil
        go_simp
        refine hK.out _ _ v2 (fun _ => ?_)
        clear hK K
        try simp only [Act.put, s_put, s_0, s_1]
        refine wpAnyH_ready (rs := [11]) (by kernel_rfl) (by simp) ?_
        refine AllReadyH.cons (o := ⟨some 48, .call { callee := .builtin Builtin.append, args := #[.tmp 38, .tmp 47], argTypes := #[22, 22] }, 22, _, _, _⟩) rfl (fun K hK => ?_) AllReadyH.nil
        rw [if_pos (by rfl)]
        refine wpOp_append_at (.tmp 38) (.tmp 47) 22 rfl _ _ _ rfl rfl hrun ?_
        refine hK.out _ _ v3 (fun _ => ?_)
        clear hK K
        try simp only [Act.put, s_put, s_0, s_1]
        refine wpAnyH_ready (rs := [12]) (by kernel_rfl) (by simp) ?_
        refine AllReadyH.cons (o := ⟨some 49, .fieldAddr 24 (.tmp 7) 5, 0, _, _, _⟩) rfl (fun K hK => ?_) AllReadyH.nil
        go_simp
        refine hK.out _ _ v3 (fun _ => ?_)
        clear hK K
        try simp only [Act.put, s_put, s_0, s_1]
        refine wpAnyH_ready (rs := [13]) (by kernel_rfl) (by simp) ?_
        refine AllReadyH.cons (o := ⟨none, Op.store 22 (Operand.tmp 49) (Operand.tmp 48), 0, _, _, _⟩) rfl (fun K hK => ?_) AllReadyH.nil
        go_simp
        refine hK.out _ _ v4 (fun _ => ?_)
        clear hK K
        try simp only [Act.put, s_put, s_0, s_1]
        refine wpAnyH_done (by kernel_rfl) ?_ _
        refine NoPanic.normal ?_
        go_wp2
        go_roundw
        case rel => exact ⟨i + 1, a2, cap2, updP c i yi, HIN.out, by go_num, HV.out.1, HV.out.2.1, HV.out.2.2.1, HV.out.2.2.2.1, HV.out.2.2.2.2⟩
        case measure => have := HIN.out; simp [intOf]; omega
      · go_simp
        refine (HC _ (hwr.trans (hT.mono hwr.size))).mono ?_
        rintro e x9 ⟨yi, rfl, hI, ho, hnew, h9d⟩
        have h9 : Below wr.heap.size wr x9 := hT.trans (h9d.mono hT.size)
        obtain ⟨a2, cap2, w2, hrun, v1, v2, v3, v4, ⟨v5, v6⟩, v7⟩ := renP_next HG.out HO.out HBX.out hBr hsr hile hI ho (fun k hk => Nat.le_trans hT.size (hnew k hk)) h9
        have HV : Hid _ := v7
        clear v7 hI ho hnew h9d
        go_wp2_with fail
        refine hK.out _ _ v1 (fun _ => ?_)
        clear hK K
        try simp only [Act.put, s_put, s_0, s_1]
        refine wpAnyH_ready (rs := [1, 10]) (by kernel_rfl) (by simp) ?_
        refine AllReadyH.cons (o := ⟨some 38, .load 22 (.tmp 37), 22, _, _, _⟩) rfl (fun K hK => ?_) (AllReadyH.cons (o := ⟨some 47, .buildSlice 22 1 #[(0, .tmp 46)], 22, _, _, _⟩) rfl (fun K hK => ?_) AllReadyH.nil)
        · have cc := (Below.cell h9 (p := ⟨w.heap.size + 2, 5, none⟩) (by simp; omega)).trans C7.out
          go_simp
          clear cc
          refine hK.out _ _ v1 (fun _ => ?_)
          clear hK K
          try simp only [Act.put, s_put, s_0, s_1]
          refine wpAnyH_ready (rs := [10]) (by kernel_rfl) (by simp) ?_
          refine AllReadyH.cons (o := ⟨some 47, .buildSlice 22 1 #[(0, .tmp 46)], 22, _, _, _⟩) rfl (fun K hK => ?_) AllReadyH.nil
          go_simp
          refine hK.out _ _ v2 (fun _ => ?_)
          clear hK K
          try simp only [Act.put, s_put, s_0, s_1]
          refine wpAnyH_ready (rs := [11]) (by kernel_rfl) (by simp) ?_
          refine AllReadyH.cons (o := ⟨some 48, .call { callee := .builtin Builtin.append, args := #[.tmp 38, .tmp 47], argTypes := #[22, 22] }, 22, _, _, _⟩) rfl (fun K hK => ?_) AllReadyH.nil
          rw [if_pos (by rfl)]
          refine wpOp_append_at (.tmp 38) (.tmp 47) 22 rfl _ _ _ rfl rfl hrun ?_
          refine hK.out _ _ v3 (fun _ => ?_)
          clear hK K
          try simp only [Act.put, s_put, s_0, s_1]
          refine wpAnyH_ready (rs := [12]) (by kernel_rfl) (by simp) ?_
          refine AllReadyH.cons (o := ⟨some 49, .fieldAddr 24 (.tmp 7) 5, 0, _, _, _⟩) rfl (fun K hK => ?_) AllReadyH.nil
          go_simp
          refine hK.out _ _ v3 (fun _ => ?_)
          clear hK K
          try simp only [Act.put, s_put, s_0, s_1]
          refine wpAnyH_ready (rs := [13]) (by kernel_rfl) (by simp) ?_
          refine AllReadyH.cons (o := ⟨none, Op.store 22 (Operand.tmp 49) (Operand.tmp 48), 0, _, _, _⟩) rfl (fun K hK => ?_) AllReadyH.nil
          go_simp
          refine hK.out _ _ v4 (fun _ => ?_)
          clear hK K
          try simp only [Act.put, s_put, s_0, s_1]
          refine wpAnyH_done (by kernel_rfl) ?_ _
          refine NoPanic.normal ?_
          go_wp2
          go_roundw
          case rel => exact ⟨i + 1, a2, cap2, updP c i yi, HIN.out, by go_num, HV.out.1, HV.out.2.1, HV.out.2.2.1, HV.out.2.2.2.1, HV.out.2.2.2.2⟩
          case measure => have := HIN.out; simp [intOf]; omega
        · go_simp
          refine hK.out _ _ v2 (fun _ => ?_)
          clear hK K
          try simp only [Act.put, s_put, s_0, s_1]
          refine wpAnyH_ready (rs := [1]) (by kernel_rfl) (by simp) ?_
          refine AllReadyH.cons (o := ⟨some 38, .load 22 (.tmp 37), 22, _, _, _⟩) rfl (fun K hK => ?_) AllReadyH.nil
          have cc := (Below.cell (h9.alloc h9.size (.cells yi.cells 24)) (p := ⟨w.heap.size + 2, 5, none⟩) (by simp; omega)).trans C7.out
          go_simp
          clear cc
          refine hK.out _ _ v2 (fun _ => ?_)
          clear hK K
          try simp only [Act.put, s_put, s_0, s_1]
          refine wpAnyH_ready (rs := [11]) (by kernel_rfl) (by simp) ?_
          refine AllReadyH.cons (o := ⟨some 48, .call { callee := .builtin Builtin.append, args := #[.tmp 38, .tmp 47], argTypes := #[22, 22] }, 22, _, _, _⟩) rfl (fun K hK => ?_) AllReadyH.nil
          rw [if_pos (by rfl)]
          refine wpOp_append_at (.tmp 38) (.tmp 47) 22 rfl _ _ _ rfl rfl hrun ?_
          refine hK.out _ _ v3 (fun _ => ?_)
          clear hK K
          try simp only [Act.put, s_put, s_0, s_1]
          refine wpAnyH_ready (rs := [12]) (by kernel_rfl) (by simp) ?_
          refine AllReadyH.cons (o := ⟨some 49, .fieldAddr 24 (.tmp 7) 5, 0, _, _, _⟩) rfl (fun K hK => ?_) AllReadyH.nil
          go_simp
          refine hK.out _ _ v3 (fun _ => ?_)
          clear hK K
          try simp only [Act.put, s_put, s_0, s_1]
          refine wpAnyH_ready (rs := [13]) (by kernel_rfl) (by simp) ?_
          refine AllReadyH.cons (o := ⟨none, Op.store 22 (Operand.tmp 49) (Operand.tmp 48), 0, _, _, _⟩) rfl (fun K hK => ?_) AllReadyH.nil
          go_simp
          refine hK.out _ _ v4 (fun _ => ?_)
          clear hK K
          try simp only [Act.put, s_put, s_0, s_1]
          refine wpAnyH_done (by kernel_rfl) ?_ _
          refine NoPanic.normal ?_
          go_wp2
          go_roundw
          case rel => exact ⟨i + 1, a2, cap2, updP c i yi, HIN.out, by go_num, HV.out.1, HV.out.2.1, HV.out.2.2.1, HV.out.2.2.2.1, HV.out.2.2.2.2⟩
          case measure => have := HIN.out; simp [intOf]; omega
    · obtain rfl : i = x.n := by omega
      have z0 := (hBr.block (w.heap.size + 1) (by omega)).trans HX1.out
      obtain ⟨d0, d1, d2, d3, d4, d5⟩ := (nodeP_box HBX.out).at0
      obtain ⟨e0, e1, e2, e3, e4, e5⟩ := (nodeP_box z0).at0
      have gf : ∀ j, wr.frozen? ⟨w.heap.size + 1, j, none⟩ = false := fun j => FreeP.frozen ⟨_, z0⟩ j
      have f0 := gf 0
      have f1 := gf 1
      have f2 := gf 2
      have f3 := gf 3
      have f4 := gf 4
      have f5 := gf 5
      have hblk := heap_set6 (y := Pt.mk x.k x.s x.t x.lo x.hi a1 x.n cap1 c) z0
      obtain ⟨q1, q2⟩ := HG.out.is x.k x.s x.t x.lo x.hi
      have FIN : Hid (RenAnsP g x w (.returned (Pt.mk x.k x.s x.t x.lo x.hi a1 x.n cap1 c).val) (set6 wr (w.heap.size + 1) (Pt.mk x.k x.s x.t x.lo x.hi a1 x.n cap1 c))) :=
        ⟨_, rfl, q1.kept (T := fun k => k ≠ w.heap.size + 1) (fun k o hk _ e => (heap_set6_other hk).trans e) (fun k hk => by have := q2 k hk; omega), HR.out a1 cap1 c HO.out, fun k hk => by have := q2 k hk; omega, below_set6 hwr (by omega)⟩
      clear gf q1 q2 hin
      go_wp2
      refine bodyPost_ret (results_cell_row rfl _ _ (w.heap.size + 1) 24 _ (0, 0) _ rfl hblk Try.underlying24 rfl (by kernel_rfl)) rfl ?_
      exact FIN.out
theorem refRenameP_wide (a a' : Option Addr) (m m' cap cap' : Nat) (S T : Nat → ByteArray) (hm : m ≤ 9223372036854775807) (hm' : m' ≤ 9223372036854775807) : ∀ (x : Pt) (w : World), IsP w x → WdP x → Txs w a m S → Txs w a' m' T →
    Calls Try.prog 10 #[x.val, .slice a m cap, .slice a' m' cap'] w (RenAnsP (nameX S T (min m m')) x w) := by
  refine Pt.ind fun x ih w hX hsm hS hT => ?_
  have ih' : ∀ i, i < x.n → ∀ d, IsP d (x.c i) → Txs d a m S → Txs d a' m' T → Calls Try.prog 10 #[(x.c i).val, .slice a m cap, .slice a' m' cap'] d (RenAnsP (nameX S T (min m m')) (x.c i) d) := fun i hi d h1 h2 h3 => ih i hi d h1 (((wdP_eq x).1 hsm).2 i hi) h2 h3
  rcases nmd_cases x.k with ⟨hk, k1 | ⟨k1, k2⟩ | ⟨k1, k2, k3⟩⟩ | ⟨hk, k1, k2, k3⟩
  · exact refRenameP_one a a' m m' cap cap' S T x w hm hm' hk k1 hX hsm hS hT ih'
  · exact refRenameP_five a a' m m' cap cap' S T x w hm hm' hk k1 k2 hX hsm hS hT ih'
  · exact refRenameP_six a a' m m' cap cap' S T x w hm hm' hk k1 k2 k3 hX hsm hS hT ih'
  · exact refRenameP_other a a' m m' cap cap' S T x w hm hm' (by rw [hk]; simp) k1 k2 k3 hX hsm hS hT ih'
end Go.Proofs.Ytjclelmbpmlioaa
