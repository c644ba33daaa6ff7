/-
  The document's Rename of queries.
  The document's Same of queries.
-/
import Derived.Test.YtjclelmbpmlioaaJBrief
import Derived.Test.YtjclelmbpmlioaaJQryRename
import Derived.Test.YtjclelmbpmlioaaJPatRefRename
import Derived.Test.YtjclelmbpmlioaaJExprRefRen
import Derived.Test.YtjclelmbpmlioaaJQryBase
import Derived.Test.YtjclelmbpmlioaaJExprRefOrder
namespace Go.Proofs.Ytjclelmbpmlioaa
open Go.RowKit

/-- The row with one more, and the box that holds it, behind the append and the store. -/
theorem ren_nextQ {g : ByteArray → ByteArray} {q : Qy} {y : Pt} {yi : X} {N B : Nat} {wr x9 : World} {a1 : Option Addr} {i cap1 : Nat} {c : Nat → X}
    (hG : Grown B wr (.slice a1 i cap1) i c) (hO : ∀ j, j < i → ordX (c j) (renX g (q.c j)) = 0) (hbox : QB wr N { q with p := y, a := a1, n := i, cap := cap1, c := c })
    (hN : N < B) (hs : B ≤ wr.heap.size) (hi : i ≤ 1466015503658) (hI : IsX x9 yi) (ho : ordX yi (renX g (q.c i)) = 0) (hn : ∀ k, inX k yi → wr.heap.size ≤ k) (h9 : Below wr.heap.size wr x9) :
    ∃ a2 cap2 w2, (Builtin.append_ #[38, 38] 38 #[.slice a1 i cap1, .slice (some ⟨x9.heap.size, 0, none⟩) 1 1]).run Try.prog (x9.alloc (.cells yi.cells 68)) = .ok (.slice a2 (i + 1) cap2) w2 ∧
      Below N wr x9 ∧ Below N wr (x9.alloc (.cells yi.cells 68)) ∧ Below N wr w2 ∧ Below N wr (w2.setCell ⟨N, 6, none⟩ (.slice a2 (i + 1) cap2)) ∧
      (w2.cell? ⟨N, 6, none⟩ = some (.slice a1 i cap1) ∧ w2.frozen? ⟨N, 6, none⟩ = false) ∧
      (QB (w2.setCell ⟨N, 6, none⟩ (.slice a2 (i + 1) cap2)) N { q with p := y, a := a2, n := i + 1, cap := cap2, c := upd c i yi } ∧
        Grown B (w2.setCell ⟨N, 6, none⟩ (.slice a2 (i + 1) cap2)) (.slice a2 (i + 1) cap2) (i + 1) (upd c i yi) ∧ (∀ j, j < i + 1 → ordX (upd c i yi j) (renX g (q.c j)) = 0) ∧
        Lb B N wr (w2.setCell ⟨N, 6, none⟩ (.slice a2 (i + 1) cap2)) ∧ B ≤ (w2.setCell ⟨N, 6, none⟩ (.slice a2 (i + 1) cap2)).heap.size) := by
  have h9s := h9.size
  obtain ⟨a2, cap2, w2, hrun, hG2, hB2, hs2⟩ := (hG.later h9).push (by omega) hi yi hI fun k hk => ⟨by have := hn k hk; omega, fun e => by have := (hG.1.lt k e).2; have := hn k hk; omega⟩
  have b9 : Below N wr x9 := h9.mono (by omega)
  have b2 : Below N wr w2 := b9.trans (hB2.mono (by omega))
  have hbox2 : QB w2 N { q with p := y, a := a1, n := i, cap := cap1, c := c } := (hB2.block _ hN).trans ((h9.block _ (by omega)).trans hbox)
  have b3 : Below N wr (w2.setCell ⟨N, 6, none⟩ (.slice a2 (i + 1) cap2)) := b2.setCell (p := ⟨N, 6, none⟩) (by simp) _
  refine ⟨a2, cap2, w2, hrun, b9, b9.alloc (by omega) _, b2, b3, ⟨hbox2.at0.2.1, hbox2.frozen 6⟩, hbox2.setX a2 (i + 1) cap2 (upd c i yi), ⟨?_, fun j hj => ?_⟩, fun j hj => ?_, (Lb.of_below ((h9.mono hs).trans hB2)).trans (Lb.set (.inl rfl)), by rw [World.size_setCell]; omega⟩
  · refine hG2.1.kept (row := some N) ⟨rfl, rfl, rfl, by simp, fun k _ hne => Below.heap_setCell w2 ⟨N, 6, none⟩ _ k fun e => hne (by rw [show k = N from e])⟩ (.inr fun e => ?_)
    have := (hG2.1.lt _ e).1
    omega
  · obtain ⟨q1, q2⟩ := hG2.2 j hj
    exact ⟨q1.kept (T := fun k => k ≠ N) (Kp.set _ (by simp)) fun k hk => by have := (q2 k hk).1; omega, q2⟩
  · by_cases e : j = i
    · subst e; rw [upd_same]; exact ho
    · rw [upd_other e]; exact hO j (by omega)
def updI (c : Nat → It) (i : Nat) (y : It) : Nat → It := fun j => if j = i then y else c j
theorem rowI4_upd (c : Nat → It) (i : Nat) (y : It) : rowI4 (updI c i y) (i + 1) = rowI4 c i ++ rowI4 (fun _ => y) 1 := by
  have e : rowI4 (updI c i y) i = rowI4 c i := rowI4_congr fun j hj => by simp [updI, show j ≠ i by omega]
  rw [rowI4, e]
  simp [rowI4, updI]
/-- One item more. -/
theorem push_one_i {x9 : World} {B N i : Nat} {a1 : Option Addr} {cap1 : Nat} {I : Nat → It} (h : x9.ownsRow B 72 4 (.slice a1 i cap1) i (rowI4 I i)) (hB : B ≤ x9.heap.size) (hi : i ≤ 2513169434842) (y : It) (hN : N < B) :
    ∃ a2 cap2 w2, (Builtin.append_ #[39, 39] 39 #[.slice a1 i cap1, .slice (some ⟨x9.heap.size, 0, none⟩) 1 1]).run Try.prog (x9.alloc (.cells y.cells 72)) = .ok (.slice a2 (i + 1) cap2) w2 ∧
      Below B x9 w2 ∧ (w2.setCell ⟨N, 10, none⟩ (.slice a2 (i + 1) cap2)).ownsRow B 72 4 (.slice a2 (i + 1) cap2) (i + 1) (rowI4 (updI I i y) (i + 1)) := by
  have hB0 : Below x9.heap.size x9 (x9.alloc (.cells y.cells 72)) := (Below.refl _ _).alloc (Nat.le_refl _) _
  obtain ⟨v', w', hrun, hown, hgr⟩ := push_i (w := x9.alloc (.cells y.cells 72)) (h.alloc _) (by simp; omega) ⟨x9.heap.size, 0, none⟩ 1 1 (fun _ => y) (fun j hj => by
    obtain rfl : j = 0 := by omega
    exact ⟨x9.heap.size, 0, rfl, itAt_box (alloc_new x9 _)⟩) (by omega)
  rw [← rowI4_upd] at hown
  obtain ⟨a2, cap2, rfl, _⟩ := own_its hown
  refine ⟨a2, cap2, w', hrun, (hB0.mono hB).grown hgr (by simp; omega) fun k e => (h.lt k e).1, ?_⟩
  refine hown.kept (row := some N) ⟨rfl, rfl, rfl, by simp, fun k _ hne => Below.heap_setCell w' ⟨N, 10, none⟩ _ k fun e => hne (by rw [show k = N from e])⟩ (.inr fun e => ?_)
  have := (hown.lt _ e).1
  omega
set_option maxRecDepth 100000 in
set_option maxHeartbeats 8000000 in
theorem refRenameQ_wide (q : Qy) (a a' : Option Addr) (m m' cap cap' : Nat) (S T : Nat → ByteArray) (w : World) (hQ : IsQ w q) (hsm : WdQ q)
    (hS : Txs w a m S) (hT : Txs w a' m' T) (hm : m ≤ 9223372036854775807) (hm' : m' ≤ 9223372036854775807) :
    Calls Try.prog 20 #[q.val, .slice a m cap, .slice a' m' cap'] w fun e w' => ∃ r : Qy, e = .returned r.val ∧ IsQ w' r ∧ RnQ (nameX S T (min m m')) q r ∧ Below w.heap.size w w' := by
  obtain ⟨hbp, hbx, hb⟩ := hsm
  obtain ⟨g, hg⟩ : ∃ g, g = nameX S T (min m m') := ⟨_, rfl⟩
  have HQ : Hid (IsQ w q) := hQ
  have HI : Hid (∀ i, i < q.n → ∀ d, Below w.heap.size w d → Calls Try.prog 40 #[(q.c i).val, .slice a m cap, .slice a' m' cap'] d (RenAns g (q.c i) d)) := fun i hi d h => by
    rw [hg]
    obtain ⟨_, _, _, _, hx⟩ := (hQ.x.later h).part (x := q.x) hi
    exact refRename_wide a a' m m' cap cap' S T hm hm' (q.c i) d hx (((wdX_eq q.x).1 hbx).2 i hi) (hS.later h) (hT.later h)
  have HN : Hid (∀ s d, Below w.heap.size w d → Calls Try.prog 26 #[.string s, .slice a m cap, .slice a' m' cap'] d fun e w' => e = .returned (.string (g s)) ∧ w' = d) := fun s d h => by rw [hg]; exact refVar_wide s a a' m m' cap cap' S T d (hS.later h) (hT.later h) hm hm'
  have HP : Hid (∀ d, Below w.heap.size w d → Calls Try.prog 10 #[q.p.val, .slice a m cap, .slice a' m' cap'] d (RenAnsP g q.p d)) := fun d h => by
    rw [hg]
    exact refRenameP_wide a a' m m' cap cap' S T hm hm' q.p d (hQ.p.later h) hbp (hS.later h) (hT.later h)
  rw [← hg]
  clear hQ hS hT hg
  go_enter Try.func20, Try.ntmps20
  go_upto_region 2 with fail
  obtain ⟨A, hA⟩ : ∃ A, ((w.alloc (.cells q.cells 41)).alloc (.cells #[.int .i64 0, .string ⟨#[]⟩, .string ⟨#[]⟩, .int .i64 0, .int .i64 0, .slice none 0 0, .slice none 0 0, .string ⟨#[]⟩, .int .i64 0, .int .i64 0, .slice none 0 0] 41)).alloc (.cells q.cells 41) = A := ⟨_, rfl⟩
  have hsz : A.heap.size = w.heap.size + 3 := by rw [← hA]; simp
  have hB : Below w.heap.size w A := by rw [← hA]; exact (((Below.refl _ w).alloc (Nat.le_refl _) _).alloc (by simp) _).alloc (by simp; omega) _
  have qb0 : QB A w.heap.size q := by rw [← hA]; exact (alloc_old (by simp; omega)).trans ((alloc_old (by simp)).trans (QB.new w q))
  have rb0 : QB A (w.heap.size + 1) qy0 := by
    have := QB.new (w.alloc (.cells q.cells 41)) qy0
    rw [World.size_alloc] at this
    rw [← hA]
    exact (alloc_old (by simp)).trans this
  have xb0 : QB A (w.heap.size + 2) q := by
    rw [← hA]
    have := QB.new ((w.alloc (.cells q.cells 41)).alloc (.cells qy0.cells 41)) q
    rw [World.size_alloc, World.size_alloc] at this
    exact this
  have hA' := hA
  unfold Qy.cells at hA'
  rw [hA', show w.heap.size + 1 + 1 = w.heap.size + 2 from rfl]
  obtain ⟨⟨k0, k1, k2, k3, k4, k5⟩, -⟩ := qb0.at0
  have QB0 : Hid (QB A w.heap.size q) := qb0
  have RB0 : Hid (QB A (w.heap.size + 1) qy0) := rb0
  have XB0 : Hid (QB A (w.heap.size + 2) q) := xb0
  clear qb0 rb0 xb0 hA' hA
  go_upto_region 3 with (first | (go_at_call 10; refine (HP.out _ hB).mono ?_; rintro e W1 ⟨y, rfl, hPA, hSm, hin, hB1⟩; obtain ⟨⟨d0, d1, d2, d3, d4, d5⟩, -⟩ := (XB0.out.later hB1).at0; have f0 := (XB0.out.later hB1).frozen 0; have f1 := (XB0.out.later hB1).frozen 1; have f2 := (XB0.out.later hB1).frozen 2; have f3 := (XB0.out.later hB1).frozen 3; have f4 := (XB0.out.later hB1).frozen 4; have f5 := (XB0.out.later hB1).frozen 5; clear k0 k1 k2 k3 k4 k5))
  clear d0 d1 d2 d3 d4 d5 f0 f1 f2 f3 f4 f5
  obtain ⟨W2, hW2⟩ : ∃ W2, setP W1 (w.heap.size + 2) y = W2 := ⟨_, rfl⟩
  have hW2' := hW2
  unfold setP at hW2'
  rw [hW2']
  have hs2 : W2.heap.size = W1.heap.size := by rw [← hW2]; simp
  have QB2 : Hid (QB W2 w.heap.size q) := by rw [← hW2]; exact (heap_setP_other (by omega)).trans (QB0.out.later hB1)
  have RB2 : Hid (QB W2 (w.heap.size + 1) qy0) := by rw [← hW2]; exact (heap_setP_other (by omega)).trans (RB0.out.later hB1)
  have xb2 : QB W2 (w.heap.size + 2) { q with p := y } := by rw [← hW2]; exact (XB0.out.later hB1).setP y
  have XB2 : Hid (QB W2 (w.heap.size + 2) { q with p := y }) := xb2
  have HP2 : Hid (IsP W2 y) := by
    show IsP W2 y
    rw [← hW2]
    exact hPA.kept (T := fun k => k ≠ w.heap.size + 2) (fun k o hk _ e => (heap_setP_other hk).trans e) fun k hk => by have := hin k hk; omega
  have hB2 : Below w.heap.size w W2 := by rw [← hW2]; exact below_setP (hB.trans (hB1.mono (by omega))) (by omega)
  have hl2 : w.heap.size + 3 ≤ W2.heap.size := by have := hB1.size; omega
  have HIN : Hid (∀ k, inP k y → w.heap.size + 3 ≤ k ∧ k < W2.heap.size) := fun k hk => ⟨by have := hin k hk; omega, by rw [hs2]; exact inP_ltI hPA hk⟩
  have HSM : Hid (Sm y (renP g q.p)) := hSm
  have x6 := xb2.at0.2.1
  have f6 := xb2.frozen 6
  dsimp only at x6
  clear hW2' hW2 hB1 hPA hSm hin QB0 RB0 XB0 HP hs2 hB hsz xb2 W1 A
  go_wp2_with fail
  obtain ⟨W3, hW3⟩ : ∃ W3, W2.setCell ⟨w.heap.size + 2, 6, none⟩ (.slice none 0 0) = W3 := ⟨_, rfl⟩
  rw [hW3]
  have hs3 : W3.heap.size = W2.heap.size := by rw [← hW3]; simp
  have QB3 : Hid (QB W3 w.heap.size q) := by rw [← hW3]; exact (Below.heap_setCell _ _ _ _ (by simp)).trans QB2.out
  have RB3 : Hid (QB W3 (w.heap.size + 1) qy0) := by rw [← hW3]; exact (Below.heap_setCell _ _ _ _ (by simp)).trans RB2.out
  have XB3 : Hid (QB W3 (w.heap.size + 2) { q with p := y, a := none, n := 0, cap := 0, c := q.c }) := by rw [← hW3]; exact XB2.out.setX none 0 0 q.c
  have HP3 : Hid (IsP W3 y) := by
    show IsP W3 y
    rw [← hW3]
    exact HP2.out.kept (T := fun k => k ≠ w.heap.size + 2) (Kp.set _ (by simp)) fun k hk => by have := (HIN.out k hk).1; omega
  have hB3 : Below w.heap.size w W3 := by rw [← hW3]; exact hB2.setCell (p := ⟨w.heap.size + 2, 6, none⟩) (by simp) _
  have HIN3 : Hid (∀ k, inP k y → w.heap.size + 3 ≤ k ∧ k < W3.heap.size) := by rw [hs3]; exact HIN
  have hl3 : w.heap.size + 3 ≤ W3.heap.size := by omega
  have hNB : w.heap.size + 2 < W3.heap.size := by omega
  clear hW3 x6 f6 hl2 hB2 HP2 QB2 RB2 XB2 HIN hs3 W2
  have hlen : q.n ≤ 1466015503658 := ((wdX_eq q.x).1 hbx).1
  go_loopw [8] (fun iv wr => ∃ (i : Nat) (a1 : Option Addr) (cap1 : Nat) (c : Nat → X), i ≤ q.n ∧ iv = .int .i64 i ∧ Hid (QB wr (w.heap.size + 2) { q with p := y, a := a1, n := i, cap := cap1, c := c }) ∧ Hid (Grown W3.heap.size wr (.slice a1 i cap1) i c) ∧ Hid (∀ j, j < i → ordX (c j) (renX g (q.c j)) = 0) ∧ Lb W3.heap.size (w.heap.size + 2) W3 wr ∧ W3.heap.size ≤ wr.heap.size) (fun iv _ => q.n - (intOf iv).toNat)
  case atStart => exact ⟨0, none, 0, q.c, Nat.zero_le _, rfl, XB3, grown_nil _ _ _, fun j hj => absurd hj (Nat.not_lt_zero _), Lb.refl _ _ _, Nat.le_refl _⟩
  case round =>
    obtain ⟨i, a1, cap1, c, hi, rfl, HBX, HG, HO, hLr, hsr⟩ := hrel
    have hwr : Below w.heap.size w wr := hB3.trans (hLr.below (by omega) (by omega))
    have HXW : Hid (QB wr w.heap.size q) := (hLr.block _ (by omega) (by omega)).trans QB3.out
    have c6 := HXW.out.at0.2.1
    by_cases hin : i < q.n
    · obtain ⟨b, o, ea, hn, hx⟩ := (HQ.out.x.later hwr).part (x := q.x) hin
      have hbl : b < w.heap.size := by obtain ⟨b', o', ea', hn', _⟩ := HQ.out.x.part (x := q.x) hin; rw [ea] at ea'; cases ea'; exact hn'.lt
      have HC := HI.out i hin
      have HIN : Hid (i < q.n) := hin
      have ea' : q.a = some ⟨b, o, none⟩ := ea
      have C6 : Hid (wr.cell? ⟨w.heap.size, 6, none⟩ = some (.slice (some ⟨b, o, none⟩) q.n q.cap)) := by rw [← ea']; exact c6
      have N1 : Hid (Node wr b (o + i * 7) (q.c i)) := hn
      have C7 : Hid (wr.cell? ⟨w.heap.size + 2, 6, none⟩ = some (.slice a1 i cap1)) := HBX.out.at0.2.1
      rw [ea'] at c6
      clear ea ea' hn hx hin
      have hile : i ≤ 1466015503658 := by omega
      go_wp2_with fail
      refine wp_region_noPanic ?_
      refine wp_region_held_drew (S := fun w' => Below (w.heap.size + 2) wr w') (by kernel_rfl) ((Below.refl _ _).drew) (fun hHeld => ?_)
      have hT : Below wr.heap.size wr wr.drew := (Below.refl _ _).drew
      obtain ⟨d, hdw⟩ : ∃ d, d = wr.drew := ⟨_, rfl⟩
      rw [← hdw] at hHeld hT ⊢
      clear hdw c6
      refine wpAnyH_take (i := 0) (oi := ⟨some 26, .fieldAddr 41 (.tmp 7) 1, 0, _, _, _⟩) (v := ?v0a) rfl (by kernel_rfl) (by kernel_rfl) (by kernel_rfl) (fun _ _ _ h => h) (Or.inl ⟨by rfl, ?hy0a⟩) hHeld ?rest0a
      case hy0a => intro w9 hSw; go_simp; (try with_reducible rfl)
      try simp only [Act.put, s_put, s_0, s_1]
      refine wpAnyH_take (i := 2) (oi := ⟨some 28, .fieldAddr 41 (.tmp 3) 1, 0, _, _, _⟩) (v := ?v2a) rfl (by kernel_rfl) (by kernel_rfl) (by kernel_rfl) (fun _ _ _ h => h) (Or.inl ⟨by rfl, ?hy2a⟩) hHeld ?rest2a
      case hy2a => intro w9 hSw; go_simp; (try with_reducible rfl)
      try simp only [Act.put, s_put, s_0, s_1]
      refine wpAnyH_take (i := 3) (oi := ⟨some 29, .load 38 (.tmp 28), 38, _, _, _⟩) (v := ?v3a) rfl (by kernel_rfl) (by kernel_rfl) (by kernel_rfl) (fun _ _ _ h => h) (Or.inl ⟨by rfl, ?hy3a⟩) hHeld ?rest3a
      case hy3a => intro w9 hSw; have cc := (hSw.cell (p := ⟨w.heap.size, 6, none⟩) (by simp)).trans C6.out; go_simp; (try with_reducible rfl)
      try simp only [Act.put, s_put, s_0, s_1]
      refine wpAnyH_take (i := 4) (oi := ⟨some 30, .move (.tmp 8), 3, _, _, _⟩) (v := ?v4a) rfl (by kernel_rfl) (by kernel_rfl) (by kernel_rfl) (fun _ _ _ h => h) (Or.inl ⟨by rfl, ?hy4a⟩) hHeld ?rest4a
      case hy4a => intro w9 hSw; go_simp; (try with_reducible rfl)
      try simp only [Act.put, s_put, s_0, s_1]
      refine wpAnyH_take (i := 5) (oi := ⟨some 31, .indexAddr 38 (.tmp 29) (.tmp 30), 0, _, _, _⟩) (v := ?v5a) rfl (by kernel_rfl) (by kernel_rfl) (by kernel_rfl) (fun _ _ _ h => h) (Or.inl ⟨by rfl, ?hy5a⟩) hHeld ?rest5a
      case hy5a => intro w9 hSw; go_simp; (try with_reducible rfl)
      try simp only [Act.put, s_put, s_0, s_1]
      refine wpAnyH_take (i := 6) (oi := ⟨some 32, .load 68 (.tmp 31), 68, _, _, _⟩) (v := ?v6a) rfl (by kernel_rfl) (by kernel_rfl) (by kernel_rfl) (fun _ _ _ h => h) (Or.inl ⟨by rfl, ?hy6a⟩) hHeld ?rest6a
      case hy6a => intro w9 hSw; obtain ⟨d0, d1, d2, d3, d4, d5, d6⟩ := N1.out.below hSw (by omega); go_simp; (try with_reducible rfl)
      try simp only [Act.put, s_put, s_0, s_1]
      refine wpAnyH_take (i := 7) (oi := ⟨some 33, .move (.tmp 1), 25, _, _, _⟩) (v := ?v7a) rfl (by kernel_rfl) (by kernel_rfl) (by kernel_rfl) (fun _ _ _ h => h) (Or.inl ⟨by rfl, ?hy7a⟩) hHeld ?rest7a
      case hy7a => intro w9 hSw; go_simp; (try with_reducible rfl)
      try simp only [Act.put, s_put, s_0, s_1]
      refine wpAnyH_take (i := 8) (oi := ⟨some 34, .move (.tmp 2), 25, _, _, _⟩) (v := ?v8a) rfl (by kernel_rfl) (by kernel_rfl) (by kernel_rfl) (fun _ _ _ h => h) (Or.inl ⟨by rfl, ?hy8a⟩) hHeld ?rest8a
      case hy8a => intro w9 hSw; go_simp; (try with_reducible rfl)
      try simp only [Act.put, s_put, s_0, s_1]
      refine wpAnyH_ready (rs := [1, 9]) (by kernel_rfl) (by simp) ?_
      refine AllReadyH.cons (o := ⟨some 27, .load 38 (.tmp 26), 38, _, _, _⟩) rfl (fun K hK => ?_) (AllReadyH.cons (o := ⟨some 35, .call { callee := .value (.func 40), args := #[.tmp 32, .tmp 33, .tmp 34], argTypes := #[68, 25, 25] }, 68, _, _, _⟩) rfl (fun K hK => ?_) AllReadyH.nil)
      · have cc := (Below.cell hT (p := ⟨w.heap.size + 2, 6, none⟩) (by simp; omega)).trans C7.out
        go_simp
        clear cc
        refine hK.out _ _ hHeld (fun _ => ?_)
        clear hK K
        try simp only [Act.put, s_put, s_0, s_1]
        refine wpAnyH_ready (rs := [9]) (by kernel_rfl) (by simp) ?_
        refine AllReadyH.cons (o := ⟨some 35, .call { callee := .value (.func 40), args := #[.tmp 32, .tmp 33, .tmp 34], argTypes := #[68, 25, 25] }, 68, _, _, _⟩) rfl (fun K hK => ?_) AllReadyH.nil
        go_simp
        refine (HC _ (hwr.trans (hT.mono hwr.size))).mono ?_
        rintro e x9 ⟨yi, rfl, hI, ho, hnew, h9d⟩
        have h9 : Below wr.heap.size wr x9 := hT.trans (h9d.mono hT.size)
        obtain ⟨a2, cap2, w2, hrun, v1, v2, v3, v4, ⟨v5, v6⟩, v7⟩ := ren_nextQ HG.out HO.out HBX.out hNB hsr hile hI ho (fun k hk => Nat.le_trans hT.size (hnew k hk)) h9
        have HV : Hid _ := v7
        clear v7 hI ho hnew h9d
        go_wp2_with fail
        refine hK.out _ _ v1 (fun _ => ?_)
        clear hK K
        try simp only [Act.put, s_put, s_0, s_1]
        refine wpAnyH_ready (rs := [10]) (by kernel_rfl) (by simp) ?_
        refine AllReadyH.cons (o := ⟨some 36, .buildSlice 38 1 #[(0, .tmp 35)], 38, _, _, _⟩) rfl (fun K hK => ?_) AllReadyH.nil
        go_simp
        refine hK.out _ _ v2 (fun _ => ?_)
        clear hK K
        try simp only [Act.put, s_put, s_0, s_1]
        refine wpAnyH_ready (rs := [11]) (by kernel_rfl) (by simp) ?_
        refine AllReadyH.cons (o := ⟨some 37, .call { callee := .builtin Builtin.append, args := #[.tmp 27, .tmp 36], argTypes := #[38, 38] }, 38, _, _, _⟩) rfl (fun K hK => ?_) AllReadyH.nil
        rw [if_pos (by rfl)]
        refine wpOp_append_run (.tmp 27) (.tmp 36) 38 rfl _ _ _ rfl rfl hrun ?_
        refine hK.out _ _ v3 (fun _ => ?_)
        clear hK K
        try simp only [Act.put, s_put, s_0, s_1]
        refine wpAnyH_ready (rs := [12]) (by kernel_rfl) (by simp) ?_
        refine AllReadyH.cons (o := ⟨some 38, .fieldAddr 41 (.tmp 7) 1, 0, _, _, _⟩) rfl (fun K hK => ?_) AllReadyH.nil
        go_simp
        refine hK.out _ _ v3 (fun _ => ?_)
        clear hK K
        try simp only [Act.put, s_put, s_0, s_1]
        refine wpAnyH_ready (rs := [13]) (by kernel_rfl) (by simp) ?_
        refine AllReadyH.cons (o := ⟨none, Op.store 38 (Operand.tmp 38) (Operand.tmp 37), 0, _, _, _⟩) rfl (fun K hK => ?_) AllReadyH.nil
        go_simp
        refine hK.out _ _ v4 (fun _ => ?_)
        clear hK K
        try simp only [Act.put, s_put, s_0, s_1]
        refine wpAnyH_done (by kernel_rfl) ?_ _
        refine NoPanic.normal ?_
        go_wp2
        go_roundw
        case rel => exact ⟨i + 1, a2, cap2, upd c i yi, HIN.out, by go_num, HV.out.1, HV.out.2.1, HV.out.2.2.1, hLr.trans HV.out.2.2.2.1, HV.out.2.2.2.2⟩
        case measure => have := HIN.out; simp [intOf]; omega
      · go_simp
        refine (HC _ (hwr.trans (hT.mono hwr.size))).mono ?_
        rintro e x9 ⟨yi, rfl, hI, ho, hnew, h9d⟩
        have h9 : Below wr.heap.size wr x9 := hT.trans (h9d.mono hT.size)
        obtain ⟨a2, cap2, w2, hrun, v1, v2, v3, v4, ⟨v5, v6⟩, v7⟩ := ren_nextQ HG.out HO.out HBX.out hNB hsr hile hI ho (fun k hk => Nat.le_trans hT.size (hnew k hk)) h9
        have HV : Hid _ := v7
        clear v7 hI ho hnew h9d
        go_wp2_with fail
        refine hK.out _ _ v1 (fun _ => ?_)
        clear hK K
        try simp only [Act.put, s_put, s_0, s_1]
        refine wpAnyH_ready (rs := [1, 10]) (by kernel_rfl) (by simp) ?_
        refine AllReadyH.cons (o := ⟨some 27, .load 38 (.tmp 26), 38, _, _, _⟩) rfl (fun K hK => ?_) (AllReadyH.cons (o := ⟨some 36, .buildSlice 38 1 #[(0, .tmp 35)], 38, _, _, _⟩) rfl (fun K hK => ?_) AllReadyH.nil)
        · have cc := (Below.cell h9 (p := ⟨w.heap.size + 2, 6, none⟩) (by simp; omega)).trans C7.out
          go_simp
          clear cc
          refine hK.out _ _ v1 (fun _ => ?_)
          clear hK K
          try simp only [Act.put, s_put, s_0, s_1]
          refine wpAnyH_ready (rs := [10]) (by kernel_rfl) (by simp) ?_
          refine AllReadyH.cons (o := ⟨some 36, .buildSlice 38 1 #[(0, .tmp 35)], 38, _, _, _⟩) rfl (fun K hK => ?_) AllReadyH.nil
          go_simp
          refine hK.out _ _ v2 (fun _ => ?_)
          clear hK K
          try simp only [Act.put, s_put, s_0, s_1]
          refine wpAnyH_ready (rs := [11]) (by kernel_rfl) (by simp) ?_
          refine AllReadyH.cons (o := ⟨some 37, .call { callee := .builtin Builtin.append, args := #[.tmp 27, .tmp 36], argTypes := #[38, 38] }, 38, _, _, _⟩) rfl (fun K hK => ?_) AllReadyH.nil
          rw [if_pos (by rfl)]
          refine wpOp_append_run (.tmp 27) (.tmp 36) 38 rfl _ _ _ rfl rfl hrun ?_
          refine hK.out _ _ v3 (fun _ => ?_)
          clear hK K
          try simp only [Act.put, s_put, s_0, s_1]
          refine wpAnyH_ready (rs := [12]) (by kernel_rfl) (by simp) ?_
          refine AllReadyH.cons (o := ⟨some 38, .fieldAddr 41 (.tmp 7) 1, 0, _, _, _⟩) rfl (fun K hK => ?_) AllReadyH.nil
          go_simp
          refine hK.out _ _ v3 (fun _ => ?_)
          clear hK K
          try simp only [Act.put, s_put, s_0, s_1]
          refine wpAnyH_ready (rs := [13]) (by kernel_rfl) (by simp) ?_
          refine AllReadyH.cons (o := ⟨none, Op.store 38 (Operand.tmp 38) (Operand.tmp 37), 0, _, _, _⟩) rfl (fun K hK => ?_) AllReadyH.nil
          go_simp
          refine hK.out _ _ v4 (fun _ => ?_)
          clear hK K
          try simp only [Act.put, s_put, s_0, s_1]
          refine wpAnyH_done (by kernel_rfl) ?_ _
          refine NoPanic.normal ?_
          go_wp2
          go_roundw
          case rel => exact ⟨i + 1, a2, cap2, upd c i yi, HIN.out, by go_num, HV.out.1, HV.out.2.1, HV.out.2.2.1, hLr.trans HV.out.2.2.2.1, HV.out.2.2.2.2⟩
          case measure => have := HIN.out; simp [intOf]; omega
        · go_simp
          refine hK.out _ _ v2 (fun _ => ?_)
          clear hK K
          try simp only [Act.put, s_put, s_0, s_1]
          refine wpAnyH_ready (rs := [1]) (by kernel_rfl) (by simp) ?_
          refine AllReadyH.cons (o := ⟨some 27, .load 38 (.tmp 26), 38, _, _, _⟩) rfl (fun K hK => ?_) AllReadyH.nil
          have cc := (Below.cell (h9.alloc h9.size (.cells yi.cells 68)) (p := ⟨w.heap.size + 2, 6, none⟩) (by simp; omega)).trans C7.out
          go_simp
          clear cc
          refine hK.out _ _ v2 (fun _ => ?_)
          clear hK K
          try simp only [Act.put, s_put, s_0, s_1]
          refine wpAnyH_ready (rs := [11]) (by kernel_rfl) (by simp) ?_
          refine AllReadyH.cons (o := ⟨some 37, .call { callee := .builtin Builtin.append, args := #[.tmp 27, .tmp 36], argTypes := #[38, 38] }, 38, _, _, _⟩) rfl (fun K hK => ?_) AllReadyH.nil
          rw [if_pos (by rfl)]
          refine wpOp_append_run (.tmp 27) (.tmp 36) 38 rfl _ _ _ rfl rfl hrun ?_
          refine hK.out _ _ v3 (fun _ => ?_)
          clear hK K
          try simp only [Act.put, s_put, s_0, s_1]
          refine wpAnyH_ready (rs := [12]) (by kernel_rfl) (by simp) ?_
          refine AllReadyH.cons (o := ⟨some 38, .fieldAddr 41 (.tmp 7) 1, 0, _, _, _⟩) rfl (fun K hK => ?_) AllReadyH.nil
          go_simp
          refine hK.out _ _ v3 (fun _ => ?_)
          clear hK K
          try simp only [Act.put, s_put, s_0, s_1]
          refine wpAnyH_ready (rs := [13]) (by kernel_rfl) (by simp) ?_
          refine AllReadyH.cons (o := ⟨none, Op.store 38 (Operand.tmp 38) (Operand.tmp 37), 0, _, _, _⟩) rfl (fun K hK => ?_) AllReadyH.nil
          go_simp
          refine hK.out _ _ v4 (fun _ => ?_)
          clear hK K
          try simp only [Act.put, s_put, s_0, s_1]
          refine wpAnyH_done (by kernel_rfl) ?_ _
          refine NoPanic.normal ?_
          go_wp2
          go_roundw
          case rel => exact ⟨i + 1, a2, cap2, upd c i yi, HIN.out, by go_num, HV.out.1, HV.out.2.1, HV.out.2.2.1, hLr.trans HV.out.2.2.2.1, HV.out.2.2.2.2⟩
          case measure => have := HIN.out; simp [intOf]; omega
    · obtain rfl : i = q.n := by omega
      have x10 := HBX.out.at0.2.2.2.2.2
      have f10 := HBX.out.frozen 10
      dsimp only at x10
      go_wp2_with fail
      obtain ⟨W5, hW5⟩ : ∃ W5, wr.setCell ⟨w.heap.size + 2, 10, none⟩ (.slice none 0 0) = W5 := ⟨_, rfl⟩
      rw [hW5]
      have hs5 : W5.heap.size = wr.heap.size := by rw [← hW5]; simp
      have kp5 : Kp (fun k => k ≠ w.heap.size + 2) wr W5 := by rw [← hW5]; exact Kp.set _ (by simp)
      have kpl : Kp (fun k => k < W3.heap.size ∧ k ≠ w.heap.size + 2) W3 wr := fun k o hk _ e => (hLr.block k hk.1 hk.2).trans e
      have QB5 : Hid (QB W5 w.heap.size q) := by rw [← hW5]; exact (Below.heap_setCell _ _ _ _ (by simp)).trans HXW.out
      have RB5 : Hid (QB W5 (w.heap.size + 1) qy0) := by rw [← hW5]; exact (Below.heap_setCell _ _ _ _ (by simp)).trans ((hLr.block _ (by omega) (by omega)).trans RB3.out)
      have XB5 : Hid (QB W5 (w.heap.size + 2) { q with p := y, a := a1, n := q.n, cap := cap1, c := c, ia := none, m := 0, icap := 0, it := q.it }) := by rw [← hW5]; exact HBX.out.setI none 0 0 q.it
      have HP5 : Hid (IsP W5 y) := (HP3.out.kept kpl fun k hk => by have := HIN3.out k hk; omega).kept kp5 fun k hk => by have := (HIN3.out k hk).1; omega
      obtain ⟨g1, g2⟩ := HG.out.is 16 val0 ⟨#[]⟩ ⟨#[]⟩
      have HX5 : Hid (IsX W5 (X.mk 16 val0 ⟨#[]⟩ ⟨#[]⟩ a1 q.n cap1 c)) := g1.kept kp5 fun k hk => by have := g2 k hk; omega
      have HIX : Hid (∀ k, inP k y ∨ inX k (X.mk 16 val0 ⟨#[]⟩ ⟨#[]⟩ a1 q.n cap1 c) → w.heap.size + 3 ≤ k ∧ k < W5.heap.size) := fun k hk => by
        rcases hk with hk | hk
        · have := HIN3.out k hk; omega
        · have := g2 k hk; have := inX_ltI g1 hk; omega
      have hB5 : Below w.heap.size w W5 := by rw [← hW5]; exact hwr.setCell (p := ⟨w.heap.size + 2, 10, none⟩) (by simp) _
      have HOX : Hid (ordX (X.mk 16 val0 ⟨#[]⟩ ⟨#[]⟩ a1 q.n cap1 c) (renX g q.x) = 0) := by
        obtain ⟨p1, p2, p3, p4, p5, p6⟩ := renX_parts g q.x
        refine (ordX_zero _ _).2 ⟨p1.symm, p2.symm ▸ rfl, ?_, p4.symm, p5.symm, fun i hi => by rw [p6]; exact HO.out i hi⟩
        rw [p3]
        rfl
      have hl5 : w.heap.size + 3 ≤ W5.heap.size := by omega
      clear hW5 kp5 kpl g1 g2 hs5 HBX HG HO hLr hsr hwr HXW c6 x10 f10 HP3 HIN3 QB3 RB3 XB3 hB3 hl3 hNB hlen hi hin HI
      go_loopw [9] (fun iv ws => ∃ (i : Nat) (a2 : Option Addr) (cap2 : Nat) (I : Nat → It), i ≤ q.m ∧ iv = .int .i64 i ∧ Hid (QB ws (w.heap.size + 2) { q with p := y, a := a1, n := q.n, cap := cap1, c := c, ia := a2, m := i, icap := cap2, it := I }) ∧ Hid (ws.ownsRow W5.heap.size 72 4 (.slice a2 i cap2) i (rowI4 I i)) ∧ Hid (∀ j, j < i → I j = renI g (q.it j)) ∧ Lb W5.heap.size (w.heap.size + 2) W5 ws ∧ W5.heap.size ≤ ws.heap.size) (fun iv _ => q.m - (intOf iv).toNat)
      case atStart => exact ⟨0, none, 0, q.it, Nat.zero_le _, rfl, XB5, World.ownsRow_nil _ _ _ _, fun j hj => absurd hj (Nat.not_lt_zero _), Lb.refl _ _ _, Nat.le_refl _⟩
      case round =>
        obtain ⟨i, a2, cap2, I, hi, rfl, HBX, HG, HO, hLr, hsr⟩ := hrel
        have hwr : Below w.heap.size w wr := hB5.trans (hLr.below (by omega) (by omega))
        have HXW : Hid (QB wr w.heap.size q) := (hLr.block _ (by omega) (by omega)).trans QB5.out
        have c10 := HXW.out.at0.2.2.2.2.2
        by_cases hin : i < q.m
        · obtain ⟨b, o, ea, i0, i1, i2, i3⟩ := (HQ.out.it.later hwr) i hin
          rw [ea] at c10
          have HIN : Hid (i < q.m) := hin
          clear ea
          go_upto_region 14 with (first | (go_at_call 26; refine (HN.out _ _ (hwr.alloc hwr.size _)).mono ?_; rintro e w1 ⟨rfl, hw1⟩; replace hw1 := hw1.symm; subst hw1))
          obtain ⟨y9, hy9⟩ : ∃ y9 : It, renI g (q.it i) = y9 := ⟨_, rfl⟩
          obtain ⟨x9, hx9⟩ : ∃ x9, wr.alloc (.cells y9.cells 72) = x9 := ⟨_, rfl⟩
          have hx9' : wr.alloc (.cells #[.string (q.it i).nm, .int .i64 (q.it i).k, .string (g (q.it i).s), .string (q.it i).f] 72) = x9 := by rw [← hx9, ← hy9]; rfl
          rw [hx9']
          have hB9 : Below wr.heap.size wr x9 := by rw [← hx9]; exact (Below.refl _ _).alloc (Nat.le_refl _) _
          have hs9 : x9.heap.size = wr.heap.size + 1 := by rw [← hx9]; simp
          have hy := itAt_box (show x9.heap[wr.heap.size]? = some (.cells y9.cells 72 (0, 0)) by rw [← hx9]; exact alloc_new wr _)
          obtain ⟨y0, y1, y2, y3⟩ := hy
          simp only [Nat.zero_add] at y1 y2 y3
          obtain ⟨a3, cap3, w3, hrun, hB3, hown3⟩ := push_one_i (N := w.heap.size + 2) (own_laterS HG.out hB9) (by omega) (by omega) y9 (by omega)
          have HR3 : Hid (_ = _) := hrun
          have hbx9 := HBX.out.later hB9
          have hbx3 : QB w3 (w.heap.size + 2) _ := (hB3.block _ (by omega)).trans hbx9
          have x10 := hbx9.at0.2.2.2.2.2
          have z10 := hbx3.at0.2.2.2.2.2
          have f10 := hbx3.frozen 10
          dsimp only at x10 z10
          have HBX3 : Hid (QB w3 (w.heap.size + 2) { q with p := y, a := a1, n := q.n, cap := cap1, c := c, ia := a2, m := i, icap := cap2, it := I }) := hbx3
          have HOW : Hid (_) := hown3
          have HY9 : Hid (renI g (q.it i) = y9) := hy9
          have hLn : Lb W5.heap.size (w.heap.size + 2) wr (w3.setCell ⟨w.heap.size + 2, 10, none⟩ (.slice a3 (i + 1) cap3)) := (Lb.of_below ((hB9.mono hsr).trans hB3)).trans (Lb.set (.inl rfl))
          have HLN : Hid (_) := hLn
          have HS9 : Hid (x9.heap.size = wr.heap.size + 1) := hs9
          clear hrun hx9 hx9' hy9 hbx3 hbx9 hown3 hLn i0 i1 i2 i3 c10 hs9
          go_wp2_with (first | (at_builtin; refine wpList_append_run rfl (.tmp 59) (.tmp 61) 39 rfl _ _ _ rfl rfl HR3.out ?_))
          have hfl : ∀ j, j < i + 1 → updI I i y9 j = renI g (q.it j) := fun j hj => by
            by_cases e : j = i
            · subst e; simp [updI, HY9.out]
            · simp only [updI, if_neg e]; exact HO.out j (by omega)
          go_roundw
          case rel => exact ⟨i + 1, a3, cap3, updI I i y9, HIN.out, by go_num, HBX3.out.setI a3 (i + 1) cap3 _, HOW.out, hfl, hLr.trans HLN.out, by have := HLN.out.size; omega⟩
          case measure => have := HIN.out; simp [intOf]; omega
        · obtain rfl : i = q.m := by omega
          have rbr : QB wr (w.heap.size + 1) qy0 := (hLr.block _ (by omega) (by omega)).trans RB5.out
          obtain ⟨⟨d0, d1, d2, d3, d4, d5⟩, d6, d7, d8, d9, d10⟩ := HBX.out.at0
          obtain ⟨⟨e0, e1, e2, e3, e4, e5⟩, e6, e7, e8, e9, e10⟩ := rbr.at0
          have f0 := rbr.frozen 0
          have f1 := rbr.frozen 1
          have f2 := rbr.frozen 2
          have f3 := rbr.frozen 3
          have f4 := rbr.frozen 4
          have f5 := rbr.frozen 5
          have f6 := rbr.frozen 6
          have f7 := rbr.frozen 7
          have f8 := rbr.frozen 8
          have f9 := rbr.frozen 9
          have f10 := rbr.frozen 10
          dsimp only at d0 d1 d2 d3 d4 d5 d6 d7 d8 d9 d10
          have RBR : Hid (QB wr (w.heap.size + 1) qy0) := rbr
          clear rbr
          go_wp2
          clear d0 d1 d2 d3 d4 d5 d6 d7 d8 d9 d10 e0 e1 e2 e3 e4 e5 e6 e7 e8 e9 e10 f0 f1 f2 f3 f4 f5 f6 f7 f8 f9 f10
          obtain ⟨r, hr⟩ : ∃ r : Qy, r = { q with p := y, a := a1, n := q.n, cap := cap1, c := c, ia := a2, m := q.m, icap := cap2, it := I } := ⟨_, rfl⟩
          have hblk : QB (setQ wr (w.heap.size + 1) r) (w.heap.size + 1) r := RBR.out.setQ r
          have hkq : Kp (fun k => k ≠ w.heap.size + 1) wr (setQ wr (w.heap.size + 1) r) := fun k o hk _ e => (heap_setQ_other hk).trans e
          have hkl : Kp (fun k => k < W5.heap.size ∧ k ≠ w.heap.size + 2) W5 wr := fun k o hk _ e => (hLr.block k hk.1 hk.2).trans e
          have hbw : Below w.heap.size w (setQ wr (w.heap.size + 1) r) := below_setQ hwr (by omega)
          have hpf : IsP (setQ wr (w.heap.size + 1) r) y := (HP5.out.kept hkl fun k hk => by have := HIX.out k (.inl hk); omega).kept hkq fun k hk => by have := (HIX.out k (.inl hk)).1; omega
          have hxf : IsX (setQ wr (w.heap.size + 1) r) (X.mk 16 val0 ⟨#[]⟩ ⟨#[]⟩ a1 q.n cap1 c) := (HX5.out.kept hkl fun k hk => by have := HIX.out k (.inr hk); omega).kept hkq fun k hk => by have := (HIX.out k (.inr hk)).1; omega
          obtain ⟨a2', cap2', e2, hcl, hcm2, hitr⟩ := own_its HG.out
          cases e2
          have hif : Its (setQ wr (w.heap.size + 1) r) a2 q.m I := fun i hi => by
            obtain ⟨gg, e, hge, _, _, hcs⟩ := hitr (by omega)
            obtain ⟨g0, g1, g2, g3⟩ := hcs i hi
            have hne : gg ≠ w.heap.size + 1 := by omega
            refine ⟨gg, 0, e, ?_⟩
            rw [Nat.zero_add]
            exact ⟨hkq.cell (p := ⟨gg, i * 4, none⟩) hne g0, hkq.cell (p := ⟨gg, i * 4 + 1, none⟩) hne g1, hkq.cell (p := ⟨gg, i * 4 + 2, none⟩) hne g2, hkq.cell (p := ⟨gg, i * 4 + 3, none⟩) hne g3⟩
          have hfin : ∃ r' : Qy, Ending.returned r.val = .returned r'.val ∧ IsQ (setQ wr (w.heap.size + 1) r) r' ∧ RnQ g q r' ∧ Below w.heap.size w (setQ wr (w.heap.size + 1) r) := by
            refine ⟨r, rfl, ?_, ?_, hbw⟩
            · rw [hr] at hpf hxf hif ⊢
              exact ⟨hpf, hxf, hif, hcl, by unfold maxLen at hcm2; omega⟩
            · rw [hr]
              exact ⟨HSM.out, HOX.out, rfl, rfl, rfl, rfl, HO.out⟩
          refine bodyPost_ret (v := r.val) (results_cell_row rfl _ _ (w.heap.size + 1) 41 r.cells (0, 0) _ rfl ?_ Try.underlying41 rfl (by kernel_rfl)) rfl ?_
          · rw [hr] at hblk ⊢
            exact hblk
          · rw [hr] at hfin ⊢
            exact hfin
end Go.Proofs.Ytjclelmbpmlioaa
namespace Go.Proofs.Ytjclelmbpmlioaa
open Go.RowKit

set_option maxRecDepth 100000 in
set_option maxHeartbeats 8000000 in
theorem refSameQ_no (q r : Qy) (w : World) (hQ : IsQ w q) (hR : IsQ w r) (h : ¬ (sameP q.p r.p = true ∧ q.key = r.key ∧ q.mode = r.mode ∧ q.win = r.win ∧ q.n = r.n ∧ q.m = r.m)) :
    Calls Try.prog 18 #[q.val, r.val] w fun e w' => e = .returned (.bool false) ∧ Below w.heap.size w w' := by
  have C1 : Hid (∀ d, Below w.heap.size w d → Calls Try.prog 8 #[q.p.val, r.p.val] d fun e w' => e = .returned (.bool (sameP q.p r.p)) ∧ Below d.heap.size d w') := fun d h => refSameP_any q.p r.p d (hQ.p.later h) (hR.p.later h)
  obtain ⟨⟨k0, k1, k2, k3, k4, k5⟩, -⟩ := (boxQ_first q r w).at0
  obtain ⟨⟨l0, l1, l2, l3, l4, l5⟩, -⟩ := (boxQ_second q r w).at0
  clear hQ hR
  by_cases sm : sameP q.p r.p = true
  · have hsm : sameP q.p r.p = true := sm
    by_cases e1 : q.key = r.key
    · have te1 := str_yes e1
      by_cases e2 : q.mode = r.mode
      · have te2 := ne_yes e2
        by_cases e3 : q.win = r.win
        · have te3 := ne_yes e3
          by_cases e4 : q.n = r.n
          · have te4 := ne_yes (show ((q.n : Nat) : Int) = ((r.n : Nat) : Int) by rw [e4])
            by_cases e5 : q.m = r.m
            · have te5 := ne_yes (show ((q.m : Nat) : Int) = ((r.m : Nat) : Int) by rw [e5])
              exact absurd ⟨sm, e1, e2, e3, e4, e5⟩ h
            · have te5 := ne_no (show ¬ ((q.m : Nat) : Int) = ((r.m : Nat) : Int) from fun q => e5 (by omega))
              rw [hsm] at C1
              clear h sm e1 e2 e3 e4 e5 hsm
              go_enter Try.func18, Try.ntmps18
              go_wp2_with (first | (go_at_call 8; refine (C1.out _ (boxQ_below q r w)).mono ?_; rintro e w1 ⟨rfl, hB1⟩; obtain ⟨⟨a0, a1, a2, a3, a4, a5⟩, a6, a7, a8, a9, a10⟩ := ((boxQ_first q r w).later hB1).at0; obtain ⟨⟨b0, b1, b2, b3, b4, b5⟩, b6, b7, b8, b9, b10⟩ := ((boxQ_second q r w).later hB1).at0))
              go_ret
              exact ⟨rfl, (boxQ_below q r w).trans (hB1.mono (boxQ_below q r w).size)⟩
          · have te4 := ne_no (show ¬ ((q.n : Nat) : Int) = ((r.n : Nat) : Int) from fun q => e4 (by omega))
            rw [hsm] at C1
            clear h sm e1 e2 e3 e4 hsm
            go_enter Try.func18, Try.ntmps18
            go_wp2_with (first | (go_at_call 8; refine (C1.out _ (boxQ_below q r w)).mono ?_; rintro e w1 ⟨rfl, hB1⟩; obtain ⟨⟨a0, a1, a2, a3, a4, a5⟩, a6, a7, a8, a9, a10⟩ := ((boxQ_first q r w).later hB1).at0; obtain ⟨⟨b0, b1, b2, b3, b4, b5⟩, b6, b7, b8, b9, b10⟩ := ((boxQ_second q r w).later hB1).at0))
            go_ret
            exact ⟨rfl, (boxQ_below q r w).trans (hB1.mono (boxQ_below q r w).size)⟩
        · have te3 := ne_no e3
          rw [hsm] at C1
          clear h sm e1 e2 e3 hsm
          go_enter Try.func18, Try.ntmps18
          go_wp2_with (first | (go_at_call 8; refine (C1.out _ (boxQ_below q r w)).mono ?_; rintro e w1 ⟨rfl, hB1⟩; obtain ⟨⟨a0, a1, a2, a3, a4, a5⟩, a6, a7, a8, a9, a10⟩ := ((boxQ_first q r w).later hB1).at0; obtain ⟨⟨b0, b1, b2, b3, b4, b5⟩, b6, b7, b8, b9, b10⟩ := ((boxQ_second q r w).later hB1).at0))
          go_ret
          exact ⟨rfl, (boxQ_below q r w).trans (hB1.mono (boxQ_below q r w).size)⟩
      · have te2 := ne_no e2
        rw [hsm] at C1
        clear h sm e1 e2 hsm
        go_enter Try.func18, Try.ntmps18
        go_wp2_with (first | (go_at_call 8; refine (C1.out _ (boxQ_below q r w)).mono ?_; rintro e w1 ⟨rfl, hB1⟩; obtain ⟨⟨a0, a1, a2, a3, a4, a5⟩, a6, a7, a8, a9, a10⟩ := ((boxQ_first q r w).later hB1).at0; obtain ⟨⟨b0, b1, b2, b3, b4, b5⟩, b6, b7, b8, b9, b10⟩ := ((boxQ_second q r w).later hB1).at0))
        go_ret
        exact ⟨rfl, (boxQ_below q r w).trans (hB1.mono (boxQ_below q r w).size)⟩
    · have te1 := str_not e1
      rw [hsm] at C1
      clear h sm e1 hsm
      go_enter Try.func18, Try.ntmps18
      go_wp2_with (first | (go_at_call 8; refine (C1.out _ (boxQ_below q r w)).mono ?_; rintro e w1 ⟨rfl, hB1⟩; obtain ⟨⟨a0, a1, a2, a3, a4, a5⟩, a6, a7, a8, a9, a10⟩ := ((boxQ_first q r w).later hB1).at0; obtain ⟨⟨b0, b1, b2, b3, b4, b5⟩, b6, b7, b8, b9, b10⟩ := ((boxQ_second q r w).later hB1).at0))
      go_ret
      exact ⟨rfl, (boxQ_below q r w).trans (hB1.mono (boxQ_below q r w).size)⟩
  · have hsm : sameP q.p r.p = false := by simpa using sm
    rw [hsm] at C1
    clear h sm hsm
    go_enter Try.func18, Try.ntmps18
    go_wp2_with (first | (go_at_call 8; refine (C1.out _ (boxQ_below q r w)).mono ?_; rintro e w1 ⟨rfl, hB1⟩; obtain ⟨⟨a0, a1, a2, a3, a4, a5⟩, a6, a7, a8, a9, a10⟩ := ((boxQ_first q r w).later hB1).at0; obtain ⟨⟨b0, b1, b2, b3, b4, b5⟩, b6, b7, b8, b9, b10⟩ := ((boxQ_second q r w).later hB1).at0))
    go_ret
    exact ⟨rfl, (boxQ_below q r w).trans (hB1.mono (boxQ_below q r w).size)⟩
set_option maxRecDepth 100000 in
set_option maxHeartbeats 8000000 in
theorem refSameQ_row (q r : Qy) (w : World) (hQ : IsQ w q) (hR : IsQ w r) (e0 : sameP q.p r.p = true) (e1 : q.key = r.key) (e2 : q.mode = r.mode) (e3 : q.win = r.win) (e4 : q.n = r.n) (e5 : q.m = r.m) :
    Calls Try.prog 18 #[q.val, r.val] w fun e w' => e = .returned (.bool (sameQ q r)) ∧ Below w.heap.size w w' := by
  obtain ⟨v, hv⟩ : ∃ v, v = sameQ q r := ⟨_, rfl⟩
  have HF : Hid (∀ i, i < q.n → ¬ ordX (q.c i) (r.c i) = 0 → v = false) := fun i hi h => by
    rw [hv, Bool.eq_false_iff]
    exact fun e => h (((sameQ_iff q r).1 e).2.2.2.2.2.2.1 i hi)
  have HF2 : Hid (∀ i, i < q.m → sameI (q.it i) (r.it i) = false → v = false) := fun i hi h => by
    rw [hv, Bool.eq_false_iff]
    intro e
    rw [(sameI_iff _ _).2 (((sameQ_iff q r).1 e).2.2.2.2.2.2.2 i hi)] at h
    cases h
  have HT : Hid ((∀ i, i < q.n → ordX (q.c i) (r.c i) = 0) → (∀ i, i < q.m → sameI (q.it i) (r.it i) = true) → v = true) := fun h1 h2 => by
    rw [hv]
    exact (sameQ_iff q r).2 ⟨e0, e1, e2, e3, e4, e5, h1, fun i hi => (sameI_iff _ _).1 (h2 i hi)⟩
  rw [← hv]
  obtain ⟨A, hA, hB, hs, hn, hm⟩ := boxQ_two q r w
  have C1 : Hid (Calls Try.prog 8 #[q.p.val, r.p.val] A fun e w' => e = .returned (.bool true) ∧ Below A.heap.size A w') := by
    have := refSameP_any q.p r.p A (hQ.p.later hB) (hR.p.later hB)
    rw [e0] at this
    exact this
  have HI : Hid (∀ i, i < q.n → ∀ W, Below w.heap.size w W → Calls Try.prog 35 #[(q.c i).val, (r.c i).val] W fun e w' => e = .returned (.bool (ordX (q.c i) (r.c i) == 0)) ∧ Below W.heap.size W w') := fun i hi W hW => by
    obtain ⟨_, _, _, _, h1⟩ := (hQ.x.later hW).part (x := q.x) hi
    obtain ⟨_, _, _, _, h2⟩ := (hR.x.later hW).part (x := r.x) (show i < r.n from e4 ▸ hi)
    exact refSameX_any _ _ W h1 h2
  have HX : Hid (IsQ w q) := hQ
  have HY : Hid (IsQ w r) := hR
  have HB : Hid (Below w.heap.size w A) := hB
  have HN : Hid (QB A w.heap.size q) := hn
  have HM : Hid (QB A (w.heap.size + 1) r) := hm
  have HS : Hid (A.heap.size = w.heap.size + 2) := hs
  have H4 : Hid (q.n = r.n) := e4
  have H5 : Hid (q.m = r.m) := e5
  have t1 := str_yes e1
  have t2 := ne_yes e2
  have t3 := ne_yes e3
  have t4 := ne_yes (show ((q.n : Nat) : Int) = ((r.n : Nat) : Int) by rw [e4])
  have t5 := ne_yes (show ((q.m : Nat) : Int) = ((r.m : Nat) : Int) by rw [e5])
  obtain ⟨⟨k0, k1, k2, k3, k4, k5⟩, -⟩ := hn.at0
  obtain ⟨⟨l0, l1, l2, l3, l4, l5⟩, -⟩ := hm.at0
  have hlen : q.n ≤ 9223372036854775807 := hQ.x.len
  have hlem : q.m ≤ 9223372036854775807 := by have := hQ.len; omega
  clear hQ hR hv hB hn hm hs e0 e1 e2 e3 e4 e5
  go_enter Try.func18, Try.ntmps18
  go_upto_region 1 with fail
  clear hA
  go_wp2_with (first | (go_at_call 8; refine C1.out.mono ?_; rintro e w1 ⟨rfl, hB1⟩; obtain ⟨⟨a0, a1, a2, a3, a4, a5⟩, a6, a7, a8, a9, a10⟩ := (HN.out.later hB1).at0; obtain ⟨⟨b0, b1, b2, b3, b4, b5⟩, b6, b7, b8, b9, b10⟩ := (HM.out.later hB1).at0))
  have hw1 : Below w.heap.size w w1 := HB.out.trans (hB1.mono HB.out.size)
  clear k0 k1 k2 k3 k4 k5 l0 l1 l2 l3 l4 l5 t1 t2 t3 t4 t5 a0 a1 a2 a3 a4 a5 b0 b1 b2 b3 b4 b5 a6 a7 a8 a9 a10 b6 b7 b8 b9 b10 C1
  have HN1 : Hid (QB w1 w.heap.size q) := HN.out.later hB1
  have HM1 : Hid (QB w1 (w.heap.size + 1) r) := HM.out.later hB1
  have hs1 : w.heap.size + 2 ≤ w1.heap.size := by have := HS.out; have := hB1.size; omega
  clear HN HM HB HS hB1
  go_loopw [5] (fun u wr => ∃ k : Nat, k ≤ q.n ∧ u = .int .i64 k ∧ Hid (∀ i, i < k → ordX (q.c i) (r.c i) = 0) ∧ Below w1.heap.size w1 wr) (fun u _ => q.n - (intOf u).toNat)
  case atStart => exact ⟨0, Nat.zero_le _, rfl, fun i hi => absurd hi (Nat.not_lt_zero _), Below.refl _ _⟩
  case round =>
    obtain ⟨k, hk, rfl, HK, hB⟩ := hrel
    have hw := hw1.trans (hB.mono (by omega))
    obtain ⟨-, c6, -⟩ := (HN1.out.later hB).at0
    obtain ⟨-, g6, -⟩ := (HM1.out.later hB).at0
    by_cases hkn : k < q.n
    · have hkm : k < r.n := by have := H4.out; omega
      obtain ⟨b, o, ea, hn, -⟩ := (HX.out.x.later hw).part (x := q.x) hkn
      obtain ⟨b', o', ea', hn', -⟩ := (HY.out.x.later hw).part (x := r.x) hkm
      have ea1 : q.a = some ⟨b, o, none⟩ := ea
      have ea2 : r.a = some ⟨b', o', none⟩ := ea'
      rw [ea1] at c6
      rw [ea2] at g6
      have hn1 : Node wr b (o + k * 7) (q.c k) := hn
      have hn2 : Node wr b' (o' + k * 7) (r.c k) := hn'
      obtain ⟨d0, d1, d2, d3, d4, d5, d6⟩ := hn1
      obtain ⟨f0, f1, f2, f3, f4, f5, f6⟩ := hn2
      have hc := HI.out k hkn wr.drew (hw.trans (Below.refl _ _).drew)
      have HKN : Hid (k < q.n) := hkn
      have HQ : Hid (Below w.heap.size w wr) := hw
      obtain ⟨z, hz⟩ : ∃ z, z = (ordX (q.c k) (r.c k) == 0) := ⟨_, rfl⟩
      rw [← hz] at hc
      have HE : Hid (z = (ordX (q.c k) (r.c k) == 0)) := hz
      clear hw hz ea ea' ea1 ea2 hn hn'
      go_wp2
      go_region_with (go_at_call 35; refine hc.mono ?_; clear hc; rintro e w2 ⟨rfl, hB2⟩)
      all_goals cases z
      all_goals go_wp2
      all_goals first
        | (go_ret; exact ⟨by rw [HF.out k HKN.out (fun e => by have := HE.out; rw [e] at this; cases this)]; rfl, HQ.out.trans ((Below.refl _ _).drew.trans (hB2.mono (by have := HQ.out.size; exact this)))⟩)
        | (go_roundw
           case rel =>
             refine ⟨k + 1, HKN.out, by go_num, fun i hi => ?_, hB.trans ((Below.refl _ _).drew.trans (hB2.mono hB.size))⟩
             by_cases e : i = k
             · rw [e]; simpa using HE.out.symm
             · exact HK.out i (by omega)
           case measure => have := HKN.out; simp [intOf]; omega)
    · obtain rfl : k = q.n := by omega
      go_wp2_with fail
      have hB0 := hB
      have hw0 := hw
      have HKX : Hid (∀ i, i < q.n → ordX (q.c i) (r.c i) = 0) := HK.out
      clear HK HI hB hw hk hkn
      obtain ⟨w5, hw5⟩ : ∃ w5, w5 = wr := ⟨_, rfl⟩
      rw [← hw5] at hB0 hw0 ⊢
      clear c6 g6 hw5
      go_loopw [6] (fun u wr => ∃ k : Nat, k ≤ q.m ∧ u = .int .i64 k ∧ Hid (∀ i, i < k → sameI (q.it i) (r.it i) = true) ∧ Below w5.heap.size w5 wr) (fun u _ => q.m - (intOf u).toNat)
      case atStart => exact ⟨0, Nat.zero_le _, rfl, fun i hi => absurd hi (Nat.not_lt_zero _), Below.refl _ _⟩
      case round =>
        obtain ⟨k, hk, rfl, HK, hB⟩ := hrel
        have hw := hw0.trans (hB.mono hw0.size)
        have hbb := hB0.trans (hB.mono hB0.size)
        obtain ⟨-, -, -, -, -, c10⟩ := (HN1.out.later hbb).at0
        obtain ⟨-, -, -, -, -, g10⟩ := (HM1.out.later hbb).at0
        by_cases hkn : k < q.m
        · have hkm : k < r.m := by have := H5.out; omega
          obtain ⟨b, o, ea, d0, d1, d2, d3⟩ := (HX.out.it.later hw) k hkn
          obtain ⟨b', o', ea', f0, f1, f2, f3⟩ := (HY.out.it.later hw) k hkm
          rw [ea] at c10
          rw [ea'] at g10
          have HKN : Hid (k < q.m) := hkn
          have HQ : Hid (Below w.heap.size w wr) := hw
          have hcm := neqI (q.it k) (r.it k)
          obtain ⟨z, hz⟩ : ∃ z, z = sameI (q.it k) (r.it k) := ⟨_, rfl⟩
          rw [← hz] at hcm
          have HE : Hid (z = sameI (q.it k) (r.it k)) := hz
          clear hw hz ea ea'
          go_wp2_with fail
          cases z
          · simp only [Bool.not_false] at hcm
            go_quiet (fail)
            go_wp2
            try rw [Exit.noGoto_ret]
            go_ret
            exact ⟨by rw [HF2.out k HKN.out HE.out.symm]; rfl, bd HQ.out _⟩
          · simp only [Bool.not_true] at hcm
            go_quiet (fail)
            go_wp2
            go_roundw
            case rel =>
              refine ⟨k + 1, HKN.out, by go_num, fun i hi => ?_, bd hB _⟩
              by_cases e : i = k
              · rw [e]; exact HE.out.symm
              · exact HK.out i (by omega)
            case measure => have := HKN.out; simp [intOf]; omega
        · obtain rfl : k = q.m := by omega
          go_wp2
          go_ret
          exact ⟨by rw [HT.out HKX.out HK.out]; rfl, hw⟩
theorem refSameQ_any (q r : Qy) (w : World) (hQ : IsQ w q) (hR : IsQ w r) : Calls Try.prog 18 #[q.val, r.val] w fun e w' => e = .returned (.bool (sameQ q r)) ∧ Below w.heap.size w w' := by
  by_cases h : sameP q.p r.p = true ∧ q.key = r.key ∧ q.mode = r.mode ∧ q.win = r.win ∧ q.n = r.n ∧ q.m = r.m
  · obtain ⟨h0, h1, h2, h3, h4, h5⟩ := h
    exact refSameQ_row q r w hQ hR h0 h1 h2 h3 h4 h5
  · have : sameQ q r = false := by
      rw [Bool.eq_false_iff]
      intro e
      obtain ⟨h0, h1, h2, h3, h4, h5, _⟩ := (sameQ_iff q r).1 e
      exact h ⟨h0, h1, h2, h3, h4, h5⟩
    rw [this]
    exact refSameQ_no q r w hQ hR h
end Go.Proofs.Ytjclelmbpmlioaa
