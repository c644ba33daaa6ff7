/-
  The document's right of conditions that have parts.
-/
import Derived.Test.YtfnfegcjgnbgbaaGreatDoorTBrief
import Derived.Test.YtfnfegcjgnbgbaaGreatDoorTExprRefRightN
namespace Go.Proofs.YtfnfegcjgnbgbaaGreatDoor
open Go.RowKit

set_option maxRecDepth 100000 in
set_option maxHeartbeats 2000000 in
theorem refR_16 (x : X) (w : World) (hX : IsX w x) (HI : Hid (∀ i, i < x.n → ∀ w, IsX w (x.c i) → Calls Tryz.prog 85 #[(x.c i).val] w fun e w' => ∃ r, e = .returned (.bool r) ∧ (r = true ↔ TreeR (x.c i)) ∧ Below w.heap.size w w')) (hk : x.k = 16) (hv : x.v = val0) (hsf : x.s = ⟨#[]⟩ ∧ x.f = ⟨#[]⟩) (hn0 : 2 ≤ x.n) :
    Calls Tryz.prog 85 #[x.val] w fun e w' => ∃ r, e = .returned (.bool r) ∧ (r = true ↔ TreeR x) ∧ Below w.heap.size w w' := by
  obtain ⟨A, hA, hB, hs, hn⟩ := one_box x w
  obtain ⟨a0, a1, a2, a3, a4, a5, a6⟩ := hn.at0
  have HB : Hid (Below w.heap.size w A) := hB
  have HN : Hid (Node A w.heap.size 0 x) := hn
  have HX : Hid (IsX w x) := hX
  have hlen := hX.len
  have HNR : Hid ((∀ i, i < x.n → (x.c i).k ≠ x.k) → NodeR x) := (fun h => ⟨fun _ => hv, fun _ => hsf, .inr (.inr (.inr (.inr ⟨by omega, hn0, h⟩)))⟩ : (∀ i, i < x.n → (x.c i).k ≠ x.k) → NodeR x)
  have HKK : Hid (x.k = 16) := hk
  have t1 : ¬ (x.n : Int) < 2 := by omega
  clear hX hn0
  rw [hk] at a0
  clear hk
  rw [hv] at a1 a2 a3
  have v1 : val0.k = 0 := rfl
  have v2 : val0.n = 0 := rfl
  have v3 : val0.s = ⟨#[]⟩ := rfl
  rw [v1] at a1
  rw [v2] at a2
  rw [v3] at a3
  clear v1 v2 v3 hv
  rw [hsf.1] at a4
  rw [hsf.2] at a5
  clear hsf
  clear hB hn
  go_enter Tryz.func85, Tryz.ntmps85
  go_wp2_with fail
  clear t1
  go_loopw [4] (fun u wr => ∃ i : Nat, i ≤ x.n ∧ u = .int .i64 i ∧ Hid (∀ j, j < i → TreeR (x.c j) ∧ (x.c j).k ≠ 16) ∧ Below A.heap.size A wr) (fun u _ => x.n - (intOf u).toNat)
  case atStart => exact ⟨0, Nat.zero_le _, rfl, fun j hj => by omega, Below.refl _ _⟩
  case round =>
    obtain ⟨i, hi, rfl, HD, hB⟩ := hrel
    have hw := HB.out.trans (hB.mono (by omega))
    by_cases hin : i < x.n
    · obtain ⟨b, o, ea, hn, hx⟩ := (HX.out.later hw).part hin
      have HK : Hid (i < x.n) := hin
      have C0 : Hid (wr.cell? ⟨w.heap.size, 0, none⟩ = some (.int .i64 16)) := by have := (node_on HN.out (hB.mono (by omega))).at0.1; rw [HKK.out] at this; exact this
      have C6 : Hid (wr.cell? ⟨w.heap.size, 6, none⟩ = some (.slice (some ⟨b, o, none⟩) x.n x.cap)) := by have := (node_on HN.out (hB.mono (by omega))).at0.2.2.2.2.2.2; rw [ea] at this; exact this
      have N1 : Hid (Node wr b (o + i * 7) (x.c i)) := hn
      have hcc : Hid (∀ d, Below wr.heap.size wr d → Calls Tryz.prog 85 #[(x.c i).val] d fun e w' => ∃ r, e = .returned (.bool r) ∧ (r = true ↔ TreeR (x.c i)) ∧ Below d.heap.size d w') := fun d h => HI.out i hin d (hx.later h)
      clear hx hn ea
      by_cases ht : TreeR (x.c i)
      · have hc : Hid (∀ d, Below wr.heap.size wr d → Calls Tryz.prog 85 #[(x.c i).val] d fun e w' => e = .returned (.bool true) ∧ Below d.heap.size d w') := fun d h => (hcc.out d h).mono fun e w' hh => by
          obtain ⟨r, h1, h2, h3⟩ := hh
          exact ⟨by rw [h1, h2.2 ht], h3⟩
        have HT : Hid (TreeR (x.c i)) := ht
        clear ht hcc
        by_cases he : (x.c i).k = 16
        · have he' : ((x.c i).k == 16) = true := by simpa using he
          have HE : Hid ((x.c i).k = 16) := he
          clear he
          go_wp2_with fail
          refine wp_region_noPanic ?_
          refine wp_region_held_drew (S := fun w' => Below wr.heap.size wr w') (by kernel_rfl) ((Below.refl _ _).drew) (fun hHeld => ?_)
          have hT : Below wr.heap.size wr wr.drew := hHeld
          obtain ⟨d, hd⟩ : ∃ d, d = wr.drew := ⟨_, rfl⟩
          rw [← hd] at hHeld hT ⊢
          clear hd
          refine wpAnyH_take (i := 0) (oi := ⟨some 97, .fieldAddr 51 (.tmp 1) 4, 0, _, _, _⟩) (v := ?v0q16same) rfl (by kernel_rfl) (by kernel_rfl) (by kernel_rfl) (fun _ _ _ h => h) (Or.inl ⟨by rfl, ?hy0q16same⟩) hHeld ?rest0q16same
          case hy0q16same => intro w9 hSw; go_simp; (try with_reducible rfl)
          try simp only [Act.put, s_put, s_0, s_1]
          refine wpAnyH_take (i := 1) (oi := ⟨some 98, .load 25 (.tmp 97), 25, _, _, _⟩) (v := ?v1q16same) rfl (by kernel_rfl) (by kernel_rfl) (by kernel_rfl) (fun _ _ _ h => h) (Or.inl ⟨by rfl, ?hy1q16same⟩) hHeld ?rest1q16same
          case hy1q16same => intro w9 hSw; have cc := cell_later C6.out hSw; go_simp; (try with_reducible rfl)
          try simp only [Act.put, s_put, s_0, s_1]
          refine wpAnyH_take (i := 2) (oi := ⟨some 99, .move (.tmp 4), 3, _, _, _⟩) (v := ?v2q16same) rfl (by kernel_rfl) (by kernel_rfl) (by kernel_rfl) (fun _ _ _ h => h) (Or.inl ⟨by rfl, ?hy2q16same⟩) hHeld ?rest2q16same
          case hy2q16same => intro w9 hSw; go_simp; (try with_reducible rfl)
          try simp only [Act.put, s_put, s_0, s_1]
          refine wpAnyH_take (i := 3) (oi := ⟨some 100, .indexAddr 25 (.tmp 98) (.tmp 99), 0, _, _, _⟩) (v := ?v3q16same) rfl (by kernel_rfl) (by kernel_rfl) (by kernel_rfl) (fun _ _ _ h => h) (Or.inl ⟨by rfl, ?hy3q16same⟩) hHeld ?rest3q16same
          case hy3q16same => intro w9 hSw; go_simp; (try with_reducible rfl)
          try simp only [Act.put, s_put, s_0, s_1]
          refine wpAnyH_take (i := 4) (oi := ⟨some 101, .load 51 (.tmp 100), 51, _, _, _⟩) (v := ?v4q16same) rfl (by kernel_rfl) (by kernel_rfl) (by kernel_rfl) (fun _ _ _ h => h) (Or.inl ⟨by rfl, ?hy4q16same⟩) hHeld ?rest4q16same
          case hy4q16same => intro w9 hSw; obtain ⟨d0, d1, d2, d3, d4, d5, d6⟩ := N1.out.later hSw; go_simp; (try with_reducible rfl)
          try simp only [Act.put, s_put, s_0, s_1]
          refine wpAnyH_ready (rs := [5]) (by kernel_rfl) (by simp) ?_
          refine AllReadyH.cons (o := ⟨some 102, .call { callee := .value (.func 85), args := #[.tmp 101], argTypes := #[51] }, 4, _, _, _⟩) rfl (fun K hK => ?_) AllReadyH.nil
          go_simp
          refine (hc.out _ hHeld).mono ?_
          rintro e x5 ⟨rfl, hN5⟩
          go_wp2_with fail
          have hT5 : Below wr.heap.size wr x5 := hT.trans (hN5.mono hT.size)
          refine hK.out _ _ (hHeld.trans (hN5.mono hHeld.size)) (fun _ => held_up (S' := fun w' => Below x5.heap.size x5 w') (fun w' h' => (hHeld.trans (hN5.mono hHeld.size)).trans (h'.mono (Nat.le_trans hHeld.size hN5.size))) _ _ _ _ ?_)
          clear hK K hHeld hT
          have hT : Below wr.heap.size wr x5 := hT5
          have hHeld : Below x5.heap.size x5 x5 := Below.refl _ _
          clear hT5 hN5
          try simp only [Act.put, s_put, s_0, s_1]
          refine wpAnyH_take (i := 6) (oi := ⟨some 103, .unOp UnOp.not 4 (.tmp 102), 4, _, _, _⟩) (v := ?v6q16same) rfl (by kernel_rfl) (by kernel_rfl) (by kernel_rfl) (fun _ _ _ h => h) (Or.inl ⟨by rfl, ?hy6q16same⟩) hHeld ?rest6q16same
          case hy6q16same => intro w9 hSw; go_simp; (try with_reducible rfl)
          try simp only [Act.put, s_put, s_0, s_1]
          refine wpAnyH_take (i := 7) (oi := ⟨some 104, .move (.tmp 103), 4, _, _, _⟩) (v := ?v7q16same) rfl (by kernel_rfl) (by kernel_rfl) (by kernel_rfl) (fun _ _ _ h => h) (Or.inl ⟨by rfl, ?hy7q16same⟩) hHeld ?rest7q16same
          case hy7q16same => intro w9 hSw; go_simp; (try with_reducible rfl)
          try simp only [Act.put, s_put, s_0, s_1]
          refine wpAnyH_take (i := 8) (oi := ⟨some 105, .fieldAddr 51 (.tmp 1) 0, 0, _, _, _⟩) (v := ?v8q16same) rfl (by kernel_rfl) (by kernel_rfl) (by kernel_rfl) (fun _ _ _ h => h) (Or.inl ⟨by rfl, ?hy8q16same⟩) hHeld ?rest8q16same
          case hy8q16same => intro w9 hSw; go_simp; (try with_reducible rfl)
          try simp only [Act.put, s_put, s_0, s_1]
          refine wpAnyH_take (i := 9) (oi := ⟨some 106, .load 3 (.tmp 105), 3, _, _, _⟩) (v := ?v9q16same) rfl (by kernel_rfl) (by kernel_rfl) (by kernel_rfl) (fun _ _ _ h => h) (Or.inl ⟨by rfl, ?hy9q16same⟩) hHeld ?rest9q16same
          case hy9q16same => intro w9 hSw; have cc := cell_later C0.out (hT.trans (hSw.mono hT.size)); go_simp; (try with_reducible rfl)
          try simp only [Act.put, s_put, s_0, s_1]
          refine wpAnyH_take (i := 10) (oi := ⟨some 107, .binOp BinOp.eql 3 (.tmp 106) (.const (Value.int IntKind.i64 16)) 3, 4, _, _, _⟩) (v := ?v10q16same) rfl (by kernel_rfl) (by kernel_rfl) (by kernel_rfl) (fun _ _ _ h => h) (Or.inl ⟨by rfl, ?hy10q16same⟩) hHeld ?rest10q16same
          case hy10q16same => intro w9 hSw; go_simp; (try with_reducible rfl)
          try simp only [Act.put, s_put, s_0, s_1]
          refine wpAnyH_take (i := 11) (oi := ⟨some 108, .move (.tmp 107), 4, _, _, _⟩) (v := ?v11q16same) rfl (by kernel_rfl) (by kernel_rfl) (by kernel_rfl) (fun _ _ _ h => h) (Or.inl ⟨by rfl, ?hy11q16same⟩) hHeld ?rest11q16same
          case hy11q16same => intro w9 hSw; go_simp; (try with_reducible rfl)
          try simp only [Act.put, s_put, s_0, s_1]
          refine wpAnyH_take (i := 12) (oi := ⟨some 109, .fieldAddr 51 (.tmp 1) 0, 0, _, _, _⟩) (v := undef) rfl (by kernel_rfl) (by kernel_rfl) (by kernel_rfl) (fun _ _ _ h => h) (Or.inr ⟨by rfl, rfl⟩) hHeld ?rest12q16same
          try simp only [Act.put, s_put, s_0, s_1]
          refine wpAnyH_take (i := 13) (oi := ⟨some 110, .load 3 (.tmp 109), 3, _, _, _⟩) (v := undef) rfl (by kernel_rfl) (by kernel_rfl) (by kernel_rfl) (fun _ _ _ h => h) (Or.inr ⟨by rfl, rfl⟩) hHeld ?rest13q16same
          try simp only [Act.put, s_put, s_0, s_1]
          refine wpAnyH_take (i := 14) (oi := ⟨some 111, .binOp BinOp.eql 3 (.tmp 110) (.const (Value.int IntKind.i64 17)) 3, 4, _, _, _⟩) (v := undef) rfl (by kernel_rfl) (by kernel_rfl) (by kernel_rfl) (fun _ _ _ h => h) (Or.inr ⟨by rfl, rfl⟩) hHeld ?rest14q16same
          try simp only [Act.put, s_put, s_0, s_1]
          refine wpAnyH_take (i := 15) (oi := ⟨some 112, .pick (.tmp 108) (.const (Value.bool true)) (.tmp 111), 4, _, _, _⟩) (v := ?v15q16same) rfl (by kernel_rfl) (by kernel_rfl) (by kernel_rfl) (fun _ _ _ h => h) (Or.inl ⟨by rfl, ?hy15q16same⟩) hHeld ?rest15q16same
          case hy15q16same => intro w9 hSw; go_simp; (try with_reducible rfl)
          try simp only [Act.put, s_put, s_0, s_1]
          refine wpAnyH_take (i := 16) (oi := ⟨some 113, .move (.tmp 112), 4, _, _, _⟩) (v := ?v16q16same) rfl (by kernel_rfl) (by kernel_rfl) (by kernel_rfl) (fun _ _ _ h => h) (Or.inl ⟨by rfl, ?hy16q16same⟩) hHeld ?rest16q16same
          case hy16q16same => intro w9 hSw; go_simp; (try with_reducible rfl)
          try simp only [Act.put, s_put, s_0, s_1]
          refine wpAnyH_take (i := 17) (oi := ⟨some 114, .fieldAddr 51 (.tmp 1) 4, 0, _, _, _⟩) (v := ?v17q16same) rfl (by kernel_rfl) (by kernel_rfl) (by kernel_rfl) (fun _ _ _ h => h) (Or.inl ⟨by rfl, ?hy17q16same⟩) hHeld ?rest17q16same
          case hy17q16same => intro w9 hSw; go_simp; (try with_reducible rfl)
          try simp only [Act.put, s_put, s_0, s_1]
          refine wpAnyH_take (i := 18) (oi := ⟨some 115, .load 25 (.tmp 114), 25, _, _, _⟩) (v := ?v18q16same) rfl (by kernel_rfl) (by kernel_rfl) (by kernel_rfl) (fun _ _ _ h => h) (Or.inl ⟨by rfl, ?hy18q16same⟩) hHeld ?rest18q16same
          case hy18q16same => intro w9 hSw; have cc := cell_later C6.out (hT.trans (hSw.mono hT.size)); go_simp; (try with_reducible rfl)
          try simp only [Act.put, s_put, s_0, s_1]
          refine wpAnyH_take (i := 19) (oi := ⟨some 116, .move (.tmp 4), 3, _, _, _⟩) (v := ?v19q16same) rfl (by kernel_rfl) (by kernel_rfl) (by kernel_rfl) (fun _ _ _ h => h) (Or.inl ⟨by rfl, ?hy19q16same⟩) hHeld ?rest19q16same
          case hy19q16same => intro w9 hSw; go_simp; (try with_reducible rfl)
          try simp only [Act.put, s_put, s_0, s_1]
          refine wpAnyH_take (i := 20) (oi := ⟨some 117, .indexAddr 25 (.tmp 115) (.tmp 116), 0, _, _, _⟩) (v := ?v20q16same) rfl (by kernel_rfl) (by kernel_rfl) (by kernel_rfl) (fun _ _ _ h => h) (Or.inl ⟨by rfl, ?hy20q16same⟩) hHeld ?rest20q16same
          case hy20q16same => intro w9 hSw; go_simp; (try with_reducible rfl)
          try simp only [Act.put, s_put, s_0, s_1]
          refine wpAnyH_take (i := 21) (oi := ⟨some 118, .fieldAddr 51 (.tmp 117) 0, 0, _, _, _⟩) (v := ?v21q16same) rfl (by kernel_rfl) (by kernel_rfl) (by kernel_rfl) (fun _ _ _ h => h) (Or.inl ⟨by rfl, ?hy21q16same⟩) hHeld ?rest21q16same
          case hy21q16same => intro w9 hSw; go_simp; (try with_reducible rfl)
          try simp only [Act.put, s_put, s_0, s_1]
          refine wpAnyH_take (i := 22) (oi := ⟨some 119, .load 3 (.tmp 118), 3, _, _, _⟩) (v := ?v22q16same) rfl (by kernel_rfl) (by kernel_rfl) (by kernel_rfl) (fun _ _ _ h => h) (Or.inl ⟨by rfl, ?hy22q16same⟩) hHeld ?rest22q16same
          case hy22q16same => intro w9 hSw; obtain ⟨d0, d1, d2, d3, d4, d5, d6⟩ := N1.out.later (hT.trans (hSw.mono hT.size)); go_simp; (try with_reducible rfl)
          try simp only [Act.put, s_put, s_0, s_1]
          refine wpAnyH_take (i := 23) (oi := ⟨some 120, .fieldAddr 51 (.tmp 1) 0, 0, _, _, _⟩) (v := ?v23q16same) rfl (by kernel_rfl) (by kernel_rfl) (by kernel_rfl) (fun _ _ _ h => h) (Or.inl ⟨by rfl, ?hy23q16same⟩) hHeld ?rest23q16same
          case hy23q16same => intro w9 hSw; go_simp; (try with_reducible rfl)
          try simp only [Act.put, s_put, s_0, s_1]
          refine wpAnyH_take (i := 24) (oi := ⟨some 121, .load 3 (.tmp 120), 3, _, _, _⟩) (v := ?v24q16same) rfl (by kernel_rfl) (by kernel_rfl) (by kernel_rfl) (fun _ _ _ h => h) (Or.inl ⟨by rfl, ?hy24q16same⟩) hHeld ?rest24q16same
          case hy24q16same => intro w9 hSw; have cc := cell_later C0.out (hT.trans (hSw.mono hT.size)); go_simp; (try with_reducible rfl)
          try simp only [Act.put, s_put, s_0, s_1]
          refine wpAnyH_take (i := 25) (oi := ⟨some 122, .binOp BinOp.eql 3 (.tmp 119) (.tmp 121) 3, 4, _, _, _⟩) (v := ?v25q16same) rfl (by kernel_rfl) (by kernel_rfl) (by kernel_rfl) (fun _ _ _ h => h) (Or.inl ⟨by rfl, ?hy25q16same⟩) hHeld ?rest25q16same
          case hy25q16same => intro w9 hSw; go_simp; (try with_reducible rfl)
          try simp only [Act.put, s_put, s_0, s_1]
          refine wpAnyH_take (i := 26) (oi := ⟨some 123, .pick (.tmp 113) (.tmp 122) (.const (Value.bool false)), 4, _, _, _⟩) (v := ?v26q16same) rfl (by kernel_rfl) (by kernel_rfl) (by kernel_rfl) (fun _ _ _ h => h) (Or.inl ⟨by rfl, ?hy26q16same⟩) hHeld ?rest26q16same
          case hy26q16same => intro w9 hSw; go_simp; (try with_reducible rfl)
          try simp only [Act.put, s_put, s_0, s_1]
          refine wpAnyH_take (i := 27) (oi := ⟨some 124, .pick (.tmp 104) (.const (Value.bool true)) (.tmp 123), 4, _, _, _⟩) (v := ?v27q16same) rfl (by kernel_rfl) (by kernel_rfl) (by kernel_rfl) (fun _ _ _ h => h) (Or.inl ⟨by rfl, ?hy27q16same⟩) hHeld ?rest27q16same
          case hy27q16same => intro w9 hSw; go_simp; (try with_reducible rfl)
          try simp only [Act.put, s_put, s_0, s_1]
          refine wpAnyH_done (by kernel_rfl) ?_ _
          refine NoPanic.normal ?_
          have hB3 := hB.trans (hT.mono hB.size)
          go_wp2
          try rw [Exit.noGoto_ret]
          go_ret
          refine ⟨false, rfl, ⟨fun h => (by cases h), fun h => ?_⟩, HB.out.trans (hB3.mono (by omega))⟩
          exact absurd (HE.out.trans HKK.out.symm) ((((nodeR_many x (by have := HKK.out; omega)).1 ((treeR_eq x).1 h).1).1.2) i HK.out)
        · have he' : ((x.c i).k == 16) = false := by simpa using he
          have HE : Hid ((x.c i).k ≠ 16) := he
          clear he
          go_wp2_with fail
          refine wp_region_noPanic ?_
          refine wp_region_held_drew (S := fun w' => Below wr.heap.size wr w') (by kernel_rfl) ((Below.refl _ _).drew) (fun hHeld => ?_)
          have hT : Below wr.heap.size wr wr.drew := hHeld
          obtain ⟨d, hd⟩ : ∃ d, d = wr.drew := ⟨_, rfl⟩
          rw [← hd] at hHeld hT ⊢
          clear hd
          refine wpAnyH_take (i := 0) (oi := ⟨some 97, .fieldAddr 51 (.tmp 1) 4, 0, _, _, _⟩) (v := ?v0q16other) rfl (by kernel_rfl) (by kernel_rfl) (by kernel_rfl) (fun _ _ _ h => h) (Or.inl ⟨by rfl, ?hy0q16other⟩) hHeld ?rest0q16other
          case hy0q16other => intro w9 hSw; go_simp; (try with_reducible rfl)
          try simp only [Act.put, s_put, s_0, s_1]
          refine wpAnyH_take (i := 1) (oi := ⟨some 98, .load 25 (.tmp 97), 25, _, _, _⟩) (v := ?v1q16other) rfl (by kernel_rfl) (by kernel_rfl) (by kernel_rfl) (fun _ _ _ h => h) (Or.inl ⟨by rfl, ?hy1q16other⟩) hHeld ?rest1q16other
          case hy1q16other => intro w9 hSw; have cc := cell_later C6.out hSw; go_simp; (try with_reducible rfl)
          try simp only [Act.put, s_put, s_0, s_1]
          refine wpAnyH_take (i := 2) (oi := ⟨some 99, .move (.tmp 4), 3, _, _, _⟩) (v := ?v2q16other) rfl (by kernel_rfl) (by kernel_rfl) (by kernel_rfl) (fun _ _ _ h => h) (Or.inl ⟨by rfl, ?hy2q16other⟩) hHeld ?rest2q16other
          case hy2q16other => intro w9 hSw; go_simp; (try with_reducible rfl)
          try simp only [Act.put, s_put, s_0, s_1]
          refine wpAnyH_take (i := 3) (oi := ⟨some 100, .indexAddr 25 (.tmp 98) (.tmp 99), 0, _, _, _⟩) (v := ?v3q16other) rfl (by kernel_rfl) (by kernel_rfl) (by kernel_rfl) (fun _ _ _ h => h) (Or.inl ⟨by rfl, ?hy3q16other⟩) hHeld ?rest3q16other
          case hy3q16other => intro w9 hSw; go_simp; (try with_reducible rfl)
          try simp only [Act.put, s_put, s_0, s_1]
          refine wpAnyH_take (i := 4) (oi := ⟨some 101, .load 51 (.tmp 100), 51, _, _, _⟩) (v := ?v4q16other) rfl (by kernel_rfl) (by kernel_rfl) (by kernel_rfl) (fun _ _ _ h => h) (Or.inl ⟨by rfl, ?hy4q16other⟩) hHeld ?rest4q16other
          case hy4q16other => intro w9 hSw; obtain ⟨d0, d1, d2, d3, d4, d5, d6⟩ := N1.out.later hSw; go_simp; (try with_reducible rfl)
          try simp only [Act.put, s_put, s_0, s_1]
          refine wpAnyH_ready (rs := [5]) (by kernel_rfl) (by simp) ?_
          refine AllReadyH.cons (o := ⟨some 102, .call { callee := .value (.func 85), args := #[.tmp 101], argTypes := #[51] }, 4, _, _, _⟩) rfl (fun K hK => ?_) AllReadyH.nil
          go_simp
          refine (hc.out _ hHeld).mono ?_
          rintro e x5 ⟨rfl, hN5⟩
          go_wp2_with fail
          have hT5 : Below wr.heap.size wr x5 := hT.trans (hN5.mono hT.size)
          refine hK.out _ _ (hHeld.trans (hN5.mono hHeld.size)) (fun _ => held_up (S' := fun w' => Below x5.heap.size x5 w') (fun w' h' => (hHeld.trans (hN5.mono hHeld.size)).trans (h'.mono (Nat.le_trans hHeld.size hN5.size))) _ _ _ _ ?_)
          clear hK K hHeld hT
          have hT : Below wr.heap.size wr x5 := hT5
          have hHeld : Below x5.heap.size x5 x5 := Below.refl _ _
          clear hT5 hN5
          try simp only [Act.put, s_put, s_0, s_1]
          refine wpAnyH_take (i := 6) (oi := ⟨some 103, .unOp UnOp.not 4 (.tmp 102), 4, _, _, _⟩) (v := ?v6q16other) rfl (by kernel_rfl) (by kernel_rfl) (by kernel_rfl) (fun _ _ _ h => h) (Or.inl ⟨by rfl, ?hy6q16other⟩) hHeld ?rest6q16other
          case hy6q16other => intro w9 hSw; go_simp; (try with_reducible rfl)
          try simp only [Act.put, s_put, s_0, s_1]
          refine wpAnyH_take (i := 7) (oi := ⟨some 104, .move (.tmp 103), 4, _, _, _⟩) (v := ?v7q16other) rfl (by kernel_rfl) (by kernel_rfl) (by kernel_rfl) (fun _ _ _ h => h) (Or.inl ⟨by rfl, ?hy7q16other⟩) hHeld ?rest7q16other
          case hy7q16other => intro w9 hSw; go_simp; (try with_reducible rfl)
          try simp only [Act.put, s_put, s_0, s_1]
          refine wpAnyH_take (i := 8) (oi := ⟨some 105, .fieldAddr 51 (.tmp 1) 0, 0, _, _, _⟩) (v := ?v8q16other) rfl (by kernel_rfl) (by kernel_rfl) (by kernel_rfl) (fun _ _ _ h => h) (Or.inl ⟨by rfl, ?hy8q16other⟩) hHeld ?rest8q16other
          case hy8q16other => intro w9 hSw; go_simp; (try with_reducible rfl)
          try simp only [Act.put, s_put, s_0, s_1]
          refine wpAnyH_take (i := 9) (oi := ⟨some 106, .load 3 (.tmp 105), 3, _, _, _⟩) (v := ?v9q16other) rfl (by kernel_rfl) (by kernel_rfl) (by kernel_rfl) (fun _ _ _ h => h) (Or.inl ⟨by rfl, ?hy9q16other⟩) hHeld ?rest9q16other
          case hy9q16other => intro w9 hSw; have cc := cell_later C0.out (hT.trans (hSw.mono hT.size)); go_simp; (try with_reducible rfl)
          try simp only [Act.put, s_put, s_0, s_1]
          refine wpAnyH_take (i := 10) (oi := ⟨some 107, .binOp BinOp.eql 3 (.tmp 106) (.const (Value.int IntKind.i64 16)) 3, 4, _, _, _⟩) (v := ?v10q16other) rfl (by kernel_rfl) (by kernel_rfl) (by kernel_rfl) (fun _ _ _ h => h) (Or.inl ⟨by rfl, ?hy10q16other⟩) hHeld ?rest10q16other
          case hy10q16other => intro w9 hSw; go_simp; (try with_reducible rfl)
          try simp only [Act.put, s_put, s_0, s_1]
          refine wpAnyH_take (i := 11) (oi := ⟨some 108, .move (.tmp 107), 4, _, _, _⟩) (v := ?v11q16other) rfl (by kernel_rfl) (by kernel_rfl) (by kernel_rfl) (fun _ _ _ h => h) (Or.inl ⟨by rfl, ?hy11q16other⟩) hHeld ?rest11q16other
          case hy11q16other => intro w9 hSw; go_simp; (try with_reducible rfl)
          try simp only [Act.put, s_put, s_0, s_1]
          refine wpAnyH_take (i := 12) (oi := ⟨some 109, .fieldAddr 51 (.tmp 1) 0, 0, _, _, _⟩) (v := undef) rfl (by kernel_rfl) (by kernel_rfl) (by kernel_rfl) (fun _ _ _ h => h) (Or.inr ⟨by rfl, rfl⟩) hHeld ?rest12q16other
          try simp only [Act.put, s_put, s_0, s_1]
          refine wpAnyH_take (i := 13) (oi := ⟨some 110, .load 3 (.tmp 109), 3, _, _, _⟩) (v := undef) rfl (by kernel_rfl) (by kernel_rfl) (by kernel_rfl) (fun _ _ _ h => h) (Or.inr ⟨by rfl, rfl⟩) hHeld ?rest13q16other
          try simp only [Act.put, s_put, s_0, s_1]
          refine wpAnyH_take (i := 14) (oi := ⟨some 111, .binOp BinOp.eql 3 (.tmp 110) (.const (Value.int IntKind.i64 17)) 3, 4, _, _, _⟩) (v := undef) rfl (by kernel_rfl) (by kernel_rfl) (by kernel_rfl) (fun _ _ _ h => h) (Or.inr ⟨by rfl, rfl⟩) hHeld ?rest14q16other
          try simp only [Act.put, s_put, s_0, s_1]
          refine wpAnyH_take (i := 15) (oi := ⟨some 112, .pick (.tmp 108) (.const (Value.bool true)) (.tmp 111), 4, _, _, _⟩) (v := ?v15q16other) rfl (by kernel_rfl) (by kernel_rfl) (by kernel_rfl) (fun _ _ _ h => h) (Or.inl ⟨by rfl, ?hy15q16other⟩) hHeld ?rest15q16other
          case hy15q16other => intro w9 hSw; go_simp; (try with_reducible rfl)
          try simp only [Act.put, s_put, s_0, s_1]
          refine wpAnyH_take (i := 16) (oi := ⟨some 113, .move (.tmp 112), 4, _, _, _⟩) (v := ?v16q16other) rfl (by kernel_rfl) (by kernel_rfl) (by kernel_rfl) (fun _ _ _ h => h) (Or.inl ⟨by rfl, ?hy16q16other⟩) hHeld ?rest16q16other
          case hy16q16other => intro w9 hSw; go_simp; (try with_reducible rfl)
          try simp only [Act.put, s_put, s_0, s_1]
          refine wpAnyH_take (i := 17) (oi := ⟨some 114, .fieldAddr 51 (.tmp 1) 4, 0, _, _, _⟩) (v := ?v17q16other) rfl (by kernel_rfl) (by kernel_rfl) (by kernel_rfl) (fun _ _ _ h => h) (Or.inl ⟨by rfl, ?hy17q16other⟩) hHeld ?rest17q16other
          case hy17q16other => intro w9 hSw; go_simp; (try with_reducible rfl)
          try simp only [Act.put, s_put, s_0, s_1]
          refine wpAnyH_take (i := 18) (oi := ⟨some 115, .load 25 (.tmp 114), 25, _, _, _⟩) (v := ?v18q16other) rfl (by kernel_rfl) (by kernel_rfl) (by kernel_rfl) (fun _ _ _ h => h) (Or.inl ⟨by rfl, ?hy18q16other⟩) hHeld ?rest18q16other
          case hy18q16other => intro w9 hSw; have cc := cell_later C6.out (hT.trans (hSw.mono hT.size)); go_simp; (try with_reducible rfl)
          try simp only [Act.put, s_put, s_0, s_1]
          refine wpAnyH_take (i := 19) (oi := ⟨some 116, .move (.tmp 4), 3, _, _, _⟩) (v := ?v19q16other) rfl (by kernel_rfl) (by kernel_rfl) (by kernel_rfl) (fun _ _ _ h => h) (Or.inl ⟨by rfl, ?hy19q16other⟩) hHeld ?rest19q16other
          case hy19q16other => intro w9 hSw; go_simp; (try with_reducible rfl)
          try simp only [Act.put, s_put, s_0, s_1]
          refine wpAnyH_take (i := 20) (oi := ⟨some 117, .indexAddr 25 (.tmp 115) (.tmp 116), 0, _, _, _⟩) (v := ?v20q16other) rfl (by kernel_rfl) (by kernel_rfl) (by kernel_rfl) (fun _ _ _ h => h) (Or.inl ⟨by rfl, ?hy20q16other⟩) hHeld ?rest20q16other
          case hy20q16other => intro w9 hSw; go_simp; (try with_reducible rfl)
          try simp only [Act.put, s_put, s_0, s_1]
          refine wpAnyH_take (i := 21) (oi := ⟨some 118, .fieldAddr 51 (.tmp 117) 0, 0, _, _, _⟩) (v := ?v21q16other) rfl (by kernel_rfl) (by kernel_rfl) (by kernel_rfl) (fun _ _ _ h => h) (Or.inl ⟨by rfl, ?hy21q16other⟩) hHeld ?rest21q16other
          case hy21q16other => intro w9 hSw; go_simp; (try with_reducible rfl)
          try simp only [Act.put, s_put, s_0, s_1]
          refine wpAnyH_take (i := 22) (oi := ⟨some 119, .load 3 (.tmp 118), 3, _, _, _⟩) (v := ?v22q16other) rfl (by kernel_rfl) (by kernel_rfl) (by kernel_rfl) (fun _ _ _ h => h) (Or.inl ⟨by rfl, ?hy22q16other⟩) hHeld ?rest22q16other
          case hy22q16other => intro w9 hSw; obtain ⟨d0, d1, d2, d3, d4, d5, d6⟩ := N1.out.later (hT.trans (hSw.mono hT.size)); go_simp; (try with_reducible rfl)
          try simp only [Act.put, s_put, s_0, s_1]
          refine wpAnyH_take (i := 23) (oi := ⟨some 120, .fieldAddr 51 (.tmp 1) 0, 0, _, _, _⟩) (v := ?v23q16other) rfl (by kernel_rfl) (by kernel_rfl) (by kernel_rfl) (fun _ _ _ h => h) (Or.inl ⟨by rfl, ?hy23q16other⟩) hHeld ?rest23q16other
          case hy23q16other => intro w9 hSw; go_simp; (try with_reducible rfl)
          try simp only [Act.put, s_put, s_0, s_1]
          refine wpAnyH_take (i := 24) (oi := ⟨some 121, .load 3 (.tmp 120), 3, _, _, _⟩) (v := ?v24q16other) rfl (by kernel_rfl) (by kernel_rfl) (by kernel_rfl) (fun _ _ _ h => h) (Or.inl ⟨by rfl, ?hy24q16other⟩) hHeld ?rest24q16other
          case hy24q16other => intro w9 hSw; have cc := cell_later C0.out (hT.trans (hSw.mono hT.size)); go_simp; (try with_reducible rfl)
          try simp only [Act.put, s_put, s_0, s_1]
          refine wpAnyH_take (i := 25) (oi := ⟨some 122, .binOp BinOp.eql 3 (.tmp 119) (.tmp 121) 3, 4, _, _, _⟩) (v := ?v25q16other) rfl (by kernel_rfl) (by kernel_rfl) (by kernel_rfl) (fun _ _ _ h => h) (Or.inl ⟨by rfl, ?hy25q16other⟩) hHeld ?rest25q16other
          case hy25q16other => intro w9 hSw; go_simp; (try with_reducible rfl)
          try simp only [Act.put, s_put, s_0, s_1]
          refine wpAnyH_take (i := 26) (oi := ⟨some 123, .pick (.tmp 113) (.tmp 122) (.const (Value.bool false)), 4, _, _, _⟩) (v := ?v26q16other) rfl (by kernel_rfl) (by kernel_rfl) (by kernel_rfl) (fun _ _ _ h => h) (Or.inl ⟨by rfl, ?hy26q16other⟩) hHeld ?rest26q16other
          case hy26q16other => intro w9 hSw; go_simp; (try with_reducible rfl)
          try simp only [Act.put, s_put, s_0, s_1]
          refine wpAnyH_take (i := 27) (oi := ⟨some 124, .pick (.tmp 104) (.const (Value.bool true)) (.tmp 123), 4, _, _, _⟩) (v := ?v27q16other) rfl (by kernel_rfl) (by kernel_rfl) (by kernel_rfl) (fun _ _ _ h => h) (Or.inl ⟨by rfl, ?hy27q16other⟩) hHeld ?rest27q16other
          case hy27q16other => intro w9 hSw; go_simp; (try with_reducible rfl)
          try simp only [Act.put, s_put, s_0, s_1]
          refine wpAnyH_done (by kernel_rfl) ?_ _
          refine NoPanic.normal ?_
          have hB3 := hB.trans (hT.mono hB.size)
          go_wp2
          go_roundw
          case rel => exact ⟨i + 1, HK.out, by go_num, fun j hj => by by_cases e : j = i; (· rw [e]; exact ⟨HT.out, HE.out⟩); exact HD.out j (by omega), hB3⟩
          case measure => have := HK.out; simp [intOf]; omega
      · have hc : Hid (∀ d, Below wr.heap.size wr d → Calls Tryz.prog 85 #[(x.c i).val] d fun e w' => e = .returned (.bool false) ∧ Below d.heap.size d w') := fun d h => (hcc.out d h).mono fun e w' hh => by
          obtain ⟨r, h1, h2, h3⟩ := hh
          refine ⟨?_, h3⟩
          cases r with
          | true => exact absurd (h2.1 rfl) ht
          | false => exact h1
        have HT : Hid (¬ TreeR (x.c i)) := ht
        clear ht hcc
        go_wp2_with fail
        refine wp_region_noPanic ?_
        refine wp_region_held_drew (S := fun w' => Below wr.heap.size wr w') (by kernel_rfl) ((Below.refl _ _).drew) (fun hHeld => ?_)
        have hT : Below wr.heap.size wr wr.drew := hHeld
        obtain ⟨d, hd⟩ : ∃ d, d = wr.drew := ⟨_, rfl⟩
        rw [← hd] at hHeld hT ⊢
        clear hd
        refine wpAnyH_take (i := 0) (oi := ⟨some 97, .fieldAddr 51 (.tmp 1) 4, 0, _, _, _⟩) (v := ?v0q16no) rfl (by kernel_rfl) (by kernel_rfl) (by kernel_rfl) (fun _ _ _ h => h) (Or.inl ⟨by rfl, ?hy0q16no⟩) hHeld ?rest0q16no
        case hy0q16no => intro w9 hSw; go_simp; (try with_reducible rfl)
        try simp only [Act.put, s_put, s_0, s_1]
        refine wpAnyH_take (i := 1) (oi := ⟨some 98, .load 25 (.tmp 97), 25, _, _, _⟩) (v := ?v1q16no) rfl (by kernel_rfl) (by kernel_rfl) (by kernel_rfl) (fun _ _ _ h => h) (Or.inl ⟨by rfl, ?hy1q16no⟩) hHeld ?rest1q16no
        case hy1q16no => intro w9 hSw; have cc := cell_later C6.out hSw; go_simp; (try with_reducible rfl)
        try simp only [Act.put, s_put, s_0, s_1]
        refine wpAnyH_take (i := 2) (oi := ⟨some 99, .move (.tmp 4), 3, _, _, _⟩) (v := ?v2q16no) rfl (by kernel_rfl) (by kernel_rfl) (by kernel_rfl) (fun _ _ _ h => h) (Or.inl ⟨by rfl, ?hy2q16no⟩) hHeld ?rest2q16no
        case hy2q16no => intro w9 hSw; go_simp; (try with_reducible rfl)
        try simp only [Act.put, s_put, s_0, s_1]
        refine wpAnyH_take (i := 3) (oi := ⟨some 100, .indexAddr 25 (.tmp 98) (.tmp 99), 0, _, _, _⟩) (v := ?v3q16no) rfl (by kernel_rfl) (by kernel_rfl) (by kernel_rfl) (fun _ _ _ h => h) (Or.inl ⟨by rfl, ?hy3q16no⟩) hHeld ?rest3q16no
        case hy3q16no => intro w9 hSw; go_simp; (try with_reducible rfl)
        try simp only [Act.put, s_put, s_0, s_1]
        refine wpAnyH_take (i := 4) (oi := ⟨some 101, .load 51 (.tmp 100), 51, _, _, _⟩) (v := ?v4q16no) rfl (by kernel_rfl) (by kernel_rfl) (by kernel_rfl) (fun _ _ _ h => h) (Or.inl ⟨by rfl, ?hy4q16no⟩) hHeld ?rest4q16no
        case hy4q16no => intro w9 hSw; obtain ⟨d0, d1, d2, d3, d4, d5, d6⟩ := N1.out.later hSw; go_simp; (try with_reducible rfl)
        try simp only [Act.put, s_put, s_0, s_1]
        refine wpAnyH_ready (rs := [5]) (by kernel_rfl) (by simp) ?_
        refine AllReadyH.cons (o := ⟨some 102, .call { callee := .value (.func 85), args := #[.tmp 101], argTypes := #[51] }, 4, _, _, _⟩) rfl (fun K hK => ?_) AllReadyH.nil
        go_simp
        refine (hc.out _ hHeld).mono ?_
        rintro e x5 ⟨rfl, hN5⟩
        go_wp2_with fail
        have hT5 : Below wr.heap.size wr x5 := hT.trans (hN5.mono hT.size)
        refine hK.out _ _ (hHeld.trans (hN5.mono hHeld.size)) (fun _ => held_up (S' := fun w' => Below x5.heap.size x5 w') (fun w' h' => (hHeld.trans (hN5.mono hHeld.size)).trans (h'.mono (Nat.le_trans hHeld.size hN5.size))) _ _ _ _ ?_)
        clear hK K hHeld hT
        have hT : Below wr.heap.size wr x5 := hT5
        have hHeld : Below x5.heap.size x5 x5 := Below.refl _ _
        clear hT5 hN5
        try simp only [Act.put, s_put, s_0, s_1]
        refine wpAnyH_take (i := 6) (oi := ⟨some 103, .unOp UnOp.not 4 (.tmp 102), 4, _, _, _⟩) (v := ?v6q16no) rfl (by kernel_rfl) (by kernel_rfl) (by kernel_rfl) (fun _ _ _ h => h) (Or.inl ⟨by rfl, ?hy6q16no⟩) hHeld ?rest6q16no
        case hy6q16no => intro w9 hSw; go_simp; (try with_reducible rfl)
        try simp only [Act.put, s_put, s_0, s_1]
        refine wpAnyH_take (i := 7) (oi := ⟨some 104, .move (.tmp 103), 4, _, _, _⟩) (v := ?v7q16no) rfl (by kernel_rfl) (by kernel_rfl) (by kernel_rfl) (fun _ _ _ h => h) (Or.inl ⟨by rfl, ?hy7q16no⟩) hHeld ?rest7q16no
        case hy7q16no => intro w9 hSw; go_simp; (try with_reducible rfl)
        try simp only [Act.put, s_put, s_0, s_1]
        refine wpAnyH_take (i := 8) (oi := ⟨some 105, .fieldAddr 51 (.tmp 1) 0, 0, _, _, _⟩) (v := undef) rfl (by kernel_rfl) (by kernel_rfl) (by kernel_rfl) (fun _ _ _ h => h) (Or.inr ⟨by rfl, rfl⟩) hHeld ?rest8q16no
        try simp only [Act.put, s_put, s_0, s_1]
        refine wpAnyH_take (i := 9) (oi := ⟨some 106, .load 3 (.tmp 105), 3, _, _, _⟩) (v := undef) rfl (by kernel_rfl) (by kernel_rfl) (by kernel_rfl) (fun _ _ _ h => h) (Or.inr ⟨by rfl, rfl⟩) hHeld ?rest9q16no
        try simp only [Act.put, s_put, s_0, s_1]
        refine wpAnyH_take (i := 10) (oi := ⟨some 107, .binOp BinOp.eql 3 (.tmp 106) (.const (Value.int IntKind.i64 16)) 3, 4, _, _, _⟩) (v := undef) rfl (by kernel_rfl) (by kernel_rfl) (by kernel_rfl) (fun _ _ _ h => h) (Or.inr ⟨by rfl, rfl⟩) hHeld ?rest10q16no
        try simp only [Act.put, s_put, s_0, s_1]
        refine wpAnyH_take (i := 11) (oi := ⟨some 108, .move (.tmp 107), 4, _, _, _⟩) (v := undef) rfl (by kernel_rfl) (by kernel_rfl) (by kernel_rfl) (fun _ _ _ h => h) (Or.inr ⟨by rfl, rfl⟩) hHeld ?rest11q16no
        try simp only [Act.put, s_put, s_0, s_1]
        refine wpAnyH_take (i := 12) (oi := ⟨some 109, .fieldAddr 51 (.tmp 1) 0, 0, _, _, _⟩) (v := undef) rfl (by kernel_rfl) (by kernel_rfl) (by kernel_rfl) (fun _ _ _ h => h) (Or.inr ⟨by rfl, rfl⟩) hHeld ?rest12q16no
        try simp only [Act.put, s_put, s_0, s_1]
        refine wpAnyH_take (i := 13) (oi := ⟨some 110, .load 3 (.tmp 109), 3, _, _, _⟩) (v := undef) rfl (by kernel_rfl) (by kernel_rfl) (by kernel_rfl) (fun _ _ _ h => h) (Or.inr ⟨by rfl, rfl⟩) hHeld ?rest13q16no
        try simp only [Act.put, s_put, s_0, s_1]
        refine wpAnyH_take (i := 14) (oi := ⟨some 111, .binOp BinOp.eql 3 (.tmp 110) (.const (Value.int IntKind.i64 17)) 3, 4, _, _, _⟩) (v := undef) rfl (by kernel_rfl) (by kernel_rfl) (by kernel_rfl) (fun _ _ _ h => h) (Or.inr ⟨by rfl, rfl⟩) hHeld ?rest14q16no
        try simp only [Act.put, s_put, s_0, s_1]
        refine wpAnyH_take (i := 15) (oi := ⟨some 112, .pick (.tmp 108) (.const (Value.bool true)) (.tmp 111), 4, _, _, _⟩) (v := undef) rfl (by kernel_rfl) (by kernel_rfl) (by kernel_rfl) (fun _ _ _ h => h) (Or.inr ⟨by rfl, rfl⟩) hHeld ?rest15q16no
        try simp only [Act.put, s_put, s_0, s_1]
        refine wpAnyH_take (i := 16) (oi := ⟨some 113, .move (.tmp 112), 4, _, _, _⟩) (v := undef) rfl (by kernel_rfl) (by kernel_rfl) (by kernel_rfl) (fun _ _ _ h => h) (Or.inr ⟨by rfl, rfl⟩) hHeld ?rest16q16no
        try simp only [Act.put, s_put, s_0, s_1]
        refine wpAnyH_take (i := 17) (oi := ⟨some 114, .fieldAddr 51 (.tmp 1) 4, 0, _, _, _⟩) (v := undef) rfl (by kernel_rfl) (by kernel_rfl) (by kernel_rfl) (fun _ _ _ h => h) (Or.inr ⟨by rfl, rfl⟩) hHeld ?rest17q16no
        try simp only [Act.put, s_put, s_0, s_1]
        refine wpAnyH_take (i := 18) (oi := ⟨some 115, .load 25 (.tmp 114), 25, _, _, _⟩) (v := undef) rfl (by kernel_rfl) (by kernel_rfl) (by kernel_rfl) (fun _ _ _ h => h) (Or.inr ⟨by rfl, rfl⟩) hHeld ?rest18q16no
        try simp only [Act.put, s_put, s_0, s_1]
        refine wpAnyH_take (i := 19) (oi := ⟨some 116, .move (.tmp 4), 3, _, _, _⟩) (v := undef) rfl (by kernel_rfl) (by kernel_rfl) (by kernel_rfl) (fun _ _ _ h => h) (Or.inr ⟨by rfl, rfl⟩) hHeld ?rest19q16no
        try simp only [Act.put, s_put, s_0, s_1]
        refine wpAnyH_take (i := 20) (oi := ⟨some 117, .indexAddr 25 (.tmp 115) (.tmp 116), 0, _, _, _⟩) (v := undef) rfl (by kernel_rfl) (by kernel_rfl) (by kernel_rfl) (fun _ _ _ h => h) (Or.inr ⟨by rfl, rfl⟩) hHeld ?rest20q16no
        try simp only [Act.put, s_put, s_0, s_1]
        refine wpAnyH_take (i := 21) (oi := ⟨some 118, .fieldAddr 51 (.tmp 117) 0, 0, _, _, _⟩) (v := undef) rfl (by kernel_rfl) (by kernel_rfl) (by kernel_rfl) (fun _ _ _ h => h) (Or.inr ⟨by rfl, rfl⟩) hHeld ?rest21q16no
        try simp only [Act.put, s_put, s_0, s_1]
        refine wpAnyH_take (i := 22) (oi := ⟨some 119, .load 3 (.tmp 118), 3, _, _, _⟩) (v := undef) rfl (by kernel_rfl) (by kernel_rfl) (by kernel_rfl) (fun _ _ _ h => h) (Or.inr ⟨by rfl, rfl⟩) hHeld ?rest22q16no
        try simp only [Act.put, s_put, s_0, s_1]
        refine wpAnyH_take (i := 23) (oi := ⟨some 120, .fieldAddr 51 (.tmp 1) 0, 0, _, _, _⟩) (v := undef) rfl (by kernel_rfl) (by kernel_rfl) (by kernel_rfl) (fun _ _ _ h => h) (Or.inr ⟨by rfl, rfl⟩) hHeld ?rest23q16no
        try simp only [Act.put, s_put, s_0, s_1]
        refine wpAnyH_take (i := 24) (oi := ⟨some 121, .load 3 (.tmp 120), 3, _, _, _⟩) (v := undef) rfl (by kernel_rfl) (by kernel_rfl) (by kernel_rfl) (fun _ _ _ h => h) (Or.inr ⟨by rfl, rfl⟩) hHeld ?rest24q16no
        try simp only [Act.put, s_put, s_0, s_1]
        refine wpAnyH_take (i := 25) (oi := ⟨some 122, .binOp BinOp.eql 3 (.tmp 119) (.tmp 121) 3, 4, _, _, _⟩) (v := undef) rfl (by kernel_rfl) (by kernel_rfl) (by kernel_rfl) (fun _ _ _ h => h) (Or.inr ⟨by rfl, rfl⟩) hHeld ?rest25q16no
        try simp only [Act.put, s_put, s_0, s_1]
        refine wpAnyH_take (i := 26) (oi := ⟨some 123, .pick (.tmp 113) (.tmp 122) (.const (Value.bool false)), 4, _, _, _⟩) (v := undef) rfl (by kernel_rfl) (by kernel_rfl) (by kernel_rfl) (fun _ _ _ h => h) (Or.inr ⟨by rfl, rfl⟩) hHeld ?rest26q16no
        try simp only [Act.put, s_put, s_0, s_1]
        refine wpAnyH_take (i := 27) (oi := ⟨some 124, .pick (.tmp 104) (.const (Value.bool true)) (.tmp 123), 4, _, _, _⟩) (v := ?v27q16no) rfl (by kernel_rfl) (by kernel_rfl) (by kernel_rfl) (fun _ _ _ h => h) (Or.inl ⟨by rfl, ?hy27q16no⟩) hHeld ?rest27q16no
        case hy27q16no => intro w9 hSw; go_simp; (try with_reducible rfl)
        try simp only [Act.put, s_put, s_0, s_1]
        refine wpAnyH_done (by kernel_rfl) ?_ _
        refine NoPanic.normal ?_
        have hB3 := hB.trans (hT.mono hB.size)
        go_wp2
        try rw [Exit.noGoto_ret]
        go_ret
        refine ⟨false, rfl, ⟨fun h => (by cases h), fun h => ?_⟩, HB.out.trans (hB3.mono (by omega))⟩
        exact absurd (((treeR_eq x).1 h).2 i HK.out) HT.out
    · obtain rfl : i = x.n := by omega
      go_wp2
      go_ret
      exact ⟨true, rfl, ⟨fun _ => (treeR_eq x).2 ⟨HNR.out fun j hj => by have := (HD.out j hj).2; rw [HKK.out]; exact this, fun j hj => (HD.out j hj).1⟩, fun _ => rfl⟩, hw⟩
end Go.Proofs.YtfnfegcjgnbgbaaGreatDoor
