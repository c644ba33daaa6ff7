/-
  The document's right of conditions that have parts.
  The document's right and Check of conditions.
-/
import Derived.Test.YtfnfegcjgnbgbaaGreatDoorTBrief
import Derived.Test.YtfnfegcjgnbgbaaGreatDoorTExprRefRightN
import Derived.Test.YtfnfegcjgnbgbaaGreatDoorTExprRefRightPA
import Derived.Test.YtfnfegcjgnbgbaaGreatDoorTExprRefRightPB
import Derived.Test.YtfnfegcjgnbgbaaGreatDoorTExprRefRightPC
import Derived.Test.YtfnfegcjgnbgbaaGreatDoorTExprCheck
import Derived.Test.YtfnfegcjgnbgbaaGreatDoorTExprMath
import Derived.Test.YtfnfegcjgnbgbaaGreatDoorTRoundReads
namespace Go.Proofs.YtfnfegcjgnbgbaaGreatDoor
open Go.RowKit

set_option maxRecDepth 100000 in
set_option maxHeartbeats 2000000 in
theorem refR_17 (x : X) (w : World) (hX : IsX w x) (HI : Hid (∀ i, i < x.n → ∀ w, IsX w (x.c i) → Calls Tryz.prog 85 #[(x.c i).val] w fun e w' => ∃ r, e = .returned (.bool r) ∧ (r = true ↔ TreeR (x.c i)) ∧ Below w.heap.size w w')) (hk : x.k = 17) (hv : x.v = val0) (hsf : x.s = ⟨#[]⟩ ∧ x.f = ⟨#[]⟩) (hn0 : 2 ≤ x.n) :
    Calls Tryz.prog 85 #[x.val] w fun e w' => ∃ r, e = .returned (.bool r) ∧ (r = true ↔ TreeR x) ∧ Below w.heap.size w w' := by
  obtain ⟨A, hA, hB, hs, hn⟩ := one_box x w
  obtain ⟨a0, a1, a2, a3, a4, a5, a6⟩ := hn.at0
  have HB : Hid (Below w.heap.size w A) := hB
  have HN : Hid (Node A w.heap.size 0 x) := hn
  have HX : Hid (IsX w x) := hX
  have hlen := hX.len
  have HNR : Hid ((∀ i, i < x.n → (x.c i).k ≠ x.k) → NodeR x) := (fun h => ⟨fun _ => hv, fun _ => hsf, .inr (.inr (.inr (.inr ⟨by omega, hn0, h⟩)))⟩ : (∀ i, i < x.n → (x.c i).k ≠ x.k) → NodeR x)
  have HKK : Hid (x.k = 17) := hk
  have t1 : ¬ (x.n : Int) < 2 := by omega
  clear hX hn0
  rw [hk] at a0
  clear hk
  rw [hv] at a1 a2 a3
  have v1 : val0.k = 0 := rfl
  have v2 : val0.n = 0 := rfl
  have v3 : val0.s = ⟨#[]⟩ := rfl
  rw [v1] at a1
  rw [v2] at a2
  rw [v3] at a3
  clear v1 v2 v3 hv
  rw [hsf.1] at a4
  rw [hsf.2] at a5
  clear hsf
  clear hB hn
  go_enter Tryz.func85, Tryz.ntmps85
  go_wp2_with fail
  clear t1
  go_loopw [4] (fun u wr => ∃ i : Nat, i ≤ x.n ∧ u = .int .i64 i ∧ Hid (∀ j, j < i → TreeR (x.c j) ∧ (x.c j).k ≠ 17) ∧ Below A.heap.size A wr) (fun u _ => x.n - (intOf u).toNat)
  case atStart => exact ⟨0, Nat.zero_le _, rfl, fun j hj => by omega, Below.refl _ _⟩
  case round =>
    obtain ⟨i, hi, rfl, HD, hB⟩ := hrel
    have hw := HB.out.trans (hB.mono (by omega))
    by_cases hin : i < x.n
    · obtain ⟨b, o, ea, hn, hx⟩ := (HX.out.later hw).part hin
      have HK : Hid (i < x.n) := hin
      have C0 : Hid (wr.cell? ⟨w.heap.size, 0, none⟩ = some (.int .i64 17)) := by have := (node_on HN.out (hB.mono (by omega))).at0.1; rw [HKK.out] at this; exact this
      have C6 : Hid (wr.cell? ⟨w.heap.size, 6, none⟩ = some (.slice (some ⟨b, o, none⟩) x.n x.cap)) := by have := (node_on HN.out (hB.mono (by omega))).at0.2.2.2.2.2.2; rw [ea] at this; exact this
      have N1 : Hid (Node wr b (o + i * 7) (x.c i)) := hn
      have hcc : Hid (∀ d, Below wr.heap.size wr d → Calls Tryz.prog 85 #[(x.c i).val] d fun e w' => ∃ r, e = .returned (.bool r) ∧ (r = true ↔ TreeR (x.c i)) ∧ Below d.heap.size d w') := fun d h => HI.out i hin d (hx.later h)
      clear hx hn ea
      by_cases ht : TreeR (x.c i)
      · have hc : Hid (∀ d, Below wr.heap.size wr d → Calls Tryz.prog 85 #[(x.c i).val] d fun e w' => e = .returned (.bool true) ∧ Below d.heap.size d w') := fun d h => (hcc.out d h).mono fun e w' hh => by
          obtain ⟨r, h1, h2, h3⟩ := hh
          exact ⟨by rw [h1, h2.2 ht], h3⟩
        have HT : Hid (TreeR (x.c i)) := ht
        clear ht hcc
        by_cases he : (x.c i).k = 17
        · have he' : ((x.c i).k == 17) = true := by simpa using he
          have HE : Hid ((x.c i).k = 17) := he
          clear he
          go_wp2_with fail
          refine wp_region_noPanic ?_
          refine wp_region_held_drew (S := fun w' => Below wr.heap.size wr w') (by kernel_rfl) ((Below.refl _ _).drew) (fun hHeld => ?_)
          have hT : Below wr.heap.size wr wr.drew := hHeld
          obtain ⟨d, hd⟩ : ∃ d, d = wr.drew := ⟨_, rfl⟩
          rw [← hd] at hHeld hT ⊢
          clear hd
          refine wpAnyH_take (i := 0) (oi := ⟨some 97, .fieldAddr 51 (.tmp 1) 4, 0, _, _, _⟩) (v := ?v0q17same) rfl (by kernel_rfl) (by kernel_rfl) (by kernel_rfl) (fun _ _ _ h => h) (Or.inl ⟨by rfl, ?hy0q17same⟩) hHeld ?rest0q17same
          case hy0q17same => intro w9 hSw; go_simp; (try with_reducible rfl)
          try simp only [Act.put, s_put, s_0, s_1]
          refine wpAnyH_take (i := 1) (oi := ⟨some 98, .load 25 (.tmp 97), 25, _, _, _⟩) (v := ?v1q17same) rfl (by kernel_rfl) (by kernel_rfl) (by kernel_rfl) (fun _ _ _ h => h) (Or.inl ⟨by rfl, ?hy1q17same⟩) hHeld ?rest1q17same
          case hy1q17same => intro w9 hSw; have cc := cell_later C6.out hSw; go_simp; (try with_reducible rfl)
          try simp only [Act.put, s_put, s_0, s_1]
          refine wpAnyH_take (i := 2) (oi := ⟨some 99, .move (.tmp 4), 3, _, _, _⟩) (v := ?v2q17same) rfl (by kernel_rfl) (by kernel_rfl) (by kernel_rfl) (fun _ _ _ h => h) (Or.inl ⟨by rfl, ?hy2q17same⟩) hHeld ?rest2q17same
          case hy2q17same => intro w9 hSw; go_simp; (try with_reducible rfl)
          try simp only [Act.put, s_put, s_0, s_1]
          refine wpAnyH_take (i := 3) (oi := ⟨some 100, .indexAddr 25 (.tmp 98) (.tmp 99), 0, _, _, _⟩) (v := ?v3q17same) rfl (by kernel_rfl) (by kernel_rfl) (by kernel_rfl) (fun _ _ _ h => h) (Or.inl ⟨by rfl, ?hy3q17same⟩) hHeld ?rest3q17same
          case hy3q17same => intro w9 hSw; go_simp; (try with_reducible rfl)
          try simp only [Act.put, s_put, s_0, s_1]
          refine wpAnyH_take (i := 4) (oi := ⟨some 101, .load 51 (.tmp 100), 51, _, _, _⟩) (v := ?v4q17same) rfl (by kernel_rfl) (by kernel_rfl) (by kernel_rfl) (fun _ _ _ h => h) (Or.inl ⟨by rfl, ?hy4q17same⟩) hHeld ?rest4q17same
          case hy4q17same => intro w9 hSw; obtain ⟨d0, d1, d2, d3, d4, d5, d6⟩ := N1.out.later hSw; go_simp; (try with_reducible rfl)
          try simp only [Act.put, s_put, s_0, s_1]
          refine wpAnyH_ready (rs := [5]) (by kernel_rfl) (by simp) ?_
          refine AllReadyH.cons (o := ⟨some 102, .call { callee := .value (.func 85), args := #[.tmp 101], argTypes := #[51] }, 4, _, _, _⟩) rfl (fun K hK => ?_) AllReadyH.nil
          go_simp
          refine (hc.out _ hHeld).mono ?_
          rintro e x5 ⟨rfl, hN5⟩
          go_wp2_with fail
          have hT5 : Below wr.heap.size wr x5 := hT.trans (hN5.mono hT.size)
          refine hK.out _ _ (hHeld.trans (hN5.mono hHeld.size)) (fun _ => held_up (S' := fun w' => Below x5.heap.size x5 w') (fun w' h' => (hHeld.trans (hN5.mono hHeld.size)).trans (h'.mono (Nat.le_trans hHeld.size hN5.size))) _ _ _ _ ?_)
          clear hK K hHeld hT
          have hT : Below wr.heap.size wr x5 := hT5
          have hHeld : Below x5.heap.size x5 x5 := Below.refl _ _
          clear hT5 hN5
          try simp only [Act.put, s_put, s_0, s_1]
          refine wpAnyH_take (i := 6) (oi := ⟨some 103, .unOp UnOp.not 4 (.tmp 102), 4, _, _, _⟩) (v := ?v6q17same) rfl (by kernel_rfl) (by kernel_rfl) (by kernel_rfl) (fun _ _ _ h => h) (Or.inl ⟨by rfl, ?hy6q17same⟩) hHeld ?rest6q17same
          case hy6q17same => intro w9 hSw; go_simp; (try with_reducible rfl)
          try simp only [Act.put, s_put, s_0, s_1]
          refine wpAnyH_take (i := 7) (oi := ⟨some 104, .move (.tmp 103), 4, _, _, _⟩) (v := ?v7q17same) rfl (by kernel_rfl) (by kernel_rfl) (by kernel_rfl) (fun _ _ _ h => h) (Or.inl ⟨by rfl, ?hy7q17same⟩) hHeld ?rest7q17same
          case hy7q17same => intro w9 hSw; go_simp; (try with_reducible rfl)
          try simp only [Act.put, s_put, s_0, s_1]
          refine wpAnyH_take (i := 8) (oi := ⟨some 105, .fieldAddr 51 (.tmp 1) 0, 0, _, _, _⟩) (v := ?v8q17same) rfl (by kernel_rfl) (by kernel_rfl) (by kernel_rfl) (fun _ _ _ h => h) (Or.inl ⟨by rfl, ?hy8q17same⟩) hHeld ?rest8q17same
          case hy8q17same => intro w9 hSw; go_simp; (try with_reducible rfl)
          try simp only [Act.put, s_put, s_0, s_1]
          refine wpAnyH_take (i := 9) (oi := ⟨some 106, .load 3 (.tmp 105), 3, _, _, _⟩) (v := ?v9q17same) rfl (by kernel_rfl) (by kernel_rfl) (by kernel_rfl) (fun _ _ _ h => h) (Or.inl ⟨by rfl, ?hy9q17same⟩) hHeld ?rest9q17same
          case hy9q17same => intro w9 hSw; have cc := cell_later C0.out (hT.trans (hSw.mono hT.size)); go_simp; (try with_reducible rfl)
          try simp only [Act.put, s_put, s_0, s_1]
          refine wpAnyH_take (i := 10) (oi := ⟨some 107, .binOp BinOp.eql 3 (.tmp 106) (.const (Value.int IntKind.i64 16)) 3, 4, _, _, _⟩) (v := ?v10q17same) rfl (by kernel_rfl) (by kernel_rfl) (by kernel_rfl) (fun _ _ _ h => h) (Or.inl ⟨by rfl, ?hy10q17same⟩) hHeld ?rest10q17same
          case hy10q17same => intro w9 hSw; go_simp; (try with_reducible rfl)
          try simp only [Act.put, s_put, s_0, s_1]
          refine wpAnyH_take (i := 11) (oi := ⟨some 108, .move (.tmp 107), 4, _, _, _⟩) (v := ?v11q17same) rfl (by kernel_rfl) (by kernel_rfl) (by kernel_rfl) (fun _ _ _ h => h) (Or.inl ⟨by rfl, ?hy11q17same⟩) hHeld ?rest11q17same
          case hy11q17same => intro w9 hSw; go_simp; (try with_reducible rfl)
          try simp only [Act.put, s_put, s_0, s_1]
          refine wpAnyH_take (i := 12) (oi := ⟨some 109, .fieldAddr 51 (.tmp 1) 0, 0, _, _, _⟩) (v := ?v12q17same) rfl (by kernel_rfl) (by kernel_rfl) (by kernel_rfl) (fun _ _ _ h => h) (Or.inl ⟨by rfl, ?hy12q17same⟩) hHeld ?rest12q17same
          case hy12q17same => intro w9 hSw; go_simp; (try with_reducible rfl)
          try simp only [Act.put, s_put, s_0, s_1]
          refine wpAnyH_take (i := 13) (oi := ⟨some 110, .load 3 (.tmp 109), 3, _, _, _⟩) (v := ?v13q17same) rfl (by kernel_rfl) (by kernel_rfl) (by kernel_rfl) (fun _ _ _ h => h) (Or.inl ⟨by rfl, ?hy13q17same⟩) hHeld ?rest13q17same
          case hy13q17same => intro w9 hSw; have cc := cell_later C0.out (hT.trans (hSw.mono hT.size)); go_simp; (try with_reducible rfl)
          try simp only [Act.put, s_put, s_0, s_1]
          refine wpAnyH_take (i := 14) (oi := ⟨some 111, .binOp BinOp.eql 3 (.tmp 110) (.const (Value.int IntKind.i64 17)) 3, 4, _, _, _⟩) (v := ?v14q17same) rfl (by kernel_rfl) (by kernel_rfl) (by kernel_rfl) (fun _ _ _ h => h) (Or.inl ⟨by rfl, ?hy14q17same⟩) hHeld ?rest14q17same
          case hy14q17same => intro w9 hSw; go_simp; (try with_reducible rfl)
          try simp only [Act.put, s_put, s_0, s_1]
          refine wpAnyH_take (i := 15) (oi := ⟨some 112, .pick (.tmp 108) (.const (Value.bool true)) (.tmp 111), 4, _, _, _⟩) (v := ?v15q17same) rfl (by kernel_rfl) (by kernel_rfl) (by kernel_rfl) (fun _ _ _ h => h) (Or.inl ⟨by rfl, ?hy15q17same⟩) hHeld ?rest15q17same
          case hy15q17same => intro w9 hSw; go_simp; (try with_reducible rfl)
          try simp only [Act.put, s_put, s_0, s_1]
          refine wpAnyH_take (i := 16) (oi := ⟨some 113, .move (.tmp 112), 4, _, _, _⟩) (v := ?v16q17same) rfl (by kernel_rfl) (by kernel_rfl) (by kernel_rfl) (fun _ _ _ h => h) (Or.inl ⟨by rfl, ?hy16q17same⟩) hHeld ?rest16q17same
          case hy16q17same => intro w9 hSw; go_simp; (try with_reducible rfl)
          try simp only [Act.put, s_put, s_0, s_1]
          refine wpAnyH_take (i := 17) (oi := ⟨some 114, .fieldAddr 51 (.tmp 1) 4, 0, _, _, _⟩) (v := ?v17q17same) rfl (by kernel_rfl) (by kernel_rfl) (by kernel_rfl) (fun _ _ _ h => h) (Or.inl ⟨by rfl, ?hy17q17same⟩) hHeld ?rest17q17same
          case hy17q17same => intro w9 hSw; go_simp; (try with_reducible rfl)
          try simp only [Act.put, s_put, s_0, s_1]
          refine wpAnyH_take (i := 18) (oi := ⟨some 115, .load 25 (.tmp 114), 25, _, _, _⟩) (v := ?v18q17same) rfl (by kernel_rfl) (by kernel_rfl) (by kernel_rfl) (fun _ _ _ h => h) (Or.inl ⟨by rfl, ?hy18q17same⟩) hHeld ?rest18q17same
          case hy18q17same => intro w9 hSw; have cc := cell_later C6.out (hT.trans (hSw.mono hT.size)); go_simp; (try with_reducible rfl)
          try simp only [Act.put, s_put, s_0, s_1]
          refine wpAnyH_take (i := 19) (oi := ⟨some 116, .move (.tmp 4), 3, _, _, _⟩) (v := ?v19q17same) rfl (by kernel_rfl) (by kernel_rfl) (by kernel_rfl) (fun _ _ _ h => h) (Or.inl ⟨by rfl, ?hy19q17same⟩) hHeld ?rest19q17same
          case hy19q17same => intro w9 hSw; go_simp; (try with_reducible rfl)
          try simp only [Act.put, s_put, s_0, s_1]
          refine wpAnyH_take (i := 20) (oi := ⟨some 117, .indexAddr 25 (.tmp 115) (.tmp 116), 0, _, _, _⟩) (v := ?v20q17same) rfl (by kernel_rfl) (by kernel_rfl) (by kernel_rfl) (fun _ _ _ h => h) (Or.inl ⟨by rfl, ?hy20q17same⟩) hHeld ?rest20q17same
          case hy20q17same => intro w9 hSw; go_simp; (try with_reducible rfl)
          try simp only [Act.put, s_put, s_0, s_1]
          refine wpAnyH_take (i := 21) (oi := ⟨some 118, .fieldAddr 51 (.tmp 117) 0, 0, _, _, _⟩) (v := ?v21q17same) rfl (by kernel_rfl) (by kernel_rfl) (by kernel_rfl) (fun _ _ _ h => h) (Or.inl ⟨by rfl, ?hy21q17same⟩) hHeld ?rest21q17same
          case hy21q17same => intro w9 hSw; go_simp; (try with_reducible rfl)
          try simp only [Act.put, s_put, s_0, s_1]
          refine wpAnyH_take (i := 22) (oi := ⟨some 119, .load 3 (.tmp 118), 3, _, _, _⟩) (v := ?v22q17same) rfl (by kernel_rfl) (by kernel_rfl) (by kernel_rfl) (fun _ _ _ h => h) (Or.inl ⟨by rfl, ?hy22q17same⟩) hHeld ?rest22q17same
          case hy22q17same => intro w9 hSw; obtain ⟨d0, d1, d2, d3, d4, d5, d6⟩ := N1.out.later (hT.trans (hSw.mono hT.size)); go_simp; (try with_reducible rfl)
          try simp only [Act.put, s_put, s_0, s_1]
          refine wpAnyH_take (i := 23) (oi := ⟨some 120, .fieldAddr 51 (.tmp 1) 0, 0, _, _, _⟩) (v := ?v23q17same) rfl (by kernel_rfl) (by kernel_rfl) (by kernel_rfl) (fun _ _ _ h => h) (Or.inl ⟨by rfl, ?hy23q17same⟩) hHeld ?rest23q17same
          case hy23q17same => intro w9 hSw; go_simp; (try with_reducible rfl)
          try simp only [Act.put, s_put, s_0, s_1]
          refine wpAnyH_take (i := 24) (oi := ⟨some 121, .load 3 (.tmp 120), 3, _, _, _⟩) (v := ?v24q17same) rfl (by kernel_rfl) (by kernel_rfl) (by kernel_rfl) (fun _ _ _ h => h) (Or.inl ⟨by rfl, ?hy24q17same⟩) hHeld ?rest24q17same
          case hy24q17same => intro w9 hSw; have cc := cell_later C0.out (hT.trans (hSw.mono hT.size)); go_simp; (try with_reducible rfl)
          try simp only [Act.put, s_put, s_0, s_1]
          refine wpAnyH_take (i := 25) (oi := ⟨some 122, .binOp BinOp.eql 3 (.tmp 119) (.tmp 121) 3, 4, _, _, _⟩) (v := ?v25q17same) rfl (by kernel_rfl) (by kernel_rfl) (by kernel_rfl) (fun _ _ _ h => h) (Or.inl ⟨by rfl, ?hy25q17same⟩) hHeld ?rest25q17same
          case hy25q17same => intro w9 hSw; go_simp; (try with_reducible rfl)
          try simp only [Act.put, s_put, s_0, s_1]
          refine wpAnyH_take (i := 26) (oi := ⟨some 123, .pick (.tmp 113) (.tmp 122) (.const (Value.bool false)), 4, _, _, _⟩) (v := ?v26q17same) rfl (by kernel_rfl) (by kernel_rfl) (by kernel_rfl) (fun _ _ _ h => h) (Or.inl ⟨by rfl, ?hy26q17same⟩) hHeld ?rest26q17same
          case hy26q17same => intro w9 hSw; go_simp; (try with_reducible rfl)
          try simp only [Act.put, s_put, s_0, s_1]
          refine wpAnyH_take (i := 27) (oi := ⟨some 124, .pick (.tmp 104) (.const (Value.bool true)) (.tmp 123), 4, _, _, _⟩) (v := ?v27q17same) rfl (by kernel_rfl) (by kernel_rfl) (by kernel_rfl) (fun _ _ _ h => h) (Or.inl ⟨by rfl, ?hy27q17same⟩) hHeld ?rest27q17same
          case hy27q17same => intro w9 hSw; go_simp; (try with_reducible rfl)
          try simp only [Act.put, s_put, s_0, s_1]
          refine wpAnyH_done (by kernel_rfl) ?_ _
          refine NoPanic.normal ?_
          have hB3 := hB.trans (hT.mono hB.size)
          go_wp2
          try rw [Exit.noGoto_ret]
          go_ret
          refine ⟨false, rfl, ⟨fun h => (by cases h), fun h => ?_⟩, HB.out.trans (hB3.mono (by omega))⟩
          exact absurd (HE.out.trans HKK.out.symm) ((((nodeR_many x (by have := HKK.out; omega)).1 ((treeR_eq x).1 h).1).1.2) i HK.out)
        · have he' : ((x.c i).k == 17) = false := by simpa using he
          have HE : Hid ((x.c i).k ≠ 17) := he
          clear he
          go_wp2_with fail
          refine wp_region_noPanic ?_
          refine wp_region_held_drew (S := fun w' => Below wr.heap.size wr w') (by kernel_rfl) ((Below.refl _ _).drew) (fun hHeld => ?_)
          have hT : Below wr.heap.size wr wr.drew := hHeld
          obtain ⟨d, hd⟩ : ∃ d, d = wr.drew := ⟨_, rfl⟩
          rw [← hd] at hHeld hT ⊢
          clear hd
          refine wpAnyH_take (i := 0) (oi := ⟨some 97, .fieldAddr 51 (.tmp 1) 4, 0, _, _, _⟩) (v := ?v0q17other) rfl (by kernel_rfl) (by kernel_rfl) (by kernel_rfl) (fun _ _ _ h => h) (Or.inl ⟨by rfl, ?hy0q17other⟩) hHeld ?rest0q17other
          case hy0q17other => intro w9 hSw; go_simp; (try with_reducible rfl)
          try simp only [Act.put, s_put, s_0, s_1]
          refine wpAnyH_take (i := 1) (oi := ⟨some 98, .load 25 (.tmp 97), 25, _, _, _⟩) (v := ?v1q17other) rfl (by kernel_rfl) (by kernel_rfl) (by kernel_rfl) (fun _ _ _ h => h) (Or.inl ⟨by rfl, ?hy1q17other⟩) hHeld ?rest1q17other
          case hy1q17other => intro w9 hSw; have cc := cell_later C6.out hSw; go_simp; (try with_reducible rfl)
          try simp only [Act.put, s_put, s_0, s_1]
          refine wpAnyH_take (i := 2) (oi := ⟨some 99, .move (.tmp 4), 3, _, _, _⟩) (v := ?v2q17other) rfl (by kernel_rfl) (by kernel_rfl) (by kernel_rfl) (fun _ _ _ h => h) (Or.inl ⟨by rfl, ?hy2q17other⟩) hHeld ?rest2q17other
          case hy2q17other => intro w9 hSw; go_simp; (try with_reducible rfl)
          try simp only [Act.put, s_put, s_0, s_1]
          refine wpAnyH_take (i := 3) (oi := ⟨some 100, .indexAddr 25 (.tmp 98) (.tmp 99), 0, _, _, _⟩) (v := ?v3q17other) rfl (by kernel_rfl) (by kernel_rfl) (by kernel_rfl) (fun _ _ _ h => h) (Or.inl ⟨by rfl, ?hy3q17other⟩) hHeld ?rest3q17other
          case hy3q17other => intro w9 hSw; go_simp; (try with_reducible rfl)
          try simp only [Act.put, s_put, s_0, s_1]
          refine wpAnyH_take (i := 4) (oi := ⟨some 101, .load 51 (.tmp 100), 51, _, _, _⟩) (v := ?v4q17other) rfl (by kernel_rfl) (by kernel_rfl) (by kernel_rfl) (fun _ _ _ h => h) (Or.inl ⟨by rfl, ?hy4q17other⟩) hHeld ?rest4q17other
          case hy4q17other => intro w9 hSw; obtain ⟨d0, d1, d2, d3, d4, d5, d6⟩ := N1.out.later hSw; go_simp; (try with_reducible rfl)
          try simp only [Act.put, s_put, s_0, s_1]
          refine wpAnyH_ready (rs := [5]) (by kernel_rfl) (by simp) ?_
          refine AllReadyH.cons (o := ⟨some 102, .call { callee := .value (.func 85), args := #[.tmp 101], argTypes := #[51] }, 4, _, _, _⟩) rfl (fun K hK => ?_) AllReadyH.nil
          go_simp
          refine (hc.out _ hHeld).mono ?_
          rintro e x5 ⟨rfl, hN5⟩
          go_wp2_with fail
          have hT5 : Below wr.heap.size wr x5 := hT.trans (hN5.mono hT.size)
          refine hK.out _ _ (hHeld.trans (hN5.mono hHeld.size)) (fun _ => held_up (S' := fun w' => Below x5.heap.size x5 w') (fun w' h' => (hHeld.trans (hN5.mono hHeld.size)).trans (h'.mono (Nat.le_trans hHeld.size hN5.size))) _ _ _ _ ?_)
          clear hK K hHeld hT
          have hT : Below wr.heap.size wr x5 := hT5
          have hHeld : Below x5.heap.size x5 x5 := Below.refl _ _
          clear hT5 hN5
          try simp only [Act.put, s_put, s_0, s_1]
          refine wpAnyH_take (i := 6) (oi := ⟨some 103, .unOp UnOp.not 4 (.tmp 102), 4, _, _, _⟩) (v := ?v6q17other) rfl (by kernel_rfl) (by kernel_rfl) (by kernel_rfl) (fun _ _ _ h => h) (Or.inl ⟨by rfl, ?hy6q17other⟩) hHeld ?rest6q17other
          case hy6q17other => intro w9 hSw; go_simp; (try with_reducible rfl)
          try simp only [Act.put, s_put, s_0, s_1]
          refine wpAnyH_take (i := 7) (oi := ⟨some 104, .move (.tmp 103), 4, _, _, _⟩) (v := ?v7q17other) rfl (by kernel_rfl) (by kernel_rfl) (by kernel_rfl) (fun _ _ _ h => h) (Or.inl ⟨by rfl, ?hy7q17other⟩) hHeld ?rest7q17other
          case hy7q17other => intro w9 hSw; go_simp; (try with_reducible rfl)
          try simp only [Act.put, s_put, s_0, s_1]
          refine wpAnyH_take (i := 8) (oi := ⟨some 105, .fieldAddr 51 (.tmp 1) 0, 0, _, _, _⟩) (v := ?v8q17other) rfl (by kernel_rfl) (by kernel_rfl) (by kernel_rfl) (fun _ _ _ h => h) (Or.inl ⟨by rfl, ?hy8q17other⟩) hHeld ?rest8q17other
          case hy8q17other => intro w9 hSw; go_simp; (try with_reducible rfl)
          try simp only [Act.put, s_put, s_0, s_1]
          refine wpAnyH_take (i := 9) (oi := ⟨some 106, .load 3 (.tmp 105), 3, _, _, _⟩) (v := ?v9q17other) rfl (by kernel_rfl) (by kernel_rfl) (by kernel_rfl) (fun _ _ _ h => h) (Or.inl ⟨by rfl, ?hy9q17other⟩) hHeld ?rest9q17other
          case hy9q17other => intro w9 hSw; have cc := cell_later C0.out (hT.trans (hSw.mono hT.size)); go_simp; (try with_reducible rfl)
          try simp only [Act.put, s_put, s_0, s_1]
          refine wpAnyH_take (i := 10) (oi := ⟨some 107, .binOp BinOp.eql 3 (.tmp 106) (.const (Value.int IntKind.i64 16)) 3, 4, _, _, _⟩) (v := ?v10q17other) rfl (by kernel_rfl) (by kernel_rfl) (by kernel_rfl) (fun _ _ _ h => h) (Or.inl ⟨by rfl, ?hy10q17other⟩) hHeld ?rest10q17other
          case hy10q17other => intro w9 hSw; go_simp; (try with_reducible rfl)
          try simp only [Act.put, s_put, s_0, s_1]
          refine wpAnyH_take (i := 11) (oi := ⟨some 108, .move (.tmp 107), 4, _, _, _⟩) (v := ?v11q17other) rfl (by kernel_rfl) (by kernel_rfl) (by kernel_rfl) (fun _ _ _ h => h) (Or.inl ⟨by rfl, ?hy11q17other⟩) hHeld ?rest11q17other
          case hy11q17other => intro w9 hSw; go_simp; (try with_reducible rfl)
          try simp only [Act.put, s_put, s_0, s_1]
          refine wpAnyH_take (i := 12) (oi := ⟨some 109, .fieldAddr 51 (.tmp 1) 0, 0, _, _, _⟩) (v := ?v12q17other) rfl (by kernel_rfl) (by kernel_rfl) (by kernel_rfl) (fun _ _ _ h => h) (Or.inl ⟨by rfl, ?hy12q17other⟩) hHeld ?rest12q17other
          case hy12q17other => intro w9 hSw; go_simp; (try with_reducible rfl)
          try simp only [Act.put, s_put, s_0, s_1]
          refine wpAnyH_take (i := 13) (oi := ⟨some 110, .load 3 (.tmp 109), 3, _, _, _⟩) (v := ?v13q17other) rfl (by kernel_rfl) (by kernel_rfl) (by kernel_rfl) (fun _ _ _ h => h) (Or.inl ⟨by rfl, ?hy13q17other⟩) hHeld ?rest13q17other
          case hy13q17other => intro w9 hSw; have cc := cell_later C0.out (hT.trans (hSw.mono hT.size)); go_simp; (try with_reducible rfl)
          try simp only [Act.put, s_put, s_0, s_1]
          refine wpAnyH_take (i := 14) (oi := ⟨some 111, .binOp BinOp.eql 3 (.tmp 110) (.const (Value.int IntKind.i64 17)) 3, 4, _, _, _⟩) (v := ?v14q17other) rfl (by kernel_rfl) (by kernel_rfl) (by kernel_rfl) (fun _ _ _ h => h) (Or.inl ⟨by rfl, ?hy14q17other⟩) hHeld ?rest14q17other
          case hy14q17other => intro w9 hSw; go_simp; (try with_reducible rfl)
          try simp only [Act.put, s_put, s_0, s_1]
          refine wpAnyH_take (i := 15) (oi := ⟨some 112, .pick (.tmp 108) (.const (Value.bool true)) (.tmp 111), 4, _, _, _⟩) (v := ?v15q17other) rfl (by kernel_rfl) (by kernel_rfl) (by kernel_rfl) (fun _ _ _ h => h) (Or.inl ⟨by rfl, ?hy15q17other⟩) hHeld ?rest15q17other
          case hy15q17other => intro w9 hSw; go_simp; (try with_reducible rfl)
          try simp only [Act.put, s_put, s_0, s_1]
          refine wpAnyH_take (i := 16) (oi := ⟨some 113, .move (.tmp 112), 4, _, _, _⟩) (v := ?v16q17other) rfl (by kernel_rfl) (by kernel_rfl) (by kernel_rfl) (fun _ _ _ h => h) (Or.inl ⟨by rfl, ?hy16q17other⟩) hHeld ?rest16q17other
          case hy16q17other => intro w9 hSw; go_simp; (try with_reducible rfl)
          try simp only [Act.put, s_put, s_0, s_1]
          refine wpAnyH_take (i := 17) (oi := ⟨some 114, .fieldAddr 51 (.tmp 1) 4, 0, _, _, _⟩) (v := ?v17q17other) rfl (by kernel_rfl) (by kernel_rfl) (by kernel_rfl) (fun _ _ _ h => h) (Or.inl ⟨by rfl, ?hy17q17other⟩) hHeld ?rest17q17other
          case hy17q17other => intro w9 hSw; go_simp; (try with_reducible rfl)
          try simp only [Act.put, s_put, s_0, s_1]
          refine wpAnyH_take (i := 18) (oi := ⟨some 115, .load 25 (.tmp 114), 25, _, _, _⟩) (v := ?v18q17other) rfl (by kernel_rfl) (by kernel_rfl) (by kernel_rfl) (fun _ _ _ h => h) (Or.inl ⟨by rfl, ?hy18q17other⟩) hHeld ?rest18q17other
          case hy18q17other => intro w9 hSw; have cc := cell_later C6.out (hT.trans (hSw.mono hT.size)); go_simp; (try with_reducible rfl)
          try simp only [Act.put, s_put, s_0, s_1]
          refine wpAnyH_take (i := 19) (oi := ⟨some 116, .move (.tmp 4), 3, _, _, _⟩) (v := ?v19q17other) rfl (by kernel_rfl) (by kernel_rfl) (by kernel_rfl) (fun _ _ _ h => h) (Or.inl ⟨by rfl, ?hy19q17other⟩) hHeld ?rest19q17other
          case hy19q17other => intro w9 hSw; go_simp; (try with_reducible rfl)
          try simp only [Act.put, s_put, s_0, s_1]
          refine wpAnyH_take (i := 20) (oi := ⟨some 117, .indexAddr 25 (.tmp 115) (.tmp 116), 0, _, _, _⟩) (v := ?v20q17other) rfl (by kernel_rfl) (by kernel_rfl) (by kernel_rfl) (fun _ _ _ h => h) (Or.inl ⟨by rfl, ?hy20q17other⟩) hHeld ?rest20q17other
          case hy20q17other => intro w9 hSw; go_simp; (try with_reducible rfl)
          try simp only [Act.put, s_put, s_0, s_1]
          refine wpAnyH_take (i := 21) (oi := ⟨some 118, .fieldAddr 51 (.tmp 117) 0, 0, _, _, _⟩) (v := ?v21q17other) rfl (by kernel_rfl) (by kernel_rfl) (by kernel_rfl) (fun _ _ _ h => h) (Or.inl ⟨by rfl, ?hy21q17other⟩) hHeld ?rest21q17other
          case hy21q17other => intro w9 hSw; go_simp; (try with_reducible rfl)
          try simp only [Act.put, s_put, s_0, s_1]
          refine wpAnyH_take (i := 22) (oi := ⟨some 119, .load 3 (.tmp 118), 3, _, _, _⟩) (v := ?v22q17other) rfl (by kernel_rfl) (by kernel_rfl) (by kernel_rfl) (fun _ _ _ h => h) (Or.inl ⟨by rfl, ?hy22q17other⟩) hHeld ?rest22q17other
          case hy22q17other => intro w9 hSw; obtain ⟨d0, d1, d2, d3, d4, d5, d6⟩ := N1.out.later (hT.trans (hSw.mono hT.size)); go_simp; (try with_reducible rfl)
          try simp only [Act.put, s_put, s_0, s_1]
          refine wpAnyH_take (i := 23) (oi := ⟨some 120, .fieldAddr 51 (.tmp 1) 0, 0, _, _, _⟩) (v := ?v23q17other) rfl (by kernel_rfl) (by kernel_rfl) (by kernel_rfl) (fun _ _ _ h => h) (Or.inl ⟨by rfl, ?hy23q17other⟩) hHeld ?rest23q17other
          case hy23q17other => intro w9 hSw; go_simp; (try with_reducible rfl)
          try simp only [Act.put, s_put, s_0, s_1]
          refine wpAnyH_take (i := 24) (oi := ⟨some 121, .load 3 (.tmp 120), 3, _, _, _⟩) (v := ?v24q17other) rfl (by kernel_rfl) (by kernel_rfl) (by kernel_rfl) (fun _ _ _ h => h) (Or.inl ⟨by rfl, ?hy24q17other⟩) hHeld ?rest24q17other
          case hy24q17other => intro w9 hSw; have cc := cell_later C0.out (hT.trans (hSw.mono hT.size)); go_simp; (try with_reducible rfl)
          try simp only [Act.put, s_put, s_0, s_1]
          refine wpAnyH_take (i := 25) (oi := ⟨some 122, .binOp BinOp.eql 3 (.tmp 119) (.tmp 121) 3, 4, _, _, _⟩) (v := ?v25q17other) rfl (by kernel_rfl) (by kernel_rfl) (by kernel_rfl) (fun _ _ _ h => h) (Or.inl ⟨by rfl, ?hy25q17other⟩) hHeld ?rest25q17other
          case hy25q17other => intro w9 hSw; go_simp; (try with_reducible rfl)
          try simp only [Act.put, s_put, s_0, s_1]
          refine wpAnyH_take (i := 26) (oi := ⟨some 123, .pick (.tmp 113) (.tmp 122) (.const (Value.bool false)), 4, _, _, _⟩) (v := ?v26q17other) rfl (by kernel_rfl) (by kernel_rfl) (by kernel_rfl) (fun _ _ _ h => h) (Or.inl ⟨by rfl, ?hy26q17other⟩) hHeld ?rest26q17other
          case hy26q17other => intro w9 hSw; go_simp; (try with_reducible rfl)
          try simp only [Act.put, s_put, s_0, s_1]
          refine wpAnyH_take (i := 27) (oi := ⟨some 124, .pick (.tmp 104) (.const (Value.bool true)) (.tmp 123), 4, _, _, _⟩) (v := ?v27q17other) rfl (by kernel_rfl) (by kernel_rfl) (by kernel_rfl) (fun _ _ _ h => h) (Or.inl ⟨by rfl, ?hy27q17other⟩) hHeld ?rest27q17other
          case hy27q17other => intro w9 hSw; go_simp; (try with_reducible rfl)
          try simp only [Act.put, s_put, s_0, s_1]
          refine wpAnyH_done (by kernel_rfl) ?_ _
          refine NoPanic.normal ?_
          have hB3 := hB.trans (hT.mono hB.size)
          go_wp2
          go_roundw
          case rel => exact ⟨i + 1, HK.out, by go_num, fun j hj => by by_cases e : j = i; (· rw [e]; exact ⟨HT.out, HE.out⟩); exact HD.out j (by omega), hB3⟩
          case measure => have := HK.out; simp [intOf]; omega
      · have hc : Hid (∀ d, Below wr.heap.size wr d → Calls Tryz.prog 85 #[(x.c i).val] d fun e w' => e = .returned (.bool false) ∧ Below d.heap.size d w') := fun d h => (hcc.out d h).mono fun e w' hh => by
          obtain ⟨r, h1, h2, h3⟩ := hh
          refine ⟨?_, h3⟩
          cases r with
          | true => exact absurd (h2.1 rfl) ht
          | false => exact h1
        have HT : Hid (¬ TreeR (x.c i)) := ht
        clear ht hcc
        go_wp2_with fail
        refine wp_region_noPanic ?_
        refine wp_region_held_drew (S := fun w' => Below wr.heap.size wr w') (by kernel_rfl) ((Below.refl _ _).drew) (fun hHeld => ?_)
        have hT : Below wr.heap.size wr wr.drew := hHeld
        obtain ⟨d, hd⟩ : ∃ d, d = wr.drew := ⟨_, rfl⟩
        rw [← hd] at hHeld hT ⊢
        clear hd
        refine wpAnyH_take (i := 0) (oi := ⟨some 97, .fieldAddr 51 (.tmp 1) 4, 0, _, _, _⟩) (v := ?v0q17no) rfl (by kernel_rfl) (by kernel_rfl) (by kernel_rfl) (fun _ _ _ h => h) (Or.inl ⟨by rfl, ?hy0q17no⟩) hHeld ?rest0q17no
        case hy0q17no => intro w9 hSw; go_simp; (try with_reducible rfl)
        try simp only [Act.put, s_put, s_0, s_1]
        refine wpAnyH_take (i := 1) (oi := ⟨some 98, .load 25 (.tmp 97), 25, _, _, _⟩) (v := ?v1q17no) rfl (by kernel_rfl) (by kernel_rfl) (by kernel_rfl) (fun _ _ _ h => h) (Or.inl ⟨by rfl, ?hy1q17no⟩) hHeld ?rest1q17no
        case hy1q17no => intro w9 hSw; have cc := cell_later C6.out hSw; go_simp; (try with_reducible rfl)
        try simp only [Act.put, s_put, s_0, s_1]
        refine wpAnyH_take (i := 2) (oi := ⟨some 99, .move (.tmp 4), 3, _, _, _⟩) (v := ?v2q17no) rfl (by kernel_rfl) (by kernel_rfl) (by kernel_rfl) (fun _ _ _ h => h) (Or.inl ⟨by rfl, ?hy2q17no⟩) hHeld ?rest2q17no
        case hy2q17no => intro w9 hSw; go_simp; (try with_reducible rfl)
        try simp only [Act.put, s_put, s_0, s_1]
        refine wpAnyH_take (i := 3) (oi := ⟨some 100, .indexAddr 25 (.tmp 98) (.tmp 99), 0, _, _, _⟩) (v := ?v3q17no) rfl (by kernel_rfl) (by kernel_rfl) (by kernel_rfl) (fun _ _ _ h => h) (Or.inl ⟨by rfl, ?hy3q17no⟩) hHeld ?rest3q17no
        case hy3q17no => intro w9 hSw; go_simp; (try with_reducible rfl)
        try simp only [Act.put, s_put, s_0, s_1]
        refine wpAnyH_take (i := 4) (oi := ⟨some 101, .load 51 (.tmp 100), 51, _, _, _⟩) (v := ?v4q17no) rfl (by kernel_rfl) (by kernel_rfl) (by kernel_rfl) (fun _ _ _ h => h) (Or.inl ⟨by rfl, ?hy4q17no⟩) hHeld ?rest4q17no
        case hy4q17no => intro w9 hSw; obtain ⟨d0, d1, d2, d3, d4, d5, d6⟩ := N1.out.later hSw; go_simp; (try with_reducible rfl)
        try simp only [Act.put, s_put, s_0, s_1]
        refine wpAnyH_ready (rs := [5]) (by kernel_rfl) (by simp) ?_
        refine AllReadyH.cons (o := ⟨some 102, .call { callee := .value (.func 85), args := #[.tmp 101], argTypes := #[51] }, 4, _, _, _⟩) rfl (fun K hK => ?_) AllReadyH.nil
        go_simp
        refine (hc.out _ hHeld).mono ?_
        rintro e x5 ⟨rfl, hN5⟩
        go_wp2_with fail
        have hT5 : Below wr.heap.size wr x5 := hT.trans (hN5.mono hT.size)
        refine hK.out _ _ (hHeld.trans (hN5.mono hHeld.size)) (fun _ => held_up (S' := fun w' => Below x5.heap.size x5 w') (fun w' h' => (hHeld.trans (hN5.mono hHeld.size)).trans (h'.mono (Nat.le_trans hHeld.size hN5.size))) _ _ _ _ ?_)
        clear hK K hHeld hT
        have hT : Below wr.heap.size wr x5 := hT5
        have hHeld : Below x5.heap.size x5 x5 := Below.refl _ _
        clear hT5 hN5
        try simp only [Act.put, s_put, s_0, s_1]
        refine wpAnyH_take (i := 6) (oi := ⟨some 103, .unOp UnOp.not 4 (.tmp 102), 4, _, _, _⟩) (v := ?v6q17no) rfl (by kernel_rfl) (by kernel_rfl) (by kernel_rfl) (fun _ _ _ h => h) (Or.inl ⟨by rfl, ?hy6q17no⟩) hHeld ?rest6q17no
        case hy6q17no => intro w9 hSw; go_simp; (try with_reducible rfl)
        try simp only [Act.put, s_put, s_0, s_1]
        refine wpAnyH_take (i := 7) (oi := ⟨some 104, .move (.tmp 103), 4, _, _, _⟩) (v := ?v7q17no) rfl (by kernel_rfl) (by kernel_rfl) (by kernel_rfl) (fun _ _ _ h => h) (Or.inl ⟨by rfl, ?hy7q17no⟩) hHeld ?rest7q17no
        case hy7q17no => intro w9 hSw; go_simp; (try with_reducible rfl)
        try simp only [Act.put, s_put, s_0, s_1]
        refine wpAnyH_take (i := 8) (oi := ⟨some 105, .fieldAddr 51 (.tmp 1) 0, 0, _, _, _⟩) (v := undef) rfl (by kernel_rfl) (by kernel_rfl) (by kernel_rfl) (fun _ _ _ h => h) (Or.inr ⟨by rfl, rfl⟩) hHeld ?rest8q17no
        try simp only [Act.put, s_put, s_0, s_1]
        refine wpAnyH_take (i := 9) (oi := ⟨some 106, .load 3 (.tmp 105), 3, _, _, _⟩) (v := undef) rfl (by kernel_rfl) (by kernel_rfl) (by kernel_rfl) (fun _ _ _ h => h) (Or.inr ⟨by rfl, rfl⟩) hHeld ?rest9q17no
        try simp only [Act.put, s_put, s_0, s_1]
        refine wpAnyH_take (i := 10) (oi := ⟨some 107, .binOp BinOp.eql 3 (.tmp 106) (.const (Value.int IntKind.i64 16)) 3, 4, _, _, _⟩) (v := undef) rfl (by kernel_rfl) (by kernel_rfl) (by kernel_rfl) (fun _ _ _ h => h) (Or.inr ⟨by rfl, rfl⟩) hHeld ?rest10q17no
        try simp only [Act.put, s_put, s_0, s_1]
        refine wpAnyH_take (i := 11) (oi := ⟨some 108, .move (.tmp 107), 4, _, _, _⟩) (v := undef) rfl (by kernel_rfl) (by kernel_rfl) (by kernel_rfl) (fun _ _ _ h => h) (Or.inr ⟨by rfl, rfl⟩) hHeld ?rest11q17no
        try simp only [Act.put, s_put, s_0, s_1]
        refine wpAnyH_take (i := 12) (oi := ⟨some 109, .fieldAddr 51 (.tmp 1) 0, 0, _, _, _⟩) (v := undef) rfl (by kernel_rfl) (by kernel_rfl) (by kernel_rfl) (fun _ _ _ h => h) (Or.inr ⟨by rfl, rfl⟩) hHeld ?rest12q17no
        try simp only [Act.put, s_put, s_0, s_1]
        refine wpAnyH_take (i := 13) (oi := ⟨some 110, .load 3 (.tmp 109), 3, _, _, _⟩) (v := undef) rfl (by kernel_rfl) (by kernel_rfl) (by kernel_rfl) (fun _ _ _ h => h) (Or.inr ⟨by rfl, rfl⟩) hHeld ?rest13q17no
        try simp only [Act.put, s_put, s_0, s_1]
        refine wpAnyH_take (i := 14) (oi := ⟨some 111, .binOp BinOp.eql 3 (.tmp 110) (.const (Value.int IntKind.i64 17)) 3, 4, _, _, _⟩) (v := undef) rfl (by kernel_rfl) (by kernel_rfl) (by kernel_rfl) (fun _ _ _ h => h) (Or.inr ⟨by rfl, rfl⟩) hHeld ?rest14q17no
        try simp only [Act.put, s_put, s_0, s_1]
        refine wpAnyH_take (i := 15) (oi := ⟨some 112, .pick (.tmp 108) (.const (Value.bool true)) (.tmp 111), 4, _, _, _⟩) (v := undef) rfl (by kernel_rfl) (by kernel_rfl) (by kernel_rfl) (fun _ _ _ h => h) (Or.inr ⟨by rfl, rfl⟩) hHeld ?rest15q17no
        try simp only [Act.put, s_put, s_0, s_1]
        refine wpAnyH_take (i := 16) (oi := ⟨some 113, .move (.tmp 112), 4, _, _, _⟩) (v := undef) rfl (by kernel_rfl) (by kernel_rfl) (by kernel_rfl) (fun _ _ _ h => h) (Or.inr ⟨by rfl, rfl⟩) hHeld ?rest16q17no
        try simp only [Act.put, s_put, s_0, s_1]
        refine wpAnyH_take (i := 17) (oi := ⟨some 114, .fieldAddr 51 (.tmp 1) 4, 0, _, _, _⟩) (v := undef) rfl (by kernel_rfl) (by kernel_rfl) (by kernel_rfl) (fun _ _ _ h => h) (Or.inr ⟨by rfl, rfl⟩) hHeld ?rest17q17no
        try simp only [Act.put, s_put, s_0, s_1]
        refine wpAnyH_take (i := 18) (oi := ⟨some 115, .load 25 (.tmp 114), 25, _, _, _⟩) (v := undef) rfl (by kernel_rfl) (by kernel_rfl) (by kernel_rfl) (fun _ _ _ h => h) (Or.inr ⟨by rfl, rfl⟩) hHeld ?rest18q17no
        try simp only [Act.put, s_put, s_0, s_1]
        refine wpAnyH_take (i := 19) (oi := ⟨some 116, .move (.tmp 4), 3, _, _, _⟩) (v := undef) rfl (by kernel_rfl) (by kernel_rfl) (by kernel_rfl) (fun _ _ _ h => h) (Or.inr ⟨by rfl, rfl⟩) hHeld ?rest19q17no
        try simp only [Act.put, s_put, s_0, s_1]
        refine wpAnyH_take (i := 20) (oi := ⟨some 117, .indexAddr 25 (.tmp 115) (.tmp 116), 0, _, _, _⟩) (v := undef) rfl (by kernel_rfl) (by kernel_rfl) (by kernel_rfl) (fun _ _ _ h => h) (Or.inr ⟨by rfl, rfl⟩) hHeld ?rest20q17no
        try simp only [Act.put, s_put, s_0, s_1]
        refine wpAnyH_take (i := 21) (oi := ⟨some 118, .fieldAddr 51 (.tmp 117) 0, 0, _, _, _⟩) (v := undef) rfl (by kernel_rfl) (by kernel_rfl) (by kernel_rfl) (fun _ _ _ h => h) (Or.inr ⟨by rfl, rfl⟩) hHeld ?rest21q17no
        try simp only [Act.put, s_put, s_0, s_1]
        refine wpAnyH_take (i := 22) (oi := ⟨some 119, .load 3 (.tmp 118), 3, _, _, _⟩) (v := undef) rfl (by kernel_rfl) (by kernel_rfl) (by kernel_rfl) (fun _ _ _ h => h) (Or.inr ⟨by rfl, rfl⟩) hHeld ?rest22q17no
        try simp only [Act.put, s_put, s_0, s_1]
        refine wpAnyH_take (i := 23) (oi := ⟨some 120, .fieldAddr 51 (.tmp 1) 0, 0, _, _, _⟩) (v := undef) rfl (by kernel_rfl) (by kernel_rfl) (by kernel_rfl) (fun _ _ _ h => h) (Or.inr ⟨by rfl, rfl⟩) hHeld ?rest23q17no
        try simp only [Act.put, s_put, s_0, s_1]
        refine wpAnyH_take (i := 24) (oi := ⟨some 121, .load 3 (.tmp 120), 3, _, _, _⟩) (v := undef) rfl (by kernel_rfl) (by kernel_rfl) (by kernel_rfl) (fun _ _ _ h => h) (Or.inr ⟨by rfl, rfl⟩) hHeld ?rest24q17no
        try simp only [Act.put, s_put, s_0, s_1]
        refine wpAnyH_take (i := 25) (oi := ⟨some 122, .binOp BinOp.eql 3 (.tmp 119) (.tmp 121) 3, 4, _, _, _⟩) (v := undef) rfl (by kernel_rfl) (by kernel_rfl) (by kernel_rfl) (fun _ _ _ h => h) (Or.inr ⟨by rfl, rfl⟩) hHeld ?rest25q17no
        try simp only [Act.put, s_put, s_0, s_1]
        refine wpAnyH_take (i := 26) (oi := ⟨some 123, .pick (.tmp 113) (.tmp 122) (.const (Value.bool false)), 4, _, _, _⟩) (v := undef) rfl (by kernel_rfl) (by kernel_rfl) (by kernel_rfl) (fun _ _ _ h => h) (Or.inr ⟨by rfl, rfl⟩) hHeld ?rest26q17no
        try simp only [Act.put, s_put, s_0, s_1]
        refine wpAnyH_take (i := 27) (oi := ⟨some 124, .pick (.tmp 104) (.const (Value.bool true)) (.tmp 123), 4, _, _, _⟩) (v := ?v27q17no) rfl (by kernel_rfl) (by kernel_rfl) (by kernel_rfl) (fun _ _ _ h => h) (Or.inl ⟨by rfl, ?hy27q17no⟩) hHeld ?rest27q17no
        case hy27q17no => intro w9 hSw; go_simp; (try with_reducible rfl)
        try simp only [Act.put, s_put, s_0, s_1]
        refine wpAnyH_done (by kernel_rfl) ?_ _
        refine NoPanic.normal ?_
        have hB3 := hB.trans (hT.mono hB.size)
        go_wp2
        try rw [Exit.noGoto_ret]
        go_ret
        refine ⟨false, rfl, ⟨fun h => (by cases h), fun h => ?_⟩, HB.out.trans (hB3.mono (by omega))⟩
        exact absurd (((treeR_eq x).1 h).2 i HK.out) HT.out
    · obtain rfl : i = x.n := by omega
      go_wp2
      go_ret
      exact ⟨true, rfl, ⟨fun _ => (treeR_eq x).2 ⟨HNR.out fun j hj => by have := (HD.out j hj).2; rw [HKK.out]; exact this, fun j hj => (HD.out j hj).1⟩, fun _ => rfl⟩, hw⟩
end Go.Proofs.YtfnfegcjgnbgbaaGreatDoor
namespace Go.Proofs.YtfnfegcjgnbgbaaGreatDoor
open Go.RowKit

theorem ret_no {w : World} {f : Nat} {args : Array Value} {P : Prop} (h : Calls Tryz.prog f args w fun e w' => e = .returned (.bool false) ∧ Below w.heap.size w w') (hr : ¬ P) :
    Calls Tryz.prog f args w fun e w' => ∃ r, e = .returned (.bool r) ∧ (r = true ↔ P) ∧ Below w.heap.size w w' := ret_iff h ⟨fun h => (by cases h), fun h => absurd h hr⟩
theorem leaf_tree {x : X} (hn : x.n = 0) : TreeR x ↔ NodeR x := by
  rw [treeR_eq]
  exact ⟨fun h => h.1, fun h => ⟨h, fun i hi => by omega⟩⟩
theorem refRightX_any : ∀ (x : X) (w : World), IsX w x → XOk x → Calls Tryz.prog 85 #[x.val] w fun e w' => ∃ r, e = .returned (.bool r) ∧ (r = true ↔ TreeR x) ∧ Below w.heap.size w w' := by
  refine X.ind fun x ih w hX ok => ?_
  have HI : Hid (∀ i, i < x.n → ∀ w, IsX w (x.c i) → Calls Tryz.prog 85 #[(x.c i).val] w fun e w' => ∃ r, e = .returned (.bool r) ∧ (r = true ↔ TreeR (x.c i)) ∧ Below w.heap.size w w') := fun i hi w h => ih i hi w h (((xOk_eq x).1 ok).2.2 i hi)
  have nt : ∀ {P : Prop}, (TreeR x → P) → ¬ P → ¬ TreeR x := fun h g t => g (h t)
  have nr : TreeR x → NodeR x := fun h => ((treeR_eq x).1 h).1
  by_cases h1 : x.k = 1
  · by_cases hs : x.s = ⟨#[]⟩
    · by_cases hf : x.f = ⟨#[]⟩
      · by_cases hn : x.n = 0
        · refine ret_iff (refR_1 x w h1 ⟨hs, hf⟩ hn) ?_
          rw [leaf_tree hn]
          constructor
          · intro h
            exact ⟨fun e => absurd h1 e, fun _ => ⟨hs, hf⟩, .inl ⟨h1, hn, h⟩⟩
          · rintro ⟨-, -, h⟩
            rcases h with h | h | h | h | h
            · exact h.2.2
            all_goals omega
        · refine ret_no (refR_1n x w h1 ⟨hs, hf⟩ hn) fun h => ?_
          obtain ⟨-, -, h⟩ := nr h
          rcases h with h | h | h | h | h <;> omega
      · exact ret_no (refR_1f x w h1 hs hf) fun h => hf ((nr h).2.1 (by omega)).2
    · exact ret_no (refR_1s x w h1 hs) fun h => hs ((nr h).2.1 (by omega)).1
  by_cases hv' : ¬ x.v = val0
  · have hv := hv'
    have hno : ¬ TreeR x := fun h => hv ((nr h).1 h1)
    by_cases hk : x.v.k = 0
    · by_cases hn : x.v.n = 0
      · by_cases hs : x.v.s = ⟨#[]⟩
        · exact absurd (by cases hx : x.v; rw [hx] at hk hn hs; simp only at hk hn hs; rw [hk, hn, hs]; rfl) hv
        · exact ret_no (refR_vc x w h1 hk hn hs) hno
      · exact ret_no (refR_vb x w h1 hk hn) hno
    · exact ret_no (refR_va x w h1 hk) hno
  have hv : x.v = val0 := Classical.not_not.1 hv'
  by_cases h2 : x.k = 2
  · by_cases hn : x.n = 0
    · cases hs : nameB x.s with
      | false =>
        refine ret_no (refR_2_false x w h2 hv hn ok hs) fun h => ?_
        obtain ⟨-, -, h⟩ := nr h
        rcases h with h | h | h | h | h
        · omega
        · rw [hs] at h; exact absurd h.2.2.1 (by simp)
        all_goals omega
      | true =>
        cases hf : nameB x.f with
        | false =>
          refine ret_no (refR_2_truefalse x w h2 hv hn ok hs hf) fun h => ?_
          obtain ⟨-, -, h⟩ := nr h
          rcases h with h | h | h | h | h
          · omega
          · rw [hf] at h; exact absurd h.2.2.2 (by simp)
          all_goals omega
        | true => exact ret_iff (refR_2_truetrue x w h2 hv hn ok hs hf) ⟨fun _ => (leaf_tree hn).2 ⟨fun _ => hv, fun e => absurd h2 e, .inr (.inl ⟨h2, hn, hs, hf⟩)⟩, fun _ => rfl⟩
    · refine ret_no (refR_2n x w h2 hv hn) fun h => ?_
      obtain ⟨-, -, h⟩ := nr h
      rcases h with h | h | h | h | h <;> omega
  by_cases hs' : ¬ x.s = ⟨#[]⟩
  · have hs := hs'
    exact ret_no (refR_ns x w h1 h2 hv hs) fun h => hs ((nr h).2.1 h2).1
  have hs : x.s = ⟨#[]⟩ := Classical.not_not.1 hs'
  by_cases hf' : ¬ x.f = ⟨#[]⟩
  · have hf := hf'
    exact ret_no (refR_nf x w h1 h2 hv hs hf) fun h => hf ((nr h).2.1 h2).2
  have hf : x.f = ⟨#[]⟩ := Classical.not_not.1 hf'
  have no : (∀ h : NodeR x, False) → ¬ TreeR x := fun h t => h (nr t)
  by_cases h3 : x.k = 3
  · by_cases hn : x.n = 1
    · exact refR_3 x w hX HI h3 hv ⟨hs, hf⟩ hn
    · exact ret_no (refR_3n x w h3 hv ⟨hs, hf⟩ hn) (no fun ⟨_, _, h⟩ => by rcases h with h | h | h | h | h <;> omega)
  by_cases h15 : x.k = 15
  · by_cases hn : x.n = 1
    · exact refR_15 x w hX HI h15 hv ⟨hs, hf⟩ hn
    · exact ret_no (refR_15n x w h15 hv ⟨hs, hf⟩ hn) (no fun ⟨_, _, h⟩ => by rcases h with h | h | h | h | h <;> omega)
  by_cases h4 : 4 ≤ x.k ∧ x.k ≤ 14
  · by_cases hn : x.n = 2
    · exact refR_4 x w hX HI h4 hv ⟨hs, hf⟩ hn
    · exact ret_no (refR_4n x w h4 hv ⟨hs, hf⟩ hn) (no fun ⟨_, _, h⟩ => by rcases h with h | h | h | h | h <;> omega)
  by_cases h16 : x.k = 16
  · by_cases hn : 2 ≤ x.n
    · exact refR_16 x w hX HI h16 hv ⟨hs, hf⟩ hn
    · exact ret_no (refR_16n x w h16 hv ⟨hs, hf⟩ hn) (no fun ⟨_, _, h⟩ => by rcases h with h | h | h | h | h <;> omega)
  by_cases h17 : x.k = 17
  · by_cases hn : 2 ≤ x.n
    · exact refR_17 x w hX HI h17 hv ⟨hs, hf⟩ hn
    · exact ret_no (refR_17n x w h17 hv ⟨hs, hf⟩ hn) (no fun ⟨_, _, h⟩ => by rcases h with h | h | h | h | h <;> omega)
  by_cases hlo : x.k < 1
  · exact ret_no (refR_lo x w hlo hv ⟨hs, hf⟩) (no fun ⟨_, _, h⟩ => by rcases h with h | h | h | h | h <;> omega)
  · exact ret_no (refR_hi x w (by omega) hv ⟨hs, hf⟩) (no fun ⟨_, _, h⟩ => by rcases h with h | h | h | h | h <;> omega)
theorem szZ_small : ∀ x : X, x.size ≤ 1048576 → szZ x = x.size := by
  refine X.ind fun x ih h => ?_
  have : ∀ m, m ≤ x.n → accZ (fun i => szZ (x.c i)) m = 1 + sumN (fun i => (x.c i).size) m := by
    intro m
    induction m with
    | zero => intro _; rfl
    | succ m ihm =>
      intro hm
      have hp := x.size_part m (by omega)
      have hq := sumN_part (f := fun i => (x.c i).size) (show m < x.n by omega)
      have hz := x.size_eq
      simp only [accZ, sumN]
      rw [ihm (by omega), ih m (by omega) (by omega), wrap64]
      omega
  rw [szZ_eq, this x.n (Nat.le_refl _), x.size_eq]
  omega
set_option maxRecDepth 100000 in
set_option maxHeartbeats 1000000 in
theorem refCheckX_any (x : X) (w : World) (hX : IsX w x) (ok : XOk x) (hsm : x.size ≤ 1048576) : Calls Tryz.prog 62 #[x.val] w fun e w' => ∃ r : Int, e = .returned (.int .i64 r) ∧ ChkX x r ∧ Below w.heap.size w w' := by
  obtain ⟨A, hA, hB, hs, hn⟩ := one_box x w
  have HB : Hid (Below w.heap.size w A) := hB
  have HN : Hid (Node A w.heap.size 0 x) := hn
  obtain ⟨a0, a1, a2, a3, a4, a5, a6⟩ := hn.at0
  have hz : Calls Tryz.prog 23 #[x.val] A fun e w' => e = .returned (.int .i64 (x.size : Int)) ∧ Below A.heap.size A w' := by have := refSize_any x A (hX.later hB); rwa [szZ_small x hsm] at this
  have HR : Hid (∀ d, Below A.heap.size A d → Calls Tryz.prog 85 #[x.val] d fun e w' => ∃ r, e = .returned (.bool r) ∧ (r = true ↔ TreeR x) ∧ Below d.heap.size d w') := fun d h => refRightX_any x d ((hX.later hB).later h) ok
  obtain ⟨m, hm⟩ : ∃ m, m = x.size := ⟨_, rfl⟩
  rw [← hm] at hz
  have HM : Hid (m = x.size) := hm
  clear hB hn hX ok hsm hm
  by_cases h100 : 100 < m
  · have h' : (100 : Int) < (m : Int) := by omega
    have H100 : Hid (100 < m) := h100
    clear h100
    go_enter Tryz.func62, Tryz.ntmps62
    go_wp2_with (go_at_call 23; refine hz.mono ?_; rintro e w2 ⟨rfl, hB2⟩)
    go_ret
    exact ⟨2, rfl, .inl ⟨by rw [← HM.out]; exact H100.out, rfl⟩, HB.out.trans (hB2.mono (by omega))⟩
  · have h' : ¬ (100 : Int) < (m : Int) := by omega
    have H100 : Hid (x.size ≤ 100) := by show x.size ≤ 100; rw [← HM.out]; omega
    clear h100
    go_enter Tryz.func62, Tryz.ntmps62
    go_wp2_with (first
      | (go_at_call 23; refine hz.mono ?_; rintro e w2 ⟨rfl, hB2⟩; obtain ⟨b0, b1, b2, b3, b4, b5, b6⟩ := (HN.out.later hB2).at0)
      | (go_at_call 85; refine (HR.out _ hB2).mono ?_; rintro e w3 ⟨r, rfl, hr, hB3⟩; have HRR : Hid (r = true ↔ TreeR x) := hr; clear hr; cases r))
    · go_ret
      exact ⟨1, rfl, .inr (.inr ⟨H100.out, fun h => (by have := HRR.out.2 h; cases this), rfl⟩), HB.out.trans ((hB2.trans (hB3.mono hB2.size)).mono (by omega))⟩
    · go_ret
      exact ⟨0, rfl, .inr (.inl ⟨H100.out, HRR.out.1 (by first | rfl | trivial), rfl⟩), HB.out.trans ((hB2.trans (hB3.mono hB2.size)).mono (by omega))⟩
end Go.Proofs.YtfnfegcjgnbgbaaGreatDoor
