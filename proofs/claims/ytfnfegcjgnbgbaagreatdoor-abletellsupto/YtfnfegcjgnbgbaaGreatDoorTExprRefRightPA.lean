/-
  The document's right of conditions that have parts.
-/
import Derived.Test.YtfnfegcjgnbgbaaGreatDoorTBrief
import Derived.Test.YtfnfegcjgnbgbaaGreatDoorTExprRefRightN
namespace Go.Proofs.YtfnfegcjgnbgbaaGreatDoor
open Go.RowKit

set_option maxRecDepth 100000 in
set_option maxHeartbeats 2000000 in
theorem refR_3 (x : X) (w : World) (hX : IsX w x) (HI : Hid (∀ i, i < x.n → ∀ w, IsX w (x.c i) → Calls Tryz.prog 85 #[(x.c i).val] w fun e w' => ∃ r, e = .returned (.bool r) ∧ (r = true ↔ TreeR (x.c i)) ∧ Below w.heap.size w w')) (hk : x.k = 3) (hv : x.v = val0) (hsf : x.s = ⟨#[]⟩ ∧ x.f = ⟨#[]⟩) (hn0 : x.n = 1) :
    Calls Tryz.prog 85 #[x.val] w fun e w' => ∃ r, e = .returned (.bool r) ∧ (r = true ↔ TreeR x) ∧ Below w.heap.size w w' := by
  obtain ⟨A, hA, hB, hs, hn⟩ := one_box x w
  obtain ⟨a0, a1, a2, a3, a4, a5, a6⟩ := hn.at0
  have HB : Hid (Below w.heap.size w A) := hB
  have HN : Hid (Node A w.heap.size 0 x) := hn
  have HX : Hid (IsX w x) := hX
  have hlen := hX.len
  have HNR : Hid (NodeR x) := (⟨fun _ => hv, fun _ => hsf, .inr (.inr (.inl ⟨by omega, hn0⟩))⟩ : NodeR x)
  have HKK : Hid (x.k = 3) := hk
  have t1 : ((x.n : Int) != 1) = false := by simp; omega
  clear hX hn0
  rw [hk] at a0
  clear hk
  rw [hv] at a1 a2 a3
  have v1 : val0.k = 0 := rfl
  have v2 : val0.n = 0 := rfl
  have v3 : val0.s = ⟨#[]⟩ := rfl
  rw [v1] at a1
  rw [v2] at a2
  rw [v3] at a3
  clear v1 v2 v3 hv
  rw [hsf.1] at a4
  rw [hsf.2] at a5
  clear hsf
  clear hB hn
  go_enter Tryz.func85, Tryz.ntmps85
  go_wp2_with fail
  clear t1
  go_loopw [4] (fun u wr => ∃ i : Nat, i ≤ x.n ∧ u = .int .i64 i ∧ Hid (∀ j, j < i → TreeR (x.c j)) ∧ Below A.heap.size A wr) (fun u _ => x.n - (intOf u).toNat)
  case atStart => exact ⟨0, Nat.zero_le _, rfl, fun j hj => by omega, Below.refl _ _⟩
  case round =>
    obtain ⟨i, hi, rfl, HD, hB⟩ := hrel
    have hw := HB.out.trans (hB.mono (by omega))
    by_cases hin : i < x.n
    · obtain ⟨b, o, ea, hn, hx⟩ := (HX.out.later hw).part hin
      have HK : Hid (i < x.n) := hin
      have C0 : Hid (wr.cell? ⟨w.heap.size, 0, none⟩ = some (.int .i64 3)) := by have := (node_on HN.out (hB.mono (by omega))).at0.1; rw [HKK.out] at this; exact this
      have C6 : Hid (wr.cell? ⟨w.heap.size, 6, none⟩ = some (.slice (some ⟨b, o, none⟩) x.n x.cap)) := by have := (node_on HN.out (hB.mono (by omega))).at0.2.2.2.2.2.2; rw [ea] at this; exact this
      have N1 : Hid (Node wr b (o + i * 7) (x.c i)) := hn
      have hcc : Hid (∀ d, Below wr.heap.size wr d → Calls Tryz.prog 85 #[(x.c i).val] d fun e w' => ∃ r, e = .returned (.bool r) ∧ (r = true ↔ TreeR (x.c i)) ∧ Below d.heap.size d w') := fun d h => HI.out i hin d (hx.later h)
      clear hx hn ea
      by_cases ht : TreeR (x.c i)
      · have hc : Hid (∀ d, Below wr.heap.size wr d → Calls Tryz.prog 85 #[(x.c i).val] d fun e w' => e = .returned (.bool true) ∧ Below d.heap.size d w') := fun d h => (hcc.out d h).mono fun e w' hh => by
          obtain ⟨r, h1, h2, h3⟩ := hh
          exact ⟨by rw [h1, h2.2 ht], h3⟩
        have HT : Hid (TreeR (x.c i)) := ht
        clear ht hcc
        go_wp2_with fail
        refine wp_region_noPanic ?_
        refine wp_region_held_drew (S := fun w' => Below wr.heap.size wr w') (by kernel_rfl) ((Below.refl _ _).drew) (fun hHeld => ?_)
        have hT : Below wr.heap.size wr wr.drew := hHeld
        obtain ⟨d, hd⟩ : ∃ d, d = wr.drew := ⟨_, rfl⟩
        rw [← hd] at hHeld hT ⊢
        clear hd
        refine wpAnyH_take (i := 0) (oi := ⟨some 97, .fieldAddr 51 (.tmp 1) 4, 0, _, _, _⟩) (v := ?v0q3yes) rfl (by kernel_rfl) (by kernel_rfl) (by kernel_rfl) (fun _ _ _ h => h) (Or.inl ⟨by rfl, ?hy0q3yes⟩) hHeld ?rest0q3yes
        case hy0q3yes => intro w9 hSw; go_simp; (try with_reducible rfl)
        try simp only [Act.put, s_put, s_0, s_1]
        refine wpAnyH_take (i := 1) (oi := ⟨some 98, .load 25 (.tmp 97), 25, _, _, _⟩) (v := ?v1q3yes) rfl (by kernel_rfl) (by kernel_rfl) (by kernel_rfl) (fun _ _ _ h => h) (Or.inl ⟨by rfl, ?hy1q3yes⟩) hHeld ?rest1q3yes
        case hy1q3yes => intro w9 hSw; have cc := cell_later C6.out hSw; go_simp; (try with_reducible rfl)
        try simp only [Act.put, s_put, s_0, s_1]
        refine wpAnyH_take (i := 2) (oi := ⟨some 99, .move (.tmp 4), 3, _, _, _⟩) (v := ?v2q3yes) rfl (by kernel_rfl) (by kernel_rfl) (by kernel_rfl) (fun _ _ _ h => h) (Or.inl ⟨by rfl, ?hy2q3yes⟩) hHeld ?rest2q3yes
        case hy2q3yes => intro w9 hSw; go_simp; (try with_reducible rfl)
        try simp only [Act.put, s_put, s_0, s_1]
        refine wpAnyH_take (i := 3) (oi := ⟨some 100, .indexAddr 25 (.tmp 98) (.tmp 99), 0, _, _, _⟩) (v := ?v3q3yes) rfl (by kernel_rfl) (by kernel_rfl) (by kernel_rfl) (fun _ _ _ h => h) (Or.inl ⟨by rfl, ?hy3q3yes⟩) hHeld ?rest3q3yes
        case hy3q3yes => intro w9 hSw; go_simp; (try with_reducible rfl)
        try simp only [Act.put, s_put, s_0, s_1]
        refine wpAnyH_take (i := 4) (oi := ⟨some 101, .load 51 (.tmp 100), 51, _, _, _⟩) (v := ?v4q3yes) rfl (by kernel_rfl) (by kernel_rfl) (by kernel_rfl) (fun _ _ _ h => h) (Or.inl ⟨by rfl, ?hy4q3yes⟩) hHeld ?rest4q3yes
        case hy4q3yes => intro w9 hSw; obtain ⟨d0, d1, d2, d3, d4, d5, d6⟩ := N1.out.later hSw; go_simp; (try with_reducible rfl)
        try simp only [Act.put, s_put, s_0, s_1]
        refine wpAnyH_ready (rs := [5]) (by kernel_rfl) (by simp) ?_
        refine AllReadyH.cons (o := ⟨some 102, .call { callee := .value (.func 85), args := #[.tmp 101], argTypes := #[51] }, 4, _, _, _⟩) rfl (fun K hK => ?_) AllReadyH.nil
        go_simp
        refine (hc.out _ hHeld).mono ?_
        rintro e x5 ⟨rfl, hN5⟩
        go_wp2_with fail
        have hT5 : Below wr.heap.size wr x5 := hT.trans (hN5.mono hT.size)
        refine hK.out _ _ (hHeld.trans (hN5.mono hHeld.size)) (fun _ => held_up (S' := fun w' => Below x5.heap.size x5 w') (fun w' h' => (hHeld.trans (hN5.mono hHeld.size)).trans (h'.mono (Nat.le_trans hHeld.size hN5.size))) _ _ _ _ ?_)
        clear hK K hHeld hT
        have hT : Below wr.heap.size wr x5 := hT5
        have hHeld : Below x5.heap.size x5 x5 := Below.refl _ _
        clear hT5 hN5
        try simp only [Act.put, s_put, s_0, s_1]
        refine wpAnyH_take (i := 6) (oi := ⟨some 103, .unOp UnOp.not 4 (.tmp 102), 4, _, _, _⟩) (v := ?v6q3yes) rfl (by kernel_rfl) (by kernel_rfl) (by kernel_rfl) (fun _ _ _ h => h) (Or.inl ⟨by rfl, ?hy6q3yes⟩) hHeld ?rest6q3yes
        case hy6q3yes => intro w9 hSw; go_simp; (try with_reducible rfl)
        try simp only [Act.put, s_put, s_0, s_1]
        refine wpAnyH_take (i := 7) (oi := ⟨some 104, .move (.tmp 103), 4, _, _, _⟩) (v := ?v7q3yes) rfl (by kernel_rfl) (by kernel_rfl) (by kernel_rfl) (fun _ _ _ h => h) (Or.inl ⟨by rfl, ?hy7q3yes⟩) hHeld ?rest7q3yes
        case hy7q3yes => intro w9 hSw; go_simp; (try with_reducible rfl)
        try simp only [Act.put, s_put, s_0, s_1]
        refine wpAnyH_take (i := 8) (oi := ⟨some 105, .fieldAddr 51 (.tmp 1) 0, 0, _, _, _⟩) (v := ?v8q3yes) rfl (by kernel_rfl) (by kernel_rfl) (by kernel_rfl) (fun _ _ _ h => h) (Or.inl ⟨by rfl, ?hy8q3yes⟩) hHeld ?rest8q3yes
        case hy8q3yes => intro w9 hSw; go_simp; (try with_reducible rfl)
        try simp only [Act.put, s_put, s_0, s_1]
        refine wpAnyH_take (i := 9) (oi := ⟨some 106, .load 3 (.tmp 105), 3, _, _, _⟩) (v := ?v9q3yes) rfl (by kernel_rfl) (by kernel_rfl) (by kernel_rfl) (fun _ _ _ h => h) (Or.inl ⟨by rfl, ?hy9q3yes⟩) hHeld ?rest9q3yes
        case hy9q3yes => intro w9 hSw; have cc := cell_later C0.out (hT.trans (hSw.mono hT.size)); go_simp; (try with_reducible rfl)
        try simp only [Act.put, s_put, s_0, s_1]
        refine wpAnyH_take (i := 10) (oi := ⟨some 107, .binOp BinOp.eql 3 (.tmp 106) (.const (Value.int IntKind.i64 16)) 3, 4, _, _, _⟩) (v := ?v10q3yes) rfl (by kernel_rfl) (by kernel_rfl) (by kernel_rfl) (fun _ _ _ h => h) (Or.inl ⟨by rfl, ?hy10q3yes⟩) hHeld ?rest10q3yes
        case hy10q3yes => intro w9 hSw; go_simp; (try with_reducible rfl)
        try simp only [Act.put, s_put, s_0, s_1]
        refine wpAnyH_take (i := 11) (oi := ⟨some 108, .move (.tmp 107), 4, _, _, _⟩) (v := ?v11q3yes) rfl (by kernel_rfl) (by kernel_rfl) (by kernel_rfl) (fun _ _ _ h => h) (Or.inl ⟨by rfl, ?hy11q3yes⟩) hHeld ?rest11q3yes
        case hy11q3yes => intro w9 hSw; go_simp; (try with_reducible rfl)
        try simp only [Act.put, s_put, s_0, s_1]
        refine wpAnyH_take (i := 12) (oi := ⟨some 109, .fieldAddr 51 (.tmp 1) 0, 0, _, _, _⟩) (v := ?v12q3yes) rfl (by kernel_rfl) (by kernel_rfl) (by kernel_rfl) (fun _ _ _ h => h) (Or.inl ⟨by rfl, ?hy12q3yes⟩) hHeld ?rest12q3yes
        case hy12q3yes => intro w9 hSw; go_simp; (try with_reducible rfl)
        try simp only [Act.put, s_put, s_0, s_1]
        refine wpAnyH_take (i := 13) (oi := ⟨some 110, .load 3 (.tmp 109), 3, _, _, _⟩) (v := ?v13q3yes) rfl (by kernel_rfl) (by kernel_rfl) (by kernel_rfl) (fun _ _ _ h => h) (Or.inl ⟨by rfl, ?hy13q3yes⟩) hHeld ?rest13q3yes
        case hy13q3yes => intro w9 hSw; have cc := cell_later C0.out (hT.trans (hSw.mono hT.size)); go_simp; (try with_reducible rfl)
        try simp only [Act.put, s_put, s_0, s_1]
        refine wpAnyH_take (i := 14) (oi := ⟨some 111, .binOp BinOp.eql 3 (.tmp 110) (.const (Value.int IntKind.i64 17)) 3, 4, _, _, _⟩) (v := ?v14q3yes) rfl (by kernel_rfl) (by kernel_rfl) (by kernel_rfl) (fun _ _ _ h => h) (Or.inl ⟨by rfl, ?hy14q3yes⟩) hHeld ?rest14q3yes
        case hy14q3yes => intro w9 hSw; go_simp; (try with_reducible rfl)
        try simp only [Act.put, s_put, s_0, s_1]
        refine wpAnyH_take (i := 15) (oi := ⟨some 112, .pick (.tmp 108) (.const (Value.bool true)) (.tmp 111), 4, _, _, _⟩) (v := ?v15q3yes) rfl (by kernel_rfl) (by kernel_rfl) (by kernel_rfl) (fun _ _ _ h => h) (Or.inl ⟨by rfl, ?hy15q3yes⟩) hHeld ?rest15q3yes
        case hy15q3yes => intro w9 hSw; go_simp; (try with_reducible rfl)
        try simp only [Act.put, s_put, s_0, s_1]
        refine wpAnyH_take (i := 16) (oi := ⟨some 113, .move (.tmp 112), 4, _, _, _⟩) (v := ?v16q3yes) rfl (by kernel_rfl) (by kernel_rfl) (by kernel_rfl) (fun _ _ _ h => h) (Or.inl ⟨by rfl, ?hy16q3yes⟩) hHeld ?rest16q3yes
        case hy16q3yes => intro w9 hSw; go_simp; (try with_reducible rfl)
        try simp only [Act.put, s_put, s_0, s_1]
        refine wpAnyH_take (i := 17) (oi := ⟨some 114, .fieldAddr 51 (.tmp 1) 4, 0, _, _, _⟩) (v := undef) rfl (by kernel_rfl) (by kernel_rfl) (by kernel_rfl) (fun _ _ _ h => h) (Or.inr ⟨by rfl, rfl⟩) hHeld ?rest17q3yes
        try simp only [Act.put, s_put, s_0, s_1]
        refine wpAnyH_take (i := 18) (oi := ⟨some 115, .load 25 (.tmp 114), 25, _, _, _⟩) (v := undef) rfl (by kernel_rfl) (by kernel_rfl) (by kernel_rfl) (fun _ _ _ h => h) (Or.inr ⟨by rfl, rfl⟩) hHeld ?rest18q3yes
        try simp only [Act.put, s_put, s_0, s_1]
        refine wpAnyH_take (i := 19) (oi := ⟨some 116, .move (.tmp 4), 3, _, _, _⟩) (v := undef) rfl (by kernel_rfl) (by kernel_rfl) (by kernel_rfl) (fun _ _ _ h => h) (Or.inr ⟨by rfl, rfl⟩) hHeld ?rest19q3yes
        try simp only [Act.put, s_put, s_0, s_1]
        refine wpAnyH_take (i := 20) (oi := ⟨some 117, .indexAddr 25 (.tmp 115) (.tmp 116), 0, _, _, _⟩) (v := undef) rfl (by kernel_rfl) (by kernel_rfl) (by kernel_rfl) (fun _ _ _ h => h) (Or.inr ⟨by rfl, rfl⟩) hHeld ?rest20q3yes
        try simp only [Act.put, s_put, s_0, s_1]
        refine wpAnyH_take (i := 21) (oi := ⟨some 118, .fieldAddr 51 (.tmp 117) 0, 0, _, _, _⟩) (v := undef) rfl (by kernel_rfl) (by kernel_rfl) (by kernel_rfl) (fun _ _ _ h => h) (Or.inr ⟨by rfl, rfl⟩) hHeld ?rest21q3yes
        try simp only [Act.put, s_put, s_0, s_1]
        refine wpAnyH_take (i := 22) (oi := ⟨some 119, .load 3 (.tmp 118), 3, _, _, _⟩) (v := undef) rfl (by kernel_rfl) (by kernel_rfl) (by kernel_rfl) (fun _ _ _ h => h) (Or.inr ⟨by rfl, rfl⟩) hHeld ?rest22q3yes
        try simp only [Act.put, s_put, s_0, s_1]
        refine wpAnyH_take (i := 23) (oi := ⟨some 120, .fieldAddr 51 (.tmp 1) 0, 0, _, _, _⟩) (v := undef) rfl (by kernel_rfl) (by kernel_rfl) (by kernel_rfl) (fun _ _ _ h => h) (Or.inr ⟨by rfl, rfl⟩) hHeld ?rest23q3yes
        try simp only [Act.put, s_put, s_0, s_1]
        refine wpAnyH_take (i := 24) (oi := ⟨some 121, .load 3 (.tmp 120), 3, _, _, _⟩) (v := undef) rfl (by kernel_rfl) (by kernel_rfl) (by kernel_rfl) (fun _ _ _ h => h) (Or.inr ⟨by rfl, rfl⟩) hHeld ?rest24q3yes
        try simp only [Act.put, s_put, s_0, s_1]
        refine wpAnyH_take (i := 25) (oi := ⟨some 122, .binOp BinOp.eql 3 (.tmp 119) (.tmp 121) 3, 4, _, _, _⟩) (v := undef) rfl (by kernel_rfl) (by kernel_rfl) (by kernel_rfl) (fun _ _ _ h => h) (Or.inr ⟨by rfl, rfl⟩) hHeld ?rest25q3yes
        try simp only [Act.put, s_put, s_0, s_1]
        refine wpAnyH_take (i := 26) (oi := ⟨some 123, .pick (.tmp 113) (.tmp 122) (.const (Value.bool false)), 4, _, _, _⟩) (v := ?v26q3yes) rfl (by kernel_rfl) (by kernel_rfl) (by kernel_rfl) (fun _ _ _ h => h) (Or.inl ⟨by rfl, ?hy26q3yes⟩) hHeld ?rest26q3yes
        case hy26q3yes => intro w9 hSw; go_simp; (try with_reducible rfl)
        try simp only [Act.put, s_put, s_0, s_1]
        refine wpAnyH_take (i := 27) (oi := ⟨some 124, .pick (.tmp 104) (.const (Value.bool true)) (.tmp 123), 4, _, _, _⟩) (v := ?v27q3yes) rfl (by kernel_rfl) (by kernel_rfl) (by kernel_rfl) (fun _ _ _ h => h) (Or.inl ⟨by rfl, ?hy27q3yes⟩) hHeld ?rest27q3yes
        case hy27q3yes => intro w9 hSw; go_simp; (try with_reducible rfl)
        try simp only [Act.put, s_put, s_0, s_1]
        refine wpAnyH_done (by kernel_rfl) ?_ _
        refine NoPanic.normal ?_
        have hB3 := hB.trans (hT.mono hB.size)
        go_wp2
        go_roundw
        case rel => exact ⟨i + 1, HK.out, by go_num, fun j hj => by by_cases e : j = i; (· rw [e]; exact HT.out); exact HD.out j (by omega), hB3⟩
        case measure => have := HK.out; simp [intOf]; omega
      · have hc : Hid (∀ d, Below wr.heap.size wr d → Calls Tryz.prog 85 #[(x.c i).val] d fun e w' => e = .returned (.bool false) ∧ Below d.heap.size d w') := fun d h => (hcc.out d h).mono fun e w' hh => by
          obtain ⟨r, h1, h2, h3⟩ := hh
          refine ⟨?_, h3⟩
          cases r with
          | true => exact absurd (h2.1 rfl) ht
          | false => exact h1
        have HT : Hid (¬ TreeR (x.c i)) := ht
        clear ht hcc
        go_wp2_with fail
        refine wp_region_noPanic ?_
        refine wp_region_held_drew (S := fun w' => Below wr.heap.size wr w') (by kernel_rfl) ((Below.refl _ _).drew) (fun hHeld => ?_)
        have hT : Below wr.heap.size wr wr.drew := hHeld
        obtain ⟨d, hd⟩ : ∃ d, d = wr.drew := ⟨_, rfl⟩
        rw [← hd] at hHeld hT ⊢
        clear hd
        refine wpAnyH_take (i := 0) (oi := ⟨some 97, .fieldAddr 51 (.tmp 1) 4, 0, _, _, _⟩) (v := ?v0q3no) rfl (by kernel_rfl) (by kernel_rfl) (by kernel_rfl) (fun _ _ _ h => h) (Or.inl ⟨by rfl, ?hy0q3no⟩) hHeld ?rest0q3no
        case hy0q3no => intro w9 hSw; go_simp; (try with_reducible rfl)
        try simp only [Act.put, s_put, s_0, s_1]
        refine wpAnyH_take (i := 1) (oi := ⟨some 98, .load 25 (.tmp 97), 25, _, _, _⟩) (v := ?v1q3no) rfl (by kernel_rfl) (by kernel_rfl) (by kernel_rfl) (fun _ _ _ h => h) (Or.inl ⟨by rfl, ?hy1q3no⟩) hHeld ?rest1q3no
        case hy1q3no => intro w9 hSw; have cc := cell_later C6.out hSw; go_simp; (try with_reducible rfl)
        try simp only [Act.put, s_put, s_0, s_1]
        refine wpAnyH_take (i := 2) (oi := ⟨some 99, .move (.tmp 4), 3, _, _, _⟩) (v := ?v2q3no) rfl (by kernel_rfl) (by kernel_rfl) (by kernel_rfl) (fun _ _ _ h => h) (Or.inl ⟨by rfl, ?hy2q3no⟩) hHeld ?rest2q3no
        case hy2q3no => intro w9 hSw; go_simp; (try with_reducible rfl)
        try simp only [Act.put, s_put, s_0, s_1]
        refine wpAnyH_take (i := 3) (oi := ⟨some 100, .indexAddr 25 (.tmp 98) (.tmp 99), 0, _, _, _⟩) (v := ?v3q3no) rfl (by kernel_rfl) (by kernel_rfl) (by kernel_rfl) (fun _ _ _ h => h) (Or.inl ⟨by rfl, ?hy3q3no⟩) hHeld ?rest3q3no
        case hy3q3no => intro w9 hSw; go_simp; (try with_reducible rfl)
        try simp only [Act.put, s_put, s_0, s_1]
        refine wpAnyH_take (i := 4) (oi := ⟨some 101, .load 51 (.tmp 100), 51, _, _, _⟩) (v := ?v4q3no) rfl (by kernel_rfl) (by kernel_rfl) (by kernel_rfl) (fun _ _ _ h => h) (Or.inl ⟨by rfl, ?hy4q3no⟩) hHeld ?rest4q3no
        case hy4q3no => intro w9 hSw; obtain ⟨d0, d1, d2, d3, d4, d5, d6⟩ := N1.out.later hSw; go_simp; (try with_reducible rfl)
        try simp only [Act.put, s_put, s_0, s_1]
        refine wpAnyH_ready (rs := [5]) (by kernel_rfl) (by simp) ?_
        refine AllReadyH.cons (o := ⟨some 102, .call { callee := .value (.func 85), args := #[.tmp 101], argTypes := #[51] }, 4, _, _, _⟩) rfl (fun K hK => ?_) AllReadyH.nil
        go_simp
        refine (hc.out _ hHeld).mono ?_
        rintro e x5 ⟨rfl, hN5⟩
        go_wp2_with fail
        have hT5 : Below wr.heap.size wr x5 := hT.trans (hN5.mono hT.size)
        refine hK.out _ _ (hHeld.trans (hN5.mono hHeld.size)) (fun _ => held_up (S' := fun w' => Below x5.heap.size x5 w') (fun w' h' => (hHeld.trans (hN5.mono hHeld.size)).trans (h'.mono (Nat.le_trans hHeld.size hN5.size))) _ _ _ _ ?_)
        clear hK K hHeld hT
        have hT : Below wr.heap.size wr x5 := hT5
        have hHeld : Below x5.heap.size x5 x5 := Below.refl _ _
        clear hT5 hN5
        try simp only [Act.put, s_put, s_0, s_1]
        refine wpAnyH_take (i := 6) (oi := ⟨some 103, .unOp UnOp.not 4 (.tmp 102), 4, _, _, _⟩) (v := ?v6q3no) rfl (by kernel_rfl) (by kernel_rfl) (by kernel_rfl) (fun _ _ _ h => h) (Or.inl ⟨by rfl, ?hy6q3no⟩) hHeld ?rest6q3no
        case hy6q3no => intro w9 hSw; go_simp; (try with_reducible rfl)
        try simp only [Act.put, s_put, s_0, s_1]
        refine wpAnyH_take (i := 7) (oi := ⟨some 104, .move (.tmp 103), 4, _, _, _⟩) (v := ?v7q3no) rfl (by kernel_rfl) (by kernel_rfl) (by kernel_rfl) (fun _ _ _ h => h) (Or.inl ⟨by rfl, ?hy7q3no⟩) hHeld ?rest7q3no
        case hy7q3no => intro w9 hSw; go_simp; (try with_reducible rfl)
        try simp only [Act.put, s_put, s_0, s_1]
        refine wpAnyH_take (i := 8) (oi := ⟨some 105, .fieldAddr 51 (.tmp 1) 0, 0, _, _, _⟩) (v := undef) rfl (by kernel_rfl) (by kernel_rfl) (by kernel_rfl) (fun _ _ _ h => h) (Or.inr ⟨by rfl, rfl⟩) hHeld ?rest8q3no
        try simp only [Act.put, s_put, s_0, s_1]
        refine wpAnyH_take (i := 9) (oi := ⟨some 106, .load 3 (.tmp 105), 3, _, _, _⟩) (v := undef) rfl (by kernel_rfl) (by kernel_rfl) (by kernel_rfl) (fun _ _ _ h => h) (Or.inr ⟨by rfl, rfl⟩) hHeld ?rest9q3no
        try simp only [Act.put, s_put, s_0, s_1]
        refine wpAnyH_take (i := 10) (oi := ⟨some 107, .binOp BinOp.eql 3 (.tmp 106) (.const (Value.int IntKind.i64 16)) 3, 4, _, _, _⟩) (v := undef) rfl (by kernel_rfl) (by kernel_rfl) (by kernel_rfl) (fun _ _ _ h => h) (Or.inr ⟨by rfl, rfl⟩) hHeld ?rest10q3no
        try simp only [Act.put, s_put, s_0, s_1]
        refine wpAnyH_take (i := 11) (oi := ⟨some 108, .move (.tmp 107), 4, _, _, _⟩) (v := undef) rfl (by kernel_rfl) (by kernel_rfl) (by kernel_rfl) (fun _ _ _ h => h) (Or.inr ⟨by rfl, rfl⟩) hHeld ?rest11q3no
        try simp only [Act.put, s_put, s_0, s_1]
        refine wpAnyH_take (i := 12) (oi := ⟨some 109, .fieldAddr 51 (.tmp 1) 0, 0, _, _, _⟩) (v := undef) rfl (by kernel_rfl) (by kernel_rfl) (by kernel_rfl) (fun _ _ _ h => h) (Or.inr ⟨by rfl, rfl⟩) hHeld ?rest12q3no
        try simp only [Act.put, s_put, s_0, s_1]
        refine wpAnyH_take (i := 13) (oi := ⟨some 110, .load 3 (.tmp 109), 3, _, _, _⟩) (v := undef) rfl (by kernel_rfl) (by kernel_rfl) (by kernel_rfl) (fun _ _ _ h => h) (Or.inr ⟨by rfl, rfl⟩) hHeld ?rest13q3no
        try simp only [Act.put, s_put, s_0, s_1]
        refine wpAnyH_take (i := 14) (oi := ⟨some 111, .binOp BinOp.eql 3 (.tmp 110) (.const (Value.int IntKind.i64 17)) 3, 4, _, _, _⟩) (v := undef) rfl (by kernel_rfl) (by kernel_rfl) (by kernel_rfl) (fun _ _ _ h => h) (Or.inr ⟨by rfl, rfl⟩) hHeld ?rest14q3no
        try simp only [Act.put, s_put, s_0, s_1]
        refine wpAnyH_take (i := 15) (oi := ⟨some 112, .pick (.tmp 108) (.const (Value.bool true)) (.tmp 111), 4, _, _, _⟩) (v := undef) rfl (by kernel_rfl) (by kernel_rfl) (by kernel_rfl) (fun _ _ _ h => h) (Or.inr ⟨by rfl, rfl⟩) hHeld ?rest15q3no
        try simp only [Act.put, s_put, s_0, s_1]
        refine wpAnyH_take (i := 16) (oi := ⟨some 113, .move (.tmp 112), 4, _, _, _⟩) (v := undef) rfl (by kernel_rfl) (by kernel_rfl) (by kernel_rfl) (fun _ _ _ h => h) (Or.inr ⟨by rfl, rfl⟩) hHeld ?rest16q3no
        try simp only [Act.put, s_put, s_0, s_1]
        refine wpAnyH_take (i := 17) (oi := ⟨some 114, .fieldAddr 51 (.tmp 1) 4, 0, _, _, _⟩) (v := undef) rfl (by kernel_rfl) (by kernel_rfl) (by kernel_rfl) (fun _ _ _ h => h) (Or.inr ⟨by rfl, rfl⟩) hHeld ?rest17q3no
        try simp only [Act.put, s_put, s_0, s_1]
        refine wpAnyH_take (i := 18) (oi := ⟨some 115, .load 25 (.tmp 114), 25, _, _, _⟩) (v := undef) rfl (by kernel_rfl) (by kernel_rfl) (by kernel_rfl) (fun _ _ _ h => h) (Or.inr ⟨by rfl, rfl⟩) hHeld ?rest18q3no
        try simp only [Act.put, s_put, s_0, s_1]
        refine wpAnyH_take (i := 19) (oi := ⟨some 116, .move (.tmp 4), 3, _, _, _⟩) (v := undef) rfl (by kernel_rfl) (by kernel_rfl) (by kernel_rfl) (fun _ _ _ h => h) (Or.inr ⟨by rfl, rfl⟩) hHeld ?rest19q3no
        try simp only [Act.put, s_put, s_0, s_1]
        refine wpAnyH_take (i := 20) (oi := ⟨some 117, .indexAddr 25 (.tmp 115) (.tmp 116), 0, _, _, _⟩) (v := undef) rfl (by kernel_rfl) (by kernel_rfl) (by kernel_rfl) (fun _ _ _ h => h) (Or.inr ⟨by rfl, rfl⟩) hHeld ?rest20q3no
        try simp only [Act.put, s_put, s_0, s_1]
        refine wpAnyH_take (i := 21) (oi := ⟨some 118, .fieldAddr 51 (.tmp 117) 0, 0, _, _, _⟩) (v := undef) rfl (by kernel_rfl) (by kernel_rfl) (by kernel_rfl) (fun _ _ _ h => h) (Or.inr ⟨by rfl, rfl⟩) hHeld ?rest21q3no
        try simp only [Act.put, s_put, s_0, s_1]
        refine wpAnyH_take (i := 22) (oi := ⟨some 119, .load 3 (.tmp 118), 3, _, _, _⟩) (v := undef) rfl (by kernel_rfl) (by kernel_rfl) (by kernel_rfl) (fun _ _ _ h => h) (Or.inr ⟨by rfl, rfl⟩) hHeld ?rest22q3no
        try simp only [Act.put, s_put, s_0, s_1]
        refine wpAnyH_take (i := 23) (oi := ⟨some 120, .fieldAddr 51 (.tmp 1) 0, 0, _, _, _⟩) (v := undef) rfl (by kernel_rfl) (by kernel_rfl) (by kernel_rfl) (fun _ _ _ h => h) (Or.inr ⟨by rfl, rfl⟩) hHeld ?rest23q3no
        try simp only [Act.put, s_put, s_0, s_1]
        refine wpAnyH_take (i := 24) (oi := ⟨some 121, .load 3 (.tmp 120), 3, _, _, _⟩) (v := undef) rfl (by kernel_rfl) (by kernel_rfl) (by kernel_rfl) (fun _ _ _ h => h) (Or.inr ⟨by rfl, rfl⟩) hHeld ?rest24q3no
        try simp only [Act.put, s_put, s_0, s_1]
        refine wpAnyH_take (i := 25) (oi := ⟨some 122, .binOp BinOp.eql 3 (.tmp 119) (.tmp 121) 3, 4, _, _, _⟩) (v := undef) rfl (by kernel_rfl) (by kernel_rfl) (by kernel_rfl) (fun _ _ _ h => h) (Or.inr ⟨by rfl, rfl⟩) hHeld ?rest25q3no
        try simp only [Act.put, s_put, s_0, s_1]
        refine wpAnyH_take (i := 26) (oi := ⟨some 123, .pick (.tmp 113) (.tmp 122) (.const (Value.bool false)), 4, _, _, _⟩) (v := undef) rfl (by kernel_rfl) (by kernel_rfl) (by kernel_rfl) (fun _ _ _ h => h) (Or.inr ⟨by rfl, rfl⟩) hHeld ?rest26q3no
        try simp only [Act.put, s_put, s_0, s_1]
        refine wpAnyH_take (i := 27) (oi := ⟨some 124, .pick (.tmp 104) (.const (Value.bool true)) (.tmp 123), 4, _, _, _⟩) (v := ?v27q3no) rfl (by kernel_rfl) (by kernel_rfl) (by kernel_rfl) (fun _ _ _ h => h) (Or.inl ⟨by rfl, ?hy27q3no⟩) hHeld ?rest27q3no
        case hy27q3no => intro w9 hSw; go_simp; (try with_reducible rfl)
        try simp only [Act.put, s_put, s_0, s_1]
        refine wpAnyH_done (by kernel_rfl) ?_ _
        refine NoPanic.normal ?_
        have hB3 := hB.trans (hT.mono hB.size)
        go_wp2
        try rw [Exit.noGoto_ret]
        go_ret
        refine ⟨false, rfl, ⟨fun h => (by cases h), fun h => ?_⟩, HB.out.trans (hB3.mono (by omega))⟩
        exact absurd (((treeR_eq x).1 h).2 i HK.out) HT.out
    · obtain rfl : i = x.n := by omega
      go_wp2
      go_ret
      exact ⟨true, rfl, ⟨fun _ => (treeR_eq x).2 ⟨HNR.out, fun j hj => HD.out j hj⟩, fun _ => rfl⟩, hw⟩
set_option maxRecDepth 100000 in
set_option maxHeartbeats 2000000 in
theorem refR_15 (x : X) (w : World) (hX : IsX w x) (HI : Hid (∀ i, i < x.n → ∀ w, IsX w (x.c i) → Calls Tryz.prog 85 #[(x.c i).val] w fun e w' => ∃ r, e = .returned (.bool r) ∧ (r = true ↔ TreeR (x.c i)) ∧ Below w.heap.size w w')) (hk : x.k = 15) (hv : x.v = val0) (hsf : x.s = ⟨#[]⟩ ∧ x.f = ⟨#[]⟩) (hn0 : x.n = 1) :
    Calls Tryz.prog 85 #[x.val] w fun e w' => ∃ r, e = .returned (.bool r) ∧ (r = true ↔ TreeR x) ∧ Below w.heap.size w w' := by
  obtain ⟨A, hA, hB, hs, hn⟩ := one_box x w
  obtain ⟨a0, a1, a2, a3, a4, a5, a6⟩ := hn.at0
  have HB : Hid (Below w.heap.size w A) := hB
  have HN : Hid (Node A w.heap.size 0 x) := hn
  have HX : Hid (IsX w x) := hX
  have hlen := hX.len
  have HNR : Hid (NodeR x) := (⟨fun _ => hv, fun _ => hsf, .inr (.inr (.inl ⟨by omega, hn0⟩))⟩ : NodeR x)
  have HKK : Hid (x.k = 15) := hk
  have t1 : ((x.n : Int) != 1) = false := by simp; omega
  clear hX hn0
  rw [hk] at a0
  clear hk
  rw [hv] at a1 a2 a3
  have v1 : val0.k = 0 := rfl
  have v2 : val0.n = 0 := rfl
  have v3 : val0.s = ⟨#[]⟩ := rfl
  rw [v1] at a1
  rw [v2] at a2
  rw [v3] at a3
  clear v1 v2 v3 hv
  rw [hsf.1] at a4
  rw [hsf.2] at a5
  clear hsf
  clear hB hn
  go_enter Tryz.func85, Tryz.ntmps85
  go_wp2_with fail
  clear t1
  go_loopw [4] (fun u wr => ∃ i : Nat, i ≤ x.n ∧ u = .int .i64 i ∧ Hid (∀ j, j < i → TreeR (x.c j)) ∧ Below A.heap.size A wr) (fun u _ => x.n - (intOf u).toNat)
  case atStart => exact ⟨0, Nat.zero_le _, rfl, fun j hj => by omega, Below.refl _ _⟩
  case round =>
    obtain ⟨i, hi, rfl, HD, hB⟩ := hrel
    have hw := HB.out.trans (hB.mono (by omega))
    by_cases hin : i < x.n
    · obtain ⟨b, o, ea, hn, hx⟩ := (HX.out.later hw).part hin
      have HK : Hid (i < x.n) := hin
      have C0 : Hid (wr.cell? ⟨w.heap.size, 0, none⟩ = some (.int .i64 15)) := by have := (node_on HN.out (hB.mono (by omega))).at0.1; rw [HKK.out] at this; exact this
      have C6 : Hid (wr.cell? ⟨w.heap.size, 6, none⟩ = some (.slice (some ⟨b, o, none⟩) x.n x.cap)) := by have := (node_on HN.out (hB.mono (by omega))).at0.2.2.2.2.2.2; rw [ea] at this; exact this
      have N1 : Hid (Node wr b (o + i * 7) (x.c i)) := hn
      have hcc : Hid (∀ d, Below wr.heap.size wr d → Calls Tryz.prog 85 #[(x.c i).val] d fun e w' => ∃ r, e = .returned (.bool r) ∧ (r = true ↔ TreeR (x.c i)) ∧ Below d.heap.size d w') := fun d h => HI.out i hin d (hx.later h)
      clear hx hn ea
      by_cases ht : TreeR (x.c i)
      · have hc : Hid (∀ d, Below wr.heap.size wr d → Calls Tryz.prog 85 #[(x.c i).val] d fun e w' => e = .returned (.bool true) ∧ Below d.heap.size d w') := fun d h => (hcc.out d h).mono fun e w' hh => by
          obtain ⟨r, h1, h2, h3⟩ := hh
          exact ⟨by rw [h1, h2.2 ht], h3⟩
        have HT : Hid (TreeR (x.c i)) := ht
        clear ht hcc
        go_wp2_with fail
        refine wp_region_noPanic ?_
        refine wp_region_held_drew (S := fun w' => Below wr.heap.size wr w') (by kernel_rfl) ((Below.refl _ _).drew) (fun hHeld => ?_)
        have hT : Below wr.heap.size wr wr.drew := hHeld
        obtain ⟨d, hd⟩ : ∃ d, d = wr.drew := ⟨_, rfl⟩
        rw [← hd] at hHeld hT ⊢
        clear hd
        refine wpAnyH_take (i := 0) (oi := ⟨some 97, .fieldAddr 51 (.tmp 1) 4, 0, _, _, _⟩) (v := ?v0q15yes) rfl (by kernel_rfl) (by kernel_rfl) (by kernel_rfl) (fun _ _ _ h => h) (Or.inl ⟨by rfl, ?hy0q15yes⟩) hHeld ?rest0q15yes
        case hy0q15yes => intro w9 hSw; go_simp; (try with_reducible rfl)
        try simp only [Act.put, s_put, s_0, s_1]
        refine wpAnyH_take (i := 1) (oi := ⟨some 98, .load 25 (.tmp 97), 25, _, _, _⟩) (v := ?v1q15yes) rfl (by kernel_rfl) (by kernel_rfl) (by kernel_rfl) (fun _ _ _ h => h) (Or.inl ⟨by rfl, ?hy1q15yes⟩) hHeld ?rest1q15yes
        case hy1q15yes => intro w9 hSw; have cc := cell_later C6.out hSw; go_simp; (try with_reducible rfl)
        try simp only [Act.put, s_put, s_0, s_1]
        refine wpAnyH_take (i := 2) (oi := ⟨some 99, .move (.tmp 4), 3, _, _, _⟩) (v := ?v2q15yes) rfl (by kernel_rfl) (by kernel_rfl) (by kernel_rfl) (fun _ _ _ h => h) (Or.inl ⟨by rfl, ?hy2q15yes⟩) hHeld ?rest2q15yes
        case hy2q15yes => intro w9 hSw; go_simp; (try with_reducible rfl)
        try simp only [Act.put, s_put, s_0, s_1]
        refine wpAnyH_take (i := 3) (oi := ⟨some 100, .indexAddr 25 (.tmp 98) (.tmp 99), 0, _, _, _⟩) (v := ?v3q15yes) rfl (by kernel_rfl) (by kernel_rfl) (by kernel_rfl) (fun _ _ _ h => h) (Or.inl ⟨by rfl, ?hy3q15yes⟩) hHeld ?rest3q15yes
        case hy3q15yes => intro w9 hSw; go_simp; (try with_reducible rfl)
        try simp only [Act.put, s_put, s_0, s_1]
        refine wpAnyH_take (i := 4) (oi := ⟨some 101, .load 51 (.tmp 100), 51, _, _, _⟩) (v := ?v4q15yes) rfl (by kernel_rfl) (by kernel_rfl) (by kernel_rfl) (fun _ _ _ h => h) (Or.inl ⟨by rfl, ?hy4q15yes⟩) hHeld ?rest4q15yes
        case hy4q15yes => intro w9 hSw; obtain ⟨d0, d1, d2, d3, d4, d5, d6⟩ := N1.out.later hSw; go_simp; (try with_reducible rfl)
        try simp only [Act.put, s_put, s_0, s_1]
        refine wpAnyH_ready (rs := [5]) (by kernel_rfl) (by simp) ?_
        refine AllReadyH.cons (o := ⟨some 102, .call { callee := .value (.func 85), args := #[.tmp 101], argTypes := #[51] }, 4, _, _, _⟩) rfl (fun K hK => ?_) AllReadyH.nil
        go_simp
        refine (hc.out _ hHeld).mono ?_
        rintro e x5 ⟨rfl, hN5⟩
        go_wp2_with fail
        have hT5 : Below wr.heap.size wr x5 := hT.trans (hN5.mono hT.size)
        refine hK.out _ _ (hHeld.trans (hN5.mono hHeld.size)) (fun _ => held_up (S' := fun w' => Below x5.heap.size x5 w') (fun w' h' => (hHeld.trans (hN5.mono hHeld.size)).trans (h'.mono (Nat.le_trans hHeld.size hN5.size))) _ _ _ _ ?_)
        clear hK K hHeld hT
        have hT : Below wr.heap.size wr x5 := hT5
        have hHeld : Below x5.heap.size x5 x5 := Below.refl _ _
        clear hT5 hN5
        try simp only [Act.put, s_put, s_0, s_1]
        refine wpAnyH_take (i := 6) (oi := ⟨some 103, .unOp UnOp.not 4 (.tmp 102), 4, _, _, _⟩) (v := ?v6q15yes) rfl (by kernel_rfl) (by kernel_rfl) (by kernel_rfl) (fun _ _ _ h => h) (Or.inl ⟨by rfl, ?hy6q15yes⟩) hHeld ?rest6q15yes
        case hy6q15yes => intro w9 hSw; go_simp; (try with_reducible rfl)
        try simp only [Act.put, s_put, s_0, s_1]
        refine wpAnyH_take (i := 7) (oi := ⟨some 104, .move (.tmp 103), 4, _, _, _⟩) (v := ?v7q15yes) rfl (by kernel_rfl) (by kernel_rfl) (by kernel_rfl) (fun _ _ _ h => h) (Or.inl ⟨by rfl, ?hy7q15yes⟩) hHeld ?rest7q15yes
        case hy7q15yes => intro w9 hSw; go_simp; (try with_reducible rfl)
        try simp only [Act.put, s_put, s_0, s_1]
        refine wpAnyH_take (i := 8) (oi := ⟨some 105, .fieldAddr 51 (.tmp 1) 0, 0, _, _, _⟩) (v := ?v8q15yes) rfl (by kernel_rfl) (by kernel_rfl) (by kernel_rfl) (fun _ _ _ h => h) (Or.inl ⟨by rfl, ?hy8q15yes⟩) hHeld ?rest8q15yes
        case hy8q15yes => intro w9 hSw; go_simp; (try with_reducible rfl)
        try simp only [Act.put, s_put, s_0, s_1]
        refine wpAnyH_take (i := 9) (oi := ⟨some 106, .load 3 (.tmp 105), 3, _, _, _⟩) (v := ?v9q15yes) rfl (by kernel_rfl) (by kernel_rfl) (by kernel_rfl) (fun _ _ _ h => h) (Or.inl ⟨by rfl, ?hy9q15yes⟩) hHeld ?rest9q15yes
        case hy9q15yes => intro w9 hSw; have cc := cell_later C0.out (hT.trans (hSw.mono hT.size)); go_simp; (try with_reducible rfl)
        try simp only [Act.put, s_put, s_0, s_1]
        refine wpAnyH_take (i := 10) (oi := ⟨some 107, .binOp BinOp.eql 3 (.tmp 106) (.const (Value.int IntKind.i64 16)) 3, 4, _, _, _⟩) (v := ?v10q15yes) rfl (by kernel_rfl) (by kernel_rfl) (by kernel_rfl) (fun _ _ _ h => h) (Or.inl ⟨by rfl, ?hy10q15yes⟩) hHeld ?rest10q15yes
        case hy10q15yes => intro w9 hSw; go_simp; (try with_reducible rfl)
        try simp only [Act.put, s_put, s_0, s_1]
        refine wpAnyH_take (i := 11) (oi := ⟨some 108, .move (.tmp 107), 4, _, _, _⟩) (v := ?v11q15yes) rfl (by kernel_rfl) (by kernel_rfl) (by kernel_rfl) (fun _ _ _ h => h) (Or.inl ⟨by rfl, ?hy11q15yes⟩) hHeld ?rest11q15yes
        case hy11q15yes => intro w9 hSw; go_simp; (try with_reducible rfl)
        try simp only [Act.put, s_put, s_0, s_1]
        refine wpAnyH_take (i := 12) (oi := ⟨some 109, .fieldAddr 51 (.tmp 1) 0, 0, _, _, _⟩) (v := ?v12q15yes) rfl (by kernel_rfl) (by kernel_rfl) (by kernel_rfl) (fun _ _ _ h => h) (Or.inl ⟨by rfl, ?hy12q15yes⟩) hHeld ?rest12q15yes
        case hy12q15yes => intro w9 hSw; go_simp; (try with_reducible rfl)
        try simp only [Act.put, s_put, s_0, s_1]
        refine wpAnyH_take (i := 13) (oi := ⟨some 110, .load 3 (.tmp 109), 3, _, _, _⟩) (v := ?v13q15yes) rfl (by kernel_rfl) (by kernel_rfl) (by kernel_rfl) (fun _ _ _ h => h) (Or.inl ⟨by rfl, ?hy13q15yes⟩) hHeld ?rest13q15yes
        case hy13q15yes => intro w9 hSw; have cc := cell_later C0.out (hT.trans (hSw.mono hT.size)); go_simp; (try with_reducible rfl)
        try simp only [Act.put, s_put, s_0, s_1]
        refine wpAnyH_take (i := 14) (oi := ⟨some 111, .binOp BinOp.eql 3 (.tmp 110) (.const (Value.int IntKind.i64 17)) 3, 4, _, _, _⟩) (v := ?v14q15yes) rfl (by kernel_rfl) (by kernel_rfl) (by kernel_rfl) (fun _ _ _ h => h) (Or.inl ⟨by rfl, ?hy14q15yes⟩) hHeld ?rest14q15yes
        case hy14q15yes => intro w9 hSw; go_simp; (try with_reducible rfl)
        try simp only [Act.put, s_put, s_0, s_1]
        refine wpAnyH_take (i := 15) (oi := ⟨some 112, .pick (.tmp 108) (.const (Value.bool true)) (.tmp 111), 4, _, _, _⟩) (v := ?v15q15yes) rfl (by kernel_rfl) (by kernel_rfl) (by kernel_rfl) (fun _ _ _ h => h) (Or.inl ⟨by rfl, ?hy15q15yes⟩) hHeld ?rest15q15yes
        case hy15q15yes => intro w9 hSw; go_simp; (try with_reducible rfl)
        try simp only [Act.put, s_put, s_0, s_1]
        refine wpAnyH_take (i := 16) (oi := ⟨some 113, .move (.tmp 112), 4, _, _, _⟩) (v := ?v16q15yes) rfl (by kernel_rfl) (by kernel_rfl) (by kernel_rfl) (fun _ _ _ h => h) (Or.inl ⟨by rfl, ?hy16q15yes⟩) hHeld ?rest16q15yes
        case hy16q15yes => intro w9 hSw; go_simp; (try with_reducible rfl)
        try simp only [Act.put, s_put, s_0, s_1]
        refine wpAnyH_take (i := 17) (oi := ⟨some 114, .fieldAddr 51 (.tmp 1) 4, 0, _, _, _⟩) (v := undef) rfl (by kernel_rfl) (by kernel_rfl) (by kernel_rfl) (fun _ _ _ h => h) (Or.inr ⟨by rfl, rfl⟩) hHeld ?rest17q15yes
        try simp only [Act.put, s_put, s_0, s_1]
        refine wpAnyH_take (i := 18) (oi := ⟨some 115, .load 25 (.tmp 114), 25, _, _, _⟩) (v := undef) rfl (by kernel_rfl) (by kernel_rfl) (by kernel_rfl) (fun _ _ _ h => h) (Or.inr ⟨by rfl, rfl⟩) hHeld ?rest18q15yes
        try simp only [Act.put, s_put, s_0, s_1]
        refine wpAnyH_take (i := 19) (oi := ⟨some 116, .move (.tmp 4), 3, _, _, _⟩) (v := undef) rfl (by kernel_rfl) (by kernel_rfl) (by kernel_rfl) (fun _ _ _ h => h) (Or.inr ⟨by rfl, rfl⟩) hHeld ?rest19q15yes
        try simp only [Act.put, s_put, s_0, s_1]
        refine wpAnyH_take (i := 20) (oi := ⟨some 117, .indexAddr 25 (.tmp 115) (.tmp 116), 0, _, _, _⟩) (v := undef) rfl (by kernel_rfl) (by kernel_rfl) (by kernel_rfl) (fun _ _ _ h => h) (Or.inr ⟨by rfl, rfl⟩) hHeld ?rest20q15yes
        try simp only [Act.put, s_put, s_0, s_1]
        refine wpAnyH_take (i := 21) (oi := ⟨some 118, .fieldAddr 51 (.tmp 117) 0, 0, _, _, _⟩) (v := undef) rfl (by kernel_rfl) (by kernel_rfl) (by kernel_rfl) (fun _ _ _ h => h) (Or.inr ⟨by rfl, rfl⟩) hHeld ?rest21q15yes
        try simp only [Act.put, s_put, s_0, s_1]
        refine wpAnyH_take (i := 22) (oi := ⟨some 119, .load 3 (.tmp 118), 3, _, _, _⟩) (v := undef) rfl (by kernel_rfl) (by kernel_rfl) (by kernel_rfl) (fun _ _ _ h => h) (Or.inr ⟨by rfl, rfl⟩) hHeld ?rest22q15yes
        try simp only [Act.put, s_put, s_0, s_1]
        refine wpAnyH_take (i := 23) (oi := ⟨some 120, .fieldAddr 51 (.tmp 1) 0, 0, _, _, _⟩) (v := undef) rfl (by kernel_rfl) (by kernel_rfl) (by kernel_rfl) (fun _ _ _ h => h) (Or.inr ⟨by rfl, rfl⟩) hHeld ?rest23q15yes
        try simp only [Act.put, s_put, s_0, s_1]
        refine wpAnyH_take (i := 24) (oi := ⟨some 121, .load 3 (.tmp 120), 3, _, _, _⟩) (v := undef) rfl (by kernel_rfl) (by kernel_rfl) (by kernel_rfl) (fun _ _ _ h => h) (Or.inr ⟨by rfl, rfl⟩) hHeld ?rest24q15yes
        try simp only [Act.put, s_put, s_0, s_1]
        refine wpAnyH_take (i := 25) (oi := ⟨some 122, .binOp BinOp.eql 3 (.tmp 119) (.tmp 121) 3, 4, _, _, _⟩) (v := undef) rfl (by kernel_rfl) (by kernel_rfl) (by kernel_rfl) (fun _ _ _ h => h) (Or.inr ⟨by rfl, rfl⟩) hHeld ?rest25q15yes
        try simp only [Act.put, s_put, s_0, s_1]
        refine wpAnyH_take (i := 26) (oi := ⟨some 123, .pick (.tmp 113) (.tmp 122) (.const (Value.bool false)), 4, _, _, _⟩) (v := ?v26q15yes) rfl (by kernel_rfl) (by kernel_rfl) (by kernel_rfl) (fun _ _ _ h => h) (Or.inl ⟨by rfl, ?hy26q15yes⟩) hHeld ?rest26q15yes
        case hy26q15yes => intro w9 hSw; go_simp; (try with_reducible rfl)
        try simp only [Act.put, s_put, s_0, s_1]
        refine wpAnyH_take (i := 27) (oi := ⟨some 124, .pick (.tmp 104) (.const (Value.bool true)) (.tmp 123), 4, _, _, _⟩) (v := ?v27q15yes) rfl (by kernel_rfl) (by kernel_rfl) (by kernel_rfl) (fun _ _ _ h => h) (Or.inl ⟨by rfl, ?hy27q15yes⟩) hHeld ?rest27q15yes
        case hy27q15yes => intro w9 hSw; go_simp; (try with_reducible rfl)
        try simp only [Act.put, s_put, s_0, s_1]
        refine wpAnyH_done (by kernel_rfl) ?_ _
        refine NoPanic.normal ?_
        have hB3 := hB.trans (hT.mono hB.size)
        go_wp2
        go_roundw
        case rel => exact ⟨i + 1, HK.out, by go_num, fun j hj => by by_cases e : j = i; (· rw [e]; exact HT.out); exact HD.out j (by omega), hB3⟩
        case measure => have := HK.out; simp [intOf]; omega
      · have hc : Hid (∀ d, Below wr.heap.size wr d → Calls Tryz.prog 85 #[(x.c i).val] d fun e w' => e = .returned (.bool false) ∧ Below d.heap.size d w') := fun d h => (hcc.out d h).mono fun e w' hh => by
          obtain ⟨r, h1, h2, h3⟩ := hh
          refine ⟨?_, h3⟩
          cases r with
          | true => exact absurd (h2.1 rfl) ht
          | false => exact h1
        have HT : Hid (¬ TreeR (x.c i)) := ht
        clear ht hcc
        go_wp2_with fail
        refine wp_region_noPanic ?_
        refine wp_region_held_drew (S := fun w' => Below wr.heap.size wr w') (by kernel_rfl) ((Below.refl _ _).drew) (fun hHeld => ?_)
        have hT : Below wr.heap.size wr wr.drew := hHeld
        obtain ⟨d, hd⟩ : ∃ d, d = wr.drew := ⟨_, rfl⟩
        rw [← hd] at hHeld hT ⊢
        clear hd
        refine wpAnyH_take (i := 0) (oi := ⟨some 97, .fieldAddr 51 (.tmp 1) 4, 0, _, _, _⟩) (v := ?v0q15no) rfl (by kernel_rfl) (by kernel_rfl) (by kernel_rfl) (fun _ _ _ h => h) (Or.inl ⟨by rfl, ?hy0q15no⟩) hHeld ?rest0q15no
        case hy0q15no => intro w9 hSw; go_simp; (try with_reducible rfl)
        try simp only [Act.put, s_put, s_0, s_1]
        refine wpAnyH_take (i := 1) (oi := ⟨some 98, .load 25 (.tmp 97), 25, _, _, _⟩) (v := ?v1q15no) rfl (by kernel_rfl) (by kernel_rfl) (by kernel_rfl) (fun _ _ _ h => h) (Or.inl ⟨by rfl, ?hy1q15no⟩) hHeld ?rest1q15no
        case hy1q15no => intro w9 hSw; have cc := cell_later C6.out hSw; go_simp; (try with_reducible rfl)
        try simp only [Act.put, s_put, s_0, s_1]
        refine wpAnyH_take (i := 2) (oi := ⟨some 99, .move (.tmp 4), 3, _, _, _⟩) (v := ?v2q15no) rfl (by kernel_rfl) (by kernel_rfl) (by kernel_rfl) (fun _ _ _ h => h) (Or.inl ⟨by rfl, ?hy2q15no⟩) hHeld ?rest2q15no
        case hy2q15no => intro w9 hSw; go_simp; (try with_reducible rfl)
        try simp only [Act.put, s_put, s_0, s_1]
        refine wpAnyH_take (i := 3) (oi := ⟨some 100, .indexAddr 25 (.tmp 98) (.tmp 99), 0, _, _, _⟩) (v := ?v3q15no) rfl (by kernel_rfl) (by kernel_rfl) (by kernel_rfl) (fun _ _ _ h => h) (Or.inl ⟨by rfl, ?hy3q15no⟩) hHeld ?rest3q15no
        case hy3q15no => intro w9 hSw; go_simp; (try with_reducible rfl)
        try simp only [Act.put, s_put, s_0, s_1]
        refine wpAnyH_take (i := 4) (oi := ⟨some 101, .load 51 (.tmp 100), 51, _, _, _⟩) (v := ?v4q15no) rfl (by kernel_rfl) (by kernel_rfl) (by kernel_rfl) (fun _ _ _ h => h) (Or.inl ⟨by rfl, ?hy4q15no⟩) hHeld ?rest4q15no
        case hy4q15no => intro w9 hSw; obtain ⟨d0, d1, d2, d3, d4, d5, d6⟩ := N1.out.later hSw; go_simp; (try with_reducible rfl)
        try simp only [Act.put, s_put, s_0, s_1]
        refine wpAnyH_ready (rs := [5]) (by kernel_rfl) (by simp) ?_
        refine AllReadyH.cons (o := ⟨some 102, .call { callee := .value (.func 85), args := #[.tmp 101], argTypes := #[51] }, 4, _, _, _⟩) rfl (fun K hK => ?_) AllReadyH.nil
        go_simp
        refine (hc.out _ hHeld).mono ?_
        rintro e x5 ⟨rfl, hN5⟩
        go_wp2_with fail
        have hT5 : Below wr.heap.size wr x5 := hT.trans (hN5.mono hT.size)
        refine hK.out _ _ (hHeld.trans (hN5.mono hHeld.size)) (fun _ => held_up (S' := fun w' => Below x5.heap.size x5 w') (fun w' h' => (hHeld.trans (hN5.mono hHeld.size)).trans (h'.mono (Nat.le_trans hHeld.size hN5.size))) _ _ _ _ ?_)
        clear hK K hHeld hT
        have hT : Below wr.heap.size wr x5 := hT5
        have hHeld : Below x5.heap.size x5 x5 := Below.refl _ _
        clear hT5 hN5
        try simp only [Act.put, s_put, s_0, s_1]
        refine wpAnyH_take (i := 6) (oi := ⟨some 103, .unOp UnOp.not 4 (.tmp 102), 4, _, _, _⟩) (v := ?v6q15no) rfl (by kernel_rfl) (by kernel_rfl) (by kernel_rfl) (fun _ _ _ h => h) (Or.inl ⟨by rfl, ?hy6q15no⟩) hHeld ?rest6q15no
        case hy6q15no => intro w9 hSw; go_simp; (try with_reducible rfl)
        try simp only [Act.put, s_put, s_0, s_1]
        refine wpAnyH_take (i := 7) (oi := ⟨some 104, .move (.tmp 103), 4, _, _, _⟩) (v := ?v7q15no) rfl (by kernel_rfl) (by kernel_rfl) (by kernel_rfl) (fun _ _ _ h => h) (Or.inl ⟨by rfl, ?hy7q15no⟩) hHeld ?rest7q15no
        case hy7q15no => intro w9 hSw; go_simp; (try with_reducible rfl)
        try simp only [Act.put, s_put, s_0, s_1]
        refine wpAnyH_take (i := 8) (oi := ⟨some 105, .fieldAddr 51 (.tmp 1) 0, 0, _, _, _⟩) (v := undef) rfl (by kernel_rfl) (by kernel_rfl) (by kernel_rfl) (fun _ _ _ h => h) (Or.inr ⟨by rfl, rfl⟩) hHeld ?rest8q15no
        try simp only [Act.put, s_put, s_0, s_1]
        refine wpAnyH_take (i := 9) (oi := ⟨some 106, .load 3 (.tmp 105), 3, _, _, _⟩) (v := undef) rfl (by kernel_rfl) (by kernel_rfl) (by kernel_rfl) (fun _ _ _ h => h) (Or.inr ⟨by rfl, rfl⟩) hHeld ?rest9q15no
        try simp only [Act.put, s_put, s_0, s_1]
        refine wpAnyH_take (i := 10) (oi := ⟨some 107, .binOp BinOp.eql 3 (.tmp 106) (.const (Value.int IntKind.i64 16)) 3, 4, _, _, _⟩) (v := undef) rfl (by kernel_rfl) (by kernel_rfl) (by kernel_rfl) (fun _ _ _ h => h) (Or.inr ⟨by rfl, rfl⟩) hHeld ?rest10q15no
        try simp only [Act.put, s_put, s_0, s_1]
        refine wpAnyH_take (i := 11) (oi := ⟨some 108, .move (.tmp 107), 4, _, _, _⟩) (v := undef) rfl (by kernel_rfl) (by kernel_rfl) (by kernel_rfl) (fun _ _ _ h => h) (Or.inr ⟨by rfl, rfl⟩) hHeld ?rest11q15no
        try simp only [Act.put, s_put, s_0, s_1]
        refine wpAnyH_take (i := 12) (oi := ⟨some 109, .fieldAddr 51 (.tmp 1) 0, 0, _, _, _⟩) (v := undef) rfl (by kernel_rfl) (by kernel_rfl) (by kernel_rfl) (fun _ _ _ h => h) (Or.inr ⟨by rfl, rfl⟩) hHeld ?rest12q15no
        try simp only [Act.put, s_put, s_0, s_1]
        refine wpAnyH_take (i := 13) (oi := ⟨some 110, .load 3 (.tmp 109), 3, _, _, _⟩) (v := undef) rfl (by kernel_rfl) (by kernel_rfl) (by kernel_rfl) (fun _ _ _ h => h) (Or.inr ⟨by rfl, rfl⟩) hHeld ?rest13q15no
        try simp only [Act.put, s_put, s_0, s_1]
        refine wpAnyH_take (i := 14) (oi := ⟨some 111, .binOp BinOp.eql 3 (.tmp 110) (.const (Value.int IntKind.i64 17)) 3, 4, _, _, _⟩) (v := undef) rfl (by kernel_rfl) (by kernel_rfl) (by kernel_rfl) (fun _ _ _ h => h) (Or.inr ⟨by rfl, rfl⟩) hHeld ?rest14q15no
        try simp only [Act.put, s_put, s_0, s_1]
        refine wpAnyH_take (i := 15) (oi := ⟨some 112, .pick (.tmp 108) (.const (Value.bool true)) (.tmp 111), 4, _, _, _⟩) (v := undef) rfl (by kernel_rfl) (by kernel_rfl) (by kernel_rfl) (fun _ _ _ h => h) (Or.inr ⟨by rfl, rfl⟩) hHeld ?rest15q15no
        try simp only [Act.put, s_put, s_0, s_1]
        refine wpAnyH_take (i := 16) (oi := ⟨some 113, .move (.tmp 112), 4, _, _, _⟩) (v := undef) rfl (by kernel_rfl) (by kernel_rfl) (by kernel_rfl) (fun _ _ _ h => h) (Or.inr ⟨by rfl, rfl⟩) hHeld ?rest16q15no
        try simp only [Act.put, s_put, s_0, s_1]
        refine wpAnyH_take (i := 17) (oi := ⟨some 114, .fieldAddr 51 (.tmp 1) 4, 0, _, _, _⟩) (v := undef) rfl (by kernel_rfl) (by kernel_rfl) (by kernel_rfl) (fun _ _ _ h => h) (Or.inr ⟨by rfl, rfl⟩) hHeld ?rest17q15no
        try simp only [Act.put, s_put, s_0, s_1]
        refine wpAnyH_take (i := 18) (oi := ⟨some 115, .load 25 (.tmp 114), 25, _, _, _⟩) (v := undef) rfl (by kernel_rfl) (by kernel_rfl) (by kernel_rfl) (fun _ _ _ h => h) (Or.inr ⟨by rfl, rfl⟩) hHeld ?rest18q15no
        try simp only [Act.put, s_put, s_0, s_1]
        refine wpAnyH_take (i := 19) (oi := ⟨some 116, .move (.tmp 4), 3, _, _, _⟩) (v := undef) rfl (by kernel_rfl) (by kernel_rfl) (by kernel_rfl) (fun _ _ _ h => h) (Or.inr ⟨by rfl, rfl⟩) hHeld ?rest19q15no
        try simp only [Act.put, s_put, s_0, s_1]
        refine wpAnyH_take (i := 20) (oi := ⟨some 117, .indexAddr 25 (.tmp 115) (.tmp 116), 0, _, _, _⟩) (v := undef) rfl (by kernel_rfl) (by kernel_rfl) (by kernel_rfl) (fun _ _ _ h => h) (Or.inr ⟨by rfl, rfl⟩) hHeld ?rest20q15no
        try simp only [Act.put, s_put, s_0, s_1]
        refine wpAnyH_take (i := 21) (oi := ⟨some 118, .fieldAddr 51 (.tmp 117) 0, 0, _, _, _⟩) (v := undef) rfl (by kernel_rfl) (by kernel_rfl) (by kernel_rfl) (fun _ _ _ h => h) (Or.inr ⟨by rfl, rfl⟩) hHeld ?rest21q15no
        try simp only [Act.put, s_put, s_0, s_1]
        refine wpAnyH_take (i := 22) (oi := ⟨some 119, .load 3 (.tmp 118), 3, _, _, _⟩) (v := undef) rfl (by kernel_rfl) (by kernel_rfl) (by kernel_rfl) (fun _ _ _ h => h) (Or.inr ⟨by rfl, rfl⟩) hHeld ?rest22q15no
        try simp only [Act.put, s_put, s_0, s_1]
        refine wpAnyH_take (i := 23) (oi := ⟨some 120, .fieldAddr 51 (.tmp 1) 0, 0, _, _, _⟩) (v := undef) rfl (by kernel_rfl) (by kernel_rfl) (by kernel_rfl) (fun _ _ _ h => h) (Or.inr ⟨by rfl, rfl⟩) hHeld ?rest23q15no
        try simp only [Act.put, s_put, s_0, s_1]
        refine wpAnyH_take (i := 24) (oi := ⟨some 121, .load 3 (.tmp 120), 3, _, _, _⟩) (v := undef) rfl (by kernel_rfl) (by kernel_rfl) (by kernel_rfl) (fun _ _ _ h => h) (Or.inr ⟨by rfl, rfl⟩) hHeld ?rest24q15no
        try simp only [Act.put, s_put, s_0, s_1]
        refine wpAnyH_take (i := 25) (oi := ⟨some 122, .binOp BinOp.eql 3 (.tmp 119) (.tmp 121) 3, 4, _, _, _⟩) (v := undef) rfl (by kernel_rfl) (by kernel_rfl) (by kernel_rfl) (fun _ _ _ h => h) (Or.inr ⟨by rfl, rfl⟩) hHeld ?rest25q15no
        try simp only [Act.put, s_put, s_0, s_1]
        refine wpAnyH_take (i := 26) (oi := ⟨some 123, .pick (.tmp 113) (.tmp 122) (.const (Value.bool false)), 4, _, _, _⟩) (v := undef) rfl (by kernel_rfl) (by kernel_rfl) (by kernel_rfl) (fun _ _ _ h => h) (Or.inr ⟨by rfl, rfl⟩) hHeld ?rest26q15no
        try simp only [Act.put, s_put, s_0, s_1]
        refine wpAnyH_take (i := 27) (oi := ⟨some 124, .pick (.tmp 104) (.const (Value.bool true)) (.tmp 123), 4, _, _, _⟩) (v := ?v27q15no) rfl (by kernel_rfl) (by kernel_rfl) (by kernel_rfl) (fun _ _ _ h => h) (Or.inl ⟨by rfl, ?hy27q15no⟩) hHeld ?rest27q15no
        case hy27q15no => intro w9 hSw; go_simp; (try with_reducible rfl)
        try simp only [Act.put, s_put, s_0, s_1]
        refine wpAnyH_done (by kernel_rfl) ?_ _
        refine NoPanic.normal ?_
        have hB3 := hB.trans (hT.mono hB.size)
        go_wp2
        try rw [Exit.noGoto_ret]
        go_ret
        refine ⟨false, rfl, ⟨fun h => (by cases h), fun h => ?_⟩, HB.out.trans (hB3.mono (by omega))⟩
        exact absurd (((treeR_eq x).1 h).2 i HK.out) HT.out
    · obtain rfl : i = x.n := by omega
      go_wp2
      go_ret
      exact ⟨true, rfl, ⟨fun _ => (treeR_eq x).2 ⟨HNR.out, fun j hj => HD.out j hj⟩, fun _ => rfl⟩, hw⟩
end Go.Proofs.YtfnfegcjgnbgbaaGreatDoor
