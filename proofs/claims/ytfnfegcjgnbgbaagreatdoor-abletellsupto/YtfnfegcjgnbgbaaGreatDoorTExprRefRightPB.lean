/-
  The document's right of conditions that have parts.
-/
import Derived.Test.YtfnfegcjgnbgbaaGreatDoorTBrief
import Derived.Test.YtfnfegcjgnbgbaaGreatDoorTExprRefRightN
namespace Go.Proofs.YtfnfegcjgnbgbaaGreatDoor
open Go.RowKit

set_option maxRecDepth 100000 in
set_option maxHeartbeats 2000000 in
theorem refR_4 (x : X) (w : World) (hX : IsX w x) (HI : Hid (∀ i, i < x.n → ∀ w, IsX w (x.c i) → Calls Tryz.prog 85 #[(x.c i).val] w fun e w' => ∃ r, e = .returned (.bool r) ∧ (r = true ↔ TreeR (x.c i)) ∧ Below w.heap.size w w')) (hk : 4 ≤ x.k ∧ x.k ≤ 14) (hv : x.v = val0) (hsf : x.s = ⟨#[]⟩ ∧ x.f = ⟨#[]⟩) (hn0 : x.n = 2) :
    Calls Tryz.prog 85 #[x.val] w fun e w' => ∃ r, e = .returned (.bool r) ∧ (r = true ↔ TreeR x) ∧ Below w.heap.size w w' := by
  obtain ⟨A, hA, hB, hs, hn⟩ := one_box x w
  obtain ⟨a0, a1, a2, a3, a4, a5, a6⟩ := hn.at0
  have HB : Hid (Below w.heap.size w A) := hB
  have HN : Hid (Node A w.heap.size 0 x) := hn
  have HX : Hid (IsX w x) := hX
  have hlen := hX.len
  have HNR : Hid (NodeR x) := (⟨fun _ => hv, fun _ => hsf, .inr (.inr (.inr (.inl ⟨hk.1, hk.2, hn0⟩)))⟩ : NodeR x)
  have p1 : ¬ x.k = 1 := by omega
  have p2 : ¬ x.k = 2 := by omega
  have k1 : (x.k == 1) = false := by simp; omega
  have k2 : (x.k == 2) = false := by simp; omega
  have p3 : ¬ x.k = 3 := by omega
  have p15 : ¬ x.k = 15 := by omega
  have k3 : (x.k == 3) = false := by simp; omega
  have k15 : (x.k == 15) = false := by simp; omega
  have k4 : 4 ≤ x.k := hk.1
  have k14 : x.k ≤ 14 := hk.2
  have p16 : ¬ x.k = 16 := by omega
  have p17 : ¬ x.k = 17 := by omega
  have k16 : (x.k == 16) = false := by simp; omega
  have k17 : (x.k == 17) = false := by simp; omega
  have t1 : ((x.n : Int) != 2) = false := by simp; omega
  clear hX hn0
  clear hk
  rw [hv] at a1 a2 a3
  have v1 : val0.k = 0 := rfl
  have v2 : val0.n = 0 := rfl
  have v3 : val0.s = ⟨#[]⟩ := rfl
  rw [v1] at a1
  rw [v2] at a2
  rw [v3] at a3
  clear v1 v2 v3 hv
  rw [hsf.1] at a4
  rw [hsf.2] at a5
  clear hsf
  clear hB hn
  go_enter Tryz.func85, Tryz.ntmps85
  go_wp2_with fail
  clear t1
  go_loopw [4] (fun u wr => ∃ i : Nat, i ≤ x.n ∧ u = .int .i64 i ∧ Hid (∀ j, j < i → TreeR (x.c j)) ∧ Below A.heap.size A wr) (fun u _ => x.n - (intOf u).toNat)
  case atStart => exact ⟨0, Nat.zero_le _, rfl, fun j hj => by omega, Below.refl _ _⟩
  case round =>
    obtain ⟨i, hi, rfl, HD, hB⟩ := hrel
    have hw := HB.out.trans (hB.mono (by omega))
    by_cases hin : i < x.n
    · obtain ⟨b, o, ea, hn, hx⟩ := (HX.out.later hw).part hin
      have HK : Hid (i < x.n) := hin
      have C0 : Hid (wr.cell? ⟨w.heap.size, 0, none⟩ = some (.int .i64 x.k)) := by have := (node_on HN.out (hB.mono (by omega))).at0.1; exact this
      have C6 : Hid (wr.cell? ⟨w.heap.size, 6, none⟩ = some (.slice (some ⟨b, o, none⟩) x.n x.cap)) := by have := (node_on HN.out (hB.mono (by omega))).at0.2.2.2.2.2.2; rw [ea] at this; exact this
      have N1 : Hid (Node wr b (o + i * 7) (x.c i)) := hn
      have hcc : Hid (∀ d, Below wr.heap.size wr d → Calls Tryz.prog 85 #[(x.c i).val] d fun e w' => ∃ r, e = .returned (.bool r) ∧ (r = true ↔ TreeR (x.c i)) ∧ Below d.heap.size d w') := fun d h => HI.out i hin d (hx.later h)
      clear hx hn ea
      by_cases ht : TreeR (x.c i)
      · have hc : Hid (∀ d, Below wr.heap.size wr d → Calls Tryz.prog 85 #[(x.c i).val] d fun e w' => e = .returned (.bool true) ∧ Below d.heap.size d w') := fun d h => (hcc.out d h).mono fun e w' hh => by
          obtain ⟨r, h1, h2, h3⟩ := hh
          exact ⟨by rw [h1, h2.2 ht], h3⟩
        have HT : Hid (TreeR (x.c i)) := ht
        clear ht hcc
        go_wp2_with fail
        refine wp_region_noPanic ?_
        refine wp_region_held_drew (S := fun w' => Below wr.heap.size wr w') (by kernel_rfl) ((Below.refl _ _).drew) (fun hHeld => ?_)
        have hT : Below wr.heap.size wr wr.drew := hHeld
        obtain ⟨d, hd⟩ : ∃ d, d = wr.drew := ⟨_, rfl⟩
        rw [← hd] at hHeld hT ⊢
        clear hd
        refine wpAnyH_take (i := 0) (oi := ⟨some 97, .fieldAddr 51 (.tmp 1) 4, 0, _, _, _⟩) (v := ?v0qtwoyes) rfl (by kernel_rfl) (by kernel_rfl) (by kernel_rfl) (fun _ _ _ h => h) (Or.inl ⟨by rfl, ?hy0qtwoyes⟩) hHeld ?rest0qtwoyes
        case hy0qtwoyes => intro w9 hSw; go_simp; (try with_reducible rfl)
        try simp only [Act.put, s_put, s_0, s_1]
        refine wpAnyH_take (i := 1) (oi := ⟨some 98, .load 25 (.tmp 97), 25, _, _, _⟩) (v := ?v1qtwoyes) rfl (by kernel_rfl) (by kernel_rfl) (by kernel_rfl) (fun _ _ _ h => h) (Or.inl ⟨by rfl, ?hy1qtwoyes⟩) hHeld ?rest1qtwoyes
        case hy1qtwoyes => intro w9 hSw; have cc := cell_later C6.out hSw; go_simp; (try with_reducible rfl)
        try simp only [Act.put, s_put, s_0, s_1]
        refine wpAnyH_take (i := 2) (oi := ⟨some 99, .move (.tmp 4), 3, _, _, _⟩) (v := ?v2qtwoyes) rfl (by kernel_rfl) (by kernel_rfl) (by kernel_rfl) (fun _ _ _ h => h) (Or.inl ⟨by rfl, ?hy2qtwoyes⟩) hHeld ?rest2qtwoyes
        case hy2qtwoyes => intro w9 hSw; go_simp; (try with_reducible rfl)
        try simp only [Act.put, s_put, s_0, s_1]
        refine wpAnyH_take (i := 3) (oi := ⟨some 100, .indexAddr 25 (.tmp 98) (.tmp 99), 0, _, _, _⟩) (v := ?v3qtwoyes) rfl (by kernel_rfl) (by kernel_rfl) (by kernel_rfl) (fun _ _ _ h => h) (Or.inl ⟨by rfl, ?hy3qtwoyes⟩) hHeld ?rest3qtwoyes
        case hy3qtwoyes => intro w9 hSw; go_simp; (try with_reducible rfl)
        try simp only [Act.put, s_put, s_0, s_1]
        refine wpAnyH_take (i := 4) (oi := ⟨some 101, .load 51 (.tmp 100), 51, _, _, _⟩) (v := ?v4qtwoyes) rfl (by kernel_rfl) (by kernel_rfl) (by kernel_rfl) (fun _ _ _ h => h) (Or.inl ⟨by rfl, ?hy4qtwoyes⟩) hHeld ?rest4qtwoyes
        case hy4qtwoyes => intro w9 hSw; obtain ⟨d0, d1, d2, d3, d4, d5, d6⟩ := N1.out.later hSw; go_simp; (try with_reducible rfl)
        try simp only [Act.put, s_put, s_0, s_1]
        refine wpAnyH_ready (rs := [5]) (by kernel_rfl) (by simp) ?_
        refine AllReadyH.cons (o := ⟨some 102, .call { callee := .value (.func 85), args := #[.tmp 101], argTypes := #[51] }, 4, _, _, _⟩) rfl (fun K hK => ?_) AllReadyH.nil
        go_simp
        refine (hc.out _ hHeld).mono ?_
        rintro e x5 ⟨rfl, hN5⟩
        go_wp2_with fail
        have hT5 : Below wr.heap.size wr x5 := hT.trans (hN5.mono hT.size)
        refine hK.out _ _ (hHeld.trans (hN5.mono hHeld.size)) (fun _ => held_up (S' := fun w' => Below x5.heap.size x5 w') (fun w' h' => (hHeld.trans (hN5.mono hHeld.size)).trans (h'.mono (Nat.le_trans hHeld.size hN5.size))) _ _ _ _ ?_)
        clear hK K hHeld hT
        have hT : Below wr.heap.size wr x5 := hT5
        have hHeld : Below x5.heap.size x5 x5 := Below.refl _ _
        clear hT5 hN5
        try simp only [Act.put, s_put, s_0, s_1]
        refine wpAnyH_take (i := 6) (oi := ⟨some 103, .unOp UnOp.not 4 (.tmp 102), 4, _, _, _⟩) (v := ?v6qtwoyes) rfl (by kernel_rfl) (by kernel_rfl) (by kernel_rfl) (fun _ _ _ h => h) (Or.inl ⟨by rfl, ?hy6qtwoyes⟩) hHeld ?rest6qtwoyes
        case hy6qtwoyes => intro w9 hSw; go_simp; (try with_reducible rfl)
        try simp only [Act.put, s_put, s_0, s_1]
        refine wpAnyH_take (i := 7) (oi := ⟨some 104, .move (.tmp 103), 4, _, _, _⟩) (v := ?v7qtwoyes) rfl (by kernel_rfl) (by kernel_rfl) (by kernel_rfl) (fun _ _ _ h => h) (Or.inl ⟨by rfl, ?hy7qtwoyes⟩) hHeld ?rest7qtwoyes
        case hy7qtwoyes => intro w9 hSw; go_simp; (try with_reducible rfl)
        try simp only [Act.put, s_put, s_0, s_1]
        refine wpAnyH_take (i := 8) (oi := ⟨some 105, .fieldAddr 51 (.tmp 1) 0, 0, _, _, _⟩) (v := ?v8qtwoyes) rfl (by kernel_rfl) (by kernel_rfl) (by kernel_rfl) (fun _ _ _ h => h) (Or.inl ⟨by rfl, ?hy8qtwoyes⟩) hHeld ?rest8qtwoyes
        case hy8qtwoyes => intro w9 hSw; go_simp; (try with_reducible rfl)
        try simp only [Act.put, s_put, s_0, s_1]
        refine wpAnyH_take (i := 9) (oi := ⟨some 106, .load 3 (.tmp 105), 3, _, _, _⟩) (v := ?v9qtwoyes) rfl (by kernel_rfl) (by kernel_rfl) (by kernel_rfl) (fun _ _ _ h => h) (Or.inl ⟨by rfl, ?hy9qtwoyes⟩) hHeld ?rest9qtwoyes
        case hy9qtwoyes => intro w9 hSw; have cc := cell_later C0.out (hT.trans (hSw.mono hT.size)); go_simp; (try with_reducible rfl)
        try simp only [Act.put, s_put, s_0, s_1]
        refine wpAnyH_take (i := 10) (oi := ⟨some 107, .binOp BinOp.eql 3 (.tmp 106) (.const (Value.int IntKind.i64 16)) 3, 4, _, _, _⟩) (v := ?v10qtwoyes) rfl (by kernel_rfl) (by kernel_rfl) (by kernel_rfl) (fun _ _ _ h => h) (Or.inl ⟨by rfl, ?hy10qtwoyes⟩) hHeld ?rest10qtwoyes
        case hy10qtwoyes => intro w9 hSw; go_simp; (try with_reducible rfl)
        try simp only [Act.put, s_put, s_0, s_1]
        refine wpAnyH_take (i := 11) (oi := ⟨some 108, .move (.tmp 107), 4, _, _, _⟩) (v := ?v11qtwoyes) rfl (by kernel_rfl) (by kernel_rfl) (by kernel_rfl) (fun _ _ _ h => h) (Or.inl ⟨by rfl, ?hy11qtwoyes⟩) hHeld ?rest11qtwoyes
        case hy11qtwoyes => intro w9 hSw; go_simp; (try with_reducible rfl)
        try simp only [Act.put, s_put, s_0, s_1]
        refine wpAnyH_take (i := 12) (oi := ⟨some 109, .fieldAddr 51 (.tmp 1) 0, 0, _, _, _⟩) (v := ?v12qtwoyes) rfl (by kernel_rfl) (by kernel_rfl) (by kernel_rfl) (fun _ _ _ h => h) (Or.inl ⟨by rfl, ?hy12qtwoyes⟩) hHeld ?rest12qtwoyes
        case hy12qtwoyes => intro w9 hSw; go_simp; (try with_reducible rfl)
        try simp only [Act.put, s_put, s_0, s_1]
        refine wpAnyH_take (i := 13) (oi := ⟨some 110, .load 3 (.tmp 109), 3, _, _, _⟩) (v := ?v13qtwoyes) rfl (by kernel_rfl) (by kernel_rfl) (by kernel_rfl) (fun _ _ _ h => h) (Or.inl ⟨by rfl, ?hy13qtwoyes⟩) hHeld ?rest13qtwoyes
        case hy13qtwoyes => intro w9 hSw; have cc := cell_later C0.out (hT.trans (hSw.mono hT.size)); go_simp; (try with_reducible rfl)
        try simp only [Act.put, s_put, s_0, s_1]
        refine wpAnyH_take (i := 14) (oi := ⟨some 111, .binOp BinOp.eql 3 (.tmp 110) (.const (Value.int IntKind.i64 17)) 3, 4, _, _, _⟩) (v := ?v14qtwoyes) rfl (by kernel_rfl) (by kernel_rfl) (by kernel_rfl) (fun _ _ _ h => h) (Or.inl ⟨by rfl, ?hy14qtwoyes⟩) hHeld ?rest14qtwoyes
        case hy14qtwoyes => intro w9 hSw; go_simp; (try with_reducible rfl)
        try simp only [Act.put, s_put, s_0, s_1]
        refine wpAnyH_take (i := 15) (oi := ⟨some 112, .pick (.tmp 108) (.const (Value.bool true)) (.tmp 111), 4, _, _, _⟩) (v := ?v15qtwoyes) rfl (by kernel_rfl) (by kernel_rfl) (by kernel_rfl) (fun _ _ _ h => h) (Or.inl ⟨by rfl, ?hy15qtwoyes⟩) hHeld ?rest15qtwoyes
        case hy15qtwoyes => intro w9 hSw; go_simp; (try with_reducible rfl)
        try simp only [Act.put, s_put, s_0, s_1]
        refine wpAnyH_take (i := 16) (oi := ⟨some 113, .move (.tmp 112), 4, _, _, _⟩) (v := ?v16qtwoyes) rfl (by kernel_rfl) (by kernel_rfl) (by kernel_rfl) (fun _ _ _ h => h) (Or.inl ⟨by rfl, ?hy16qtwoyes⟩) hHeld ?rest16qtwoyes
        case hy16qtwoyes => intro w9 hSw; go_simp; (try with_reducible rfl)
        try simp only [Act.put, s_put, s_0, s_1]
        refine wpAnyH_take (i := 17) (oi := ⟨some 114, .fieldAddr 51 (.tmp 1) 4, 0, _, _, _⟩) (v := undef) rfl (by kernel_rfl) (by kernel_rfl) (by kernel_rfl) (fun _ _ _ h => h) (Or.inr ⟨by rfl, rfl⟩) hHeld ?rest17qtwoyes
        try simp only [Act.put, s_put, s_0, s_1]
        refine wpAnyH_take (i := 18) (oi := ⟨some 115, .load 25 (.tmp 114), 25, _, _, _⟩) (v := undef) rfl (by kernel_rfl) (by kernel_rfl) (by kernel_rfl) (fun _ _ _ h => h) (Or.inr ⟨by rfl, rfl⟩) hHeld ?rest18qtwoyes
        try simp only [Act.put, s_put, s_0, s_1]
        refine wpAnyH_take (i := 19) (oi := ⟨some 116, .move (.tmp 4), 3, _, _, _⟩) (v := undef) rfl (by kernel_rfl) (by kernel_rfl) (by kernel_rfl) (fun _ _ _ h => h) (Or.inr ⟨by rfl, rfl⟩) hHeld ?rest19qtwoyes
        try simp only [Act.put, s_put, s_0, s_1]
        refine wpAnyH_take (i := 20) (oi := ⟨some 117, .indexAddr 25 (.tmp 115) (.tmp 116), 0, _, _, _⟩) (v := undef) rfl (by kernel_rfl) (by kernel_rfl) (by kernel_rfl) (fun _ _ _ h => h) (Or.inr ⟨by rfl, rfl⟩) hHeld ?rest20qtwoyes
        try simp only [Act.put, s_put, s_0, s_1]
        refine wpAnyH_take (i := 21) (oi := ⟨some 118, .fieldAddr 51 (.tmp 117) 0, 0, _, _, _⟩) (v := undef) rfl (by kernel_rfl) (by kernel_rfl) (by kernel_rfl) (fun _ _ _ h => h) (Or.inr ⟨by rfl, rfl⟩) hHeld ?rest21qtwoyes
        try simp only [Act.put, s_put, s_0, s_1]
        refine wpAnyH_take (i := 22) (oi := ⟨some 119, .load 3 (.tmp 118), 3, _, _, _⟩) (v := undef) rfl (by kernel_rfl) (by kernel_rfl) (by kernel_rfl) (fun _ _ _ h => h) (Or.inr ⟨by rfl, rfl⟩) hHeld ?rest22qtwoyes
        try simp only [Act.put, s_put, s_0, s_1]
        refine wpAnyH_take (i := 23) (oi := ⟨some 120, .fieldAddr 51 (.tmp 1) 0, 0, _, _, _⟩) (v := undef) rfl (by kernel_rfl) (by kernel_rfl) (by kernel_rfl) (fun _ _ _ h => h) (Or.inr ⟨by rfl, rfl⟩) hHeld ?rest23qtwoyes
        try simp only [Act.put, s_put, s_0, s_1]
        refine wpAnyH_take (i := 24) (oi := ⟨some 121, .load 3 (.tmp 120), 3, _, _, _⟩) (v := undef) rfl (by kernel_rfl) (by kernel_rfl) (by kernel_rfl) (fun _ _ _ h => h) (Or.inr ⟨by rfl, rfl⟩) hHeld ?rest24qtwoyes
        try simp only [Act.put, s_put, s_0, s_1]
        refine wpAnyH_take (i := 25) (oi := ⟨some 122, .binOp BinOp.eql 3 (.tmp 119) (.tmp 121) 3, 4, _, _, _⟩) (v := undef) rfl (by kernel_rfl) (by kernel_rfl) (by kernel_rfl) (fun _ _ _ h => h) (Or.inr ⟨by rfl, rfl⟩) hHeld ?rest25qtwoyes
        try simp only [Act.put, s_put, s_0, s_1]
        refine wpAnyH_take (i := 26) (oi := ⟨some 123, .pick (.tmp 113) (.tmp 122) (.const (Value.bool false)), 4, _, _, _⟩) (v := ?v26qtwoyes) rfl (by kernel_rfl) (by kernel_rfl) (by kernel_rfl) (fun _ _ _ h => h) (Or.inl ⟨by rfl, ?hy26qtwoyes⟩) hHeld ?rest26qtwoyes
        case hy26qtwoyes => intro w9 hSw; go_simp; (try with_reducible rfl)
        try simp only [Act.put, s_put, s_0, s_1]
        refine wpAnyH_take (i := 27) (oi := ⟨some 124, .pick (.tmp 104) (.const (Value.bool true)) (.tmp 123), 4, _, _, _⟩) (v := ?v27qtwoyes) rfl (by kernel_rfl) (by kernel_rfl) (by kernel_rfl) (fun _ _ _ h => h) (Or.inl ⟨by rfl, ?hy27qtwoyes⟩) hHeld ?rest27qtwoyes
        case hy27qtwoyes => intro w9 hSw; go_simp; (try with_reducible rfl)
        try simp only [Act.put, s_put, s_0, s_1]
        refine wpAnyH_done (by kernel_rfl) ?_ _
        refine NoPanic.normal ?_
        have hB3 := hB.trans (hT.mono hB.size)
        go_wp2
        go_roundw
        case rel => exact ⟨i + 1, HK.out, by go_num, fun j hj => by by_cases e : j = i; (· rw [e]; exact HT.out); exact HD.out j (by omega), hB3⟩
        case measure => have := HK.out; simp [intOf]; omega
      · have hc : Hid (∀ d, Below wr.heap.size wr d → Calls Tryz.prog 85 #[(x.c i).val] d fun e w' => e = .returned (.bool false) ∧ Below d.heap.size d w') := fun d h => (hcc.out d h).mono fun e w' hh => by
          obtain ⟨r, h1, h2, h3⟩ := hh
          refine ⟨?_, h3⟩
          cases r with
          | true => exact absurd (h2.1 rfl) ht
          | false => exact h1
        have HT : Hid (¬ TreeR (x.c i)) := ht
        clear ht hcc
        go_wp2_with fail
        refine wp_region_noPanic ?_
        refine wp_region_held_drew (S := fun w' => Below wr.heap.size wr w') (by kernel_rfl) ((Below.refl _ _).drew) (fun hHeld => ?_)
        have hT : Below wr.heap.size wr wr.drew := hHeld
        obtain ⟨d, hd⟩ : ∃ d, d = wr.drew := ⟨_, rfl⟩
        rw [← hd] at hHeld hT ⊢
        clear hd
        refine wpAnyH_take (i := 0) (oi := ⟨some 97, .fieldAddr 51 (.tmp 1) 4, 0, _, _, _⟩) (v := ?v0qtwono) rfl (by kernel_rfl) (by kernel_rfl) (by kernel_rfl) (fun _ _ _ h => h) (Or.inl ⟨by rfl, ?hy0qtwono⟩) hHeld ?rest0qtwono
        case hy0qtwono => intro w9 hSw; go_simp; (try with_reducible rfl)
        try simp only [Act.put, s_put, s_0, s_1]
        refine wpAnyH_take (i := 1) (oi := ⟨some 98, .load 25 (.tmp 97), 25, _, _, _⟩) (v := ?v1qtwono) rfl (by kernel_rfl) (by kernel_rfl) (by kernel_rfl) (fun _ _ _ h => h) (Or.inl ⟨by rfl, ?hy1qtwono⟩) hHeld ?rest1qtwono
        case hy1qtwono => intro w9 hSw; have cc := cell_later C6.out hSw; go_simp; (try with_reducible rfl)
        try simp only [Act.put, s_put, s_0, s_1]
        refine wpAnyH_take (i := 2) (oi := ⟨some 99, .move (.tmp 4), 3, _, _, _⟩) (v := ?v2qtwono) rfl (by kernel_rfl) (by kernel_rfl) (by kernel_rfl) (fun _ _ _ h => h) (Or.inl ⟨by rfl, ?hy2qtwono⟩) hHeld ?rest2qtwono
        case hy2qtwono => intro w9 hSw; go_simp; (try with_reducible rfl)
        try simp only [Act.put, s_put, s_0, s_1]
        refine wpAnyH_take (i := 3) (oi := ⟨some 100, .indexAddr 25 (.tmp 98) (.tmp 99), 0, _, _, _⟩) (v := ?v3qtwono) rfl (by kernel_rfl) (by kernel_rfl) (by kernel_rfl) (fun _ _ _ h => h) (Or.inl ⟨by rfl, ?hy3qtwono⟩) hHeld ?rest3qtwono
        case hy3qtwono => intro w9 hSw; go_simp; (try with_reducible rfl)
        try simp only [Act.put, s_put, s_0, s_1]
        refine wpAnyH_take (i := 4) (oi := ⟨some 101, .load 51 (.tmp 100), 51, _, _, _⟩) (v := ?v4qtwono) rfl (by kernel_rfl) (by kernel_rfl) (by kernel_rfl) (fun _ _ _ h => h) (Or.inl ⟨by rfl, ?hy4qtwono⟩) hHeld ?rest4qtwono
        case hy4qtwono => intro w9 hSw; obtain ⟨d0, d1, d2, d3, d4, d5, d6⟩ := N1.out.later hSw; go_simp; (try with_reducible rfl)
        try simp only [Act.put, s_put, s_0, s_1]
        refine wpAnyH_ready (rs := [5]) (by kernel_rfl) (by simp) ?_
        refine AllReadyH.cons (o := ⟨some 102, .call { callee := .value (.func 85), args := #[.tmp 101], argTypes := #[51] }, 4, _, _, _⟩) rfl (fun K hK => ?_) AllReadyH.nil
        go_simp
        refine (hc.out _ hHeld).mono ?_
        rintro e x5 ⟨rfl, hN5⟩
        go_wp2_with fail
        have hT5 : Below wr.heap.size wr x5 := hT.trans (hN5.mono hT.size)
        refine hK.out _ _ (hHeld.trans (hN5.mono hHeld.size)) (fun _ => held_up (S' := fun w' => Below x5.heap.size x5 w') (fun w' h' => (hHeld.trans (hN5.mono hHeld.size)).trans (h'.mono (Nat.le_trans hHeld.size hN5.size))) _ _ _ _ ?_)
        clear hK K hHeld hT
        have hT : Below wr.heap.size wr x5 := hT5
        have hHeld : Below x5.heap.size x5 x5 := Below.refl _ _
        clear hT5 hN5
        try simp only [Act.put, s_put, s_0, s_1]
        refine wpAnyH_take (i := 6) (oi := ⟨some 103, .unOp UnOp.not 4 (.tmp 102), 4, _, _, _⟩) (v := ?v6qtwono) rfl (by kernel_rfl) (by kernel_rfl) (by kernel_rfl) (fun _ _ _ h => h) (Or.inl ⟨by rfl, ?hy6qtwono⟩) hHeld ?rest6qtwono
        case hy6qtwono => intro w9 hSw; go_simp; (try with_reducible rfl)
        try simp only [Act.put, s_put, s_0, s_1]
        refine wpAnyH_take (i := 7) (oi := ⟨some 104, .move (.tmp 103), 4, _, _, _⟩) (v := ?v7qtwono) rfl (by kernel_rfl) (by kernel_rfl) (by kernel_rfl) (fun _ _ _ h => h) (Or.inl ⟨by rfl, ?hy7qtwono⟩) hHeld ?rest7qtwono
        case hy7qtwono => intro w9 hSw; go_simp; (try with_reducible rfl)
        try simp only [Act.put, s_put, s_0, s_1]
        refine wpAnyH_take (i := 8) (oi := ⟨some 105, .fieldAddr 51 (.tmp 1) 0, 0, _, _, _⟩) (v := undef) rfl (by kernel_rfl) (by kernel_rfl) (by kernel_rfl) (fun _ _ _ h => h) (Or.inr ⟨by rfl, rfl⟩) hHeld ?rest8qtwono
        try simp only [Act.put, s_put, s_0, s_1]
        refine wpAnyH_take (i := 9) (oi := ⟨some 106, .load 3 (.tmp 105), 3, _, _, _⟩) (v := undef) rfl (by kernel_rfl) (by kernel_rfl) (by kernel_rfl) (fun _ _ _ h => h) (Or.inr ⟨by rfl, rfl⟩) hHeld ?rest9qtwono
        try simp only [Act.put, s_put, s_0, s_1]
        refine wpAnyH_take (i := 10) (oi := ⟨some 107, .binOp BinOp.eql 3 (.tmp 106) (.const (Value.int IntKind.i64 16)) 3, 4, _, _, _⟩) (v := undef) rfl (by kernel_rfl) (by kernel_rfl) (by kernel_rfl) (fun _ _ _ h => h) (Or.inr ⟨by rfl, rfl⟩) hHeld ?rest10qtwono
        try simp only [Act.put, s_put, s_0, s_1]
        refine wpAnyH_take (i := 11) (oi := ⟨some 108, .move (.tmp 107), 4, _, _, _⟩) (v := undef) rfl (by kernel_rfl) (by kernel_rfl) (by kernel_rfl) (fun _ _ _ h => h) (Or.inr ⟨by rfl, rfl⟩) hHeld ?rest11qtwono
        try simp only [Act.put, s_put, s_0, s_1]
        refine wpAnyH_take (i := 12) (oi := ⟨some 109, .fieldAddr 51 (.tmp 1) 0, 0, _, _, _⟩) (v := undef) rfl (by kernel_rfl) (by kernel_rfl) (by kernel_rfl) (fun _ _ _ h => h) (Or.inr ⟨by rfl, rfl⟩) hHeld ?rest12qtwono
        try simp only [Act.put, s_put, s_0, s_1]
        refine wpAnyH_take (i := 13) (oi := ⟨some 110, .load 3 (.tmp 109), 3, _, _, _⟩) (v := undef) rfl (by kernel_rfl) (by kernel_rfl) (by kernel_rfl) (fun _ _ _ h => h) (Or.inr ⟨by rfl, rfl⟩) hHeld ?rest13qtwono
        try simp only [Act.put, s_put, s_0, s_1]
        refine wpAnyH_take (i := 14) (oi := ⟨some 111, .binOp BinOp.eql 3 (.tmp 110) (.const (Value.int IntKind.i64 17)) 3, 4, _, _, _⟩) (v := undef) rfl (by kernel_rfl) (by kernel_rfl) (by kernel_rfl) (fun _ _ _ h => h) (Or.inr ⟨by rfl, rfl⟩) hHeld ?rest14qtwono
        try simp only [Act.put, s_put, s_0, s_1]
        refine wpAnyH_take (i := 15) (oi := ⟨some 112, .pick (.tmp 108) (.const (Value.bool true)) (.tmp 111), 4, _, _, _⟩) (v := undef) rfl (by kernel_rfl) (by kernel_rfl) (by kernel_rfl) (fun _ _ _ h => h) (Or.inr ⟨by rfl, rfl⟩) hHeld ?rest15qtwono
        try simp only [Act.put, s_put, s_0, s_1]
        refine wpAnyH_take (i := 16) (oi := ⟨some 113, .move (.tmp 112), 4, _, _, _⟩) (v := undef) rfl (by kernel_rfl) (by kernel_rfl) (by kernel_rfl) (fun _ _ _ h => h) (Or.inr ⟨by rfl, rfl⟩) hHeld ?rest16qtwono
        try simp only [Act.put, s_put, s_0, s_1]
        refine wpAnyH_take (i := 17) (oi := ⟨some 114, .fieldAddr 51 (.tmp 1) 4, 0, _, _, _⟩) (v := undef) rfl (by kernel_rfl) (by kernel_rfl) (by kernel_rfl) (fun _ _ _ h => h) (Or.inr ⟨by rfl, rfl⟩) hHeld ?rest17qtwono
        try simp only [Act.put, s_put, s_0, s_1]
        refine wpAnyH_take (i := 18) (oi := ⟨some 115, .load 25 (.tmp 114), 25, _, _, _⟩) (v := undef) rfl (by kernel_rfl) (by kernel_rfl) (by kernel_rfl) (fun _ _ _ h => h) (Or.inr ⟨by rfl, rfl⟩) hHeld ?rest18qtwono
        try simp only [Act.put, s_put, s_0, s_1]
        refine wpAnyH_take (i := 19) (oi := ⟨some 116, .move (.tmp 4), 3, _, _, _⟩) (v := undef) rfl (by kernel_rfl) (by kernel_rfl) (by kernel_rfl) (fun _ _ _ h => h) (Or.inr ⟨by rfl, rfl⟩) hHeld ?rest19qtwono
        try simp only [Act.put, s_put, s_0, s_1]
        refine wpAnyH_take (i := 20) (oi := ⟨some 117, .indexAddr 25 (.tmp 115) (.tmp 116), 0, _, _, _⟩) (v := undef) rfl (by kernel_rfl) (by kernel_rfl) (by kernel_rfl) (fun _ _ _ h => h) (Or.inr ⟨by rfl, rfl⟩) hHeld ?rest20qtwono
        try simp only [Act.put, s_put, s_0, s_1]
        refine wpAnyH_take (i := 21) (oi := ⟨some 118, .fieldAddr 51 (.tmp 117) 0, 0, _, _, _⟩) (v := undef) rfl (by kernel_rfl) (by kernel_rfl) (by kernel_rfl) (fun _ _ _ h => h) (Or.inr ⟨by rfl, rfl⟩) hHeld ?rest21qtwono
        try simp only [Act.put, s_put, s_0, s_1]
        refine wpAnyH_take (i := 22) (oi := ⟨some 119, .load 3 (.tmp 118), 3, _, _, _⟩) (v := undef) rfl (by kernel_rfl) (by kernel_rfl) (by kernel_rfl) (fun _ _ _ h => h) (Or.inr ⟨by rfl, rfl⟩) hHeld ?rest22qtwono
        try simp only [Act.put, s_put, s_0, s_1]
        refine wpAnyH_take (i := 23) (oi := ⟨some 120, .fieldAddr 51 (.tmp 1) 0, 0, _, _, _⟩) (v := undef) rfl (by kernel_rfl) (by kernel_rfl) (by kernel_rfl) (fun _ _ _ h => h) (Or.inr ⟨by rfl, rfl⟩) hHeld ?rest23qtwono
        try simp only [Act.put, s_put, s_0, s_1]
        refine wpAnyH_take (i := 24) (oi := ⟨some 121, .load 3 (.tmp 120), 3, _, _, _⟩) (v := undef) rfl (by kernel_rfl) (by kernel_rfl) (by kernel_rfl) (fun _ _ _ h => h) (Or.inr ⟨by rfl, rfl⟩) hHeld ?rest24qtwono
        try simp only [Act.put, s_put, s_0, s_1]
        refine wpAnyH_take (i := 25) (oi := ⟨some 122, .binOp BinOp.eql 3 (.tmp 119) (.tmp 121) 3, 4, _, _, _⟩) (v := undef) rfl (by kernel_rfl) (by kernel_rfl) (by kernel_rfl) (fun _ _ _ h => h) (Or.inr ⟨by rfl, rfl⟩) hHeld ?rest25qtwono
        try simp only [Act.put, s_put, s_0, s_1]
        refine wpAnyH_take (i := 26) (oi := ⟨some 123, .pick (.tmp 113) (.tmp 122) (.const (Value.bool false)), 4, _, _, _⟩) (v := undef) rfl (by kernel_rfl) (by kernel_rfl) (by kernel_rfl) (fun _ _ _ h => h) (Or.inr ⟨by rfl, rfl⟩) hHeld ?rest26qtwono
        try simp only [Act.put, s_put, s_0, s_1]
        refine wpAnyH_take (i := 27) (oi := ⟨some 124, .pick (.tmp 104) (.const (Value.bool true)) (.tmp 123), 4, _, _, _⟩) (v := ?v27qtwono) rfl (by kernel_rfl) (by kernel_rfl) (by kernel_rfl) (fun _ _ _ h => h) (Or.inl ⟨by rfl, ?hy27qtwono⟩) hHeld ?rest27qtwono
        case hy27qtwono => intro w9 hSw; go_simp; (try with_reducible rfl)
        try simp only [Act.put, s_put, s_0, s_1]
        refine wpAnyH_done (by kernel_rfl) ?_ _
        refine NoPanic.normal ?_
        have hB3 := hB.trans (hT.mono hB.size)
        go_wp2
        try rw [Exit.noGoto_ret]
        go_ret
        refine ⟨false, rfl, ⟨fun h => (by cases h), fun h => ?_⟩, HB.out.trans (hB3.mono (by omega))⟩
        exact absurd (((treeR_eq x).1 h).2 i HK.out) HT.out
    · obtain rfl : i = x.n := by omega
      go_wp2
      go_ret
      exact ⟨true, rfl, ⟨fun _ => (treeR_eq x).2 ⟨HNR.out, fun j hj => HD.out j hj⟩, fun _ => rfl⟩, hw⟩
end Go.Proofs.YtfnfegcjgnbgbaaGreatDoor
