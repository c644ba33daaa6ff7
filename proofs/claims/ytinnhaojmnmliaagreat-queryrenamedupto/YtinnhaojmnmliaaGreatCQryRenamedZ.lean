/-
  QueryRenamed's walk, where the query's Check is 0.
-/
import Derived.Test.YtinnhaojmnmliaaGreatCQrySame
namespace Go.Proofs.YtinnhaojmnmliaaGreat
open Go.RowKit

set_option maxRecDepth 100000 in
set_option maxHeartbeats 60000000 in
theorem queryRenamed_z (x : Qy) (v u : ByteArray) (w : World) (hX : IsQ w x) (hok : QOk x) (hsm : x.bulk ≤ 1048576) (zv : v.size ≤ maxLen) (zu : u.size ≤ maxLen) (hcq : chkQ x = 0) :
    Calls Tryz.prog 4 #[x.val, .string v, .string u] w fun e w' => e = .returned (.bool true) ∧ Below w.heap.size w w' := by
  obtain ⟨A, hA, hB, hs, hn⟩ := boxQ_oneR x w
  obtain ⟨⟨a0, a1, a2, a3, a4, a5⟩, a6, a7, a8, a9, a10⟩ := hn.at0
  have HB : Hid (Below w.heap.size w A) := hB
  have NX : Hid (QB A w.heap.size x) := hn
  have L1 : Hid (Calls Tryz.prog 5 #[x.val] A (SomeB A)) := lightQ_any x A (hX.later hB) hsm
  have W1 : Hid (∀ d, Calls Tryz.prog 6 #[] d fun e w' => e = .returned (.bool true) ∧ Below d.heap.size d w') := fun d => awake13_any d
  obtain ⟨L, hL⟩ : ∃ L, L = namesQ x := ⟨_, rfl⟩
  have V1 : Hid (∀ d, Below A.heap.size A d → Calls Tryz.prog 15 #[x.val] d fun e w' => ∃ al cap, e = .returned (.slice al L.length cap) ∧ Hid (Txs w' al L.length (atS L)) ∧ Below d.heap.size d w') := fun d h => by
    refine (namesQ_any x d ((hX.later hB).later h) hok hsm).mono ?_
    rintro e w' ⟨v1, rfl, hR, hB2⟩
    rw [← hL] at hR
    obtain ⟨a, cap, rfl, ht, -⟩ := own_txs hR
    exact ⟨a, cap, rfl, ht, hB2⟩
  have HU : Hid ((∀ j, j < L.length → atS L j ≠ u) → ¬ u ∈ allV x) := fun h e => by
    rw [← namesQ_mem, ← hL] at e
    obtain ⟨j, hj, e2⟩ := List.getElem_of_mem e
    refine h j hj ?_
    unfold atS
    rw [List.getD_eq_getElem?_getD, List.getElem?_eq_getElem hj]
    exact e2
  have HLN : Hid (L.length = (namesQ x).length) := by show _ = _; rw [hL]
  have hNV : L.length ≤ 9223372036854775807 := by
    have h1 : (namesQ x).length ≤ (allV x).length := by have := intoAll_len (allV x) []; simpa [namesQ] using this
    have h2 := namesP_len x.p
    have h3 := vars_len x.x
    unfold Qy.bulk at hsm
    rw [hL]
    rw [allV, List.length_append, List.length_append, lstS_len] at h1
    omega
  have HX0 : Hid (IsQ A x) := hX.later hB
  have HO : Hid (QOk x) := hok
  have HM : Hid (x.bulk ≤ 1048576) := hsm
  have HZ : Hid (v.size ≤ maxLen ∧ u.size ≤ maxLen) := ⟨zv, zu⟩
  have HCQ : Hid (chkQ x = 0) := hcq
  clear hB hn hX hL hsm hok zv zu hcq
  go_enter Tryz.func4, Tryz.ntmps4
  go_upto_region 1 with fail
  clear hA
  go_wp2_with (first
    | (go_at_call 5; refine L1.out.mono ?_; clear L1; rintro e w1 ⟨b, rfl, hB1⟩; obtain ⟨⟨b0, b1, b2, b3, b4, b5⟩, b6, b7, b8, b9, b10⟩ := (NX.out.later hB1).at0; cases b)
    | (go_at_call 6; refine (W1.out _).mono ?_; clear W1; rintro e w2 ⟨rfl, hB2⟩)
    | (go_at_call 15; refine (V1.out _ hB1).mono ?_; clear V1; rintro e w2 ⟨al, capl, rfl, hx, hB2⟩))
  · go_ret
    exact ⟨rfl, HB.out.trans ((hB1.trans (hB2.mono hB1.size)).mono (by omega))⟩
  have HA2 : Hid (Below A.heap.size A w2) := hB1.trans (hB2.mono hB1.size)
  clear hB1 hB2 b0 b1 b2 b3 b4 b5 b6 b7 b8 b9 b10 a0 a1 a2 a3 a4 a5 a6 a7 a8 a9 a10
  go_loopw [8] (fun i wr => ∃ k : Nat, k ≤ L.length ∧ i = .int .i64 k ∧ Hid (∀ j, j < k → atS L j ≠ u) ∧ wr = w2) (fun i _ => L.length - (intOf i).toNat)
  case atStart => exact ⟨0, Nat.zero_le _, rfl, fun j hj => absurd hj (Nat.not_lt_zero _), rfl⟩
  case round =>
    obtain ⟨k, hk, rfl, HJ, hwr⟩ := hrel
    subst hwr
    by_cases hlt : k < L.length
    · have HLT : Hid (k < L.length) := hlt
      obtain ⟨b, o, rfl, hc⟩ := hx.out (by omega)
      have ck := hc k hlt
      clear hc
      by_cases e : atS L k = u
      · have he := str_yes e
        clear e
        go_wp2_with (go_at_call 6; refine (W1.out _).mono ?_; clear W1; rintro e w4 ⟨rfl, hB4⟩)
        go_ret
        exact ⟨rfl, HB.out.trans ((HA2.out.trans (hB4.mono HA2.out.size)).mono (by omega))⟩
      · have he := str_not e
        have HJ2 : Hid (∀ j, j < k + 1 → atS L j ≠ u) := fun j hj => by
          by_cases q : j = k
          · rw [q]; exact e
          · exact HJ.out j (by omega)
        clear e
        go_wp2
        go_roundw
        case rel => exact ⟨k + 1, HLT.out, by go_num, HJ2, trivial⟩
        case measure => have := HLT.out; simp [intOf]; omega
    · obtain rfl : k = L.length := by omega
      have HUU : Hid (¬ u ∈ allV x) := HU.out HJ.out
      clear HU HJ hlt hk
      obtain ⟨⟨c0, c1, c2, c3, c4, c5⟩, c6, c7, c8, c9, c10⟩ := (NX.out.later HA2.out).at0
      have hbv : Below wr.heap.size wr ((wr.alloc (.cells #[.string v] 9)).alloc (.cells #[.string u] 9)) := ((Below.refl _ _).alloc (Nat.le_refl _) _).alloc (by simp) _
      have R1 := rename_oneQ x v u _ ((HX0.out.later HA2.out).later hbv) HO.out HM.out HZ.out.1 _ _ ((txs_new wr v).later ((Below.refl _ _).alloc (Nat.le_refl _) (.cells #[.string u] 9))) (txs_new (wr.alloc (.cells #[.string v] 9)) u)
      rw [World.size_alloc] at R1
      go_upto_region 10 with (first
        | (go_at_call 17; refine R1.mono ?_; clear R1; rintro e w3 ⟨y, rfl, hy1, hy2, hB3⟩))
      have hW0 : ∃ W, w3.alloc (.cells y.cells 28) = W := ⟨_, rfl⟩
      obtain ⟨W, hW⟩ := hW0
      have hW' := hW
      unfold Qy.cells at hW'
      rw [hW']
      have hBW : Below w3.heap.size w3 W := by rw [← hW]; exact (Below.refl _ _).alloc (Nat.le_refl _) _
      have hwr3 : Below wr.heap.size wr w3 := hbv.trans (hB3.mono hbv.size)
      have hwrW : Below wr.heap.size wr W := hwr3.trans (hBW.mono hwr3.size)
      have HAW : Hid (Below A.heap.size A W) := HA2.out.trans (hwrW.mono HA2.out.size)
      have PX : Hid (QB W w.heap.size x) := NX.out.later HAW.out
      have PY : Hid (QB W w3.heap.size y) := by rw [← hW]; exact QB.new w3 y
      have HXW : Hid (IsQ W x) := HX0.out.later HAW.out
      have HYW : Hid (IsQ W y) := hy2.out.later hBW
      have HYO : Hid (QOk y) := rn_ok hy1.out HZ.out.2 HO.out
      have HYM : Hid (y.bulk ≤ 1048576) := by show y.bulk ≤ 1048576; rw [rn_bulk hy1.out]; exact HM.out
      have HLY : Hid ((namesQ y).length = L.length) := by show _ = _; rw [HLN.out]; exact rn_len hy1.out HUU.out
      have R2 : Hid (∀ d, Below W.heap.size W d → ∀ a b, Txs d a 1 (fun _ => u) → Txs d b 1 (fun _ => v) → Calls Tryz.prog 17 #[y.val, .slice a 1 1, .slice b 1 1] d fun e w' => ∃ z : Qy, e = .returned z.val ∧ Hid (RnQ (one u v) y z) ∧ Hid (IsQ w' z) ∧ Below d.heap.size d w') := fun d h a b h1 h2 => rename_oneQ y u v d (HYW.out.later h) HYO.out HYM.out HZ.out.2 a b h1 h2
      have SM : Hid (∀ (z : Qy) (d : World), RnQ (one u v) y z → IsQ d z → Below W.heap.size W d → Calls Tryz.prog 12 #[z.val, x.val] d fun e w' => e = .returned (.bool true) ∧ Below d.heap.size d w') := fun z d h1 h2 h3 => by
        have := sameQ_any z x d h2 (HXW.out.later h3)
        rw [rn_back hy1.out HUU.out h1] at this
        exact this
      have V2 : Hid (∀ d, Below W.heap.size W d → Calls Tryz.prog 15 #[y.val] d fun e w' => ∃ al cap, e = .returned (.slice al L.length cap) ∧ Below d.heap.size d w') := fun d h => by
        refine (namesQ_any y d (HYW.out.later h) HYO.out HYM.out).mono ?_
        rintro e w' ⟨v1, rfl, hR, hB2⟩
        rw [HLY.out] at hR
        obtain ⟨a, cap, rfl, -⟩ := own_txs hR
        exact ⟨a, cap, rfl, hB2⟩
      obtain ⟨cz, hcz⟩ : ∃ cz, cz = chkQ x := ⟨_, rfl⟩
      have M1 : Hid (∀ d, Below W.heap.size W d → Calls Tryz.prog 10 #[x.val] d fun e w' => e = .returned (.int .i64 cz) ∧ Below d.heap.size d w') := fun d h => by
        rw [hcz]
        exact checkQ_any x d (HXW.out.later h) HO.out HM.out
      have M2' : Hid (nameB u = true → cz = 0 → ∀ d, Below W.heap.size W d → Calls Tryz.prog 10 #[y.val] d fun e w' => e = .returned (.int .i64 0) ∧ Below d.heap.size d w') := fun h1 h2 d h => by
        have := checkQ_any y d (HYW.out.later h) HYO.out HYM.out
        rw [rn_chk hy1.out h1 (hcz ▸ h2)] at this
        exact this
      have hks : u.size ≤ 9223372036854775807 := by have := HZ.out.2; unfold maxLen at this; omega
      have hix : ∀ d, u.size = 1 → (Instr.index 9 (.string u) (.int .i64 0)).run Tryz.prog d = .ok (.int .u8 (byteAt u 0)) d := fun d h => by simpa using at_str u 0 (by omega) d
      clear hW hW' hBW hwr3 hwrW hB3 hbv hy1 hy2 c0 c1 c2 c3 c4 c5 c6 c7 c8 c9 c10 NX HX0 HA2 HXW HYW HLY hx
      have hc0 : cz = 0 := by rw [hcz]; exact HCQ.out
      clear hcz
      subst hc0
      by_cases h1 : u.size = 1
      · have t1 : (((u.size : Nat) : Int) == 1) = true := by simp [h1]
        have hix' := fun d => hix d h1
        clear hix
        by_cases h2 : 97 ≤ byteAt u 0
        · by_cases h3 : byteAt u 0 ≤ 122
          · have M2 : Hid (∀ d, Below W.heap.size W d → Calls Tryz.prog 10 #[y.val] d fun e w' => e = .returned (.int .i64 0) ∧ Below d.heap.size d w') := M2'.out (letter_name h1 h2 h3) rfl
            clear h1 M2'
            go_upto_region 11 with fail
            refine wp_region_noPanic ?_
            refine wp_region_held_drew (S := fun w' => Below W.heap.size W w') (by kernel_rfl) ((Below.refl _ _).drew) (fun hHeld => ?_)
            have hT : Below W.heap.size W W.drew := hHeld
            obtain ⟨d, hdw⟩ : ∃ d, d = W.drew := ⟨_, rfl⟩
            rw [← hdw] at hHeld hT ⊢
            clear hdw
            refine wpAnyH_take (i := 0) (oi := ⟨some 49, .load 28 (.tmp 9), 28, _, _, _⟩) (v := ?v0V3i12) rfl (by kernel_rfl) (by kernel_rfl) (by kernel_rfl) (fun _ _ _ h => h) (Or.inl ⟨by rfl, ?hy0V3i12⟩) hHeld ?rest0V3i12
            case hy0V3i12 => intro w9 hSw; obtain ⟨⟨d0, d1, d2, d3, d4, d5⟩, d6, d7, d8, d9, d10⟩ := (PY.out.later hSw).at0; go_simp; (try with_reducible rfl)
            try simp only [Act.put, s_put, s_0, s_1]
            refine wpAnyH_take (i := 1) (oi := ⟨some 50, .move (.tmp 2), 9, _, _, _⟩) (v := ?v1V3i12) rfl (by kernel_rfl) (by kernel_rfl) (by kernel_rfl) (fun _ _ _ h => h) (Or.inl ⟨by rfl, ?hy1V3i12⟩) hHeld ?rest1V3i12
            case hy1V3i12 => intro w9 hSw; go_simp; (try with_reducible rfl)
            try simp only [Act.put, s_put, s_0, s_1]
            refine wpAnyH_take (i := 3) (oi := ⟨some 52, .move (.tmp 1), 9, _, _, _⟩) (v := ?v3V3i12) rfl (by kernel_rfl) (by kernel_rfl) (by kernel_rfl) (fun _ _ _ h => h) (Or.inl ⟨by rfl, ?hy3V3i12⟩) hHeld ?rest3V3i12
            case hy3V3i12 => intro w9 hSw; go_simp; (try with_reducible rfl)
            try simp only [Act.put, s_put, s_0, s_1]
            refine wpAnyH_take (i := 6) (oi := ⟨some 55, .load 28 (.tmp 3), 28, _, _, _⟩) (v := ?v6V3i12) rfl (by kernel_rfl) (by kernel_rfl) (by kernel_rfl) (fun _ _ _ h => h) (Or.inl ⟨by rfl, ?hy6V3i12⟩) hHeld ?rest6V3i12
            case hy6V3i12 => intro w9 hSw; obtain ⟨⟨d0, d1, d2, d3, d4, d5⟩, d6, d7, d8, d9, d10⟩ := (PX.out.later hSw).at0; go_simp; (try with_reducible rfl)
            try simp only [Act.put, s_put, s_0, s_1]
            refine wpAnyH_ready (rs := [2, 4]) (by kernel_rfl) (by simp) ?_
            refine AllReadyH.cons (o := ⟨some 51, .buildSlice 42 1 #[(0, .tmp 50)], 42, _, _, _⟩) rfl (fun K hK => ?_) (AllReadyH.cons (o := ⟨some 53, .buildSlice 42 1 #[(0, .tmp 52)], 42, _, _, _⟩) rfl (fun K hK => ?_) AllReadyH.nil)
            · go_simp
              obtain ⟨x2, hx2⟩ : ∃ x, d.alloc (.cells #[.string u] 9) = x := ⟨_, rfl⟩
              rw [hx2]
              have hN2 : Below d.heap.size d x2 := by rw [← hx2]; exact (Below.refl _ _).alloc (Nat.le_refl _) _
              have hX2 : Txs x2 (some ⟨d.heap.size, 0, none⟩) 1 (fun _ => u) := by rw [← hx2]; exact txs_new _ _
              clear hx2
              have hT2 := btr hT hN2
              refine hK.out _ _ (btr hHeld hN2) (fun _ => held_up (bup hHeld hN2) _ _ _ _ ?_)
              clear hK K hHeld hT
              have hT := hT2
              have hHeld := brefl x2
              clear hT2
              try simp only [Act.put, s_put, s_0, s_1]
              refine wpAnyH_ready (rs := [4]) (by kernel_rfl) (by simp) ?_
              refine AllReadyH.cons (o := ⟨some 53, .buildSlice 42 1 #[(0, .tmp 52)], 42, _, _, _⟩) rfl (fun K hK => ?_) AllReadyH.nil
              go_simp
              obtain ⟨x4, hx4⟩ : ∃ x, x2.alloc (.cells #[.string v] 9) = x := ⟨_, rfl⟩
              rw [hx4]
              have hN4 : Below x2.heap.size x2 x4 := by rw [← hx4]; exact (Below.refl _ _).alloc (Nat.le_refl _) _
              have hX4 : Txs x4 (some ⟨x2.heap.size, 0, none⟩) 1 (fun _ => v) := by rw [← hx4]; exact txs_new _ _
              clear hx4
              have hT4 := btr hT hN4
              refine hK.out _ _ (btr hHeld hN4) (fun _ => held_up (bup hHeld hN4) _ _ _ _ ?_)
              clear hK K hHeld hT
              have hT := hT4
              have hHeld := brefl x4
              clear hT4
              try simp only [Act.put, s_put, s_0, s_1]
              refine wpAnyH_ready (rs := [5]) (by kernel_rfl) (by simp) ?_
              refine AllReadyH.cons (o := ⟨some 54, .call { callee := .value (.func 17), args := #[.tmp 49, .tmp 51, .tmp 53], argTypes := #[28, 42, 42] }, 28, _, _, _⟩) rfl (fun K hK => ?_) AllReadyH.nil
              go_simp
              refine (R2.out _ hT _ _ (hX2.later hN4) hX4).mono ?_
              rintro e x5 ⟨z5, rfl, hz1, hz2, hN5⟩
              have C7 : Hid (Calls Tryz.prog 12 #[z5.val, x.val] x5 fun e w2 => e = .returned (.bool true) ∧ Below x5.heap.size x5 w2) := SM.out z5 x5 hz1.out hz2.out (hT.trans (hN5.mono hT.size))
              go_wp2_with fail
              have hT5 := btr hT hN5
              refine hK.out _ _ (btr hHeld hN5) (fun _ => held_up (bup hHeld hN5) _ _ _ _ ?_)
              clear hK K hHeld hT
              have hT := hT5
              have hHeld := brefl x5
              clear hT5 hN5
              try simp only [Act.put, s_put, s_0, s_1]
              refine wpAnyH_ready (rs := [7]) (by kernel_rfl) (by simp) ?_
              refine AllReadyH.cons (o := ⟨some 56, .call { callee := .value (.func 12), args := #[.tmp 54, .tmp 55], argTypes := #[28, 28] }, 4, _, _, _⟩) rfl (fun K hK => ?_) AllReadyH.nil
              go_simp
              refine (C7.out).mono ?_
              rintro e x7 ⟨rfl, hN7⟩
              go_wp2_with fail
              have hT7 := btr hT hN7
              refine hK.out _ _ (btr hHeld hN7) (fun _ => held_up (bup hHeld hN7) _ _ _ _ ?_)
              clear hK K hHeld hT
              have hT := hT7
              have hHeld := brefl x7
              clear hT7 hN7
              try simp only [Act.put, s_put, s_0, s_1]
              refine wpAnyH_take (i := 8) (oi := ⟨some 57, .move (.tmp 56), 4, _, _, _⟩) (v := ?v8V3i12a) rfl (by kernel_rfl) (by kernel_rfl) (by kernel_rfl) (fun _ _ _ h => h) (Or.inl ⟨by rfl, ?hy8V3i12a⟩) hHeld ?rest8V3i12a
              case hy8V3i12a => intro w9 hSw; go_simp; (try with_reducible rfl)
              try simp only [Act.put, s_put, s_0, s_1]
              refine wpAnyH_take (i := 9) (oi := ⟨some 58, .load 28 (.tmp 9), 28, _, _, _⟩) (v := ?v9V3i12a) rfl (by kernel_rfl) (by kernel_rfl) (by kernel_rfl) (fun _ _ _ h => h) (Or.inl ⟨by rfl, ?hy9V3i12a⟩) hHeld ?rest9V3i12a
              case hy9V3i12a => intro w9 hSw; obtain ⟨⟨d0, d1, d2, d3, d4, d5⟩, d6, d7, d8, d9, d10⟩ := (PY.out.later (hT.trans (hSw.mono hT.size))).at0; go_simp; (try with_reducible rfl)
              try simp only [Act.put, s_put, s_0, s_1]
              refine wpAnyH_take (i := 12) (oi := ⟨some 61, .move (.tmp 7), 42, _, _, _⟩) (v := ?v12V3i12a) rfl (by kernel_rfl) (by kernel_rfl) (by kernel_rfl) (fun _ _ _ h => h) (Or.inl ⟨by rfl, ?hy12V3i12a⟩) hHeld ?rest12V3i12a
              case hy12V3i12a => intro w9 hSw; go_simp; (try with_reducible rfl)
              try simp only [Act.put, s_put, s_0, s_1]
              refine wpAnyH_take (i := 13) (oi := ⟨some 62, .call { callee := .builtin Builtin.len, args := #[.tmp 61], argTypes := #[42] }, 3, _, _, _⟩) (v := ?v13V3i12a) rfl (by kernel_rfl) (by kernel_rfl) (by kernel_rfl) (fun _ _ _ h => h) (Or.inl ⟨by rfl, ?hy13V3i12a⟩) hHeld ?rest13V3i12a
              case hy13V3i12a => intro w9 hSw; go_simp; (try with_reducible rfl)
              try simp only [Act.put, s_put, s_0, s_1]
              refine wpAnyH_ready (rs := [10]) (by kernel_rfl) (by simp) ?_
              refine AllReadyH.cons (o := ⟨some 59, .call { callee := .value (.func 15), args := #[.tmp 58], argTypes := #[28] }, 42, _, _, _⟩) rfl (fun K hK => ?_) AllReadyH.nil
              go_simp
              refine (V2.out _ hT).mono ?_
              rintro e x10 ⟨al2, cap2, rfl, hN10⟩
              go_wp2_with fail
              have hT10 := btr hT hN10
              refine hK.out _ _ (btr hHeld hN10) (fun _ => held_up (bup hHeld hN10) _ _ _ _ ?_)
              clear hK K hHeld hT
              have hT := hT10
              have hHeld := brefl x10
              clear hT10 hN10
              try simp only [Act.put, s_put, s_0, s_1]
              refine wpAnyH_take (i := 11) (oi := ⟨some 60, .call { callee := .builtin Builtin.len, args := #[.tmp 59], argTypes := #[42] }, 3, _, _, _⟩) (v := ?v11V3i12a) rfl (by kernel_rfl) (by kernel_rfl) (by kernel_rfl) (fun _ _ _ h => h) (Or.inl ⟨by rfl, ?hy11V3i12a⟩) hHeld ?rest11V3i12a
              case hy11V3i12a => intro w9 hSw; go_simp; (try with_reducible rfl)
              try simp only [Act.put, s_put, s_0, s_1]
              refine wpAnyH_take (i := 14) (oi := ⟨some 63, .binOp BinOp.eql 3 (.tmp 60) (.tmp 62) 3, 4, _, _, _⟩) (v := ?v14V3i12a) rfl (by kernel_rfl) (by kernel_rfl) (by kernel_rfl) (fun _ _ _ h => h) (Or.inl ⟨by rfl, ?hy14V3i12a⟩) hHeld ?rest14V3i12a
              case hy14V3i12a => intro w9 hSw; go_simp; (try with_reducible rfl)
              try simp only [Act.put, s_put, s_0, s_1]
              refine wpAnyH_take (i := 15) (oi := ⟨some 64, .pick (.tmp 57) (.tmp 63) (.const (Value.bool false)), 4, _, _, _⟩) (v := ?v15V3i12a) rfl (by kernel_rfl) (by kernel_rfl) (by kernel_rfl) (fun _ _ _ h => h) (Or.inl ⟨by rfl, ?hy15V3i12a⟩) hHeld ?rest15V3i12a
              case hy15V3i12a => intro w9 hSw; go_simp; (try with_reducible rfl)
              try simp only [Act.put, s_put, s_0, s_1]
              refine wpAnyH_take (i := 16) (oi := ⟨some 65, .move (.tmp 64), 4, _, _, _⟩) (v := ?v16V3i12a) rfl (by kernel_rfl) (by kernel_rfl) (by kernel_rfl) (fun _ _ _ h => h) (Or.inl ⟨by rfl, ?hy16V3i12a⟩) hHeld ?rest16V3i12a
              case hy16V3i12a => intro w9 hSw; go_simp; (try with_reducible rfl)
              try simp only [Act.put, s_put, s_0, s_1]
              refine wpAnyH_take (i := 17) (oi := ⟨some 66, .load 28 (.tmp 3), 28, _, _, _⟩) (v := ?v17V3i12a) rfl (by kernel_rfl) (by kernel_rfl) (by kernel_rfl) (fun _ _ _ h => h) (Or.inl ⟨by rfl, ?hy17V3i12a⟩) hHeld ?rest17V3i12a
              case hy17V3i12a => intro w9 hSw; obtain ⟨⟨d0, d1, d2, d3, d4, d5⟩, d6, d7, d8, d9, d10⟩ := (PX.out.later (hT.trans (hSw.mono hT.size))).at0; go_simp; (try with_reducible rfl)
              try simp only [Act.put, s_put, s_0, s_1]
              refine wpAnyH_ready (rs := [18]) (by kernel_rfl) (by simp) ?_
              refine AllReadyH.cons (o := ⟨some 67, .call { callee := .value (.func 10), args := #[.tmp 66], argTypes := #[28] }, 37, _, _, _⟩) rfl (fun K hK => ?_) AllReadyH.nil
              go_simp
              refine (M1.out _ hT).mono ?_
              rintro e x18 ⟨rfl, hN18⟩
              go_wp2_with fail
              have hT18 := btr hT hN18
              refine hK.out _ _ (btr hHeld hN18) (fun _ => held_up (bup hHeld hN18) _ _ _ _ ?_)
              clear hK K hHeld hT
              have hT := hT18
              have hHeld := brefl x18
              clear hT18 hN18
              try simp only [Act.put, s_put, s_0, s_1]
              refine wpAnyH_take (i := 19) (oi := ⟨some 68, .binOp BinOp.neq 37 (.tmp 67) (.const (Value.int IntKind.i64 0)) 37, 4, _, _, _⟩) (v := ?v19V3i12a) rfl (by kernel_rfl) (by kernel_rfl) (by kernel_rfl) (fun _ _ _ h => h) (Or.inl ⟨by rfl, ?hy19V3i12a⟩) hHeld ?rest19V3i12a
              case hy19V3i12a => intro w9 hSw; go_simp; (try with_reducible rfl)
              try simp only [Act.put, s_put, s_0, s_1]
              refine wpAnyH_take (i := 20) (oi := ⟨some 69, .move (.tmp 68), 4, _, _, _⟩) (v := ?v20V3i12a) rfl (by kernel_rfl) (by kernel_rfl) (by kernel_rfl) (fun _ _ _ h => h) (Or.inl ⟨by rfl, ?hy20V3i12a⟩) hHeld ?rest20V3i12a
              case hy20V3i12a => intro w9 hSw; go_simp; (try with_reducible rfl)
              try simp only [Act.put, s_put, s_0, s_1]
              refine wpAnyH_take (i := 21) (oi := ⟨some 70, .move (.tmp 10), 4, _, _, _⟩) (v := ?v21V3i12a) rfl (by kernel_rfl) (by kernel_rfl) (by kernel_rfl) (fun _ _ _ h => h) (Or.inl ⟨by rfl, ?hy21V3i12a⟩) hHeld ?rest21V3i12a
              case hy21V3i12a => intro w9 hSw; go_simp; (try with_reducible rfl)
              try simp only [Act.put, s_put, s_0, s_1]
              refine wpAnyH_take (i := 22) (oi := ⟨some 71, .unOp UnOp.not 4 (.tmp 70), 4, _, _, _⟩) (v := ?v22V3i12a) rfl (by kernel_rfl) (by kernel_rfl) (by kernel_rfl) (fun _ _ _ h => h) (Or.inl ⟨by rfl, ?hy22V3i12a⟩) hHeld ?rest22V3i12a
              case hy22V3i12a => intro w9 hSw; go_simp; (try with_reducible rfl)
              try simp only [Act.put, s_put, s_0, s_1]
              refine wpAnyH_take (i := 23) (oi := ⟨some 72, .pick (.tmp 69) (.const (Value.bool true)) (.tmp 71), 4, _, _, _⟩) (v := ?v23V3i12a) rfl (by kernel_rfl) (by kernel_rfl) (by kernel_rfl) (fun _ _ _ h => h) (Or.inl ⟨by rfl, ?hy23V3i12a⟩) hHeld ?rest23V3i12a
              case hy23V3i12a => intro w9 hSw; go_simp; (try with_reducible rfl)
              try simp only [Act.put, s_put, s_0, s_1]
              refine wpAnyH_take (i := 24) (oi := ⟨some 73, .move (.tmp 72), 4, _, _, _⟩) (v := ?v24V3i12a) rfl (by kernel_rfl) (by kernel_rfl) (by kernel_rfl) (fun _ _ _ h => h) (Or.inl ⟨by rfl, ?hy24V3i12a⟩) hHeld ?rest24V3i12a
              case hy24V3i12a => intro w9 hSw; go_simp; (try with_reducible rfl)
              try simp only [Act.put, s_put, s_0, s_1]
              refine wpAnyH_take (i := 25) (oi := ⟨some 74, .load 28 (.tmp 9), 28, _, _, _⟩) (v := ?v25V3i12a) rfl (by kernel_rfl) (by kernel_rfl) (by kernel_rfl) (fun _ _ _ h => h) (Or.inl ⟨by rfl, ?hy25V3i12a⟩) hHeld ?rest25V3i12a
              case hy25V3i12a => intro w9 hSw; obtain ⟨⟨d0, d1, d2, d3, d4, d5⟩, d6, d7, d8, d9, d10⟩ := (PY.out.later (hT.trans (hSw.mono hT.size))).at0; go_simp; (try with_reducible rfl)
              try simp only [Act.put, s_put, s_0, s_1]
              refine wpAnyH_ready (rs := [26]) (by kernel_rfl) (by simp) ?_
              refine AllReadyH.cons (o := ⟨some 75, .call { callee := .value (.func 10), args := #[.tmp 74], argTypes := #[28] }, 37, _, _, _⟩) rfl (fun K hK => ?_) AllReadyH.nil
              go_simp
              refine (M2.out _ hT).mono ?_
              rintro e x26 ⟨rfl, hN26⟩
              go_wp2_with fail
              have hT26 := btr hT hN26
              refine hK.out _ _ (btr hHeld hN26) (fun _ => held_up (bup hHeld hN26) _ _ _ _ ?_)
              clear hK K hHeld hT
              have hT := hT26
              have hHeld := brefl x26
              clear hT26 hN26
              try simp only [Act.put, s_put, s_0, s_1]
              refine wpAnyH_take (i := 27) (oi := ⟨some 76, .binOp BinOp.eql 37 (.tmp 75) (.const (Value.int IntKind.i64 0)) 37, 4, _, _, _⟩) (v := ?v27V3i12a) rfl (by kernel_rfl) (by kernel_rfl) (by kernel_rfl) (fun _ _ _ h => h) (Or.inl ⟨by rfl, ?hy27V3i12a⟩) hHeld ?rest27V3i12a
              case hy27V3i12a => intro w9 hSw; go_simp; (try with_reducible rfl)
              try simp only [Act.put, s_put, s_0, s_1]
              refine wpAnyH_take (i := 28) (oi := ⟨some 77, .pick (.tmp 73) (.const (Value.bool true)) (.tmp 76), 4, _, _, _⟩) (v := ?v28V3i12a) rfl (by kernel_rfl) (by kernel_rfl) (by kernel_rfl) (fun _ _ _ h => h) (Or.inl ⟨by rfl, ?hy28V3i12a⟩) hHeld ?rest28V3i12a
              case hy28V3i12a => intro w9 hSw; go_simp; (try with_reducible rfl)
              try simp only [Act.put, s_put, s_0, s_1]
              refine wpAnyH_take (i := 29) (oi := ⟨some 78, .pick (.tmp 65) (.tmp 77) (.const (Value.bool false)), 4, _, _, _⟩) (v := ?v29V3i12a) rfl (by kernel_rfl) (by kernel_rfl) (by kernel_rfl) (fun _ _ _ h => h) (Or.inl ⟨by rfl, ?hy29V3i12a⟩) hHeld ?rest29V3i12a
              case hy29V3i12a => intro w9 hSw; go_simp; (try with_reducible rfl)
              try simp only [Act.put, s_put, s_0, s_1]
              refine wpAnyH_take (i := 30) (oi := ⟨some 79, .move (.tmp 78), 4, _, _, _⟩) (v := ?v30V3i12a) rfl (by kernel_rfl) (by kernel_rfl) (by kernel_rfl) (fun _ _ _ h => h) (Or.inl ⟨by rfl, ?hy30V3i12a⟩) hHeld ?rest30V3i12a
              case hy30V3i12a => intro w9 hSw; go_simp; (try with_reducible rfl)
              try simp only [Act.put, s_put, s_0, s_1]
              refine wpAnyH_ready (rs := [31]) (by kernel_rfl) (by simp) ?_
              refine AllReadyH.cons (o := ⟨some 80, .call { callee := .value (.func 6), args := #[], argTypes := #[] }, 4, _, _, _⟩) rfl (fun K hK => ?_) AllReadyH.nil
              go_simp
              refine (W1.out _).mono ?_
              rintro e x31 ⟨rfl, hN31⟩
              go_wp2_with fail
              have hT31 := btr hT hN31
              refine hK.out _ _ (btr hHeld hN31) (fun _ => held_up (bup hHeld hN31) _ _ _ _ ?_)
              clear hK K hHeld hT
              have hT := hT31
              have hHeld := brefl x31
              clear hT31 hN31
              try simp only [Act.put, s_put, s_0, s_1]
              refine wpAnyH_take (i := 32) (oi := ⟨some 81, .pick (.tmp 79) (.tmp 80) (.const (Value.bool false)), 4, _, _, _⟩) (v := ?v32V3i12a) rfl (by kernel_rfl) (by kernel_rfl) (by kernel_rfl) (fun _ _ _ h => h) (Or.inl ⟨by rfl, ?hy32V3i12a⟩) hHeld ?rest32V3i12a
              case hy32V3i12a => intro w9 hSw; go_simp; (try with_reducible rfl)
              try simp only [Act.put, s_put, s_0, s_1]
              refine wpAnyH_take (i := 33) (oi := ⟨some 6, .assign (.tmp 81), 4, _, _, _⟩) (v := ?v33V3i12a) rfl (by kernel_rfl) (by kernel_rfl) (by kernel_rfl) (fun _ _ _ h => h) (Or.inl ⟨by rfl, ?hy33V3i12a⟩) hHeld ?rest33V3i12a
              case hy33V3i12a => intro w9 hSw; go_simp; (try with_reducible rfl)
              try simp only [Act.put, s_put, s_0, s_1]
              refine wpAnyH_done (by kernel_rfl) ?_ _
              refine NoPanic.normal ?_
              go_wp2
              go_ret
              exact ⟨rfl, HB.out.trans ((HAW.out.trans (hT.mono HAW.out.size)).mono HB.out.size)⟩
            · go_simp
              obtain ⟨x4, hx4⟩ : ∃ x, d.alloc (.cells #[.string v] 9) = x := ⟨_, rfl⟩
              rw [hx4]
              have hN4 : Below d.heap.size d x4 := by rw [← hx4]; exact (Below.refl _ _).alloc (Nat.le_refl _) _
              have hX4 : Txs x4 (some ⟨d.heap.size, 0, none⟩) 1 (fun _ => v) := by rw [← hx4]; exact txs_new _ _
              clear hx4
              have hT4 := btr hT hN4
              refine hK.out _ _ (btr hHeld hN4) (fun _ => held_up (bup hHeld hN4) _ _ _ _ ?_)
              clear hK K hHeld hT
              have hT := hT4
              have hHeld := brefl x4
              clear hT4
              try simp only [Act.put, s_put, s_0, s_1]
              refine wpAnyH_ready (rs := [2]) (by kernel_rfl) (by simp) ?_
              refine AllReadyH.cons (o := ⟨some 51, .buildSlice 42 1 #[(0, .tmp 50)], 42, _, _, _⟩) rfl (fun K hK => ?_) AllReadyH.nil
              go_simp
              obtain ⟨x2, hx2⟩ : ∃ x, x4.alloc (.cells #[.string u] 9) = x := ⟨_, rfl⟩
              rw [hx2]
              have hN2 : Below x4.heap.size x4 x2 := by rw [← hx2]; exact (Below.refl _ _).alloc (Nat.le_refl _) _
              have hX2 : Txs x2 (some ⟨x4.heap.size, 0, none⟩) 1 (fun _ => u) := by rw [← hx2]; exact txs_new _ _
              clear hx2
              have hT2 := btr hT hN2
              refine hK.out _ _ (btr hHeld hN2) (fun _ => held_up (bup hHeld hN2) _ _ _ _ ?_)
              clear hK K hHeld hT
              have hT := hT2
              have hHeld := brefl x2
              clear hT2
              try simp only [Act.put, s_put, s_0, s_1]
              refine wpAnyH_ready (rs := [5]) (by kernel_rfl) (by simp) ?_
              refine AllReadyH.cons (o := ⟨some 54, .call { callee := .value (.func 17), args := #[.tmp 49, .tmp 51, .tmp 53], argTypes := #[28, 42, 42] }, 28, _, _, _⟩) rfl (fun K hK => ?_) AllReadyH.nil
              go_simp
              refine (R2.out _ hT _ _ hX2 (hX4.later hN2)).mono ?_
              rintro e x5 ⟨z5, rfl, hz1, hz2, hN5⟩
              have C7 : Hid (Calls Tryz.prog 12 #[z5.val, x.val] x5 fun e w2 => e = .returned (.bool true) ∧ Below x5.heap.size x5 w2) := SM.out z5 x5 hz1.out hz2.out (hT.trans (hN5.mono hT.size))
              go_wp2_with fail
              have hT5 := btr hT hN5
              refine hK.out _ _ (btr hHeld hN5) (fun _ => held_up (bup hHeld hN5) _ _ _ _ ?_)
              clear hK K hHeld hT
              have hT := hT5
              have hHeld := brefl x5
              clear hT5 hN5
              try simp only [Act.put, s_put, s_0, s_1]
              refine wpAnyH_ready (rs := [7]) (by kernel_rfl) (by simp) ?_
              refine AllReadyH.cons (o := ⟨some 56, .call { callee := .value (.func 12), args := #[.tmp 54, .tmp 55], argTypes := #[28, 28] }, 4, _, _, _⟩) rfl (fun K hK => ?_) AllReadyH.nil
              go_simp
              refine (C7.out).mono ?_
              rintro e x7 ⟨rfl, hN7⟩
              go_wp2_with fail
              have hT7 := btr hT hN7
              refine hK.out _ _ (btr hHeld hN7) (fun _ => held_up (bup hHeld hN7) _ _ _ _ ?_)
              clear hK K hHeld hT
              have hT := hT7
              have hHeld := brefl x7
              clear hT7 hN7
              try simp only [Act.put, s_put, s_0, s_1]
              refine wpAnyH_take (i := 8) (oi := ⟨some 57, .move (.tmp 56), 4, _, _, _⟩) (v := ?v8V3i12b) rfl (by kernel_rfl) (by kernel_rfl) (by kernel_rfl) (fun _ _ _ h => h) (Or.inl ⟨by rfl, ?hy8V3i12b⟩) hHeld ?rest8V3i12b
              case hy8V3i12b => intro w9 hSw; go_simp; (try with_reducible rfl)
              try simp only [Act.put, s_put, s_0, s_1]
              refine wpAnyH_take (i := 9) (oi := ⟨some 58, .load 28 (.tmp 9), 28, _, _, _⟩) (v := ?v9V3i12b) rfl (by kernel_rfl) (by kernel_rfl) (by kernel_rfl) (fun _ _ _ h => h) (Or.inl ⟨by rfl, ?hy9V3i12b⟩) hHeld ?rest9V3i12b
              case hy9V3i12b => intro w9 hSw; obtain ⟨⟨d0, d1, d2, d3, d4, d5⟩, d6, d7, d8, d9, d10⟩ := (PY.out.later (hT.trans (hSw.mono hT.size))).at0; go_simp; (try with_reducible rfl)
              try simp only [Act.put, s_put, s_0, s_1]
              refine wpAnyH_take (i := 12) (oi := ⟨some 61, .move (.tmp 7), 42, _, _, _⟩) (v := ?v12V3i12b) rfl (by kernel_rfl) (by kernel_rfl) (by kernel_rfl) (fun _ _ _ h => h) (Or.inl ⟨by rfl, ?hy12V3i12b⟩) hHeld ?rest12V3i12b
              case hy12V3i12b => intro w9 hSw; go_simp; (try with_reducible rfl)
              try simp only [Act.put, s_put, s_0, s_1]
              refine wpAnyH_take (i := 13) (oi := ⟨some 62, .call { callee := .builtin Builtin.len, args := #[.tmp 61], argTypes := #[42] }, 3, _, _, _⟩) (v := ?v13V3i12b) rfl (by kernel_rfl) (by kernel_rfl) (by kernel_rfl) (fun _ _ _ h => h) (Or.inl ⟨by rfl, ?hy13V3i12b⟩) hHeld ?rest13V3i12b
              case hy13V3i12b => intro w9 hSw; go_simp; (try with_reducible rfl)
              try simp only [Act.put, s_put, s_0, s_1]
              refine wpAnyH_ready (rs := [10]) (by kernel_rfl) (by simp) ?_
              refine AllReadyH.cons (o := ⟨some 59, .call { callee := .value (.func 15), args := #[.tmp 58], argTypes := #[28] }, 42, _, _, _⟩) rfl (fun K hK => ?_) AllReadyH.nil
              go_simp
              refine (V2.out _ hT).mono ?_
              rintro e x10 ⟨al2, cap2, rfl, hN10⟩
              go_wp2_with fail
              have hT10 := btr hT hN10
              refine hK.out _ _ (btr hHeld hN10) (fun _ => held_up (bup hHeld hN10) _ _ _ _ ?_)
              clear hK K hHeld hT
              have hT := hT10
              have hHeld := brefl x10
              clear hT10 hN10
              try simp only [Act.put, s_put, s_0, s_1]
              refine wpAnyH_take (i := 11) (oi := ⟨some 60, .call { callee := .builtin Builtin.len, args := #[.tmp 59], argTypes := #[42] }, 3, _, _, _⟩) (v := ?v11V3i12b) rfl (by kernel_rfl) (by kernel_rfl) (by kernel_rfl) (fun _ _ _ h => h) (Or.inl ⟨by rfl, ?hy11V3i12b⟩) hHeld ?rest11V3i12b
              case hy11V3i12b => intro w9 hSw; go_simp; (try with_reducible rfl)
              try simp only [Act.put, s_put, s_0, s_1]
              refine wpAnyH_take (i := 14) (oi := ⟨some 63, .binOp BinOp.eql 3 (.tmp 60) (.tmp 62) 3, 4, _, _, _⟩) (v := ?v14V3i12b) rfl (by kernel_rfl) (by kernel_rfl) (by kernel_rfl) (fun _ _ _ h => h) (Or.inl ⟨by rfl, ?hy14V3i12b⟩) hHeld ?rest14V3i12b
              case hy14V3i12b => intro w9 hSw; go_simp; (try with_reducible rfl)
              try simp only [Act.put, s_put, s_0, s_1]
              refine wpAnyH_take (i := 15) (oi := ⟨some 64, .pick (.tmp 57) (.tmp 63) (.const (Value.bool false)), 4, _, _, _⟩) (v := ?v15V3i12b) rfl (by kernel_rfl) (by kernel_rfl) (by kernel_rfl) (fun _ _ _ h => h) (Or.inl ⟨by rfl, ?hy15V3i12b⟩) hHeld ?rest15V3i12b
              case hy15V3i12b => intro w9 hSw; go_simp; (try with_reducible rfl)
              try simp only [Act.put, s_put, s_0, s_1]
              refine wpAnyH_take (i := 16) (oi := ⟨some 65, .move (.tmp 64), 4, _, _, _⟩) (v := ?v16V3i12b) rfl (by kernel_rfl) (by kernel_rfl) (by kernel_rfl) (fun _ _ _ h => h) (Or.inl ⟨by rfl, ?hy16V3i12b⟩) hHeld ?rest16V3i12b
              case hy16V3i12b => intro w9 hSw; go_simp; (try with_reducible rfl)
              try simp only [Act.put, s_put, s_0, s_1]
              refine wpAnyH_take (i := 17) (oi := ⟨some 66, .load 28 (.tmp 3), 28, _, _, _⟩) (v := ?v17V3i12b) rfl (by kernel_rfl) (by kernel_rfl) (by kernel_rfl) (fun _ _ _ h => h) (Or.inl ⟨by rfl, ?hy17V3i12b⟩) hHeld ?rest17V3i12b
              case hy17V3i12b => intro w9 hSw; obtain ⟨⟨d0, d1, d2, d3, d4, d5⟩, d6, d7, d8, d9, d10⟩ := (PX.out.later (hT.trans (hSw.mono hT.size))).at0; go_simp; (try with_reducible rfl)
              try simp only [Act.put, s_put, s_0, s_1]
              refine wpAnyH_ready (rs := [18]) (by kernel_rfl) (by simp) ?_
              refine AllReadyH.cons (o := ⟨some 67, .call { callee := .value (.func 10), args := #[.tmp 66], argTypes := #[28] }, 37, _, _, _⟩) rfl (fun K hK => ?_) AllReadyH.nil
              go_simp
              refine (M1.out _ hT).mono ?_
              rintro e x18 ⟨rfl, hN18⟩
              go_wp2_with fail
              have hT18 := btr hT hN18
              refine hK.out _ _ (btr hHeld hN18) (fun _ => held_up (bup hHeld hN18) _ _ _ _ ?_)
              clear hK K hHeld hT
              have hT := hT18
              have hHeld := brefl x18
              clear hT18 hN18
              try simp only [Act.put, s_put, s_0, s_1]
              refine wpAnyH_take (i := 19) (oi := ⟨some 68, .binOp BinOp.neq 37 (.tmp 67) (.const (Value.int IntKind.i64 0)) 37, 4, _, _, _⟩) (v := ?v19V3i12b) rfl (by kernel_rfl) (by kernel_rfl) (by kernel_rfl) (fun _ _ _ h => h) (Or.inl ⟨by rfl, ?hy19V3i12b⟩) hHeld ?rest19V3i12b
              case hy19V3i12b => intro w9 hSw; go_simp; (try with_reducible rfl)
              try simp only [Act.put, s_put, s_0, s_1]
              refine wpAnyH_take (i := 20) (oi := ⟨some 69, .move (.tmp 68), 4, _, _, _⟩) (v := ?v20V3i12b) rfl (by kernel_rfl) (by kernel_rfl) (by kernel_rfl) (fun _ _ _ h => h) (Or.inl ⟨by rfl, ?hy20V3i12b⟩) hHeld ?rest20V3i12b
              case hy20V3i12b => intro w9 hSw; go_simp; (try with_reducible rfl)
              try simp only [Act.put, s_put, s_0, s_1]
              refine wpAnyH_take (i := 21) (oi := ⟨some 70, .move (.tmp 10), 4, _, _, _⟩) (v := ?v21V3i12b) rfl (by kernel_rfl) (by kernel_rfl) (by kernel_rfl) (fun _ _ _ h => h) (Or.inl ⟨by rfl, ?hy21V3i12b⟩) hHeld ?rest21V3i12b
              case hy21V3i12b => intro w9 hSw; go_simp; (try with_reducible rfl)
              try simp only [Act.put, s_put, s_0, s_1]
              refine wpAnyH_take (i := 22) (oi := ⟨some 71, .unOp UnOp.not 4 (.tmp 70), 4, _, _, _⟩) (v := ?v22V3i12b) rfl (by kernel_rfl) (by kernel_rfl) (by kernel_rfl) (fun _ _ _ h => h) (Or.inl ⟨by rfl, ?hy22V3i12b⟩) hHeld ?rest22V3i12b
              case hy22V3i12b => intro w9 hSw; go_simp; (try with_reducible rfl)
              try simp only [Act.put, s_put, s_0, s_1]
              refine wpAnyH_take (i := 23) (oi := ⟨some 72, .pick (.tmp 69) (.const (Value.bool true)) (.tmp 71), 4, _, _, _⟩) (v := ?v23V3i12b) rfl (by kernel_rfl) (by kernel_rfl) (by kernel_rfl) (fun _ _ _ h => h) (Or.inl ⟨by rfl, ?hy23V3i12b⟩) hHeld ?rest23V3i12b
              case hy23V3i12b => intro w9 hSw; go_simp; (try with_reducible rfl)
              try simp only [Act.put, s_put, s_0, s_1]
              refine wpAnyH_take (i := 24) (oi := ⟨some 73, .move (.tmp 72), 4, _, _, _⟩) (v := ?v24V3i12b) rfl (by kernel_rfl) (by kernel_rfl) (by kernel_rfl) (fun _ _ _ h => h) (Or.inl ⟨by rfl, ?hy24V3i12b⟩) hHeld ?rest24V3i12b
              case hy24V3i12b => intro w9 hSw; go_simp; (try with_reducible rfl)
              try simp only [Act.put, s_put, s_0, s_1]
              refine wpAnyH_take (i := 25) (oi := ⟨some 74, .load 28 (.tmp 9), 28, _, _, _⟩) (v := ?v25V3i12b) rfl (by kernel_rfl) (by kernel_rfl) (by kernel_rfl) (fun _ _ _ h => h) (Or.inl ⟨by rfl, ?hy25V3i12b⟩) hHeld ?rest25V3i12b
              case hy25V3i12b => intro w9 hSw; obtain ⟨⟨d0, d1, d2, d3, d4, d5⟩, d6, d7, d8, d9, d10⟩ := (PY.out.later (hT.trans (hSw.mono hT.size))).at0; go_simp; (try with_reducible rfl)
              try simp only [Act.put, s_put, s_0, s_1]
              refine wpAnyH_ready (rs := [26]) (by kernel_rfl) (by simp) ?_
              refine AllReadyH.cons (o := ⟨some 75, .call { callee := .value (.func 10), args := #[.tmp 74], argTypes := #[28] }, 37, _, _, _⟩) rfl (fun K hK => ?_) AllReadyH.nil
              go_simp
              refine (M2.out _ hT).mono ?_
              rintro e x26 ⟨rfl, hN26⟩
              go_wp2_with fail
              have hT26 := btr hT hN26
              refine hK.out _ _ (btr hHeld hN26) (fun _ => held_up (bup hHeld hN26) _ _ _ _ ?_)
              clear hK K hHeld hT
              have hT := hT26
              have hHeld := brefl x26
              clear hT26 hN26
              try simp only [Act.put, s_put, s_0, s_1]
              refine wpAnyH_take (i := 27) (oi := ⟨some 76, .binOp BinOp.eql 37 (.tmp 75) (.const (Value.int IntKind.i64 0)) 37, 4, _, _, _⟩) (v := ?v27V3i12b) rfl (by kernel_rfl) (by kernel_rfl) (by kernel_rfl) (fun _ _ _ h => h) (Or.inl ⟨by rfl, ?hy27V3i12b⟩) hHeld ?rest27V3i12b
              case hy27V3i12b => intro w9 hSw; go_simp; (try with_reducible rfl)
              try simp only [Act.put, s_put, s_0, s_1]
              refine wpAnyH_take (i := 28) (oi := ⟨some 77, .pick (.tmp 73) (.const (Value.bool true)) (.tmp 76), 4, _, _, _⟩) (v := ?v28V3i12b) rfl (by kernel_rfl) (by kernel_rfl) (by kernel_rfl) (fun _ _ _ h => h) (Or.inl ⟨by rfl, ?hy28V3i12b⟩) hHeld ?rest28V3i12b
              case hy28V3i12b => intro w9 hSw; go_simp; (try with_reducible rfl)
              try simp only [Act.put, s_put, s_0, s_1]
              refine wpAnyH_take (i := 29) (oi := ⟨some 78, .pick (.tmp 65) (.tmp 77) (.const (Value.bool false)), 4, _, _, _⟩) (v := ?v29V3i12b) rfl (by kernel_rfl) (by kernel_rfl) (by kernel_rfl) (fun _ _ _ h => h) (Or.inl ⟨by rfl, ?hy29V3i12b⟩) hHeld ?rest29V3i12b
              case hy29V3i12b => intro w9 hSw; go_simp; (try with_reducible rfl)
              try simp only [Act.put, s_put, s_0, s_1]
              refine wpAnyH_take (i := 30) (oi := ⟨some 79, .move (.tmp 78), 4, _, _, _⟩) (v := ?v30V3i12b) rfl (by kernel_rfl) (by kernel_rfl) (by kernel_rfl) (fun _ _ _ h => h) (Or.inl ⟨by rfl, ?hy30V3i12b⟩) hHeld ?rest30V3i12b
              case hy30V3i12b => intro w9 hSw; go_simp; (try with_reducible rfl)
              try simp only [Act.put, s_put, s_0, s_1]
              refine wpAnyH_ready (rs := [31]) (by kernel_rfl) (by simp) ?_
              refine AllReadyH.cons (o := ⟨some 80, .call { callee := .value (.func 6), args := #[], argTypes := #[] }, 4, _, _, _⟩) rfl (fun K hK => ?_) AllReadyH.nil
              go_simp
              refine (W1.out _).mono ?_
              rintro e x31 ⟨rfl, hN31⟩
              go_wp2_with fail
              have hT31 := btr hT hN31
              refine hK.out _ _ (btr hHeld hN31) (fun _ => held_up (bup hHeld hN31) _ _ _ _ ?_)
              clear hK K hHeld hT
              have hT := hT31
              have hHeld := brefl x31
              clear hT31 hN31
              try simp only [Act.put, s_put, s_0, s_1]
              refine wpAnyH_take (i := 32) (oi := ⟨some 81, .pick (.tmp 79) (.tmp 80) (.const (Value.bool false)), 4, _, _, _⟩) (v := ?v32V3i12b) rfl (by kernel_rfl) (by kernel_rfl) (by kernel_rfl) (fun _ _ _ h => h) (Or.inl ⟨by rfl, ?hy32V3i12b⟩) hHeld ?rest32V3i12b
              case hy32V3i12b => intro w9 hSw; go_simp; (try with_reducible rfl)
              try simp only [Act.put, s_put, s_0, s_1]
              refine wpAnyH_take (i := 33) (oi := ⟨some 6, .assign (.tmp 81), 4, _, _, _⟩) (v := ?v33V3i12b) rfl (by kernel_rfl) (by kernel_rfl) (by kernel_rfl) (fun _ _ _ h => h) (Or.inl ⟨by rfl, ?hy33V3i12b⟩) hHeld ?rest33V3i12b
              case hy33V3i12b => intro w9 hSw; go_simp; (try with_reducible rfl)
              try simp only [Act.put, s_put, s_0, s_1]
              refine wpAnyH_done (by kernel_rfl) ?_ _
              refine NoPanic.normal ?_
              go_wp2
              go_ret
              exact ⟨rfl, HB.out.trans ((HAW.out.trans (hT.mono HAW.out.size)).mono HB.out.size)⟩
          · clear h1 M2'
            go_upto_region 11 with fail
            refine wp_region_noPanic ?_
            refine wp_region_held_drew (S := fun w' => Below W.heap.size W w') (by kernel_rfl) ((Below.refl _ _).drew) (fun hHeld => ?_)
            have hT : Below W.heap.size W W.drew := hHeld
            obtain ⟨d, hdw⟩ : ∃ d, d = W.drew := ⟨_, rfl⟩
            rw [← hdw] at hHeld hT ⊢
            clear hdw
            refine wpAnyH_take (i := 0) (oi := ⟨some 49, .load 28 (.tmp 9), 28, _, _, _⟩) (v := ?v0V2a) rfl (by kernel_rfl) (by kernel_rfl) (by kernel_rfl) (fun _ _ _ h => h) (Or.inl ⟨by rfl, ?hy0V2a⟩) hHeld ?rest0V2a
            case hy0V2a => intro w9 hSw; obtain ⟨⟨d0, d1, d2, d3, d4, d5⟩, d6, d7, d8, d9, d10⟩ := (PY.out.later hSw).at0; go_simp; (try with_reducible rfl)
            try simp only [Act.put, s_put, s_0, s_1]
            refine wpAnyH_take (i := 1) (oi := ⟨some 50, .move (.tmp 2), 9, _, _, _⟩) (v := ?v1V2a) rfl (by kernel_rfl) (by kernel_rfl) (by kernel_rfl) (fun _ _ _ h => h) (Or.inl ⟨by rfl, ?hy1V2a⟩) hHeld ?rest1V2a
            case hy1V2a => intro w9 hSw; go_simp; (try with_reducible rfl)
            try simp only [Act.put, s_put, s_0, s_1]
            refine wpAnyH_take (i := 3) (oi := ⟨some 52, .move (.tmp 1), 9, _, _, _⟩) (v := ?v3V2a) rfl (by kernel_rfl) (by kernel_rfl) (by kernel_rfl) (fun _ _ _ h => h) (Or.inl ⟨by rfl, ?hy3V2a⟩) hHeld ?rest3V2a
            case hy3V2a => intro w9 hSw; go_simp; (try with_reducible rfl)
            try simp only [Act.put, s_put, s_0, s_1]
            refine wpAnyH_take (i := 6) (oi := ⟨some 55, .load 28 (.tmp 3), 28, _, _, _⟩) (v := ?v6V2a) rfl (by kernel_rfl) (by kernel_rfl) (by kernel_rfl) (fun _ _ _ h => h) (Or.inl ⟨by rfl, ?hy6V2a⟩) hHeld ?rest6V2a
            case hy6V2a => intro w9 hSw; obtain ⟨⟨d0, d1, d2, d3, d4, d5⟩, d6, d7, d8, d9, d10⟩ := (PX.out.later hSw).at0; go_simp; (try with_reducible rfl)
            try simp only [Act.put, s_put, s_0, s_1]
            refine wpAnyH_ready (rs := [2, 4]) (by kernel_rfl) (by simp) ?_
            refine AllReadyH.cons (o := ⟨some 51, .buildSlice 42 1 #[(0, .tmp 50)], 42, _, _, _⟩) rfl (fun K hK => ?_) (AllReadyH.cons (o := ⟨some 53, .buildSlice 42 1 #[(0, .tmp 52)], 42, _, _, _⟩) rfl (fun K hK => ?_) AllReadyH.nil)
            · go_simp
              obtain ⟨x2, hx2⟩ : ∃ x, d.alloc (.cells #[.string u] 9) = x := ⟨_, rfl⟩
              rw [hx2]
              have hN2 : Below d.heap.size d x2 := by rw [← hx2]; exact (Below.refl _ _).alloc (Nat.le_refl _) _
              have hX2 : Txs x2 (some ⟨d.heap.size, 0, none⟩) 1 (fun _ => u) := by rw [← hx2]; exact txs_new _ _
              clear hx2
              have hT2 := btr hT hN2
              refine hK.out _ _ (btr hHeld hN2) (fun _ => held_up (bup hHeld hN2) _ _ _ _ ?_)
              clear hK K hHeld hT
              have hT := hT2
              have hHeld := brefl x2
              clear hT2
              try simp only [Act.put, s_put, s_0, s_1]
              refine wpAnyH_ready (rs := [4]) (by kernel_rfl) (by simp) ?_
              refine AllReadyH.cons (o := ⟨some 53, .buildSlice 42 1 #[(0, .tmp 52)], 42, _, _, _⟩) rfl (fun K hK => ?_) AllReadyH.nil
              go_simp
              obtain ⟨x4, hx4⟩ : ∃ x, x2.alloc (.cells #[.string v] 9) = x := ⟨_, rfl⟩
              rw [hx4]
              have hN4 : Below x2.heap.size x2 x4 := by rw [← hx4]; exact (Below.refl _ _).alloc (Nat.le_refl _) _
              have hX4 : Txs x4 (some ⟨x2.heap.size, 0, none⟩) 1 (fun _ => v) := by rw [← hx4]; exact txs_new _ _
              clear hx4
              have hT4 := btr hT hN4
              refine hK.out _ _ (btr hHeld hN4) (fun _ => held_up (bup hHeld hN4) _ _ _ _ ?_)
              clear hK K hHeld hT
              have hT := hT4
              have hHeld := brefl x4
              clear hT4
              try simp only [Act.put, s_put, s_0, s_1]
              refine wpAnyH_ready (rs := [5]) (by kernel_rfl) (by simp) ?_
              refine AllReadyH.cons (o := ⟨some 54, .call { callee := .value (.func 17), args := #[.tmp 49, .tmp 51, .tmp 53], argTypes := #[28, 42, 42] }, 28, _, _, _⟩) rfl (fun K hK => ?_) AllReadyH.nil
              go_simp
              refine (R2.out _ hT _ _ (hX2.later hN4) hX4).mono ?_
              rintro e x5 ⟨z5, rfl, hz1, hz2, hN5⟩
              have C7 : Hid (Calls Tryz.prog 12 #[z5.val, x.val] x5 fun e w2 => e = .returned (.bool true) ∧ Below x5.heap.size x5 w2) := SM.out z5 x5 hz1.out hz2.out (hT.trans (hN5.mono hT.size))
              go_wp2_with fail
              have hT5 := btr hT hN5
              refine hK.out _ _ (btr hHeld hN5) (fun _ => held_up (bup hHeld hN5) _ _ _ _ ?_)
              clear hK K hHeld hT
              have hT := hT5
              have hHeld := brefl x5
              clear hT5 hN5
              try simp only [Act.put, s_put, s_0, s_1]
              refine wpAnyH_ready (rs := [7]) (by kernel_rfl) (by simp) ?_
              refine AllReadyH.cons (o := ⟨some 56, .call { callee := .value (.func 12), args := #[.tmp 54, .tmp 55], argTypes := #[28, 28] }, 4, _, _, _⟩) rfl (fun K hK => ?_) AllReadyH.nil
              go_simp
              refine (C7.out).mono ?_
              rintro e x7 ⟨rfl, hN7⟩
              go_wp2_with fail
              have hT7 := btr hT hN7
              refine hK.out _ _ (btr hHeld hN7) (fun _ => held_up (bup hHeld hN7) _ _ _ _ ?_)
              clear hK K hHeld hT
              have hT := hT7
              have hHeld := brefl x7
              clear hT7 hN7
              try simp only [Act.put, s_put, s_0, s_1]
              refine wpAnyH_take (i := 8) (oi := ⟨some 57, .move (.tmp 56), 4, _, _, _⟩) (v := ?v8V2aa) rfl (by kernel_rfl) (by kernel_rfl) (by kernel_rfl) (fun _ _ _ h => h) (Or.inl ⟨by rfl, ?hy8V2aa⟩) hHeld ?rest8V2aa
              case hy8V2aa => intro w9 hSw; go_simp; (try with_reducible rfl)
              try simp only [Act.put, s_put, s_0, s_1]
              refine wpAnyH_take (i := 9) (oi := ⟨some 58, .load 28 (.tmp 9), 28, _, _, _⟩) (v := ?v9V2aa) rfl (by kernel_rfl) (by kernel_rfl) (by kernel_rfl) (fun _ _ _ h => h) (Or.inl ⟨by rfl, ?hy9V2aa⟩) hHeld ?rest9V2aa
              case hy9V2aa => intro w9 hSw; obtain ⟨⟨d0, d1, d2, d3, d4, d5⟩, d6, d7, d8, d9, d10⟩ := (PY.out.later (hT.trans (hSw.mono hT.size))).at0; go_simp; (try with_reducible rfl)
              try simp only [Act.put, s_put, s_0, s_1]
              refine wpAnyH_take (i := 12) (oi := ⟨some 61, .move (.tmp 7), 42, _, _, _⟩) (v := ?v12V2aa) rfl (by kernel_rfl) (by kernel_rfl) (by kernel_rfl) (fun _ _ _ h => h) (Or.inl ⟨by rfl, ?hy12V2aa⟩) hHeld ?rest12V2aa
              case hy12V2aa => intro w9 hSw; go_simp; (try with_reducible rfl)
              try simp only [Act.put, s_put, s_0, s_1]
              refine wpAnyH_take (i := 13) (oi := ⟨some 62, .call { callee := .builtin Builtin.len, args := #[.tmp 61], argTypes := #[42] }, 3, _, _, _⟩) (v := ?v13V2aa) rfl (by kernel_rfl) (by kernel_rfl) (by kernel_rfl) (fun _ _ _ h => h) (Or.inl ⟨by rfl, ?hy13V2aa⟩) hHeld ?rest13V2aa
              case hy13V2aa => intro w9 hSw; go_simp; (try with_reducible rfl)
              try simp only [Act.put, s_put, s_0, s_1]
              refine wpAnyH_ready (rs := [10]) (by kernel_rfl) (by simp) ?_
              refine AllReadyH.cons (o := ⟨some 59, .call { callee := .value (.func 15), args := #[.tmp 58], argTypes := #[28] }, 42, _, _, _⟩) rfl (fun K hK => ?_) AllReadyH.nil
              go_simp
              refine (V2.out _ hT).mono ?_
              rintro e x10 ⟨al2, cap2, rfl, hN10⟩
              go_wp2_with fail
              have hT10 := btr hT hN10
              refine hK.out _ _ (btr hHeld hN10) (fun _ => held_up (bup hHeld hN10) _ _ _ _ ?_)
              clear hK K hHeld hT
              have hT := hT10
              have hHeld := brefl x10
              clear hT10 hN10
              try simp only [Act.put, s_put, s_0, s_1]
              refine wpAnyH_take (i := 11) (oi := ⟨some 60, .call { callee := .builtin Builtin.len, args := #[.tmp 59], argTypes := #[42] }, 3, _, _, _⟩) (v := ?v11V2aa) rfl (by kernel_rfl) (by kernel_rfl) (by kernel_rfl) (fun _ _ _ h => h) (Or.inl ⟨by rfl, ?hy11V2aa⟩) hHeld ?rest11V2aa
              case hy11V2aa => intro w9 hSw; go_simp; (try with_reducible rfl)
              try simp only [Act.put, s_put, s_0, s_1]
              refine wpAnyH_take (i := 14) (oi := ⟨some 63, .binOp BinOp.eql 3 (.tmp 60) (.tmp 62) 3, 4, _, _, _⟩) (v := ?v14V2aa) rfl (by kernel_rfl) (by kernel_rfl) (by kernel_rfl) (fun _ _ _ h => h) (Or.inl ⟨by rfl, ?hy14V2aa⟩) hHeld ?rest14V2aa
              case hy14V2aa => intro w9 hSw; go_simp; (try with_reducible rfl)
              try simp only [Act.put, s_put, s_0, s_1]
              refine wpAnyH_take (i := 15) (oi := ⟨some 64, .pick (.tmp 57) (.tmp 63) (.const (Value.bool false)), 4, _, _, _⟩) (v := ?v15V2aa) rfl (by kernel_rfl) (by kernel_rfl) (by kernel_rfl) (fun _ _ _ h => h) (Or.inl ⟨by rfl, ?hy15V2aa⟩) hHeld ?rest15V2aa
              case hy15V2aa => intro w9 hSw; go_simp; (try with_reducible rfl)
              try simp only [Act.put, s_put, s_0, s_1]
              refine wpAnyH_take (i := 16) (oi := ⟨some 65, .move (.tmp 64), 4, _, _, _⟩) (v := ?v16V2aa) rfl (by kernel_rfl) (by kernel_rfl) (by kernel_rfl) (fun _ _ _ h => h) (Or.inl ⟨by rfl, ?hy16V2aa⟩) hHeld ?rest16V2aa
              case hy16V2aa => intro w9 hSw; go_simp; (try with_reducible rfl)
              try simp only [Act.put, s_put, s_0, s_1]
              refine wpAnyH_take (i := 17) (oi := ⟨some 66, .load 28 (.tmp 3), 28, _, _, _⟩) (v := ?v17V2aa) rfl (by kernel_rfl) (by kernel_rfl) (by kernel_rfl) (fun _ _ _ h => h) (Or.inl ⟨by rfl, ?hy17V2aa⟩) hHeld ?rest17V2aa
              case hy17V2aa => intro w9 hSw; obtain ⟨⟨d0, d1, d2, d3, d4, d5⟩, d6, d7, d8, d9, d10⟩ := (PX.out.later (hT.trans (hSw.mono hT.size))).at0; go_simp; (try with_reducible rfl)
              try simp only [Act.put, s_put, s_0, s_1]
              refine wpAnyH_ready (rs := [18]) (by kernel_rfl) (by simp) ?_
              refine AllReadyH.cons (o := ⟨some 67, .call { callee := .value (.func 10), args := #[.tmp 66], argTypes := #[28] }, 37, _, _, _⟩) rfl (fun K hK => ?_) AllReadyH.nil
              go_simp
              refine (M1.out _ hT).mono ?_
              rintro e x18 ⟨rfl, hN18⟩
              go_wp2_with fail
              have hT18 := btr hT hN18
              refine hK.out _ _ (btr hHeld hN18) (fun _ => held_up (bup hHeld hN18) _ _ _ _ ?_)
              clear hK K hHeld hT
              have hT := hT18
              have hHeld := brefl x18
              clear hT18 hN18
              try simp only [Act.put, s_put, s_0, s_1]
              refine wpAnyH_take (i := 19) (oi := ⟨some 68, .binOp BinOp.neq 37 (.tmp 67) (.const (Value.int IntKind.i64 0)) 37, 4, _, _, _⟩) (v := ?v19V2aa) rfl (by kernel_rfl) (by kernel_rfl) (by kernel_rfl) (fun _ _ _ h => h) (Or.inl ⟨by rfl, ?hy19V2aa⟩) hHeld ?rest19V2aa
              case hy19V2aa => intro w9 hSw; go_simp; (try with_reducible rfl)
              try simp only [Act.put, s_put, s_0, s_1]
              refine wpAnyH_take (i := 20) (oi := ⟨some 69, .move (.tmp 68), 4, _, _, _⟩) (v := ?v20V2aa) rfl (by kernel_rfl) (by kernel_rfl) (by kernel_rfl) (fun _ _ _ h => h) (Or.inl ⟨by rfl, ?hy20V2aa⟩) hHeld ?rest20V2aa
              case hy20V2aa => intro w9 hSw; go_simp; (try with_reducible rfl)
              try simp only [Act.put, s_put, s_0, s_1]
              refine wpAnyH_take (i := 21) (oi := ⟨some 70, .move (.tmp 10), 4, _, _, _⟩) (v := ?v21V2aa) rfl (by kernel_rfl) (by kernel_rfl) (by kernel_rfl) (fun _ _ _ h => h) (Or.inl ⟨by rfl, ?hy21V2aa⟩) hHeld ?rest21V2aa
              case hy21V2aa => intro w9 hSw; go_simp; (try with_reducible rfl)
              try simp only [Act.put, s_put, s_0, s_1]
              refine wpAnyH_take (i := 22) (oi := ⟨some 71, .unOp UnOp.not 4 (.tmp 70), 4, _, _, _⟩) (v := ?v22V2aa) rfl (by kernel_rfl) (by kernel_rfl) (by kernel_rfl) (fun _ _ _ h => h) (Or.inl ⟨by rfl, ?hy22V2aa⟩) hHeld ?rest22V2aa
              case hy22V2aa => intro w9 hSw; go_simp; (try with_reducible rfl)
              try simp only [Act.put, s_put, s_0, s_1]
              refine wpAnyH_take (i := 23) (oi := ⟨some 72, .pick (.tmp 69) (.const (Value.bool true)) (.tmp 71), 4, _, _, _⟩) (v := ?v23V2aa) rfl (by kernel_rfl) (by kernel_rfl) (by kernel_rfl) (fun _ _ _ h => h) (Or.inl ⟨by rfl, ?hy23V2aa⟩) hHeld ?rest23V2aa
              case hy23V2aa => intro w9 hSw; go_simp; (try with_reducible rfl)
              try simp only [Act.put, s_put, s_0, s_1]
              refine wpAnyH_take (i := 24) (oi := ⟨some 73, .move (.tmp 72), 4, _, _, _⟩) (v := ?v24V2aa) rfl (by kernel_rfl) (by kernel_rfl) (by kernel_rfl) (fun _ _ _ h => h) (Or.inl ⟨by rfl, ?hy24V2aa⟩) hHeld ?rest24V2aa
              case hy24V2aa => intro w9 hSw; go_simp; (try with_reducible rfl)
              try simp only [Act.put, s_put, s_0, s_1]
              refine wpAnyH_take (i := 25) (oi := ⟨some 74, .load 28 (.tmp 9), 28, _, _, _⟩) (v := undef) rfl (by kernel_rfl) (by kernel_rfl) (by kernel_rfl) (fun _ _ _ h => h) (Or.inr ⟨by rfl, rfl⟩) hHeld ?rest25V2aa
              try simp only [Act.put, s_put, s_0, s_1]
              refine wpAnyH_take (i := 26) (oi := ⟨some 75, .call { callee := .value (.func 10), args := #[.tmp 74], argTypes := #[28] }, 37, _, _, _⟩) (v := undef) rfl (by kernel_rfl) (by kernel_rfl) (by kernel_rfl) (fun _ _ _ h => h) (Or.inr ⟨by rfl, rfl⟩) hHeld ?rest26V2aa
              try simp only [Act.put, s_put, s_0, s_1]
              refine wpAnyH_take (i := 27) (oi := ⟨some 76, .binOp BinOp.eql 37 (.tmp 75) (.const (Value.int IntKind.i64 0)) 37, 4, _, _, _⟩) (v := undef) rfl (by kernel_rfl) (by kernel_rfl) (by kernel_rfl) (fun _ _ _ h => h) (Or.inr ⟨by rfl, rfl⟩) hHeld ?rest27V2aa
              try simp only [Act.put, s_put, s_0, s_1]
              refine wpAnyH_take (i := 28) (oi := ⟨some 77, .pick (.tmp 73) (.const (Value.bool true)) (.tmp 76), 4, _, _, _⟩) (v := ?v28V2aa) rfl (by kernel_rfl) (by kernel_rfl) (by kernel_rfl) (fun _ _ _ h => h) (Or.inl ⟨by rfl, ?hy28V2aa⟩) hHeld ?rest28V2aa
              case hy28V2aa => intro w9 hSw; go_simp; (try with_reducible rfl)
              try simp only [Act.put, s_put, s_0, s_1]
              refine wpAnyH_take (i := 29) (oi := ⟨some 78, .pick (.tmp 65) (.tmp 77) (.const (Value.bool false)), 4, _, _, _⟩) (v := ?v29V2aa) rfl (by kernel_rfl) (by kernel_rfl) (by kernel_rfl) (fun _ _ _ h => h) (Or.inl ⟨by rfl, ?hy29V2aa⟩) hHeld ?rest29V2aa
              case hy29V2aa => intro w9 hSw; go_simp; (try with_reducible rfl)
              try simp only [Act.put, s_put, s_0, s_1]
              refine wpAnyH_take (i := 30) (oi := ⟨some 79, .move (.tmp 78), 4, _, _, _⟩) (v := ?v30V2aa) rfl (by kernel_rfl) (by kernel_rfl) (by kernel_rfl) (fun _ _ _ h => h) (Or.inl ⟨by rfl, ?hy30V2aa⟩) hHeld ?rest30V2aa
              case hy30V2aa => intro w9 hSw; go_simp; (try with_reducible rfl)
              try simp only [Act.put, s_put, s_0, s_1]
              refine wpAnyH_ready (rs := [31]) (by kernel_rfl) (by simp) ?_
              refine AllReadyH.cons (o := ⟨some 80, .call { callee := .value (.func 6), args := #[], argTypes := #[] }, 4, _, _, _⟩) rfl (fun K hK => ?_) AllReadyH.nil
              go_simp
              refine (W1.out _).mono ?_
              rintro e x31 ⟨rfl, hN31⟩
              go_wp2_with fail
              have hT31 := btr hT hN31
              refine hK.out _ _ (btr hHeld hN31) (fun _ => held_up (bup hHeld hN31) _ _ _ _ ?_)
              clear hK K hHeld hT
              have hT := hT31
              have hHeld := brefl x31
              clear hT31 hN31
              try simp only [Act.put, s_put, s_0, s_1]
              refine wpAnyH_take (i := 32) (oi := ⟨some 81, .pick (.tmp 79) (.tmp 80) (.const (Value.bool false)), 4, _, _, _⟩) (v := ?v32V2aa) rfl (by kernel_rfl) (by kernel_rfl) (by kernel_rfl) (fun _ _ _ h => h) (Or.inl ⟨by rfl, ?hy32V2aa⟩) hHeld ?rest32V2aa
              case hy32V2aa => intro w9 hSw; go_simp; (try with_reducible rfl)
              try simp only [Act.put, s_put, s_0, s_1]
              refine wpAnyH_take (i := 33) (oi := ⟨some 6, .assign (.tmp 81), 4, _, _, _⟩) (v := ?v33V2aa) rfl (by kernel_rfl) (by kernel_rfl) (by kernel_rfl) (fun _ _ _ h => h) (Or.inl ⟨by rfl, ?hy33V2aa⟩) hHeld ?rest33V2aa
              case hy33V2aa => intro w9 hSw; go_simp; (try with_reducible rfl)
              try simp only [Act.put, s_put, s_0, s_1]
              refine wpAnyH_done (by kernel_rfl) ?_ _
              refine NoPanic.normal ?_
              go_wp2
              go_ret
              exact ⟨rfl, HB.out.trans ((HAW.out.trans (hT.mono HAW.out.size)).mono HB.out.size)⟩
            · go_simp
              obtain ⟨x4, hx4⟩ : ∃ x, d.alloc (.cells #[.string v] 9) = x := ⟨_, rfl⟩
              rw [hx4]
              have hN4 : Below d.heap.size d x4 := by rw [← hx4]; exact (Below.refl _ _).alloc (Nat.le_refl _) _
              have hX4 : Txs x4 (some ⟨d.heap.size, 0, none⟩) 1 (fun _ => v) := by rw [← hx4]; exact txs_new _ _
              clear hx4
              have hT4 := btr hT hN4
              refine hK.out _ _ (btr hHeld hN4) (fun _ => held_up (bup hHeld hN4) _ _ _ _ ?_)
              clear hK K hHeld hT
              have hT := hT4
              have hHeld := brefl x4
              clear hT4
              try simp only [Act.put, s_put, s_0, s_1]
              refine wpAnyH_ready (rs := [2]) (by kernel_rfl) (by simp) ?_
              refine AllReadyH.cons (o := ⟨some 51, .buildSlice 42 1 #[(0, .tmp 50)], 42, _, _, _⟩) rfl (fun K hK => ?_) AllReadyH.nil
              go_simp
              obtain ⟨x2, hx2⟩ : ∃ x, x4.alloc (.cells #[.string u] 9) = x := ⟨_, rfl⟩
              rw [hx2]
              have hN2 : Below x4.heap.size x4 x2 := by rw [← hx2]; exact (Below.refl _ _).alloc (Nat.le_refl _) _
              have hX2 : Txs x2 (some ⟨x4.heap.size, 0, none⟩) 1 (fun _ => u) := by rw [← hx2]; exact txs_new _ _
              clear hx2
              have hT2 := btr hT hN2
              refine hK.out _ _ (btr hHeld hN2) (fun _ => held_up (bup hHeld hN2) _ _ _ _ ?_)
              clear hK K hHeld hT
              have hT := hT2
              have hHeld := brefl x2
              clear hT2
              try simp only [Act.put, s_put, s_0, s_1]
              refine wpAnyH_ready (rs := [5]) (by kernel_rfl) (by simp) ?_
              refine AllReadyH.cons (o := ⟨some 54, .call { callee := .value (.func 17), args := #[.tmp 49, .tmp 51, .tmp 53], argTypes := #[28, 42, 42] }, 28, _, _, _⟩) rfl (fun K hK => ?_) AllReadyH.nil
              go_simp
              refine (R2.out _ hT _ _ hX2 (hX4.later hN2)).mono ?_
              rintro e x5 ⟨z5, rfl, hz1, hz2, hN5⟩
              have C7 : Hid (Calls Tryz.prog 12 #[z5.val, x.val] x5 fun e w2 => e = .returned (.bool true) ∧ Below x5.heap.size x5 w2) := SM.out z5 x5 hz1.out hz2.out (hT.trans (hN5.mono hT.size))
              go_wp2_with fail
              have hT5 := btr hT hN5
              refine hK.out _ _ (btr hHeld hN5) (fun _ => held_up (bup hHeld hN5) _ _ _ _ ?_)
              clear hK K hHeld hT
              have hT := hT5
              have hHeld := brefl x5
              clear hT5 hN5
              try simp only [Act.put, s_put, s_0, s_1]
              refine wpAnyH_ready (rs := [7]) (by kernel_rfl) (by simp) ?_
              refine AllReadyH.cons (o := ⟨some 56, .call { callee := .value (.func 12), args := #[.tmp 54, .tmp 55], argTypes := #[28, 28] }, 4, _, _, _⟩) rfl (fun K hK => ?_) AllReadyH.nil
              go_simp
              refine (C7.out).mono ?_
              rintro e x7 ⟨rfl, hN7⟩
              go_wp2_with fail
              have hT7 := btr hT hN7
              refine hK.out _ _ (btr hHeld hN7) (fun _ => held_up (bup hHeld hN7) _ _ _ _ ?_)
              clear hK K hHeld hT
              have hT := hT7
              have hHeld := brefl x7
              clear hT7 hN7
              try simp only [Act.put, s_put, s_0, s_1]
              refine wpAnyH_take (i := 8) (oi := ⟨some 57, .move (.tmp 56), 4, _, _, _⟩) (v := ?v8V2ab) rfl (by kernel_rfl) (by kernel_rfl) (by kernel_rfl) (fun _ _ _ h => h) (Or.inl ⟨by rfl, ?hy8V2ab⟩) hHeld ?rest8V2ab
              case hy8V2ab => intro w9 hSw; go_simp; (try with_reducible rfl)
              try simp only [Act.put, s_put, s_0, s_1]
              refine wpAnyH_take (i := 9) (oi := ⟨some 58, .load 28 (.tmp 9), 28, _, _, _⟩) (v := ?v9V2ab) rfl (by kernel_rfl) (by kernel_rfl) (by kernel_rfl) (fun _ _ _ h => h) (Or.inl ⟨by rfl, ?hy9V2ab⟩) hHeld ?rest9V2ab
              case hy9V2ab => intro w9 hSw; obtain ⟨⟨d0, d1, d2, d3, d4, d5⟩, d6, d7, d8, d9, d10⟩ := (PY.out.later (hT.trans (hSw.mono hT.size))).at0; go_simp; (try with_reducible rfl)
              try simp only [Act.put, s_put, s_0, s_1]
              refine wpAnyH_take (i := 12) (oi := ⟨some 61, .move (.tmp 7), 42, _, _, _⟩) (v := ?v12V2ab) rfl (by kernel_rfl) (by kernel_rfl) (by kernel_rfl) (fun _ _ _ h => h) (Or.inl ⟨by rfl, ?hy12V2ab⟩) hHeld ?rest12V2ab
              case hy12V2ab => intro w9 hSw; go_simp; (try with_reducible rfl)
              try simp only [Act.put, s_put, s_0, s_1]
              refine wpAnyH_take (i := 13) (oi := ⟨some 62, .call { callee := .builtin Builtin.len, args := #[.tmp 61], argTypes := #[42] }, 3, _, _, _⟩) (v := ?v13V2ab) rfl (by kernel_rfl) (by kernel_rfl) (by kernel_rfl) (fun _ _ _ h => h) (Or.inl ⟨by rfl, ?hy13V2ab⟩) hHeld ?rest13V2ab
              case hy13V2ab => intro w9 hSw; go_simp; (try with_reducible rfl)
              try simp only [Act.put, s_put, s_0, s_1]
              refine wpAnyH_ready (rs := [10]) (by kernel_rfl) (by simp) ?_
              refine AllReadyH.cons (o := ⟨some 59, .call { callee := .value (.func 15), args := #[.tmp 58], argTypes := #[28] }, 42, _, _, _⟩) rfl (fun K hK => ?_) AllReadyH.nil
              go_simp
              refine (V2.out _ hT).mono ?_
              rintro e x10 ⟨al2, cap2, rfl, hN10⟩
              go_wp2_with fail
              have hT10 := btr hT hN10
              refine hK.out _ _ (btr hHeld hN10) (fun _ => held_up (bup hHeld hN10) _ _ _ _ ?_)
              clear hK K hHeld hT
              have hT := hT10
              have hHeld := brefl x10
              clear hT10 hN10
              try simp only [Act.put, s_put, s_0, s_1]
              refine wpAnyH_take (i := 11) (oi := ⟨some 60, .call { callee := .builtin Builtin.len, args := #[.tmp 59], argTypes := #[42] }, 3, _, _, _⟩) (v := ?v11V2ab) rfl (by kernel_rfl) (by kernel_rfl) (by kernel_rfl) (fun _ _ _ h => h) (Or.inl ⟨by rfl, ?hy11V2ab⟩) hHeld ?rest11V2ab
              case hy11V2ab => intro w9 hSw; go_simp; (try with_reducible rfl)
              try simp only [Act.put, s_put, s_0, s_1]
              refine wpAnyH_take (i := 14) (oi := ⟨some 63, .binOp BinOp.eql 3 (.tmp 60) (.tmp 62) 3, 4, _, _, _⟩) (v := ?v14V2ab) rfl (by kernel_rfl) (by kernel_rfl) (by kernel_rfl) (fun _ _ _ h => h) (Or.inl ⟨by rfl, ?hy14V2ab⟩) hHeld ?rest14V2ab
              case hy14V2ab => intro w9 hSw; go_simp; (try with_reducible rfl)
              try simp only [Act.put, s_put, s_0, s_1]
              refine wpAnyH_take (i := 15) (oi := ⟨some 64, .pick (.tmp 57) (.tmp 63) (.const (Value.bool false)), 4, _, _, _⟩) (v := ?v15V2ab) rfl (by kernel_rfl) (by kernel_rfl) (by kernel_rfl) (fun _ _ _ h => h) (Or.inl ⟨by rfl, ?hy15V2ab⟩) hHeld ?rest15V2ab
              case hy15V2ab => intro w9 hSw; go_simp; (try with_reducible rfl)
              try simp only [Act.put, s_put, s_0, s_1]
              refine wpAnyH_take (i := 16) (oi := ⟨some 65, .move (.tmp 64), 4, _, _, _⟩) (v := ?v16V2ab) rfl (by kernel_rfl) (by kernel_rfl) (by kernel_rfl) (fun _ _ _ h => h) (Or.inl ⟨by rfl, ?hy16V2ab⟩) hHeld ?rest16V2ab
              case hy16V2ab => intro w9 hSw; go_simp; (try with_reducible rfl)
              try simp only [Act.put, s_put, s_0, s_1]
              refine wpAnyH_take (i := 17) (oi := ⟨some 66, .load 28 (.tmp 3), 28, _, _, _⟩) (v := ?v17V2ab) rfl (by kernel_rfl) (by kernel_rfl) (by kernel_rfl) (fun _ _ _ h => h) (Or.inl ⟨by rfl, ?hy17V2ab⟩) hHeld ?rest17V2ab
              case hy17V2ab => intro w9 hSw; obtain ⟨⟨d0, d1, d2, d3, d4, d5⟩, d6, d7, d8, d9, d10⟩ := (PX.out.later (hT.trans (hSw.mono hT.size))).at0; go_simp; (try with_reducible rfl)
              try simp only [Act.put, s_put, s_0, s_1]
              refine wpAnyH_ready (rs := [18]) (by kernel_rfl) (by simp) ?_
              refine AllReadyH.cons (o := ⟨some 67, .call { callee := .value (.func 10), args := #[.tmp 66], argTypes := #[28] }, 37, _, _, _⟩) rfl (fun K hK => ?_) AllReadyH.nil
              go_simp
              refine (M1.out _ hT).mono ?_
              rintro e x18 ⟨rfl, hN18⟩
              go_wp2_with fail
              have hT18 := btr hT hN18
              refine hK.out _ _ (btr hHeld hN18) (fun _ => held_up (bup hHeld hN18) _ _ _ _ ?_)
              clear hK K hHeld hT
              have hT := hT18
              have hHeld := brefl x18
              clear hT18 hN18
              try simp only [Act.put, s_put, s_0, s_1]
              refine wpAnyH_take (i := 19) (oi := ⟨some 68, .binOp BinOp.neq 37 (.tmp 67) (.const (Value.int IntKind.i64 0)) 37, 4, _, _, _⟩) (v := ?v19V2ab) rfl (by kernel_rfl) (by kernel_rfl) (by kernel_rfl) (fun _ _ _ h => h) (Or.inl ⟨by rfl, ?hy19V2ab⟩) hHeld ?rest19V2ab
              case hy19V2ab => intro w9 hSw; go_simp; (try with_reducible rfl)
              try simp only [Act.put, s_put, s_0, s_1]
              refine wpAnyH_take (i := 20) (oi := ⟨some 69, .move (.tmp 68), 4, _, _, _⟩) (v := ?v20V2ab) rfl (by kernel_rfl) (by kernel_rfl) (by kernel_rfl) (fun _ _ _ h => h) (Or.inl ⟨by rfl, ?hy20V2ab⟩) hHeld ?rest20V2ab
              case hy20V2ab => intro w9 hSw; go_simp; (try with_reducible rfl)
              try simp only [Act.put, s_put, s_0, s_1]
              refine wpAnyH_take (i := 21) (oi := ⟨some 70, .move (.tmp 10), 4, _, _, _⟩) (v := ?v21V2ab) rfl (by kernel_rfl) (by kernel_rfl) (by kernel_rfl) (fun _ _ _ h => h) (Or.inl ⟨by rfl, ?hy21V2ab⟩) hHeld ?rest21V2ab
              case hy21V2ab => intro w9 hSw; go_simp; (try with_reducible rfl)
              try simp only [Act.put, s_put, s_0, s_1]
              refine wpAnyH_take (i := 22) (oi := ⟨some 71, .unOp UnOp.not 4 (.tmp 70), 4, _, _, _⟩) (v := ?v22V2ab) rfl (by kernel_rfl) (by kernel_rfl) (by kernel_rfl) (fun _ _ _ h => h) (Or.inl ⟨by rfl, ?hy22V2ab⟩) hHeld ?rest22V2ab
              case hy22V2ab => intro w9 hSw; go_simp; (try with_reducible rfl)
              try simp only [Act.put, s_put, s_0, s_1]
              refine wpAnyH_take (i := 23) (oi := ⟨some 72, .pick (.tmp 69) (.const (Value.bool true)) (.tmp 71), 4, _, _, _⟩) (v := ?v23V2ab) rfl (by kernel_rfl) (by kernel_rfl) (by kernel_rfl) (fun _ _ _ h => h) (Or.inl ⟨by rfl, ?hy23V2ab⟩) hHeld ?rest23V2ab
              case hy23V2ab => intro w9 hSw; go_simp; (try with_reducible rfl)
              try simp only [Act.put, s_put, s_0, s_1]
              refine wpAnyH_take (i := 24) (oi := ⟨some 73, .move (.tmp 72), 4, _, _, _⟩) (v := ?v24V2ab) rfl (by kernel_rfl) (by kernel_rfl) (by kernel_rfl) (fun _ _ _ h => h) (Or.inl ⟨by rfl, ?hy24V2ab⟩) hHeld ?rest24V2ab
              case hy24V2ab => intro w9 hSw; go_simp; (try with_reducible rfl)
              try simp only [Act.put, s_put, s_0, s_1]
              refine wpAnyH_take (i := 25) (oi := ⟨some 74, .load 28 (.tmp 9), 28, _, _, _⟩) (v := undef) rfl (by kernel_rfl) (by kernel_rfl) (by kernel_rfl) (fun _ _ _ h => h) (Or.inr ⟨by rfl, rfl⟩) hHeld ?rest25V2ab
              try simp only [Act.put, s_put, s_0, s_1]
              refine wpAnyH_take (i := 26) (oi := ⟨some 75, .call { callee := .value (.func 10), args := #[.tmp 74], argTypes := #[28] }, 37, _, _, _⟩) (v := undef) rfl (by kernel_rfl) (by kernel_rfl) (by kernel_rfl) (fun _ _ _ h => h) (Or.inr ⟨by rfl, rfl⟩) hHeld ?rest26V2ab
              try simp only [Act.put, s_put, s_0, s_1]
              refine wpAnyH_take (i := 27) (oi := ⟨some 76, .binOp BinOp.eql 37 (.tmp 75) (.const (Value.int IntKind.i64 0)) 37, 4, _, _, _⟩) (v := undef) rfl (by kernel_rfl) (by kernel_rfl) (by kernel_rfl) (fun _ _ _ h => h) (Or.inr ⟨by rfl, rfl⟩) hHeld ?rest27V2ab
              try simp only [Act.put, s_put, s_0, s_1]
              refine wpAnyH_take (i := 28) (oi := ⟨some 77, .pick (.tmp 73) (.const (Value.bool true)) (.tmp 76), 4, _, _, _⟩) (v := ?v28V2ab) rfl (by kernel_rfl) (by kernel_rfl) (by kernel_rfl) (fun _ _ _ h => h) (Or.inl ⟨by rfl, ?hy28V2ab⟩) hHeld ?rest28V2ab
              case hy28V2ab => intro w9 hSw; go_simp; (try with_reducible rfl)
              try simp only [Act.put, s_put, s_0, s_1]
              refine wpAnyH_take (i := 29) (oi := ⟨some 78, .pick (.tmp 65) (.tmp 77) (.const (Value.bool false)), 4, _, _, _⟩) (v := ?v29V2ab) rfl (by kernel_rfl) (by kernel_rfl) (by kernel_rfl) (fun _ _ _ h => h) (Or.inl ⟨by rfl, ?hy29V2ab⟩) hHeld ?rest29V2ab
              case hy29V2ab => intro w9 hSw; go_simp; (try with_reducible rfl)
              try simp only [Act.put, s_put, s_0, s_1]
              refine wpAnyH_take (i := 30) (oi := ⟨some 79, .move (.tmp 78), 4, _, _, _⟩) (v := ?v30V2ab) rfl (by kernel_rfl) (by kernel_rfl) (by kernel_rfl) (fun _ _ _ h => h) (Or.inl ⟨by rfl, ?hy30V2ab⟩) hHeld ?rest30V2ab
              case hy30V2ab => intro w9 hSw; go_simp; (try with_reducible rfl)
              try simp only [Act.put, s_put, s_0, s_1]
              refine wpAnyH_ready (rs := [31]) (by kernel_rfl) (by simp) ?_
              refine AllReadyH.cons (o := ⟨some 80, .call { callee := .value (.func 6), args := #[], argTypes := #[] }, 4, _, _, _⟩) rfl (fun K hK => ?_) AllReadyH.nil
              go_simp
              refine (W1.out _).mono ?_
              rintro e x31 ⟨rfl, hN31⟩
              go_wp2_with fail
              have hT31 := btr hT hN31
              refine hK.out _ _ (btr hHeld hN31) (fun _ => held_up (bup hHeld hN31) _ _ _ _ ?_)
              clear hK K hHeld hT
              have hT := hT31
              have hHeld := brefl x31
              clear hT31 hN31
              try simp only [Act.put, s_put, s_0, s_1]
              refine wpAnyH_take (i := 32) (oi := ⟨some 81, .pick (.tmp 79) (.tmp 80) (.const (Value.bool false)), 4, _, _, _⟩) (v := ?v32V2ab) rfl (by kernel_rfl) (by kernel_rfl) (by kernel_rfl) (fun _ _ _ h => h) (Or.inl ⟨by rfl, ?hy32V2ab⟩) hHeld ?rest32V2ab
              case hy32V2ab => intro w9 hSw; go_simp; (try with_reducible rfl)
              try simp only [Act.put, s_put, s_0, s_1]
              refine wpAnyH_take (i := 33) (oi := ⟨some 6, .assign (.tmp 81), 4, _, _, _⟩) (v := ?v33V2ab) rfl (by kernel_rfl) (by kernel_rfl) (by kernel_rfl) (fun _ _ _ h => h) (Or.inl ⟨by rfl, ?hy33V2ab⟩) hHeld ?rest33V2ab
              case hy33V2ab => intro w9 hSw; go_simp; (try with_reducible rfl)
              try simp only [Act.put, s_put, s_0, s_1]
              refine wpAnyH_done (by kernel_rfl) ?_ _
              refine NoPanic.normal ?_
              go_wp2
              go_ret
              exact ⟨rfl, HB.out.trans ((HAW.out.trans (hT.mono HAW.out.size)).mono HB.out.size)⟩
        · clear h1 M2'
          go_upto_region 11 with fail
          refine wp_region_noPanic ?_
          refine wp_region_held_drew (S := fun w' => Below W.heap.size W w') (by kernel_rfl) ((Below.refl _ _).drew) (fun hHeld => ?_)
          have hT : Below W.heap.size W W.drew := hHeld
          obtain ⟨d, hdw⟩ : ∃ d, d = W.drew := ⟨_, rfl⟩
          rw [← hdw] at hHeld hT ⊢
          clear hdw
          refine wpAnyH_take (i := 0) (oi := ⟨some 49, .load 28 (.tmp 9), 28, _, _, _⟩) (v := ?v0V2b) rfl (by kernel_rfl) (by kernel_rfl) (by kernel_rfl) (fun _ _ _ h => h) (Or.inl ⟨by rfl, ?hy0V2b⟩) hHeld ?rest0V2b
          case hy0V2b => intro w9 hSw; obtain ⟨⟨d0, d1, d2, d3, d4, d5⟩, d6, d7, d8, d9, d10⟩ := (PY.out.later hSw).at0; go_simp; (try with_reducible rfl)
          try simp only [Act.put, s_put, s_0, s_1]
          refine wpAnyH_take (i := 1) (oi := ⟨some 50, .move (.tmp 2), 9, _, _, _⟩) (v := ?v1V2b) rfl (by kernel_rfl) (by kernel_rfl) (by kernel_rfl) (fun _ _ _ h => h) (Or.inl ⟨by rfl, ?hy1V2b⟩) hHeld ?rest1V2b
          case hy1V2b => intro w9 hSw; go_simp; (try with_reducible rfl)
          try simp only [Act.put, s_put, s_0, s_1]
          refine wpAnyH_take (i := 3) (oi := ⟨some 52, .move (.tmp 1), 9, _, _, _⟩) (v := ?v3V2b) rfl (by kernel_rfl) (by kernel_rfl) (by kernel_rfl) (fun _ _ _ h => h) (Or.inl ⟨by rfl, ?hy3V2b⟩) hHeld ?rest3V2b
          case hy3V2b => intro w9 hSw; go_simp; (try with_reducible rfl)
          try simp only [Act.put, s_put, s_0, s_1]
          refine wpAnyH_take (i := 6) (oi := ⟨some 55, .load 28 (.tmp 3), 28, _, _, _⟩) (v := ?v6V2b) rfl (by kernel_rfl) (by kernel_rfl) (by kernel_rfl) (fun _ _ _ h => h) (Or.inl ⟨by rfl, ?hy6V2b⟩) hHeld ?rest6V2b
          case hy6V2b => intro w9 hSw; obtain ⟨⟨d0, d1, d2, d3, d4, d5⟩, d6, d7, d8, d9, d10⟩ := (PX.out.later hSw).at0; go_simp; (try with_reducible rfl)
          try simp only [Act.put, s_put, s_0, s_1]
          refine wpAnyH_ready (rs := [2, 4]) (by kernel_rfl) (by simp) ?_
          refine AllReadyH.cons (o := ⟨some 51, .buildSlice 42 1 #[(0, .tmp 50)], 42, _, _, _⟩) rfl (fun K hK => ?_) (AllReadyH.cons (o := ⟨some 53, .buildSlice 42 1 #[(0, .tmp 52)], 42, _, _, _⟩) rfl (fun K hK => ?_) AllReadyH.nil)
          · go_simp
            obtain ⟨x2, hx2⟩ : ∃ x, d.alloc (.cells #[.string u] 9) = x := ⟨_, rfl⟩
            rw [hx2]
            have hN2 : Below d.heap.size d x2 := by rw [← hx2]; exact (Below.refl _ _).alloc (Nat.le_refl _) _
            have hX2 : Txs x2 (some ⟨d.heap.size, 0, none⟩) 1 (fun _ => u) := by rw [← hx2]; exact txs_new _ _
            clear hx2
            have hT2 := btr hT hN2
            refine hK.out _ _ (btr hHeld hN2) (fun _ => held_up (bup hHeld hN2) _ _ _ _ ?_)
            clear hK K hHeld hT
            have hT := hT2
            have hHeld := brefl x2
            clear hT2
            try simp only [Act.put, s_put, s_0, s_1]
            refine wpAnyH_ready (rs := [4]) (by kernel_rfl) (by simp) ?_
            refine AllReadyH.cons (o := ⟨some 53, .buildSlice 42 1 #[(0, .tmp 52)], 42, _, _, _⟩) rfl (fun K hK => ?_) AllReadyH.nil
            go_simp
            obtain ⟨x4, hx4⟩ : ∃ x, x2.alloc (.cells #[.string v] 9) = x := ⟨_, rfl⟩
            rw [hx4]
            have hN4 : Below x2.heap.size x2 x4 := by rw [← hx4]; exact (Below.refl _ _).alloc (Nat.le_refl _) _
            have hX4 : Txs x4 (some ⟨x2.heap.size, 0, none⟩) 1 (fun _ => v) := by rw [← hx4]; exact txs_new _ _
            clear hx4
            have hT4 := btr hT hN4
            refine hK.out _ _ (btr hHeld hN4) (fun _ => held_up (bup hHeld hN4) _ _ _ _ ?_)
            clear hK K hHeld hT
            have hT := hT4
            have hHeld := brefl x4
            clear hT4
            try simp only [Act.put, s_put, s_0, s_1]
            refine wpAnyH_ready (rs := [5]) (by kernel_rfl) (by simp) ?_
            refine AllReadyH.cons (o := ⟨some 54, .call { callee := .value (.func 17), args := #[.tmp 49, .tmp 51, .tmp 53], argTypes := #[28, 42, 42] }, 28, _, _, _⟩) rfl (fun K hK => ?_) AllReadyH.nil
            go_simp
            refine (R2.out _ hT _ _ (hX2.later hN4) hX4).mono ?_
            rintro e x5 ⟨z5, rfl, hz1, hz2, hN5⟩
            have C7 : Hid (Calls Tryz.prog 12 #[z5.val, x.val] x5 fun e w2 => e = .returned (.bool true) ∧ Below x5.heap.size x5 w2) := SM.out z5 x5 hz1.out hz2.out (hT.trans (hN5.mono hT.size))
            go_wp2_with fail
            have hT5 := btr hT hN5
            refine hK.out _ _ (btr hHeld hN5) (fun _ => held_up (bup hHeld hN5) _ _ _ _ ?_)
            clear hK K hHeld hT
            have hT := hT5
            have hHeld := brefl x5
            clear hT5 hN5
            try simp only [Act.put, s_put, s_0, s_1]
            refine wpAnyH_ready (rs := [7]) (by kernel_rfl) (by simp) ?_
            refine AllReadyH.cons (o := ⟨some 56, .call { callee := .value (.func 12), args := #[.tmp 54, .tmp 55], argTypes := #[28, 28] }, 4, _, _, _⟩) rfl (fun K hK => ?_) AllReadyH.nil
            go_simp
            refine (C7.out).mono ?_
            rintro e x7 ⟨rfl, hN7⟩
            go_wp2_with fail
            have hT7 := btr hT hN7
            refine hK.out _ _ (btr hHeld hN7) (fun _ => held_up (bup hHeld hN7) _ _ _ _ ?_)
            clear hK K hHeld hT
            have hT := hT7
            have hHeld := brefl x7
            clear hT7 hN7
            try simp only [Act.put, s_put, s_0, s_1]
            refine wpAnyH_take (i := 8) (oi := ⟨some 57, .move (.tmp 56), 4, _, _, _⟩) (v := ?v8V2ba) rfl (by kernel_rfl) (by kernel_rfl) (by kernel_rfl) (fun _ _ _ h => h) (Or.inl ⟨by rfl, ?hy8V2ba⟩) hHeld ?rest8V2ba
            case hy8V2ba => intro w9 hSw; go_simp; (try with_reducible rfl)
            try simp only [Act.put, s_put, s_0, s_1]
            refine wpAnyH_take (i := 9) (oi := ⟨some 58, .load 28 (.tmp 9), 28, _, _, _⟩) (v := ?v9V2ba) rfl (by kernel_rfl) (by kernel_rfl) (by kernel_rfl) (fun _ _ _ h => h) (Or.inl ⟨by rfl, ?hy9V2ba⟩) hHeld ?rest9V2ba
            case hy9V2ba => intro w9 hSw; obtain ⟨⟨d0, d1, d2, d3, d4, d5⟩, d6, d7, d8, d9, d10⟩ := (PY.out.later (hT.trans (hSw.mono hT.size))).at0; go_simp; (try with_reducible rfl)
            try simp only [Act.put, s_put, s_0, s_1]
            refine wpAnyH_take (i := 12) (oi := ⟨some 61, .move (.tmp 7), 42, _, _, _⟩) (v := ?v12V2ba) rfl (by kernel_rfl) (by kernel_rfl) (by kernel_rfl) (fun _ _ _ h => h) (Or.inl ⟨by rfl, ?hy12V2ba⟩) hHeld ?rest12V2ba
            case hy12V2ba => intro w9 hSw; go_simp; (try with_reducible rfl)
            try simp only [Act.put, s_put, s_0, s_1]
            refine wpAnyH_take (i := 13) (oi := ⟨some 62, .call { callee := .builtin Builtin.len, args := #[.tmp 61], argTypes := #[42] }, 3, _, _, _⟩) (v := ?v13V2ba) rfl (by kernel_rfl) (by kernel_rfl) (by kernel_rfl) (fun _ _ _ h => h) (Or.inl ⟨by rfl, ?hy13V2ba⟩) hHeld ?rest13V2ba
            case hy13V2ba => intro w9 hSw; go_simp; (try with_reducible rfl)
            try simp only [Act.put, s_put, s_0, s_1]
            refine wpAnyH_ready (rs := [10]) (by kernel_rfl) (by simp) ?_
            refine AllReadyH.cons (o := ⟨some 59, .call { callee := .value (.func 15), args := #[.tmp 58], argTypes := #[28] }, 42, _, _, _⟩) rfl (fun K hK => ?_) AllReadyH.nil
            go_simp
            refine (V2.out _ hT).mono ?_
            rintro e x10 ⟨al2, cap2, rfl, hN10⟩
            go_wp2_with fail
            have hT10 := btr hT hN10
            refine hK.out _ _ (btr hHeld hN10) (fun _ => held_up (bup hHeld hN10) _ _ _ _ ?_)
            clear hK K hHeld hT
            have hT := hT10
            have hHeld := brefl x10
            clear hT10 hN10
            try simp only [Act.put, s_put, s_0, s_1]
            refine wpAnyH_take (i := 11) (oi := ⟨some 60, .call { callee := .builtin Builtin.len, args := #[.tmp 59], argTypes := #[42] }, 3, _, _, _⟩) (v := ?v11V2ba) rfl (by kernel_rfl) (by kernel_rfl) (by kernel_rfl) (fun _ _ _ h => h) (Or.inl ⟨by rfl, ?hy11V2ba⟩) hHeld ?rest11V2ba
            case hy11V2ba => intro w9 hSw; go_simp; (try with_reducible rfl)
            try simp only [Act.put, s_put, s_0, s_1]
            refine wpAnyH_take (i := 14) (oi := ⟨some 63, .binOp BinOp.eql 3 (.tmp 60) (.tmp 62) 3, 4, _, _, _⟩) (v := ?v14V2ba) rfl (by kernel_rfl) (by kernel_rfl) (by kernel_rfl) (fun _ _ _ h => h) (Or.inl ⟨by rfl, ?hy14V2ba⟩) hHeld ?rest14V2ba
            case hy14V2ba => intro w9 hSw; go_simp; (try with_reducible rfl)
            try simp only [Act.put, s_put, s_0, s_1]
            refine wpAnyH_take (i := 15) (oi := ⟨some 64, .pick (.tmp 57) (.tmp 63) (.const (Value.bool false)), 4, _, _, _⟩) (v := ?v15V2ba) rfl (by kernel_rfl) (by kernel_rfl) (by kernel_rfl) (fun _ _ _ h => h) (Or.inl ⟨by rfl, ?hy15V2ba⟩) hHeld ?rest15V2ba
            case hy15V2ba => intro w9 hSw; go_simp; (try with_reducible rfl)
            try simp only [Act.put, s_put, s_0, s_1]
            refine wpAnyH_take (i := 16) (oi := ⟨some 65, .move (.tmp 64), 4, _, _, _⟩) (v := ?v16V2ba) rfl (by kernel_rfl) (by kernel_rfl) (by kernel_rfl) (fun _ _ _ h => h) (Or.inl ⟨by rfl, ?hy16V2ba⟩) hHeld ?rest16V2ba
            case hy16V2ba => intro w9 hSw; go_simp; (try with_reducible rfl)
            try simp only [Act.put, s_put, s_0, s_1]
            refine wpAnyH_take (i := 17) (oi := ⟨some 66, .load 28 (.tmp 3), 28, _, _, _⟩) (v := ?v17V2ba) rfl (by kernel_rfl) (by kernel_rfl) (by kernel_rfl) (fun _ _ _ h => h) (Or.inl ⟨by rfl, ?hy17V2ba⟩) hHeld ?rest17V2ba
            case hy17V2ba => intro w9 hSw; obtain ⟨⟨d0, d1, d2, d3, d4, d5⟩, d6, d7, d8, d9, d10⟩ := (PX.out.later (hT.trans (hSw.mono hT.size))).at0; go_simp; (try with_reducible rfl)
            try simp only [Act.put, s_put, s_0, s_1]
            refine wpAnyH_ready (rs := [18]) (by kernel_rfl) (by simp) ?_
            refine AllReadyH.cons (o := ⟨some 67, .call { callee := .value (.func 10), args := #[.tmp 66], argTypes := #[28] }, 37, _, _, _⟩) rfl (fun K hK => ?_) AllReadyH.nil
            go_simp
            refine (M1.out _ hT).mono ?_
            rintro e x18 ⟨rfl, hN18⟩
            go_wp2_with fail
            have hT18 := btr hT hN18
            refine hK.out _ _ (btr hHeld hN18) (fun _ => held_up (bup hHeld hN18) _ _ _ _ ?_)
            clear hK K hHeld hT
            have hT := hT18
            have hHeld := brefl x18
            clear hT18 hN18
            try simp only [Act.put, s_put, s_0, s_1]
            refine wpAnyH_take (i := 19) (oi := ⟨some 68, .binOp BinOp.neq 37 (.tmp 67) (.const (Value.int IntKind.i64 0)) 37, 4, _, _, _⟩) (v := ?v19V2ba) rfl (by kernel_rfl) (by kernel_rfl) (by kernel_rfl) (fun _ _ _ h => h) (Or.inl ⟨by rfl, ?hy19V2ba⟩) hHeld ?rest19V2ba
            case hy19V2ba => intro w9 hSw; go_simp; (try with_reducible rfl)
            try simp only [Act.put, s_put, s_0, s_1]
            refine wpAnyH_take (i := 20) (oi := ⟨some 69, .move (.tmp 68), 4, _, _, _⟩) (v := ?v20V2ba) rfl (by kernel_rfl) (by kernel_rfl) (by kernel_rfl) (fun _ _ _ h => h) (Or.inl ⟨by rfl, ?hy20V2ba⟩) hHeld ?rest20V2ba
            case hy20V2ba => intro w9 hSw; go_simp; (try with_reducible rfl)
            try simp only [Act.put, s_put, s_0, s_1]
            refine wpAnyH_take (i := 21) (oi := ⟨some 70, .move (.tmp 10), 4, _, _, _⟩) (v := ?v21V2ba) rfl (by kernel_rfl) (by kernel_rfl) (by kernel_rfl) (fun _ _ _ h => h) (Or.inl ⟨by rfl, ?hy21V2ba⟩) hHeld ?rest21V2ba
            case hy21V2ba => intro w9 hSw; go_simp; (try with_reducible rfl)
            try simp only [Act.put, s_put, s_0, s_1]
            refine wpAnyH_take (i := 22) (oi := ⟨some 71, .unOp UnOp.not 4 (.tmp 70), 4, _, _, _⟩) (v := ?v22V2ba) rfl (by kernel_rfl) (by kernel_rfl) (by kernel_rfl) (fun _ _ _ h => h) (Or.inl ⟨by rfl, ?hy22V2ba⟩) hHeld ?rest22V2ba
            case hy22V2ba => intro w9 hSw; go_simp; (try with_reducible rfl)
            try simp only [Act.put, s_put, s_0, s_1]
            refine wpAnyH_take (i := 23) (oi := ⟨some 72, .pick (.tmp 69) (.const (Value.bool true)) (.tmp 71), 4, _, _, _⟩) (v := ?v23V2ba) rfl (by kernel_rfl) (by kernel_rfl) (by kernel_rfl) (fun _ _ _ h => h) (Or.inl ⟨by rfl, ?hy23V2ba⟩) hHeld ?rest23V2ba
            case hy23V2ba => intro w9 hSw; go_simp; (try with_reducible rfl)
            try simp only [Act.put, s_put, s_0, s_1]
            refine wpAnyH_take (i := 24) (oi := ⟨some 73, .move (.tmp 72), 4, _, _, _⟩) (v := ?v24V2ba) rfl (by kernel_rfl) (by kernel_rfl) (by kernel_rfl) (fun _ _ _ h => h) (Or.inl ⟨by rfl, ?hy24V2ba⟩) hHeld ?rest24V2ba
            case hy24V2ba => intro w9 hSw; go_simp; (try with_reducible rfl)
            try simp only [Act.put, s_put, s_0, s_1]
            refine wpAnyH_take (i := 25) (oi := ⟨some 74, .load 28 (.tmp 9), 28, _, _, _⟩) (v := undef) rfl (by kernel_rfl) (by kernel_rfl) (by kernel_rfl) (fun _ _ _ h => h) (Or.inr ⟨by rfl, rfl⟩) hHeld ?rest25V2ba
            try simp only [Act.put, s_put, s_0, s_1]
            refine wpAnyH_take (i := 26) (oi := ⟨some 75, .call { callee := .value (.func 10), args := #[.tmp 74], argTypes := #[28] }, 37, _, _, _⟩) (v := undef) rfl (by kernel_rfl) (by kernel_rfl) (by kernel_rfl) (fun _ _ _ h => h) (Or.inr ⟨by rfl, rfl⟩) hHeld ?rest26V2ba
            try simp only [Act.put, s_put, s_0, s_1]
            refine wpAnyH_take (i := 27) (oi := ⟨some 76, .binOp BinOp.eql 37 (.tmp 75) (.const (Value.int IntKind.i64 0)) 37, 4, _, _, _⟩) (v := undef) rfl (by kernel_rfl) (by kernel_rfl) (by kernel_rfl) (fun _ _ _ h => h) (Or.inr ⟨by rfl, rfl⟩) hHeld ?rest27V2ba
            try simp only [Act.put, s_put, s_0, s_1]
            refine wpAnyH_take (i := 28) (oi := ⟨some 77, .pick (.tmp 73) (.const (Value.bool true)) (.tmp 76), 4, _, _, _⟩) (v := ?v28V2ba) rfl (by kernel_rfl) (by kernel_rfl) (by kernel_rfl) (fun _ _ _ h => h) (Or.inl ⟨by rfl, ?hy28V2ba⟩) hHeld ?rest28V2ba
            case hy28V2ba => intro w9 hSw; go_simp; (try with_reducible rfl)
            try simp only [Act.put, s_put, s_0, s_1]
            refine wpAnyH_take (i := 29) (oi := ⟨some 78, .pick (.tmp 65) (.tmp 77) (.const (Value.bool false)), 4, _, _, _⟩) (v := ?v29V2ba) rfl (by kernel_rfl) (by kernel_rfl) (by kernel_rfl) (fun _ _ _ h => h) (Or.inl ⟨by rfl, ?hy29V2ba⟩) hHeld ?rest29V2ba
            case hy29V2ba => intro w9 hSw; go_simp; (try with_reducible rfl)
            try simp only [Act.put, s_put, s_0, s_1]
            refine wpAnyH_take (i := 30) (oi := ⟨some 79, .move (.tmp 78), 4, _, _, _⟩) (v := ?v30V2ba) rfl (by kernel_rfl) (by kernel_rfl) (by kernel_rfl) (fun _ _ _ h => h) (Or.inl ⟨by rfl, ?hy30V2ba⟩) hHeld ?rest30V2ba
            case hy30V2ba => intro w9 hSw; go_simp; (try with_reducible rfl)
            try simp only [Act.put, s_put, s_0, s_1]
            refine wpAnyH_ready (rs := [31]) (by kernel_rfl) (by simp) ?_
            refine AllReadyH.cons (o := ⟨some 80, .call { callee := .value (.func 6), args := #[], argTypes := #[] }, 4, _, _, _⟩) rfl (fun K hK => ?_) AllReadyH.nil
            go_simp
            refine (W1.out _).mono ?_
            rintro e x31 ⟨rfl, hN31⟩
            go_wp2_with fail
            have hT31 := btr hT hN31
            refine hK.out _ _ (btr hHeld hN31) (fun _ => held_up (bup hHeld hN31) _ _ _ _ ?_)
            clear hK K hHeld hT
            have hT := hT31
            have hHeld := brefl x31
            clear hT31 hN31
            try simp only [Act.put, s_put, s_0, s_1]
            refine wpAnyH_take (i := 32) (oi := ⟨some 81, .pick (.tmp 79) (.tmp 80) (.const (Value.bool false)), 4, _, _, _⟩) (v := ?v32V2ba) rfl (by kernel_rfl) (by kernel_rfl) (by kernel_rfl) (fun _ _ _ h => h) (Or.inl ⟨by rfl, ?hy32V2ba⟩) hHeld ?rest32V2ba
            case hy32V2ba => intro w9 hSw; go_simp; (try with_reducible rfl)
            try simp only [Act.put, s_put, s_0, s_1]
            refine wpAnyH_take (i := 33) (oi := ⟨some 6, .assign (.tmp 81), 4, _, _, _⟩) (v := ?v33V2ba) rfl (by kernel_rfl) (by kernel_rfl) (by kernel_rfl) (fun _ _ _ h => h) (Or.inl ⟨by rfl, ?hy33V2ba⟩) hHeld ?rest33V2ba
            case hy33V2ba => intro w9 hSw; go_simp; (try with_reducible rfl)
            try simp only [Act.put, s_put, s_0, s_1]
            refine wpAnyH_done (by kernel_rfl) ?_ _
            refine NoPanic.normal ?_
            go_wp2
            go_ret
            exact ⟨rfl, HB.out.trans ((HAW.out.trans (hT.mono HAW.out.size)).mono HB.out.size)⟩
          · go_simp
            obtain ⟨x4, hx4⟩ : ∃ x, d.alloc (.cells #[.string v] 9) = x := ⟨_, rfl⟩
            rw [hx4]
            have hN4 : Below d.heap.size d x4 := by rw [← hx4]; exact (Below.refl _ _).alloc (Nat.le_refl _) _
            have hX4 : Txs x4 (some ⟨d.heap.size, 0, none⟩) 1 (fun _ => v) := by rw [← hx4]; exact txs_new _ _
            clear hx4
            have hT4 := btr hT hN4
            refine hK.out _ _ (btr hHeld hN4) (fun _ => held_up (bup hHeld hN4) _ _ _ _ ?_)
            clear hK K hHeld hT
            have hT := hT4
            have hHeld := brefl x4
            clear hT4
            try simp only [Act.put, s_put, s_0, s_1]
            refine wpAnyH_ready (rs := [2]) (by kernel_rfl) (by simp) ?_
            refine AllReadyH.cons (o := ⟨some 51, .buildSlice 42 1 #[(0, .tmp 50)], 42, _, _, _⟩) rfl (fun K hK => ?_) AllReadyH.nil
            go_simp
            obtain ⟨x2, hx2⟩ : ∃ x, x4.alloc (.cells #[.string u] 9) = x := ⟨_, rfl⟩
            rw [hx2]
            have hN2 : Below x4.heap.size x4 x2 := by rw [← hx2]; exact (Below.refl _ _).alloc (Nat.le_refl _) _
            have hX2 : Txs x2 (some ⟨x4.heap.size, 0, none⟩) 1 (fun _ => u) := by rw [← hx2]; exact txs_new _ _
            clear hx2
            have hT2 := btr hT hN2
            refine hK.out _ _ (btr hHeld hN2) (fun _ => held_up (bup hHeld hN2) _ _ _ _ ?_)
            clear hK K hHeld hT
            have hT := hT2
            have hHeld := brefl x2
            clear hT2
            try simp only [Act.put, s_put, s_0, s_1]
            refine wpAnyH_ready (rs := [5]) (by kernel_rfl) (by simp) ?_
            refine AllReadyH.cons (o := ⟨some 54, .call { callee := .value (.func 17), args := #[.tmp 49, .tmp 51, .tmp 53], argTypes := #[28, 42, 42] }, 28, _, _, _⟩) rfl (fun K hK => ?_) AllReadyH.nil
            go_simp
            refine (R2.out _ hT _ _ hX2 (hX4.later hN2)).mono ?_
            rintro e x5 ⟨z5, rfl, hz1, hz2, hN5⟩
            have C7 : Hid (Calls Tryz.prog 12 #[z5.val, x.val] x5 fun e w2 => e = .returned (.bool true) ∧ Below x5.heap.size x5 w2) := SM.out z5 x5 hz1.out hz2.out (hT.trans (hN5.mono hT.size))
            go_wp2_with fail
            have hT5 := btr hT hN5
            refine hK.out _ _ (btr hHeld hN5) (fun _ => held_up (bup hHeld hN5) _ _ _ _ ?_)
            clear hK K hHeld hT
            have hT := hT5
            have hHeld := brefl x5
            clear hT5 hN5
            try simp only [Act.put, s_put, s_0, s_1]
            refine wpAnyH_ready (rs := [7]) (by kernel_rfl) (by simp) ?_
            refine AllReadyH.cons (o := ⟨some 56, .call { callee := .value (.func 12), args := #[.tmp 54, .tmp 55], argTypes := #[28, 28] }, 4, _, _, _⟩) rfl (fun K hK => ?_) AllReadyH.nil
            go_simp
            refine (C7.out).mono ?_
            rintro e x7 ⟨rfl, hN7⟩
            go_wp2_with fail
            have hT7 := btr hT hN7
            refine hK.out _ _ (btr hHeld hN7) (fun _ => held_up (bup hHeld hN7) _ _ _ _ ?_)
            clear hK K hHeld hT
            have hT := hT7
            have hHeld := brefl x7
            clear hT7 hN7
            try simp only [Act.put, s_put, s_0, s_1]
            refine wpAnyH_take (i := 8) (oi := ⟨some 57, .move (.tmp 56), 4, _, _, _⟩) (v := ?v8V2bb) rfl (by kernel_rfl) (by kernel_rfl) (by kernel_rfl) (fun _ _ _ h => h) (Or.inl ⟨by rfl, ?hy8V2bb⟩) hHeld ?rest8V2bb
            case hy8V2bb => intro w9 hSw; go_simp; (try with_reducible rfl)
            try simp only [Act.put, s_put, s_0, s_1]
            refine wpAnyH_take (i := 9) (oi := ⟨some 58, .load 28 (.tmp 9), 28, _, _, _⟩) (v := ?v9V2bb) rfl (by kernel_rfl) (by kernel_rfl) (by kernel_rfl) (fun _ _ _ h => h) (Or.inl ⟨by rfl, ?hy9V2bb⟩) hHeld ?rest9V2bb
            case hy9V2bb => intro w9 hSw; obtain ⟨⟨d0, d1, d2, d3, d4, d5⟩, d6, d7, d8, d9, d10⟩ := (PY.out.later (hT.trans (hSw.mono hT.size))).at0; go_simp; (try with_reducible rfl)
            try simp only [Act.put, s_put, s_0, s_1]
            refine wpAnyH_take (i := 12) (oi := ⟨some 61, .move (.tmp 7), 42, _, _, _⟩) (v := ?v12V2bb) rfl (by kernel_rfl) (by kernel_rfl) (by kernel_rfl) (fun _ _ _ h => h) (Or.inl ⟨by rfl, ?hy12V2bb⟩) hHeld ?rest12V2bb
            case hy12V2bb => intro w9 hSw; go_simp; (try with_reducible rfl)
            try simp only [Act.put, s_put, s_0, s_1]
            refine wpAnyH_take (i := 13) (oi := ⟨some 62, .call { callee := .builtin Builtin.len, args := #[.tmp 61], argTypes := #[42] }, 3, _, _, _⟩) (v := ?v13V2bb) rfl (by kernel_rfl) (by kernel_rfl) (by kernel_rfl) (fun _ _ _ h => h) (Or.inl ⟨by rfl, ?hy13V2bb⟩) hHeld ?rest13V2bb
            case hy13V2bb => intro w9 hSw; go_simp; (try with_reducible rfl)
            try simp only [Act.put, s_put, s_0, s_1]
            refine wpAnyH_ready (rs := [10]) (by kernel_rfl) (by simp) ?_
            refine AllReadyH.cons (o := ⟨some 59, .call { callee := .value (.func 15), args := #[.tmp 58], argTypes := #[28] }, 42, _, _, _⟩) rfl (fun K hK => ?_) AllReadyH.nil
            go_simp
            refine (V2.out _ hT).mono ?_
            rintro e x10 ⟨al2, cap2, rfl, hN10⟩
            go_wp2_with fail
            have hT10 := btr hT hN10
            refine hK.out _ _ (btr hHeld hN10) (fun _ => held_up (bup hHeld hN10) _ _ _ _ ?_)
            clear hK K hHeld hT
            have hT := hT10
            have hHeld := brefl x10
            clear hT10 hN10
            try simp only [Act.put, s_put, s_0, s_1]
            refine wpAnyH_take (i := 11) (oi := ⟨some 60, .call { callee := .builtin Builtin.len, args := #[.tmp 59], argTypes := #[42] }, 3, _, _, _⟩) (v := ?v11V2bb) rfl (by kernel_rfl) (by kernel_rfl) (by kernel_rfl) (fun _ _ _ h => h) (Or.inl ⟨by rfl, ?hy11V2bb⟩) hHeld ?rest11V2bb
            case hy11V2bb => intro w9 hSw; go_simp; (try with_reducible rfl)
            try simp only [Act.put, s_put, s_0, s_1]
            refine wpAnyH_take (i := 14) (oi := ⟨some 63, .binOp BinOp.eql 3 (.tmp 60) (.tmp 62) 3, 4, _, _, _⟩) (v := ?v14V2bb) rfl (by kernel_rfl) (by kernel_rfl) (by kernel_rfl) (fun _ _ _ h => h) (Or.inl ⟨by rfl, ?hy14V2bb⟩) hHeld ?rest14V2bb
            case hy14V2bb => intro w9 hSw; go_simp; (try with_reducible rfl)
            try simp only [Act.put, s_put, s_0, s_1]
            refine wpAnyH_take (i := 15) (oi := ⟨some 64, .pick (.tmp 57) (.tmp 63) (.const (Value.bool false)), 4, _, _, _⟩) (v := ?v15V2bb) rfl (by kernel_rfl) (by kernel_rfl) (by kernel_rfl) (fun _ _ _ h => h) (Or.inl ⟨by rfl, ?hy15V2bb⟩) hHeld ?rest15V2bb
            case hy15V2bb => intro w9 hSw; go_simp; (try with_reducible rfl)
            try simp only [Act.put, s_put, s_0, s_1]
            refine wpAnyH_take (i := 16) (oi := ⟨some 65, .move (.tmp 64), 4, _, _, _⟩) (v := ?v16V2bb) rfl (by kernel_rfl) (by kernel_rfl) (by kernel_rfl) (fun _ _ _ h => h) (Or.inl ⟨by rfl, ?hy16V2bb⟩) hHeld ?rest16V2bb
            case hy16V2bb => intro w9 hSw; go_simp; (try with_reducible rfl)
            try simp only [Act.put, s_put, s_0, s_1]
            refine wpAnyH_take (i := 17) (oi := ⟨some 66, .load 28 (.tmp 3), 28, _, _, _⟩) (v := ?v17V2bb) rfl (by kernel_rfl) (by kernel_rfl) (by kernel_rfl) (fun _ _ _ h => h) (Or.inl ⟨by rfl, ?hy17V2bb⟩) hHeld ?rest17V2bb
            case hy17V2bb => intro w9 hSw; obtain ⟨⟨d0, d1, d2, d3, d4, d5⟩, d6, d7, d8, d9, d10⟩ := (PX.out.later (hT.trans (hSw.mono hT.size))).at0; go_simp; (try with_reducible rfl)
            try simp only [Act.put, s_put, s_0, s_1]
            refine wpAnyH_ready (rs := [18]) (by kernel_rfl) (by simp) ?_
            refine AllReadyH.cons (o := ⟨some 67, .call { callee := .value (.func 10), args := #[.tmp 66], argTypes := #[28] }, 37, _, _, _⟩) rfl (fun K hK => ?_) AllReadyH.nil
            go_simp
            refine (M1.out _ hT).mono ?_
            rintro e x18 ⟨rfl, hN18⟩
            go_wp2_with fail
            have hT18 := btr hT hN18
            refine hK.out _ _ (btr hHeld hN18) (fun _ => held_up (bup hHeld hN18) _ _ _ _ ?_)
            clear hK K hHeld hT
            have hT := hT18
            have hHeld := brefl x18
            clear hT18 hN18
            try simp only [Act.put, s_put, s_0, s_1]
            refine wpAnyH_take (i := 19) (oi := ⟨some 68, .binOp BinOp.neq 37 (.tmp 67) (.const (Value.int IntKind.i64 0)) 37, 4, _, _, _⟩) (v := ?v19V2bb) rfl (by kernel_rfl) (by kernel_rfl) (by kernel_rfl) (fun _ _ _ h => h) (Or.inl ⟨by rfl, ?hy19V2bb⟩) hHeld ?rest19V2bb
            case hy19V2bb => intro w9 hSw; go_simp; (try with_reducible rfl)
            try simp only [Act.put, s_put, s_0, s_1]
            refine wpAnyH_take (i := 20) (oi := ⟨some 69, .move (.tmp 68), 4, _, _, _⟩) (v := ?v20V2bb) rfl (by kernel_rfl) (by kernel_rfl) (by kernel_rfl) (fun _ _ _ h => h) (Or.inl ⟨by rfl, ?hy20V2bb⟩) hHeld ?rest20V2bb
            case hy20V2bb => intro w9 hSw; go_simp; (try with_reducible rfl)
            try simp only [Act.put, s_put, s_0, s_1]
            refine wpAnyH_take (i := 21) (oi := ⟨some 70, .move (.tmp 10), 4, _, _, _⟩) (v := ?v21V2bb) rfl (by kernel_rfl) (by kernel_rfl) (by kernel_rfl) (fun _ _ _ h => h) (Or.inl ⟨by rfl, ?hy21V2bb⟩) hHeld ?rest21V2bb
            case hy21V2bb => intro w9 hSw; go_simp; (try with_reducible rfl)
            try simp only [Act.put, s_put, s_0, s_1]
            refine wpAnyH_take (i := 22) (oi := ⟨some 71, .unOp UnOp.not 4 (.tmp 70), 4, _, _, _⟩) (v := ?v22V2bb) rfl (by kernel_rfl) (by kernel_rfl) (by kernel_rfl) (fun _ _ _ h => h) (Or.inl ⟨by rfl, ?hy22V2bb⟩) hHeld ?rest22V2bb
            case hy22V2bb => intro w9 hSw; go_simp; (try with_reducible rfl)
            try simp only [Act.put, s_put, s_0, s_1]
            refine wpAnyH_take (i := 23) (oi := ⟨some 72, .pick (.tmp 69) (.const (Value.bool true)) (.tmp 71), 4, _, _, _⟩) (v := ?v23V2bb) rfl (by kernel_rfl) (by kernel_rfl) (by kernel_rfl) (fun _ _ _ h => h) (Or.inl ⟨by rfl, ?hy23V2bb⟩) hHeld ?rest23V2bb
            case hy23V2bb => intro w9 hSw; go_simp; (try with_reducible rfl)
            try simp only [Act.put, s_put, s_0, s_1]
            refine wpAnyH_take (i := 24) (oi := ⟨some 73, .move (.tmp 72), 4, _, _, _⟩) (v := ?v24V2bb) rfl (by kernel_rfl) (by kernel_rfl) (by kernel_rfl) (fun _ _ _ h => h) (Or.inl ⟨by rfl, ?hy24V2bb⟩) hHeld ?rest24V2bb
            case hy24V2bb => intro w9 hSw; go_simp; (try with_reducible rfl)
            try simp only [Act.put, s_put, s_0, s_1]
            refine wpAnyH_take (i := 25) (oi := ⟨some 74, .load 28 (.tmp 9), 28, _, _, _⟩) (v := undef) rfl (by kernel_rfl) (by kernel_rfl) (by kernel_rfl) (fun _ _ _ h => h) (Or.inr ⟨by rfl, rfl⟩) hHeld ?rest25V2bb
            try simp only [Act.put, s_put, s_0, s_1]
            refine wpAnyH_take (i := 26) (oi := ⟨some 75, .call { callee := .value (.func 10), args := #[.tmp 74], argTypes := #[28] }, 37, _, _, _⟩) (v := undef) rfl (by kernel_rfl) (by kernel_rfl) (by kernel_rfl) (fun _ _ _ h => h) (Or.inr ⟨by rfl, rfl⟩) hHeld ?rest26V2bb
            try simp only [Act.put, s_put, s_0, s_1]
            refine wpAnyH_take (i := 27) (oi := ⟨some 76, .binOp BinOp.eql 37 (.tmp 75) (.const (Value.int IntKind.i64 0)) 37, 4, _, _, _⟩) (v := undef) rfl (by kernel_rfl) (by kernel_rfl) (by kernel_rfl) (fun _ _ _ h => h) (Or.inr ⟨by rfl, rfl⟩) hHeld ?rest27V2bb
            try simp only [Act.put, s_put, s_0, s_1]
            refine wpAnyH_take (i := 28) (oi := ⟨some 77, .pick (.tmp 73) (.const (Value.bool true)) (.tmp 76), 4, _, _, _⟩) (v := ?v28V2bb) rfl (by kernel_rfl) (by kernel_rfl) (by kernel_rfl) (fun _ _ _ h => h) (Or.inl ⟨by rfl, ?hy28V2bb⟩) hHeld ?rest28V2bb
            case hy28V2bb => intro w9 hSw; go_simp; (try with_reducible rfl)
            try simp only [Act.put, s_put, s_0, s_1]
            refine wpAnyH_take (i := 29) (oi := ⟨some 78, .pick (.tmp 65) (.tmp 77) (.const (Value.bool false)), 4, _, _, _⟩) (v := ?v29V2bb) rfl (by kernel_rfl) (by kernel_rfl) (by kernel_rfl) (fun _ _ _ h => h) (Or.inl ⟨by rfl, ?hy29V2bb⟩) hHeld ?rest29V2bb
            case hy29V2bb => intro w9 hSw; go_simp; (try with_reducible rfl)
            try simp only [Act.put, s_put, s_0, s_1]
            refine wpAnyH_take (i := 30) (oi := ⟨some 79, .move (.tmp 78), 4, _, _, _⟩) (v := ?v30V2bb) rfl (by kernel_rfl) (by kernel_rfl) (by kernel_rfl) (fun _ _ _ h => h) (Or.inl ⟨by rfl, ?hy30V2bb⟩) hHeld ?rest30V2bb
            case hy30V2bb => intro w9 hSw; go_simp; (try with_reducible rfl)
            try simp only [Act.put, s_put, s_0, s_1]
            refine wpAnyH_ready (rs := [31]) (by kernel_rfl) (by simp) ?_
            refine AllReadyH.cons (o := ⟨some 80, .call { callee := .value (.func 6), args := #[], argTypes := #[] }, 4, _, _, _⟩) rfl (fun K hK => ?_) AllReadyH.nil
            go_simp
            refine (W1.out _).mono ?_
            rintro e x31 ⟨rfl, hN31⟩
            go_wp2_with fail
            have hT31 := btr hT hN31
            refine hK.out _ _ (btr hHeld hN31) (fun _ => held_up (bup hHeld hN31) _ _ _ _ ?_)
            clear hK K hHeld hT
            have hT := hT31
            have hHeld := brefl x31
            clear hT31 hN31
            try simp only [Act.put, s_put, s_0, s_1]
            refine wpAnyH_take (i := 32) (oi := ⟨some 81, .pick (.tmp 79) (.tmp 80) (.const (Value.bool false)), 4, _, _, _⟩) (v := ?v32V2bb) rfl (by kernel_rfl) (by kernel_rfl) (by kernel_rfl) (fun _ _ _ h => h) (Or.inl ⟨by rfl, ?hy32V2bb⟩) hHeld ?rest32V2bb
            case hy32V2bb => intro w9 hSw; go_simp; (try with_reducible rfl)
            try simp only [Act.put, s_put, s_0, s_1]
            refine wpAnyH_take (i := 33) (oi := ⟨some 6, .assign (.tmp 81), 4, _, _, _⟩) (v := ?v33V2bb) rfl (by kernel_rfl) (by kernel_rfl) (by kernel_rfl) (fun _ _ _ h => h) (Or.inl ⟨by rfl, ?hy33V2bb⟩) hHeld ?rest33V2bb
            case hy33V2bb => intro w9 hSw; go_simp; (try with_reducible rfl)
            try simp only [Act.put, s_put, s_0, s_1]
            refine wpAnyH_done (by kernel_rfl) ?_ _
            refine NoPanic.normal ?_
            go_wp2
            go_ret
            exact ⟨rfl, HB.out.trans ((HAW.out.trans (hT.mono HAW.out.size)).mono HB.out.size)⟩
      · have t1 : (((u.size : Nat) : Int) == 1) = false := by simp; omega
        clear h1 M2' hix
        go_upto_region 11 with fail
        refine wp_region_noPanic ?_
        refine wp_region_held_drew (S := fun w' => Below W.heap.size W w') (by kernel_rfl) ((Below.refl _ _).drew) (fun hHeld => ?_)
        have hT : Below W.heap.size W W.drew := hHeld
        obtain ⟨d, hdw⟩ : ∃ d, d = W.drew := ⟨_, rfl⟩
        rw [← hdw] at hHeld hT ⊢
        clear hdw
        refine wpAnyH_take (i := 0) (oi := ⟨some 49, .load 28 (.tmp 9), 28, _, _, _⟩) (v := ?v0V2c) rfl (by kernel_rfl) (by kernel_rfl) (by kernel_rfl) (fun _ _ _ h => h) (Or.inl ⟨by rfl, ?hy0V2c⟩) hHeld ?rest0V2c
        case hy0V2c => intro w9 hSw; obtain ⟨⟨d0, d1, d2, d3, d4, d5⟩, d6, d7, d8, d9, d10⟩ := (PY.out.later hSw).at0; go_simp; (try with_reducible rfl)
        try simp only [Act.put, s_put, s_0, s_1]
        refine wpAnyH_take (i := 1) (oi := ⟨some 50, .move (.tmp 2), 9, _, _, _⟩) (v := ?v1V2c) rfl (by kernel_rfl) (by kernel_rfl) (by kernel_rfl) (fun _ _ _ h => h) (Or.inl ⟨by rfl, ?hy1V2c⟩) hHeld ?rest1V2c
        case hy1V2c => intro w9 hSw; go_simp; (try with_reducible rfl)
        try simp only [Act.put, s_put, s_0, s_1]
        refine wpAnyH_take (i := 3) (oi := ⟨some 52, .move (.tmp 1), 9, _, _, _⟩) (v := ?v3V2c) rfl (by kernel_rfl) (by kernel_rfl) (by kernel_rfl) (fun _ _ _ h => h) (Or.inl ⟨by rfl, ?hy3V2c⟩) hHeld ?rest3V2c
        case hy3V2c => intro w9 hSw; go_simp; (try with_reducible rfl)
        try simp only [Act.put, s_put, s_0, s_1]
        refine wpAnyH_take (i := 6) (oi := ⟨some 55, .load 28 (.tmp 3), 28, _, _, _⟩) (v := ?v6V2c) rfl (by kernel_rfl) (by kernel_rfl) (by kernel_rfl) (fun _ _ _ h => h) (Or.inl ⟨by rfl, ?hy6V2c⟩) hHeld ?rest6V2c
        case hy6V2c => intro w9 hSw; obtain ⟨⟨d0, d1, d2, d3, d4, d5⟩, d6, d7, d8, d9, d10⟩ := (PX.out.later hSw).at0; go_simp; (try with_reducible rfl)
        try simp only [Act.put, s_put, s_0, s_1]
        refine wpAnyH_ready (rs := [2, 4]) (by kernel_rfl) (by simp) ?_
        refine AllReadyH.cons (o := ⟨some 51, .buildSlice 42 1 #[(0, .tmp 50)], 42, _, _, _⟩) rfl (fun K hK => ?_) (AllReadyH.cons (o := ⟨some 53, .buildSlice 42 1 #[(0, .tmp 52)], 42, _, _, _⟩) rfl (fun K hK => ?_) AllReadyH.nil)
        · go_simp
          obtain ⟨x2, hx2⟩ : ∃ x, d.alloc (.cells #[.string u] 9) = x := ⟨_, rfl⟩
          rw [hx2]
          have hN2 : Below d.heap.size d x2 := by rw [← hx2]; exact (Below.refl _ _).alloc (Nat.le_refl _) _
          have hX2 : Txs x2 (some ⟨d.heap.size, 0, none⟩) 1 (fun _ => u) := by rw [← hx2]; exact txs_new _ _
          clear hx2
          have hT2 := btr hT hN2
          refine hK.out _ _ (btr hHeld hN2) (fun _ => held_up (bup hHeld hN2) _ _ _ _ ?_)
          clear hK K hHeld hT
          have hT := hT2
          have hHeld := brefl x2
          clear hT2
          try simp only [Act.put, s_put, s_0, s_1]
          refine wpAnyH_ready (rs := [4]) (by kernel_rfl) (by simp) ?_
          refine AllReadyH.cons (o := ⟨some 53, .buildSlice 42 1 #[(0, .tmp 52)], 42, _, _, _⟩) rfl (fun K hK => ?_) AllReadyH.nil
          go_simp
          obtain ⟨x4, hx4⟩ : ∃ x, x2.alloc (.cells #[.string v] 9) = x := ⟨_, rfl⟩
          rw [hx4]
          have hN4 : Below x2.heap.size x2 x4 := by rw [← hx4]; exact (Below.refl _ _).alloc (Nat.le_refl _) _
          have hX4 : Txs x4 (some ⟨x2.heap.size, 0, none⟩) 1 (fun _ => v) := by rw [← hx4]; exact txs_new _ _
          clear hx4
          have hT4 := btr hT hN4
          refine hK.out _ _ (btr hHeld hN4) (fun _ => held_up (bup hHeld hN4) _ _ _ _ ?_)
          clear hK K hHeld hT
          have hT := hT4
          have hHeld := brefl x4
          clear hT4
          try simp only [Act.put, s_put, s_0, s_1]
          refine wpAnyH_ready (rs := [5]) (by kernel_rfl) (by simp) ?_
          refine AllReadyH.cons (o := ⟨some 54, .call { callee := .value (.func 17), args := #[.tmp 49, .tmp 51, .tmp 53], argTypes := #[28, 42, 42] }, 28, _, _, _⟩) rfl (fun K hK => ?_) AllReadyH.nil
          go_simp
          refine (R2.out _ hT _ _ (hX2.later hN4) hX4).mono ?_
          rintro e x5 ⟨z5, rfl, hz1, hz2, hN5⟩
          have C7 : Hid (Calls Tryz.prog 12 #[z5.val, x.val] x5 fun e w2 => e = .returned (.bool true) ∧ Below x5.heap.size x5 w2) := SM.out z5 x5 hz1.out hz2.out (hT.trans (hN5.mono hT.size))
          go_wp2_with fail
          have hT5 := btr hT hN5
          refine hK.out _ _ (btr hHeld hN5) (fun _ => held_up (bup hHeld hN5) _ _ _ _ ?_)
          clear hK K hHeld hT
          have hT := hT5
          have hHeld := brefl x5
          clear hT5 hN5
          try simp only [Act.put, s_put, s_0, s_1]
          refine wpAnyH_ready (rs := [7]) (by kernel_rfl) (by simp) ?_
          refine AllReadyH.cons (o := ⟨some 56, .call { callee := .value (.func 12), args := #[.tmp 54, .tmp 55], argTypes := #[28, 28] }, 4, _, _, _⟩) rfl (fun K hK => ?_) AllReadyH.nil
          go_simp
          refine (C7.out).mono ?_
          rintro e x7 ⟨rfl, hN7⟩
          go_wp2_with fail
          have hT7 := btr hT hN7
          refine hK.out _ _ (btr hHeld hN7) (fun _ => held_up (bup hHeld hN7) _ _ _ _ ?_)
          clear hK K hHeld hT
          have hT := hT7
          have hHeld := brefl x7
          clear hT7 hN7
          try simp only [Act.put, s_put, s_0, s_1]
          refine wpAnyH_take (i := 8) (oi := ⟨some 57, .move (.tmp 56), 4, _, _, _⟩) (v := ?v8V2ca) rfl (by kernel_rfl) (by kernel_rfl) (by kernel_rfl) (fun _ _ _ h => h) (Or.inl ⟨by rfl, ?hy8V2ca⟩) hHeld ?rest8V2ca
          case hy8V2ca => intro w9 hSw; go_simp; (try with_reducible rfl)
          try simp only [Act.put, s_put, s_0, s_1]
          refine wpAnyH_take (i := 9) (oi := ⟨some 58, .load 28 (.tmp 9), 28, _, _, _⟩) (v := ?v9V2ca) rfl (by kernel_rfl) (by kernel_rfl) (by kernel_rfl) (fun _ _ _ h => h) (Or.inl ⟨by rfl, ?hy9V2ca⟩) hHeld ?rest9V2ca
          case hy9V2ca => intro w9 hSw; obtain ⟨⟨d0, d1, d2, d3, d4, d5⟩, d6, d7, d8, d9, d10⟩ := (PY.out.later (hT.trans (hSw.mono hT.size))).at0; go_simp; (try with_reducible rfl)
          try simp only [Act.put, s_put, s_0, s_1]
          refine wpAnyH_take (i := 12) (oi := ⟨some 61, .move (.tmp 7), 42, _, _, _⟩) (v := ?v12V2ca) rfl (by kernel_rfl) (by kernel_rfl) (by kernel_rfl) (fun _ _ _ h => h) (Or.inl ⟨by rfl, ?hy12V2ca⟩) hHeld ?rest12V2ca
          case hy12V2ca => intro w9 hSw; go_simp; (try with_reducible rfl)
          try simp only [Act.put, s_put, s_0, s_1]
          refine wpAnyH_take (i := 13) (oi := ⟨some 62, .call { callee := .builtin Builtin.len, args := #[.tmp 61], argTypes := #[42] }, 3, _, _, _⟩) (v := ?v13V2ca) rfl (by kernel_rfl) (by kernel_rfl) (by kernel_rfl) (fun _ _ _ h => h) (Or.inl ⟨by rfl, ?hy13V2ca⟩) hHeld ?rest13V2ca
          case hy13V2ca => intro w9 hSw; go_simp; (try with_reducible rfl)
          try simp only [Act.put, s_put, s_0, s_1]
          refine wpAnyH_ready (rs := [10]) (by kernel_rfl) (by simp) ?_
          refine AllReadyH.cons (o := ⟨some 59, .call { callee := .value (.func 15), args := #[.tmp 58], argTypes := #[28] }, 42, _, _, _⟩) rfl (fun K hK => ?_) AllReadyH.nil
          go_simp
          refine (V2.out _ hT).mono ?_
          rintro e x10 ⟨al2, cap2, rfl, hN10⟩
          go_wp2_with fail
          have hT10 := btr hT hN10
          refine hK.out _ _ (btr hHeld hN10) (fun _ => held_up (bup hHeld hN10) _ _ _ _ ?_)
          clear hK K hHeld hT
          have hT := hT10
          have hHeld := brefl x10
          clear hT10 hN10
          try simp only [Act.put, s_put, s_0, s_1]
          refine wpAnyH_take (i := 11) (oi := ⟨some 60, .call { callee := .builtin Builtin.len, args := #[.tmp 59], argTypes := #[42] }, 3, _, _, _⟩) (v := ?v11V2ca) rfl (by kernel_rfl) (by kernel_rfl) (by kernel_rfl) (fun _ _ _ h => h) (Or.inl ⟨by rfl, ?hy11V2ca⟩) hHeld ?rest11V2ca
          case hy11V2ca => intro w9 hSw; go_simp; (try with_reducible rfl)
          try simp only [Act.put, s_put, s_0, s_1]
          refine wpAnyH_take (i := 14) (oi := ⟨some 63, .binOp BinOp.eql 3 (.tmp 60) (.tmp 62) 3, 4, _, _, _⟩) (v := ?v14V2ca) rfl (by kernel_rfl) (by kernel_rfl) (by kernel_rfl) (fun _ _ _ h => h) (Or.inl ⟨by rfl, ?hy14V2ca⟩) hHeld ?rest14V2ca
          case hy14V2ca => intro w9 hSw; go_simp; (try with_reducible rfl)
          try simp only [Act.put, s_put, s_0, s_1]
          refine wpAnyH_take (i := 15) (oi := ⟨some 64, .pick (.tmp 57) (.tmp 63) (.const (Value.bool false)), 4, _, _, _⟩) (v := ?v15V2ca) rfl (by kernel_rfl) (by kernel_rfl) (by kernel_rfl) (fun _ _ _ h => h) (Or.inl ⟨by rfl, ?hy15V2ca⟩) hHeld ?rest15V2ca
          case hy15V2ca => intro w9 hSw; go_simp; (try with_reducible rfl)
          try simp only [Act.put, s_put, s_0, s_1]
          refine wpAnyH_take (i := 16) (oi := ⟨some 65, .move (.tmp 64), 4, _, _, _⟩) (v := ?v16V2ca) rfl (by kernel_rfl) (by kernel_rfl) (by kernel_rfl) (fun _ _ _ h => h) (Or.inl ⟨by rfl, ?hy16V2ca⟩) hHeld ?rest16V2ca
          case hy16V2ca => intro w9 hSw; go_simp; (try with_reducible rfl)
          try simp only [Act.put, s_put, s_0, s_1]
          refine wpAnyH_take (i := 17) (oi := ⟨some 66, .load 28 (.tmp 3), 28, _, _, _⟩) (v := ?v17V2ca) rfl (by kernel_rfl) (by kernel_rfl) (by kernel_rfl) (fun _ _ _ h => h) (Or.inl ⟨by rfl, ?hy17V2ca⟩) hHeld ?rest17V2ca
          case hy17V2ca => intro w9 hSw; obtain ⟨⟨d0, d1, d2, d3, d4, d5⟩, d6, d7, d8, d9, d10⟩ := (PX.out.later (hT.trans (hSw.mono hT.size))).at0; go_simp; (try with_reducible rfl)
          try simp only [Act.put, s_put, s_0, s_1]
          refine wpAnyH_ready (rs := [18]) (by kernel_rfl) (by simp) ?_
          refine AllReadyH.cons (o := ⟨some 67, .call { callee := .value (.func 10), args := #[.tmp 66], argTypes := #[28] }, 37, _, _, _⟩) rfl (fun K hK => ?_) AllReadyH.nil
          go_simp
          refine (M1.out _ hT).mono ?_
          rintro e x18 ⟨rfl, hN18⟩
          go_wp2_with fail
          have hT18 := btr hT hN18
          refine hK.out _ _ (btr hHeld hN18) (fun _ => held_up (bup hHeld hN18) _ _ _ _ ?_)
          clear hK K hHeld hT
          have hT := hT18
          have hHeld := brefl x18
          clear hT18 hN18
          try simp only [Act.put, s_put, s_0, s_1]
          refine wpAnyH_take (i := 19) (oi := ⟨some 68, .binOp BinOp.neq 37 (.tmp 67) (.const (Value.int IntKind.i64 0)) 37, 4, _, _, _⟩) (v := ?v19V2ca) rfl (by kernel_rfl) (by kernel_rfl) (by kernel_rfl) (fun _ _ _ h => h) (Or.inl ⟨by rfl, ?hy19V2ca⟩) hHeld ?rest19V2ca
          case hy19V2ca => intro w9 hSw; go_simp; (try with_reducible rfl)
          try simp only [Act.put, s_put, s_0, s_1]
          refine wpAnyH_take (i := 20) (oi := ⟨some 69, .move (.tmp 68), 4, _, _, _⟩) (v := ?v20V2ca) rfl (by kernel_rfl) (by kernel_rfl) (by kernel_rfl) (fun _ _ _ h => h) (Or.inl ⟨by rfl, ?hy20V2ca⟩) hHeld ?rest20V2ca
          case hy20V2ca => intro w9 hSw; go_simp; (try with_reducible rfl)
          try simp only [Act.put, s_put, s_0, s_1]
          refine wpAnyH_take (i := 21) (oi := ⟨some 70, .move (.tmp 10), 4, _, _, _⟩) (v := ?v21V2ca) rfl (by kernel_rfl) (by kernel_rfl) (by kernel_rfl) (fun _ _ _ h => h) (Or.inl ⟨by rfl, ?hy21V2ca⟩) hHeld ?rest21V2ca
          case hy21V2ca => intro w9 hSw; go_simp; (try with_reducible rfl)
          try simp only [Act.put, s_put, s_0, s_1]
          refine wpAnyH_take (i := 22) (oi := ⟨some 71, .unOp UnOp.not 4 (.tmp 70), 4, _, _, _⟩) (v := ?v22V2ca) rfl (by kernel_rfl) (by kernel_rfl) (by kernel_rfl) (fun _ _ _ h => h) (Or.inl ⟨by rfl, ?hy22V2ca⟩) hHeld ?rest22V2ca
          case hy22V2ca => intro w9 hSw; go_simp; (try with_reducible rfl)
          try simp only [Act.put, s_put, s_0, s_1]
          refine wpAnyH_take (i := 23) (oi := ⟨some 72, .pick (.tmp 69) (.const (Value.bool true)) (.tmp 71), 4, _, _, _⟩) (v := ?v23V2ca) rfl (by kernel_rfl) (by kernel_rfl) (by kernel_rfl) (fun _ _ _ h => h) (Or.inl ⟨by rfl, ?hy23V2ca⟩) hHeld ?rest23V2ca
          case hy23V2ca => intro w9 hSw; go_simp; (try with_reducible rfl)
          try simp only [Act.put, s_put, s_0, s_1]
          refine wpAnyH_take (i := 24) (oi := ⟨some 73, .move (.tmp 72), 4, _, _, _⟩) (v := ?v24V2ca) rfl (by kernel_rfl) (by kernel_rfl) (by kernel_rfl) (fun _ _ _ h => h) (Or.inl ⟨by rfl, ?hy24V2ca⟩) hHeld ?rest24V2ca
          case hy24V2ca => intro w9 hSw; go_simp; (try with_reducible rfl)
          try simp only [Act.put, s_put, s_0, s_1]
          refine wpAnyH_take (i := 25) (oi := ⟨some 74, .load 28 (.tmp 9), 28, _, _, _⟩) (v := undef) rfl (by kernel_rfl) (by kernel_rfl) (by kernel_rfl) (fun _ _ _ h => h) (Or.inr ⟨by rfl, rfl⟩) hHeld ?rest25V2ca
          try simp only [Act.put, s_put, s_0, s_1]
          refine wpAnyH_take (i := 26) (oi := ⟨some 75, .call { callee := .value (.func 10), args := #[.tmp 74], argTypes := #[28] }, 37, _, _, _⟩) (v := undef) rfl (by kernel_rfl) (by kernel_rfl) (by kernel_rfl) (fun _ _ _ h => h) (Or.inr ⟨by rfl, rfl⟩) hHeld ?rest26V2ca
          try simp only [Act.put, s_put, s_0, s_1]
          refine wpAnyH_take (i := 27) (oi := ⟨some 76, .binOp BinOp.eql 37 (.tmp 75) (.const (Value.int IntKind.i64 0)) 37, 4, _, _, _⟩) (v := undef) rfl (by kernel_rfl) (by kernel_rfl) (by kernel_rfl) (fun _ _ _ h => h) (Or.inr ⟨by rfl, rfl⟩) hHeld ?rest27V2ca
          try simp only [Act.put, s_put, s_0, s_1]
          refine wpAnyH_take (i := 28) (oi := ⟨some 77, .pick (.tmp 73) (.const (Value.bool true)) (.tmp 76), 4, _, _, _⟩) (v := ?v28V2ca) rfl (by kernel_rfl) (by kernel_rfl) (by kernel_rfl) (fun _ _ _ h => h) (Or.inl ⟨by rfl, ?hy28V2ca⟩) hHeld ?rest28V2ca
          case hy28V2ca => intro w9 hSw; go_simp; (try with_reducible rfl)
          try simp only [Act.put, s_put, s_0, s_1]
          refine wpAnyH_take (i := 29) (oi := ⟨some 78, .pick (.tmp 65) (.tmp 77) (.const (Value.bool false)), 4, _, _, _⟩) (v := ?v29V2ca) rfl (by kernel_rfl) (by kernel_rfl) (by kernel_rfl) (fun _ _ _ h => h) (Or.inl ⟨by rfl, ?hy29V2ca⟩) hHeld ?rest29V2ca
          case hy29V2ca => intro w9 hSw; go_simp; (try with_reducible rfl)
          try simp only [Act.put, s_put, s_0, s_1]
          refine wpAnyH_take (i := 30) (oi := ⟨some 79, .move (.tmp 78), 4, _, _, _⟩) (v := ?v30V2ca) rfl (by kernel_rfl) (by kernel_rfl) (by kernel_rfl) (fun _ _ _ h => h) (Or.inl ⟨by rfl, ?hy30V2ca⟩) hHeld ?rest30V2ca
          case hy30V2ca => intro w9 hSw; go_simp; (try with_reducible rfl)
          try simp only [Act.put, s_put, s_0, s_1]
          refine wpAnyH_ready (rs := [31]) (by kernel_rfl) (by simp) ?_
          refine AllReadyH.cons (o := ⟨some 80, .call { callee := .value (.func 6), args := #[], argTypes := #[] }, 4, _, _, _⟩) rfl (fun K hK => ?_) AllReadyH.nil
          go_simp
          refine (W1.out _).mono ?_
          rintro e x31 ⟨rfl, hN31⟩
          go_wp2_with fail
          have hT31 := btr hT hN31
          refine hK.out _ _ (btr hHeld hN31) (fun _ => held_up (bup hHeld hN31) _ _ _ _ ?_)
          clear hK K hHeld hT
          have hT := hT31
          have hHeld := brefl x31
          clear hT31 hN31
          try simp only [Act.put, s_put, s_0, s_1]
          refine wpAnyH_take (i := 32) (oi := ⟨some 81, .pick (.tmp 79) (.tmp 80) (.const (Value.bool false)), 4, _, _, _⟩) (v := ?v32V2ca) rfl (by kernel_rfl) (by kernel_rfl) (by kernel_rfl) (fun _ _ _ h => h) (Or.inl ⟨by rfl, ?hy32V2ca⟩) hHeld ?rest32V2ca
          case hy32V2ca => intro w9 hSw; go_simp; (try with_reducible rfl)
          try simp only [Act.put, s_put, s_0, s_1]
          refine wpAnyH_take (i := 33) (oi := ⟨some 6, .assign (.tmp 81), 4, _, _, _⟩) (v := ?v33V2ca) rfl (by kernel_rfl) (by kernel_rfl) (by kernel_rfl) (fun _ _ _ h => h) (Or.inl ⟨by rfl, ?hy33V2ca⟩) hHeld ?rest33V2ca
          case hy33V2ca => intro w9 hSw; go_simp; (try with_reducible rfl)
          try simp only [Act.put, s_put, s_0, s_1]
          refine wpAnyH_done (by kernel_rfl) ?_ _
          refine NoPanic.normal ?_
          go_wp2
          go_ret
          exact ⟨rfl, HB.out.trans ((HAW.out.trans (hT.mono HAW.out.size)).mono HB.out.size)⟩
        · go_simp
          obtain ⟨x4, hx4⟩ : ∃ x, d.alloc (.cells #[.string v] 9) = x := ⟨_, rfl⟩
          rw [hx4]
          have hN4 : Below d.heap.size d x4 := by rw [← hx4]; exact (Below.refl _ _).alloc (Nat.le_refl _) _
          have hX4 : Txs x4 (some ⟨d.heap.size, 0, none⟩) 1 (fun _ => v) := by rw [← hx4]; exact txs_new _ _
          clear hx4
          have hT4 := btr hT hN4
          refine hK.out _ _ (btr hHeld hN4) (fun _ => held_up (bup hHeld hN4) _ _ _ _ ?_)
          clear hK K hHeld hT
          have hT := hT4
          have hHeld := brefl x4
          clear hT4
          try simp only [Act.put, s_put, s_0, s_1]
          refine wpAnyH_ready (rs := [2]) (by kernel_rfl) (by simp) ?_
          refine AllReadyH.cons (o := ⟨some 51, .buildSlice 42 1 #[(0, .tmp 50)], 42, _, _, _⟩) rfl (fun K hK => ?_) AllReadyH.nil
          go_simp
          obtain ⟨x2, hx2⟩ : ∃ x, x4.alloc (.cells #[.string u] 9) = x := ⟨_, rfl⟩
          rw [hx2]
          have hN2 : Below x4.heap.size x4 x2 := by rw [← hx2]; exact (Below.refl _ _).alloc (Nat.le_refl _) _
          have hX2 : Txs x2 (some ⟨x4.heap.size, 0, none⟩) 1 (fun _ => u) := by rw [← hx2]; exact txs_new _ _
          clear hx2
          have hT2 := btr hT hN2
          refine hK.out _ _ (btr hHeld hN2) (fun _ => held_up (bup hHeld hN2) _ _ _ _ ?_)
          clear hK K hHeld hT
          have hT := hT2
          have hHeld := brefl x2
          clear hT2
          try simp only [Act.put, s_put, s_0, s_1]
          refine wpAnyH_ready (rs := [5]) (by kernel_rfl) (by simp) ?_
          refine AllReadyH.cons (o := ⟨some 54, .call { callee := .value (.func 17), args := #[.tmp 49, .tmp 51, .tmp 53], argTypes := #[28, 42, 42] }, 28, _, _, _⟩) rfl (fun K hK => ?_) AllReadyH.nil
          go_simp
          refine (R2.out _ hT _ _ hX2 (hX4.later hN2)).mono ?_
          rintro e x5 ⟨z5, rfl, hz1, hz2, hN5⟩
          have C7 : Hid (Calls Tryz.prog 12 #[z5.val, x.val] x5 fun e w2 => e = .returned (.bool true) ∧ Below x5.heap.size x5 w2) := SM.out z5 x5 hz1.out hz2.out (hT.trans (hN5.mono hT.size))
          go_wp2_with fail
          have hT5 := btr hT hN5
          refine hK.out _ _ (btr hHeld hN5) (fun _ => held_up (bup hHeld hN5) _ _ _ _ ?_)
          clear hK K hHeld hT
          have hT := hT5
          have hHeld := brefl x5
          clear hT5 hN5
          try simp only [Act.put, s_put, s_0, s_1]
          refine wpAnyH_ready (rs := [7]) (by kernel_rfl) (by simp) ?_
          refine AllReadyH.cons (o := ⟨some 56, .call { callee := .value (.func 12), args := #[.tmp 54, .tmp 55], argTypes := #[28, 28] }, 4, _, _, _⟩) rfl (fun K hK => ?_) AllReadyH.nil
          go_simp
          refine (C7.out).mono ?_
          rintro e x7 ⟨rfl, hN7⟩
          go_wp2_with fail
          have hT7 := btr hT hN7
          refine hK.out _ _ (btr hHeld hN7) (fun _ => held_up (bup hHeld hN7) _ _ _ _ ?_)
          clear hK K hHeld hT
          have hT := hT7
          have hHeld := brefl x7
          clear hT7 hN7
          try simp only [Act.put, s_put, s_0, s_1]
          refine wpAnyH_take (i := 8) (oi := ⟨some 57, .move (.tmp 56), 4, _, _, _⟩) (v := ?v8V2cb) rfl (by kernel_rfl) (by kernel_rfl) (by kernel_rfl) (fun _ _ _ h => h) (Or.inl ⟨by rfl, ?hy8V2cb⟩) hHeld ?rest8V2cb
          case hy8V2cb => intro w9 hSw; go_simp; (try with_reducible rfl)
          try simp only [Act.put, s_put, s_0, s_1]
          refine wpAnyH_take (i := 9) (oi := ⟨some 58, .load 28 (.tmp 9), 28, _, _, _⟩) (v := ?v9V2cb) rfl (by kernel_rfl) (by kernel_rfl) (by kernel_rfl) (fun _ _ _ h => h) (Or.inl ⟨by rfl, ?hy9V2cb⟩) hHeld ?rest9V2cb
          case hy9V2cb => intro w9 hSw; obtain ⟨⟨d0, d1, d2, d3, d4, d5⟩, d6, d7, d8, d9, d10⟩ := (PY.out.later (hT.trans (hSw.mono hT.size))).at0; go_simp; (try with_reducible rfl)
          try simp only [Act.put, s_put, s_0, s_1]
          refine wpAnyH_take (i := 12) (oi := ⟨some 61, .move (.tmp 7), 42, _, _, _⟩) (v := ?v12V2cb) rfl (by kernel_rfl) (by kernel_rfl) (by kernel_rfl) (fun _ _ _ h => h) (Or.inl ⟨by rfl, ?hy12V2cb⟩) hHeld ?rest12V2cb
          case hy12V2cb => intro w9 hSw; go_simp; (try with_reducible rfl)
          try simp only [Act.put, s_put, s_0, s_1]
          refine wpAnyH_take (i := 13) (oi := ⟨some 62, .call { callee := .builtin Builtin.len, args := #[.tmp 61], argTypes := #[42] }, 3, _, _, _⟩) (v := ?v13V2cb) rfl (by kernel_rfl) (by kernel_rfl) (by kernel_rfl) (fun _ _ _ h => h) (Or.inl ⟨by rfl, ?hy13V2cb⟩) hHeld ?rest13V2cb
          case hy13V2cb => intro w9 hSw; go_simp; (try with_reducible rfl)
          try simp only [Act.put, s_put, s_0, s_1]
          refine wpAnyH_ready (rs := [10]) (by kernel_rfl) (by simp) ?_
          refine AllReadyH.cons (o := ⟨some 59, .call { callee := .value (.func 15), args := #[.tmp 58], argTypes := #[28] }, 42, _, _, _⟩) rfl (fun K hK => ?_) AllReadyH.nil
          go_simp
          refine (V2.out _ hT).mono ?_
          rintro e x10 ⟨al2, cap2, rfl, hN10⟩
          go_wp2_with fail
          have hT10 := btr hT hN10
          refine hK.out _ _ (btr hHeld hN10) (fun _ => held_up (bup hHeld hN10) _ _ _ _ ?_)
          clear hK K hHeld hT
          have hT := hT10
          have hHeld := brefl x10
          clear hT10 hN10
          try simp only [Act.put, s_put, s_0, s_1]
          refine wpAnyH_take (i := 11) (oi := ⟨some 60, .call { callee := .builtin Builtin.len, args := #[.tmp 59], argTypes := #[42] }, 3, _, _, _⟩) (v := ?v11V2cb) rfl (by kernel_rfl) (by kernel_rfl) (by kernel_rfl) (fun _ _ _ h => h) (Or.inl ⟨by rfl, ?hy11V2cb⟩) hHeld ?rest11V2cb
          case hy11V2cb => intro w9 hSw; go_simp; (try with_reducible rfl)
          try simp only [Act.put, s_put, s_0, s_1]
          refine wpAnyH_take (i := 14) (oi := ⟨some 63, .binOp BinOp.eql 3 (.tmp 60) (.tmp 62) 3, 4, _, _, _⟩) (v := ?v14V2cb) rfl (by kernel_rfl) (by kernel_rfl) (by kernel_rfl) (fun _ _ _ h => h) (Or.inl ⟨by rfl, ?hy14V2cb⟩) hHeld ?rest14V2cb
          case hy14V2cb => intro w9 hSw; go_simp; (try with_reducible rfl)
          try simp only [Act.put, s_put, s_0, s_1]
          refine wpAnyH_take (i := 15) (oi := ⟨some 64, .pick (.tmp 57) (.tmp 63) (.const (Value.bool false)), 4, _, _, _⟩) (v := ?v15V2cb) rfl (by kernel_rfl) (by kernel_rfl) (by kernel_rfl) (fun _ _ _ h => h) (Or.inl ⟨by rfl, ?hy15V2cb⟩) hHeld ?rest15V2cb
          case hy15V2cb => intro w9 hSw; go_simp; (try with_reducible rfl)
          try simp only [Act.put, s_put, s_0, s_1]
          refine wpAnyH_take (i := 16) (oi := ⟨some 65, .move (.tmp 64), 4, _, _, _⟩) (v := ?v16V2cb) rfl (by kernel_rfl) (by kernel_rfl) (by kernel_rfl) (fun _ _ _ h => h) (Or.inl ⟨by rfl, ?hy16V2cb⟩) hHeld ?rest16V2cb
          case hy16V2cb => intro w9 hSw; go_simp; (try with_reducible rfl)
          try simp only [Act.put, s_put, s_0, s_1]
          refine wpAnyH_take (i := 17) (oi := ⟨some 66, .load 28 (.tmp 3), 28, _, _, _⟩) (v := ?v17V2cb) rfl (by kernel_rfl) (by kernel_rfl) (by kernel_rfl) (fun _ _ _ h => h) (Or.inl ⟨by rfl, ?hy17V2cb⟩) hHeld ?rest17V2cb
          case hy17V2cb => intro w9 hSw; obtain ⟨⟨d0, d1, d2, d3, d4, d5⟩, d6, d7, d8, d9, d10⟩ := (PX.out.later (hT.trans (hSw.mono hT.size))).at0; go_simp; (try with_reducible rfl)
          try simp only [Act.put, s_put, s_0, s_1]
          refine wpAnyH_ready (rs := [18]) (by kernel_rfl) (by simp) ?_
          refine AllReadyH.cons (o := ⟨some 67, .call { callee := .value (.func 10), args := #[.tmp 66], argTypes := #[28] }, 37, _, _, _⟩) rfl (fun K hK => ?_) AllReadyH.nil
          go_simp
          refine (M1.out _ hT).mono ?_
          rintro e x18 ⟨rfl, hN18⟩
          go_wp2_with fail
          have hT18 := btr hT hN18
          refine hK.out _ _ (btr hHeld hN18) (fun _ => held_up (bup hHeld hN18) _ _ _ _ ?_)
          clear hK K hHeld hT
          have hT := hT18
          have hHeld := brefl x18
          clear hT18 hN18
          try simp only [Act.put, s_put, s_0, s_1]
          refine wpAnyH_take (i := 19) (oi := ⟨some 68, .binOp BinOp.neq 37 (.tmp 67) (.const (Value.int IntKind.i64 0)) 37, 4, _, _, _⟩) (v := ?v19V2cb) rfl (by kernel_rfl) (by kernel_rfl) (by kernel_rfl) (fun _ _ _ h => h) (Or.inl ⟨by rfl, ?hy19V2cb⟩) hHeld ?rest19V2cb
          case hy19V2cb => intro w9 hSw; go_simp; (try with_reducible rfl)
          try simp only [Act.put, s_put, s_0, s_1]
          refine wpAnyH_take (i := 20) (oi := ⟨some 69, .move (.tmp 68), 4, _, _, _⟩) (v := ?v20V2cb) rfl (by kernel_rfl) (by kernel_rfl) (by kernel_rfl) (fun _ _ _ h => h) (Or.inl ⟨by rfl, ?hy20V2cb⟩) hHeld ?rest20V2cb
          case hy20V2cb => intro w9 hSw; go_simp; (try with_reducible rfl)
          try simp only [Act.put, s_put, s_0, s_1]
          refine wpAnyH_take (i := 21) (oi := ⟨some 70, .move (.tmp 10), 4, _, _, _⟩) (v := ?v21V2cb) rfl (by kernel_rfl) (by kernel_rfl) (by kernel_rfl) (fun _ _ _ h => h) (Or.inl ⟨by rfl, ?hy21V2cb⟩) hHeld ?rest21V2cb
          case hy21V2cb => intro w9 hSw; go_simp; (try with_reducible rfl)
          try simp only [Act.put, s_put, s_0, s_1]
          refine wpAnyH_take (i := 22) (oi := ⟨some 71, .unOp UnOp.not 4 (.tmp 70), 4, _, _, _⟩) (v := ?v22V2cb) rfl (by kernel_rfl) (by kernel_rfl) (by kernel_rfl) (fun _ _ _ h => h) (Or.inl ⟨by rfl, ?hy22V2cb⟩) hHeld ?rest22V2cb
          case hy22V2cb => intro w9 hSw; go_simp; (try with_reducible rfl)
          try simp only [Act.put, s_put, s_0, s_1]
          refine wpAnyH_take (i := 23) (oi := ⟨some 72, .pick (.tmp 69) (.const (Value.bool true)) (.tmp 71), 4, _, _, _⟩) (v := ?v23V2cb) rfl (by kernel_rfl) (by kernel_rfl) (by kernel_rfl) (fun _ _ _ h => h) (Or.inl ⟨by rfl, ?hy23V2cb⟩) hHeld ?rest23V2cb
          case hy23V2cb => intro w9 hSw; go_simp; (try with_reducible rfl)
          try simp only [Act.put, s_put, s_0, s_1]
          refine wpAnyH_take (i := 24) (oi := ⟨some 73, .move (.tmp 72), 4, _, _, _⟩) (v := ?v24V2cb) rfl (by kernel_rfl) (by kernel_rfl) (by kernel_rfl) (fun _ _ _ h => h) (Or.inl ⟨by rfl, ?hy24V2cb⟩) hHeld ?rest24V2cb
          case hy24V2cb => intro w9 hSw; go_simp; (try with_reducible rfl)
          try simp only [Act.put, s_put, s_0, s_1]
          refine wpAnyH_take (i := 25) (oi := ⟨some 74, .load 28 (.tmp 9), 28, _, _, _⟩) (v := undef) rfl (by kernel_rfl) (by kernel_rfl) (by kernel_rfl) (fun _ _ _ h => h) (Or.inr ⟨by rfl, rfl⟩) hHeld ?rest25V2cb
          try simp only [Act.put, s_put, s_0, s_1]
          refine wpAnyH_take (i := 26) (oi := ⟨some 75, .call { callee := .value (.func 10), args := #[.tmp 74], argTypes := #[28] }, 37, _, _, _⟩) (v := undef) rfl (by kernel_rfl) (by kernel_rfl) (by kernel_rfl) (fun _ _ _ h => h) (Or.inr ⟨by rfl, rfl⟩) hHeld ?rest26V2cb
          try simp only [Act.put, s_put, s_0, s_1]
          refine wpAnyH_take (i := 27) (oi := ⟨some 76, .binOp BinOp.eql 37 (.tmp 75) (.const (Value.int IntKind.i64 0)) 37, 4, _, _, _⟩) (v := undef) rfl (by kernel_rfl) (by kernel_rfl) (by kernel_rfl) (fun _ _ _ h => h) (Or.inr ⟨by rfl, rfl⟩) hHeld ?rest27V2cb
          try simp only [Act.put, s_put, s_0, s_1]
          refine wpAnyH_take (i := 28) (oi := ⟨some 77, .pick (.tmp 73) (.const (Value.bool true)) (.tmp 76), 4, _, _, _⟩) (v := ?v28V2cb) rfl (by kernel_rfl) (by kernel_rfl) (by kernel_rfl) (fun _ _ _ h => h) (Or.inl ⟨by rfl, ?hy28V2cb⟩) hHeld ?rest28V2cb
          case hy28V2cb => intro w9 hSw; go_simp; (try with_reducible rfl)
          try simp only [Act.put, s_put, s_0, s_1]
          refine wpAnyH_take (i := 29) (oi := ⟨some 78, .pick (.tmp 65) (.tmp 77) (.const (Value.bool false)), 4, _, _, _⟩) (v := ?v29V2cb) rfl (by kernel_rfl) (by kernel_rfl) (by kernel_rfl) (fun _ _ _ h => h) (Or.inl ⟨by rfl, ?hy29V2cb⟩) hHeld ?rest29V2cb
          case hy29V2cb => intro w9 hSw; go_simp; (try with_reducible rfl)
          try simp only [Act.put, s_put, s_0, s_1]
          refine wpAnyH_take (i := 30) (oi := ⟨some 79, .move (.tmp 78), 4, _, _, _⟩) (v := ?v30V2cb) rfl (by kernel_rfl) (by kernel_rfl) (by kernel_rfl) (fun _ _ _ h => h) (Or.inl ⟨by rfl, ?hy30V2cb⟩) hHeld ?rest30V2cb
          case hy30V2cb => intro w9 hSw; go_simp; (try with_reducible rfl)
          try simp only [Act.put, s_put, s_0, s_1]
          refine wpAnyH_ready (rs := [31]) (by kernel_rfl) (by simp) ?_
          refine AllReadyH.cons (o := ⟨some 80, .call { callee := .value (.func 6), args := #[], argTypes := #[] }, 4, _, _, _⟩) rfl (fun K hK => ?_) AllReadyH.nil
          go_simp
          refine (W1.out _).mono ?_
          rintro e x31 ⟨rfl, hN31⟩
          go_wp2_with fail
          have hT31 := btr hT hN31
          refine hK.out _ _ (btr hHeld hN31) (fun _ => held_up (bup hHeld hN31) _ _ _ _ ?_)
          clear hK K hHeld hT
          have hT := hT31
          have hHeld := brefl x31
          clear hT31 hN31
          try simp only [Act.put, s_put, s_0, s_1]
          refine wpAnyH_take (i := 32) (oi := ⟨some 81, .pick (.tmp 79) (.tmp 80) (.const (Value.bool false)), 4, _, _, _⟩) (v := ?v32V2cb) rfl (by kernel_rfl) (by kernel_rfl) (by kernel_rfl) (fun _ _ _ h => h) (Or.inl ⟨by rfl, ?hy32V2cb⟩) hHeld ?rest32V2cb
          case hy32V2cb => intro w9 hSw; go_simp; (try with_reducible rfl)
          try simp only [Act.put, s_put, s_0, s_1]
          refine wpAnyH_take (i := 33) (oi := ⟨some 6, .assign (.tmp 81), 4, _, _, _⟩) (v := ?v33V2cb) rfl (by kernel_rfl) (by kernel_rfl) (by kernel_rfl) (fun _ _ _ h => h) (Or.inl ⟨by rfl, ?hy33V2cb⟩) hHeld ?rest33V2cb
          case hy33V2cb => intro w9 hSw; go_simp; (try with_reducible rfl)
          try simp only [Act.put, s_put, s_0, s_1]
          refine wpAnyH_done (by kernel_rfl) ?_ _
          refine NoPanic.normal ?_
          go_wp2
          go_ret
          exact ⟨rfl, HB.out.trans ((HAW.out.trans (hT.mono HAW.out.size)).mono HB.out.size)⟩
end Go.Proofs.YtinnhaojmnmliaaGreat
