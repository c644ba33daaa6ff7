/-
  QueryRenamed's walk, where the query's Check is not 0.
-/
import Derived.Test.YtinnhaojmnmliaaGreatCQrySame
namespace Go.Proofs.YtinnhaojmnmliaaGreat
open Go.RowKit

set_option maxRecDepth 100000 in
set_option maxHeartbeats 60000000 in
theorem queryRenamed_nz (x : Qy) (v u : ByteArray) (w : World) (hX : IsQ w x) (hok : QOk x) (hsm : x.bulk ≤ 1048576) (zv : v.size ≤ maxLen) (zu : u.size ≤ maxLen) (hcq : ¬ chkQ x = 0) :
    Calls Tryz.prog 4 #[x.val, .string v, .string u] w fun e w' => e = .returned (.bool true) ∧ Below w.heap.size w w' := by
  obtain ⟨A, hA, hB, hs, hn⟩ := boxQ_oneR x w
  obtain ⟨⟨a0, a1, a2, a3, a4, a5⟩, a6, a7, a8, a9, a10⟩ := hn.at0
  have HB : Hid (Below w.heap.size w A) := hB
  have NX : Hid (QB A w.heap.size x) := hn
  have L1 : Hid (Calls Tryz.prog 5 #[x.val] A (SomeB A)) := lightQ_any x A (hX.later hB) hsm
  have W1 : Hid (∀ d, Calls Tryz.prog 6 #[] d fun e w' => e = .returned (.bool true) ∧ Below d.heap.size d w') := fun d => awake13_any d
  obtain ⟨L, hL⟩ : ∃ L, L = namesQ x := ⟨_, rfl⟩
  have V1 : Hid (∀ d, Below A.heap.size A d → Calls Tryz.prog 15 #[x.val] d fun e w' => ∃ al cap, e = .returned (.slice al L.length cap) ∧ Hid (Txs w' al L.length (atS L)) ∧ Below d.heap.size d w') := fun d h => by
    refine (namesQ_any x d ((hX.later hB).later h) hok hsm).mono ?_
    rintro e w' ⟨v1, rfl, hR, hB2⟩
    rw [← hL] at hR
    obtain ⟨a, cap, rfl, ht, -⟩ := own_txs hR
    exact ⟨a, cap, rfl, ht, hB2⟩
  have HU : Hid ((∀ j, j < L.length → atS L j ≠ u) → ¬ u ∈ allV x) := fun h e => by
    rw [← namesQ_mem, ← hL] at e
    obtain ⟨j, hj, e2⟩ := List.getElem_of_mem e
    refine h j hj ?_
    unfold atS
    rw [List.getD_eq_getElem?_getD, List.getElem?_eq_getElem hj]
    exact e2
  have HLN : Hid (L.length = (namesQ x).length) := by show _ = _; rw [hL]
  have hNV : L.length ≤ 9223372036854775807 := by
    have h1 : (namesQ x).length ≤ (allV x).length := by have := intoAll_len (allV x) []; simpa [namesQ] using this
    have h2 := namesP_len x.p
    have h3 := vars_len x.x
    unfold Qy.bulk at hsm
    rw [hL]
    rw [allV, List.length_append, List.length_append, lstS_len] at h1
    omega
  have HX0 : Hid (IsQ A x) := hX.later hB
  have HO : Hid (QOk x) := hok
  have HM : Hid (x.bulk ≤ 1048576) := hsm
  have HZ : Hid (v.size ≤ maxLen ∧ u.size ≤ maxLen) := ⟨zv, zu⟩
  have HCQ : Hid (¬ chkQ x = 0) := hcq
  clear hB hn hX hL hsm hok zv zu hcq
  go_enter Tryz.func4, Tryz.ntmps4
  go_upto_region 1 with fail
  clear hA
  go_wp2_with (first
    | (go_at_call 5; refine L1.out.mono ?_; clear L1; rintro e w1 ⟨b, rfl, hB1⟩; obtain ⟨⟨b0, b1, b2, b3, b4, b5⟩, b6, b7, b8, b9, b10⟩ := (NX.out.later hB1).at0; cases b)
    | (go_at_call 6; refine (W1.out _).mono ?_; clear W1; rintro e w2 ⟨rfl, hB2⟩)
    | (go_at_call 15; refine (V1.out _ hB1).mono ?_; clear V1; rintro e w2 ⟨al, capl, rfl, hx, hB2⟩))
  · go_ret
    exact ⟨rfl, HB.out.trans ((hB1.trans (hB2.mono hB1.size)).mono (by omega))⟩
  have HA2 : Hid (Below A.heap.size A w2) := hB1.trans (hB2.mono hB1.size)
  clear hB1 hB2 b0 b1 b2 b3 b4 b5 b6 b7 b8 b9 b10 a0 a1 a2 a3 a4 a5 a6 a7 a8 a9 a10
  go_loopw [8] (fun i wr => ∃ k : Nat, k ≤ L.length ∧ i = .int .i64 k ∧ Hid (∀ j, j < k → atS L j ≠ u) ∧ wr = w2) (fun i _ => L.length - (intOf i).toNat)
  case atStart => exact ⟨0, Nat.zero_le _, rfl, fun j hj => absurd hj (Nat.not_lt_zero _), rfl⟩
  case round =>
    obtain ⟨k, hk, rfl, HJ, hwr⟩ := hrel
    subst hwr
    by_cases hlt : k < L.length
    · have HLT : Hid (k < L.length) := hlt
      obtain ⟨b, o, rfl, hc⟩ := hx.out (by omega)
      have ck := hc k hlt
      clear hc
      by_cases e : atS L k = u
      · have he := str_yes e
        clear e
        go_wp2_with (go_at_call 6; refine (W1.out _).mono ?_; clear W1; rintro e w4 ⟨rfl, hB4⟩)
        go_ret
        exact ⟨rfl, HB.out.trans ((HA2.out.trans (hB4.mono HA2.out.size)).mono (by omega))⟩
      · have he := str_not e
        have HJ2 : Hid (∀ j, j < k + 1 → atS L j ≠ u) := fun j hj => by
          by_cases q : j = k
          · rw [q]; exact e
          · exact HJ.out j (by omega)
        clear e
        go_wp2
        go_roundw
        case rel => exact ⟨k + 1, HLT.out, by go_num, HJ2, trivial⟩
        case measure => have := HLT.out; simp [intOf]; omega
    · obtain rfl : k = L.length := by omega
      have HUU : Hid (¬ u ∈ allV x) := HU.out HJ.out
      clear HU HJ hlt hk
      obtain ⟨⟨c0, c1, c2, c3, c4, c5⟩, c6, c7, c8, c9, c10⟩ := (NX.out.later HA2.out).at0
      have hbv : Below wr.heap.size wr ((wr.alloc (.cells #[.string v] 9)).alloc (.cells #[.string u] 9)) := ((Below.refl _ _).alloc (Nat.le_refl _) _).alloc (by simp) _
      have R1 := rename_oneQ x v u _ ((HX0.out.later HA2.out).later hbv) HO.out HM.out HZ.out.1 _ _ ((txs_new wr v).later ((Below.refl _ _).alloc (Nat.le_refl _) (.cells #[.string u] 9))) (txs_new (wr.alloc (.cells #[.string v] 9)) u)
      rw [World.size_alloc] at R1
      go_upto_region 10 with (first
        | (go_at_call 17; refine R1.mono ?_; clear R1; rintro e w3 ⟨y, rfl, hy1, hy2, hB3⟩))
      have hW0 : ∃ W, w3.alloc (.cells y.cells 28) = W := ⟨_, rfl⟩
      obtain ⟨W, hW⟩ := hW0
      have hW' := hW
      unfold Qy.cells at hW'
      rw [hW']
      have hBW : Below w3.heap.size w3 W := by rw [← hW]; exact (Below.refl _ _).alloc (Nat.le_refl _) _
      have hwr3 : Below wr.heap.size wr w3 := hbv.trans (hB3.mono hbv.size)
      have hwrW : Below wr.heap.size wr W := hwr3.trans (hBW.mono hwr3.size)
      have HAW : Hid (Below A.heap.size A W) := HA2.out.trans (hwrW.mono HA2.out.size)
      have PX : Hid (QB W w.heap.size x) := NX.out.later HAW.out
      have PY : Hid (QB W w3.heap.size y) := by rw [← hW]; exact QB.new w3 y
      have HXW : Hid (IsQ W x) := HX0.out.later HAW.out
      have HYW : Hid (IsQ W y) := hy2.out.later hBW
      have HYO : Hid (QOk y) := rn_ok hy1.out HZ.out.2 HO.out
      have HYM : Hid (y.bulk ≤ 1048576) := by show y.bulk ≤ 1048576; rw [rn_bulk hy1.out]; exact HM.out
      have HLY : Hid ((namesQ y).length = L.length) := by show _ = _; rw [HLN.out]; exact rn_len hy1.out HUU.out
      have R2 : Hid (∀ d, Below W.heap.size W d → ∀ a b, Txs d a 1 (fun _ => u) → Txs d b 1 (fun _ => v) → Calls Tryz.prog 17 #[y.val, .slice a 1 1, .slice b 1 1] d fun e w' => ∃ z : Qy, e = .returned z.val ∧ Hid (RnQ (one u v) y z) ∧ Hid (IsQ w' z) ∧ Below d.heap.size d w') := fun d h a b h1 h2 => rename_oneQ y u v d (HYW.out.later h) HYO.out HYM.out HZ.out.2 a b h1 h2
      have SM : Hid (∀ (z : Qy) (d : World), RnQ (one u v) y z → IsQ d z → Below W.heap.size W d → Calls Tryz.prog 12 #[z.val, x.val] d fun e w' => e = .returned (.bool true) ∧ Below d.heap.size d w') := fun z d h1 h2 h3 => by
        have := sameQ_any z x d h2 (HXW.out.later h3)
        rw [rn_back hy1.out HUU.out h1] at this
        exact this
      have V2 : Hid (∀ d, Below W.heap.size W d → Calls Tryz.prog 15 #[y.val] d fun e w' => ∃ al cap, e = .returned (.slice al L.length cap) ∧ Below d.heap.size d w') := fun d h => by
        refine (namesQ_any y d (HYW.out.later h) HYO.out HYM.out).mono ?_
        rintro e w' ⟨v1, rfl, hR, hB2⟩
        rw [HLY.out] at hR
        obtain ⟨a, cap, rfl, -⟩ := own_txs hR
        exact ⟨a, cap, rfl, hB2⟩
      obtain ⟨cz, hcz⟩ : ∃ cz, cz = chkQ x := ⟨_, rfl⟩
      have M1 : Hid (∀ d, Below W.heap.size W d → Calls Tryz.prog 10 #[x.val] d fun e w' => e = .returned (.int .i64 cz) ∧ Below d.heap.size d w') := fun d h => by
        rw [hcz]
        exact checkQ_any x d (HXW.out.later h) HO.out HM.out
      have M2' : Hid (nameB u = true → cz = 0 → ∀ d, Below W.heap.size W d → Calls Tryz.prog 10 #[y.val] d fun e w' => e = .returned (.int .i64 0) ∧ Below d.heap.size d w') := fun h1 h2 d h => by
        have := checkQ_any y d (HYW.out.later h) HYO.out HYM.out
        rw [rn_chk hy1.out h1 (hcz ▸ h2)] at this
        exact this
      have hks : u.size ≤ 9223372036854775807 := by have := HZ.out.2; unfold maxLen at this; omega
      have hix : ∀ d, u.size = 1 → (Instr.index 9 (.string u) (.int .i64 0)).run Tryz.prog d = .ok (.int .u8 (byteAt u 0)) d := fun d h => by simpa using at_str u 0 (by omega) d
      clear hW hW' hBW hwr3 hwrW hB3 hbv hy1 hy2 c0 c1 c2 c3 c4 c5 c6 c7 c8 c9 c10 NX HX0 HA2 HXW HYW HLY hx
      have hc0 : ¬ cz = 0 := by rw [hcz]; exact HCQ.out
      clear hcz
      have tz : (cz != 0) = true := by simp [hc0]
      clear hc0 M2'
      by_cases h1 : u.size = 1
      · have t1 : (((u.size : Nat) : Int) == 1) = true := by simp [h1]
        have hix' := fun d => hix d h1
        clear hix
        by_cases h2 : 97 ≤ byteAt u 0
        · by_cases h3 : byteAt u 0 ≤ 122
          · clear h1
            go_upto_region 11 with fail
            refine wp_region_noPanic ?_
            refine wp_region_held_drew (S := fun w' => Below W.heap.size W w') (by kernel_rfl) ((Below.refl _ _).drew) (fun hHeld => ?_)
            have hT : Below W.heap.size W W.drew := hHeld
            obtain ⟨d, hdw⟩ : ∃ d, d = W.drew := ⟨_, rfl⟩
            rw [← hdw] at hHeld hT ⊢
            clear hdw
            refine wpAnyH_take (i := 0) (oi := ⟨some 49, .load 28 (.tmp 9), 28, _, _, _⟩) (v := ?v0V1a) rfl (by kernel_rfl) (by kernel_rfl) (by kernel_rfl) (fun _ _ _ h => h) (Or.inl ⟨by rfl, ?hy0V1a⟩) hHeld ?rest0V1a
            case hy0V1a => intro w9 hSw; obtain ⟨⟨d0, d1, d2, d3, d4, d5⟩, d6, d7, d8, d9, d10⟩ := (PY.out.later hSw).at0; go_simp; (try with_reducible rfl)
            try simp only [Act.put, s_put, s_0, s_1]
            refine wpAnyH_take (i := 1) (oi := ⟨some 50, .move (.tmp 2), 9, _, _, _⟩) (v := ?v1V1a) rfl (by kernel_rfl) (by kernel_rfl) (by kernel_rfl) (fun _ _ _ h => h) (Or.inl ⟨by rfl, ?hy1V1a⟩) hHeld ?rest1V1a
            case hy1V1a => intro w9 hSw; go_simp; (try with_reducible rfl)
            try simp only [Act.put, s_put, s_0, s_1]
            refine wpAnyH_take (i := 3) (oi := ⟨some 52, .move (.tmp 1), 9, _, _, _⟩) (v := ?v3V1a) rfl (by kernel_rfl) (by kernel_rfl) (by kernel_rfl) (fun _ _ _ h => h) (Or.inl ⟨by rfl, ?hy3V1a⟩) hHeld ?rest3V1a
            case hy3V1a => intro w9 hSw; go_simp; (try with_reducible rfl)
            try simp only [Act.put, s_put, s_0, s_1]
            refine wpAnyH_take (i := 6) (oi := ⟨some 55, .load 28 (.tmp 3), 28, _, _, _⟩) (v := ?v6V1a) rfl (by kernel_rfl) (by kernel_rfl) (by kernel_rfl) (fun _ _ _ h => h) (Or.inl ⟨by rfl, ?hy6V1a⟩) hHeld ?rest6V1a
            case hy6V1a => intro w9 hSw; obtain ⟨⟨d0, d1, d2, d3, d4, d5⟩, d6, d7, d8, d9, d10⟩ := (PX.out.later hSw).at0; go_simp; (try with_reducible rfl)
            try simp only [Act.put, s_put, s_0, s_1]
            refine wpAnyH_ready (rs := [2, 4]) (by kernel_rfl) (by simp) ?_
            refine AllReadyH.cons (o := ⟨some 51, .buildSlice 42 1 #[(0, .tmp 50)], 42, _, _, _⟩) rfl (fun K hK => ?_) (AllReadyH.cons (o := ⟨some 53, .buildSlice 42 1 #[(0, .tmp 52)], 42, _, _, _⟩) rfl (fun K hK => ?_) AllReadyH.nil)
            · go_simp
              obtain ⟨x2, hx2⟩ : ∃ x, d.alloc (.cells #[.string u] 9) = x := ⟨_, rfl⟩
              rw [hx2]
              have hN2 : Below d.heap.size d x2 := by rw [← hx2]; exact (Below.refl _ _).alloc (Nat.le_refl _) _
              have hX2 : Txs x2 (some ⟨d.heap.size, 0, none⟩) 1 (fun _ => u) := by rw [← hx2]; exact txs_new _ _
              clear hx2
              have hT2 := btr hT hN2
              refine hK.out _ _ (btr hHeld hN2) (fun _ => held_up (bup hHeld hN2) _ _ _ _ ?_)
              clear hK K hHeld hT
              have hT := hT2
              have hHeld := brefl x2
              clear hT2
              try simp only [Act.put, s_put, s_0, s_1]
              refine wpAnyH_ready (rs := [4]) (by kernel_rfl) (by simp) ?_
              refine AllReadyH.cons (o := ⟨some 53, .buildSlice 42 1 #[(0, .tmp 52)], 42, _, _, _⟩) rfl (fun K hK => ?_) AllReadyH.nil
              go_simp
              obtain ⟨x4, hx4⟩ : ∃ x, x2.alloc (.cells #[.string v] 9) = x := ⟨_, rfl⟩
              rw [hx4]
              have hN4 : Below x2.heap.size x2 x4 := by rw [← hx4]; exact (Below.refl _ _).alloc (Nat.le_refl _) _
              have hX4 : Txs x4 (some ⟨x2.heap.size, 0, none⟩) 1 (fun _ => v) := by rw [← hx4]; exact txs_new _ _
              clear hx4
              have hT4 := btr hT hN4
              refine hK.out _ _ (btr hHeld hN4) (fun _ => held_up (bup hHeld hN4) _ _ _ _ ?_)
              clear hK K hHeld hT
              have hT := hT4
              have hHeld := brefl x4
              clear hT4
              try simp only [Act.put, s_put, s_0, s_1]
              refine wpAnyH_ready (rs := [5]) (by kernel_rfl) (by simp) ?_
              refine AllReadyH.cons (o := ⟨some 54, .call { callee := .value (.func 17), args := #[.tmp 49, .tmp 51, .tmp 53], argTypes := #[28, 42, 42] }, 28, _, _, _⟩) rfl (fun K hK => ?_) AllReadyH.nil
              go_simp
              refine (R2.out _ hT _ _ (hX2.later hN4) hX4).mono ?_
              rintro e x5 ⟨z5, rfl, hz1, hz2, hN5⟩
              have C7 : Hid (Calls Tryz.prog 12 #[z5.val, x.val] x5 fun e w2 => e = .returned (.bool true) ∧ Below x5.heap.size x5 w2) := SM.out z5 x5 hz1.out hz2.out (hT.trans (hN5.mono hT.size))
              go_wp2_with fail
              have hT5 := btr hT hN5
              refine hK.out _ _ (btr hHeld hN5) (fun _ => held_up (bup hHeld hN5) _ _ _ _ ?_)
              clear hK K hHeld hT
              have hT := hT5
              have hHeld := brefl x5
              clear hT5 hN5
              try simp only [Act.put, s_put, s_0, s_1]
              refine wpAnyH_ready (rs := [7]) (by kernel_rfl) (by simp) ?_
              refine AllReadyH.cons (o := ⟨some 56, .call { callee := .value (.func 12), args := #[.tmp 54, .tmp 55], argTypes := #[28, 28] }, 4, _, _, _⟩) rfl (fun K hK => ?_) AllReadyH.nil
              go_simp
              refine (C7.out).mono ?_
              rintro e x7 ⟨rfl, hN7⟩
              go_wp2_with fail
              have hT7 := btr hT hN7
              refine hK.out _ _ (btr hHeld hN7) (fun _ => held_up (bup hHeld hN7) _ _ _ _ ?_)
              clear hK K hHeld hT
              have hT := hT7
              have hHeld := brefl x7
              clear hT7 hN7
              try simp only [Act.put, s_put, s_0, s_1]
              refine wpAnyH_take (i := 8) (oi := ⟨some 57, .move (.tmp 56), 4, _, _, _⟩) (v := ?v8V1aa) rfl (by kernel_rfl) (by kernel_rfl) (by kernel_rfl) (fun _ _ _ h => h) (Or.inl ⟨by rfl, ?hy8V1aa⟩) hHeld ?rest8V1aa
              case hy8V1aa => intro w9 hSw; go_simp; (try with_reducible rfl)
              try simp only [Act.put, s_put, s_0, s_1]
              refine wpAnyH_take (i := 9) (oi := ⟨some 58, .load 28 (.tmp 9), 28, _, _, _⟩) (v := ?v9V1aa) rfl (by kernel_rfl) (by kernel_rfl) (by kernel_rfl) (fun _ _ _ h => h) (Or.inl ⟨by rfl, ?hy9V1aa⟩) hHeld ?rest9V1aa
              case hy9V1aa => intro w9 hSw; obtain ⟨⟨d0, d1, d2, d3, d4, d5⟩, d6, d7, d8, d9, d10⟩ := (PY.out.later (hT.trans (hSw.mono hT.size))).at0; go_simp; (try with_reducible rfl)
              try simp only [Act.put, s_put, s_0, s_1]
              refine wpAnyH_take (i := 12) (oi := ⟨some 61, .move (.tmp 7), 42, _, _, _⟩) (v := ?v12V1aa) rfl (by kernel_rfl) (by kernel_rfl) (by kernel_rfl) (fun _ _ _ h => h) (Or.inl ⟨by rfl, ?hy12V1aa⟩) hHeld ?rest12V1aa
              case hy12V1aa => intro w9 hSw; go_simp; (try with_reducible rfl)
              try simp only [Act.put, s_put, s_0, s_1]
              refine wpAnyH_take (i := 13) (oi := ⟨some 62, .call { callee := .builtin Builtin.len, args := #[.tmp 61], argTypes := #[42] }, 3, _, _, _⟩) (v := ?v13V1aa) rfl (by kernel_rfl) (by kernel_rfl) (by kernel_rfl) (fun _ _ _ h => h) (Or.inl ⟨by rfl, ?hy13V1aa⟩) hHeld ?rest13V1aa
              case hy13V1aa => intro w9 hSw; go_simp; (try with_reducible rfl)
              try simp only [Act.put, s_put, s_0, s_1]
              refine wpAnyH_ready (rs := [10]) (by kernel_rfl) (by simp) ?_
              refine AllReadyH.cons (o := ⟨some 59, .call { callee := .value (.func 15), args := #[.tmp 58], argTypes := #[28] }, 42, _, _, _⟩) rfl (fun K hK => ?_) AllReadyH.nil
              go_simp
              refine (V2.out _ hT).mono ?_
              rintro e x10 ⟨al2, cap2, rfl, hN10⟩
              go_wp2_with fail
              have hT10 := btr hT hN10
              refine hK.out _ _ (btr hHeld hN10) (fun _ => held_up (bup hHeld hN10) _ _ _ _ ?_)
              clear hK K hHeld hT
              have hT := hT10
              have hHeld := brefl x10
              clear hT10 hN10
              try simp only [Act.put, s_put, s_0, s_1]
              refine wpAnyH_take (i := 11) (oi := ⟨some 60, .call { callee := .builtin Builtin.len, args := #[.tmp 59], argTypes := #[42] }, 3, _, _, _⟩) (v := ?v11V1aa) rfl (by kernel_rfl) (by kernel_rfl) (by kernel_rfl) (fun _ _ _ h => h) (Or.inl ⟨by rfl, ?hy11V1aa⟩) hHeld ?rest11V1aa
              case hy11V1aa => intro w9 hSw; go_simp; (try with_reducible rfl)
              try simp only [Act.put, s_put, s_0, s_1]
              refine wpAnyH_take (i := 14) (oi := ⟨some 63, .binOp BinOp.eql 3 (.tmp 60) (.tmp 62) 3, 4, _, _, _⟩) (v := ?v14V1aa) rfl (by kernel_rfl) (by kernel_rfl) (by kernel_rfl) (fun _ _ _ h => h) (Or.inl ⟨by rfl, ?hy14V1aa⟩) hHeld ?rest14V1aa
              case hy14V1aa => intro w9 hSw; go_simp; (try with_reducible rfl)
              try simp only [Act.put, s_put, s_0, s_1]
              refine wpAnyH_take (i := 15) (oi := ⟨some 64, .pick (.tmp 57) (.tmp 63) (.const (Value.bool false)), 4, _, _, _⟩) (v := ?v15V1aa) rfl (by kernel_rfl) (by kernel_rfl) (by kernel_rfl) (fun _ _ _ h => h) (Or.inl ⟨by rfl, ?hy15V1aa⟩) hHeld ?rest15V1aa
              case hy15V1aa => intro w9 hSw; go_simp; (try with_reducible rfl)
              try simp only [Act.put, s_put, s_0, s_1]
              refine wpAnyH_take (i := 16) (oi := ⟨some 65, .move (.tmp 64), 4, _, _, _⟩) (v := ?v16V1aa) rfl (by kernel_rfl) (by kernel_rfl) (by kernel_rfl) (fun _ _ _ h => h) (Or.inl ⟨by rfl, ?hy16V1aa⟩) hHeld ?rest16V1aa
              case hy16V1aa => intro w9 hSw; go_simp; (try with_reducible rfl)
              try simp only [Act.put, s_put, s_0, s_1]
              refine wpAnyH_take (i := 17) (oi := ⟨some 66, .load 28 (.tmp 3), 28, _, _, _⟩) (v := ?v17V1aa) rfl (by kernel_rfl) (by kernel_rfl) (by kernel_rfl) (fun _ _ _ h => h) (Or.inl ⟨by rfl, ?hy17V1aa⟩) hHeld ?rest17V1aa
              case hy17V1aa => intro w9 hSw; obtain ⟨⟨d0, d1, d2, d3, d4, d5⟩, d6, d7, d8, d9, d10⟩ := (PX.out.later (hT.trans (hSw.mono hT.size))).at0; go_simp; (try with_reducible rfl)
              try simp only [Act.put, s_put, s_0, s_1]
              refine wpAnyH_ready (rs := [18]) (by kernel_rfl) (by simp) ?_
              refine AllReadyH.cons (o := ⟨some 67, .call { callee := .value (.func 10), args := #[.tmp 66], argTypes := #[28] }, 37, _, _, _⟩) rfl (fun K hK => ?_) AllReadyH.nil
              go_simp
              refine (M1.out _ hT).mono ?_
              rintro e x18 ⟨rfl, hN18⟩
              go_wp2_with fail
              have hT18 := btr hT hN18
              refine hK.out _ _ (btr hHeld hN18) (fun _ => held_up (bup hHeld hN18) _ _ _ _ ?_)
              clear hK K hHeld hT
              have hT := hT18
              have hHeld := brefl x18
              clear hT18 hN18
              try simp only [Act.put, s_put, s_0, s_1]
              refine wpAnyH_take (i := 19) (oi := ⟨some 68, .binOp BinOp.neq 37 (.tmp 67) (.const (Value.int IntKind.i64 0)) 37, 4, _, _, _⟩) (v := ?v19V1aa) rfl (by kernel_rfl) (by kernel_rfl) (by kernel_rfl) (fun _ _ _ h => h) (Or.inl ⟨by rfl, ?hy19V1aa⟩) hHeld ?rest19V1aa
              case hy19V1aa => intro w9 hSw; go_simp; (try with_reducible rfl)
              try simp only [Act.put, s_put, s_0, s_1]
              refine wpAnyH_take (i := 20) (oi := ⟨some 69, .move (.tmp 68), 4, _, _, _⟩) (v := ?v20V1aa) rfl (by kernel_rfl) (by kernel_rfl) (by kernel_rfl) (fun _ _ _ h => h) (Or.inl ⟨by rfl, ?hy20V1aa⟩) hHeld ?rest20V1aa
              case hy20V1aa => intro w9 hSw; go_simp; (try with_reducible rfl)
              try simp only [Act.put, s_put, s_0, s_1]
              refine wpAnyH_take (i := 21) (oi := ⟨some 70, .move (.tmp 10), 4, _, _, _⟩) (v := undef) rfl (by kernel_rfl) (by kernel_rfl) (by kernel_rfl) (fun _ _ _ h => h) (Or.inr ⟨by rfl, rfl⟩) hHeld ?rest21V1aa
              try simp only [Act.put, s_put, s_0, s_1]
              refine wpAnyH_take (i := 22) (oi := ⟨some 71, .unOp UnOp.not 4 (.tmp 70), 4, _, _, _⟩) (v := undef) rfl (by kernel_rfl) (by kernel_rfl) (by kernel_rfl) (fun _ _ _ h => h) (Or.inr ⟨by rfl, rfl⟩) hHeld ?rest22V1aa
              try simp only [Act.put, s_put, s_0, s_1]
              refine wpAnyH_take (i := 23) (oi := ⟨some 72, .pick (.tmp 69) (.const (Value.bool true)) (.tmp 71), 4, _, _, _⟩) (v := ?v23V1aa) rfl (by kernel_rfl) (by kernel_rfl) (by kernel_rfl) (fun _ _ _ h => h) (Or.inl ⟨by rfl, ?hy23V1aa⟩) hHeld ?rest23V1aa
              case hy23V1aa => intro w9 hSw; go_simp; (try with_reducible rfl)
              try simp only [Act.put, s_put, s_0, s_1]
              refine wpAnyH_take (i := 24) (oi := ⟨some 73, .move (.tmp 72), 4, _, _, _⟩) (v := ?v24V1aa) rfl (by kernel_rfl) (by kernel_rfl) (by kernel_rfl) (fun _ _ _ h => h) (Or.inl ⟨by rfl, ?hy24V1aa⟩) hHeld ?rest24V1aa
              case hy24V1aa => intro w9 hSw; go_simp; (try with_reducible rfl)
              try simp only [Act.put, s_put, s_0, s_1]
              refine wpAnyH_take (i := 25) (oi := ⟨some 74, .load 28 (.tmp 9), 28, _, _, _⟩) (v := undef) rfl (by kernel_rfl) (by kernel_rfl) (by kernel_rfl) (fun _ _ _ h => h) (Or.inr ⟨by rfl, rfl⟩) hHeld ?rest25V1aa
              try simp only [Act.put, s_put, s_0, s_1]
              refine wpAnyH_take (i := 26) (oi := ⟨some 75, .call { callee := .value (.func 10), args := #[.tmp 74], argTypes := #[28] }, 37, _, _, _⟩) (v := undef) rfl (by kernel_rfl) (by kernel_rfl) (by kernel_rfl) (fun _ _ _ h => h) (Or.inr ⟨by rfl, rfl⟩) hHeld ?rest26V1aa
              try simp only [Act.put, s_put, s_0, s_1]
              refine wpAnyH_take (i := 27) (oi := ⟨some 76, .binOp BinOp.eql 37 (.tmp 75) (.const (Value.int IntKind.i64 0)) 37, 4, _, _, _⟩) (v := undef) rfl (by kernel_rfl) (by kernel_rfl) (by kernel_rfl) (fun _ _ _ h => h) (Or.inr ⟨by rfl, rfl⟩) hHeld ?rest27V1aa
              try simp only [Act.put, s_put, s_0, s_1]
              refine wpAnyH_take (i := 28) (oi := ⟨some 77, .pick (.tmp 73) (.const (Value.bool true)) (.tmp 76), 4, _, _, _⟩) (v := ?v28V1aa) rfl (by kernel_rfl) (by kernel_rfl) (by kernel_rfl) (fun _ _ _ h => h) (Or.inl ⟨by rfl, ?hy28V1aa⟩) hHeld ?rest28V1aa
              case hy28V1aa => intro w9 hSw; go_simp; (try with_reducible rfl)
              try simp only [Act.put, s_put, s_0, s_1]
              refine wpAnyH_take (i := 29) (oi := ⟨some 78, .pick (.tmp 65) (.tmp 77) (.const (Value.bool false)), 4, _, _, _⟩) (v := ?v29V1aa) rfl (by kernel_rfl) (by kernel_rfl) (by kernel_rfl) (fun _ _ _ h => h) (Or.inl ⟨by rfl, ?hy29V1aa⟩) hHeld ?rest29V1aa
              case hy29V1aa => intro w9 hSw; go_simp; (try with_reducible rfl)
              try simp only [Act.put, s_put, s_0, s_1]
              refine wpAnyH_take (i := 30) (oi := ⟨some 79, .move (.tmp 78), 4, _, _, _⟩) (v := ?v30V1aa) rfl (by kernel_rfl) (by kernel_rfl) (by kernel_rfl) (fun _ _ _ h => h) (Or.inl ⟨by rfl, ?hy30V1aa⟩) hHeld ?rest30V1aa
              case hy30V1aa => intro w9 hSw; go_simp; (try with_reducible rfl)
              try simp only [Act.put, s_put, s_0, s_1]
              refine wpAnyH_ready (rs := [31]) (by kernel_rfl) (by simp) ?_
              refine AllReadyH.cons (o := ⟨some 80, .call { callee := .value (.func 6), args := #[], argTypes := #[] }, 4, _, _, _⟩) rfl (fun K hK => ?_) AllReadyH.nil
              go_simp
              refine (W1.out _).mono ?_
              rintro e x31 ⟨rfl, hN31⟩
              go_wp2_with fail
              have hT31 := btr hT hN31
              refine hK.out _ _ (btr hHeld hN31) (fun _ => held_up (bup hHeld hN31) _ _ _ _ ?_)
              clear hK K hHeld hT
              have hT := hT31
              have hHeld := brefl x31
              clear hT31 hN31
              try simp only [Act.put, s_put, s_0, s_1]
              refine wpAnyH_take (i := 32) (oi := ⟨some 81, .pick (.tmp 79) (.tmp 80) (.const (Value.bool false)), 4, _, _, _⟩) (v := ?v32V1aa) rfl (by kernel_rfl) (by kernel_rfl) (by kernel_rfl) (fun _ _ _ h => h) (Or.inl ⟨by rfl, ?hy32V1aa⟩) hHeld ?rest32V1aa
              case hy32V1aa => intro w9 hSw; go_simp; (try with_reducible rfl)
              try simp only [Act.put, s_put, s_0, s_1]
              refine wpAnyH_take (i := 33) (oi := ⟨some 6, .assign (.tmp 81), 4, _, _, _⟩) (v := ?v33V1aa) rfl (by kernel_rfl) (by kernel_rfl) (by kernel_rfl) (fun _ _ _ h => h) (Or.inl ⟨by rfl, ?hy33V1aa⟩) hHeld ?rest33V1aa
              case hy33V1aa => intro w9 hSw; go_simp; (try with_reducible rfl)
              try simp only [Act.put, s_put, s_0, s_1]
              refine wpAnyH_done (by kernel_rfl) ?_ _
              refine NoPanic.normal ?_
              go_wp2
              go_ret
              exact ⟨rfl, HB.out.trans ((HAW.out.trans (hT.mono HAW.out.size)).mono HB.out.size)⟩
            · go_simp
              obtain ⟨x4, hx4⟩ : ∃ x, d.alloc (.cells #[.string v] 9) = x := ⟨_, rfl⟩
              rw [hx4]
              have hN4 : Below d.heap.size d x4 := by rw [← hx4]; exact (Below.refl _ _).alloc (Nat.le_refl _) _
              have hX4 : Txs x4 (some ⟨d.heap.size, 0, none⟩) 1 (fun _ => v) := by rw [← hx4]; exact txs_new _ _
              clear hx4
              have hT4 := btr hT hN4
              refine hK.out _ _ (btr hHeld hN4) (fun _ => held_up (bup hHeld hN4) _ _ _ _ ?_)
              clear hK K hHeld hT
              have hT := hT4
              have hHeld := brefl x4
              clear hT4
              try simp only [Act.put, s_put, s_0, s_1]
              refine wpAnyH_ready (rs := [2]) (by kernel_rfl) (by simp) ?_
              refine AllReadyH.cons (o := ⟨some 51, .buildSlice 42 1 #[(0, .tmp 50)], 42, _, _, _⟩) rfl (fun K hK => ?_) AllReadyH.nil
              go_simp
              obtain ⟨x2, hx2⟩ : ∃ x, x4.alloc (.cells #[.string u] 9) = x := ⟨_, rfl⟩
              rw [hx2]
              have hN2 : Below x4.heap.size x4 x2 := by rw [← hx2]; exact (Below.refl _ _).alloc (Nat.le_refl _) _
              have hX2 : Txs x2 (some ⟨x4.heap.size, 0, none⟩) 1 (fun _ => u) := by rw [← hx2]; exact txs_new _ _
              clear hx2
              have hT2 := btr hT hN2
              refine hK.out _ _ (btr hHeld hN2) (fun _ => held_up (bup hHeld hN2) _ _ _ _ ?_)
              clear hK K hHeld hT
              have hT := hT2
              have hHeld := brefl x2
              clear hT2
              try simp only [Act.put, s_put, s_0, s_1]
              refine wpAnyH_ready (rs := [5]) (by kernel_rfl) (by simp) ?_
              refine AllReadyH.cons (o := ⟨some 54, .call { callee := .value (.func 17), args := #[.tmp 49, .tmp 51, .tmp 53], argTypes := #[28, 42, 42] }, 28, _, _, _⟩) rfl (fun K hK => ?_) AllReadyH.nil
              go_simp
              refine (R2.out _ hT _ _ hX2 (hX4.later hN2)).mono ?_
              rintro e x5 ⟨z5, rfl, hz1, hz2, hN5⟩
              have C7 : Hid (Calls Tryz.prog 12 #[z5.val, x.val] x5 fun e w2 => e = .returned (.bool true) ∧ Below x5.heap.size x5 w2) := SM.out z5 x5 hz1.out hz2.out (hT.trans (hN5.mono hT.size))
              go_wp2_with fail
              have hT5 := btr hT hN5
              refine hK.out _ _ (btr hHeld hN5) (fun _ => held_up (bup hHeld hN5) _ _ _ _ ?_)
              clear hK K hHeld hT
              have hT := hT5
              have hHeld := brefl x5
              clear hT5 hN5
              try simp only [Act.put, s_put, s_0, s_1]
              refine wpAnyH_ready (rs := [7]) (by kernel_rfl) (by simp) ?_
              refine AllReadyH.cons (o := ⟨some 56, .call { callee := .value (.func 12), args := #[.tmp 54, .tmp 55], argTypes := #[28, 28] }, 4, _, _, _⟩) rfl (fun K hK => ?_) AllReadyH.nil
              go_simp
              refine (C7.out).mono ?_
              rintro e x7 ⟨rfl, hN7⟩
              go_wp2_with fail
              have hT7 := btr hT hN7
              refine hK.out _ _ (btr hHeld hN7) (fun _ => held_up (bup hHeld hN7) _ _ _ _ ?_)
              clear hK K hHeld hT
              have hT := hT7
              have hHeld := brefl x7
              clear hT7 hN7
              try simp only [Act.put, s_put, s_0, s_1]
              refine wpAnyH_take (i := 8) (oi := ⟨some 57, .move (.tmp 56), 4, _, _, _⟩) (v := ?v8V1ab) rfl (by kernel_rfl) (by kernel_rfl) (by kernel_rfl) (fun _ _ _ h => h) (Or.inl ⟨by rfl, ?hy8V1ab⟩) hHeld ?rest8V1ab
              case hy8V1ab => intro w9 hSw; go_simp; (try with_reducible rfl)
              try simp only [Act.put, s_put, s_0, s_1]
              refine wpAnyH_take (i := 9) (oi := ⟨some 58, .load 28 (.tmp 9), 28, _, _, _⟩) (v := ?v9V1ab) rfl (by kernel_rfl) (by kernel_rfl) (by kernel_rfl) (fun _ _ _ h => h) (Or.inl ⟨by rfl, ?hy9V1ab⟩) hHeld ?rest9V1ab
              case hy9V1ab => intro w9 hSw; obtain ⟨⟨d0, d1, d2, d3, d4, d5⟩, d6, d7, d8, d9, d10⟩ := (PY.out.later (hT.trans (hSw.mono hT.size))).at0; go_simp; (try with_reducible rfl)
              try simp only [Act.put, s_put, s_0, s_1]
              refine wpAnyH_take (i := 12) (oi := ⟨some 61, .move (.tmp 7), 42, _, _, _⟩) (v := ?v12V1ab) rfl (by kernel_rfl) (by kernel_rfl) (by kernel_rfl) (fun _ _ _ h => h) (Or.inl ⟨by rfl, ?hy12V1ab⟩) hHeld ?rest12V1ab
              case hy12V1ab => intro w9 hSw; go_simp; (try with_reducible rfl)
              try simp only [Act.put, s_put, s_0, s_1]
              refine wpAnyH_take (i := 13) (oi := ⟨some 62, .call { callee := .builtin Builtin.len, args := #[.tmp 61], argTypes := #[42] }, 3, _, _, _⟩) (v := ?v13V1ab) rfl (by kernel_rfl) (by kernel_rfl) (by kernel_rfl) (fun _ _ _ h => h) (Or.inl ⟨by rfl, ?hy13V1ab⟩) hHeld ?rest13V1ab
              case hy13V1ab => intro w9 hSw; go_simp; (try with_reducible rfl)
              try simp only [Act.put, s_put, s_0, s_1]
              refine wpAnyH_ready (rs := [10]) (by kernel_rfl) (by simp) ?_
              refine AllReadyH.cons (o := ⟨some 59, .call { callee := .value (.func 15), args := #[.tmp 58], argTypes := #[28] }, 42, _, _, _⟩) rfl (fun K hK => ?_) AllReadyH.nil
              go_simp
              refine (V2.out _ hT).mono ?_
              rintro e x10 ⟨al2, cap2, rfl, hN10⟩
              go_wp2_with fail
              have hT10 := btr hT hN10
              refine hK.out _ _ (btr hHeld hN10) (fun _ => held_up (bup hHeld hN10) _ _ _ _ ?_)
              clear hK K hHeld hT
              have hT := hT10
              have hHeld := brefl x10
              clear hT10 hN10
              try simp only [Act.put, s_put, s_0, s_1]
              refine wpAnyH_take (i := 11) (oi := ⟨some 60, .call { callee := .builtin Builtin.len, args := #[.tmp 59], argTypes := #[42] }, 3, _, _, _⟩) (v := ?v11V1ab) rfl (by kernel_rfl) (by kernel_rfl) (by kernel_rfl) (fun _ _ _ h => h) (Or.inl ⟨by rfl, ?hy11V1ab⟩) hHeld ?rest11V1ab
              case hy11V1ab => intro w9 hSw; go_simp; (try with_reducible rfl)
              try simp only [Act.put, s_put, s_0, s_1]
              refine wpAnyH_take (i := 14) (oi := ⟨some 63, .binOp BinOp.eql 3 (.tmp 60) (.tmp 62) 3, 4, _, _, _⟩) (v := ?v14V1ab) rfl (by kernel_rfl) (by kernel_rfl) (by kernel_rfl) (fun _ _ _ h => h) (Or.inl ⟨by rfl, ?hy14V1ab⟩) hHeld ?rest14V1ab
              case hy14V1ab => intro w9 hSw; go_simp; (try with_reducible rfl)
              try simp only [Act.put, s_put, s_0, s_1]
              refine wpAnyH_take (i := 15) (oi := ⟨some 64, .pick (.tmp 57) (.tmp 63) (.const (Value.bool false)), 4, _, _, _⟩) (v := ?v15V1ab) rfl (by kernel_rfl) (by kernel_rfl) (by kernel_rfl) (fun _ _ _ h => h) (Or.inl ⟨by rfl, ?hy15V1ab⟩) hHeld ?rest15V1ab
              case hy15V1ab => intro w9 hSw; go_simp; (try with_reducible rfl)
              try simp only [Act.put, s_put, s_0, s_1]
              refine wpAnyH_take (i := 16) (oi := ⟨some 65, .move (.tmp 64), 4, _, _, _⟩) (v := ?v16V1ab) rfl (by kernel_rfl) (by kernel_rfl) (by kernel_rfl) (fun _ _ _ h => h) (Or.inl ⟨by rfl, ?hy16V1ab⟩) hHeld ?rest16V1ab
              case hy16V1ab => intro w9 hSw; go_simp; (try with_reducible rfl)
              try simp only [Act.put, s_put, s_0, s_1]
              refine wpAnyH_take (i := 17) (oi := ⟨some 66, .load 28 (.tmp 3), 28, _, _, _⟩) (v := ?v17V1ab) rfl (by kernel_rfl) (by kernel_rfl) (by kernel_rfl) (fun _ _ _ h => h) (Or.inl ⟨by rfl, ?hy17V1ab⟩) hHeld ?rest17V1ab
              case hy17V1ab => intro w9 hSw; obtain ⟨⟨d0, d1, d2, d3, d4, d5⟩, d6, d7, d8, d9, d10⟩ := (PX.out.later (hT.trans (hSw.mono hT.size))).at0; go_simp; (try with_reducible rfl)
              try simp only [Act.put, s_put, s_0, s_1]
              refine wpAnyH_ready (rs := [18]) (by kernel_rfl) (by simp) ?_
              refine AllReadyH.cons (o := ⟨some 67, .call { callee := .value (.func 10), args := #[.tmp 66], argTypes := #[28] }, 37, _, _, _⟩) rfl (fun K hK => ?_) AllReadyH.nil
              go_simp
              refine (M1.out _ hT).mono ?_
              rintro e x18 ⟨rfl, hN18⟩
              go_wp2_with fail
              have hT18 := btr hT hN18
              refine hK.out _ _ (btr hHeld hN18) (fun _ => held_up (bup hHeld hN18) _ _ _ _ ?_)
              clear hK K hHeld hT
              have hT := hT18
              have hHeld := brefl x18
              clear hT18 hN18
              try simp only [Act.put, s_put, s_0, s_1]
              refine wpAnyH_take (i := 19) (oi := ⟨some 68, .binOp BinOp.neq 37 (.tmp 67) (.const (Value.int IntKind.i64 0)) 37, 4, _, _, _⟩) (v := ?v19V1ab) rfl (by kernel_rfl) (by kernel_rfl) (by kernel_rfl) (fun _ _ _ h => h) (Or.inl ⟨by rfl, ?hy19V1ab⟩) hHeld ?rest19V1ab
              case hy19V1ab => intro w9 hSw; go_simp; (try with_reducible rfl)
              try simp only [Act.put, s_put, s_0, s_1]
              refine wpAnyH_take (i := 20) (oi := ⟨some 69, .move (.tmp 68), 4, _, _, _⟩) (v := ?v20V1ab) rfl (by kernel_rfl) (by kernel_rfl) (by kernel_rfl) (fun _ _ _ h => h) (Or.inl ⟨by rfl, ?hy20V1ab⟩) hHeld ?rest20V1ab
              case hy20V1ab => intro w9 hSw; go_simp; (try with_reducible rfl)
              try simp only [Act.put, s_put, s_0, s_1]
              refine wpAnyH_take (i := 21) (oi := ⟨some 70, .move (.tmp 10), 4, _, _, _⟩) (v := undef) rfl (by kernel_rfl) (by kernel_rfl) (by kernel_rfl) (fun _ _ _ h => h) (Or.inr ⟨by rfl, rfl⟩) hHeld ?rest21V1ab
              try simp only [Act.put, s_put, s_0, s_1]
              refine wpAnyH_take (i := 22) (oi := ⟨some 71, .unOp UnOp.not 4 (.tmp 70), 4, _, _, _⟩) (v := undef) rfl (by kernel_rfl) (by kernel_rfl) (by kernel_rfl) (fun _ _ _ h => h) (Or.inr ⟨by rfl, rfl⟩) hHeld ?rest22V1ab
              try simp only [Act.put, s_put, s_0, s_1]
              refine wpAnyH_take (i := 23) (oi := ⟨some 72, .pick (.tmp 69) (.const (Value.bool true)) (.tmp 71), 4, _, _, _⟩) (v := ?v23V1ab) rfl (by kernel_rfl) (by kernel_rfl) (by kernel_rfl) (fun _ _ _ h => h) (Or.inl ⟨by rfl, ?hy23V1ab⟩) hHeld ?rest23V1ab
              case hy23V1ab => intro w9 hSw; go_simp; (try with_reducible rfl)
              try simp only [Act.put, s_put, s_0, s_1]
              refine wpAnyH_take (i := 24) (oi := ⟨some 73, .move (.tmp 72), 4, _, _, _⟩) (v := ?v24V1ab) rfl (by kernel_rfl) (by kernel_rfl) (by kernel_rfl) (fun _ _ _ h => h) (Or.inl ⟨by rfl, ?hy24V1ab⟩) hHeld ?rest24V1ab
              case hy24V1ab => intro w9 hSw; go_simp; (try with_reducible rfl)
              try simp only [Act.put, s_put, s_0, s_1]
              refine wpAnyH_take (i := 25) (oi := ⟨some 74, .load 28 (.tmp 9), 28, _, _, _⟩) (v := undef) rfl (by kernel_rfl) (by kernel_rfl) (by kernel_rfl) (fun _ _ _ h => h) (Or.inr ⟨by rfl, rfl⟩) hHeld ?rest25V1ab
              try simp only [Act.put, s_put, s_0, s_1]
              refine wpAnyH_take (i := 26) (oi := ⟨some 75, .call { callee := .value (.func 10), args := #[.tmp 74], argTypes := #[28] }, 37, _, _, _⟩) (v := undef) rfl (by kernel_rfl) (by kernel_rfl) (by kernel_rfl) (fun _ _ _ h => h) (Or.inr ⟨by rfl, rfl⟩) hHeld ?rest26V1ab
              try simp only [Act.put, s_put, s_0, s_1]
              refine wpAnyH_take (i := 27) (oi := ⟨some 76, .binOp BinOp.eql 37 (.tmp 75) (.const (Value.int IntKind.i64 0)) 37, 4, _, _, _⟩) (v := undef) rfl (by kernel_rfl) (by kernel_rfl) (by kernel_rfl) (fun _ _ _ h => h) (Or.inr ⟨by rfl, rfl⟩) hHeld ?rest27V1ab
              try simp only [Act.put, s_put, s_0, s_1]
              refine wpAnyH_take (i := 28) (oi := ⟨some 77, .pick (.tmp 73) (.const (Value.bool true)) (.tmp 76), 4, _, _, _⟩) (v := ?v28V1ab) rfl (by kernel_rfl) (by kernel_rfl) (by kernel_rfl) (fun _ _ _ h => h) (Or.inl ⟨by rfl, ?hy28V1ab⟩) hHeld ?rest28V1ab
              case hy28V1ab => intro w9 hSw; go_simp; (try with_reducible rfl)
              try simp only [Act.put, s_put, s_0, s_1]
              refine wpAnyH_take (i := 29) (oi := ⟨some 78, .pick (.tmp 65) (.tmp 77) (.const (Value.bool false)), 4, _, _, _⟩) (v := ?v29V1ab) rfl (by kernel_rfl) (by kernel_rfl) (by kernel_rfl) (fun _ _ _ h => h) (Or.inl ⟨by rfl, ?hy29V1ab⟩) hHeld ?rest29V1ab
              case hy29V1ab => intro w9 hSw; go_simp; (try with_reducible rfl)
              try simp only [Act.put, s_put, s_0, s_1]
              refine wpAnyH_take (i := 30) (oi := ⟨some 79, .move (.tmp 78), 4, _, _, _⟩) (v := ?v30V1ab) rfl (by kernel_rfl) (by kernel_rfl) (by kernel_rfl) (fun _ _ _ h => h) (Or.inl ⟨by rfl, ?hy30V1ab⟩) hHeld ?rest30V1ab
              case hy30V1ab => intro w9 hSw; go_simp; (try with_reducible rfl)
              try simp only [Act.put, s_put, s_0, s_1]
              refine wpAnyH_ready (rs := [31]) (by kernel_rfl) (by simp) ?_
              refine AllReadyH.cons (o := ⟨some 80, .call { callee := .value (.func 6), args := #[], argTypes := #[] }, 4, _, _, _⟩) rfl (fun K hK => ?_) AllReadyH.nil
              go_simp
              refine (W1.out _).mono ?_
              rintro e x31 ⟨rfl, hN31⟩
              go_wp2_with fail
              have hT31 := btr hT hN31
              refine hK.out _ _ (btr hHeld hN31) (fun _ => held_up (bup hHeld hN31) _ _ _ _ ?_)
              clear hK K hHeld hT
              have hT := hT31
              have hHeld := brefl x31
              clear hT31 hN31
              try simp only [Act.put, s_put, s_0, s_1]
              refine wpAnyH_take (i := 32) (oi := ⟨some 81, .pick (.tmp 79) (.tmp 80) (.const (Value.bool false)), 4, _, _, _⟩) (v := ?v32V1ab) rfl (by kernel_rfl) (by kernel_rfl) (by kernel_rfl) (fun _ _ _ h => h) (Or.inl ⟨by rfl, ?hy32V1ab⟩) hHeld ?rest32V1ab
              case hy32V1ab => intro w9 hSw; go_simp; (try with_reducible rfl)
              try simp only [Act.put, s_put, s_0, s_1]
              refine wpAnyH_take (i := 33) (oi := ⟨some 6, .assign (.tmp 81), 4, _, _, _⟩) (v := ?v33V1ab) rfl (by kernel_rfl) (by kernel_rfl) (by kernel_rfl) (fun _ _ _ h => h) (Or.inl ⟨by rfl, ?hy33V1ab⟩) hHeld ?rest33V1ab
              case hy33V1ab => intro w9 hSw; go_simp; (try with_reducible rfl)
              try simp only [Act.put, s_put, s_0, s_1]
              refine wpAnyH_done (by kernel_rfl) ?_ _
              refine NoPanic.normal ?_
              go_wp2
              go_ret
              exact ⟨rfl, HB.out.trans ((HAW.out.trans (hT.mono HAW.out.size)).mono HB.out.size)⟩
          · clear h1
            go_upto_region 11 with fail
            refine wp_region_noPanic ?_
            refine wp_region_held_drew (S := fun w' => Below W.heap.size W w') (by kernel_rfl) ((Below.refl _ _).drew) (fun hHeld => ?_)
            have hT : Below W.heap.size W W.drew := hHeld
            obtain ⟨d, hdw⟩ : ∃ d, d = W.drew := ⟨_, rfl⟩
            rw [← hdw] at hHeld hT ⊢
            clear hdw
            refine wpAnyH_take (i := 0) (oi := ⟨some 49, .load 28 (.tmp 9), 28, _, _, _⟩) (v := ?v0V1b) rfl (by kernel_rfl) (by kernel_rfl) (by kernel_rfl) (fun _ _ _ h => h) (Or.inl ⟨by rfl, ?hy0V1b⟩) hHeld ?rest0V1b
            case hy0V1b => intro w9 hSw; obtain ⟨⟨d0, d1, d2, d3, d4, d5⟩, d6, d7, d8, d9, d10⟩ := (PY.out.later hSw).at0; go_simp; (try with_reducible rfl)
            try simp only [Act.put, s_put, s_0, s_1]
            refine wpAnyH_take (i := 1) (oi := ⟨some 50, .move (.tmp 2), 9, _, _, _⟩) (v := ?v1V1b) rfl (by kernel_rfl) (by kernel_rfl) (by kernel_rfl) (fun _ _ _ h => h) (Or.inl ⟨by rfl, ?hy1V1b⟩) hHeld ?rest1V1b
            case hy1V1b => intro w9 hSw; go_simp; (try with_reducible rfl)
            try simp only [Act.put, s_put, s_0, s_1]
            refine wpAnyH_take (i := 3) (oi := ⟨some 52, .move (.tmp 1), 9, _, _, _⟩) (v := ?v3V1b) rfl (by kernel_rfl) (by kernel_rfl) (by kernel_rfl) (fun _ _ _ h => h) (Or.inl ⟨by rfl, ?hy3V1b⟩) hHeld ?rest3V1b
            case hy3V1b => intro w9 hSw; go_simp; (try with_reducible rfl)
            try simp only [Act.put, s_put, s_0, s_1]
            refine wpAnyH_take (i := 6) (oi := ⟨some 55, .load 28 (.tmp 3), 28, _, _, _⟩) (v := ?v6V1b) rfl (by kernel_rfl) (by kernel_rfl) (by kernel_rfl) (fun _ _ _ h => h) (Or.inl ⟨by rfl, ?hy6V1b⟩) hHeld ?rest6V1b
            case hy6V1b => intro w9 hSw; obtain ⟨⟨d0, d1, d2, d3, d4, d5⟩, d6, d7, d8, d9, d10⟩ := (PX.out.later hSw).at0; go_simp; (try with_reducible rfl)
            try simp only [Act.put, s_put, s_0, s_1]
            refine wpAnyH_ready (rs := [2, 4]) (by kernel_rfl) (by simp) ?_
            refine AllReadyH.cons (o := ⟨some 51, .buildSlice 42 1 #[(0, .tmp 50)], 42, _, _, _⟩) rfl (fun K hK => ?_) (AllReadyH.cons (o := ⟨some 53, .buildSlice 42 1 #[(0, .tmp 52)], 42, _, _, _⟩) rfl (fun K hK => ?_) AllReadyH.nil)
            · go_simp
              obtain ⟨x2, hx2⟩ : ∃ x, d.alloc (.cells #[.string u] 9) = x := ⟨_, rfl⟩
              rw [hx2]
              have hN2 : Below d.heap.size d x2 := by rw [← hx2]; exact (Below.refl _ _).alloc (Nat.le_refl _) _
              have hX2 : Txs x2 (some ⟨d.heap.size, 0, none⟩) 1 (fun _ => u) := by rw [← hx2]; exact txs_new _ _
              clear hx2
              have hT2 := btr hT hN2
              refine hK.out _ _ (btr hHeld hN2) (fun _ => held_up (bup hHeld hN2) _ _ _ _ ?_)
              clear hK K hHeld hT
              have hT := hT2
              have hHeld := brefl x2
              clear hT2
              try simp only [Act.put, s_put, s_0, s_1]
              refine wpAnyH_ready (rs := [4]) (by kernel_rfl) (by simp) ?_
              refine AllReadyH.cons (o := ⟨some 53, .buildSlice 42 1 #[(0, .tmp 52)], 42, _, _, _⟩) rfl (fun K hK => ?_) AllReadyH.nil
              go_simp
              obtain ⟨x4, hx4⟩ : ∃ x, x2.alloc (.cells #[.string v] 9) = x := ⟨_, rfl⟩
              rw [hx4]
              have hN4 : Below x2.heap.size x2 x4 := by rw [← hx4]; exact (Below.refl _ _).alloc (Nat.le_refl _) _
              have hX4 : Txs x4 (some ⟨x2.heap.size, 0, none⟩) 1 (fun _ => v) := by rw [← hx4]; exact txs_new _ _
              clear hx4
              have hT4 := btr hT hN4
              refine hK.out _ _ (btr hHeld hN4) (fun _ => held_up (bup hHeld hN4) _ _ _ _ ?_)
              clear hK K hHeld hT
              have hT := hT4
              have hHeld := brefl x4
              clear hT4
              try simp only [Act.put, s_put, s_0, s_1]
              refine wpAnyH_ready (rs := [5]) (by kernel_rfl) (by simp) ?_
              refine AllReadyH.cons (o := ⟨some 54, .call { callee := .value (.func 17), args := #[.tmp 49, .tmp 51, .tmp 53], argTypes := #[28, 42, 42] }, 28, _, _, _⟩) rfl (fun K hK => ?_) AllReadyH.nil
              go_simp
              refine (R2.out _ hT _ _ (hX2.later hN4) hX4).mono ?_
              rintro e x5 ⟨z5, rfl, hz1, hz2, hN5⟩
              have C7 : Hid (Calls Tryz.prog 12 #[z5.val, x.val] x5 fun e w2 => e = .returned (.bool true) ∧ Below x5.heap.size x5 w2) := SM.out z5 x5 hz1.out hz2.out (hT.trans (hN5.mono hT.size))
              go_wp2_with fail
              have hT5 := btr hT hN5
              refine hK.out _ _ (btr hHeld hN5) (fun _ => held_up (bup hHeld hN5) _ _ _ _ ?_)
              clear hK K hHeld hT
              have hT := hT5
              have hHeld := brefl x5
              clear hT5 hN5
              try simp only [Act.put, s_put, s_0, s_1]
              refine wpAnyH_ready (rs := [7]) (by kernel_rfl) (by simp) ?_
              refine AllReadyH.cons (o := ⟨some 56, .call { callee := .value (.func 12), args := #[.tmp 54, .tmp 55], argTypes := #[28, 28] }, 4, _, _, _⟩) rfl (fun K hK => ?_) AllReadyH.nil
              go_simp
              refine (C7.out).mono ?_
              rintro e x7 ⟨rfl, hN7⟩
              go_wp2_with fail
              have hT7 := btr hT hN7
              refine hK.out _ _ (btr hHeld hN7) (fun _ => held_up (bup hHeld hN7) _ _ _ _ ?_)
              clear hK K hHeld hT
              have hT := hT7
              have hHeld := brefl x7
              clear hT7 hN7
              try simp only [Act.put, s_put, s_0, s_1]
              refine wpAnyH_take (i := 8) (oi := ⟨some 57, .move (.tmp 56), 4, _, _, _⟩) (v := ?v8V1ba) rfl (by kernel_rfl) (by kernel_rfl) (by kernel_rfl) (fun _ _ _ h => h) (Or.inl ⟨by rfl, ?hy8V1ba⟩) hHeld ?rest8V1ba
              case hy8V1ba => intro w9 hSw; go_simp; (try with_reducible rfl)
              try simp only [Act.put, s_put, s_0, s_1]
              refine wpAnyH_take (i := 9) (oi := ⟨some 58, .load 28 (.tmp 9), 28, _, _, _⟩) (v := ?v9V1ba) rfl (by kernel_rfl) (by kernel_rfl) (by kernel_rfl) (fun _ _ _ h => h) (Or.inl ⟨by rfl, ?hy9V1ba⟩) hHeld ?rest9V1ba
              case hy9V1ba => intro w9 hSw; obtain ⟨⟨d0, d1, d2, d3, d4, d5⟩, d6, d7, d8, d9, d10⟩ := (PY.out.later (hT.trans (hSw.mono hT.size))).at0; go_simp; (try with_reducible rfl)
              try simp only [Act.put, s_put, s_0, s_1]
              refine wpAnyH_take (i := 12) (oi := ⟨some 61, .move (.tmp 7), 42, _, _, _⟩) (v := ?v12V1ba) rfl (by kernel_rfl) (by kernel_rfl) (by kernel_rfl) (fun _ _ _ h => h) (Or.inl ⟨by rfl, ?hy12V1ba⟩) hHeld ?rest12V1ba
              case hy12V1ba => intro w9 hSw; go_simp; (try with_reducible rfl)
              try simp only [Act.put, s_put, s_0, s_1]
              refine wpAnyH_take (i := 13) (oi := ⟨some 62, .call { callee := .builtin Builtin.len, args := #[.tmp 61], argTypes := #[42] }, 3, _, _, _⟩) (v := ?v13V1ba) rfl (by kernel_rfl) (by kernel_rfl) (by kernel_rfl) (fun _ _ _ h => h) (Or.inl ⟨by rfl, ?hy13V1ba⟩) hHeld ?rest13V1ba
              case hy13V1ba => intro w9 hSw; go_simp; (try with_reducible rfl)
              try simp only [Act.put, s_put, s_0, s_1]
              refine wpAnyH_ready (rs := [10]) (by kernel_rfl) (by simp) ?_
              refine AllReadyH.cons (o := ⟨some 59, .call { callee := .value (.func 15), args := #[.tmp 58], argTypes := #[28] }, 42, _, _, _⟩) rfl (fun K hK => ?_) AllReadyH.nil
              go_simp
              refine (V2.out _ hT).mono ?_
              rintro e x10 ⟨al2, cap2, rfl, hN10⟩
              go_wp2_with fail
              have hT10 := btr hT hN10
              refine hK.out _ _ (btr hHeld hN10) (fun _ => held_up (bup hHeld hN10) _ _ _ _ ?_)
              clear hK K hHeld hT
              have hT := hT10
              have hHeld := brefl x10
              clear hT10 hN10
              try simp only [Act.put, s_put, s_0, s_1]
              refine wpAnyH_take (i := 11) (oi := ⟨some 60, .call { callee := .builtin Builtin.len, args := #[.tmp 59], argTypes := #[42] }, 3, _, _, _⟩) (v := ?v11V1ba) rfl (by kernel_rfl) (by kernel_rfl) (by kernel_rfl) (fun _ _ _ h => h) (Or.inl ⟨by rfl, ?hy11V1ba⟩) hHeld ?rest11V1ba
              case hy11V1ba => intro w9 hSw; go_simp; (try with_reducible rfl)
              try simp only [Act.put, s_put, s_0, s_1]
              refine wpAnyH_take (i := 14) (oi := ⟨some 63, .binOp BinOp.eql 3 (.tmp 60) (.tmp 62) 3, 4, _, _, _⟩) (v := ?v14V1ba) rfl (by kernel_rfl) (by kernel_rfl) (by kernel_rfl) (fun _ _ _ h => h) (Or.inl ⟨by rfl, ?hy14V1ba⟩) hHeld ?rest14V1ba
              case hy14V1ba => intro w9 hSw; go_simp; (try with_reducible rfl)
              try simp only [Act.put, s_put, s_0, s_1]
              refine wpAnyH_take (i := 15) (oi := ⟨some 64, .pick (.tmp 57) (.tmp 63) (.const (Value.bool false)), 4, _, _, _⟩) (v := ?v15V1ba) rfl (by kernel_rfl) (by kernel_rfl) (by kernel_rfl) (fun _ _ _ h => h) (Or.inl ⟨by rfl, ?hy15V1ba⟩) hHeld ?rest15V1ba
              case hy15V1ba => intro w9 hSw; go_simp; (try with_reducible rfl)
              try simp only [Act.put, s_put, s_0, s_1]
              refine wpAnyH_take (i := 16) (oi := ⟨some 65, .move (.tmp 64), 4, _, _, _⟩) (v := ?v16V1ba) rfl (by kernel_rfl) (by kernel_rfl) (by kernel_rfl) (fun _ _ _ h => h) (Or.inl ⟨by rfl, ?hy16V1ba⟩) hHeld ?rest16V1ba
              case hy16V1ba => intro w9 hSw; go_simp; (try with_reducible rfl)
              try simp only [Act.put, s_put, s_0, s_1]
              refine wpAnyH_take (i := 17) (oi := ⟨some 66, .load 28 (.tmp 3), 28, _, _, _⟩) (v := ?v17V1ba) rfl (by kernel_rfl) (by kernel_rfl) (by kernel_rfl) (fun _ _ _ h => h) (Or.inl ⟨by rfl, ?hy17V1ba⟩) hHeld ?rest17V1ba
              case hy17V1ba => intro w9 hSw; obtain ⟨⟨d0, d1, d2, d3, d4, d5⟩, d6, d7, d8, d9, d10⟩ := (PX.out.later (hT.trans (hSw.mono hT.size))).at0; go_simp; (try with_reducible rfl)
              try simp only [Act.put, s_put, s_0, s_1]
              refine wpAnyH_ready (rs := [18]) (by kernel_rfl) (by simp) ?_
              refine AllReadyH.cons (o := ⟨some 67, .call { callee := .value (.func 10), args := #[.tmp 66], argTypes := #[28] }, 37, _, _, _⟩) rfl (fun K hK => ?_) AllReadyH.nil
              go_simp
              refine (M1.out _ hT).mono ?_
              rintro e x18 ⟨rfl, hN18⟩
              go_wp2_with fail
              have hT18 := btr hT hN18
              refine hK.out _ _ (btr hHeld hN18) (fun _ => held_up (bup hHeld hN18) _ _ _ _ ?_)
              clear hK K hHeld hT
              have hT := hT18
              have hHeld := brefl x18
              clear hT18 hN18
              try simp only [Act.put, s_put, s_0, s_1]
              refine wpAnyH_take (i := 19) (oi := ⟨some 68, .binOp BinOp.neq 37 (.tmp 67) (.const (Value.int IntKind.i64 0)) 37, 4, _, _, _⟩) (v := ?v19V1ba) rfl (by kernel_rfl) (by kernel_rfl) (by kernel_rfl) (fun _ _ _ h => h) (Or.inl ⟨by rfl, ?hy19V1ba⟩) hHeld ?rest19V1ba
              case hy19V1ba => intro w9 hSw; go_simp; (try with_reducible rfl)
              try simp only [Act.put, s_put, s_0, s_1]
              refine wpAnyH_take (i := 20) (oi := ⟨some 69, .move (.tmp 68), 4, _, _, _⟩) (v := ?v20V1ba) rfl (by kernel_rfl) (by kernel_rfl) (by kernel_rfl) (fun _ _ _ h => h) (Or.inl ⟨by rfl, ?hy20V1ba⟩) hHeld ?rest20V1ba
              case hy20V1ba => intro w9 hSw; go_simp; (try with_reducible rfl)
              try simp only [Act.put, s_put, s_0, s_1]
              refine wpAnyH_take (i := 21) (oi := ⟨some 70, .move (.tmp 10), 4, _, _, _⟩) (v := undef) rfl (by kernel_rfl) (by kernel_rfl) (by kernel_rfl) (fun _ _ _ h => h) (Or.inr ⟨by rfl, rfl⟩) hHeld ?rest21V1ba
              try simp only [Act.put, s_put, s_0, s_1]
              refine wpAnyH_take (i := 22) (oi := ⟨some 71, .unOp UnOp.not 4 (.tmp 70), 4, _, _, _⟩) (v := undef) rfl (by kernel_rfl) (by kernel_rfl) (by kernel_rfl) (fun _ _ _ h => h) (Or.inr ⟨by rfl, rfl⟩) hHeld ?rest22V1ba
              try simp only [Act.put, s_put, s_0, s_1]
              refine wpAnyH_take (i := 23) (oi := ⟨some 72, .pick (.tmp 69) (.const (Value.bool true)) (.tmp 71), 4, _, _, _⟩) (v := ?v23V1ba) rfl (by kernel_rfl) (by kernel_rfl) (by kernel_rfl) (fun _ _ _ h => h) (Or.inl ⟨by rfl, ?hy23V1ba⟩) hHeld ?rest23V1ba
              case hy23V1ba => intro w9 hSw; go_simp; (try with_reducible rfl)
              try simp only [Act.put, s_put, s_0, s_1]
              refine wpAnyH_take (i := 24) (oi := ⟨some 73, .move (.tmp 72), 4, _, _, _⟩) (v := ?v24V1ba) rfl (by kernel_rfl) (by kernel_rfl) (by kernel_rfl) (fun _ _ _ h => h) (Or.inl ⟨by rfl, ?hy24V1ba⟩) hHeld ?rest24V1ba
              case hy24V1ba => intro w9 hSw; go_simp; (try with_reducible rfl)
              try simp only [Act.put, s_put, s_0, s_1]
              refine wpAnyH_take (i := 25) (oi := ⟨some 74, .load 28 (.tmp 9), 28, _, _, _⟩) (v := undef) rfl (by kernel_rfl) (by kernel_rfl) (by kernel_rfl) (fun _ _ _ h => h) (Or.inr ⟨by rfl, rfl⟩) hHeld ?rest25V1ba
              try simp only [Act.put, s_put, s_0, s_1]
              refine wpAnyH_take (i := 26) (oi := ⟨some 75, .call { callee := .value (.func 10), args := #[.tmp 74], argTypes := #[28] }, 37, _, _, _⟩) (v := undef) rfl (by kernel_rfl) (by kernel_rfl) (by kernel_rfl) (fun _ _ _ h => h) (Or.inr ⟨by rfl, rfl⟩) hHeld ?rest26V1ba
              try simp only [Act.put, s_put, s_0, s_1]
              refine wpAnyH_take (i := 27) (oi := ⟨some 76, .binOp BinOp.eql 37 (.tmp 75) (.const (Value.int IntKind.i64 0)) 37, 4, _, _, _⟩) (v := undef) rfl (by kernel_rfl) (by kernel_rfl) (by kernel_rfl) (fun _ _ _ h => h) (Or.inr ⟨by rfl, rfl⟩) hHeld ?rest27V1ba
              try simp only [Act.put, s_put, s_0, s_1]
              refine wpAnyH_take (i := 28) (oi := ⟨some 77, .pick (.tmp 73) (.const (Value.bool true)) (.tmp 76), 4, _, _, _⟩) (v := ?v28V1ba) rfl (by kernel_rfl) (by kernel_rfl) (by kernel_rfl) (fun _ _ _ h => h) (Or.inl ⟨by rfl, ?hy28V1ba⟩) hHeld ?rest28V1ba
              case hy28V1ba => intro w9 hSw; go_simp; (try with_reducible rfl)
              try simp only [Act.put, s_put, s_0, s_1]
              refine wpAnyH_take (i := 29) (oi := ⟨some 78, .pick (.tmp 65) (.tmp 77) (.const (Value.bool false)), 4, _, _, _⟩) (v := ?v29V1ba) rfl (by kernel_rfl) (by kernel_rfl) (by kernel_rfl) (fun _ _ _ h => h) (Or.inl ⟨by rfl, ?hy29V1ba⟩) hHeld ?rest29V1ba
              case hy29V1ba => intro w9 hSw; go_simp; (try with_reducible rfl)
              try simp only [Act.put, s_put, s_0, s_1]
              refine wpAnyH_take (i := 30) (oi := ⟨some 79, .move (.tmp 78), 4, _, _, _⟩) (v := ?v30V1ba) rfl (by kernel_rfl) (by kernel_rfl) (by kernel_rfl) (fun _ _ _ h => h) (Or.inl ⟨by rfl, ?hy30V1ba⟩) hHeld ?rest30V1ba
              case hy30V1ba => intro w9 hSw; go_simp; (try with_reducible rfl)
              try simp only [Act.put, s_put, s_0, s_1]
              refine wpAnyH_ready (rs := [31]) (by kernel_rfl) (by simp) ?_
              refine AllReadyH.cons (o := ⟨some 80, .call { callee := .value (.func 6), args := #[], argTypes := #[] }, 4, _, _, _⟩) rfl (fun K hK => ?_) AllReadyH.nil
              go_simp
              refine (W1.out _).mono ?_
              rintro e x31 ⟨rfl, hN31⟩
              go_wp2_with fail
              have hT31 := btr hT hN31
              refine hK.out _ _ (btr hHeld hN31) (fun _ => held_up (bup hHeld hN31) _ _ _ _ ?_)
              clear hK K hHeld hT
              have hT := hT31
              have hHeld := brefl x31
              clear hT31 hN31
              try simp only [Act.put, s_put, s_0, s_1]
              refine wpAnyH_take (i := 32) (oi := ⟨some 81, .pick (.tmp 79) (.tmp 80) (.const (Value.bool false)), 4, _, _, _⟩) (v := ?v32V1ba) rfl (by kernel_rfl) (by kernel_rfl) (by kernel_rfl) (fun _ _ _ h => h) (Or.inl ⟨by rfl, ?hy32V1ba⟩) hHeld ?rest32V1ba
              case hy32V1ba => intro w9 hSw; go_simp; (try with_reducible rfl)
              try simp only [Act.put, s_put, s_0, s_1]
              refine wpAnyH_take (i := 33) (oi := ⟨some 6, .assign (.tmp 81), 4, _, _, _⟩) (v := ?v33V1ba) rfl (by kernel_rfl) (by kernel_rfl) (by kernel_rfl) (fun _ _ _ h => h) (Or.inl ⟨by rfl, ?hy33V1ba⟩) hHeld ?rest33V1ba
              case hy33V1ba => intro w9 hSw; go_simp; (try with_reducible rfl)
              try simp only [Act.put, s_put, s_0, s_1]
              refine wpAnyH_done (by kernel_rfl) ?_ _
              refine NoPanic.normal ?_
              go_wp2
              go_ret
              exact ⟨rfl, HB.out.trans ((HAW.out.trans (hT.mono HAW.out.size)).mono HB.out.size)⟩
            · go_simp
              obtain ⟨x4, hx4⟩ : ∃ x, d.alloc (.cells #[.string v] 9) = x := ⟨_, rfl⟩
              rw [hx4]
              have hN4 : Below d.heap.size d x4 := by rw [← hx4]; exact (Below.refl _ _).alloc (Nat.le_refl _) _
              have hX4 : Txs x4 (some ⟨d.heap.size, 0, none⟩) 1 (fun _ => v) := by rw [← hx4]; exact txs_new _ _
              clear hx4
              have hT4 := btr hT hN4
              refine hK.out _ _ (btr hHeld hN4) (fun _ => held_up (bup hHeld hN4) _ _ _ _ ?_)
              clear hK K hHeld hT
              have hT := hT4
              have hHeld := brefl x4
              clear hT4
              try simp only [Act.put, s_put, s_0, s_1]
              refine wpAnyH_ready (rs := [2]) (by kernel_rfl) (by simp) ?_
              refine AllReadyH.cons (o := ⟨some 51, .buildSlice 42 1 #[(0, .tmp 50)], 42, _, _, _⟩) rfl (fun K hK => ?_) AllReadyH.nil
              go_simp
              obtain ⟨x2, hx2⟩ : ∃ x, x4.alloc (.cells #[.string u] 9) = x := ⟨_, rfl⟩
              rw [hx2]
              have hN2 : Below x4.heap.size x4 x2 := by rw [← hx2]; exact (Below.refl _ _).alloc (Nat.le_refl _) _
              have hX2 : Txs x2 (some ⟨x4.heap.size, 0, none⟩) 1 (fun _ => u) := by rw [← hx2]; exact txs_new _ _
              clear hx2
              have hT2 := btr hT hN2
              refine hK.out _ _ (btr hHeld hN2) (fun _ => held_up (bup hHeld hN2) _ _ _ _ ?_)
              clear hK K hHeld hT
              have hT := hT2
              have hHeld := brefl x2
              clear hT2
              try simp only [Act.put, s_put, s_0, s_1]
              refine wpAnyH_ready (rs := [5]) (by kernel_rfl) (by simp) ?_
              refine AllReadyH.cons (o := ⟨some 54, .call { callee := .value (.func 17), args := #[.tmp 49, .tmp 51, .tmp 53], argTypes := #[28, 42, 42] }, 28, _, _, _⟩) rfl (fun K hK => ?_) AllReadyH.nil
              go_simp
              refine (R2.out _ hT _ _ hX2 (hX4.later hN2)).mono ?_
              rintro e x5 ⟨z5, rfl, hz1, hz2, hN5⟩
              have C7 : Hid (Calls Tryz.prog 12 #[z5.val, x.val] x5 fun e w2 => e = .returned (.bool true) ∧ Below x5.heap.size x5 w2) := SM.out z5 x5 hz1.out hz2.out (hT.trans (hN5.mono hT.size))
              go_wp2_with fail
              have hT5 := btr hT hN5
              refine hK.out _ _ (btr hHeld hN5) (fun _ => held_up (bup hHeld hN5) _ _ _ _ ?_)
              clear hK K hHeld hT
              have hT := hT5
              have hHeld := brefl x5
              clear hT5 hN5
              try simp only [Act.put, s_put, s_0, s_1]
              refine wpAnyH_ready (rs := [7]) (by kernel_rfl) (by simp) ?_
              refine AllReadyH.cons (o := ⟨some 56, .call { callee := .value (.func 12), args := #[.tmp 54, .tmp 55], argTypes := #[28, 28] }, 4, _, _, _⟩) rfl (fun K hK => ?_) AllReadyH.nil
              go_simp
              refine (C7.out).mono ?_
              rintro e x7 ⟨rfl, hN7⟩
              go_wp2_with fail
              have hT7 := btr hT hN7
              refine hK.out _ _ (btr hHeld hN7) (fun _ => held_up (bup hHeld hN7) _ _ _ _ ?_)
              clear hK K hHeld hT
              have hT := hT7
              have hHeld := brefl x7
              clear hT7 hN7
              try simp only [Act.put, s_put, s_0, s_1]
              refine wpAnyH_take (i := 8) (oi := ⟨some 57, .move (.tmp 56), 4, _, _, _⟩) (v := ?v8V1bb) rfl (by kernel_rfl) (by kernel_rfl) (by kernel_rfl) (fun _ _ _ h => h) (Or.inl ⟨by rfl, ?hy8V1bb⟩) hHeld ?rest8V1bb
              case hy8V1bb => intro w9 hSw; go_simp; (try with_reducible rfl)
              try simp only [Act.put, s_put, s_0, s_1]
              refine wpAnyH_take (i := 9) (oi := ⟨some 58, .load 28 (.tmp 9), 28, _, _, _⟩) (v := ?v9V1bb) rfl (by kernel_rfl) (by kernel_rfl) (by kernel_rfl) (fun _ _ _ h => h) (Or.inl ⟨by rfl, ?hy9V1bb⟩) hHeld ?rest9V1bb
              case hy9V1bb => intro w9 hSw; obtain ⟨⟨d0, d1, d2, d3, d4, d5⟩, d6, d7, d8, d9, d10⟩ := (PY.out.later (hT.trans (hSw.mono hT.size))).at0; go_simp; (try with_reducible rfl)
              try simp only [Act.put, s_put, s_0, s_1]
              refine wpAnyH_take (i := 12) (oi := ⟨some 61, .move (.tmp 7), 42, _, _, _⟩) (v := ?v12V1bb) rfl (by kernel_rfl) (by kernel_rfl) (by kernel_rfl) (fun _ _ _ h => h) (Or.inl ⟨by rfl, ?hy12V1bb⟩) hHeld ?rest12V1bb
              case hy12V1bb => intro w9 hSw; go_simp; (try with_reducible rfl)
              try simp only [Act.put, s_put, s_0, s_1]
              refine wpAnyH_take (i := 13) (oi := ⟨some 62, .call { callee := .builtin Builtin.len, args := #[.tmp 61], argTypes := #[42] }, 3, _, _, _⟩) (v := ?v13V1bb) rfl (by kernel_rfl) (by kernel_rfl) (by kernel_rfl) (fun _ _ _ h => h) (Or.inl ⟨by rfl, ?hy13V1bb⟩) hHeld ?rest13V1bb
              case hy13V1bb => intro w9 hSw; go_simp; (try with_reducible rfl)
              try simp only [Act.put, s_put, s_0, s_1]
              refine wpAnyH_ready (rs := [10]) (by kernel_rfl) (by simp) ?_
              refine AllReadyH.cons (o := ⟨some 59, .call { callee := .value (.func 15), args := #[.tmp 58], argTypes := #[28] }, 42, _, _, _⟩) rfl (fun K hK => ?_) AllReadyH.nil
              go_simp
              refine (V2.out _ hT).mono ?_
              rintro e x10 ⟨al2, cap2, rfl, hN10⟩
              go_wp2_with fail
              have hT10 := btr hT hN10
              refine hK.out _ _ (btr hHeld hN10) (fun _ => held_up (bup hHeld hN10) _ _ _ _ ?_)
              clear hK K hHeld hT
              have hT := hT10
              have hHeld := brefl x10
              clear hT10 hN10
              try simp only [Act.put, s_put, s_0, s_1]
              refine wpAnyH_take (i := 11) (oi := ⟨some 60, .call { callee := .builtin Builtin.len, args := #[.tmp 59], argTypes := #[42] }, 3, _, _, _⟩) (v := ?v11V1bb) rfl (by kernel_rfl) (by kernel_rfl) (by kernel_rfl) (fun _ _ _ h => h) (Or.inl ⟨by rfl, ?hy11V1bb⟩) hHeld ?rest11V1bb
              case hy11V1bb => intro w9 hSw; go_simp; (try with_reducible rfl)
              try simp only [Act.put, s_put, s_0, s_1]
              refine wpAnyH_take (i := 14) (oi := ⟨some 63, .binOp BinOp.eql 3 (.tmp 60) (.tmp 62) 3, 4, _, _, _⟩) (v := ?v14V1bb) rfl (by kernel_rfl) (by kernel_rfl) (by kernel_rfl) (fun _ _ _ h => h) (Or.inl ⟨by rfl, ?hy14V1bb⟩) hHeld ?rest14V1bb
              case hy14V1bb => intro w9 hSw; go_simp; (try with_reducible rfl)
              try simp only [Act.put, s_put, s_0, s_1]
              refine wpAnyH_take (i := 15) (oi := ⟨some 64, .pick (.tmp 57) (.tmp 63) (.const (Value.bool false)), 4, _, _, _⟩) (v := ?v15V1bb) rfl (by kernel_rfl) (by kernel_rfl) (by kernel_rfl) (fun _ _ _ h => h) (Or.inl ⟨by rfl, ?hy15V1bb⟩) hHeld ?rest15V1bb
              case hy15V1bb => intro w9 hSw; go_simp; (try with_reducible rfl)
              try simp only [Act.put, s_put, s_0, s_1]
              refine wpAnyH_take (i := 16) (oi := ⟨some 65, .move (.tmp 64), 4, _, _, _⟩) (v := ?v16V1bb) rfl (by kernel_rfl) (by kernel_rfl) (by kernel_rfl) (fun _ _ _ h => h) (Or.inl ⟨by rfl, ?hy16V1bb⟩) hHeld ?rest16V1bb
              case hy16V1bb => intro w9 hSw; go_simp; (try with_reducible rfl)
              try simp only [Act.put, s_put, s_0, s_1]
              refine wpAnyH_take (i := 17) (oi := ⟨some 66, .load 28 (.tmp 3), 28, _, _, _⟩) (v := ?v17V1bb) rfl (by kernel_rfl) (by kernel_rfl) (by kernel_rfl) (fun _ _ _ h => h) (Or.inl ⟨by rfl, ?hy17V1bb⟩) hHeld ?rest17V1bb
              case hy17V1bb => intro w9 hSw; obtain ⟨⟨d0, d1, d2, d3, d4, d5⟩, d6, d7, d8, d9, d10⟩ := (PX.out.later (hT.trans (hSw.mono hT.size))).at0; go_simp; (try with_reducible rfl)
              try simp only [Act.put, s_put, s_0, s_1]
              refine wpAnyH_ready (rs := [18]) (by kernel_rfl) (by simp) ?_
              refine AllReadyH.cons (o := ⟨some 67, .call { callee := .value (.func 10), args := #[.tmp 66], argTypes := #[28] }, 37, _, _, _⟩) rfl (fun K hK => ?_) AllReadyH.nil
              go_simp
              refine (M1.out _ hT).mono ?_
              rintro e x18 ⟨rfl, hN18⟩
              go_wp2_with fail
              have hT18 := btr hT hN18
              refine hK.out _ _ (btr hHeld hN18) (fun _ => held_up (bup hHeld hN18) _ _ _ _ ?_)
              clear hK K hHeld hT
              have hT := hT18
              have hHeld := brefl x18
              clear hT18 hN18
              try simp only [Act.put, s_put, s_0, s_1]
              refine wpAnyH_take (i := 19) (oi := ⟨some 68, .binOp BinOp.neq 37 (.tmp 67) (.const (Value.int IntKind.i64 0)) 37, 4, _, _, _⟩) (v := ?v19V1bb) rfl (by kernel_rfl) (by kernel_rfl) (by kernel_rfl) (fun _ _ _ h => h) (Or.inl ⟨by rfl, ?hy19V1bb⟩) hHeld ?rest19V1bb
              case hy19V1bb => intro w9 hSw; go_simp; (try with_reducible rfl)
              try simp only [Act.put, s_put, s_0, s_1]
              refine wpAnyH_take (i := 20) (oi := ⟨some 69, .move (.tmp 68), 4, _, _, _⟩) (v := ?v20V1bb) rfl (by kernel_rfl) (by kernel_rfl) (by kernel_rfl) (fun _ _ _ h => h) (Or.inl ⟨by rfl, ?hy20V1bb⟩) hHeld ?rest20V1bb
              case hy20V1bb => intro w9 hSw; go_simp; (try with_reducible rfl)
              try simp only [Act.put, s_put, s_0, s_1]
              refine wpAnyH_take (i := 21) (oi := ⟨some 70, .move (.tmp 10), 4, _, _, _⟩) (v := undef) rfl (by kernel_rfl) (by kernel_rfl) (by kernel_rfl) (fun _ _ _ h => h) (Or.inr ⟨by rfl, rfl⟩) hHeld ?rest21V1bb
              try simp only [Act.put, s_put, s_0, s_1]
              refine wpAnyH_take (i := 22) (oi := ⟨some 71, .unOp UnOp.not 4 (.tmp 70), 4, _, _, _⟩) (v := undef) rfl (by kernel_rfl) (by kernel_rfl) (by kernel_rfl) (fun _ _ _ h => h) (Or.inr ⟨by rfl, rfl⟩) hHeld ?rest22V1bb
              try simp only [Act.put, s_put, s_0, s_1]
              refine wpAnyH_take (i := 23) (oi := ⟨some 72, .pick (.tmp 69) (.const (Value.bool true)) (.tmp 71), 4, _, _, _⟩) (v := ?v23V1bb) rfl (by kernel_rfl) (by kernel_rfl) (by kernel_rfl) (fun _ _ _ h => h) (Or.inl ⟨by rfl, ?hy23V1bb⟩) hHeld ?rest23V1bb
              case hy23V1bb => intro w9 hSw; go_simp; (try with_reducible rfl)
              try simp only [Act.put, s_put, s_0, s_1]
              refine wpAnyH_take (i := 24) (oi := ⟨some 73, .move (.tmp 72), 4, _, _, _⟩) (v := ?v24V1bb) rfl (by kernel_rfl) (by kernel_rfl) (by kernel_rfl) (fun _ _ _ h => h) (Or.inl ⟨by rfl, ?hy24V1bb⟩) hHeld ?rest24V1bb
              case hy24V1bb => intro w9 hSw; go_simp; (try with_reducible rfl)
              try simp only [Act.put, s_put, s_0, s_1]
              refine wpAnyH_take (i := 25) (oi := ⟨some 74, .load 28 (.tmp 9), 28, _, _, _⟩) (v := undef) rfl (by kernel_rfl) (by kernel_rfl) (by kernel_rfl) (fun _ _ _ h => h) (Or.inr ⟨by rfl, rfl⟩) hHeld ?rest25V1bb
              try simp only [Act.put, s_put, s_0, s_1]
              refine wpAnyH_take (i := 26) (oi := ⟨some 75, .call { callee := .value (.func 10), args := #[.tmp 74], argTypes := #[28] }, 37, _, _, _⟩) (v := undef) rfl (by kernel_rfl) (by kernel_rfl) (by kernel_rfl) (fun _ _ _ h => h) (Or.inr ⟨by rfl, rfl⟩) hHeld ?rest26V1bb
              try simp only [Act.put, s_put, s_0, s_1]
              refine wpAnyH_take (i := 27) (oi := ⟨some 76, .binOp BinOp.eql 37 (.tmp 75) (.const (Value.int IntKind.i64 0)) 37, 4, _, _, _⟩) (v := undef) rfl (by kernel_rfl) (by kernel_rfl) (by kernel_rfl) (fun _ _ _ h => h) (Or.inr ⟨by rfl, rfl⟩) hHeld ?rest27V1bb
              try simp only [Act.put, s_put, s_0, s_1]
              refine wpAnyH_take (i := 28) (oi := ⟨some 77, .pick (.tmp 73) (.const (Value.bool true)) (.tmp 76), 4, _, _, _⟩) (v := ?v28V1bb) rfl (by kernel_rfl) (by kernel_rfl) (by kernel_rfl) (fun _ _ _ h => h) (Or.inl ⟨by rfl, ?hy28V1bb⟩) hHeld ?rest28V1bb
              case hy28V1bb => intro w9 hSw; go_simp; (try with_reducible rfl)
              try simp only [Act.put, s_put, s_0, s_1]
              refine wpAnyH_take (i := 29) (oi := ⟨some 78, .pick (.tmp 65) (.tmp 77) (.const (Value.bool false)), 4, _, _, _⟩) (v := ?v29V1bb) rfl (by kernel_rfl) (by kernel_rfl) (by kernel_rfl) (fun _ _ _ h => h) (Or.inl ⟨by rfl, ?hy29V1bb⟩) hHeld ?rest29V1bb
              case hy29V1bb => intro w9 hSw; go_simp; (try with_reducible rfl)
              try simp only [Act.put, s_put, s_0, s_1]
              refine wpAnyH_take (i := 30) (oi := ⟨some 79, .move (.tmp 78), 4, _, _, _⟩) (v := ?v30V1bb) rfl (by kernel_rfl) (by kernel_rfl) (by kernel_rfl) (fun _ _ _ h => h) (Or.inl ⟨by rfl, ?hy30V1bb⟩) hHeld ?rest30V1bb
              case hy30V1bb => intro w9 hSw; go_simp; (try with_reducible rfl)
              try simp only [Act.put, s_put, s_0, s_1]
              refine wpAnyH_ready (rs := [31]) (by kernel_rfl) (by simp) ?_
              refine AllReadyH.cons (o := ⟨some 80, .call { callee := .value (.func 6), args := #[], argTypes := #[] }, 4, _, _, _⟩) rfl (fun K hK => ?_) AllReadyH.nil
              go_simp
              refine (W1.out _).mono ?_
              rintro e x31 ⟨rfl, hN31⟩
              go_wp2_with fail
              have hT31 := btr hT hN31
              refine hK.out _ _ (btr hHeld hN31) (fun _ => held_up (bup hHeld hN31) _ _ _ _ ?_)
              clear hK K hHeld hT
              have hT := hT31
              have hHeld := brefl x31
              clear hT31 hN31
              try simp only [Act.put, s_put, s_0, s_1]
              refine wpAnyH_take (i := 32) (oi := ⟨some 81, .pick (.tmp 79) (.tmp 80) (.const (Value.bool false)), 4, _, _, _⟩) (v := ?v32V1bb) rfl (by kernel_rfl) (by kernel_rfl) (by kernel_rfl) (fun _ _ _ h => h) (Or.inl ⟨by rfl, ?hy32V1bb⟩) hHeld ?rest32V1bb
              case hy32V1bb => intro w9 hSw; go_simp; (try with_reducible rfl)
              try simp only [Act.put, s_put, s_0, s_1]
              refine wpAnyH_take (i := 33) (oi := ⟨some 6, .assign (.tmp 81), 4, _, _, _⟩) (v := ?v33V1bb) rfl (by kernel_rfl) (by kernel_rfl) (by kernel_rfl) (fun _ _ _ h => h) (Or.inl ⟨by rfl, ?hy33V1bb⟩) hHeld ?rest33V1bb
              case hy33V1bb => intro w9 hSw; go_simp; (try with_reducible rfl)
              try simp only [Act.put, s_put, s_0, s_1]
              refine wpAnyH_done (by kernel_rfl) ?_ _
              refine NoPanic.normal ?_
              go_wp2
              go_ret
              exact ⟨rfl, HB.out.trans ((HAW.out.trans (hT.mono HAW.out.size)).mono HB.out.size)⟩
        · clear h1
          go_upto_region 11 with fail
          refine wp_region_noPanic ?_
          refine wp_region_held_drew (S := fun w' => Below W.heap.size W w') (by kernel_rfl) ((Below.refl _ _).drew) (fun hHeld => ?_)
          have hT : Below W.heap.size W W.drew := hHeld
          obtain ⟨d, hdw⟩ : ∃ d, d = W.drew := ⟨_, rfl⟩
          rw [← hdw] at hHeld hT ⊢
          clear hdw
          refine wpAnyH_take (i := 0) (oi := ⟨some 49, .load 28 (.tmp 9), 28, _, _, _⟩) (v := ?v0V1c) rfl (by kernel_rfl) (by kernel_rfl) (by kernel_rfl) (fun _ _ _ h => h) (Or.inl ⟨by rfl, ?hy0V1c⟩) hHeld ?rest0V1c
          case hy0V1c => intro w9 hSw; obtain ⟨⟨d0, d1, d2, d3, d4, d5⟩, d6, d7, d8, d9, d10⟩ := (PY.out.later hSw).at0; go_simp; (try with_reducible rfl)
          try simp only [Act.put, s_put, s_0, s_1]
          refine wpAnyH_take (i := 1) (oi := ⟨some 50, .move (.tmp 2), 9, _, _, _⟩) (v := ?v1V1c) rfl (by kernel_rfl) (by kernel_rfl) (by kernel_rfl) (fun _ _ _ h => h) (Or.inl ⟨by rfl, ?hy1V1c⟩) hHeld ?rest1V1c
          case hy1V1c => intro w9 hSw; go_simp; (try with_reducible rfl)
          try simp only [Act.put, s_put, s_0, s_1]
          refine wpAnyH_take (i := 3) (oi := ⟨some 52, .move (.tmp 1), 9, _, _, _⟩) (v := ?v3V1c) rfl (by kernel_rfl) (by kernel_rfl) (by kernel_rfl) (fun _ _ _ h => h) (Or.inl ⟨by rfl, ?hy3V1c⟩) hHeld ?rest3V1c
          case hy3V1c => intro w9 hSw; go_simp; (try with_reducible rfl)
          try simp only [Act.put, s_put, s_0, s_1]
          refine wpAnyH_take (i := 6) (oi := ⟨some 55, .load 28 (.tmp 3), 28, _, _, _⟩) (v := ?v6V1c) rfl (by kernel_rfl) (by kernel_rfl) (by kernel_rfl) (fun _ _ _ h => h) (Or.inl ⟨by rfl, ?hy6V1c⟩) hHeld ?rest6V1c
          case hy6V1c => intro w9 hSw; obtain ⟨⟨d0, d1, d2, d3, d4, d5⟩, d6, d7, d8, d9, d10⟩ := (PX.out.later hSw).at0; go_simp; (try with_reducible rfl)
          try simp only [Act.put, s_put, s_0, s_1]
          refine wpAnyH_ready (rs := [2, 4]) (by kernel_rfl) (by simp) ?_
          refine AllReadyH.cons (o := ⟨some 51, .buildSlice 42 1 #[(0, .tmp 50)], 42, _, _, _⟩) rfl (fun K hK => ?_) (AllReadyH.cons (o := ⟨some 53, .buildSlice 42 1 #[(0, .tmp 52)], 42, _, _, _⟩) rfl (fun K hK => ?_) AllReadyH.nil)
          · go_simp
            obtain ⟨x2, hx2⟩ : ∃ x, d.alloc (.cells #[.string u] 9) = x := ⟨_, rfl⟩
            rw [hx2]
            have hN2 : Below d.heap.size d x2 := by rw [← hx2]; exact (Below.refl _ _).alloc (Nat.le_refl _) _
            have hX2 : Txs x2 (some ⟨d.heap.size, 0, none⟩) 1 (fun _ => u) := by rw [← hx2]; exact txs_new _ _
            clear hx2
            have hT2 := btr hT hN2
            refine hK.out _ _ (btr hHeld hN2) (fun _ => held_up (bup hHeld hN2) _ _ _ _ ?_)
            clear hK K hHeld hT
            have hT := hT2
            have hHeld := brefl x2
            clear hT2
            try simp only [Act.put, s_put, s_0, s_1]
            refine wpAnyH_ready (rs := [4]) (by kernel_rfl) (by simp) ?_
            refine AllReadyH.cons (o := ⟨some 53, .buildSlice 42 1 #[(0, .tmp 52)], 42, _, _, _⟩) rfl (fun K hK => ?_) AllReadyH.nil
            go_simp
            obtain ⟨x4, hx4⟩ : ∃ x, x2.alloc (.cells #[.string v] 9) = x := ⟨_, rfl⟩
            rw [hx4]
            have hN4 : Below x2.heap.size x2 x4 := by rw [← hx4]; exact (Below.refl _ _).alloc (Nat.le_refl _) _
            have hX4 : Txs x4 (some ⟨x2.heap.size, 0, none⟩) 1 (fun _ => v) := by rw [← hx4]; exact txs_new _ _
            clear hx4
            have hT4 := btr hT hN4
            refine hK.out _ _ (btr hHeld hN4) (fun _ => held_up (bup hHeld hN4) _ _ _ _ ?_)
            clear hK K hHeld hT
            have hT := hT4
            have hHeld := brefl x4
            clear hT4
            try simp only [Act.put, s_put, s_0, s_1]
            refine wpAnyH_ready (rs := [5]) (by kernel_rfl) (by simp) ?_
            refine AllReadyH.cons (o := ⟨some 54, .call { callee := .value (.func 17), args := #[.tmp 49, .tmp 51, .tmp 53], argTypes := #[28, 42, 42] }, 28, _, _, _⟩) rfl (fun K hK => ?_) AllReadyH.nil
            go_simp
            refine (R2.out _ hT _ _ (hX2.later hN4) hX4).mono ?_
            rintro e x5 ⟨z5, rfl, hz1, hz2, hN5⟩
            have C7 : Hid (Calls Tryz.prog 12 #[z5.val, x.val] x5 fun e w2 => e = .returned (.bool true) ∧ Below x5.heap.size x5 w2) := SM.out z5 x5 hz1.out hz2.out (hT.trans (hN5.mono hT.size))
            go_wp2_with fail
            have hT5 := btr hT hN5
            refine hK.out _ _ (btr hHeld hN5) (fun _ => held_up (bup hHeld hN5) _ _ _ _ ?_)
            clear hK K hHeld hT
            have hT := hT5
            have hHeld := brefl x5
            clear hT5 hN5
            try simp only [Act.put, s_put, s_0, s_1]
            refine wpAnyH_ready (rs := [7]) (by kernel_rfl) (by simp) ?_
            refine AllReadyH.cons (o := ⟨some 56, .call { callee := .value (.func 12), args := #[.tmp 54, .tmp 55], argTypes := #[28, 28] }, 4, _, _, _⟩) rfl (fun K hK => ?_) AllReadyH.nil
            go_simp
            refine (C7.out).mono ?_
            rintro e x7 ⟨rfl, hN7⟩
            go_wp2_with fail
            have hT7 := btr hT hN7
            refine hK.out _ _ (btr hHeld hN7) (fun _ => held_up (bup hHeld hN7) _ _ _ _ ?_)
            clear hK K hHeld hT
            have hT := hT7
            have hHeld := brefl x7
            clear hT7 hN7
            try simp only [Act.put, s_put, s_0, s_1]
            refine wpAnyH_take (i := 8) (oi := ⟨some 57, .move (.tmp 56), 4, _, _, _⟩) (v := ?v8V1ca) rfl (by kernel_rfl) (by kernel_rfl) (by kernel_rfl) (fun _ _ _ h => h) (Or.inl ⟨by rfl, ?hy8V1ca⟩) hHeld ?rest8V1ca
            case hy8V1ca => intro w9 hSw; go_simp; (try with_reducible rfl)
            try simp only [Act.put, s_put, s_0, s_1]
            refine wpAnyH_take (i := 9) (oi := ⟨some 58, .load 28 (.tmp 9), 28, _, _, _⟩) (v := ?v9V1ca) rfl (by kernel_rfl) (by kernel_rfl) (by kernel_rfl) (fun _ _ _ h => h) (Or.inl ⟨by rfl, ?hy9V1ca⟩) hHeld ?rest9V1ca
            case hy9V1ca => intro w9 hSw; obtain ⟨⟨d0, d1, d2, d3, d4, d5⟩, d6, d7, d8, d9, d10⟩ := (PY.out.later (hT.trans (hSw.mono hT.size))).at0; go_simp; (try with_reducible rfl)
            try simp only [Act.put, s_put, s_0, s_1]
            refine wpAnyH_take (i := 12) (oi := ⟨some 61, .move (.tmp 7), 42, _, _, _⟩) (v := ?v12V1ca) rfl (by kernel_rfl) (by kernel_rfl) (by kernel_rfl) (fun _ _ _ h => h) (Or.inl ⟨by rfl, ?hy12V1ca⟩) hHeld ?rest12V1ca
            case hy12V1ca => intro w9 hSw; go_simp; (try with_reducible rfl)
            try simp only [Act.put, s_put, s_0, s_1]
            refine wpAnyH_take (i := 13) (oi := ⟨some 62, .call { callee := .builtin Builtin.len, args := #[.tmp 61], argTypes := #[42] }, 3, _, _, _⟩) (v := ?v13V1ca) rfl (by kernel_rfl) (by kernel_rfl) (by kernel_rfl) (fun _ _ _ h => h) (Or.inl ⟨by rfl, ?hy13V1ca⟩) hHeld ?rest13V1ca
            case hy13V1ca => intro w9 hSw; go_simp; (try with_reducible rfl)
            try simp only [Act.put, s_put, s_0, s_1]
            refine wpAnyH_ready (rs := [10]) (by kernel_rfl) (by simp) ?_
            refine AllReadyH.cons (o := ⟨some 59, .call { callee := .value (.func 15), args := #[.tmp 58], argTypes := #[28] }, 42, _, _, _⟩) rfl (fun K hK => ?_) AllReadyH.nil
            go_simp
            refine (V2.out _ hT).mono ?_
            rintro e x10 ⟨al2, cap2, rfl, hN10⟩
            go_wp2_with fail
            have hT10 := btr hT hN10
            refine hK.out _ _ (btr hHeld hN10) (fun _ => held_up (bup hHeld hN10) _ _ _ _ ?_)
            clear hK K hHeld hT
            have hT := hT10
            have hHeld := brefl x10
            clear hT10 hN10
            try simp only [Act.put, s_put, s_0, s_1]
            refine wpAnyH_take (i := 11) (oi := ⟨some 60, .call { callee := .builtin Builtin.len, args := #[.tmp 59], argTypes := #[42] }, 3, _, _, _⟩) (v := ?v11V1ca) rfl (by kernel_rfl) (by kernel_rfl) (by kernel_rfl) (fun _ _ _ h => h) (Or.inl ⟨by rfl, ?hy11V1ca⟩) hHeld ?rest11V1ca
            case hy11V1ca => intro w9 hSw; go_simp; (try with_reducible rfl)
            try simp only [Act.put, s_put, s_0, s_1]
            refine wpAnyH_take (i := 14) (oi := ⟨some 63, .binOp BinOp.eql 3 (.tmp 60) (.tmp 62) 3, 4, _, _, _⟩) (v := ?v14V1ca) rfl (by kernel_rfl) (by kernel_rfl) (by kernel_rfl) (fun _ _ _ h => h) (Or.inl ⟨by rfl, ?hy14V1ca⟩) hHeld ?rest14V1ca
            case hy14V1ca => intro w9 hSw; go_simp; (try with_reducible rfl)
            try simp only [Act.put, s_put, s_0, s_1]
            refine wpAnyH_take (i := 15) (oi := ⟨some 64, .pick (.tmp 57) (.tmp 63) (.const (Value.bool false)), 4, _, _, _⟩) (v := ?v15V1ca) rfl (by kernel_rfl) (by kernel_rfl) (by kernel_rfl) (fun _ _ _ h => h) (Or.inl ⟨by rfl, ?hy15V1ca⟩) hHeld ?rest15V1ca
            case hy15V1ca => intro w9 hSw; go_simp; (try with_reducible rfl)
            try simp only [Act.put, s_put, s_0, s_1]
            refine wpAnyH_take (i := 16) (oi := ⟨some 65, .move (.tmp 64), 4, _, _, _⟩) (v := ?v16V1ca) rfl (by kernel_rfl) (by kernel_rfl) (by kernel_rfl) (fun _ _ _ h => h) (Or.inl ⟨by rfl, ?hy16V1ca⟩) hHeld ?rest16V1ca
            case hy16V1ca => intro w9 hSw; go_simp; (try with_reducible rfl)
            try simp only [Act.put, s_put, s_0, s_1]
            refine wpAnyH_take (i := 17) (oi := ⟨some 66, .load 28 (.tmp 3), 28, _, _, _⟩) (v := ?v17V1ca) rfl (by kernel_rfl) (by kernel_rfl) (by kernel_rfl) (fun _ _ _ h => h) (Or.inl ⟨by rfl, ?hy17V1ca⟩) hHeld ?rest17V1ca
            case hy17V1ca => intro w9 hSw; obtain ⟨⟨d0, d1, d2, d3, d4, d5⟩, d6, d7, d8, d9, d10⟩ := (PX.out.later (hT.trans (hSw.mono hT.size))).at0; go_simp; (try with_reducible rfl)
            try simp only [Act.put, s_put, s_0, s_1]
            refine wpAnyH_ready (rs := [18]) (by kernel_rfl) (by simp) ?_
            refine AllReadyH.cons (o := ⟨some 67, .call { callee := .value (.func 10), args := #[.tmp 66], argTypes := #[28] }, 37, _, _, _⟩) rfl (fun K hK => ?_) AllReadyH.nil
            go_simp
            refine (M1.out _ hT).mono ?_
            rintro e x18 ⟨rfl, hN18⟩
            go_wp2_with fail
            have hT18 := btr hT hN18
            refine hK.out _ _ (btr hHeld hN18) (fun _ => held_up (bup hHeld hN18) _ _ _ _ ?_)
            clear hK K hHeld hT
            have hT := hT18
            have hHeld := brefl x18
            clear hT18 hN18
            try simp only [Act.put, s_put, s_0, s_1]
            refine wpAnyH_take (i := 19) (oi := ⟨some 68, .binOp BinOp.neq 37 (.tmp 67) (.const (Value.int IntKind.i64 0)) 37, 4, _, _, _⟩) (v := ?v19V1ca) rfl (by kernel_rfl) (by kernel_rfl) (by kernel_rfl) (fun _ _ _ h => h) (Or.inl ⟨by rfl, ?hy19V1ca⟩) hHeld ?rest19V1ca
            case hy19V1ca => intro w9 hSw; go_simp; (try with_reducible rfl)
            try simp only [Act.put, s_put, s_0, s_1]
            refine wpAnyH_take (i := 20) (oi := ⟨some 69, .move (.tmp 68), 4, _, _, _⟩) (v := ?v20V1ca) rfl (by kernel_rfl) (by kernel_rfl) (by kernel_rfl) (fun _ _ _ h => h) (Or.inl ⟨by rfl, ?hy20V1ca⟩) hHeld ?rest20V1ca
            case hy20V1ca => intro w9 hSw; go_simp; (try with_reducible rfl)
            try simp only [Act.put, s_put, s_0, s_1]
            refine wpAnyH_take (i := 21) (oi := ⟨some 70, .move (.tmp 10), 4, _, _, _⟩) (v := undef) rfl (by kernel_rfl) (by kernel_rfl) (by kernel_rfl) (fun _ _ _ h => h) (Or.inr ⟨by rfl, rfl⟩) hHeld ?rest21V1ca
            try simp only [Act.put, s_put, s_0, s_1]
            refine wpAnyH_take (i := 22) (oi := ⟨some 71, .unOp UnOp.not 4 (.tmp 70), 4, _, _, _⟩) (v := undef) rfl (by kernel_rfl) (by kernel_rfl) (by kernel_rfl) (fun _ _ _ h => h) (Or.inr ⟨by rfl, rfl⟩) hHeld ?rest22V1ca
            try simp only [Act.put, s_put, s_0, s_1]
            refine wpAnyH_take (i := 23) (oi := ⟨some 72, .pick (.tmp 69) (.const (Value.bool true)) (.tmp 71), 4, _, _, _⟩) (v := ?v23V1ca) rfl (by kernel_rfl) (by kernel_rfl) (by kernel_rfl) (fun _ _ _ h => h) (Or.inl ⟨by rfl, ?hy23V1ca⟩) hHeld ?rest23V1ca
            case hy23V1ca => intro w9 hSw; go_simp; (try with_reducible rfl)
            try simp only [Act.put, s_put, s_0, s_1]
            refine wpAnyH_take (i := 24) (oi := ⟨some 73, .move (.tmp 72), 4, _, _, _⟩) (v := ?v24V1ca) rfl (by kernel_rfl) (by kernel_rfl) (by kernel_rfl) (fun _ _ _ h => h) (Or.inl ⟨by rfl, ?hy24V1ca⟩) hHeld ?rest24V1ca
            case hy24V1ca => intro w9 hSw; go_simp; (try with_reducible rfl)
            try simp only [Act.put, s_put, s_0, s_1]
            refine wpAnyH_take (i := 25) (oi := ⟨some 74, .load 28 (.tmp 9), 28, _, _, _⟩) (v := undef) rfl (by kernel_rfl) (by kernel_rfl) (by kernel_rfl) (fun _ _ _ h => h) (Or.inr ⟨by rfl, rfl⟩) hHeld ?rest25V1ca
            try simp only [Act.put, s_put, s_0, s_1]
            refine wpAnyH_take (i := 26) (oi := ⟨some 75, .call { callee := .value (.func 10), args := #[.tmp 74], argTypes := #[28] }, 37, _, _, _⟩) (v := undef) rfl (by kernel_rfl) (by kernel_rfl) (by kernel_rfl) (fun _ _ _ h => h) (Or.inr ⟨by rfl, rfl⟩) hHeld ?rest26V1ca
            try simp only [Act.put, s_put, s_0, s_1]
            refine wpAnyH_take (i := 27) (oi := ⟨some 76, .binOp BinOp.eql 37 (.tmp 75) (.const (Value.int IntKind.i64 0)) 37, 4, _, _, _⟩) (v := undef) rfl (by kernel_rfl) (by kernel_rfl) (by kernel_rfl) (fun _ _ _ h => h) (Or.inr ⟨by rfl, rfl⟩) hHeld ?rest27V1ca
            try simp only [Act.put, s_put, s_0, s_1]
            refine wpAnyH_take (i := 28) (oi := ⟨some 77, .pick (.tmp 73) (.const (Value.bool true)) (.tmp 76), 4, _, _, _⟩) (v := ?v28V1ca) rfl (by kernel_rfl) (by kernel_rfl) (by kernel_rfl) (fun _ _ _ h => h) (Or.inl ⟨by rfl, ?hy28V1ca⟩) hHeld ?rest28V1ca
            case hy28V1ca => intro w9 hSw; go_simp; (try with_reducible rfl)
            try simp only [Act.put, s_put, s_0, s_1]
            refine wpAnyH_take (i := 29) (oi := ⟨some 78, .pick (.tmp 65) (.tmp 77) (.const (Value.bool false)), 4, _, _, _⟩) (v := ?v29V1ca) rfl (by kernel_rfl) (by kernel_rfl) (by kernel_rfl) (fun _ _ _ h => h) (Or.inl ⟨by rfl, ?hy29V1ca⟩) hHeld ?rest29V1ca
            case hy29V1ca => intro w9 hSw; go_simp; (try with_reducible rfl)
            try simp only [Act.put, s_put, s_0, s_1]
            refine wpAnyH_take (i := 30) (oi := ⟨some 79, .move (.tmp 78), 4, _, _, _⟩) (v := ?v30V1ca) rfl (by kernel_rfl) (by kernel_rfl) (by kernel_rfl) (fun _ _ _ h => h) (Or.inl ⟨by rfl, ?hy30V1ca⟩) hHeld ?rest30V1ca
            case hy30V1ca => intro w9 hSw; go_simp; (try with_reducible rfl)
            try simp only [Act.put, s_put, s_0, s_1]
            refine wpAnyH_ready (rs := [31]) (by kernel_rfl) (by simp) ?_
            refine AllReadyH.cons (o := ⟨some 80, .call { callee := .value (.func 6), args := #[], argTypes := #[] }, 4, _, _, _⟩) rfl (fun K hK => ?_) AllReadyH.nil
            go_simp
            refine (W1.out _).mono ?_
            rintro e x31 ⟨rfl, hN31⟩
            go_wp2_with fail
            have hT31 := btr hT hN31
            refine hK.out _ _ (btr hHeld hN31) (fun _ => held_up (bup hHeld hN31) _ _ _ _ ?_)
            clear hK K hHeld hT
            have hT := hT31
            have hHeld := brefl x31
            clear hT31 hN31
            try simp only [Act.put, s_put, s_0, s_1]
            refine wpAnyH_take (i := 32) (oi := ⟨some 81, .pick (.tmp 79) (.tmp 80) (.const (Value.bool false)), 4, _, _, _⟩) (v := ?v32V1ca) rfl (by kernel_rfl) (by kernel_rfl) (by kernel_rfl) (fun _ _ _ h => h) (Or.inl ⟨by rfl, ?hy32V1ca⟩) hHeld ?rest32V1ca
            case hy32V1ca => intro w9 hSw; go_simp; (try with_reducible rfl)
            try simp only [Act.put, s_put, s_0, s_1]
            refine wpAnyH_take (i := 33) (oi := ⟨some 6, .assign (.tmp 81), 4, _, _, _⟩) (v := ?v33V1ca) rfl (by kernel_rfl) (by kernel_rfl) (by kernel_rfl) (fun _ _ _ h => h) (Or.inl ⟨by rfl, ?hy33V1ca⟩) hHeld ?rest33V1ca
            case hy33V1ca => intro w9 hSw; go_simp; (try with_reducible rfl)
            try simp only [Act.put, s_put, s_0, s_1]
            refine wpAnyH_done (by kernel_rfl) ?_ _
            refine NoPanic.normal ?_
            go_wp2
            go_ret
            exact ⟨rfl, HB.out.trans ((HAW.out.trans (hT.mono HAW.out.size)).mono HB.out.size)⟩
          · go_simp
            obtain ⟨x4, hx4⟩ : ∃ x, d.alloc (.cells #[.string v] 9) = x := ⟨_, rfl⟩
            rw [hx4]
            have hN4 : Below d.heap.size d x4 := by rw [← hx4]; exact (Below.refl _ _).alloc (Nat.le_refl _) _
            have hX4 : Txs x4 (some ⟨d.heap.size, 0, none⟩) 1 (fun _ => v) := by rw [← hx4]; exact txs_new _ _
            clear hx4
            have hT4 := btr hT hN4
            refine hK.out _ _ (btr hHeld hN4) (fun _ => held_up (bup hHeld hN4) _ _ _ _ ?_)
            clear hK K hHeld hT
            have hT := hT4
            have hHeld := brefl x4
            clear hT4
            try simp only [Act.put, s_put, s_0, s_1]
            refine wpAnyH_ready (rs := [2]) (by kernel_rfl) (by simp) ?_
            refine AllReadyH.cons (o := ⟨some 51, .buildSlice 42 1 #[(0, .tmp 50)], 42, _, _, _⟩) rfl (fun K hK => ?_) AllReadyH.nil
            go_simp
            obtain ⟨x2, hx2⟩ : ∃ x, x4.alloc (.cells #[.string u] 9) = x := ⟨_, rfl⟩
            rw [hx2]
            have hN2 : Below x4.heap.size x4 x2 := by rw [← hx2]; exact (Below.refl _ _).alloc (Nat.le_refl _) _
            have hX2 : Txs x2 (some ⟨x4.heap.size, 0, none⟩) 1 (fun _ => u) := by rw [← hx2]; exact txs_new _ _
            clear hx2
            have hT2 := btr hT hN2
            refine hK.out _ _ (btr hHeld hN2) (fun _ => held_up (bup hHeld hN2) _ _ _ _ ?_)
            clear hK K hHeld hT
            have hT := hT2
            have hHeld := brefl x2
            clear hT2
            try simp only [Act.put, s_put, s_0, s_1]
            refine wpAnyH_ready (rs := [5]) (by kernel_rfl) (by simp) ?_
            refine AllReadyH.cons (o := ⟨some 54, .call { callee := .value (.func 17), args := #[.tmp 49, .tmp 51, .tmp 53], argTypes := #[28, 42, 42] }, 28, _, _, _⟩) rfl (fun K hK => ?_) AllReadyH.nil
            go_simp
            refine (R2.out _ hT _ _ hX2 (hX4.later hN2)).mono ?_
            rintro e x5 ⟨z5, rfl, hz1, hz2, hN5⟩
            have C7 : Hid (Calls Tryz.prog 12 #[z5.val, x.val] x5 fun e w2 => e = .returned (.bool true) ∧ Below x5.heap.size x5 w2) := SM.out z5 x5 hz1.out hz2.out (hT.trans (hN5.mono hT.size))
            go_wp2_with fail
            have hT5 := btr hT hN5
            refine hK.out _ _ (btr hHeld hN5) (fun _ => held_up (bup hHeld hN5) _ _ _ _ ?_)
            clear hK K hHeld hT
            have hT := hT5
            have hHeld := brefl x5
            clear hT5 hN5
            try simp only [Act.put, s_put, s_0, s_1]
            refine wpAnyH_ready (rs := [7]) (by kernel_rfl) (by simp) ?_
            refine AllReadyH.cons (o := ⟨some 56, .call { callee := .value (.func 12), args := #[.tmp 54, .tmp 55], argTypes := #[28, 28] }, 4, _, _, _⟩) rfl (fun K hK => ?_) AllReadyH.nil
            go_simp
            refine (C7.out).mono ?_
            rintro e x7 ⟨rfl, hN7⟩
            go_wp2_with fail
            have hT7 := btr hT hN7
            refine hK.out _ _ (btr hHeld hN7) (fun _ => held_up (bup hHeld hN7) _ _ _ _ ?_)
            clear hK K hHeld hT
            have hT := hT7
            have hHeld := brefl x7
            clear hT7 hN7
            try simp only [Act.put, s_put, s_0, s_1]
            refine wpAnyH_take (i := 8) (oi := ⟨some 57, .move (.tmp 56), 4, _, _, _⟩) (v := ?v8V1cb) rfl (by kernel_rfl) (by kernel_rfl) (by kernel_rfl) (fun _ _ _ h => h) (Or.inl ⟨by rfl, ?hy8V1cb⟩) hHeld ?rest8V1cb
            case hy8V1cb => intro w9 hSw; go_simp; (try with_reducible rfl)
            try simp only [Act.put, s_put, s_0, s_1]
            refine wpAnyH_take (i := 9) (oi := ⟨some 58, .load 28 (.tmp 9), 28, _, _, _⟩) (v := ?v9V1cb) rfl (by kernel_rfl) (by kernel_rfl) (by kernel_rfl) (fun _ _ _ h => h) (Or.inl ⟨by rfl, ?hy9V1cb⟩) hHeld ?rest9V1cb
            case hy9V1cb => intro w9 hSw; obtain ⟨⟨d0, d1, d2, d3, d4, d5⟩, d6, d7, d8, d9, d10⟩ := (PY.out.later (hT.trans (hSw.mono hT.size))).at0; go_simp; (try with_reducible rfl)
            try simp only [Act.put, s_put, s_0, s_1]
            refine wpAnyH_take (i := 12) (oi := ⟨some 61, .move (.tmp 7), 42, _, _, _⟩) (v := ?v12V1cb) rfl (by kernel_rfl) (by kernel_rfl) (by kernel_rfl) (fun _ _ _ h => h) (Or.inl ⟨by rfl, ?hy12V1cb⟩) hHeld ?rest12V1cb
            case hy12V1cb => intro w9 hSw; go_simp; (try with_reducible rfl)
            try simp only [Act.put, s_put, s_0, s_1]
            refine wpAnyH_take (i := 13) (oi := ⟨some 62, .call { callee := .builtin Builtin.len, args := #[.tmp 61], argTypes := #[42] }, 3, _, _, _⟩) (v := ?v13V1cb) rfl (by kernel_rfl) (by kernel_rfl) (by kernel_rfl) (fun _ _ _ h => h) (Or.inl ⟨by rfl, ?hy13V1cb⟩) hHeld ?rest13V1cb
            case hy13V1cb => intro w9 hSw; go_simp; (try with_reducible rfl)
            try simp only [Act.put, s_put, s_0, s_1]
            refine wpAnyH_ready (rs := [10]) (by kernel_rfl) (by simp) ?_
            refine AllReadyH.cons (o := ⟨some 59, .call { callee := .value (.func 15), args := #[.tmp 58], argTypes := #[28] }, 42, _, _, _⟩) rfl (fun K hK => ?_) AllReadyH.nil
            go_simp
            refine (V2.out _ hT).mono ?_
            rintro e x10 ⟨al2, cap2, rfl, hN10⟩
            go_wp2_with fail
            have hT10 := btr hT hN10
            refine hK.out _ _ (btr hHeld hN10) (fun _ => held_up (bup hHeld hN10) _ _ _ _ ?_)
            clear hK K hHeld hT
            have hT := hT10
            have hHeld := brefl x10
            clear hT10 hN10
            try simp only [Act.put, s_put, s_0, s_1]
            refine wpAnyH_take (i := 11) (oi := ⟨some 60, .call { callee := .builtin Builtin.len, args := #[.tmp 59], argTypes := #[42] }, 3, _, _, _⟩) (v := ?v11V1cb) rfl (by kernel_rfl) (by kernel_rfl) (by kernel_rfl) (fun _ _ _ h => h) (Or.inl ⟨by rfl, ?hy11V1cb⟩) hHeld ?rest11V1cb
            case hy11V1cb => intro w9 hSw; go_simp; (try with_reducible rfl)
            try simp only [Act.put, s_put, s_0, s_1]
            refine wpAnyH_take (i := 14) (oi := ⟨some 63, .binOp BinOp.eql 3 (.tmp 60) (.tmp 62) 3, 4, _, _, _⟩) (v := ?v14V1cb) rfl (by kernel_rfl) (by kernel_rfl) (by kernel_rfl) (fun _ _ _ h => h) (Or.inl ⟨by rfl, ?hy14V1cb⟩) hHeld ?rest14V1cb
            case hy14V1cb => intro w9 hSw; go_simp; (try with_reducible rfl)
            try simp only [Act.put, s_put, s_0, s_1]
            refine wpAnyH_take (i := 15) (oi := ⟨some 64, .pick (.tmp 57) (.tmp 63) (.const (Value.bool false)), 4, _, _, _⟩) (v := ?v15V1cb) rfl (by kernel_rfl) (by kernel_rfl) (by kernel_rfl) (fun _ _ _ h => h) (Or.inl ⟨by rfl, ?hy15V1cb⟩) hHeld ?rest15V1cb
            case hy15V1cb => intro w9 hSw; go_simp; (try with_reducible rfl)
            try simp only [Act.put, s_put, s_0, s_1]
            refine wpAnyH_take (i := 16) (oi := ⟨some 65, .move (.tmp 64), 4, _, _, _⟩) (v := ?v16V1cb) rfl (by kernel_rfl) (by kernel_rfl) (by kernel_rfl) (fun _ _ _ h => h) (Or.inl ⟨by rfl, ?hy16V1cb⟩) hHeld ?rest16V1cb
            case hy16V1cb => intro w9 hSw; go_simp; (try with_reducible rfl)
            try simp only [Act.put, s_put, s_0, s_1]
            refine wpAnyH_take (i := 17) (oi := ⟨some 66, .load 28 (.tmp 3), 28, _, _, _⟩) (v := ?v17V1cb) rfl (by kernel_rfl) (by kernel_rfl) (by kernel_rfl) (fun _ _ _ h => h) (Or.inl ⟨by rfl, ?hy17V1cb⟩) hHeld ?rest17V1cb
            case hy17V1cb => intro w9 hSw; obtain ⟨⟨d0, d1, d2, d3, d4, d5⟩, d6, d7, d8, d9, d10⟩ := (PX.out.later (hT.trans (hSw.mono hT.size))).at0; go_simp; (try with_reducible rfl)
            try simp only [Act.put, s_put, s_0, s_1]
            refine wpAnyH_ready (rs := [18]) (by kernel_rfl) (by simp) ?_
            refine AllReadyH.cons (o := ⟨some 67, .call { callee := .value (.func 10), args := #[.tmp 66], argTypes := #[28] }, 37, _, _, _⟩) rfl (fun K hK => ?_) AllReadyH.nil
            go_simp
            refine (M1.out _ hT).mono ?_
            rintro e x18 ⟨rfl, hN18⟩
            go_wp2_with fail
            have hT18 := btr hT hN18
            refine hK.out _ _ (btr hHeld hN18) (fun _ => held_up (bup hHeld hN18) _ _ _ _ ?_)
            clear hK K hHeld hT
            have hT := hT18
            have hHeld := brefl x18
            clear hT18 hN18
            try simp only [Act.put, s_put, s_0, s_1]
            refine wpAnyH_take (i := 19) (oi := ⟨some 68, .binOp BinOp.neq 37 (.tmp 67) (.const (Value.int IntKind.i64 0)) 37, 4, _, _, _⟩) (v := ?v19V1cb) rfl (by kernel_rfl) (by kernel_rfl) (by kernel_rfl) (fun _ _ _ h => h) (Or.inl ⟨by rfl, ?hy19V1cb⟩) hHeld ?rest19V1cb
            case hy19V1cb => intro w9 hSw; go_simp; (try with_reducible rfl)
            try simp only [Act.put, s_put, s_0, s_1]
            refine wpAnyH_take (i := 20) (oi := ⟨some 69, .move (.tmp 68), 4, _, _, _⟩) (v := ?v20V1cb) rfl (by kernel_rfl) (by kernel_rfl) (by kernel_rfl) (fun _ _ _ h => h) (Or.inl ⟨by rfl, ?hy20V1cb⟩) hHeld ?rest20V1cb
            case hy20V1cb => intro w9 hSw; go_simp; (try with_reducible rfl)
            try simp only [Act.put, s_put, s_0, s_1]
            refine wpAnyH_take (i := 21) (oi := ⟨some 70, .move (.tmp 10), 4, _, _, _⟩) (v := undef) rfl (by kernel_rfl) (by kernel_rfl) (by kernel_rfl) (fun _ _ _ h => h) (Or.inr ⟨by rfl, rfl⟩) hHeld ?rest21V1cb
            try simp only [Act.put, s_put, s_0, s_1]
            refine wpAnyH_take (i := 22) (oi := ⟨some 71, .unOp UnOp.not 4 (.tmp 70), 4, _, _, _⟩) (v := undef) rfl (by kernel_rfl) (by kernel_rfl) (by kernel_rfl) (fun _ _ _ h => h) (Or.inr ⟨by rfl, rfl⟩) hHeld ?rest22V1cb
            try simp only [Act.put, s_put, s_0, s_1]
            refine wpAnyH_take (i := 23) (oi := ⟨some 72, .pick (.tmp 69) (.const (Value.bool true)) (.tmp 71), 4, _, _, _⟩) (v := ?v23V1cb) rfl (by kernel_rfl) (by kernel_rfl) (by kernel_rfl) (fun _ _ _ h => h) (Or.inl ⟨by rfl, ?hy23V1cb⟩) hHeld ?rest23V1cb
            case hy23V1cb => intro w9 hSw; go_simp; (try with_reducible rfl)
            try simp only [Act.put, s_put, s_0, s_1]
            refine wpAnyH_take (i := 24) (oi := ⟨some 73, .move (.tmp 72), 4, _, _, _⟩) (v := ?v24V1cb) rfl (by kernel_rfl) (by kernel_rfl) (by kernel_rfl) (fun _ _ _ h => h) (Or.inl ⟨by rfl, ?hy24V1cb⟩) hHeld ?rest24V1cb
            case hy24V1cb => intro w9 hSw; go_simp; (try with_reducible rfl)
            try simp only [Act.put, s_put, s_0, s_1]
            refine wpAnyH_take (i := 25) (oi := ⟨some 74, .load 28 (.tmp 9), 28, _, _, _⟩) (v := undef) rfl (by kernel_rfl) (by kernel_rfl) (by kernel_rfl) (fun _ _ _ h => h) (Or.inr ⟨by rfl, rfl⟩) hHeld ?rest25V1cb
            try simp only [Act.put, s_put, s_0, s_1]
            refine wpAnyH_take (i := 26) (oi := ⟨some 75, .call { callee := .value (.func 10), args := #[.tmp 74], argTypes := #[28] }, 37, _, _, _⟩) (v := undef) rfl (by kernel_rfl) (by kernel_rfl) (by kernel_rfl) (fun _ _ _ h => h) (Or.inr ⟨by rfl, rfl⟩) hHeld ?rest26V1cb
            try simp only [Act.put, s_put, s_0, s_1]
            refine wpAnyH_take (i := 27) (oi := ⟨some 76, .binOp BinOp.eql 37 (.tmp 75) (.const (Value.int IntKind.i64 0)) 37, 4, _, _, _⟩) (v := undef) rfl (by kernel_rfl) (by kernel_rfl) (by kernel_rfl) (fun _ _ _ h => h) (Or.inr ⟨by rfl, rfl⟩) hHeld ?rest27V1cb
            try simp only [Act.put, s_put, s_0, s_1]
            refine wpAnyH_take (i := 28) (oi := ⟨some 77, .pick (.tmp 73) (.const (Value.bool true)) (.tmp 76), 4, _, _, _⟩) (v := ?v28V1cb) rfl (by kernel_rfl) (by kernel_rfl) (by kernel_rfl) (fun _ _ _ h => h) (Or.inl ⟨by rfl, ?hy28V1cb⟩) hHeld ?rest28V1cb
            case hy28V1cb => intro w9 hSw; go_simp; (try with_reducible rfl)
            try simp only [Act.put, s_put, s_0, s_1]
            refine wpAnyH_take (i := 29) (oi := ⟨some 78, .pick (.tmp 65) (.tmp 77) (.const (Value.bool false)), 4, _, _, _⟩) (v := ?v29V1cb) rfl (by kernel_rfl) (by kernel_rfl) (by kernel_rfl) (fun _ _ _ h => h) (Or.inl ⟨by rfl, ?hy29V1cb⟩) hHeld ?rest29V1cb
            case hy29V1cb => intro w9 hSw; go_simp; (try with_reducible rfl)
            try simp only [Act.put, s_put, s_0, s_1]
            refine wpAnyH_take (i := 30) (oi := ⟨some 79, .move (.tmp 78), 4, _, _, _⟩) (v := ?v30V1cb) rfl (by kernel_rfl) (by kernel_rfl) (by kernel_rfl) (fun _ _ _ h => h) (Or.inl ⟨by rfl, ?hy30V1cb⟩) hHeld ?rest30V1cb
            case hy30V1cb => intro w9 hSw; go_simp; (try with_reducible rfl)
            try simp only [Act.put, s_put, s_0, s_1]
            refine wpAnyH_ready (rs := [31]) (by kernel_rfl) (by simp) ?_
            refine AllReadyH.cons (o := ⟨some 80, .call { callee := .value (.func 6), args := #[], argTypes := #[] }, 4, _, _, _⟩) rfl (fun K hK => ?_) AllReadyH.nil
            go_simp
            refine (W1.out _).mono ?_
            rintro e x31 ⟨rfl, hN31⟩
            go_wp2_with fail
            have hT31 := btr hT hN31
            refine hK.out _ _ (btr hHeld hN31) (fun _ => held_up (bup hHeld hN31) _ _ _ _ ?_)
            clear hK K hHeld hT
            have hT := hT31
            have hHeld := brefl x31
            clear hT31 hN31
            try simp only [Act.put, s_put, s_0, s_1]
            refine wpAnyH_take (i := 32) (oi := ⟨some 81, .pick (.tmp 79) (.tmp 80) (.const (Value.bool false)), 4, _, _, _⟩) (v := ?v32V1cb) rfl (by kernel_rfl) (by kernel_rfl) (by kernel_rfl) (fun _ _ _ h => h) (Or.inl ⟨by rfl, ?hy32V1cb⟩) hHeld ?rest32V1cb
            case hy32V1cb => intro w9 hSw; go_simp; (try with_reducible rfl)
            try simp only [Act.put, s_put, s_0, s_1]
            refine wpAnyH_take (i := 33) (oi := ⟨some 6, .assign (.tmp 81), 4, _, _, _⟩) (v := ?v33V1cb) rfl (by kernel_rfl) (by kernel_rfl) (by kernel_rfl) (fun _ _ _ h => h) (Or.inl ⟨by rfl, ?hy33V1cb⟩) hHeld ?rest33V1cb
            case hy33V1cb => intro w9 hSw; go_simp; (try with_reducible rfl)
            try simp only [Act.put, s_put, s_0, s_1]
            refine wpAnyH_done (by kernel_rfl) ?_ _
            refine NoPanic.normal ?_
            go_wp2
            go_ret
            exact ⟨rfl, HB.out.trans ((HAW.out.trans (hT.mono HAW.out.size)).mono HB.out.size)⟩
      · have t1 : (((u.size : Nat) : Int) == 1) = false := by simp; omega
        clear h1 hix
        go_upto_region 11 with fail
        refine wp_region_noPanic ?_
        refine wp_region_held_drew (S := fun w' => Below W.heap.size W w') (by kernel_rfl) ((Below.refl _ _).drew) (fun hHeld => ?_)
        have hT : Below W.heap.size W W.drew := hHeld
        obtain ⟨d, hdw⟩ : ∃ d, d = W.drew := ⟨_, rfl⟩
        rw [← hdw] at hHeld hT ⊢
        clear hdw
        refine wpAnyH_take (i := 0) (oi := ⟨some 49, .load 28 (.tmp 9), 28, _, _, _⟩) (v := ?v0V1d) rfl (by kernel_rfl) (by kernel_rfl) (by kernel_rfl) (fun _ _ _ h => h) (Or.inl ⟨by rfl, ?hy0V1d⟩) hHeld ?rest0V1d
        case hy0V1d => intro w9 hSw; obtain ⟨⟨d0, d1, d2, d3, d4, d5⟩, d6, d7, d8, d9, d10⟩ := (PY.out.later hSw).at0; go_simp; (try with_reducible rfl)
        try simp only [Act.put, s_put, s_0, s_1]
        refine wpAnyH_take (i := 1) (oi := ⟨some 50, .move (.tmp 2), 9, _, _, _⟩) (v := ?v1V1d) rfl (by kernel_rfl) (by kernel_rfl) (by kernel_rfl) (fun _ _ _ h => h) (Or.inl ⟨by rfl, ?hy1V1d⟩) hHeld ?rest1V1d
        case hy1V1d => intro w9 hSw; go_simp; (try with_reducible rfl)
        try simp only [Act.put, s_put, s_0, s_1]
        refine wpAnyH_take (i := 3) (oi := ⟨some 52, .move (.tmp 1), 9, _, _, _⟩) (v := ?v3V1d) rfl (by kernel_rfl) (by kernel_rfl) (by kernel_rfl) (fun _ _ _ h => h) (Or.inl ⟨by rfl, ?hy3V1d⟩) hHeld ?rest3V1d
        case hy3V1d => intro w9 hSw; go_simp; (try with_reducible rfl)
        try simp only [Act.put, s_put, s_0, s_1]
        refine wpAnyH_take (i := 6) (oi := ⟨some 55, .load 28 (.tmp 3), 28, _, _, _⟩) (v := ?v6V1d) rfl (by kernel_rfl) (by kernel_rfl) (by kernel_rfl) (fun _ _ _ h => h) (Or.inl ⟨by rfl, ?hy6V1d⟩) hHeld ?rest6V1d
        case hy6V1d => intro w9 hSw; obtain ⟨⟨d0, d1, d2, d3, d4, d5⟩, d6, d7, d8, d9, d10⟩ := (PX.out.later hSw).at0; go_simp; (try with_reducible rfl)
        try simp only [Act.put, s_put, s_0, s_1]
        refine wpAnyH_ready (rs := [2, 4]) (by kernel_rfl) (by simp) ?_
        refine AllReadyH.cons (o := ⟨some 51, .buildSlice 42 1 #[(0, .tmp 50)], 42, _, _, _⟩) rfl (fun K hK => ?_) (AllReadyH.cons (o := ⟨some 53, .buildSlice 42 1 #[(0, .tmp 52)], 42, _, _, _⟩) rfl (fun K hK => ?_) AllReadyH.nil)
        · go_simp
          obtain ⟨x2, hx2⟩ : ∃ x, d.alloc (.cells #[.string u] 9) = x := ⟨_, rfl⟩
          rw [hx2]
          have hN2 : Below d.heap.size d x2 := by rw [← hx2]; exact (Below.refl _ _).alloc (Nat.le_refl _) _
          have hX2 : Txs x2 (some ⟨d.heap.size, 0, none⟩) 1 (fun _ => u) := by rw [← hx2]; exact txs_new _ _
          clear hx2
          have hT2 := btr hT hN2
          refine hK.out _ _ (btr hHeld hN2) (fun _ => held_up (bup hHeld hN2) _ _ _ _ ?_)
          clear hK K hHeld hT
          have hT := hT2
          have hHeld := brefl x2
          clear hT2
          try simp only [Act.put, s_put, s_0, s_1]
          refine wpAnyH_ready (rs := [4]) (by kernel_rfl) (by simp) ?_
          refine AllReadyH.cons (o := ⟨some 53, .buildSlice 42 1 #[(0, .tmp 52)], 42, _, _, _⟩) rfl (fun K hK => ?_) AllReadyH.nil
          go_simp
          obtain ⟨x4, hx4⟩ : ∃ x, x2.alloc (.cells #[.string v] 9) = x := ⟨_, rfl⟩
          rw [hx4]
          have hN4 : Below x2.heap.size x2 x4 := by rw [← hx4]; exact (Below.refl _ _).alloc (Nat.le_refl _) _
          have hX4 : Txs x4 (some ⟨x2.heap.size, 0, none⟩) 1 (fun _ => v) := by rw [← hx4]; exact txs_new _ _
          clear hx4
          have hT4 := btr hT hN4
          refine hK.out _ _ (btr hHeld hN4) (fun _ => held_up (bup hHeld hN4) _ _ _ _ ?_)
          clear hK K hHeld hT
          have hT := hT4
          have hHeld := brefl x4
          clear hT4
          try simp only [Act.put, s_put, s_0, s_1]
          refine wpAnyH_ready (rs := [5]) (by kernel_rfl) (by simp) ?_
          refine AllReadyH.cons (o := ⟨some 54, .call { callee := .value (.func 17), args := #[.tmp 49, .tmp 51, .tmp 53], argTypes := #[28, 42, 42] }, 28, _, _, _⟩) rfl (fun K hK => ?_) AllReadyH.nil
          go_simp
          refine (R2.out _ hT _ _ (hX2.later hN4) hX4).mono ?_
          rintro e x5 ⟨z5, rfl, hz1, hz2, hN5⟩
          have C7 : Hid (Calls Tryz.prog 12 #[z5.val, x.val] x5 fun e w2 => e = .returned (.bool true) ∧ Below x5.heap.size x5 w2) := SM.out z5 x5 hz1.out hz2.out (hT.trans (hN5.mono hT.size))
          go_wp2_with fail
          have hT5 := btr hT hN5
          refine hK.out _ _ (btr hHeld hN5) (fun _ => held_up (bup hHeld hN5) _ _ _ _ ?_)
          clear hK K hHeld hT
          have hT := hT5
          have hHeld := brefl x5
          clear hT5 hN5
          try simp only [Act.put, s_put, s_0, s_1]
          refine wpAnyH_ready (rs := [7]) (by kernel_rfl) (by simp) ?_
          refine AllReadyH.cons (o := ⟨some 56, .call { callee := .value (.func 12), args := #[.tmp 54, .tmp 55], argTypes := #[28, 28] }, 4, _, _, _⟩) rfl (fun K hK => ?_) AllReadyH.nil
          go_simp
          refine (C7.out).mono ?_
          rintro e x7 ⟨rfl, hN7⟩
          go_wp2_with fail
          have hT7 := btr hT hN7
          refine hK.out _ _ (btr hHeld hN7) (fun _ => held_up (bup hHeld hN7) _ _ _ _ ?_)
          clear hK K hHeld hT
          have hT := hT7
          have hHeld := brefl x7
          clear hT7 hN7
          try simp only [Act.put, s_put, s_0, s_1]
          refine wpAnyH_take (i := 8) (oi := ⟨some 57, .move (.tmp 56), 4, _, _, _⟩) (v := ?v8V1da) rfl (by kernel_rfl) (by kernel_rfl) (by kernel_rfl) (fun _ _ _ h => h) (Or.inl ⟨by rfl, ?hy8V1da⟩) hHeld ?rest8V1da
          case hy8V1da => intro w9 hSw; go_simp; (try with_reducible rfl)
          try simp only [Act.put, s_put, s_0, s_1]
          refine wpAnyH_take (i := 9) (oi := ⟨some 58, .load 28 (.tmp 9), 28, _, _, _⟩) (v := ?v9V1da) rfl (by kernel_rfl) (by kernel_rfl) (by kernel_rfl) (fun _ _ _ h => h) (Or.inl ⟨by rfl, ?hy9V1da⟩) hHeld ?rest9V1da
          case hy9V1da => intro w9 hSw; obtain ⟨⟨d0, d1, d2, d3, d4, d5⟩, d6, d7, d8, d9, d10⟩ := (PY.out.later (hT.trans (hSw.mono hT.size))).at0; go_simp; (try with_reducible rfl)
          try simp only [Act.put, s_put, s_0, s_1]
          refine wpAnyH_take (i := 12) (oi := ⟨some 61, .move (.tmp 7), 42, _, _, _⟩) (v := ?v12V1da) rfl (by kernel_rfl) (by kernel_rfl) (by kernel_rfl) (fun _ _ _ h => h) (Or.inl ⟨by rfl, ?hy12V1da⟩) hHeld ?rest12V1da
          case hy12V1da => intro w9 hSw; go_simp; (try with_reducible rfl)
          try simp only [Act.put, s_put, s_0, s_1]
          refine wpAnyH_take (i := 13) (oi := ⟨some 62, .call { callee := .builtin Builtin.len, args := #[.tmp 61], argTypes := #[42] }, 3, _, _, _⟩) (v := ?v13V1da) rfl (by kernel_rfl) (by kernel_rfl) (by kernel_rfl) (fun _ _ _ h => h) (Or.inl ⟨by rfl, ?hy13V1da⟩) hHeld ?rest13V1da
          case hy13V1da => intro w9 hSw; go_simp; (try with_reducible rfl)
          try simp only [Act.put, s_put, s_0, s_1]
          refine wpAnyH_ready (rs := [10]) (by kernel_rfl) (by simp) ?_
          refine AllReadyH.cons (o := ⟨some 59, .call { callee := .value (.func 15), args := #[.tmp 58], argTypes := #[28] }, 42, _, _, _⟩) rfl (fun K hK => ?_) AllReadyH.nil
          go_simp
          refine (V2.out _ hT).mono ?_
          rintro e x10 ⟨al2, cap2, rfl, hN10⟩
          go_wp2_with fail
          have hT10 := btr hT hN10
          refine hK.out _ _ (btr hHeld hN10) (fun _ => held_up (bup hHeld hN10) _ _ _ _ ?_)
          clear hK K hHeld hT
          have hT := hT10
          have hHeld := brefl x10
          clear hT10 hN10
          try simp only [Act.put, s_put, s_0, s_1]
          refine wpAnyH_take (i := 11) (oi := ⟨some 60, .call { callee := .builtin Builtin.len, args := #[.tmp 59], argTypes := #[42] }, 3, _, _, _⟩) (v := ?v11V1da) rfl (by kernel_rfl) (by kernel_rfl) (by kernel_rfl) (fun _ _ _ h => h) (Or.inl ⟨by rfl, ?hy11V1da⟩) hHeld ?rest11V1da
          case hy11V1da => intro w9 hSw; go_simp; (try with_reducible rfl)
          try simp only [Act.put, s_put, s_0, s_1]
          refine wpAnyH_take (i := 14) (oi := ⟨some 63, .binOp BinOp.eql 3 (.tmp 60) (.tmp 62) 3, 4, _, _, _⟩) (v := ?v14V1da) rfl (by kernel_rfl) (by kernel_rfl) (by kernel_rfl) (fun _ _ _ h => h) (Or.inl ⟨by rfl, ?hy14V1da⟩) hHeld ?rest14V1da
          case hy14V1da => intro w9 hSw; go_simp; (try with_reducible rfl)
          try simp only [Act.put, s_put, s_0, s_1]
          refine wpAnyH_take (i := 15) (oi := ⟨some 64, .pick (.tmp 57) (.tmp 63) (.const (Value.bool false)), 4, _, _, _⟩) (v := ?v15V1da) rfl (by kernel_rfl) (by kernel_rfl) (by kernel_rfl) (fun _ _ _ h => h) (Or.inl ⟨by rfl, ?hy15V1da⟩) hHeld ?rest15V1da
          case hy15V1da => intro w9 hSw; go_simp; (try with_reducible rfl)
          try simp only [Act.put, s_put, s_0, s_1]
          refine wpAnyH_take (i := 16) (oi := ⟨some 65, .move (.tmp 64), 4, _, _, _⟩) (v := ?v16V1da) rfl (by kernel_rfl) (by kernel_rfl) (by kernel_rfl) (fun _ _ _ h => h) (Or.inl ⟨by rfl, ?hy16V1da⟩) hHeld ?rest16V1da
          case hy16V1da => intro w9 hSw; go_simp; (try with_reducible rfl)
          try simp only [Act.put, s_put, s_0, s_1]
          refine wpAnyH_take (i := 17) (oi := ⟨some 66, .load 28 (.tmp 3), 28, _, _, _⟩) (v := ?v17V1da) rfl (by kernel_rfl) (by kernel_rfl) (by kernel_rfl) (fun _ _ _ h => h) (Or.inl ⟨by rfl, ?hy17V1da⟩) hHeld ?rest17V1da
          case hy17V1da => intro w9 hSw; obtain ⟨⟨d0, d1, d2, d3, d4, d5⟩, d6, d7, d8, d9, d10⟩ := (PX.out.later (hT.trans (hSw.mono hT.size))).at0; go_simp; (try with_reducible rfl)
          try simp only [Act.put, s_put, s_0, s_1]
          refine wpAnyH_ready (rs := [18]) (by kernel_rfl) (by simp) ?_
          refine AllReadyH.cons (o := ⟨some 67, .call { callee := .value (.func 10), args := #[.tmp 66], argTypes := #[28] }, 37, _, _, _⟩) rfl (fun K hK => ?_) AllReadyH.nil
          go_simp
          refine (M1.out _ hT).mono ?_
          rintro e x18 ⟨rfl, hN18⟩
          go_wp2_with fail
          have hT18 := btr hT hN18
          refine hK.out _ _ (btr hHeld hN18) (fun _ => held_up (bup hHeld hN18) _ _ _ _ ?_)
          clear hK K hHeld hT
          have hT := hT18
          have hHeld := brefl x18
          clear hT18 hN18
          try simp only [Act.put, s_put, s_0, s_1]
          refine wpAnyH_take (i := 19) (oi := ⟨some 68, .binOp BinOp.neq 37 (.tmp 67) (.const (Value.int IntKind.i64 0)) 37, 4, _, _, _⟩) (v := ?v19V1da) rfl (by kernel_rfl) (by kernel_rfl) (by kernel_rfl) (fun _ _ _ h => h) (Or.inl ⟨by rfl, ?hy19V1da⟩) hHeld ?rest19V1da
          case hy19V1da => intro w9 hSw; go_simp; (try with_reducible rfl)
          try simp only [Act.put, s_put, s_0, s_1]
          refine wpAnyH_take (i := 20) (oi := ⟨some 69, .move (.tmp 68), 4, _, _, _⟩) (v := ?v20V1da) rfl (by kernel_rfl) (by kernel_rfl) (by kernel_rfl) (fun _ _ _ h => h) (Or.inl ⟨by rfl, ?hy20V1da⟩) hHeld ?rest20V1da
          case hy20V1da => intro w9 hSw; go_simp; (try with_reducible rfl)
          try simp only [Act.put, s_put, s_0, s_1]
          refine wpAnyH_take (i := 21) (oi := ⟨some 70, .move (.tmp 10), 4, _, _, _⟩) (v := undef) rfl (by kernel_rfl) (by kernel_rfl) (by kernel_rfl) (fun _ _ _ h => h) (Or.inr ⟨by rfl, rfl⟩) hHeld ?rest21V1da
          try simp only [Act.put, s_put, s_0, s_1]
          refine wpAnyH_take (i := 22) (oi := ⟨some 71, .unOp UnOp.not 4 (.tmp 70), 4, _, _, _⟩) (v := undef) rfl (by kernel_rfl) (by kernel_rfl) (by kernel_rfl) (fun _ _ _ h => h) (Or.inr ⟨by rfl, rfl⟩) hHeld ?rest22V1da
          try simp only [Act.put, s_put, s_0, s_1]
          refine wpAnyH_take (i := 23) (oi := ⟨some 72, .pick (.tmp 69) (.const (Value.bool true)) (.tmp 71), 4, _, _, _⟩) (v := ?v23V1da) rfl (by kernel_rfl) (by kernel_rfl) (by kernel_rfl) (fun _ _ _ h => h) (Or.inl ⟨by rfl, ?hy23V1da⟩) hHeld ?rest23V1da
          case hy23V1da => intro w9 hSw; go_simp; (try with_reducible rfl)
          try simp only [Act.put, s_put, s_0, s_1]
          refine wpAnyH_take (i := 24) (oi := ⟨some 73, .move (.tmp 72), 4, _, _, _⟩) (v := ?v24V1da) rfl (by kernel_rfl) (by kernel_rfl) (by kernel_rfl) (fun _ _ _ h => h) (Or.inl ⟨by rfl, ?hy24V1da⟩) hHeld ?rest24V1da
          case hy24V1da => intro w9 hSw; go_simp; (try with_reducible rfl)
          try simp only [Act.put, s_put, s_0, s_1]
          refine wpAnyH_take (i := 25) (oi := ⟨some 74, .load 28 (.tmp 9), 28, _, _, _⟩) (v := undef) rfl (by kernel_rfl) (by kernel_rfl) (by kernel_rfl) (fun _ _ _ h => h) (Or.inr ⟨by rfl, rfl⟩) hHeld ?rest25V1da
          try simp only [Act.put, s_put, s_0, s_1]
          refine wpAnyH_take (i := 26) (oi := ⟨some 75, .call { callee := .value (.func 10), args := #[.tmp 74], argTypes := #[28] }, 37, _, _, _⟩) (v := undef) rfl (by kernel_rfl) (by kernel_rfl) (by kernel_rfl) (fun _ _ _ h => h) (Or.inr ⟨by rfl, rfl⟩) hHeld ?rest26V1da
          try simp only [Act.put, s_put, s_0, s_1]
          refine wpAnyH_take (i := 27) (oi := ⟨some 76, .binOp BinOp.eql 37 (.tmp 75) (.const (Value.int IntKind.i64 0)) 37, 4, _, _, _⟩) (v := undef) rfl (by kernel_rfl) (by kernel_rfl) (by kernel_rfl) (fun _ _ _ h => h) (Or.inr ⟨by rfl, rfl⟩) hHeld ?rest27V1da
          try simp only [Act.put, s_put, s_0, s_1]
          refine wpAnyH_take (i := 28) (oi := ⟨some 77, .pick (.tmp 73) (.const (Value.bool true)) (.tmp 76), 4, _, _, _⟩) (v := ?v28V1da) rfl (by kernel_rfl) (by kernel_rfl) (by kernel_rfl) (fun _ _ _ h => h) (Or.inl ⟨by rfl, ?hy28V1da⟩) hHeld ?rest28V1da
          case hy28V1da => intro w9 hSw; go_simp; (try with_reducible rfl)
          try simp only [Act.put, s_put, s_0, s_1]
          refine wpAnyH_take (i := 29) (oi := ⟨some 78, .pick (.tmp 65) (.tmp 77) (.const (Value.bool false)), 4, _, _, _⟩) (v := ?v29V1da) rfl (by kernel_rfl) (by kernel_rfl) (by kernel_rfl) (fun _ _ _ h => h) (Or.inl ⟨by rfl, ?hy29V1da⟩) hHeld ?rest29V1da
          case hy29V1da => intro w9 hSw; go_simp; (try with_reducible rfl)
          try simp only [Act.put, s_put, s_0, s_1]
          refine wpAnyH_take (i := 30) (oi := ⟨some 79, .move (.tmp 78), 4, _, _, _⟩) (v := ?v30V1da) rfl (by kernel_rfl) (by kernel_rfl) (by kernel_rfl) (fun _ _ _ h => h) (Or.inl ⟨by rfl, ?hy30V1da⟩) hHeld ?rest30V1da
          case hy30V1da => intro w9 hSw; go_simp; (try with_reducible rfl)
          try simp only [Act.put, s_put, s_0, s_1]
          refine wpAnyH_ready (rs := [31]) (by kernel_rfl) (by simp) ?_
          refine AllReadyH.cons (o := ⟨some 80, .call { callee := .value (.func 6), args := #[], argTypes := #[] }, 4, _, _, _⟩) rfl (fun K hK => ?_) AllReadyH.nil
          go_simp
          refine (W1.out _).mono ?_
          rintro e x31 ⟨rfl, hN31⟩
          go_wp2_with fail
          have hT31 := btr hT hN31
          refine hK.out _ _ (btr hHeld hN31) (fun _ => held_up (bup hHeld hN31) _ _ _ _ ?_)
          clear hK K hHeld hT
          have hT := hT31
          have hHeld := brefl x31
          clear hT31 hN31
          try simp only [Act.put, s_put, s_0, s_1]
          refine wpAnyH_take (i := 32) (oi := ⟨some 81, .pick (.tmp 79) (.tmp 80) (.const (Value.bool false)), 4, _, _, _⟩) (v := ?v32V1da) rfl (by kernel_rfl) (by kernel_rfl) (by kernel_rfl) (fun _ _ _ h => h) (Or.inl ⟨by rfl, ?hy32V1da⟩) hHeld ?rest32V1da
          case hy32V1da => intro w9 hSw; go_simp; (try with_reducible rfl)
          try simp only [Act.put, s_put, s_0, s_1]
          refine wpAnyH_take (i := 33) (oi := ⟨some 6, .assign (.tmp 81), 4, _, _, _⟩) (v := ?v33V1da) rfl (by kernel_rfl) (by kernel_rfl) (by kernel_rfl) (fun _ _ _ h => h) (Or.inl ⟨by rfl, ?hy33V1da⟩) hHeld ?rest33V1da
          case hy33V1da => intro w9 hSw; go_simp; (try with_reducible rfl)
          try simp only [Act.put, s_put, s_0, s_1]
          refine wpAnyH_done (by kernel_rfl) ?_ _
          refine NoPanic.normal ?_
          go_wp2
          go_ret
          exact ⟨rfl, HB.out.trans ((HAW.out.trans (hT.mono HAW.out.size)).mono HB.out.size)⟩
        · go_simp
          obtain ⟨x4, hx4⟩ : ∃ x, d.alloc (.cells #[.string v] 9) = x := ⟨_, rfl⟩
          rw [hx4]
          have hN4 : Below d.heap.size d x4 := by rw [← hx4]; exact (Below.refl _ _).alloc (Nat.le_refl _) _
          have hX4 : Txs x4 (some ⟨d.heap.size, 0, none⟩) 1 (fun _ => v) := by rw [← hx4]; exact txs_new _ _
          clear hx4
          have hT4 := btr hT hN4
          refine hK.out _ _ (btr hHeld hN4) (fun _ => held_up (bup hHeld hN4) _ _ _ _ ?_)
          clear hK K hHeld hT
          have hT := hT4
          have hHeld := brefl x4
          clear hT4
          try simp only [Act.put, s_put, s_0, s_1]
          refine wpAnyH_ready (rs := [2]) (by kernel_rfl) (by simp) ?_
          refine AllReadyH.cons (o := ⟨some 51, .buildSlice 42 1 #[(0, .tmp 50)], 42, _, _, _⟩) rfl (fun K hK => ?_) AllReadyH.nil
          go_simp
          obtain ⟨x2, hx2⟩ : ∃ x, x4.alloc (.cells #[.string u] 9) = x := ⟨_, rfl⟩
          rw [hx2]
          have hN2 : Below x4.heap.size x4 x2 := by rw [← hx2]; exact (Below.refl _ _).alloc (Nat.le_refl _) _
          have hX2 : Txs x2 (some ⟨x4.heap.size, 0, none⟩) 1 (fun _ => u) := by rw [← hx2]; exact txs_new _ _
          clear hx2
          have hT2 := btr hT hN2
          refine hK.out _ _ (btr hHeld hN2) (fun _ => held_up (bup hHeld hN2) _ _ _ _ ?_)
          clear hK K hHeld hT
          have hT := hT2
          have hHeld := brefl x2
          clear hT2
          try simp only [Act.put, s_put, s_0, s_1]
          refine wpAnyH_ready (rs := [5]) (by kernel_rfl) (by simp) ?_
          refine AllReadyH.cons (o := ⟨some 54, .call { callee := .value (.func 17), args := #[.tmp 49, .tmp 51, .tmp 53], argTypes := #[28, 42, 42] }, 28, _, _, _⟩) rfl (fun K hK => ?_) AllReadyH.nil
          go_simp
          refine (R2.out _ hT _ _ hX2 (hX4.later hN2)).mono ?_
          rintro e x5 ⟨z5, rfl, hz1, hz2, hN5⟩
          have C7 : Hid (Calls Tryz.prog 12 #[z5.val, x.val] x5 fun e w2 => e = .returned (.bool true) ∧ Below x5.heap.size x5 w2) := SM.out z5 x5 hz1.out hz2.out (hT.trans (hN5.mono hT.size))
          go_wp2_with fail
          have hT5 := btr hT hN5
          refine hK.out _ _ (btr hHeld hN5) (fun _ => held_up (bup hHeld hN5) _ _ _ _ ?_)
          clear hK K hHeld hT
          have hT := hT5
          have hHeld := brefl x5
          clear hT5 hN5
          try simp only [Act.put, s_put, s_0, s_1]
          refine wpAnyH_ready (rs := [7]) (by kernel_rfl) (by simp) ?_
          refine AllReadyH.cons (o := ⟨some 56, .call { callee := .value (.func 12), args := #[.tmp 54, .tmp 55], argTypes := #[28, 28] }, 4, _, _, _⟩) rfl (fun K hK => ?_) AllReadyH.nil
          go_simp
          refine (C7.out).mono ?_
          rintro e x7 ⟨rfl, hN7⟩
          go_wp2_with fail
          have hT7 := btr hT hN7
          refine hK.out _ _ (btr hHeld hN7) (fun _ => held_up (bup hHeld hN7) _ _ _ _ ?_)
          clear hK K hHeld hT
          have hT := hT7
          have hHeld := brefl x7
          clear hT7 hN7
          try simp only [Act.put, s_put, s_0, s_1]
          refine wpAnyH_take (i := 8) (oi := ⟨some 57, .move (.tmp 56), 4, _, _, _⟩) (v := ?v8V1db) rfl (by kernel_rfl) (by kernel_rfl) (by kernel_rfl) (fun _ _ _ h => h) (Or.inl ⟨by rfl, ?hy8V1db⟩) hHeld ?rest8V1db
          case hy8V1db => intro w9 hSw; go_simp; (try with_reducible rfl)
          try simp only [Act.put, s_put, s_0, s_1]
          refine wpAnyH_take (i := 9) (oi := ⟨some 58, .load 28 (.tmp 9), 28, _, _, _⟩) (v := ?v9V1db) rfl (by kernel_rfl) (by kernel_rfl) (by kernel_rfl) (fun _ _ _ h => h) (Or.inl ⟨by rfl, ?hy9V1db⟩) hHeld ?rest9V1db
          case hy9V1db => intro w9 hSw; obtain ⟨⟨d0, d1, d2, d3, d4, d5⟩, d6, d7, d8, d9, d10⟩ := (PY.out.later (hT.trans (hSw.mono hT.size))).at0; go_simp; (try with_reducible rfl)
          try simp only [Act.put, s_put, s_0, s_1]
          refine wpAnyH_take (i := 12) (oi := ⟨some 61, .move (.tmp 7), 42, _, _, _⟩) (v := ?v12V1db) rfl (by kernel_rfl) (by kernel_rfl) (by kernel_rfl) (fun _ _ _ h => h) (Or.inl ⟨by rfl, ?hy12V1db⟩) hHeld ?rest12V1db
          case hy12V1db => intro w9 hSw; go_simp; (try with_reducible rfl)
          try simp only [Act.put, s_put, s_0, s_1]
          refine wpAnyH_take (i := 13) (oi := ⟨some 62, .call { callee := .builtin Builtin.len, args := #[.tmp 61], argTypes := #[42] }, 3, _, _, _⟩) (v := ?v13V1db) rfl (by kernel_rfl) (by kernel_rfl) (by kernel_rfl) (fun _ _ _ h => h) (Or.inl ⟨by rfl, ?hy13V1db⟩) hHeld ?rest13V1db
          case hy13V1db => intro w9 hSw; go_simp; (try with_reducible rfl)
          try simp only [Act.put, s_put, s_0, s_1]
          refine wpAnyH_ready (rs := [10]) (by kernel_rfl) (by simp) ?_
          refine AllReadyH.cons (o := ⟨some 59, .call { callee := .value (.func 15), args := #[.tmp 58], argTypes := #[28] }, 42, _, _, _⟩) rfl (fun K hK => ?_) AllReadyH.nil
          go_simp
          refine (V2.out _ hT).mono ?_
          rintro e x10 ⟨al2, cap2, rfl, hN10⟩
          go_wp2_with fail
          have hT10 := btr hT hN10
          refine hK.out _ _ (btr hHeld hN10) (fun _ => held_up (bup hHeld hN10) _ _ _ _ ?_)
          clear hK K hHeld hT
          have hT := hT10
          have hHeld := brefl x10
          clear hT10 hN10
          try simp only [Act.put, s_put, s_0, s_1]
          refine wpAnyH_take (i := 11) (oi := ⟨some 60, .call { callee := .builtin Builtin.len, args := #[.tmp 59], argTypes := #[42] }, 3, _, _, _⟩) (v := ?v11V1db) rfl (by kernel_rfl) (by kernel_rfl) (by kernel_rfl) (fun _ _ _ h => h) (Or.inl ⟨by rfl, ?hy11V1db⟩) hHeld ?rest11V1db
          case hy11V1db => intro w9 hSw; go_simp; (try with_reducible rfl)
          try simp only [Act.put, s_put, s_0, s_1]
          refine wpAnyH_take (i := 14) (oi := ⟨some 63, .binOp BinOp.eql 3 (.tmp 60) (.tmp 62) 3, 4, _, _, _⟩) (v := ?v14V1db) rfl (by kernel_rfl) (by kernel_rfl) (by kernel_rfl) (fun _ _ _ h => h) (Or.inl ⟨by rfl, ?hy14V1db⟩) hHeld ?rest14V1db
          case hy14V1db => intro w9 hSw; go_simp; (try with_reducible rfl)
          try simp only [Act.put, s_put, s_0, s_1]
          refine wpAnyH_take (i := 15) (oi := ⟨some 64, .pick (.tmp 57) (.tmp 63) (.const (Value.bool false)), 4, _, _, _⟩) (v := ?v15V1db) rfl (by kernel_rfl) (by kernel_rfl) (by kernel_rfl) (fun _ _ _ h => h) (Or.inl ⟨by rfl, ?hy15V1db⟩) hHeld ?rest15V1db
          case hy15V1db => intro w9 hSw; go_simp; (try with_reducible rfl)
          try simp only [Act.put, s_put, s_0, s_1]
          refine wpAnyH_take (i := 16) (oi := ⟨some 65, .move (.tmp 64), 4, _, _, _⟩) (v := ?v16V1db) rfl (by kernel_rfl) (by kernel_rfl) (by kernel_rfl) (fun _ _ _ h => h) (Or.inl ⟨by rfl, ?hy16V1db⟩) hHeld ?rest16V1db
          case hy16V1db => intro w9 hSw; go_simp; (try with_reducible rfl)
          try simp only [Act.put, s_put, s_0, s_1]
          refine wpAnyH_take (i := 17) (oi := ⟨some 66, .load 28 (.tmp 3), 28, _, _, _⟩) (v := ?v17V1db) rfl (by kernel_rfl) (by kernel_rfl) (by kernel_rfl) (fun _ _ _ h => h) (Or.inl ⟨by rfl, ?hy17V1db⟩) hHeld ?rest17V1db
          case hy17V1db => intro w9 hSw; obtain ⟨⟨d0, d1, d2, d3, d4, d5⟩, d6, d7, d8, d9, d10⟩ := (PX.out.later (hT.trans (hSw.mono hT.size))).at0; go_simp; (try with_reducible rfl)
          try simp only [Act.put, s_put, s_0, s_1]
          refine wpAnyH_ready (rs := [18]) (by kernel_rfl) (by simp) ?_
          refine AllReadyH.cons (o := ⟨some 67, .call { callee := .value (.func 10), args := #[.tmp 66], argTypes := #[28] }, 37, _, _, _⟩) rfl (fun K hK => ?_) AllReadyH.nil
          go_simp
          refine (M1.out _ hT).mono ?_
          rintro e x18 ⟨rfl, hN18⟩
          go_wp2_with fail
          have hT18 := btr hT hN18
          refine hK.out _ _ (btr hHeld hN18) (fun _ => held_up (bup hHeld hN18) _ _ _ _ ?_)
          clear hK K hHeld hT
          have hT := hT18
          have hHeld := brefl x18
          clear hT18 hN18
          try simp only [Act.put, s_put, s_0, s_1]
          refine wpAnyH_take (i := 19) (oi := ⟨some 68, .binOp BinOp.neq 37 (.tmp 67) (.const (Value.int IntKind.i64 0)) 37, 4, _, _, _⟩) (v := ?v19V1db) rfl (by kernel_rfl) (by kernel_rfl) (by kernel_rfl) (fun _ _ _ h => h) (Or.inl ⟨by rfl, ?hy19V1db⟩) hHeld ?rest19V1db
          case hy19V1db => intro w9 hSw; go_simp; (try with_reducible rfl)
          try simp only [Act.put, s_put, s_0, s_1]
          refine wpAnyH_take (i := 20) (oi := ⟨some 69, .move (.tmp 68), 4, _, _, _⟩) (v := ?v20V1db) rfl (by kernel_rfl) (by kernel_rfl) (by kernel_rfl) (fun _ _ _ h => h) (Or.inl ⟨by rfl, ?hy20V1db⟩) hHeld ?rest20V1db
          case hy20V1db => intro w9 hSw; go_simp; (try with_reducible rfl)
          try simp only [Act.put, s_put, s_0, s_1]
          refine wpAnyH_take (i := 21) (oi := ⟨some 70, .move (.tmp 10), 4, _, _, _⟩) (v := undef) rfl (by kernel_rfl) (by kernel_rfl) (by kernel_rfl) (fun _ _ _ h => h) (Or.inr ⟨by rfl, rfl⟩) hHeld ?rest21V1db
          try simp only [Act.put, s_put, s_0, s_1]
          refine wpAnyH_take (i := 22) (oi := ⟨some 71, .unOp UnOp.not 4 (.tmp 70), 4, _, _, _⟩) (v := undef) rfl (by kernel_rfl) (by kernel_rfl) (by kernel_rfl) (fun _ _ _ h => h) (Or.inr ⟨by rfl, rfl⟩) hHeld ?rest22V1db
          try simp only [Act.put, s_put, s_0, s_1]
          refine wpAnyH_take (i := 23) (oi := ⟨some 72, .pick (.tmp 69) (.const (Value.bool true)) (.tmp 71), 4, _, _, _⟩) (v := ?v23V1db) rfl (by kernel_rfl) (by kernel_rfl) (by kernel_rfl) (fun _ _ _ h => h) (Or.inl ⟨by rfl, ?hy23V1db⟩) hHeld ?rest23V1db
          case hy23V1db => intro w9 hSw; go_simp; (try with_reducible rfl)
          try simp only [Act.put, s_put, s_0, s_1]
          refine wpAnyH_take (i := 24) (oi := ⟨some 73, .move (.tmp 72), 4, _, _, _⟩) (v := ?v24V1db) rfl (by kernel_rfl) (by kernel_rfl) (by kernel_rfl) (fun _ _ _ h => h) (Or.inl ⟨by rfl, ?hy24V1db⟩) hHeld ?rest24V1db
          case hy24V1db => intro w9 hSw; go_simp; (try with_reducible rfl)
          try simp only [Act.put, s_put, s_0, s_1]
          refine wpAnyH_take (i := 25) (oi := ⟨some 74, .load 28 (.tmp 9), 28, _, _, _⟩) (v := undef) rfl (by kernel_rfl) (by kernel_rfl) (by kernel_rfl) (fun _ _ _ h => h) (Or.inr ⟨by rfl, rfl⟩) hHeld ?rest25V1db
          try simp only [Act.put, s_put, s_0, s_1]
          refine wpAnyH_take (i := 26) (oi := ⟨some 75, .call { callee := .value (.func 10), args := #[.tmp 74], argTypes := #[28] }, 37, _, _, _⟩) (v := undef) rfl (by kernel_rfl) (by kernel_rfl) (by kernel_rfl) (fun _ _ _ h => h) (Or.inr ⟨by rfl, rfl⟩) hHeld ?rest26V1db
          try simp only [Act.put, s_put, s_0, s_1]
          refine wpAnyH_take (i := 27) (oi := ⟨some 76, .binOp BinOp.eql 37 (.tmp 75) (.const (Value.int IntKind.i64 0)) 37, 4, _, _, _⟩) (v := undef) rfl (by kernel_rfl) (by kernel_rfl) (by kernel_rfl) (fun _ _ _ h => h) (Or.inr ⟨by rfl, rfl⟩) hHeld ?rest27V1db
          try simp only [Act.put, s_put, s_0, s_1]
          refine wpAnyH_take (i := 28) (oi := ⟨some 77, .pick (.tmp 73) (.const (Value.bool true)) (.tmp 76), 4, _, _, _⟩) (v := ?v28V1db) rfl (by kernel_rfl) (by kernel_rfl) (by kernel_rfl) (fun _ _ _ h => h) (Or.inl ⟨by rfl, ?hy28V1db⟩) hHeld ?rest28V1db
          case hy28V1db => intro w9 hSw; go_simp; (try with_reducible rfl)
          try simp only [Act.put, s_put, s_0, s_1]
          refine wpAnyH_take (i := 29) (oi := ⟨some 78, .pick (.tmp 65) (.tmp 77) (.const (Value.bool false)), 4, _, _, _⟩) (v := ?v29V1db) rfl (by kernel_rfl) (by kernel_rfl) (by kernel_rfl) (fun _ _ _ h => h) (Or.inl ⟨by rfl, ?hy29V1db⟩) hHeld ?rest29V1db
          case hy29V1db => intro w9 hSw; go_simp; (try with_reducible rfl)
          try simp only [Act.put, s_put, s_0, s_1]
          refine wpAnyH_take (i := 30) (oi := ⟨some 79, .move (.tmp 78), 4, _, _, _⟩) (v := ?v30V1db) rfl (by kernel_rfl) (by kernel_rfl) (by kernel_rfl) (fun _ _ _ h => h) (Or.inl ⟨by rfl, ?hy30V1db⟩) hHeld ?rest30V1db
          case hy30V1db => intro w9 hSw; go_simp; (try with_reducible rfl)
          try simp only [Act.put, s_put, s_0, s_1]
          refine wpAnyH_ready (rs := [31]) (by kernel_rfl) (by simp) ?_
          refine AllReadyH.cons (o := ⟨some 80, .call { callee := .value (.func 6), args := #[], argTypes := #[] }, 4, _, _, _⟩) rfl (fun K hK => ?_) AllReadyH.nil
          go_simp
          refine (W1.out _).mono ?_
          rintro e x31 ⟨rfl, hN31⟩
          go_wp2_with fail
          have hT31 := btr hT hN31
          refine hK.out _ _ (btr hHeld hN31) (fun _ => held_up (bup hHeld hN31) _ _ _ _ ?_)
          clear hK K hHeld hT
          have hT := hT31
          have hHeld := brefl x31
          clear hT31 hN31
          try simp only [Act.put, s_put, s_0, s_1]
          refine wpAnyH_take (i := 32) (oi := ⟨some 81, .pick (.tmp 79) (.tmp 80) (.const (Value.bool false)), 4, _, _, _⟩) (v := ?v32V1db) rfl (by kernel_rfl) (by kernel_rfl) (by kernel_rfl) (fun _ _ _ h => h) (Or.inl ⟨by rfl, ?hy32V1db⟩) hHeld ?rest32V1db
          case hy32V1db => intro w9 hSw; go_simp; (try with_reducible rfl)
          try simp only [Act.put, s_put, s_0, s_1]
          refine wpAnyH_take (i := 33) (oi := ⟨some 6, .assign (.tmp 81), 4, _, _, _⟩) (v := ?v33V1db) rfl (by kernel_rfl) (by kernel_rfl) (by kernel_rfl) (fun _ _ _ h => h) (Or.inl ⟨by rfl, ?hy33V1db⟩) hHeld ?rest33V1db
          case hy33V1db => intro w9 hSw; go_simp; (try with_reducible rfl)
          try simp only [Act.put, s_put, s_0, s_1]
          refine wpAnyH_done (by kernel_rfl) ?_ _
          refine NoPanic.normal ?_
          go_wp2
          go_ret
          exact ⟨rfl, HB.out.trans ((HAW.out.trans (hT.mono HAW.out.size)).mono HB.out.size)⟩
end Go.Proofs.YtinnhaojmnmliaaGreat
