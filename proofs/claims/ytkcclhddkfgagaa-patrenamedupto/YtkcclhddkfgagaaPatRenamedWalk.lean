/-
  PatRenamed's walk: a pattern with one name changed, and back.
-/
import Derived.Test.YtkcclhddkfgagaaPatRename
import Derived.Test.YtkcclhddkfgagaaPatPartsWalk
import Derived.Test.YtkcclhddkfgagaaPatVars
import Derived.Test.YtkcclhddkfgagaaPatRenMath
namespace Go.Proofs.Ytkcclhddkfgagaa
open Go.RowKit

theorem row_str {w : World} {base : Nat} {v : Value} {L : List Pt} (h : w.ownsRow base 9 1 v (vs1 L L.length).length (vs1 L L.length)) :
    ∃ a cap, v = .slice a L.length cap ∧ Txs w a L.length (fun j => (L[j]?.map (·.s)).getD ⟨#[]⟩) := by
  have e0 : vs1 L L.length = L.map fun y => .string y.s := by simp [vs1]
  rw [e0, List.length_map] at h
  rcases h.2 with ⟨e, e2⟩ | ⟨g, cap', cur, e, hg, hc, hnc, hcm, hs, ht⟩
  · exact ⟨none, 0, by rw [e, e2], fun h0 => by omega⟩
  · refine ⟨_, cap', e, fun _ => ⟨g, 0, rfl, fun j hj => ?_⟩⟩
    simp only [World.cell?, hc]
    have h1 : (L.map fun y => Value.string y.s)[j]? = some (.string ((L[j]?.map (·.s)).getD ⟨#[]⟩)) := by simp [List.getElem?_eq_getElem hj]
    rw [← ht, List.getElem?_take_of_lt (by omega)] at h1
    rw [Array.getElem?_toList] at h1
    simpa using h1
theorem rename_oneP (x : Pt) (v u : ByteArray) (d : World) (hX : IsP d x) (hok : POk x) (hsm : x.size ≤ 1048576) (zv : v.size ≤ maxLen) :
    Calls Try.prog 26 #[x.val, .slice (some ⟨d.heap.size, 0, none⟩) 1 1, .slice (some ⟨d.heap.size + 1, 0, none⟩) 1 1] ((d.alloc (.cells #[.string v] 9)).alloc (.cells #[.string u] 9)) fun e w' =>
      ∃ y : Pt, e = .returned y.val ∧ Hid (Rn (nameX (fun _ => v) (fun _ => u) 1) x y) ∧ Hid (IsP w' y) ∧ Below d.heap.size d w' := by
  have hB : Below d.heap.size d ((d.alloc (.cells #[.string v] 9)).alloc (.cells #[.string u] 9)) := ((Below.refl _ _).alloc (Nat.le_refl _) _).alloc (by simp) _
  have h1 : Txs ((d.alloc (.cells #[.string v] 9)).alloc (.cells #[.string u] 9)) (some ⟨d.heap.size, 0, none⟩) 1 (fun _ => v) := fun _ => ⟨_, _, rfl, fun j hj => by
    obtain rfl : j = 0 := by omega
    exact ((Boxed.new d 9 (.string v)).alloc _).cell⟩
  have h2 : Txs ((d.alloc (.cells #[.string v] 9)).alloc (.cells #[.string u] 9)) (some ⟨d.heap.size + 1, 0, none⟩) 1 (fun _ => u) := fun _ => ⟨_, _, rfl, fun j hj => by
    obtain rfl : j = 0 := by omega
    have := (Boxed.new (d.alloc (.cells #[.string v] 9)) 9 (.string u)).cell
    rw [World.size_alloc] at this
    exact this⟩
  refine (renameP_any x _ _ 1 1 1 1 _ _ _ (hX.later hB) hsm hok h1 h2 (by omega) (by omega) (by omega) (by omega) (fun _ _ => zv)).mono ?_
  rintro e w' ⟨y, rfl, q1, q2, _, q3⟩
  exact ⟨y, rfl, q2, q1.is, hB.trans (q3.mono hB.size)⟩
set_option maxRecDepth 100000 in
set_option maxHeartbeats 2000000 in
theorem patRenamed_no (x : Pt) (v u : ByteArray) (w : World) (hX : IsP w x) (hsm : x.size ≤ 1048576) (hlx : decide (x.size ≤ 300) = false) :
    Calls Try.prog 6 #[x.val, .string v, .string u] w fun e w' => e = .returned (.bool true) ∧ Below w.heap.size w w' := by
  obtain ⟨A, hA, hB, hs, hn⟩ := boxP_one x w
  obtain ⟨a0, a1', a2', a3, a4', a5⟩ := hn.at0
  have HB : Hid (Below w.heap.size w A) := hB
  have L1 : Hid (Calls Try.prog 7 #[x.val] A fun e w' => e = .returned (.bool false) ∧ Below A.heap.size A w') := by have := lightP_any x A (hX.later hB) hsm; rw [hlx] at this; exact this
  have W1 : Hid (∀ d, Calls Try.prog 8 #[] d fun e w' => e = .returned (.bool true) ∧ Below d.heap.size d w') := fun d => awake12_any d
  clear hB hn hX hlx hsm
  go_enter Try.func6, Try.ntmps6
  go_wp2_with (first
    | (go_at_call 7; refine L1.out.mono ?_; clear L1; rintro e w1 ⟨rfl, hB1⟩)
    | (go_at_call 8; refine (W1.out _).mono ?_; clear W1; rintro e w2 ⟨rfl, hB2⟩))
  go_ret
  exact ⟨rfl, HB.out.trans ((hB1.trans (hB2.mono hB1.size)).mono (by omega))⟩
set_option maxRecDepth 100000 in
set_option maxHeartbeats 8000000 in
theorem patRenamed_yes (x : Pt) (v u : ByteArray) (w : World) (hX : IsP w x) (hok : POk x) (hsm : x.size ≤ 1048576) (hlx : decide (x.size ≤ 300) = true) (zv : v.size ≤ maxLen) (zu : u.size ≤ maxLen) :
    Calls Try.prog 6 #[x.val, .string v, .string u] w fun e w' => e = .returned (.bool true) ∧ Below w.heap.size w w' := by
  obtain ⟨A, hA, hB, hs, hn⟩ := boxP_one x w
  obtain ⟨a0, a1, a2, a3, a4, a5⟩ := hn.at0
  have HB : Hid (Below w.heap.size w A) := hB
  have NX : Hid (NodeP A w.heap.size 0 x) := hn
  have L1 : Hid (Calls Try.prog 7 #[x.val] A fun e w' => e = .returned (.bool true) ∧ Below A.heap.size A w') := by have := lightP_any x A (hX.later hB) hsm; rw [hlx] at this; exact this
  have W1 : Hid (∀ d, Calls Try.prog 8 #[] d fun e w' => e = .returned (.bool true) ∧ Below d.heap.size d w') := fun d => awake12_any d
  obtain ⟨L, hL⟩ : ∃ L, L = firstL (usesP x) := ⟨_, rfl⟩
  obtain ⟨nv, hnv⟩ : ∃ nv, nv = L.length := ⟨_, rfl⟩
  have hNV : nv ≤ 1048576 := by rw [hnv, hL]; have := length_firstL (usesP x); have := length_uses x; omega
  obtain ⟨S, hS⟩ : ∃ S : Nat → ByteArray, S = fun j => (L[j]?.map (·.s)).getD ⟨#[]⟩ := ⟨_, rfl⟩
  have V1 : Hid (∀ d, Below A.heap.size A d → Calls Try.prog 9 #[x.val] d fun e w' => ∃ al cap v2 v3, e = .returned (.tuple #[.slice al nv cap, v2, v3]) ∧ Hid (Txs w' al nv S) ∧ Below d.heap.size d w') := fun d h => by
    refine (vars12_any x d ((hX.later hB).later h) hsm hok).mono ?_
    rintro e w' ⟨v1, v2, v3, rfl, hR, hB2⟩
    rw [← hL] at hR
    obtain ⟨a, cap, rfl, ht⟩ := row_str hR.o1
    exact ⟨a, cap, v2, v3, by rw [hnv], by rw [hnv, hS]; exact ht, hB2⟩
  have HU : Hid ((∀ j, j < nv → S j ≠ u) → ∀ a ∈ usesP x, a.s ≠ u) := fun h a ha e => by
    obtain ⟨z, hz, q⟩ := firstL_has ha
    rw [← hL] at hz
    obtain ⟨j, hj, e2⟩ := List.getElem_of_mem hz
    refine h j (by rw [hnv]; exact hj) ?_
    rw [hS]
    simp only [List.getElem?_eq_getElem hj, e2, Option.map_some, Option.getD_some]
    rw [q, e]
  have HLN : Hid (nv = (firstL (usesP x)).length) := by show nv = _; rw [hnv, hL]
  have HX0 : Hid (IsP A x) := hX.later hB
  have HO : Hid (POk x) := hok
  have HM : Hid (x.size ≤ 1048576) := hsm
  have HZ : Hid (v.size ≤ maxLen ∧ u.size ≤ maxLen) := ⟨zv, zu⟩
  clear hB hn hX hlx hnv hS hL hsm hok zv zu
  go_enter Try.func6, Try.ntmps6
  go_wp2_with (first
    | (go_at_call 7; refine L1.out.mono ?_; clear L1; rintro e w1 ⟨rfl, hB1⟩; obtain ⟨b0, b1, b2, b3, b4, b5⟩ := (NX.out.later hB1).at0)
    | (go_at_call 9; refine (V1.out _ hB1).mono ?_; clear V1; rintro e w2 ⟨al, capl, q2, q3, rfl, hx, hB2⟩))
  have HA2 : Hid (Below A.heap.size A w2) := hB1.trans (hB2.mono hB1.size)
  clear hB1 hB2 b0 b1 b2 b3 b4 b5 a0 a1 a2 a3 a4 a5
  go_loopw [10] (fun i wr => ∃ k : Nat, k ≤ nv ∧ i = .int .i64 k ∧ Hid (∀ j, j < k → S j ≠ u) ∧ wr = w2) (fun i _ => nv - (intOf i).toNat)
  case atStart => exact ⟨0, Nat.zero_le _, rfl, fun j hj => absurd hj (Nat.not_lt_zero _), rfl⟩
  case round =>
    obtain ⟨k, hk, rfl, HJ, hwr⟩ := hrel
    subst hwr
    by_cases hlt : k < nv
    · have HLT : Hid (k < nv) := hlt
      obtain ⟨b, o, rfl, hc⟩ := hx.out (by omega)
      have ck := hc k hlt
      clear hc
      by_cases e : S k = u
      · have he := str_yes e
        clear e
        go_wp2_with (go_at_call 8; refine (W1.out _).mono ?_; clear W1; rintro e w4 ⟨rfl, hB4⟩)
        go_ret
        exact ⟨rfl, HB.out.trans ((HA2.out.trans (hB4.mono HA2.out.size)).mono (by omega))⟩
      · have he := str_not e
        have HJ2 : Hid (∀ j, j < k + 1 → S j ≠ u) := fun j hj => by
          by_cases q : j = k
          · rw [q]; exact e
          · exact HJ.out j (by omega)
        clear e
        go_wp2
        go_roundw
        case rel => exact ⟨k + 1, HLT.out, by go_num, HJ2, trivial⟩
        case measure => have := HLT.out; simp [intOf]; omega
    · obtain rfl : k = nv := by omega
      have HUU : Hid (∀ a ∈ usesP x, a.s ≠ u) := HU.out HJ.out
      clear HU HJ hlt hk
      obtain ⟨c0, c1, c2, c3, c4, c5⟩ := (NX.out.later HA2.out).at0
      have R1 := rename_oneP x v u wr (HX0.out.later HA2.out) HO.out HM.out HZ.out.1
      go_upto_region 10 with (first
        | (go_at_call 26; refine R1.mono ?_; clear R1; rintro e w3 ⟨y, rfl, hy1, hy2, hB3⟩; obtain ⟨C, W3, hC, hCb, hCW, hCB, hCn, hCs⟩ := boxP_put y w3; obtain ⟨⟨g0, g1, g2, g3, g4, g5⟩, f0, f1, f2, f3, f4, f5⟩ := zero_cells hCb; clear c0 c1 c2 c3 c4 c5))
      try rw [hCW]
      have HA3 : Hid (Below A.heap.size A W3) := HA2.out.trans ((hB3.trans (hCB.mono hB3.size)).mono HA2.out.size)
      have NY3 : Hid (NodeP W3 w3.heap.size 0 y) := hCn
      have HY3 : Hid (IsP W3 y) := hy2.out.later hCB
      have HYO : Hid (POk y) := ok_rn (one_ok HZ.out.2) hy1.out HO.out
      have HYM : Hid (y.size ≤ 1048576) := by show y.size ≤ 1048576; rw [size_rn hy1.out]; exact HM.out
      clear hC hCb hCW hCB hCn hCs hB3 hy2 g0 g1 g2 g3 g4 g5 f0 f1 f2 f3 f4 f5 hx
      obtain ⟨c0, c1, c2, c3, c4, c5⟩ := NY3.out.at0
      have R2 := rename_oneP y u v W3 HY3.out HYO.out HYM.out HZ.out.2
      go_upto_region 11 with (first
        | (go_at_call 26; refine R2.mono ?_; clear R2; rintro e w4 ⟨z, rfl, hz1, hz2, hB4⟩; obtain ⟨C, W4, hC, hCb, hCW, hCB, hCn, hCs⟩ := boxP_put z w4; obtain ⟨⟨g0, g1, g2, g3, g4, g5⟩, f0, f1, f2, f3, f4, f5⟩ := zero_cells hCb; clear c0 c1 c2 c3 c4 c5))
      try rw [hCW]
      have h34 : Below W3.heap.size W3 W4 := hB4.trans (hCB.mono hB4.size)
      have HA4 : Hid (Below A.heap.size A W4) := HA3.out.trans (h34.mono HA3.out.size)
      have NX4 : Hid (NodeP W4 w.heap.size 0 x) := NX.out.later HA4.out
      have NY4 : Hid (NodeP W4 w3.heap.size 0 y) := NY3.out.later h34
      have NZ4 : Hid (NodeP W4 w4.heap.size 0 z) := hCn
      have HY4 : Hid (IsP W4 y) := HY3.out.later h34
      have HZ4 : Hid (IsP W4 z) := hz2.out.later hCB
      have HSM : Hid (Sm x z) := back_rn hy1.out hz1.out (one_back HUU.out)
      have HRN : Hid (Rn (nameX (fun _ => v) (fun _ => u) 1) x y) := hy1
      have HFL : Hid ((firstL (usesP y)).length = k) := by show _ = k; rw [HLN.out]; exact first_len hy1.out (one_inj HUU.out)
      clear hC hCb hCW hCB hCn hCs hB4 hz2 hz1 hy1 h34 g0 g1 g2 g3 g4 g5 f0 f1 f2 f3 f4 f5 NY3 HY3 HA3
      have V2 : Hid (Calls Try.prog 9 #[y.val] W4 fun e w' => ∃ al cap v2 v3, e = .returned (.tuple #[.slice al k cap, v2, v3]) ∧ Below W4.heap.size W4 w') := by
        refine (vars12_any y W4 HY4.out HYM.out HYO.out).mono ?_
        rintro e w' ⟨v1, v2, v3, rfl, hR, hB2⟩
        obtain ⟨a, cap, rfl, ht⟩ := row_str hR.o1
        exact ⟨a, cap, v2, v3, by rw [HFL.out], hB2⟩
      obtain ⟨c0, c1, c2, c3, c4, c5⟩ := NY4.out.at0
      go_upto_region 12 with (first
        | (go_at_call 9; refine V2.out.mono ?_; clear V2; rintro e w5 ⟨al2, cap2, p2, p3, rfl, hB5⟩))
      clear c0 c1 c2 c3 c4 c5
      have HA5 : Hid (Below A.heap.size A w5) := HA4.out.trans (hB5.mono HA4.out.size)
      have H5 : Hid (Below W4.heap.size W4 w5) := hB5
      have SM : Hid (∀ d, Below w5.heap.size w5 d → Calls Try.prog 25 #[x.val, z.val] d fun e w' => e = .returned (.bool true) ∧ Below d.heap.size d w') := fun d hd => by
        have := samePat_any x z d (HX0.out.later (HA5.out.trans (hd.mono HA5.out.size))) ((HZ4.out.later H5.out).later hd)
        rw [show sameP x z = true from HSM.out] at this
        exact this
      have M1 : Hid (∀ d, Below w5.heap.size w5 d → Calls Try.prog 19 #[x.val] d fun e w' => ∃ q : Int, e = .returned (.int .i64 q) ∧ Hid ((q != 0) = true ∨ (q = 0 ∧ chkP x = 0 ∧ MadeP x)) ∧ Below d.heap.size d w') := fun d hd => by
        refine (madeP_any x d (HX0.out.later (HA5.out.trans (hd.mono HA5.out.size))) HM.out HO.out).mono ?_
        rintro e w' ⟨q, rfl, hq, hB⟩
        refine ⟨q, rfl, ?_, hB⟩
        rcases hq with ⟨h1, h2⟩ | ⟨h1, h2, h3⟩ | ⟨_, _, h3⟩
        · exact .inl (by rw [h2]; simpa using h1)
        · exact .inr ⟨h3, h1, h2⟩
        · exact .inl (by rw [h3]; rfl)
      have M2 : Hid (nameB u = true → chkP x = 0 → MadeP x → ∀ d, Below w5.heap.size w5 d → Calls Try.prog 19 #[y.val] d fun e w' => e = .returned (.int .i64 0) ∧ Below d.heap.size d w') := fun hn h1 h2 d hd => by
        refine (madeP_any y d ((HY4.out.later H5.out).later hd) HYM.out HYO.out).mono ?_
        rintro e w' ⟨q, rfl, hq, hB⟩
        have k1 := chkP_rn (one_name hn) HRN.out h1
        have k2 := made_rn HRN.out (one_inj HUU.out) h2
        rcases hq with ⟨n1, _⟩ | ⟨_, _, n3⟩ | ⟨_, n2, _⟩
        · exact absurd k1 n1
        · exact ⟨by rw [n3], hB⟩
        · exact absurd k2 n2
      have NX5 : Hid (NodeP w5 w.heap.size 0 x) := NX4.out.later hB5
      have NY5 : Hid (NodeP w5 w3.heap.size 0 y) := NY4.out.later hB5
      have NZ5 : Hid (NodeP w5 w4.heap.size 0 z) := NZ4.out.later hB5
      clear hB5 H5 NX4 NY4 NZ4 HY4 HZ4 HSM HRN HFL
      obtain ⟨r0, r1, r2, r3, r4, r5⟩ := NX5.out.at0
      obtain ⟨s0, s1, s2, s3, s4, s5⟩ := NZ5.out.at0
      have hks : u.size ≤ 9223372036854775807 := by have := HZ.out.2; unfold maxLen at this; omega
      by_cases h1 : u.size = 1
      · have t1 : (((u.size : Nat) : Int) == 1) = true := by simp [h1]
        have hix : ∀ d, (Instr.index 9 (.string u) (.int .i64 0)).run Try.prog d = .ok (.int .u8 (byteAt u 0)) d := fun d => by simpa using at_str u 0 (by omega) d
        by_cases h2 : 97 ≤ byteAt u 0
        · by_cases h3 : byteAt u 0 ≤ 122
          · have HNM : Hid (nameB u = true) := letter_name h1 h2 h3
            clear h1
            go_wp2_with (first
              | (go_at_call 25; refine (SM.out w5 (Below.refl _ _)).mono ?_; clear SM; rintro e w6 ⟨rfl, hB6⟩; obtain ⟨i0, i1, i2, i3, i4, i5⟩ := (NX5.out.later hB6).at0)
              | (go_at_call 19; refine (M1.out w6 hB6).mono ?_; clear M1; rintro e w7 ⟨q, rfl, hq, hB7⟩; have hB67 := hB6.trans (hB7.mono hB6.size); obtain ⟨j0, j1, j2, j3, j4, j5⟩ := (NY5.out.later hB67).at0; rcases hq.out with hq0 | ⟨rfl, hc0, hm0⟩)
              | (go_at_call 19; refine (M2.out HNM.out hc0 hm0 w7 hB67).mono ?_; rintro e w8 ⟨rfl, hB8⟩)
              | (go_at_call 8; refine (W1.out _).mono ?_; rintro e w9 ⟨rfl, hB9⟩))
            all_goals go_ret
            all_goals first
              | exact ⟨rfl, HB.out.trans ((HA5.out.trans ((hB67.trans (hB9.mono hB67.size)).mono HA5.out.size)).mono (by omega))⟩
              | exact ⟨rfl, HB.out.trans ((HA5.out.trans ((hB67.trans ((hB8.trans (hB9.mono hB8.size)).mono hB67.size)).mono HA5.out.size)).mono (by omega))⟩
          · clear h1
            go_wp2_with (first
              | (go_at_call 25; refine (SM.out w5 (Below.refl _ _)).mono ?_; clear SM; rintro e w6 ⟨rfl, hB6⟩; obtain ⟨i0, i1, i2, i3, i4, i5⟩ := (NX5.out.later hB6).at0)
              | (go_at_call 19; refine (M1.out w6 hB6).mono ?_; clear M1; rintro e w7 ⟨q, rfl, hq, hB7⟩; have hB67 := hB6.trans (hB7.mono hB6.size); obtain ⟨j0, j1, j2, j3, j4, j5⟩ := (NY5.out.later hB67).at0; rcases hq.out with hq0 | ⟨rfl, hc0, hm0⟩)
              | (go_at_call 8; refine (W1.out _).mono ?_; rintro e w9 ⟨rfl, hB9⟩))
            all_goals go_ret
            all_goals first
              | exact ⟨rfl, HB.out.trans ((HA5.out.trans ((hB67.trans (hB9.mono hB67.size)).mono HA5.out.size)).mono (by omega))⟩
        · clear h1
          go_wp2_with (first
            | (go_at_call 25; refine (SM.out w5 (Below.refl _ _)).mono ?_; clear SM; rintro e w6 ⟨rfl, hB6⟩; obtain ⟨i0, i1, i2, i3, i4, i5⟩ := (NX5.out.later hB6).at0)
            | (go_at_call 19; refine (M1.out w6 hB6).mono ?_; clear M1; rintro e w7 ⟨q, rfl, hq, hB7⟩; have hB67 := hB6.trans (hB7.mono hB6.size); obtain ⟨j0, j1, j2, j3, j4, j5⟩ := (NY5.out.later hB67).at0; rcases hq.out with hq0 | ⟨rfl, hc0, hm0⟩)
            | (go_at_call 8; refine (W1.out _).mono ?_; rintro e w9 ⟨rfl, hB9⟩))
          all_goals go_ret
          all_goals first
            | exact ⟨rfl, HB.out.trans ((HA5.out.trans ((hB67.trans (hB9.mono hB67.size)).mono HA5.out.size)).mono (by omega))⟩
      · have t1 : (((u.size : Nat) : Int) == 1) = false := by simp; omega
        clear h1
        go_wp2_with (first
          | (go_at_call 25; refine (SM.out w5 (Below.refl _ _)).mono ?_; clear SM; rintro e w6 ⟨rfl, hB6⟩; obtain ⟨i0, i1, i2, i3, i4, i5⟩ := (NX5.out.later hB6).at0)
          | (go_at_call 19; refine (M1.out w6 hB6).mono ?_; clear M1; rintro e w7 ⟨q, rfl, hq, hB7⟩; have hB67 := hB6.trans (hB7.mono hB6.size); obtain ⟨j0, j1, j2, j3, j4, j5⟩ := (NY5.out.later hB67).at0; rcases hq.out with hq0 | ⟨rfl, hc0, hm0⟩)
          | (go_at_call 8; refine (W1.out _).mono ?_; rintro e w9 ⟨rfl, hB9⟩))
        all_goals go_ret
        all_goals first
          | exact ⟨rfl, HB.out.trans ((HA5.out.trans ((hB67.trans (hB9.mono hB67.size)).mono HA5.out.size)).mono (by omega))⟩
theorem patRenamed_walk (x : Pt) (v u : ByteArray) (w : World) (hX : IsP w x) (hok : POk x) (hsm : x.size ≤ 1048576) (zv : v.size ≤ maxLen) (zu : u.size ≤ maxLen) :
    Calls Try.prog 6 #[x.val, .string v, .string u] w fun e w' => e = .returned (.bool true) ∧ Below w.heap.size w w' := by
  cases hlx : decide (x.size ≤ 300) with
  | false => exact patRenamed_no x v u w hX hsm hlx
  | true => exact patRenamed_yes x v u w hX hok hsm hlx zv zu
end Go.Proofs.Ytkcclhddkfgagaa
