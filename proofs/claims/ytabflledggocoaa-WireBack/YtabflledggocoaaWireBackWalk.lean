/-
  WireBack's walk: what is written is read, call by call, and nothing is left.
-/
import Derived.Test.YtabflledggocoaaRecs
import Derived.Test.YtabflledggocoaaArgs
import Derived.Deep.DeepCutAuto
namespace Go.Proofs.Ytabflledggocoaa
open Go.RowKit

theorem Wrote.fits {w w' : World} {B p h : Nat} {most : Int} {v : Value} {l x : List Int} {e : Ending} (t : Wrote w B p h most v l x e w') (hf : (l.length : Int) + x.length ≤ most) : e = .returned (.int .i64 0) ∧ ∃ v', Wr w' B p h most v' (l ++ x) := by
  obtain ⟨v', h1, h2, _, _⟩ := t
  unfold putE at h1
  unfold putL at h2
  rw [if_pos hf] at h1 h2
  exact ⟨h1, v', h2⟩

set_option maxHeartbeats 2000000 in
set_option maxRecDepth 100000 in
theorem back_walk (a0 a1 a2 : Option Addr) (len0 cap0 len1 cap1 len2 cap2 : Nat) (z0 z1 : Nat → Int) (S : Nat → ByteArray) (w : World)
    (h0 : Ints .u64 w a0 len0 z0) (h1 : Ints .i64 w a1 len1 z1) (h2 : Strs maxLen w a2 len2 S) :
    Calls Try.prog 4 #[.slice a0 len0 cap0, .slice a1 len1 cap1, .slice a2 len2 cap2] w fun e w' => e = .returned (.bool true) ∧ Below w.heap.size w w' := by
  obtain ⟨n, hn⟩ : ∃ n : Nat → Nat, n = fun j => (z0 j).toNat := ⟨_, rfl⟩
  obtain ⟨R, hR⟩ : ∃ R : Nat → List Int, R = recs n z1 S := ⟨_, rfl⟩
  have C : Hid (Calls Try.prog 6 _ _ _) := newWriter_ok 65536 w.heap.size w (by omega) (by omega) (Nat.le_refl _)
  have H0 : Hid (Ints .u64 w a0 len0 z0) := h0
  have H1 : Hid (Ints .i64 w a1 len1 z1) := h1
  have H2 : Hid (Strs maxLen w a2 len2 S) := h2
  have HN : Hid (n = fun j => (z0 j).toNat) := hn
  have HR : Hid (R = recs n z1 S) := hR
  clear h0 h1 h2 hn hR
  go_enter Try.func4, Try.ntmps4
  go_wp2_with (first
    | (go_at_call 6
       refine C.out.mono ?_
       rintro e w1 ⟨rfl, hW1, hB1⟩
       have HW1 : Hid (Wr w1 w.heap.size (w.heap.size + 1) w.heap.size 65536 (.slice none 0 0) []) := hW1
       clear hW1))
  go_loopw [9] (fun kv wr => ∃ (k : Nat) (v : Value), kv = .int .i64 (k : Int) ∧ k ≤ 20 ∧ k ≤ len0 ∧ k ≤ len1 ∧ k ≤ len2 ∧ Hid (∀ j, j < k → (S j).size ≤ 1000) ∧ Hid (Wr wr w.heap.size (w.heap.size + 1) w.heap.size 65536 v (R k)) ∧ Below w.heap.size w wr) (fun kv _ => 20 - (intOf kv).toNat)
  case atStart => exact ⟨0, _, rfl, by omega, by omega, by omega, by omega, fun j hj => by omega, by rw [HR.out]; exact HW1.out, hB1⟩
  case round =>
    obtain ⟨k, v, rfl, hk, hk0, hk1, hk2, HS, HW, hB⟩ := hrel
    by_cases hc : (k : Int) < (len0 : Int) ∧ (k : Int) < (len1 : Int) ∧ (k : Int) < (len2 : Int) ∧ (k : Int) < 20
    · obtain ⟨q0, q1, q2, q3⟩ := hc
      obtain ⟨b0, o0, rfl, hc0⟩ := H0.out (by omega)
      obtain ⟨b1, o1, rfl, hc1⟩ := H1.out (by omega)
      obtain ⟨b2, o2, rfl, hc2⟩ := H2.out (by omega)
      obtain ⟨e0, r0⟩ := hc0 k (by omega)
      obtain ⟨e1, r1⟩ := hc1 k (by omega)
      obtain ⟨e2, r2⟩ := hc2 k (by omega)
      have E0 : Hid (w.cell? ⟨b0, o0 + k, none⟩ = some (.int .u64 (z0 k))) := e0
      have E1 : Hid (w.cell? ⟨b1, o1 + k, none⟩ = some (.int .i64 (z1 k))) := e1
      have E2 : Hid (w.cell? ⟨b2, o2 + k, none⟩ = some (.string (S k))) := e2
      have f2 := cell_later e2 hB
      clear hc0 hc1 hc2 e0 e1 e2
      by_cases hs : 1000 < ((S k).size : Int)
      · go_wp2_with (first | (go_at_call 8; refine (awake_any _).mono ?_; rintro e w3 ⟨rfl, hB3⟩))
        go_ret
        exact ⟨rfl, hB.trans (hB3.mono hB.size)⟩
      · have d0 := wf_u64 r0
        have d1 := wf_i64 r1
        have hRl := recs_length n z1 S k HS.out
        rw [← HR.out] at hRl
        have l1 := enc_length 10 (n k)
        have l2 := enc_length 10 (turnZ (z1 k)).toNat
        have l3 := enc_length 10 (S k).size
        have g1 := sz_le 10 (n k)
        have g2 := sz_le 10 (turnZ (z1 k)).toNat
        have g3 := sz_le 10 (S k).size
        have hnk : z0 k = ((n k : Nat) : Int) := by have e : n k = (z0 k).toNat := congrFun HN.out k; omega
        rw [hnk] at E0
        have HL : Hid (((R k).length ≤ 1031 * k ∧ k < 20) ∧ ((enc 10 (n k)).length ≤ 10 ∧ (enc 10 (turnZ (z1 k)).toNat).length ≤ 10) ∧ (enc 10 (S k).size).length ≤ 10 ∧ (S k).size ≤ 1000 ∧ n k < 18446744073709551616) := ⟨⟨hRl, by omega⟩, ⟨by omega, by omega⟩, by omega, by omega, by omega⟩
        clear l1 l2 l3 g1 g2 g3 hRl hnk
        have f0 := cell_later E0.out hB
        go_wp2_with (first
          | (go_at_call 9
             refine (wnum_any HW.out hB.size (n k) HL.out.2.2.2.2).mono ?_
             rintro e w3 t3
             have hB3 : Below w.heap.size w w3 := t3.below HW.out hB.size hB
             obtain ⟨rfl, v3, hW3⟩ := t3.fits (by have := HL.out; omega)
             have HW3 : Hid (Wr w3 w.heap.size (w.heap.size + 1) w.heap.size 65536 v3 _) := hW3
             have f1 := cell_later E1.out hB3
             clear hW3 t3)
          | (go_at_call 11
             refine (wint_any HW3.out hB3.size (z1 k) (by omega) (by omega)).mono ?_
             rintro e w4 t4
             have hB4 : Below w.heap.size w w4 := t4.below HW3.out hB3.size hB3
             obtain ⟨rfl, v4, hW4⟩ := t4.fits (by have := HL.out; rw [List.length_append]; omega)
             have HW4 : Hid (Wr w4 w.heap.size (w.heap.size + 1) w.heap.size 65536 v4 _) := hW4
             have f2' := cell_later E2.out hB4
             clear hW4 t4)
          | (go_at_call 13
             refine (wtext_any HW4.out hB4.size (S k) (by omega)).mono ?_
             rintro e w5 t5
             have hB5 : Below w.heap.size w w5 := t5.below HW4.out hB4.size hB4
             obtain ⟨rfl, v5, hW5⟩ := t5.fits (by have := HL.out; simp only [List.length_append, bytesS_length]; omega)
             have HW5 : Hid (Wr w5 w.heap.size (w.heap.size + 1) w.heap.size 65536 v5 _) := hW5
             clear hW5 t5)
          | (go_at_call 15
             refine (wbyte_any HW5.out hB5.size (k : Int) (by omega) (by omega)).mono ?_
             rintro e w6 t6
             have hB6 : Below w.heap.size w w6 := t6.below HW5.out hB5.size hB5
             obtain ⟨rfl, v6, hW6⟩ := t6.fits (by have := HL.out; simp only [List.length_append, bytesS_length, List.length_cons, List.length_nil]; omega)
             have HW6 : Hid (Wr w6 w.heap.size (w.heap.size + 1) w.heap.size 65536 v6 _) := hW6
             clear hW6 t6))
        go_roundw
        case rel =>
          refine ⟨k + 1, v6, by go_num, by omega, by omega, by omega, by omega, ?_, ?_, hB6⟩
          · intro j hj
            by_cases e : j = k
            · subst e; exact HL.out.2.2.2.1
            · exact HS.out j (by omega)
          · have e6 := HW6.out
            rw [show R (k + 1) = R k ++ recOf n z1 S k by rw [HR.out]; rfl]
            simp only [recOf]
            simp only [List.append_assoc] at e6 ⊢
            exact e6
        case measure => simp [intOf]; omega
    · go_upto_region 5 with fail
      go_cut [49] (fun s49 wc => s49 = .bool false ∧ wc = wr)
      case first =>
        go_wp2_with fail
        all_goals go_meet
        all_goals (case rel => first | exact ⟨rfl, rfl⟩ | exact ⟨congrArg Value.bool (decide_eq_false (by omega)), rfl⟩)
      case rest =>
        obtain ⟨hu, hw⟩ := hcut
        subst hu hw
        have hRl : (R k).length ≤ 65536 := by have := HW.out.fit; omega
        go_wp2_with (first
          | (go_at_call 17
             refine (wdone_any HW.out).mono ?_
             rintro e w3 ⟨u, rfl, hown3, hB3⟩
             obtain ⟨a3, c3, rfl, hy3⟩ := isBytes_own hown3 HW.out.hd.bd
             have HY3 : Hid (IsBytes _ _ _ _ _) := hy3
             clear hown3 hy3)
          | (go_at_call 18
             refine (newReader_any _ _ _ _ w.heap.size _ HY3.out (by omega) (Nat.le_trans hB.size hB3.size)).mono ?_
             rintro e w4 ⟨p4, h4, v4, rfl, hR4, hB4⟩
             have HR4 : Hid (Rd _ _ _ _ _ _ _) := hR4
             clear hR4))
        have hB5 : Below w.heap.size w w4 := (hB.trans (hB3.mono hB.size)).trans (hB4.mono (Nat.le_trans hB.size hB3.size))
        clear hB4 HY3 C HW1
        go_loopw [11] (fun jv wq => ∃ j : Nat, jv = .int .i64 (j : Int) ∧ j ≤ k ∧ Hid (Rd wq w.heap.size p4 h4 v4 (R k) (R j).length) ∧ Below w.heap.size w wq) (fun jv _ => k - (intOf jv).toNat)
        case atStart => exact ⟨0, rfl, by omega, by rw [HR.out] at HR4 ⊢; exact HR4, hB5⟩
        case round =>
          obtain ⟨j, rfl, hj, HRj, hBj⟩ := hrel
          by_cases hjk : (j : Int) < (k : Int)
          · have q0 : (j : Int) < (len0 : Int) := by omega
            have q1 : (j : Int) < (len1 : Int) := by omega
            have q2 : (j : Int) < (len2 : Int) := by omega
            obtain ⟨b0, o0, rfl, hc0⟩ := H0.out (by omega)
            obtain ⟨b1, o1, rfl, hc1⟩ := H1.out (by omega)
            obtain ⟨b2, o2, rfl, hc2⟩ := H2.out (by omega)
            obtain ⟨e0, r0⟩ := hc0 j (by omega)
            obtain ⟨e1, r1⟩ := hc1 j (by omega)
            obtain ⟨e2, -⟩ := hc2 j (by omega)
            have d0 := wf_u64 r0
            have d1 := wf_i64 r1
            have hnk : z0 j = ((n j : Nat) : Int) := by have e : n j = (z0 j).toNat := congrFun HN.out j; omega
            rw [hnk] at e0
            have hS := HS.out j (by omega)
            obtain ⟨p1, p2, p3, n1, n2, n3, n4⟩ := recs_read n z1 S j k (by omega) (by omega) d1.1 d1.2 hS
            rw [← HR.out] at n1 n2 n3 n4
            have E0 : Hid (w.cell? ⟨b0, o0 + j, none⟩ = _) := e0
            have E1 : Hid (w.cell? ⟨b1, o1 + j, none⟩ = _) := e1
            have E2 : Hid (w.cell? ⟨b2, o2 + j, none⟩ = _) := e2
            have N1 : Hid (_ = _) := n1
            have N2 : Hid (_ = _) := n2
            have N3 : Hid (_ = _) := n3
            have N4 : Hid (_ = _) := n4
            have f0 := cell_later e0 hBj
            clear hc0 hc1 hc2 e0 e1 e2 r0 r1 hnk n1 n2 n3 n4
            go_wp2_with (first
              | (go_at_call 19
                 have c := rnum_any HRj.out (n j : Nat)
                 rw [N1.out] at c
                 refine c.mono ?_
                 clear c
                 rintro e w5 ⟨rfl, hR5, hT5⟩
                 have HR5 : Hid (Rd _ _ _ _ _ _ _) := hR5
                 have hB6 : Below w.heap.size w w5 := hBj.trans (hT5.below hBj.size HRj.out.low (by intro k hk; cases hk))
                 clear hR5 hT5)
              | (go_at_call 20
                 have c := rint_any HR5.out
                 rw [N2.out] at c
                 dsimp only at c
                 rw [back_turn] at c
                 refine c.mono ?_
                 clear c
                 rintro e w6 ⟨rfl, hR6, hT6⟩
                 have HR6 : Hid (Rd _ _ _ _ _ _ _) := hR6
                 have hB7 : Below w.heap.size w w6 := hB6.trans (hT6.below hB6.size HR5.out.low (by intro k hk; cases hk))
                 have f2 := cell_later E2.out hB7
                 clear hR6 hT6)
              | (go_at_call 21
                 have c := rtext_any HR6.out ((S j).size : Nat) (by omega)
                 rw [N3.out] at c
                 dsimp only at c
                 rw [strOf_bytes] at c
                 refine c.mono ?_
                 clear c
                 rintro e w7 ⟨rfl, hR7, hT7⟩
                 have HR7 : Hid (Rd _ _ _ _ _ _ _) := hR7
                 have hB8 : Below w.heap.size w w7 := hB7.trans (hT7.below hB7.size HR6.out.low (by intro k hk; cases hk))
                 clear hR7 hT7)
              | (go_at_call 22
                 have c := rbyte_any HR7.out
                 rw [N4.out] at c
                 dsimp only at c
                 refine c.mono ?_
                 clear c
                 rintro e w8 ⟨rfl, hR8, hT8⟩
                 have HR8 : Hid (Rd _ _ _ _ _ _ _) := hR8
                 have hB9 : Below w.heap.size w w8 := hB8.trans (hT8.below hB8.size HR7.out.low (by intro k hk; cases hk))
                 have g0 := cell_later E0.out hB9
                 have g1 := cell_later E1.out hB9
                 have g2 := cell_later E2.out hB9
                 clear hR8 hT8))
            go_roundw
            case rel => exact ⟨j + 1, by go_num, by omega, HR8, hB9⟩
            case measure => simp [intOf]; omega
          · have hjk' : j = k := by omega
            subst hjk'
            go_wp2_with (first
              | (go_at_call 23
                 have c := rend_any HRj.out
                 rw [if_pos rfl] at c
                 refine c.mono ?_
                 clear c
                 rintro e w5 ⟨rfl, hB6⟩)
              | (go_at_call 8
                 refine (awake_any _).mono ?_
                 rintro e w6 ⟨rfl, hB7⟩))
            go_ret
            exact ⟨rfl, (hBj.trans (hB6.mono hBj.size)).trans (hB7.mono (Nat.le_trans hBj.size hB6.size))⟩
end Go.Proofs.Ytabflledggocoaa
