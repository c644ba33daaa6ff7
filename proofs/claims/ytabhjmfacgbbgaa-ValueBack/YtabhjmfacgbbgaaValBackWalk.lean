/-
  ValueBack's walk: values as bytes are read as they were; what is read is written as the same bytes.
-/
import Derived.Test.YtabhjmfacgbbgaaValRows
import Derived.Test.YtabhjmfacgbbgaaValOrderWalk
import Derived.Deep.DeepCutAuto
import Derived.Deep.QuietTactic
import Derived.BigQuiet
namespace Go.Proofs.Ytabhjmfacgbbgaa
open Go.RowKit

/-- Nothing is left. -/
theorem rend_done {w : World} {B p h : Nat} {v : Value} {l : List Int} {q : Nat} (H : Rd w B p h v l q) (hq : q = l.length) :
    Calls Try.prog 11 #[.pointer (some ⟨p, 0, none⟩)] w fun e w' => e = .returned (.int .i64 0) ∧ Below w.heap.size w w' := by
  have c := rend_any H
  rwa [if_pos hq] at c
/-- The first bytes of a slice. -/
theorem isBytes_first {w : World} {b off len cap : Nat} {zs : List Int} (h : IsBytes w (some ⟨b, off, none⟩) len cap zs) (j : Nat) (hj : j ≤ len) : IsBytes w (some ⟨b, off, none⟩) j cap (zs.take j) := by
  obtain ⟨h1, h2, h3, h4, h5, h6⟩ := h
  refine ⟨by simp; omega, by omega, h3, (by intro h; cases h), fun k => ?_, fun h0 => ⟨b, off, rfl, fun k hk => ?_⟩⟩
  · rw [List.getElem?_take]
    split
    · exact h5 _
    · simp
  · obtain ⟨b', off', e, hc⟩ := h6 (by omega)
    cases e
    rw [hc k (by omega), List.getElem?_take, if_pos hk]

set_option maxHeartbeats 4000000 in
set_option maxRecDepth 100000 in
theorem back_walk (a0 a1 : Option Addr) (len0 cap0 len1 cap1 : Nat) (K N : Nat → Int) (S : Nat → ByteArray) (zs : List Int) (w : World)
    (h0 : Vals w a0 len0 K N S) (h1 : IsBytes w a1 len1 cap1 zs) (hl : len1 ≤ 140737488351232) :
    Calls Try.prog 3 #[.slice a0 len0 cap0, .slice a1 len1 cap1] w fun e w' => e = .returned (.bool true) ∧ Below w.heap.size w w' := by
  obtain ⟨P, hP⟩ : ∃ P : Nat → List (Int × Int × ByteArray), P = rightsTo K N S := ⟨_, rfl⟩
  have C : Hid (Calls Try.prog 5 _ _ _) := newWriter_ok 65536 w.heap.size w (by omega) (by omega) (Nat.le_refl _)
  have H0 : Hid (Vals w a0 len0 K N S) := h0
  have H1 : Hid (IsBytes w a1 len1 cap1 zs) := h1
  have HP : Hid (P = rightsTo K N S) := hP
  have HL : Hid (len1 ≤ 140737488351232) := hl
  clear h0 h1 hP hl
  go_enter Try.func3, Try.ntmps3
  go_wp2_with (first
    | (go_at_call 5
       refine C.out.mono ?_
       rintro e w1 ⟨rfl, hW1, hB1⟩
       have HW1 : Hid (Wr w1 w.heap.size (w.heap.size + 1) w.heap.size 65536 (.slice none 0 0) []) := hW1
       clear hW1))
  go_loopw [7, 8] (fun pv kv wr => ∃ (k : Nat) (v : Value), kv = .int .i64 (k : Int) ∧ k ≤ 40 ∧ k ≤ len0 ∧ Hid (∀ j, j < k → -9223372036854775808 ≤ N j ∧ N j < 9223372036854775808) ∧ Hid (Wr wr w.heap.size (w.heap.size + 1) w.heap.size 65536 v (encs (P k))) ∧ Hid (wr.ownsRow w.heap.size 30 3 pv (P k).length (cellsV (P k))) ∧ Below w.heap.size w wr) (fun _ kv _ => 40 - (intOf kv).toNat)
  case atStart => exact ⟨0, _, rfl, by omega, by omega, fun j hj => by omega, by rw [HP.out]; exact HW1.out, by rw [HP.out]; exact World.ownsRow_nil _ _ _ _, hB1⟩
  case round =>
    obtain ⟨k, v, rfl, hk, hk0, HN, HW, HO, hB⟩ := hrel
    by_cases hc : (k : Int) < (len0 : Int) ∧ (k : Int) < 40
    · obtain ⟨q0, q1⟩ := hc
      obtain ⟨b0, o0, rfl, hc0⟩ := H0.out (by omega)
      obtain ⟨⟨e0, e1, e2⟩, n0, n1⟩ := hc0 k (by omega)
      have E0 : Hid (w.cell? ⟨b0, o0 + k * 3, none⟩ = some (.int .i64 (K k))) := e0
      have E1 : Hid (w.cell? ⟨b0, o0 + k * 3 + 1, none⟩ = some (.int .i64 (N k))) := e1
      have E2 : Hid (w.cell? ⟨b0, o0 + k * 3 + 2, none⟩ = some (.string (S k))) := e2
      obtain ⟨g1, g2⟩ := rights_good K N S k HN.out
      rw [← HP.out] at g1 g2
      have gl := encs_length (P k) g2
      have hs0 := cell_later e0 hB
      have hs1 := cell_later e1 hB
      have hs2 := cell_later e2 hB
      obtain ⟨ap, cp, hpv⟩ := rowV_form HO.out
      clear hc0 e0 e1 e2
      have HN' : Hid (∀ j, j < k + 1 → -9223372036854775808 ≤ N j ∧ N j < 9223372036854775808) := by
        intro j hj
        by_cases e : j = k
        · subst e; exact ⟨n0, n1⟩
        · exact HN.out j (by omega)
      cases hr : rightB (K k) (N k) (S k) with
      | true =>
        have el := encV_len _ _ _ hr
        have HG : Hid ((P k).length ≤ k ∧ (encs (P k)).length ≤ 267 * (P k).length ∧ (encV (K k) (N k) (S k)).length ≤ 267) := ⟨g1, gl, el⟩
        have Hr : Hid (rightB (K k) (N k) (S k) = true) := hr
        clear g1 g2 gl el hr
        subst hpv
        go_wp2_with (first
          | (go_at_call 6
             refine (put_ok HW.out hB.size (K k) (N k) (S k) n0 n1 Hr.out (by have := HG.out; omega)).mono ?_
             rintro e w3 ⟨rfl, ⟨v3, hW3⟩, hK3, hB3⟩
             have hB4 : Below w.heap.size w w3 := hB.trans hB3
             have HW3 : Hid (Wr w3 w.heap.size (w.heap.size + 1) w.heap.size 65536 v3 _) := hW3
             have HO3 : Hid (w3.ownsRow w.heap.size 30 3 (.slice ap (P k).length cp) (P k).length (cellsV (P k))) := own_keepV HO.out hK3
             clear hW3 hs0 hs1 hs2
             have hs0 := cell_later E0.out hB4
             have hs1 := cell_later E1.out hB4
             have hs2 := cell_later E2.out hB4)
          | (go_at_call 7
             have cr := right_any (K k) (N k) (S k) w3
             rw [Hr.out] at cr
             refine cr.mono ?_
             clear cr hs0 hs1 hs2
             rintro e w4 ⟨rfl, hB5⟩
             have hB6 : Below w.heap.size w w4 := hB4.trans (hB5.mono hB4.size)
             have hs0 := cell_later E0.out hB6
             have hs1 := cell_later E1.out hB6
             have hs2 := cell_later E2.out hB6
             obtain ⟨v9, w9, r9, o9, gr9⟩ := snocV (own_below HO3.out hB5) hB6.size (by have := HG.out; omega) (K k) (N k) (S k)
             have hB8 : Below w4.heap.size w4 (w4.alloc (valO (K k) (N k) (S k))) := (Below.refl _ _).alloc (Nat.le_refl _) _
             have HW9 : Hid (Wr w9 w.heap.size (w.heap.size + 1) w.heap.size 65536 v3 _) := ((HW3.out.later hB5).later hB8).grownV (own_below (own_below HO3.out hB5) hB8) gr9
             have HO9 : Hid (w9.ownsRow w.heap.size 30 3 v9 ((P k).length + 1) (cellsV (P k ++ [(K k, N k, S k)]))) := o9
             have hB9 : Below w.heap.size w w9 := (hB6.trans (hB8.mono hB6.size)).grown gr9 (Nat.le_trans hB6.size hB8.size) (fun q hq => (HO3.out.lt q hq).1)
             have R9 : Hid (_ = _) := r9
             clear r9 o9 gr9)
          | (at_builtin
             refine wpList_append_run rfl (.tmp 50) (.tmp 55) 22 rfl _ _ _ rfl rfl R9.out ?_))
        go_roundw
        case rel =>
          have hPk : P (k + 1) = P k ++ [(K k, N k, S k)] := by rw [HP.out]; simp [rightsTo, Hr.out]
          refine ⟨k + 1, v3, by go_num, by omega, by omega, HN', ?_, ?_, hB9⟩
          · rw [hPk, encs_append, encs_cons]
            have e9 := HW9.out
            simp only [encs, List.flatMap_nil, List.append_nil] at e9 ⊢
            exact e9
          · rw [hPk, List.length_append]
            exact HO9.out
        case measure => simp [intOf]; omega
      | false =>
        have Hr : Hid (rightB (K k) (N k) (S k) = false) := hr
        clear g1 g2 gl hr
        subst hpv
        go_wp2_with (first
          | (go_at_call 6
             refine (put_no _ (K k) (N k) (S k) _ Hr.out).mono ?_
             rintro e w3 ⟨rfl, hB3⟩
             have hB4 : Below w.heap.size w w3 := hB.trans (hB3.mono hB.size)
             clear hs0 hs1 hs2
             have hs0 := cell_later E0.out hB4
             have hs1 := cell_later E1.out hB4
             have hs2 := cell_later E2.out hB4)
          | (go_at_call 7
             have cr := right_any (K k) (N k) (S k) w3
             rw [Hr.out] at cr
             refine cr.mono ?_
             clear cr hs0 hs1 hs2
             rintro e w4 ⟨rfl, hB5⟩
             have hB6 : Below w.heap.size w w4 := hB4.trans (hB5.mono hB4.size)
             have hB7 : Below wr.heap.size wr w4 := hB3.trans (hB5.mono hB3.size)))
        go_roundw
        case rel =>
          have hPk : P (k + 1) = P k := by rw [HP.out]; simp [rightsTo, Hr.out]
          refine ⟨k + 1, v, by go_num, by omega, by omega, HN', ?_, ?_, hB6⟩
          · rw [hPk]
            exact HW.out.later hB7
          · rw [hPk]
            exact own_below HO.out hB7
        case measure => simp [intOf]; omega
    · go_upto_region 4 with fail
      go_cut [31] (fun s31 wc => s31 = .bool false ∧ wc = wr)
      case first =>
        go_wp2_with fail
        all_goals go_meet
        all_goals (case rel => first | exact ⟨rfl, rfl⟩ | exact ⟨congrArg Value.bool (decide_eq_false (by omega)), rfl⟩)
      case rest =>
        obtain ⟨hu, hw⟩ := hcut
        subst hu hw
        obtain ⟨ap, cp, hpv⟩ := rowV_form HO.out
        subst hpv
        obtain ⟨g1, g2⟩ := rights_good K N S k HN.out
        rw [← HP.out] at g1 g2
        have gl := encs_length (P k) g2
        clear C HW1 hB1 HN H0
        generalize P k = Q at HW HO g1 g2 gl
        clear HP
        have hn40 : Q.length ≤ 40 := by omega
        have HQ : Hid (∀ x ∈ Q, GoodV x) := g2
        have HT : Hid ((encs Q).length ≤ 10680) := Nat.le_trans gl (by omega)
        clear g1 g2 gl
        go_wp2_with (first
          | (go_at_call 9
             refine (wdone_any HW.out).mono ?_
             rintro e w3 ⟨u, rfl, hown3, hB3⟩
             obtain ⟨a3, c3, rfl, hy3⟩ := isBytes_own hown3 HW.out.hd.bd
             have HY3 : Hid (IsBytes _ _ _ _ _) := hy3
             clear hown3 hy3)
          | (go_at_call 8
             refine (newReader_any _ _ _ _ w.heap.size _ HY3.out (by have := HT.out; omega) (Nat.le_trans hB.size hB3.size)).mono ?_
             rintro e w4 ⟨p4, h4, v4, rfl, hR4, hB4⟩
             have HR4 : Hid (Rd _ _ _ _ _ _ _) := hR4
             clear hR4))
        have hB5 : Below w.heap.size w w4 := (hB.trans (hB3.mono hB.size)).trans (hB4.mono (Nat.le_trans hB.size hB3.size))
        have HO4 : Hid (w4.ownsRow w.heap.size 30 3 (.slice ap Q.length cp) Q.length (cellsV Q)) := own_below (own_below HO.out hB3) hB4
        clear hB4 HY3 HW HO hB3 hB
        go_loopw [11] (fun jv wq => ∃ j : Nat, jv = .int .i64 (j : Int) ∧ j ≤ Q.length ∧ Hid (Rd wq w.heap.size p4 h4 v4 (encs Q) (encs (Q.take j)).length) ∧ Hid (wq.ownsRow w.heap.size 30 3 (.slice ap Q.length cp) Q.length (cellsV Q)) ∧ Below w.heap.size w wq) (fun jv _ => Q.length - (intOf jv).toNat)
        case atStart => exact ⟨0, rfl, by omega, HR4, HO4, hB5⟩
        case round =>
          obtain ⟨j, rfl, hj, HRj, HOj, hBj⟩ := hrel
          by_cases hjk : (j : Int) < (Q.length : Int)
          · have hjn : j < Q.length := by omega
            have hg := encs_read Q HQ.out j hjn
            obtain ⟨gg, cp', hform, hcp, hcm, -⟩ := rowV_get HOj.out rfl j hjn
            injection hform with hf1 _ hf2
            subst hf1 hf2
            have cc := vget_any HRj.out
            rw [hg] at cc
            obtain ⟨xk, xn, xs, hx⟩ : ∃ xk xn xs, Q[j] = (xk, xn, xs) := ⟨_, _, _, rfl⟩
            rw [hx] at cc
            dsimp only at cc
            have CC : Hid (Calls Try.prog 10 _ _ _) := cc
            have HX : Hid (Q[j] = (xk, xn, xs)) := hx
            unfold maxLen at hcm
            clear cc hg hx
            go_upto_region 16 with (first
              | (go_at_call 10
                 refine CC.out.mono ?_
                 rintro e w5 ⟨rfl, t5⟩
                 have HR5 : Hid (Rd w5 w.heap.size p4 h4 v4 (encs Q) (encs (Q.take (j + 1))).length) := t5.1
                 have HO5 : Hid (w5.ownsRow w.heap.size 30 3 (.slice (some ⟨gg, 0, none⟩) Q.length cp) Q.length (cellsV Q)) := own_keepV HOj.out (t5.keepV HRj.out)
                 have hB6 : Below w.heap.size w w5 := hBj.trans (t5.2.below hBj.size HRj.out.low (by intro k hk; cases hk))
                 clear t5))
            have hB7 : Below w5.heap.size w5 (w5.alloc (valO xk xn xs)) := (Below.refl _ _).alloc (Nat.le_refl _) _
            have hR6 := HR5.out.later hB7
            have hO6 := own_below HO5.out hB7
            have hB8 := hB6.trans (hB7.mono hB6.size)
            obtain ⟨x0, x1, x2⟩ := (Box.new w5 xk xn xs).cells
            generalize w5.heap.size = bx at x0 x1 x2 ⊢
            generalize w5.alloc (valO xk xn xs) = W6 at hR6 hO6 hB8 x0 x1 x2 ⊢
            obtain ⟨gg', cp', hform, -, -, y0, y1, y2⟩ := rowV_get hO6 rfl j hjn
            injection hform with hf1 _ _
            injection hf1 with hf1
            injection hf1 with hf1 _ _
            subst hf1
            rw [HX.out] at y0 y1 y2
            dsimp only at y0 y1 y2
            have HR6 : Hid (Rd W6 w.heap.size p4 h4 v4 (encs Q) (encs (Q.take (j + 1))).length) := hR6
            have HO6 : Hid (W6.ownsRow w.heap.size 30 3 (.slice (some ⟨gg, 0, none⟩) Q.length cp) Q.length (cellsV Q)) := hO6
            clear hR6 hO6 hB7
            go_quiet (fail)
            go_wp2
            go_roundw
            case rel => exact ⟨j + 1, by go_num, by omega, HR6.out.later (below_drewN W6 _), own_below HO6.out (below_drewN W6 _), hB8.trans ((below_drewN W6 _).mono hB8.size)⟩
            case measure => simp [intOf]; omega
          · have hjk' : j = Q.length := by omega
            subst hjk'
            rw [List.take_length] at HRj
            clear HOj HR4 HO4 hB5 HQ hjk hj
            obtain ⟨k5, n5, s5, e5, q5, hg⟩ : ∃ k5 n5 s5 e5 q5, getV zs 0 = ((k5, n5, s5), e5, q5) := ⟨_, _, _, _, _, rfl⟩
            have hnone := getV_none zs 0
            have hsome := getV_enc zs H1.out.2.2.2.2.1
            rw [hg] at hnone hsome
            dsimp only at hnone hsome
            have HGv : Hid (getV zs 0 = ((k5, n5, s5), e5, q5)) := hg
            clear hg
            by_cases he : e5 = 0
            · subst he
              obtain ⟨hr, n0, n1, hq, hen⟩ := hsome rfl
              clear hnone hsome
              have hzl := H1.out.1
              have hcap := H1.out.2.1
              have hmx := H1.out.2.2.1
              unfold maxLen at hmx
              have hq0 : 0 < q5 := by
                have : (encV k5 n5 s5).length = q5 := by rw [← hen, List.length_take]; omega
                simp [encV] at this
                omega
              obtain ⟨b1, o1, ha1, -⟩ := H1.out.2.2.2.2.2 (by omega)
              subst ha1
              have hql : (q5 : Int) ≤ (len1 : Int) := by omega
              have hqc : (q5 : Int) ≤ (cap1 : Int) := by omega
              have el := encV_len _ _ _ hr
              have HS : Hid (strOf ([] ++ encV k5 n5 s5) = strOf (zs.take q5)) := by rw [List.nil_append, hen]; rfl
              have Hr : Hid (rightB k5 n5 s5 = true ∧ -9223372036854775808 ≤ n5 ∧ n5 < 9223372036854775808 ∧ (encV k5 n5 s5).length ≤ 267) := ⟨hr, n0, n1, el⟩
              have HI : Hid (IsBytes w (some ⟨b1, o1, none⟩) q5 cap1 (zs.take q5)) := isBytes_first H1.out q5 (by omega)
              clear hr n0 n1 hq hen el hzl
              go_upto_region 22 with (first
                | (go_at_call 8
                   refine (newReader_any _ _ _ _ _ _ (H1.out.later hBj) (by have := HL.out; omega) (Nat.le_refl _)).mono ?_
                   rintro e w5 ⟨p5, h5, v5, rfl, hR5, hB6⟩
                   have HR5 : Hid (Rd _ _ _ _ _ _ _) := hR5
                   clear hR5)
                | (go_at_call 10
                   have cc := vget_any HR5.out
                   rw [HGv.out] at cc
                   dsimp only at cc
                   refine cc.mono ?_
                   clear cc
                   rintro e w6 ⟨rfl, t6⟩
                   have hB7 := hB6.trans (t6.2.below hB6.size HR5.out.low (by intro k hk; cases hk))
                   have HR6 : Hid (Rd w6 _ p5 h5 v5 zs q5) := t6.1
                   clear t6))
              have hA7 : Below w6.heap.size w6 (w6.alloc (valO k5 n5 s5)) := (Below.refl _ _).alloc (Nat.le_refl _) _
              have hB8 := hB7.trans (hA7.mono hB7.size)
              have hR7 := HR6.out.later hA7
              have hr7 := HRj.out.later hB8
              have hB9 := hBj.trans (hB8.mono hBj.size)
              have XB : Hid (Box (w6.alloc (valO k5 n5 s5)) w6.heap.size k5 n5 s5) := Box.new w6 _ _ _
              clear hB8 hB7 hA7 hB6 HR6 HR5 hBj HRj
              generalize w6.heap.size = bx at XB ⊢
              generalize w6.alloc (valO k5 n5 s5) = W7 at hR7 hr7 hB9 XB ⊢
              have HRu : Hid (Rd W7 _ p5 h5 v5 zs q5) := hR7
              have HRr : Hid (Rd W7 _ p4 h4 v4 (encs Q) (encs Q).length) := hr7
              clear hR7 hr7
              go_upto_region 24 with (first
                | (go_at_call 5
                   refine (newWriter_ok 65536 W7.heap.size W7 (by omega) (by omega) (Nat.le_refl _)).mono ?_
                   rintro e w8 ⟨rfl, hW8, hB10⟩
                   have HW8 : Hid (Wr w8 _ _ _ _ _ _) := hW8
                   clear hW8
                   obtain ⟨x0, x1, x2⟩ := (XB.out.keep (keepV_below hB10)).cells)
                | (go_at_call 6
                   refine (put_ok HW8.out hB10.size k5 n5 s5 Hr.out.2.1 Hr.out.2.2.1 Hr.out.1 (by have := Hr.out.2.2.2; simp only [List.length_nil]; omega)).mono ?_
                   rintro e wz ⟨rfl, ⟨v9, hW9⟩, hK9, hB11⟩
                   have HW9 : Hid (Wr wz _ _ _ _ v9 ([] ++ encV k5 n5 s5)) := hW9
                   have hB12 := hB10.trans hB11
                   clear hW9 x0 x1 x2 hK9))
              have HRu9 : Hid (Rd wz _ p5 h5 v5 zs q5) := HRu.out.later hB12
              have HRr9 : Hid (Rd wz _ p4 h4 v4 (encs Q) (encs Q).length) := HRr.out.later hB12
              have hB13 := hB9.trans (hB12.mono hB9.size)
              have HI9 : Hid (IsBytes wz (some ⟨b1, o1, none⟩) q5 cap1 (zs.take q5)) := HI.out.later hB13
              clear HRu HRr HW8 hB10 hB11 hB12 hB9 HI XB
              refine wp_region_noPanic ?_
              refine wp_region_held_drew (S := fun w' => Below wz.heap.size wz w') (by kernel_rfl) ((Below.refl _ _).drew) (fun hHeld => ?_)
              have hT : Below wz.heap.size wz wz.drew := hHeld
              refine wpAnyH_take (i := 0) (oi := ⟨some 108, Op.move (Operand.tmp 10), 32, _, _, _⟩) (v := ?v0) rfl (by kernel_rfl) (by kernel_rfl) (by kernel_rfl) (fun _ _ _ h => h) (Or.inl ⟨by rfl, ?hy0⟩) hHeld ?rest0
              case hy0 => intro w9 hSw; go_simp; (try with_reducible rfl)
              try simp only [Act.put, List.setIfInBounds_toArray, List.set_cons_zero, List.set_cons_succ]
              refine wpAnyH_ready (rs := [1]) (by kernel_rfl) (by simp) ?_
              refine AllReadyH.cons (o := ⟨some 109, Op.call { callee := Callee.value (Operand.func 11), args := #[Operand.tmp 108], argTypes := #[32] }, 25, _, _, _⟩) rfl (fun K hK => ?_) AllReadyH.nil
              go_simp
              refine (rend_done (HRr9.out.later hHeld) rfl).mono ?_
              rintro e x1 ⟨rfl, hN1⟩
              go_wp2_with fail
              have hT1 : Below wz.heap.size wz x1 := hT.trans (hN1.mono hT.size)
              refine hK.out _ _ (hHeld.trans (hN1.mono hHeld.size)) (fun _ => held_up (S' := fun w' => Below x1.heap.size x1 w') (fun w' h' => (hHeld.trans (hN1.mono hHeld.size)).trans (h'.mono (Nat.le_trans hHeld.size hN1.size))) _ _ _ _ ?_)
              clear hK K hHeld hT
              have hT : Below wz.heap.size wz x1 := hT1
              have hHeld : Below x1.heap.size x1 x1 := Below.refl _ _
              clear hT1 hN1
              try simp only [Act.put, List.setIfInBounds_toArray, List.set_cons_zero, List.set_cons_succ]
              refine wpAnyH_take (i := 2) (oi := ⟨some 110, Op.binOp BinOp.eql 25 (Operand.tmp 109) (Operand.const (Value.int IntKind.i64 0)) 25, 4, _, _, _⟩) (v := ?v2) rfl (by kernel_rfl) (by kernel_rfl) (by kernel_rfl) (fun _ _ _ h => h) (Or.inl ⟨by rfl, ?hy2⟩) hHeld ?rest2
              case hy2 => intro w9 hSw; go_simp; (try with_reducible rfl)
              try simp only [Act.put, List.setIfInBounds_toArray, List.set_cons_zero, List.set_cons_succ]
              refine wpAnyH_take (i := 3) (oi := ⟨some 111, Op.move (Operand.tmp 110), 4, _, _, _⟩) (v := ?v3) rfl (by kernel_rfl) (by kernel_rfl) (by kernel_rfl) (fun _ _ _ h => h) (Or.inl ⟨by rfl, ?hy3⟩) hHeld ?rest3
              case hy3 => intro w9 hSw; go_simp; (try with_reducible rfl)
              try simp only [Act.put, List.setIfInBounds_toArray, List.set_cons_zero, List.set_cons_succ]
              refine wpAnyH_take (i := 4) (oi := ⟨some 112, Op.move (Operand.tmp 19), 25, _, _, _⟩) (v := ?v4) rfl (by kernel_rfl) (by kernel_rfl) (by kernel_rfl) (fun _ _ _ h => h) (Or.inl ⟨by rfl, ?hy4⟩) hHeld ?rest4
              case hy4 => intro w9 hSw; go_simp; (try with_reducible rfl)
              try simp only [Act.put, List.setIfInBounds_toArray, List.set_cons_zero, List.set_cons_succ]
              refine wpAnyH_take (i := 5) (oi := ⟨some 113, Op.binOp BinOp.eql 25 (Operand.tmp 112) (Operand.const (Value.int IntKind.i64 0)) 25, 4, _, _, _⟩) (v := ?v5) rfl (by kernel_rfl) (by kernel_rfl) (by kernel_rfl) (fun _ _ _ h => h) (Or.inl ⟨by rfl, ?hy5⟩) hHeld ?rest5
              case hy5 => intro w9 hSw; go_simp; (try with_reducible rfl)
              try simp only [Act.put, List.setIfInBounds_toArray, List.set_cons_zero, List.set_cons_succ]
              refine wpAnyH_take (i := 6) (oi := ⟨some 114, Op.pick (Operand.tmp 111) (Operand.tmp 113) (Operand.const (Value.bool false)), 4, _, _, _⟩) (v := ?v6) rfl (by kernel_rfl) (by kernel_rfl) (by kernel_rfl) (fun _ _ _ h => h) (Or.inl ⟨by rfl, ?hy6⟩) hHeld ?rest6
              case hy6 => intro w9 hSw; go_simp; (try with_reducible rfl)
              try simp only [Act.put, List.setIfInBounds_toArray, List.set_cons_zero, List.set_cons_succ]
              refine wpAnyH_take (i := 7) (oi := ⟨some 115, Op.move (Operand.tmp 114), 4, _, _, _⟩) (v := ?v7) rfl (by kernel_rfl) (by kernel_rfl) (by kernel_rfl) (fun _ _ _ h => h) (Or.inl ⟨by rfl, ?hy7⟩) hHeld ?rest7
              case hy7 => intro w9 hSw; go_simp; (try with_reducible rfl)
              try simp only [Act.put, List.setIfInBounds_toArray, List.set_cons_zero, List.set_cons_succ]
              refine wpAnyH_take (i := 8) (oi := ⟨some 116, Op.move (Operand.tmp 14), 32, _, _, _⟩) (v := ?v8) rfl (by kernel_rfl) (by kernel_rfl) (by kernel_rfl) (fun _ _ _ h => h) (Or.inl ⟨by rfl, ?hy8⟩) hHeld ?rest8
              case hy8 => intro w9 hSw; go_simp; (try with_reducible rfl)
              try simp only [Act.put, List.setIfInBounds_toArray, List.set_cons_zero, List.set_cons_succ]
              refine wpAnyH_take (i := 10) (oi := ⟨some 118, Op.move (Operand.tmp 1), 23, _, _, _⟩) (v := ?v10) rfl (by kernel_rfl) (by kernel_rfl) (by kernel_rfl) (fun _ _ _ h => h) (Or.inl ⟨by rfl, ?hy10⟩) hHeld ?rest10
              case hy10 => intro w9 hSw; go_simp; (try with_reducible rfl)
              try simp only [Act.put, List.setIfInBounds_toArray, List.set_cons_zero, List.set_cons_succ]
              refine wpAnyH_take (i := 11) (oi := ⟨some 119, Op.call { callee := Callee.builtin Builtin.len, args := #[Operand.tmp 118], argTypes := #[23] }, 3, _, _, _⟩) (v := ?v11) rfl (by kernel_rfl) (by kernel_rfl) (by kernel_rfl) (fun _ _ _ h => h) (Or.inl ⟨by rfl, ?hy11⟩) hHeld ?rest11
              case hy11 => intro w9 hSw; go_simp; (try with_reducible rfl)
              try simp only [Act.put, List.setIfInBounds_toArray, List.set_cons_zero, List.set_cons_succ]
              refine wpAnyH_ready (rs := [9]) (by kernel_rfl) (by simp) ?_
              refine AllReadyH.cons (o := ⟨some 117, Op.call { callee := Callee.value (Operand.func 13), args := #[Operand.tmp 116], argTypes := #[32] }, 3, _, _, _⟩) rfl (fun K hK => ?_) AllReadyH.nil
              go_simp
              refine (rat_any (HRu9.out.later hT)).mono ?_
              rintro e x9 ⟨rfl, hx9⟩
              replace hx9 := hx9.symm
              subst hx9
              go_wp2_with fail
              refine hK.out _ _ hHeld (fun _ => ?_)
              clear hK K
              try simp only [Act.put, List.setIfInBounds_toArray, List.set_cons_zero, List.set_cons_succ]
              refine wpAnyH_take (i := 12) (oi := ⟨some 120, Op.binOp BinOp.leq 3 (Operand.tmp 117) (Operand.tmp 119) 3, 4, _, _, _⟩) (v := ?v12) rfl (by kernel_rfl) (by kernel_rfl) (by kernel_rfl) (fun _ _ _ h => h) (Or.inl ⟨by rfl, ?hy12⟩) hHeld ?rest12
              case hy12 => intro w9 hSw; go_simp; (try with_reducible rfl)
              try simp only [Act.put, List.setIfInBounds_toArray, List.set_cons_zero, List.set_cons_succ]
              refine wpAnyH_take (i := 13) (oi := ⟨some 121, Op.pick (Operand.tmp 115) (Operand.tmp 120) (Operand.const (Value.bool false)), 4, _, _, _⟩) (v := ?v13) rfl (by kernel_rfl) (by kernel_rfl) (by kernel_rfl) (fun _ _ _ h => h) (Or.inl ⟨by rfl, ?hy13⟩) hHeld ?rest13
              case hy13 => intro w9 hSw; go_simp; (try with_reducible rfl)
              try simp only [Act.put, List.setIfInBounds_toArray, List.set_cons_zero, List.set_cons_succ]
              refine wpAnyH_take (i := 14) (oi := ⟨some 122, Op.move (Operand.tmp 121), 4, _, _, _⟩) (v := ?v14) rfl (by kernel_rfl) (by kernel_rfl) (by kernel_rfl) (fun _ _ _ h => h) (Or.inl ⟨by rfl, ?hy14⟩) hHeld ?rest14
              case hy14 => intro w9 hSw; go_simp; (try with_reducible rfl)
              try simp only [Act.put, List.setIfInBounds_toArray, List.set_cons_zero, List.set_cons_succ]
              refine wpAnyH_take (i := 15) (oi := ⟨some 123, Op.move (Operand.tmp 17), 24, _, _, _⟩) (v := ?v15) rfl (by kernel_rfl) (by kernel_rfl) (by kernel_rfl) (fun _ _ _ h => h) (Or.inl ⟨by rfl, ?hy15⟩) hHeld ?rest15
              case hy15 => intro w9 hSw; go_simp; (try with_reducible rfl)
              try simp only [Act.put, List.setIfInBounds_toArray, List.set_cons_zero, List.set_cons_succ]
              refine wpAnyH_take (i := 18) (oi := ⟨some 126, Op.move (Operand.tmp 1), 23, _, _, _⟩) (v := ?v18) rfl (by kernel_rfl) (by kernel_rfl) (by kernel_rfl) (fun _ _ _ h => h) (Or.inl ⟨by rfl, ?hy18⟩) hHeld ?rest18
              case hy18 => intro w9 hSw; go_simp; (try with_reducible rfl)
              try simp only [Act.put, List.setIfInBounds_toArray, List.set_cons_zero, List.set_cons_succ]
              refine wpAnyH_take (i := 19) (oi := ⟨some 127, Op.move (Operand.tmp 14), 32, _, _, _⟩) (v := ?v19) rfl (by kernel_rfl) (by kernel_rfl) (by kernel_rfl) (fun _ _ _ h => h) (Or.inl ⟨by rfl, ?hy19⟩) hHeld ?rest19
              case hy19 => intro w9 hSw; go_simp; (try with_reducible rfl)
              try simp only [Act.put, List.setIfInBounds_toArray, List.set_cons_zero, List.set_cons_succ]
              refine wpAnyH_ready (rs := [16]) (by kernel_rfl) (by simp) ?_
              refine AllReadyH.cons (o := ⟨some 124, Op.call { callee := Callee.value (Operand.func 9), args := #[Operand.tmp 123], argTypes := #[24] }, 23, _, _, _⟩) rfl (fun K hK => ?_) AllReadyH.nil
              go_simp
              refine (wdone_any (HW9.out.later hT)).mono ?_
              rintro e x16 ⟨u16, rfl, ho16, hN16⟩
              go_wp2_with fail
              have hT16 : Below wz.heap.size wz x16 := hT.trans (hN16.mono hT.size)
              refine hK.out _ _ (hHeld.trans (hN16.mono hHeld.size)) (fun _ => held_up (S' := fun w' => Below x16.heap.size x16 w') (fun w' h' => (hHeld.trans (hN16.mono hHeld.size)).trans (h'.mono (Nat.le_trans hHeld.size hN16.size))) _ _ _ _ ?_)
              clear hK K hHeld hT
              have hT : Below wz.heap.size wz x16 := hT16
              have hHeld : Below x16.heap.size x16 x16 := Below.refl _ _
              clear hT16 hN16
              try simp only [Act.put, List.setIfInBounds_toArray, List.set_cons_zero, List.set_cons_succ]
              have HO16 : Hid (World.ownsRow _ _ _ _ _ _ _) := ho16
              clear ho16
              refine wpAnyH_take (i := 17) (oi := ⟨some 125, Op.convert 23 9 (Operand.tmp 124), 9, _, _, _⟩) (v := ?v17) rfl (by kernel_rfl) (by kernel_rfl) (by kernel_rfl) (fun _ _ _ h => h) (Or.inl ⟨by rfl, ?hy17⟩) hHeld ?rest17
              case hy17 => intro w9 hSw; have c17 := conv_own (own_below HO16.out hSw); rw [HS.out] at c17; go_simp; (try with_reducible rfl)
              try simp only [Act.put, List.setIfInBounds_toArray, List.set_cons_zero, List.set_cons_succ]
              refine wpAnyH_ready (rs := [20]) (by kernel_rfl) (by simp) ?_
              refine AllReadyH.cons (o := ⟨some 128, Op.call { callee := Callee.value (Operand.func 13), args := #[Operand.tmp 127], argTypes := #[32] }, 3, _, _, _⟩) rfl (fun K hK => ?_) AllReadyH.nil
              go_simp
              refine (rat_any (HRu9.out.later hT)).mono ?_
              rintro e x20 ⟨rfl, hx20⟩
              replace hx20 := hx20.symm
              subst hx20
              go_wp2_with fail
              refine hK.out _ _ hHeld (fun _ => ?_)
              clear hK K
              try simp only [Act.put, List.setIfInBounds_toArray, List.set_cons_zero, List.set_cons_succ]
              refine wpAnyH_take (i := 21) (oi := ⟨some 129, Op.slice 23 (Operand.tmp 126) none (some (Operand.tmp 128)) none, 23, _, _, _⟩) (v := ?v21) rfl (by kernel_rfl) (by kernel_rfl) (by kernel_rfl) (fun _ _ _ h => h) (Or.inl ⟨by rfl, ?hy21⟩) hHeld ?rest21
              case hy21 => intro w9 hSw; go_simp; (try with_reducible rfl)
              try simp only [Act.put, List.setIfInBounds_toArray, List.set_cons_zero, List.set_cons_succ]
              refine wpAnyH_take (i := 22) (oi := ⟨some 130, Op.convert 23 9 (Operand.tmp 129), 9, _, _, _⟩) (v := ?v22) rfl (by kernel_rfl) (by kernel_rfl) (by kernel_rfl) (fun _ _ _ h => h) (Or.inl ⟨by rfl, ?hy22⟩) hHeld ?rest22
              case hy22 => intro w9 hSw; have c22 := conv_in (HI9.out.later (hT.trans (hSw.mono hT.size))); go_simp; (try with_reducible rfl)
              try simp only [Act.put, List.setIfInBounds_toArray, List.set_cons_zero, List.set_cons_succ]
              refine wpAnyH_take (i := 23) (oi := ⟨some 131, Op.binOp BinOp.eql 9 (Operand.tmp 125) (Operand.tmp 130) 9, 4, _, _, _⟩) (v := ?v23) rfl (by kernel_rfl) (by kernel_rfl) (by kernel_rfl) (fun _ _ _ h => h) (Or.inl ⟨by rfl, ?hy23⟩) hHeld ?rest23
              case hy23 => intro w9 hSw; go_simp; (try with_reducible rfl)
              try simp only [Act.put, List.setIfInBounds_toArray, List.set_cons_zero, List.set_cons_succ]
              refine wpAnyH_take (i := 24) (oi := ⟨some 132, Op.pick (Operand.tmp 122) (Operand.tmp 131) (Operand.const (Value.bool false)), 4, _, _, _⟩) (v := ?v24) rfl (by kernel_rfl) (by kernel_rfl) (by kernel_rfl) (fun _ _ _ h => h) (Or.inl ⟨by rfl, ?hy24⟩) hHeld ?rest24
              case hy24 => intro w9 hSw; go_simp; (try with_reducible rfl)
              try simp only [Act.put, List.setIfInBounds_toArray, List.set_cons_zero, List.set_cons_succ]
              refine wpAnyH_take (i := 25) (oi := ⟨some 133, Op.move (Operand.tmp 132), 4, _, _, _⟩) (v := ?v25) rfl (by kernel_rfl) (by kernel_rfl) (by kernel_rfl) (fun _ _ _ h => h) (Or.inl ⟨by rfl, ?hy25⟩) hHeld ?rest25
              case hy25 => intro w9 hSw; go_simp; (try with_reducible rfl)
              try simp only [Act.put, List.setIfInBounds_toArray, List.set_cons_zero, List.set_cons_succ]
              refine wpAnyH_ready (rs := [26]) (by kernel_rfl) (by simp) ?_
              refine AllReadyH.cons (o := ⟨some 134, Op.call { callee := Callee.value (Operand.func 12), args := #[], argTypes := #[] }, 4, _, _, _⟩) rfl (fun K hK => ?_) AllReadyH.nil
              go_simp
              refine (awake_any _).mono ?_
              rintro e x26 ⟨rfl, hN26⟩
              go_wp2_with fail
              have hT26 : Below wz.heap.size wz x26 := hT.trans (hN26.mono hT.size)
              refine hK.out _ _ (hHeld.trans (hN26.mono hHeld.size)) (fun _ => held_up (S' := fun w' => Below x26.heap.size x26 w') (fun w' h' => (hHeld.trans (hN26.mono hHeld.size)).trans (h'.mono (Nat.le_trans hHeld.size hN26.size))) _ _ _ _ ?_)
              clear hK K hHeld hT
              have hT : Below wz.heap.size wz x26 := hT26
              have hHeld : Below x26.heap.size x26 x26 := Below.refl _ _
              clear hT26 hN26
              try simp only [Act.put, List.setIfInBounds_toArray, List.set_cons_zero, List.set_cons_succ]
              refine wpAnyH_take (i := 27) (oi := ⟨some 135, Op.pick (Operand.tmp 133) (Operand.tmp 134) (Operand.const (Value.bool false)), 4, _, _, _⟩) (v := ?v27) rfl (by kernel_rfl) (by kernel_rfl) (by kernel_rfl) (fun _ _ _ h => h) (Or.inl ⟨by rfl, ?hy27⟩) hHeld ?rest27
              case hy27 => intro w9 hSw; go_simp; (try with_reducible rfl)
              try simp only [Act.put, List.setIfInBounds_toArray, List.set_cons_zero, List.set_cons_succ]
              refine wpAnyH_take (i := 28) (oi := ⟨some 4, Op.assign (Operand.tmp 135), 4, _, _, _⟩) (v := ?v28) rfl (by kernel_rfl) (by kernel_rfl) (by kernel_rfl) (fun _ _ _ h => h) (Or.inl ⟨by rfl, ?hy28⟩) hHeld ?rest28
              case hy28 => intro w9 hSw; go_simp; (try with_reducible rfl)
              try simp only [Act.put, List.setIfInBounds_toArray, List.set_cons_zero, List.set_cons_succ]
              refine wpAnyH_done (by kernel_rfl) ?_ _
              refine NoPanic.normal ?_
              go_wp2
              go_ret
              exact ⟨rfl, hB13.trans (hT.mono hB13.size)⟩
            · have hz := hnone he
              injection hz with z1 z2
              injection z2 with z2 z3
              subst z1 z2 z3
              clear hnone hsome
              have he' : (e5 != 0) = true := by simpa using he
              clear he
              go_wp2_with (first
                | (go_at_call 8
                   refine (newReader_any _ _ _ _ _ _ (H1.out.later hBj) (by have := HL.out; omega) (Nat.le_refl _)).mono ?_
                   rintro e w5 ⟨p5, h5, v5, rfl, hR5, hB6⟩
                   have HR5 : Hid (Rd _ _ _ _ _ _ _) := hR5
                   clear hR5)
                | (go_at_call 10
                   have cc := vget_any HR5.out
                   rw [HGv.out] at cc
                   dsimp only at cc
                   refine cc.mono ?_
                   clear cc
                   rintro e w6 ⟨rfl, t6⟩
                   have hB7 := hB6.trans (t6.2.below hB6.size HR5.out.low (by intro k hk; cases hk))
                   clear t6)
                | (go_at_call 11
                   have hA8 : Below w6.heap.size w6 (w6.alloc (valO 0 0 ⟨#[]⟩)) := (Below.refl _ _).alloc (Nat.le_refl _) _
                   have hB8 := hB7.trans (hA8.mono hB7.size)
                   refine (rend_done (HRj.out.later hB8) rfl).mono ?_
                   rintro e w8 ⟨rfl, hB9⟩
                   obtain ⟨x0, x1, x2⟩ := ((Box.new w6 0 0 ⟨#[]⟩).keep (keepV_below hB9)).cells
                   have hB10 := hB8.trans (hB9.mono hB8.size))
                | (go_at_call 12
                   refine (awake_any _).mono ?_
                   rintro e w9 ⟨rfl, hB11⟩))
              go_ret
              have hB12 := hB10.trans (hB11.mono hB10.size)
              exact ⟨rfl, hBj.trans (hB12.mono hBj.size)⟩
end Go.Proofs.Ytabhjmfacgbbgaa
