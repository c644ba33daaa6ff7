/-
  DictPlays' walk: any acts of a dictionary, by the program and by the document.
-/
import Derived.Test.YtjnkplmcopihbaaDcPut
import Derived.Test.YtjnkplmcopihbaaDcAwake
import Derived.Deep.DeepCutAuto
namespace Go.Proofs.Ytjnkplmcopihbaa
open Go.RowKit Go.Maps Go.WideMaps

/-- The program's dictionary and the document's, whose texts lie apart. -/
structure DP (w : World) (B p M q : Nat) (most : Int) (v u : Value) (L R : List ByteArray) : Prop where
  one : Dc w B p M most v L
  two : Rc w B q most u R
  apart : ∀ k, v.ownBlock = some k → u.ownBlock ≠ some k
theorem DP.later {w w' : World} {B p M q : Nat} {most : Int} {v u : Value} {L R : List ByteArray} (P : DP w B p M q most v u L R) (b : Below w.heap.size w w') : DP w' B p M q most v u L R :=
  ⟨P.one.later b, P.two.later b, P.apart⟩
theorem DP.add {w w' : World} {B p M q : Nat} {most : Int} {v u : Value} {L R : List ByteArray} {s : ByteArray} {e : Ending} (P : DP w B p M q most v u L R) (t : Added w B p M most v L s e w') :
    e = .returned (.tuple #[.int .i64 (addZ most L s).1, .int .i64 (addZ most L s).2.1]) ∧ ∃ v', DP w' B p M q most v' u (addZ most L s).2.2 R := by
  obtain ⟨v', h1, h2, h3, h4⟩ := t
  obtain ⟨D, hown, _⟩ := P.one.nums
  refine ⟨h1, v', h2, P.two.kept ?_ ?_, ?_⟩
  · refine h3.block q P.two.lt (fun e => ?_) (map_ne hown P.two.top) fun e => own_top_ne P.one.own P.two.top (by decide) e.symm
    subst e
    have := P.one.top.symm.trans P.two.top
    simp at this
  · intro k hk
    refine h3.block k (P.two.own.lt k hk).2 (fun e => own_top_ne P.two.own P.one.top (by decide) (by rw [hk, e])) (fun e => own_map_ne hown P.two.own (by rw [hk, e])) fun e => P.apart k e.symm hk
  · intro k hk
    rcases h4 with h4 | h4
    · exact P.apart k (h4 ▸ hk)
    · intro hu
      have := (P.two.own.lt k hu).2
      have := h4 k hk
      omega
theorem DP.refAdd {w w' : World} {B p M q : Nat} {most : Int} {v u : Value} {L R : List ByteArray} {s : ByteArray} {e : Ending} (P : DP w B p M q most v u L R) (t : RefAdded w B q most u R s e w') :
    e = .returned (.tuple #[.int .i64 (addZ most R s).1, .int .i64 (addZ most R s).2.1]) ∧ ∃ u', DP w' B p M q most v u' L (addZ most R s).2.2 := by
  obtain ⟨u', h1, h2, h3, h4⟩ := t
  obtain ⟨D, hown, _⟩ := P.one.nums
  refine ⟨h1, u', P.one.kept ?_ ?_ ?_, h2, ?_⟩
  · refine h3.block p P.one.lt (fun e => ?_) (by simp)
    subst e
    have := P.one.top.symm.trans P.two.top
    simp at this
  · exact h3.block M P.one.map_lt (fun e => map_ne hown P.two.top e.symm) (by simp)
  · intro k hk
    exact h3.block k (P.one.own.lt k hk).2 (fun e => own_top_ne P.one.own P.two.top (by decide) (by rw [hk, e])) (by simp)
  · intro k hk
    rcases h4 with h4 | h4
    · rw [h4]; exact P.apart k hk
    · intro hu
      have := (P.one.own.lt k hk).2
      have := h4 k hu
      omega
theorem block_neD {w : World} {i j : Nat} {c d : Array Value} {e f : TypeId} {x y : Nat × Nat} (h1 : w.heap[i]? = some (.cells c e x)) (h2 : w.heap[j]? = some (.cells d f y)) (h : e ≠ f) : i ≠ j := by
  intro k
  subst k
  rw [h1] at h2
  simp at h2
  exact h h2.2.1
/-- A writer is as it was where a block of another type turns. -/
theorem Wr.touched {w w' : World} {B p h Q : Nat} {most : Int} {v : Value} {l : List Int} {c : Array Value} {t : TypeId} (H : Wr w B p h most v l) (T : Touch Q none w w') (hh : w.heap[Q]? = some (.cells c t (0, 0)))
    (h1 : t ≠ 74) (h2 : t ≠ 72) (h3 : t ≠ 5) : Wr w' B p h most v l := by
  refine ⟨(T.block p H.lt (block_neD H.top hh h1.symm) (by simp)).trans H.top, H.hd.kept (T.block h H.hd.lt (block_neD H.hd.hld hh h2.symm) (by simp)) fun k hk => ?_, H.low, H.fit, H.m1⟩
  obtain ⟨d, hd⟩ := own_u8 H.hd.own hk
  exact T.block k (H.hd.own.lt k hk).2 (block_neD hd hh h3.symm) (by simp)
theorem plays_two {w w' : World} {B P h q Q : Nat} {md room : Int} {u : Value} {L : List ByteArray} (HW : Wr w B P h room (.slice none 0 0) []) (HC : Rc w B q md u L) (HR : Rw w B Q room (.slice none 0 0) []) (T : Touch h none w w') :
    Rw2 w' B q Q md room u (.slice none 0 0) L [] :=
  ⟨HC.touched T HW.hd.hld (by decide) (by decide), HR.kept (T.block Q HR.lt (block_neD HR.top HW.hd.hld (by decide)) (by simp)) fun k hk => by cases hk⟩
set_option maxRecDepth 100000 in
set_option maxHeartbeats 2000000 in
theorem plays_no (most room : Int) (a1 a2 : Option Addr) (len1 cap1 len2 cap2 : Nat) (w : World) (hno : most < 0 ∨ 4096 < most) :
    Calls Try.prog 3 #[.int .i64 most, .slice a1 len1 cap1, .slice a2 len2 cap2, .int .i64 room] w fun e w' => e = .returned (.bool true) ∧ Below w.heap.size w w' := by
  have C1 : Hid (Calls Try.prog 6 _ _ _) := newD_no most w hno
  have C2 : Hid (Calls Try.prog 7 _ _ _) := refNewD_no most w hno
  clear hno
  go_enter Try.func3, Try.ntmps3
  go_wp2_with (first
    | (go_at_call 6; refine C1.out.mono ?_; rintro e w1 ⟨rfl, hw1⟩; replace hw1 := hw1.symm; subst hw1)
    | (go_at_call 7; refine C2.out.mono ?_; rintro e w2 ⟨rfl, hw2⟩; replace hw2 := hw2.symm; subst hw2)
    | (go_at_call 8; refine (awake23_any _).mono ?_; rintro e w3 ⟨rfl, hB⟩))
  go_ret
  exact ⟨rfl, hB⟩
set_option maxRecDepth 100000 in
set_option maxHeartbeats 4000000 in
theorem plays_ok (most room : Int) (a1 a2 : Option Addr) (len1 cap1 len2 cap2 : Nat) (S : Nat → ByteArray) (Z : Nat → Int) (w : World) (h0 : 0 ≤ most) (hm : most ≤ 4096)
    (h1 : Txs w a1 len1 S) (h2 : Ints .i64 w a2 len2 Z) (hS : ∀ j, j < len1 → (S j).size ≤ maxLen) (hl1 : len1 ≤ 9223372036854775807) (hl2 : len2 ≤ 9223372036854775807) :
    Calls Try.prog 3 #[.int .i64 most, .slice a1 len1 cap1, .slice a2 len2 cap2, .int .i64 room] w fun e w' => e = .returned (.bool true) ∧ Below w.heap.size w w' := by
  have C1 : Hid (Calls Try.prog 6 _ _ _) := newD_ok most w.heap.size w h0 hm (Nat.le_refl _)
  have H1 : Hid (Txs w a1 len1 S) := h1
  have H2 : Hid (Ints .i64 w a2 len2 Z) := h2
  have HS : Hid (∀ j, j < len1 → (S j).size ≤ maxLen) := hS
  clear h1 h2 hS
  go_enter Try.func3, Try.ntmps3
  go_wp2_with (first
    | (go_at_call 6
       refine C1.out.mono ?_
       rintro e w1 ⟨p, M, rfl, hD1, hB1⟩
       have HD1 : Hid (Dc w1 w.heap.size p M most (.slice none 0 0) []) := hD1
       clear hD1)
    | (go_at_call 7
       refine (refNewD_ok most w.heap.size _ h0 hm hB1.size).mono ?_
       rintro e w2 ⟨q, rfl, hR2, hB2⟩
       have HP2 : Hid (DP w2 w.heap.size p M q most (.slice none 0 0) (.slice none 0 0) [] []) := ⟨HD1.out.later hB2, hR2, fun k hk => by cases hk⟩
       have hB2' : Below w.heap.size w w2 := hB1.trans (hB2.mono hB1.size)
       clear hR2 hB2 HD1))
  go_loopw [13] (fun kv wr => ∃ (k : Nat) (v u : Value) (L : List ByteArray), kv = .int .i64 (k : Int) ∧ k ≤ 60 ∧ Hid (DP wr w.heap.size p M q most v u L L) ∧ Below w.heap.size w wr) (fun kv _ => 60 - (intOf kv).toNat)
  case atStart => exact ⟨0, _, _, _, rfl, by omega, HP2, hB2'⟩
  case round =>
    obtain ⟨k, v, u, L, rfl, hk, HP, hB⟩ := hrel
    clear HP2 hB1 hB2' C1
    by_cases hc : (k : Int) < (len1 : Int) ∧ (k : Int) < (len2 : Int) ∧ (k : Int) < 60
    · obtain ⟨q1, q2, q3⟩ := hc
      obtain ⟨b1, o1, rfl, hc1⟩ := H1.out (by omega)
      obtain ⟨b2, o2, rfl, hc2⟩ := H2.out (by omega)
      have E1 : Hid (w.cell? ⟨b1, o1 + k, none⟩ = some (.string (S k))) := hc1 k (by omega)
      obtain ⟨e2, -⟩ := hc2 k (by omega)
      have E2 : Hid (w.cell? ⟨b2, o2 + k, none⟩ = some (.int .i64 (Z k))) := e2
      have hsk := HS.out k (by omega)
      have HZ : Hid ((S k).size ≤ maxLen) := hsk
      have f1 := cell_later E1.out hB
      clear hc1 hc2 e2 hsk
      go_wp2_with (first
        | (go_at_call 9
           refine (addD_any HP.out.one hB.size (S k) HZ.out).mono ?_
           rintro e w3 t3
           have hB3 : Below w.heap.size w w3 := t3.below HP.out.one hB.size hB
           obtain ⟨rfl, v3, hP3⟩ := HP.out.add t3
           have HP3 : Hid (DP _ _ _ _ _ _ _ _ _ _) := hP3
           have g1 := cell_later E1.out hB3
           clear hP3 t3)
        | (go_at_call 10
           refine (refAddD_any HP3.out.two hB3.size (S k)).mono ?_
           rintro e w4 t4
           have hB4 : Below w.heap.size w w4 := t4.below HP3.out.two hB3.size hB3
           obtain ⟨rfl, u4, hP4⟩ := HP3.out.refAdd t4
           have HP4 : Hid (DP _ _ _ _ _ _ _ _ _ _) := hP4
           have g2 := cell_later E2.out hB4
           generalize (addZ most L (S k)).2.2 = L' at HP4
           generalize (addZ most L (S k)).1 = A
           generalize (addZ most L (S k)).2.1 = G
           clear hP4 t4)
        | (go_at_call 11
           refine (getD_any HP4.out.one (Z k)).mono ?_
           rintro e w5 ⟨rfl, hb5⟩
           have HP5 : Hid (DP w5 _ _ _ _ _ _ _ _ _) := HP4.out.later hb5
           have hB5 : Below w.heap.size w w5 := hB4.trans (hb5.mono hB4.size)
           have g3 := cell_later E2.out hB5
           obtain ⟨X, hX⟩ : ∃ X, (dgetZ L' (Z k)).1 = X := ⟨_, rfl⟩
           obtain ⟨J, hJ⟩ : ∃ J, (dgetZ L' (Z k)).2 = J := ⟨_, rfl⟩
           have HX : Hid ((dgetZ L' (Z k)).1 = X) := hX
           have HJ : Hid ((dgetZ L' (Z k)).2 = J) := hJ
           rw [hX, hJ]
           clear hb5 hX hJ)
        | (go_at_call 12
           have c := refGetD_any HP5.out.two (Z k)
           rw [HX.out, HJ.out] at c
           refine c.mono ?_
           rintro e w6 ⟨rfl, hb6⟩
           have HP6 : Hid (DP w6 _ _ _ _ _ _ _ _ _) := HP5.out.later hb6
           have hB6 : Below w.heap.size w w6 := hB5.trans (hb6.mono hB5.size)
           have g4 := cell_later E1.out hB6
           clear hb6 c)
        | (go_at_call 13
           have c := findD_any HP6.out.one (S k) HZ.out
           obtain ⟨Y, hY⟩ : ∃ Y, dnumZ L' (S k) = Y := ⟨_, rfl⟩
           obtain ⟨O, hO⟩ : ∃ O, (numL L' (S k)).isSome = O := ⟨_, rfl⟩
           have HY : Hid (dnumZ L' (S k) = Y) := hY
           have HO : Hid ((numL L' (S k)).isSome = O) := hO
           rw [HY.out, HO.out] at c
           clear hY hO
           refine c.mono ?_
           rintro e w7 ⟨rfl, hw7⟩
           replace hw7 := hw7.symm
           subst hw7
           clear c)
        | (go_at_call 14
           have c := refFindD_any HP6.out.two (S k)
           rw [HY.out, HO.out] at c
           refine c.mono ?_
           rintro e w8 ⟨rfl, hb8⟩
           have HP8 : Hid (DP w8 _ _ _ _ _ _ _ _ _) := HP6.out.later hb8
           have hB8 : Below w.heap.size w w8 := hB6.trans (hb8.mono hB6.size)
           clear hb8 c))
      have CL : Hid (∀ n, Calls Try.prog 15 _ (w8.drewN n) _) := fun n => lenD_quiet (HP8.out.one.later (below_drewN w8 n))
      have n1 : (A != A) = false := by simp
      have n2 : (G != G) = false := by simp
      have n3 : (X.toList == X.toList) = true := by simp
      have n4 : (J != J) = false := by simp
      have n5 : (Y != Y) = false := by simp
      obtain ⟨a8, k8, e8, -, -, hl8⟩ := own_txs HP8.out.two.own
      have c8 := HP8.out.two.cell0
      rw [e8] at c8
      clear e8
      go_quiet (first | (go_at_call 15; exact Calls.quiet_of (CL.out _)))
      go_wp2_with fail
      exact ⟨⟨k + 1, _, _, _, by go_num, by omega, HP8.out.later (below_drewN w8 nq), hB8.trans ((below_drewN w8 nq).mono hB8.size)⟩, by simp [intOf]; omega⟩
    · go_upto_region 8 with fail
      go_cut [66] (fun s66 wc => s66 = .bool false ∧ wc = wr)
      case first =>
        go_wp2_with fail
        all_goals go_meet
        all_goals (case rel => first | exact ⟨rfl, rfl⟩ | exact ⟨congrArg Value.bool (decide_eq_false (by omega)), rfl⟩)
      case rest =>
        obtain ⟨hu, hw⟩ := hcut
        subst hu hw
        by_cases hr : room < 0 ∨ 65536 < room
        · have CW : Hid (Calls Try.prog 16 _ _ _) := newWriter_no room wc hr
          have CR : Hid (Calls Try.prog 17 _ _ _) := refNewWriter_no room wc hr
          clear hr
          go_wp2_with (first
            | (go_at_call 16; refine CW.out.mono ?_; rintro e w3 ⟨rfl, hw3⟩; replace hw3 := hw3.symm; subst hw3)
            | (go_at_call 17; refine CR.out.mono ?_; rintro e w4 ⟨rfl, hw4⟩; replace hw4 := hw4.symm; subst hw4)
            | (go_at_call 8; refine (awake23_any _).mono ?_; rintro e w5 ⟨rfl, hB5⟩))
          go_ret
          exact ⟨rfl, hB.trans (hB5.mono hB.size)⟩
        · have r0 : 0 ≤ room := by omega
          have r1 : room ≤ 65536 := by omega
          clear hr
          go_wp2_with (first
            | (go_at_call 16
               refine (newWriter_ok room w.heap.size _ r0 r1 hB.size).mono ?_
               rintro e w3 ⟨rfl, hW3, hB3⟩
               have HW3 : Hid (Wr w3 w.heap.size _ _ room (.slice none 0 0) []) := hW3
               have HP3 : Hid (DP w3 w.heap.size p M q most v u L L) := HP.out.later hB3
               have hB3' : Below w.heap.size w w3 := hB.trans (hB3.mono hB.size)
               clear hW3 hB3)
            | (go_at_call 17
               refine (refNewWriter_ok room w.heap.size _ r0 r1 hB3'.size).mono ?_
               rintro e w4 ⟨rfl, hR4, hB4⟩
               have HR4 : Hid (Rw w4 w.heap.size _ room (.slice none 0 0) []) := hR4
               have HW4 : Hid (Wr w4 w.heap.size _ _ room (.slice none 0 0) []) := HW3.out.later hB4
               have HP4 : Hid (DP w4 w.heap.size p M q most v u L L) := HP3.out.later hB4
               have hB4' : Below w.heap.size w w4 := hB3'.trans (hB4.mono hB3'.size)
               clear hR4 hB4))
          have hd4 : Below w4.heap.size w4 w4.drew := (Below.refl _ _).drew
          have HD4 : Hid (Dw w4.drew w.heap.size p M (wc.heap.size + 1) wc.heap.size most room v (.slice none 0 0) L []) := ⟨HP4.out.one.later hd4, HW4.out.later hd4⟩
          have HC4 : Hid (Rc w4.drew w.heap.size q most u L) := HP4.out.two.later hd4
          have HR4d : Hid (Rw w4.drew w.heap.size w3.heap.size room (.slice none 0 0) []) := HR4.out.later hd4
          have hB4d : Below w.heap.size w w4.drew := hB4'.trans (hd4.mono hB4'.size)
          clear hd4
          refine wp_region_noPanic ?_
          refine wp_region_held_drew (S := fun _ => True) (by kernel_rfl) trivial (fun hHeld => ?_)
          refine wpAnyH_take (i := 0) (oi := ⟨some 195, Op.move (Operand.tmp 9), 24, _, _, _⟩) (v := ?v0) rfl (by kernel_rfl) (by kernel_rfl) (by kernel_rfl) (fun _ _ _ h => h) (Or.inl ⟨by rfl, ?hy0⟩) hHeld ?rest0
          case hy0 => intro w9 hSw; go_simp; (try with_reducible rfl)
          try simp only [Act.put, List.setIfInBounds_toArray, List.set_cons_zero, List.set_cons_succ]
          refine wpAnyH_take (i := 1) (oi := ⟨some 196, Op.move (Operand.tmp 26), 45, _, _, _⟩) (v := ?v1) rfl (by kernel_rfl) (by kernel_rfl) (by kernel_rfl) (fun _ _ _ h => h) (Or.inl ⟨by rfl, ?hy1⟩) hHeld ?rest1
          case hy1 => intro w9 hSw; go_simp; (try with_reducible rfl)
          try simp only [Act.put, List.setIfInBounds_toArray, List.set_cons_zero, List.set_cons_succ]
          refine wpAnyH_take (i := 3) (oi := ⟨some 198, Op.move (Operand.tmp 11), 28, _, _, _⟩) (v := ?v3) rfl (by kernel_rfl) (by kernel_rfl) (by kernel_rfl) (fun _ _ _ h => h) (Or.inl ⟨by rfl, ?hy3⟩) hHeld ?rest3
          case hy3 => intro w9 hSw; go_simp; (try with_reducible rfl)
          try simp only [Act.put, List.setIfInBounds_toArray, List.set_cons_zero, List.set_cons_succ]
          refine wpAnyH_take (i := 4) (oi := ⟨some 199, Op.move (Operand.tmp 28), 48, _, _, _⟩) (v := ?v4) rfl (by kernel_rfl) (by kernel_rfl) (by kernel_rfl) (fun _ _ _ h => h) (Or.inl ⟨by rfl, ?hy4⟩) hHeld ?rest4
          case hy4 => intro w9 hSw; go_simp; (try with_reducible rfl)
          try simp only [Act.put, List.setIfInBounds_toArray, List.set_cons_zero, List.set_cons_succ]
          refine wpAnyH_ready (rs := [2]) (by kernel_rfl) (by simp) ?_
          refine AllReadyH.cons (o := ⟨some 197, Op.call { callee := Callee.value (Operand.func 18), args := #[Operand.tmp 195, Operand.tmp 196], argTypes := #[24, 45] }, 25, _, _, _⟩) rfl (fun K hK => ?_) AllReadyH.nil
          go_simp
          refine (putD_any HD4.out hB4d.size).mono ?_
          rintro e x2 ⟨rfl, u2, hD2, hT2, -⟩
          have HD2 : Hid (Dw x2 _ _ _ _ _ _ _ _ _ _ _) := hD2
          have hT2' : Touch wc.heap.size none w4.drew x2 := hT2
          have hR2 := plays_two HD4.out.wr HC4.out HR4d.out hT2'
          have HR2 : Hid (Rw2 x2 w.heap.size q w3.heap.size most room u (.slice none 0 0) L []) := hR2
          have hB2 : Below w.heap.size w x2 := hB4d.trans (hT2'.below hB4d.size (HD4.out.wr.hd.low) (fun k hk => by cases hk))
          clear hD2 hT2 hT2' hR2
          go_wp2_with fail
          refine hK.out _ _ trivial (fun _ => ?_)
          clear hK K
          try simp only [Act.put, List.setIfInBounds_toArray, List.set_cons_zero, List.set_cons_succ]
          refine wpAnyH_ready (rs := [5]) (by kernel_rfl) (by simp) ?_
          refine AllReadyH.cons (o := ⟨some 200, Op.call { callee := Callee.value (Operand.func 19), args := #[Operand.tmp 198, Operand.tmp 199], argTypes := #[28, 48] }, 3, _, _, _⟩) rfl (fun K hK => ?_) AllReadyH.nil
          go_simp
          refine (refPutD_any HR2.out hB2.size).mono ?_
          rintro e x5 ⟨rfl, u5, hR5, hT5, -⟩
          have hW5 := HD2.out.wr.touched hT5 HR2.out.rw.top (by decide) (by decide) (by decide)
          have HW5 : Hid (Wr x5 _ _ _ _ _ _) := hW5
          have HR5 : Hid (Rw x5 _ _ _ _ _) := hR5.rw
          have hB5 : Below w.heap.size w x5 := hB2.trans (hT5.below hB2.size HR2.out.rw.low (fun k hk => by cases hk))
          obtain ⟨a7, c7, hv7⟩ := own_slice HR5.out.own
          generalize (putD room [] L).1 = E
          generalize (putD room [] L).2 = l at HW5 HR5 hv7
          have hcB : ∀ w', Below x5.heap.size x5 w' → w'.cell? ⟨w3.heap.size, 0, none⟩ = some (.slice a7 l.length c7) := fun w' hb => by have := (HR5.out.later hb).cell0; rwa [hv7] at this
          have hconvB : ∀ w', Below x5.heap.size x5 w' → (convert 53 9 (.slice a7 l.length c7)).run Try.prog w' = .ok (.string (strOf l)) w' := fun w' hb => by have := conv_own (own_below HR5.out.own hb); rwa [hv7] at this
          have HcB : Hid (∀ w', Below x5.heap.size x5 w' → w'.cell? ⟨w3.heap.size, 0, none⟩ = some (.slice a7 l.length c7)) := hcB
          have HconvB : Hid (∀ w', Below x5.heap.size x5 w' → _) := hconvB
          clear hcB hconvB hv7 hR5 hW5 hT5
          have n1 : (E == E) = true := by simp
          go_wp2_with fail
          refine hK.out _ _ trivial (fun _ => held_up (S' := fun w' => Below x5.heap.size x5 w') (fun _ _ => trivial) _ _ _ _ ?_)
          clear hK K
          try simp only [Act.put, List.setIfInBounds_toArray, List.set_cons_zero, List.set_cons_succ]
          clear hHeld
          have hHeld : Below x5.heap.size x5 x5 := Below.refl _ _
          have hT : Below x5.heap.size x5 x5 := Below.refl _ _
          refine wpAnyH_take (i := 6) (oi := ⟨some 201, Op.binOp BinOp.eql 3 (Operand.tmp 197) (Operand.tmp 200) 3, 4, _, _, _⟩) (v := ?v6) rfl (by kernel_rfl) (by kernel_rfl) (by kernel_rfl) (fun _ _ _ h => h) (Or.inl ⟨by rfl, ?hy6⟩) hHeld ?rest6
          case hy6 => intro w9 hSw; go_simp; (try with_reducible rfl)
          try simp only [Act.put, List.setIfInBounds_toArray, List.set_cons_zero, List.set_cons_succ]
          refine wpAnyH_take (i := 7) (oi := ⟨some 202, Op.move (Operand.tmp 201), 4, _, _, _⟩) (v := ?v7) rfl (by kernel_rfl) (by kernel_rfl) (by kernel_rfl) (fun _ _ _ h => h) (Or.inl ⟨by rfl, ?hy7⟩) hHeld ?rest7
          case hy7 => intro w9 hSw; go_simp; (try with_reducible rfl)
          try simp only [Act.put, List.setIfInBounds_toArray, List.set_cons_zero, List.set_cons_succ]
          refine wpAnyH_take (i := 8) (oi := ⟨some 203, Op.move (Operand.tmp 26), 45, _, _, _⟩) (v := ?v8) rfl (by kernel_rfl) (by kernel_rfl) (by kernel_rfl) (fun _ _ _ h => h) (Or.inl ⟨by rfl, ?hy8⟩) hHeld ?rest8
          case hy8 => intro w9 hSw; go_simp; (try with_reducible rfl)
          try simp only [Act.put, List.setIfInBounds_toArray, List.set_cons_zero, List.set_cons_succ]
          refine wpAnyH_take (i := 11) (oi := ⟨some 206, Op.move (Operand.tmp 28), 48, _, _, _⟩) (v := ?v11) rfl (by kernel_rfl) (by kernel_rfl) (by kernel_rfl) (fun _ _ _ h => h) (Or.inl ⟨by rfl, ?hy11⟩) hHeld ?rest11
          case hy11 => intro w9 hSw; go_simp; (try with_reducible rfl)
          try simp only [Act.put, List.setIfInBounds_toArray, List.set_cons_zero, List.set_cons_succ]
          refine wpAnyH_take (i := 12) (oi := ⟨some 207, Op.nilCheck (Operand.tmp 206), 0, _, _, _⟩) (v := ?v12) rfl (by kernel_rfl) (by kernel_rfl) (by kernel_rfl) (fun _ _ _ h => h) (Or.inl ⟨by rfl, ?hy12⟩) hHeld ?rest12
          case hy12 => intro w9 hSw; go_simp; (try with_reducible rfl)
          try simp only [Act.put, List.setIfInBounds_toArray, List.set_cons_zero, List.set_cons_succ]
          refine wpAnyH_take (i := 13) (oi := ⟨some 208, Op.fieldAddr 56 (Operand.tmp 207) 0, 0, _, _, _⟩) (v := ?v13) rfl (by kernel_rfl) (by kernel_rfl) (by kernel_rfl) (fun _ _ _ h => h) (Or.inl ⟨by rfl, ?hy13⟩) hHeld ?rest13
          case hy13 => intro w9 hSw; go_simp; (try with_reducible rfl)
          try simp only [Act.put, List.setIfInBounds_toArray, List.set_cons_zero, List.set_cons_succ]
          refine wpAnyH_take (i := 14) (oi := ⟨some 209, Op.load 53 (Operand.tmp 208), 53, _, _, _⟩) (v := ?v14) rfl (by kernel_rfl) (by kernel_rfl) (by kernel_rfl) (fun _ _ _ h => h) (Or.inl ⟨by rfl, ?hy14⟩) hHeld ?rest14
          case hy14 => intro w9 hSw; have cBw := HcB.out _ hSw; go_simp; (try with_reducible rfl)
          try simp only [Act.put, List.setIfInBounds_toArray, List.set_cons_zero, List.set_cons_succ]
          refine wpAnyH_take (i := 15) (oi := ⟨some 210, Op.convert 53 9 (Operand.tmp 209), 9, _, _, _⟩) (v := ?v15) rfl (by kernel_rfl) (by kernel_rfl) (by kernel_rfl) (fun _ _ _ h => h) (Or.inl ⟨by rfl, ?hy15⟩) hHeld ?rest15
          case hy15 => intro w9 hSw; have cBw := HconvB.out _ hSw; go_simp; (try with_reducible rfl)
          try simp only [Act.put, List.setIfInBounds_toArray, List.set_cons_zero, List.set_cons_succ]
          refine wpAnyH_ready (rs := [9]) (by kernel_rfl) (by simp) ?_
          refine AllReadyH.cons (o := ⟨some 204, Op.call { callee := Callee.value (Operand.func 20), args := #[Operand.tmp 203], argTypes := #[45] }, 53, _, _, _⟩) rfl (fun K hK => ?_) AllReadyH.nil
          go_simp
          refine (wdone_any (HW5.out.later hHeld)).mono ?_
          rintro e x9 ⟨v9, rfl, ho9, hN9⟩
          go_wp2_with fail
          have hT9 : Below x5.heap.size x5 x9 := hT.trans (hN9.mono hT.size)
          refine hK.out _ _ (hHeld.trans (hN9.mono hHeld.size)) (fun _ => held_up (S' := fun w' => Below x9.heap.size x9 w') (fun w' h' => (hHeld.trans (hN9.mono hHeld.size)).trans (h'.mono (Nat.le_trans hHeld.size hN9.size))) _ _ _ _ ?_)
          clear hK K hHeld hT
          have hT : Below x5.heap.size x5 x9 := hT9
          have hHeld : Below x9.heap.size x9 x9 := Below.refl _ _
          clear hT9 hN9
          try simp only [Act.put, List.setIfInBounds_toArray, List.set_cons_zero, List.set_cons_succ]
          have hconv9 : ∀ w', Below x9.heap.size x9 w' → (convert 53 9 v9).run Try.prog w' = .ok (.string (strOf l)) w' := fun w' hb => conv_own (own_below ho9 hb)
          have Hconv9 : Hid (∀ w', Below x9.heap.size x9 w' → _) := hconv9
          clear hconv9 ho9
          refine wpAnyH_take (i := 10) (oi := ⟨some 205, Op.convert 53 9 (Operand.tmp 204), 9, _, _, _⟩) (v := ?v10) rfl (by kernel_rfl) (by kernel_rfl) (by kernel_rfl) (fun _ _ _ h => h) (Or.inl ⟨by rfl, ?hy10⟩) hHeld ?rest10
          case hy10 => intro w9 hSw; have c5w := Hconv9.out _ hSw; go_simp; (try with_reducible rfl)
          try simp only [Act.put, List.setIfInBounds_toArray, List.set_cons_zero, List.set_cons_succ]
          refine wpAnyH_take (i := 16) (oi := ⟨some 211, Op.binOp BinOp.eql 9 (Operand.tmp 205) (Operand.tmp 210) 9, 4, _, _, _⟩) (v := ?v16) rfl (by kernel_rfl) (by kernel_rfl) (by kernel_rfl) (fun _ _ _ h => h) (Or.inl ⟨by rfl, ?hy16⟩) hHeld ?rest16
          case hy16 => intro w9 hSw; go_simp; (try with_reducible rfl)
          try simp only [Act.put, List.setIfInBounds_toArray, List.set_cons_zero, List.set_cons_succ]
          refine wpAnyH_take (i := 17) (oi := ⟨some 212, Op.pick (Operand.tmp 202) (Operand.tmp 211) (Operand.const (Value.bool false)), 4, _, _, _⟩) (v := ?v17) rfl (by kernel_rfl) (by kernel_rfl) (by kernel_rfl) (fun _ _ _ h => h) (Or.inl ⟨by rfl, ?hy17⟩) hHeld ?rest17
          case hy17 => intro w9 hSw; go_simp; (try with_reducible rfl)
          try simp only [Act.put, List.setIfInBounds_toArray, List.set_cons_zero, List.set_cons_succ]
          refine wpAnyH_take (i := 18) (oi := ⟨some 213, Op.move (Operand.tmp 212), 4, _, _, _⟩) (v := ?v18) rfl (by kernel_rfl) (by kernel_rfl) (by kernel_rfl) (fun _ _ _ h => h) (Or.inl ⟨by rfl, ?hy18⟩) hHeld ?rest18
          case hy18 => intro w9 hSw; go_simp; (try with_reducible rfl)
          try simp only [Act.put, List.setIfInBounds_toArray, List.set_cons_zero, List.set_cons_succ]
          refine wpAnyH_ready (rs := [19]) (by kernel_rfl) (by simp) ?_
          refine AllReadyH.cons (o := ⟨some 214, Op.call { callee := Callee.value (Operand.func 8), args := #[], argTypes := #[] }, 4, _, _, _⟩) rfl (fun K hK => ?_) AllReadyH.nil
          go_simp
          refine (awake23_any _).mono ?_
          rintro e x19 ⟨rfl, hN19⟩
          go_wp2_with fail
          have hT19 : Below x5.heap.size x5 x19 := hT.trans (hN19.mono hT.size)
          refine hK.out _ _ (hHeld.trans (hN19.mono hHeld.size)) (fun _ => held_up (S' := fun w' => Below x19.heap.size x19 w') (fun w' h' => (hHeld.trans (hN19.mono hHeld.size)).trans (h'.mono (Nat.le_trans hHeld.size hN19.size))) _ _ _ _ ?_)
          clear hK K hHeld hT
          have hT : Below x5.heap.size x5 x19 := hT19
          have hHeld : Below x19.heap.size x19 x19 := Below.refl _ _
          clear hT19 hN19
          try simp only [Act.put, List.setIfInBounds_toArray, List.set_cons_zero, List.set_cons_succ]
          refine wpAnyH_take (i := 20) (oi := ⟨some 215, Op.pick (Operand.tmp 213) (Operand.tmp 214) (Operand.const (Value.bool false)), 4, _, _, _⟩) (v := ?v20) rfl (by kernel_rfl) (by kernel_rfl) (by kernel_rfl) (fun _ _ _ h => h) (Or.inl ⟨by rfl, ?hy20⟩) hHeld ?rest20
          case hy20 => intro w9 hSw; go_simp; (try with_reducible rfl)
          try simp only [Act.put, List.setIfInBounds_toArray, List.set_cons_zero, List.set_cons_succ]
          refine wpAnyH_take (i := 21) (oi := ⟨some 8, Op.assign (Operand.tmp 215), 4, _, _, _⟩) (v := ?v21) rfl (by kernel_rfl) (by kernel_rfl) (by kernel_rfl) (fun _ _ _ h => h) (Or.inl ⟨by rfl, ?hy21⟩) hHeld ?rest21
          case hy21 => intro w9 hSw; go_simp; (try with_reducible rfl)
          try simp only [Act.put, List.setIfInBounds_toArray, List.set_cons_zero, List.set_cons_succ]
          refine wpAnyH_done (by kernel_rfl) ?_ _
          refine NoPanic.normal ?_
          go_wp2_with fail
          go_ret
          exact ⟨rfl, hB5.trans (hT.mono hB5.size)⟩
theorem plays_walk (most room : Int) (a1 a2 : Option Addr) (len1 cap1 len2 cap2 : Nat) (S : Nat → ByteArray) (Z : Nat → Int) (w : World)
    (h1 : Txs w a1 len1 S) (h2 : Ints .i64 w a2 len2 Z) (hS : ∀ j, j < len1 → (S j).size ≤ maxLen) (hl1 : len1 ≤ 9223372036854775807) (hl2 : len2 ≤ 9223372036854775807) :
    Calls Try.prog 3 #[.int .i64 most, .slice a1 len1 cap1, .slice a2 len2 cap2, .int .i64 room] w fun e w' => e = .returned (.bool true) ∧ Below w.heap.size w w' := by
  by_cases hno : most < 0 ∨ 4096 < most
  · exact plays_no most room a1 a2 len1 cap1 len2 cap2 w hno
  · exact plays_ok most room a1 a2 len1 cap1 len2 cap2 S Z w (by omega) (by omega) h1 h2 hS hl1 hl2
end Go.Proofs.Ytjnkplmcopihbaa
