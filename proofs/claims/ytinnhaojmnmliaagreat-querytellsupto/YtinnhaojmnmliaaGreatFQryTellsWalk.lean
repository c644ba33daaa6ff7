/-
  The document's Check of queries.
  QueryTells' walk.
-/
import Derived.Test.YtinnhaojmnmliaaGreatFQryRefCheckA
import Derived.Test.YtinnhaojmnmliaaGreatFQryRefCheckB
import Derived.Test.YtinnhaojmnmliaaGreatEBrief
import Derived.Test.YtinnhaojmnmliaaGreatFQryRefNames
import Derived.Test.YtinnhaojmnmliaaGreatFQryWhere
import Derived.Test.YtinnhaojmnmliaaGreatFQryEq
namespace Go.Proofs.YtinnhaojmnmliaaGreat
open Go.RowKit

set_option maxRecDepth 100000 in
set_option maxHeartbeats 8000000 in
theorem refCheckQ_p (q : Qy) (w : World) (hQ : IsQ w q) (hok : QOk q) (hsm : q.bulk ≤ 1048576) (z0 : ¬ chkP q.p = 0) : Calls Tryz.prog 11 #[q.val] w fun e w' => e = .returned (.int .i64 (chkQ q)) ∧ Below w.heap.size w w' := by
  have hb := hsm
  unfold Qy.bulk at hb
  have hB0 : Below w.heap.size w (w.alloc (.cells q.cells 28)) := (Below.refl _ _).alloc (Nat.le_refl _) _
  obtain ⟨cz, hcz⟩ : ∃ cz, cz = chkP q.p := ⟨_, rfl⟩
  have C1 : Hid (Calls Tryz.prog 31 #[q.p.val] (w.alloc (.cells q.cells 28)) fun e w' => e = .returned (.int .i64 cz) ∧ Below (w.alloc (.cells q.cells 28)).heap.size (w.alloc (.cells q.cells 28)) w') := by
    have := refCheckP_any q.p _ (hQ.p.later hB0) (by omega) hok.p
    rw [← hcz] at this
    exact this
  have hr : chkQ q = cz := by
    rw [hcz]
    exact lexN_first (f := clN q) (k := 0) (by omega) (fun j hj => absurd hj (Nat.not_lt_zero _)) z0
  rw [hr]
  have tz : (cz != 0) = true := by rw [hcz]; simp [z0]
  obtain ⟨⟨k0, k1, k2, k3, k4, k5⟩, k6, k7, k8, k9, k10⟩ := (QB.new w q).at0
  have HB0 : Hid (Below w.heap.size w (w.alloc (.cells q.cells 28))) := hB0
  clear hQ hok hsm z0 hb hB0 hcz hr
  go_enter Tryz.func11, Tryz.ntmps11
  go_wp2_with (first | (go_at_call 31; refine C1.out.mono ?_; clear C1; rintro e w1 ⟨rfl, hB1⟩))
  go_ret
  exact ⟨rfl, HB0.out.trans (hB1.mono HB0.out.size)⟩
set_option maxRecDepth 100000 in
set_option maxHeartbeats 8000000 in
theorem refCheckQ_n (q : Qy) (w : World) (hQ : IsQ w q) (hok : QOk q) (hsm : q.bulk ≤ 1048576) (z0 : chkP q.p = 0) (hn : 16 < q.n ∨ 16 < q.m) : Calls Tryz.prog 11 #[q.val] w fun e w' => e = .returned (.int .i64 (chkQ q)) ∧ Below w.heap.size w w' := by
  have hb := hsm
  unfold Qy.bulk at hb
  have hB0 : Below w.heap.size w (w.alloc (.cells q.cells 28)) := (Below.refl _ _).alloc (Nat.le_refl _) _
  have C1 : Hid (Calls Tryz.prog 31 #[q.p.val] (w.alloc (.cells q.cells 28)) fun e w' => e = .returned (.int .i64 0) ∧ Below (w.alloc (.cells q.cells 28)).heap.size (w.alloc (.cells q.cells 28)) w') := by
    have := refCheckP_any q.p _ (hQ.p.later hB0) (by omega) hok.p
    rw [z0] at this
    exact this
  have hr : chkQ q = 2 := by
    have e : clN q 1 = 2 := if_pos hn
    rw [← e]
    exact lexN_first (f := clN q) (k := 1) (by omega) (fun j hj => by obtain rfl : j = 0 := by omega
                                                                      exact z0) (by rw [e]; decide)
  rw [hr]
  have QB0 : Hid (QB (w.alloc (.cells q.cells 28)) w.heap.size q) := QB.new w q
  obtain ⟨⟨k0, k1, k2, k3, k4, k5⟩, k6, k7, k8, k9, k10⟩ := (QB.new w q).at0
  have HB0 : Hid (Below w.heap.size w (w.alloc (.cells q.cells 28))) := hB0
  have hcase : (16 : Int) < ((q.n : Nat) : Int) ∨ (¬ (16 : Int) < ((q.n : Nat) : Int) ∧ (16 : Int) < ((q.m : Nat) : Int)) := by omega
  clear hQ hok hsm z0 hb hB0 hr hn
  rcases hcase with t1 | ⟨t1, t2⟩
  · go_enter Tryz.func11, Tryz.ntmps11
    go_wp2_with (first | (go_at_call 31; refine C1.out.mono ?_; clear C1; rintro e w1 ⟨rfl, hB1⟩; clear k0 k1 k2 k3 k4 k5 k6 k7 k8 k9 k10; obtain ⟨⟨k0, k1, k2, k3, k4, k5⟩, k6, k7, k8, k9, k10⟩ := (QB0.out.later hB1).at0))
    go_ret
    exact ⟨rfl, HB0.out.trans (hB1.mono HB0.out.size)⟩
  · go_enter Tryz.func11, Tryz.ntmps11
    go_wp2_with (first | (go_at_call 31; refine C1.out.mono ?_; clear C1; rintro e w1 ⟨rfl, hB1⟩; clear k0 k1 k2 k3 k4 k5 k6 k7 k8 k9 k10; obtain ⟨⟨k0, k1, k2, k3, k4, k5⟩, k6, k7, k8, k9, k10⟩ := (QB0.out.later hB1).at0))
    go_ret
    exact ⟨rfl, HB0.out.trans (hB1.mono HB0.out.size)⟩
theorem refCheckQ_any (q : Qy) (w : World) (hQ : IsQ w q) (hok : QOk q) (hsm : q.bulk ≤ 1048576) : Calls Tryz.prog 11 #[q.val] w fun e w' => e = .returned (.int .i64 (chkQ q)) ∧ Below w.heap.size w w' := by
  by_cases z0 : chkP q.p = 0
  · by_cases hn : 16 < q.n ∨ 16 < q.m
    · exact refCheckQ_n q w hQ hok hsm z0 hn
    · by_cases hkey : q.key = ⟨#[]⟩
      · exact refCheckQ_a q w hQ hok hsm z0 (by omega) (by omega) hkey
      · exact refCheckQ_b q w hQ hok hsm z0 (by omega) (by omega) hkey
  · exact refCheckQ_p q w hQ hok hsm z0
end Go.Proofs.YtinnhaojmnmliaaGreat
namespace Go.Proofs.YtinnhaojmnmliaaGreat
open Go.RowKit

theorem boxQ_three (q p : Qy) (x : X) (w : World) : ∃ A, ((w.alloc (.cells q.cells 28)).alloc (.cells p.cells 28)).alloc (.cells x.cells 32) = A ∧ Below w.heap.size w A ∧ A.heap.size = w.heap.size + 3 ∧ QB A w.heap.size q ∧ QB A (w.heap.size + 1) p ∧ Node A (w.heap.size + 2) 0 x := by
  obtain ⟨B, rfl, hB, hs, h1, h2⟩ := boxQ_two q p w
  have hb : Below ((w.alloc (.cells q.cells 28)).alloc (.cells p.cells 28)).heap.size ((w.alloc (.cells q.cells 28)).alloc (.cells p.cells 28)) (((w.alloc (.cells q.cells 28)).alloc (.cells p.cells 28)).alloc (.cells x.cells 32)) := (Below.refl _ _).alloc (Nat.le_refl _) _
  refine ⟨_, rfl, hB.trans (hb.mono hB.size), by simp, h1.later hb, h2.later hb, ?_⟩
  have := node_new ((w.alloc (.cells q.cells 28)).alloc (.cells p.cells 28)) 32 x
  rw [hs] at this
  exact this
theorem sameQ_self (q : Qy) : sameQ q q = true := (sameQ_iff q q).2 ⟨Sm.refl q.p, rfl, rfl, rfl, rfl, rfl, fun _ _ => ordX_self _, fun _ _ => rfl⟩
set_option maxRecDepth 100000 in
set_option maxHeartbeats 60000000 in
theorem queryTells_walk (q p : Qy) (x : X) (w : World) (hQ : IsQ w q) (hP : IsQ w p) (hX : IsX w x) (hok : QOk q) (hox : XOk x) (hsq : q.bulk ≤ 1048576) (hsp : p.bulk ≤ 1048576) (hsx : x.size ≤ 1048576) :
    Calls Tryz.prog 3 #[q.val, p.val, x.val] w fun e w' => e = .returned (.bool true) ∧ Below w.heap.size w w' := by
  obtain ⟨A, hA, hB, hs, hq, hp, hx⟩ := boxQ_three q p x w
  obtain ⟨⟨a0, a1, a2, a3, a4, a5⟩, a6, a7, a8, a9, a10⟩ := hq.at0
  obtain ⟨⟨b0, b1, b2, b3, b4, b5⟩, b6, b7, b8, b9, b10⟩ := hp.at0
  obtain ⟨c0, c1, c2, c3, c4, c5, c6⟩ := hx.at0
  have HB : Hid (Below w.heap.size w A) := hB
  have NQ : Hid (QB A w.heap.size q) := hq
  have NP : Hid (QB A (w.heap.size + 1) p) := hp
  have NX : Hid (Node A (w.heap.size + 2) 0 x) := hx
  have L1 : Hid (Calls Tryz.prog 5 #[q.val] A (SomeB A)) := lightQ_any q A (hQ.later hB) hsq
  have L2 : Hid (∀ d, Below A.heap.size A d → Calls Tryz.prog 5 #[p.val] d (SomeB d)) := fun d h => lightQ_any p d ((hP.later hB).later h) hsp
  have W1 : Hid (∀ d, Calls Tryz.prog 6 #[] d fun e w' => e = .returned (.bool true) ∧ Below d.heap.size d w') := fun d => awake13_any d
  have H1 : Hid (∀ d, Below A.heap.size A d → Calls Tryz.prog 7 #[x.val] d (WhereAns x d)) := fun d h => whereQ_any x d ((hX.later hB).later h) hsx hox
  have H2 : Hid (∀ d, Below A.heap.size A d → Calls Tryz.prog 8 #[x.val] d (WhereAns x d)) := fun d h => refWhereQ_any x d ((hX.later hB).later h)
  obtain ⟨cz, hcz⟩ : ∃ cz, cz = chkQ q := ⟨_, rfl⟩
  have K1 : Hid (∀ d, Below A.heap.size A d → Calls Tryz.prog 10 #[q.val] d fun e w' => e = .returned (.int .i64 cz) ∧ Below d.heap.size d w') := fun d h => by rw [hcz]; exact checkQ_any q d ((hQ.later hB).later h) hok hsq
  have K2 : Hid (∀ d, Below A.heap.size A d → Calls Tryz.prog 11 #[q.val] d fun e w' => e = .returned (.int .i64 cz) ∧ Below d.heap.size d w') := fun d h => by rw [hcz]; exact refCheckQ_any q d ((hQ.later hB).later h) hok hsq
  obtain ⟨sz, hsz⟩ : ∃ sz, sz = sameQ q p := ⟨_, rfl⟩
  have S1 : Hid (∀ d, Below A.heap.size A d → Calls Tryz.prog 12 #[q.val, p.val] d fun e w' => e = .returned (.bool sz) ∧ Below d.heap.size d w') := fun d h => by rw [hsz]; exact sameQ_any q p d ((hQ.later hB).later h) ((hP.later hB).later h)
  have S2 : Hid (∀ d, Below A.heap.size A d → Calls Tryz.prog 13 #[q.val, p.val] d fun e w' => e = .returned (.bool sz) ∧ Below d.heap.size d w') := fun d h => by rw [hsz]; exact refSameQ_any q p d ((hQ.later hB).later h) ((hP.later hB).later h)
  have S3 : Hid (∀ d, Below A.heap.size A d → Calls Tryz.prog 12 #[q.val, q.val] d fun e w' => e = .returned (.bool true) ∧ Below d.heap.size d w') := fun d h => by
    have := sameQ_any q q d ((hQ.later hB).later h) ((hQ.later hB).later h)
    rw [sameQ_self] at this
    exact this
  obtain ⟨L, hL⟩ : ∃ L, L = namesQ q := ⟨_, rfl⟩
  have HLB : Hid (L.length ≤ 1048576) := by
    show L.length ≤ 1048576
    have h1 := intoAll_len (rawV q) []
    have h2 := rawV_len hsq
    rw [raw_names, ← hL, rawV, List.length_append, lstS_len] at h1
    have h3 : ([] : List ByteArray).length = 0 := rfl
    omega
  have N1 : Hid (∀ d, Below A.heap.size A d → Calls Tryz.prog 15 #[q.val] d fun e w' => ∃ al cap, e = .returned (.slice al L.length cap) ∧ Hid (Txs w' al L.length (atS L)) ∧ Below d.heap.size d w') := fun d h => by
    refine (namesQ_any q d ((hQ.later hB).later h) hok hsq).mono ?_
    rintro e w' ⟨v1, rfl, hR, hB2⟩
    rw [← hL] at hR
    obtain ⟨a, cap, rfl, ht, -⟩ := own_txs hR
    exact ⟨a, cap, rfl, ht, hB2⟩
  have N2 : Hid (∀ d, Below A.heap.size A d → Calls Tryz.prog 16 #[q.val] d fun e w' => ∃ al cap, e = .returned (.slice al L.length cap) ∧ Hid (Txs w' al L.length (atS L)) ∧ Below d.heap.size d w') := fun d h => by
    refine (refNamesQ_any q d ((hQ.later hB).later h) hsq).mono ?_
    rintro e w' ⟨v1, rfl, hR, hB2⟩
    rw [← hL] at hR
    obtain ⟨a, cap, rfl, ht, -⟩ := own_txs hR
    exact ⟨a, cap, rfl, ht, hB2⟩
  clear hQ hP hX hok hox hsq hsp hsx hB hq hp hx hcz hsz hL
  go_enter Tryz.func3, Tryz.ntmps3
  go_upto_region 1 with fail
  clear hA
  go_wp2_with (first
    | (go_at_call 5; refine (L2.out _ hB1).mono ?_; clear L2; rintro e w2 ⟨bb2, rfl, hB2⟩; have hB12 := hB1.trans (hB2.mono hB1.size); obtain ⟨e0, e1, e2, e3, e4, e5, e6⟩ := (NX.out.later hB12).at0; cases bb2)
    | (go_at_call 5; refine L1.out.mono ?_; clear L1; rintro e w1 ⟨bb1, rfl, hB1⟩; clear b0 b1 b2 b3 b4 b5 b6 b7 b8 b9 b10; obtain ⟨⟨b0, b1, b2, b3, b4, b5⟩, b6, b7, b8, b9, b10⟩ := (NP.out.later hB1).at0; cases bb1)
    | (go_at_call 6; refine (W1.out _).mono ?_; clear W1; rintro e w3 ⟨rfl, hB3⟩)
    | (go_at_call 7; refine (H1.out _ hB12).mono ?_; clear H1; rintro e w4 ⟨al1, n1, cap1, d1, rfl, hI1, hn1, ho1, hB4⟩; have hB14 := hB12.trans (hB4.mono hB12.size); clear e0 e1 e2 e3 e4 e5 e6; obtain ⟨e0, e1, e2, e3, e4, e5, e6⟩ := (NX.out.later hB14).at0; have HI1 : Hid _ := hI1; have HN1 : Hid _ := hn1; have HO1 : Hid _ := ho1; have hln := hI1.len; clear hI1 hn1 ho1)
    | (go_at_call 8; refine (H2.out _ hB14).mono ?_; clear H2; rintro e w5 ⟨al2, n2, cap2, d2, rfl, hI2, hn2, ho2, hB5⟩; obtain rfl : n1 = n2 := HN1.out.trans hn2.symm; have HI2 : Hid _ := hI2; have HO2 : Hid _ := ho2; clear hI2 hn2 ho2))
  · go_ret
    exact ⟨rfl, HB.out.trans ((hB1.trans (hB3.mono hB1.size)).mono HB.out.size)⟩
  · go_ret
    exact ⟨rfl, HB.out.trans ((hB12.trans (hB3.mono hB12.size)).mono HB.out.size)⟩
  have HA5 : Hid (Below A.heap.size A w5) := hB14.trans (hB5.mono hB14.size)
  have J0 : IsX w4 (X.mk 16 val0 ⟨#[]⟩ ⟨#[]⟩ al1 n1 cap1 d1) := HI1.out
  have J1 : Hid (IsX w5 (X.mk 16 val0 ⟨#[]⟩ ⟨#[]⟩ al1 n1 cap1 d1)) := J0.later hB5
  clear J0
  have J2 : Hid (IsX w5 (X.mk 16 val0 ⟨#[]⟩ ⟨#[]⟩ al2 n1 cap2 d2)) := HI2.out
  have hl2 : n1 ≤ 9223372036854775807 := hln
  have HOO : Hid (∀ k, k < n1 → (ordX (d1 k) (d2 k) == 0) = true) := fun k hk => by
    have h1 := HO1.out k hk
    have h2 := HO2.out k hk
    have h3 := (ordX_comp (d1 k) _ (d2 k)).1 h1 (by rw [ordX_turn, h2]; rfl)
    rw [h3]; rfl
  clear HI1 HI2 HO1 HO2 HN1 hB1 hB2 hB12 hB4 hB14 hB5 e0 e1 e2 e3 e4 e5 e6 a0 a1 a2 a3 a4 a5 a6 a7 a8 a9 a10 b0 b1 b2 b3 b4 b5 b6 b7 b8 b9 b10 c0 c1 c2 c3 c4 c5 c6 hln
  go_loopw [9] (fun i wr => ∃ k : Nat, k ≤ n1 ∧ i = .int .i64 k ∧ Below w5.heap.size w5 wr) (fun i _ => n1 - (intOf i).toNat)
  case atStart => exact ⟨0, Nat.zero_le _, rfl, Below.refl _ _⟩
  case round =>
    obtain ⟨k, hk, rfl, hBz⟩ := hrel
    by_cases hkn : k < n1
    · obtain ⟨b, o, ea, hn, hx1⟩ := (J1.out.later hBz).part (x := X.mk 16 val0 ⟨#[]⟩ ⟨#[]⟩ al1 n1 cap1 d1) hkn
      obtain ⟨b', o', ea', hn', hx2⟩ := (J2.out.later hBz).part (x := X.mk 16 val0 ⟨#[]⟩ ⟨#[]⟩ al2 n1 cap2 d2) hkn
      obtain rfl : al1 = some ⟨b, o, none⟩ := ea
      obtain rfl : al2 = some ⟨b', o', none⟩ := ea'
      have hn1 : Node wr b (o + k * 7) (d1 k) := hn
      have hn2 : Node wr b' (o' + k * 7) (d2 k) := hn'
      obtain ⟨g0, g1, g2, g3, g4, g5, g6⟩ := hn1
      obtain ⟨f0, f1, f2, f3, f4, f5, f6⟩ := hn2
      have hc := sameX13_any (d1 k) (d2 k) wr.drew (hx1.later (Below.refl _ _).drew) (hx2.later (Below.refl _ _).drew)
      rw [HOO.out k hkn] at hc
      have HKN : Hid (k < n1) := hkn
      clear hn hn' hx1 hx2
      go_wp2
      go_region_with (go_at_call 9; refine hc.mono ?_; clear hc; rintro e w6 ⟨rfl, hB6⟩)
      all_goals go_wp2
      all_goals go_roundw
      all_goals first
        | exact ⟨k + 1, HKN.out, by go_num, hBz.trans ((Below.refl _ _).drew.trans (hB6.mono hBz.size))⟩
        | (have := HKN.out; simp [intOf]; omega)
    · obtain rfl : k = n1 := by omega
      go_wp2_with fail
      have HAW0 : Hid (Below A.heap.size A wr) := HA5.out.trans (hBz.mono HA5.out.size)
      clear hBz hk hkn J1 J2 HOO HA5 NX
      obtain ⟨W, hW⟩ : ∃ W, W = wr := ⟨_, rfl⟩
      rw [← hW] at HAW0 ⊢
      clear hW
      have PX : Hid (QB W w.heap.size q) := NQ.out.later HAW0.out
      have PY : Hid (QB W (w.heap.size + 1) p) := NP.out.later HAW0.out
      have KU : ∀ {d : World}, Below W.heap.size W d → Below A.heap.size A d := fun h => HAW0.out.trans (h.mono HAW0.out.size)
      replace K1 : Hid (∀ d, Below W.heap.size W d → Calls Tryz.prog 10 #[q.val] d fun e w' => e = .returned (.int .i64 cz) ∧ Below d.heap.size d w') := fun d h => K1.out d (KU h)
      replace K2 : Hid (∀ d, Below W.heap.size W d → Calls Tryz.prog 11 #[q.val] d fun e w' => e = .returned (.int .i64 cz) ∧ Below d.heap.size d w') := fun d h => K2.out d (KU h)
      replace S1 : Hid (∀ d, Below W.heap.size W d → Calls Tryz.prog 12 #[q.val, p.val] d fun e w' => e = .returned (.bool sz) ∧ Below d.heap.size d w') := fun d h => S1.out d (KU h)
      replace S2 : Hid (∀ d, Below W.heap.size W d → Calls Tryz.prog 13 #[q.val, p.val] d fun e w' => e = .returned (.bool sz) ∧ Below d.heap.size d w') := fun d h => S2.out d (KU h)
      replace S3 : Hid (∀ d, Below W.heap.size W d → Calls Tryz.prog 12 #[q.val, q.val] d fun e w' => e = .returned (.bool true) ∧ Below d.heap.size d w') := fun d h => S3.out d (KU h)
      replace N1 : Hid (∀ d, Below W.heap.size W d → Calls Tryz.prog 15 #[q.val] d fun e w' => ∃ al cap, e = .returned (.slice al L.length cap) ∧ Hid (Txs w' al L.length (atS L)) ∧ Below d.heap.size d w') := fun d h => N1.out d (KU h)
      replace N2 : Hid (∀ d, Below W.heap.size W d → Calls Tryz.prog 16 #[q.val] d fun e w' => ∃ al cap, e = .returned (.slice al L.length cap) ∧ Hid (Txs w' al L.length (atS L)) ∧ Below d.heap.size d w') := fun d h => N2.out d (KU h)
      clear KU NQ NP
      refine wp_region_noPanic ?_
      refine wp_region_held_drew (S := fun w' => Below W.heap.size W w') (by kernel_rfl) ((Below.refl _ _).drew) (fun hHeld => ?_)
      have hT : Below W.heap.size W W.drew := hHeld
      obtain ⟨d, hdw⟩ : ∃ d, d = W.drew := ⟨_, rfl⟩
      rw [← hdw] at hHeld hT ⊢
      clear hdw
      refine wpAnyH_take (i := 0) (oi := ⟨some 44, .load 28 (.tmp 3), 28, _, _, _⟩) (v := ?v0t) rfl (by kernel_rfl) (by kernel_rfl) (by kernel_rfl) (fun _ _ _ h => h) (Or.inl ⟨by rfl, ?hy0t⟩) hHeld ?rest0t
      case hy0t => intro w9 hSw; obtain ⟨⟨d0, d1, d2, d3, d4, d5⟩, d6, d7, d8, d9, d10⟩ := (PX.out.later hSw).at0; go_simp; (try with_reducible rfl)
      try simp only [Act.put, s_put, s_0, s_1]
      refine wpAnyH_take (i := 2) (oi := ⟨some 46, .load 28 (.tmp 3), 28, _, _, _⟩) (v := ?v2t) rfl (by kernel_rfl) (by kernel_rfl) (by kernel_rfl) (fun _ _ _ h => h) (Or.inl ⟨by rfl, ?hy2t⟩) hHeld ?rest2t
      case hy2t => intro w9 hSw; obtain ⟨⟨d0, d1, d2, d3, d4, d5⟩, d6, d7, d8, d9, d10⟩ := (PX.out.later hSw).at0; go_simp; (try with_reducible rfl)
      try simp only [Act.put, s_put, s_0, s_1]
      refine wpAnyH_ready (rs := [1]) (by kernel_rfl) (by simp) ?_
      refine AllReadyH.cons (o := ⟨some 45, .call { callee := .value (.func 10), args := #[.tmp 44], argTypes := #[28] }, 37, _, _, _⟩) rfl (fun K hK => ?_) AllReadyH.nil
      go_simp
      refine (K1.out _ hT).mono ?_
      rintro e x1 ⟨rfl, hN1⟩
      go_wp2_with fail
      have hT1 : Below W.heap.size W x1 := hT.trans (hN1.mono hT.size)
      refine hK.out _ _ (hHeld.trans (hN1.mono hHeld.size)) (fun _ => held_up (S' := fun w' => Below x1.heap.size x1 w') (fun w' h' => (hHeld.trans (hN1.mono hHeld.size)).trans (h'.mono (Nat.le_trans hHeld.size hN1.size))) _ _ _ _ ?_)
      clear hK K hHeld hT
      have hT : Below W.heap.size W x1 := hT1
      have hHeld : Below x1.heap.size x1 x1 := Below.refl _ _
      clear hT1 hN1
      try simp only [Act.put, s_put, s_0, s_1]
      refine wpAnyH_ready (rs := [3]) (by kernel_rfl) (by simp) ?_
      refine AllReadyH.cons (o := ⟨some 47, .call { callee := .value (.func 11), args := #[.tmp 46], argTypes := #[28] }, 3, _, _, _⟩) rfl (fun K hK => ?_) AllReadyH.nil
      go_simp
      refine (K2.out _ hT).mono ?_
      rintro e x3 ⟨rfl, hN3⟩
      go_wp2_with fail
      have hT3 : Below W.heap.size W x3 := hT.trans (hN3.mono hT.size)
      refine hK.out _ _ (hHeld.trans (hN3.mono hHeld.size)) (fun _ => held_up (S' := fun w' => Below x3.heap.size x3 w') (fun w' h' => (hHeld.trans (hN3.mono hHeld.size)).trans (h'.mono (Nat.le_trans hHeld.size hN3.size))) _ _ _ _ ?_)
      clear hK K hHeld hT
      have hT : Below W.heap.size W x3 := hT3
      have hHeld : Below x3.heap.size x3 x3 := Below.refl _ _
      clear hT3 hN3
      try simp only [Act.put, s_put, s_0, s_1]
      refine wpAnyH_take (i := 4) (oi := ⟨some 48, .binOp BinOp.eql 3 (.tmp 45) (.tmp 47) 3, 4, _, _, _⟩) (v := ?v4t) rfl (by kernel_rfl) (by kernel_rfl) (by kernel_rfl) (fun _ _ _ h => h) (Or.inl ⟨by rfl, ?hy4t⟩) hHeld ?rest4t
      case hy4t => intro w9 hSw; go_simp; (try with_reducible rfl)
      try simp only [Act.put, s_put, s_0, s_1]
      refine wpAnyH_take (i := 5) (oi := ⟨some 49, .move (.tmp 48), 4, _, _, _⟩) (v := ?v5t) rfl (by kernel_rfl) (by kernel_rfl) (by kernel_rfl) (fun _ _ _ h => h) (Or.inl ⟨by rfl, ?hy5t⟩) hHeld ?rest5t
      case hy5t => intro w9 hSw; go_simp; (try with_reducible rfl)
      try simp only [Act.put, s_put, s_0, s_1]
      refine wpAnyH_take (i := 6) (oi := ⟨some 50, .load 28 (.tmp 3), 28, _, _, _⟩) (v := ?v6t) rfl (by kernel_rfl) (by kernel_rfl) (by kernel_rfl) (fun _ _ _ h => h) (Or.inl ⟨by rfl, ?hy6t⟩) hHeld ?rest6t
      case hy6t => intro w9 hSw; obtain ⟨⟨d0, d1, d2, d3, d4, d5⟩, d6, d7, d8, d9, d10⟩ := (PX.out.later (hT.trans (hSw.mono hT.size))).at0; go_simp; (try with_reducible rfl)
      try simp only [Act.put, s_put, s_0, s_1]
      refine wpAnyH_take (i := 7) (oi := ⟨some 51, .load 28 (.tmp 4), 28, _, _, _⟩) (v := ?v7t) rfl (by kernel_rfl) (by kernel_rfl) (by kernel_rfl) (fun _ _ _ h => h) (Or.inl ⟨by rfl, ?hy7t⟩) hHeld ?rest7t
      case hy7t => intro w9 hSw; obtain ⟨⟨d0, d1, d2, d3, d4, d5⟩, d6, d7, d8, d9, d10⟩ := (PY.out.later (hT.trans (hSw.mono hT.size))).at0; go_simp; (try with_reducible rfl)
      try simp only [Act.put, s_put, s_0, s_1]
      refine wpAnyH_take (i := 9) (oi := ⟨some 53, .load 28 (.tmp 3), 28, _, _, _⟩) (v := ?v9t) rfl (by kernel_rfl) (by kernel_rfl) (by kernel_rfl) (fun _ _ _ h => h) (Or.inl ⟨by rfl, ?hy9t⟩) hHeld ?rest9t
      case hy9t => intro w9 hSw; obtain ⟨⟨d0, d1, d2, d3, d4, d5⟩, d6, d7, d8, d9, d10⟩ := (PX.out.later (hT.trans (hSw.mono hT.size))).at0; go_simp; (try with_reducible rfl)
      try simp only [Act.put, s_put, s_0, s_1]
      refine wpAnyH_take (i := 10) (oi := ⟨some 54, .load 28 (.tmp 4), 28, _, _, _⟩) (v := ?v10t) rfl (by kernel_rfl) (by kernel_rfl) (by kernel_rfl) (fun _ _ _ h => h) (Or.inl ⟨by rfl, ?hy10t⟩) hHeld ?rest10t
      case hy10t => intro w9 hSw; obtain ⟨⟨d0, d1, d2, d3, d4, d5⟩, d6, d7, d8, d9, d10⟩ := (PY.out.later (hT.trans (hSw.mono hT.size))).at0; go_simp; (try with_reducible rfl)
      try simp only [Act.put, s_put, s_0, s_1]
      refine wpAnyH_ready (rs := [8]) (by kernel_rfl) (by simp) ?_
      refine AllReadyH.cons (o := ⟨some 52, .call { callee := .value (.func 12), args := #[.tmp 50, .tmp 51], argTypes := #[28, 28] }, 4, _, _, _⟩) rfl (fun K hK => ?_) AllReadyH.nil
      go_simp
      refine (S1.out _ hT).mono ?_
      rintro e x8 ⟨rfl, hN8⟩
      go_wp2_with fail
      have hT8 : Below W.heap.size W x8 := hT.trans (hN8.mono hT.size)
      refine hK.out _ _ (hHeld.trans (hN8.mono hHeld.size)) (fun _ => held_up (S' := fun w' => Below x8.heap.size x8 w') (fun w' h' => (hHeld.trans (hN8.mono hHeld.size)).trans (h'.mono (Nat.le_trans hHeld.size hN8.size))) _ _ _ _ ?_)
      clear hK K hHeld hT
      have hT : Below W.heap.size W x8 := hT8
      have hHeld : Below x8.heap.size x8 x8 := Below.refl _ _
      clear hT8 hN8
      try simp only [Act.put, s_put, s_0, s_1]
      refine wpAnyH_ready (rs := [11]) (by kernel_rfl) (by simp) ?_
      refine AllReadyH.cons (o := ⟨some 55, .call { callee := .value (.func 13), args := #[.tmp 53, .tmp 54], argTypes := #[28, 28] }, 4, _, _, _⟩) rfl (fun K hK => ?_) AllReadyH.nil
      go_simp
      refine (S2.out _ hT).mono ?_
      rintro e x11 ⟨rfl, hN11⟩
      go_wp2_with fail
      have hT11 : Below W.heap.size W x11 := hT.trans (hN11.mono hT.size)
      refine hK.out _ _ (hHeld.trans (hN11.mono hHeld.size)) (fun _ => held_up (S' := fun w' => Below x11.heap.size x11 w') (fun w' h' => (hHeld.trans (hN11.mono hHeld.size)).trans (h'.mono (Nat.le_trans hHeld.size hN11.size))) _ _ _ _ ?_)
      clear hK K hHeld hT
      have hT : Below W.heap.size W x11 := hT11
      have hHeld : Below x11.heap.size x11 x11 := Below.refl _ _
      clear hT11 hN11
      try simp only [Act.put, s_put, s_0, s_1]
      refine wpAnyH_take (i := 12) (oi := ⟨some 56, .binOp BinOp.eql 4 (.tmp 52) (.tmp 55) 4, 4, _, _, _⟩) (v := ?v12t) rfl (by kernel_rfl) (by kernel_rfl) (by kernel_rfl) (fun _ _ _ h => h) (Or.inl ⟨by rfl, ?hy12t⟩) hHeld ?rest12t
      case hy12t => intro w9 hSw; go_simp; (try with_reducible rfl)
      try simp only [Act.put, s_put, s_0, s_1]
      refine wpAnyH_take (i := 13) (oi := ⟨some 57, .pick (.tmp 49) (.tmp 56) (.const (Value.bool false)), 4, _, _, _⟩) (v := ?v13t) rfl (by kernel_rfl) (by kernel_rfl) (by kernel_rfl) (fun _ _ _ h => h) (Or.inl ⟨by rfl, ?hy13t⟩) hHeld ?rest13t
      case hy13t => intro w9 hSw; go_simp; (try with_reducible rfl)
      try simp only [Act.put, s_put, s_0, s_1]
      refine wpAnyH_take (i := 14) (oi := ⟨some 58, .move (.tmp 57), 4, _, _, _⟩) (v := ?v14t) rfl (by kernel_rfl) (by kernel_rfl) (by kernel_rfl) (fun _ _ _ h => h) (Or.inl ⟨by rfl, ?hy14t⟩) hHeld ?rest14t
      case hy14t => intro w9 hSw; go_simp; (try with_reducible rfl)
      try simp only [Act.put, s_put, s_0, s_1]
      refine wpAnyH_take (i := 15) (oi := ⟨some 59, .load 28 (.tmp 3), 28, _, _, _⟩) (v := ?v15t) rfl (by kernel_rfl) (by kernel_rfl) (by kernel_rfl) (fun _ _ _ h => h) (Or.inl ⟨by rfl, ?hy15t⟩) hHeld ?rest15t
      case hy15t => intro w9 hSw; obtain ⟨⟨d0, d1, d2, d3, d4, d5⟩, d6, d7, d8, d9, d10⟩ := (PX.out.later (hT.trans (hSw.mono hT.size))).at0; go_simp; (try with_reducible rfl)
      try simp only [Act.put, s_put, s_0, s_1]
      refine wpAnyH_take (i := 16) (oi := ⟨some 60, .load 28 (.tmp 3), 28, _, _, _⟩) (v := ?v16t) rfl (by kernel_rfl) (by kernel_rfl) (by kernel_rfl) (fun _ _ _ h => h) (Or.inl ⟨by rfl, ?hy16t⟩) hHeld ?rest16t
      case hy16t => intro w9 hSw; obtain ⟨⟨d0, d1, d2, d3, d4, d5⟩, d6, d7, d8, d9, d10⟩ := (PX.out.later (hT.trans (hSw.mono hT.size))).at0; go_simp; (try with_reducible rfl)
      try simp only [Act.put, s_put, s_0, s_1]
      refine wpAnyH_ready (rs := [17]) (by kernel_rfl) (by simp) ?_
      refine AllReadyH.cons (o := ⟨some 61, .call { callee := .value (.func 12), args := #[.tmp 59, .tmp 60], argTypes := #[28, 28] }, 4, _, _, _⟩) rfl (fun K hK => ?_) AllReadyH.nil
      go_simp
      refine (S3.out _ hT).mono ?_
      rintro e x17 ⟨rfl, hN17⟩
      go_wp2_with fail
      have hT17 : Below W.heap.size W x17 := hT.trans (hN17.mono hT.size)
      refine hK.out _ _ (hHeld.trans (hN17.mono hHeld.size)) (fun _ => held_up (S' := fun w' => Below x17.heap.size x17 w') (fun w' h' => (hHeld.trans (hN17.mono hHeld.size)).trans (h'.mono (Nat.le_trans hHeld.size hN17.size))) _ _ _ _ ?_)
      clear hK K hHeld hT
      have hT : Below W.heap.size W x17 := hT17
      have hHeld : Below x17.heap.size x17 x17 := Below.refl _ _
      clear hT17 hN17
      try simp only [Act.put, s_put, s_0, s_1]
      refine wpAnyH_take (i := 18) (oi := ⟨some 62, .pick (.tmp 58) (.tmp 61) (.const (Value.bool false)), 4, _, _, _⟩) (v := ?v18t) rfl (by kernel_rfl) (by kernel_rfl) (by kernel_rfl) (fun _ _ _ h => h) (Or.inl ⟨by rfl, ?hy18t⟩) hHeld ?rest18t
      case hy18t => intro w9 hSw; go_simp; (try with_reducible rfl)
      try simp only [Act.put, s_put, s_0, s_1]
      refine wpAnyH_take (i := 19) (oi := ⟨some 63, .move (.tmp 62), 4, _, _, _⟩) (v := ?v19t) rfl (by kernel_rfl) (by kernel_rfl) (by kernel_rfl) (fun _ _ _ h => h) (Or.inl ⟨by rfl, ?hy19t⟩) hHeld ?rest19t
      case hy19t => intro w9 hSw; go_simp; (try with_reducible rfl)
      try simp only [Act.put, s_put, s_0, s_1]
      refine wpAnyH_take (i := 20) (oi := ⟨some 64, .load 28 (.tmp 3), 28, _, _, _⟩) (v := ?v20t) rfl (by kernel_rfl) (by kernel_rfl) (by kernel_rfl) (fun _ _ _ h => h) (Or.inl ⟨by rfl, ?hy20t⟩) hHeld ?rest20t
      case hy20t => intro w9 hSw; obtain ⟨⟨d0, d1, d2, d3, d4, d5⟩, d6, d7, d8, d9, d10⟩ := (PX.out.later (hT.trans (hSw.mono hT.size))).at0; go_simp; (try with_reducible rfl)
      try simp only [Act.put, s_put, s_0, s_1]
      refine wpAnyH_take (i := 22) (oi := ⟨some 66, .load 28 (.tmp 3), 28, _, _, _⟩) (v := ?v22t) rfl (by kernel_rfl) (by kernel_rfl) (by kernel_rfl) (fun _ _ _ h => h) (Or.inl ⟨by rfl, ?hy22t⟩) hHeld ?rest22t
      case hy22t => intro w9 hSw; obtain ⟨⟨d0, d1, d2, d3, d4, d5⟩, d6, d7, d8, d9, d10⟩ := (PX.out.later (hT.trans (hSw.mono hT.size))).at0; go_simp; (try with_reducible rfl)
      try simp only [Act.put, s_put, s_0, s_1]
      refine wpAnyH_ready (rs := [21]) (by kernel_rfl) (by simp) ?_
      refine AllReadyH.cons (o := ⟨some 65, .call { callee := .value (.func 15), args := #[.tmp 64], argTypes := #[28] }, 42, _, _, _⟩) rfl (fun K hK => ?_) AllReadyH.nil
      go_simp
      refine (N1.out _ hT).mono ?_
      rintro e x21 ⟨al1, cp1, rfl, ht1, hN21⟩
      go_wp2_with fail
      have hT21 : Below W.heap.size W x21 := hT.trans (hN21.mono hT.size)
      refine hK.out _ _ (hHeld.trans (hN21.mono hHeld.size)) (fun _ => held_up (S' := fun w' => Below x21.heap.size x21 w') (fun w' h' => (hHeld.trans (hN21.mono hHeld.size)).trans (h'.mono (Nat.le_trans hHeld.size hN21.size))) _ _ _ _ ?_)
      clear hK K hHeld hT
      have hT : Below W.heap.size W x21 := hT21
      have hHeld : Below x21.heap.size x21 x21 := Below.refl _ _
      clear hT21 hN21
      try simp only [Act.put, s_put, s_0, s_1]
      have hu1 : Hid (Txs x21 al1 L.length (atS L)) := ht1
      refine wpAnyH_ready (rs := [23]) (by kernel_rfl) (by simp) ?_
      refine AllReadyH.cons (o := ⟨some 67, .call { callee := .value (.func 16), args := #[.tmp 66], argTypes := #[28] }, 42, _, _, _⟩) rfl (fun K hK => ?_) AllReadyH.nil
      go_simp
      refine (N2.out _ hT).mono ?_
      rintro e x23 ⟨al2, cp2, rfl, ht2, hN23⟩
      have C24 : Hid (Calls Tryz.prog 14 #[.slice al1 L.length cp1, .slice al2 L.length cp2] x23 fun e w2 => e = .returned (.bool true) ∧ Below x23.heap.size x23 w2) := names13_same al1 al2 L.length cp1 cp2 (atS L) x23 (hu1.out.later hN23) ht2.out HLB.out
      go_wp2_with fail
      have hT23 : Below W.heap.size W x23 := hT.trans (hN23.mono hT.size)
      refine hK.out _ _ (hHeld.trans (hN23.mono hHeld.size)) (fun _ => held_up (S' := fun w' => Below x23.heap.size x23 w') (fun w' h' => (hHeld.trans (hN23.mono hHeld.size)).trans (h'.mono (Nat.le_trans hHeld.size hN23.size))) _ _ _ _ ?_)
      clear hK K hHeld hT
      have hT : Below W.heap.size W x23 := hT23
      have hHeld : Below x23.heap.size x23 x23 := Below.refl _ _
      clear hT23 hN23
      try simp only [Act.put, s_put, s_0, s_1]
      refine wpAnyH_ready (rs := [24]) (by kernel_rfl) (by simp) ?_
      refine AllReadyH.cons (o := ⟨some 68, .call { callee := .value (.func 14), args := #[.tmp 65, .tmp 67], argTypes := #[42, 42] }, 4, _, _, _⟩) rfl (fun K hK => ?_) AllReadyH.nil
      go_simp
      refine (C24.out).mono ?_
      rintro e x24 ⟨rfl, hN24⟩
      go_wp2_with fail
      have hT24 : Below W.heap.size W x24 := hT.trans (hN24.mono hT.size)
      refine hK.out _ _ (hHeld.trans (hN24.mono hHeld.size)) (fun _ => held_up (S' := fun w' => Below x24.heap.size x24 w') (fun w' h' => (hHeld.trans (hN24.mono hHeld.size)).trans (h'.mono (Nat.le_trans hHeld.size hN24.size))) _ _ _ _ ?_)
      clear hK K hHeld hT
      have hT : Below W.heap.size W x24 := hT24
      have hHeld : Below x24.heap.size x24 x24 := Below.refl _ _
      clear hT24 hN24
      try simp only [Act.put, s_put, s_0, s_1]
      refine wpAnyH_take (i := 25) (oi := ⟨some 69, .pick (.tmp 63) (.tmp 68) (.const (Value.bool false)), 4, _, _, _⟩) (v := ?v25t) rfl (by kernel_rfl) (by kernel_rfl) (by kernel_rfl) (fun _ _ _ h => h) (Or.inl ⟨by rfl, ?hy25t⟩) hHeld ?rest25t
      case hy25t => intro w9 hSw; go_simp; (try with_reducible rfl)
      try simp only [Act.put, s_put, s_0, s_1]
      refine wpAnyH_take (i := 26) (oi := ⟨some 70, .move (.tmp 69), 4, _, _, _⟩) (v := ?v26t) rfl (by kernel_rfl) (by kernel_rfl) (by kernel_rfl) (fun _ _ _ h => h) (Or.inl ⟨by rfl, ?hy26t⟩) hHeld ?rest26t
      case hy26t => intro w9 hSw; go_simp; (try with_reducible rfl)
      try simp only [Act.put, s_put, s_0, s_1]
      refine wpAnyH_ready (rs := [27]) (by kernel_rfl) (by simp) ?_
      refine AllReadyH.cons (o := ⟨some 71, .call { callee := .value (.func 6), args := #[], argTypes := #[] }, 4, _, _, _⟩) rfl (fun K hK => ?_) AllReadyH.nil
      go_simp
      refine (W1.out _).mono ?_
      rintro e x27 ⟨rfl, hN27⟩
      go_wp2_with fail
      have hT27 : Below W.heap.size W x27 := hT.trans (hN27.mono hT.size)
      refine hK.out _ _ (hHeld.trans (hN27.mono hHeld.size)) (fun _ => held_up (S' := fun w' => Below x27.heap.size x27 w') (fun w' h' => (hHeld.trans (hN27.mono hHeld.size)).trans (h'.mono (Nat.le_trans hHeld.size hN27.size))) _ _ _ _ ?_)
      clear hK K hHeld hT
      have hT : Below W.heap.size W x27 := hT27
      have hHeld : Below x27.heap.size x27 x27 := Below.refl _ _
      clear hT27 hN27
      try simp only [Act.put, s_put, s_0, s_1]
      refine wpAnyH_take (i := 28) (oi := ⟨some 72, .pick (.tmp 70) (.tmp 71) (.const (Value.bool false)), 4, _, _, _⟩) (v := ?v28t) rfl (by kernel_rfl) (by kernel_rfl) (by kernel_rfl) (fun _ _ _ h => h) (Or.inl ⟨by rfl, ?hy28t⟩) hHeld ?rest28t
      case hy28t => intro w9 hSw; go_simp; (try with_reducible rfl)
      try simp only [Act.put, s_put, s_0, s_1]
      refine wpAnyH_take (i := 29) (oi := ⟨some 6, .assign (.tmp 72), 4, _, _, _⟩) (v := ?v29t) rfl (by kernel_rfl) (by kernel_rfl) (by kernel_rfl) (fun _ _ _ h => h) (Or.inl ⟨by rfl, ?hy29t⟩) hHeld ?rest29t
      case hy29t => intro w9 hSw; go_simp; (try with_reducible rfl)
      try simp only [Act.put, s_put, s_0, s_1]
      refine wpAnyH_done (by kernel_rfl) ?_ _
      refine NoPanic.normal ?_
      go_wp2
      go_ret
      exact ⟨rfl, HB.out.trans ((HAW0.out.trans (hT.mono HAW0.out.size)).mono HB.out.size)⟩
end Go.Proofs.YtinnhaojmnmliaaGreat
