/-
  The document's Names of queries.
  query.Names, the walk.
-/
import Derived.Test.YtinnhaojmnmliaaGreatFQryNames
import Derived.Test.YtinnhaojmnmliaaGreatFPatUses
import Derived.Test.YtinnhaojmnmliaaGreatFExprRefOrd
import Derived.Test.YtinnhaojmnmliaaGreatCExprNodes
namespace Go.Proofs.YtinnhaojmnmliaaGreat
open Go.RowKit

/-- The names of a pattern and of some conditions, as they come. -/
def catV (q : Qy) (k : Nat) : List ByteArray := namesP q.p ++ catN (fun i => varsX (q.c i)) k
/-- All names, as they come. -/
def rawV (q : Qy) : List ByteArray := catV q q.n ++ lstS (fun i => (q.it i).s) q.m
theorem f1_names (x : Pt) : f1 (firstL (usesP x)) = cellsS (namesP x) := by simp [f1, cellsS, namesP]
theorem raw_names (q : Qy) : intoAll [] (rawV q) = namesQ q := by
  refine sorted_one _ _ (sorted_intoAll _ _ trivial) (namesQ_sorted q) fun s => ?_
  rw [namesQ_mem, mem_intoAll, rawV, catV, allV, List.mem_append, List.mem_append, List.mem_append, List.mem_append, mem_catN, varsX_eq, mem_accN, if_neg (show ¬ q.x.k = 2 from fun h => absurd (show (16 : Int) = 2 from h) (by decide))]
  have h2 : (s ∈ ([] : List ByteArray) ∨ ∃ i, i < q.x.n ∧ s ∈ varsX (q.x.c i)) ↔ ∃ i, i < q.n ∧ s ∈ varsX (q.c i) := ⟨fun h => h.resolve_left (by simp), Or.inr⟩
  rw [h2]
  simp
theorem cat_len (q : Qy) : ∀ k, (catN (fun i => varsX (q.c i)) k).length ≤ sumN (fun i => (q.c i).size) k
  | 0 => by simp [catN, sumN]
  | k + 1 => by
    have h1 := cat_len q k
    have h2 := vars_len (q.c k)
    simp only [catN, sumN, List.length_append]
    omega
theorem catV_len {q : Qy} (hsm : q.bulk ≤ 1048576) {k : Nat} (hk : k < q.n) : (catV q k).length + (varsX (q.c k)).length ≤ 1048576 := by
  have h1 := cat_len q k
  have h2 := vars_len (q.c k)
  have h3 := sumN_part (f := fun i => (q.c i).size) hk
  have h4 := namesP_len q.p
  have h5 : q.x.size = 1 + sumN (fun i => (q.c i).size) q.n := q.x.size_eq
  unfold Qy.bulk at hsm
  rw [catV, List.length_append]
  omega
theorem rawV_len {q : Qy} (hsm : q.bulk ≤ 1048576) : (catV q q.n).length + q.m ≤ 1048576 := by
  have h1 := cat_len q q.n
  have h4 := namesP_len q.p
  have h5 : q.x.size = 1 + sumN (fun i => (q.c i).size) q.n := q.x.size_eq
  unfold Qy.bulk at hsm
  rw [catV, List.length_append]
  omega
/-- Some names more. -/
theorem push_more {A wr w2 : World} {u : Value} {a : Option Addr} {cap : Nat} {acc L : List ByteArray} (h : wr.ownsRow A.heap.size 9 1 u acc.length (cellsS acc)) (bA : Below A.heap.size A wr) (b2 : Below wr.heap.size wr w2) (hT : Txs w2 a L.length (atS L)) (hn : acc.length + L.length ≤ 1048576) :
    ∃ v5 w5, (Builtin.append_ #[42, 42] 42 #[u, .slice a L.length cap]).run Tryz.prog w2 = .ok v5 w5 ∧ w5.ownsRow A.heap.size 9 1 v5 (acc ++ L).length (cellsS (acc ++ L)) ∧ Below A.heap.size A w5 := by
  have h3 := own_laterS h b2
  have b3 := bA.trans (b2.mono bA.size)
  obtain ⟨v5, w5, hrun, hown, hgr⟩ := push_strs h3 b3.size a L.length cap (atS L) hT (by omega)
  rw [lstS_all] at hown
  exact ⟨v5, w5, hrun, hown, b3.grown hgr b3.size fun k e => (h3.lt k e).1⟩
set_option maxRecDepth 100000 in
set_option maxHeartbeats 8000000 in
theorem refNamesQ_any (q : Qy) (w : World) (hQ : IsQ w q) (hsm : q.bulk ≤ 1048576) :
    Calls Tryz.prog 16 #[q.val] w fun e w' => ∃ v, e = .returned v ∧ w'.ownsRow w.heap.size 9 1 v (namesQ q).length (cellsS (namesQ q)) ∧ Below w.heap.size w w' := by
  have hb := hsm
  unfold Qy.bulk at hb
  have hB0 : Below w.heap.size w (w.alloc (.cells q.cells 28)) := (Below.refl _ _).alloc (Nat.le_refl _) _
  have QB0 : Hid (QB (w.alloc (.cells q.cells 28)) w.heap.size q) := QB.new w q
  have C1 : Hid (Calls Tryz.prog 45 #[q.p.val] (w.alloc (.cells q.cells 28)) _) := refVars12_any q.p _ (hQ.p.later hB0) (by omega)
  have HV : Hid (∀ i, i < q.n → ∀ W, Below w.heap.size w W → Calls Tryz.prog 46 #[(q.c i).val] W fun e w' => ∃ v, e = .returned v ∧ w'.ownsRow W.heap.size 9 1 v (varsX (q.c i)).length (cellsS (varsX (q.c i))) ∧ Below W.heap.size W w') := fun i hi W hW => by
    obtain ⟨_, _, _, _, h1⟩ := (hQ.x.later hW).part (x := q.x) hi
    have hs : (q.c i).size < q.x.size := q.x.size_part i hi
    exact refVars_any (q.c i) W h1 (by omega)
  have HLN : Hid (∀ k, k < q.n → (catV q k).length + (varsX (q.c k)).length ≤ 1048576) := fun k hk => catV_len hsm hk
  have HRL : Hid ((catV q q.n).length + q.m ≤ 1048576) := rawV_len hsm
  have HQ : Hid (IsQ w q) := hQ
  have hlen : q.n ≤ 9223372036854775807 := hQ.x.len
  have hlm : q.m ≤ 9223372036854775807 := by omega
  obtain ⟨A, hA⟩ : ∃ A, w.alloc (.cells q.cells 28) = A := ⟨_, rfl⟩
  have hA' := hA
  unfold Qy.cells at hA'
  rw [hA] at QB0 C1 hB0
  have HB0 : Hid (Below w.heap.size w A) := hB0
  obtain ⟨⟨k0, k1, k2, k3, k4, k5⟩, -⟩ := QB0.out.at0
  clear hQ hsm hb hB0 hA
  go_enter Tryz.func16, Tryz.ntmps16
  go_wp2_with (first | (go_at_call 45; refine C1.out.mono ?_; rintro e w1 ⟨v1, v2, v3, rfl, hR3, hB1⟩; have HR3 : Hid _ := hR3.o1; clear hR3))
  have HO0 : Hid (w1.ownsRow A.heap.size 9 1 v1 (catV q 0).length (cellsS (catV q 0))) := by
    show World.ownsRow _ _ _ _ _ _ _
    have h1 : w1.ownsRow A.heap.size 9 1 v1 (cellsS (namesP q.p)).length (cellsS (namesP q.p)) := by
      have := HR3.out
      rw [f1_names] at this
      exact this
    rw [show (cellsS (namesP q.p)).length = (namesP q.p).length by simp [cellsS]] at h1
    rw [catV, catN, List.append_nil]
    exact h1
  clear k0 k1 k2 k3 k4 k5 C1 HR3
  go_loopw [4, 7] (fun u v wr => ∃ k : Nat, k ≤ q.n ∧ v = .int .i64 k ∧ Hid (wr.ownsRow A.heap.size 9 1 u (catV q k).length (cellsS (catV q k))) ∧ Below A.heap.size A wr) (fun _ v _ => q.n - (intOf v).toNat)
  case atStart => exact ⟨0, Nat.zero_le _, rfl, HO0, hB1⟩
  case round =>
    obtain ⟨k, hk, rfl, HO, hB⟩ := hrel
    have hw := HB0.out.trans (hB.mono HB0.out.size)
    obtain ⟨-, c6, -, -, -, c10⟩ := (QB0.out.later hB).at0
    by_cases hkn : k < q.n
    · obtain ⟨b, o, ea, hn, -⟩ := (HQ.out.x.later hw).part (x := q.x) hkn
      have ea1 : q.a = some ⟨b, o, none⟩ := ea
      rw [ea1] at c6
      have hn1 : Node wr b (o + k * 7) (q.c k) := hn
      obtain ⟨d0, d1, d2, d3, d4, d5, d6⟩ := hn1
      have hc := HV.out k hkn wr hw
      have HKN : Hid (k < q.n) := hkn
      have HLK := HLN.out k hkn
      have HNX : Hid (catV q (k + 1) = catV q k ++ varsX (q.c k)) := by show _ = _; rw [catV, catN, ← List.append_assoc]; rfl
      obtain ⟨L, hL⟩ : ∃ L, L = varsX (q.c k) := ⟨_, rfl⟩
      obtain ⟨acc, hacc⟩ : ∃ acc, acc = catV q k := ⟨_, rfl⟩
      rw [← hL] at hc HLK HNX
      rw [← hacc] at HO HLK HNX
      have HLK' : Hid (acc.length + L.length ≤ 1048576) := HLK
      have HBB : Hid (Below A.heap.size A wr) := hB
      obtain ⟨m, hm⟩ : ∃ m, m = L.length := ⟨_, rfl⟩
      have HM : Hid (m = L.length) := hm
      rw [← hm] at hc
      have hm2 : m ≤ 1048576 := by omega
      clear ea ea1 hn hL hacc HLK hB hw hm
      go_wp2_with (first
        | (go_at_call 46; refine hc.mono ?_; clear hc; rintro e w2 ⟨v2, rfl, ho2, hB2⟩; obtain ⟨a2, cap2, rfl, hT2, -, -⟩ := own_txs ho2; have HP : Hid _ := push_more (cap := cap2) HO.out HBB.out hB2 (by rw [← HM.out]; exact hT2) HLK'.out; rw [← HM.out] at HP; obtain ⟨v5, w5, hrun, hown5, hB5⟩ := HP.out; have HR5 : Hid _ := hrun; have HO5 : Hid _ := hown5; clear HP hrun hown5 hT2 ho2)
        | (at_builtin; refine wpList_append_run rfl (.tmp 24) (.tmp 30) 42 rfl _ _ _ rfl rfl HR5.out ?_))
      go_roundw
      case rel => exact ⟨k + 1, HKN.out, by go_num, by rw [HNX.out]; exact HO5.out, hB5⟩
      case measure => have := HKN.out; simp [intOf]; omega
    · obtain rfl : k = q.n := by omega
      have hB20 := hB
      clear hk hkn HLN HV
      go_wp2_with fail
      have HB2 : Hid (Below A.heap.size A wr) := hB
      clear c6 c10 hw hB hB20
      obtain ⟨W, hW⟩ : ∃ W, W = catV q q.n := ⟨_, rfl⟩
      rw [← hW] at HO HRL
      have HW : Hid (W = catV q q.n) := hW
      have hrl : W.length + q.m ≤ 1048576 := HRL.out
      clear hW
      go_loopw [4, 8] (fun u v wz => ∃ k : Nat, k ≤ q.m ∧ v = .int .i64 k ∧ Hid (wz.ownsRow A.heap.size 9 1 u (W ++ lstS (fun i => (q.it i).s) k).length (cellsS (W ++ lstS (fun i => (q.it i).s) k))) ∧ Below A.heap.size A wz) (fun _ v _ => q.m - (intOf v).toNat)
      case atStart => exact ⟨0, Nat.zero_le _, rfl, by show Hid (World.ownsRow _ _ _ _ _ _ _); rw [lstS, List.append_nil]; exact HO, HB2.out⟩
      case round =>
        obtain ⟨k, hk, rfl, HO2, hB⟩ := hrel
        have hw := HB0.out.trans (hB.mono HB0.out.size)
        obtain ⟨-, -, -, -, -, c10⟩ := (QB0.out.later hB).at0
        by_cases hkn : k < q.m
        · obtain ⟨b, o, ea, d0, d1, d2, d3⟩ := (HQ.out.it.later hw) k hkn
          rw [ea] at c10
          have HKN : Hid (k < q.m) := hkn
          obtain ⟨v5, w5, hrun, hown5, hB5⟩ := push_str HO2.out hB.size (by rw [List.length_append, lstS_len]; omega) (q.it k).s
          have HR5 : Hid _ := hrun
          have HO5 : Hid (w5.ownsRow A.heap.size 9 1 v5 (W ++ lstS (fun i => (q.it i).s) (k + 1)).length (cellsS (W ++ lstS (fun i => (q.it i).s) (k + 1)))) := by
            show World.ownsRow _ _ _ _ _ _ _
            rw [lstS, ← List.append_assoc, List.length_append]
            exact hown5
          have HB5 : Hid (Below A.heap.size A w5) := hB.trans hB5
          clear ea hrun hown5 hB5 hw
          go_wp2_with (first | (at_builtin; refine wpList_append_run rfl (.tmp 39) (.tmp 46) 42 rfl _ _ _ rfl rfl HR5.out ?_))
          go_roundw
          case rel => exact ⟨k + 1, HKN.out, by go_num, HO5, HB5.out⟩
          case measure => have := HKN.out; simp [intOf]; omega
        · obtain rfl : k = q.m := by omega
          obtain ⟨L, hL⟩ : ∃ L, L = W ++ lstS (fun i => (q.it i).s) q.m := ⟨_, rfl⟩
          rw [← hL] at HO2
          have HE : Hid (intoAll [] L = namesQ q) := by show _ = _; rw [hL, HW.out]; exact raw_names q
          have hll : L.length ≤ 1048576 := by rw [hL, List.length_append, lstS_len]; omega
          have HD : Hid (∀ k, (intoAll [] (L.take k)).length ≤ 1048576) := fun k => by
            have h1 := intoAll_len (L.take k) []
            rw [List.length_take] at h1
            have h2 : ([] : List ByteArray).length = 0 := rfl
            omega
          obtain ⟨a3, cap3, rfl, hT3, -, -⟩ := own_txs HO2.out
          have HT3 : Hid (Txs wr a3 L.length (atS L)) := hT3
          clear hL hT3 HO2 HO hk hkn
          go_wp2_with fail
          have HB3 : Hid (Below A.heap.size A wr) := hB
          have hA3 : A.heap.size ≤ wr.heap.size := hB.size
          clear c10 hw hB
          obtain ⟨w2, hw2⟩ : ∃ w2, w2 = wr := ⟨_, rfl⟩
          rw [← hw2] at HT3 HB3 hA3 ⊢
          clear hw2
          go_loopw [3, 9] (fun u v wz => ∃ k n : Nat, k ≤ L.length ∧ v = .int .i64 k ∧ Hid (n = (intoAll [] (L.take k)).length) ∧ Hid (wz.ownsRow A.heap.size 9 1 u n (cellsS (intoAll [] (L.take k)))) ∧ Below w2.heap.size w2 wz) (fun _ v _ => L.length - (intOf v).toNat)
          case atStart => exact ⟨0, 0, Nat.zero_le _, rfl, rfl, World.ownsRow_nil _ _ _ _, Below.refl _ _⟩
          case round =>
            obtain ⟨k, n, hk, rfl, Hn, HO4, hBz⟩ := hrel
            obtain ⟨a4, cap4, rfl, hT4, -, -⟩ := own_txs HO4.out
            by_cases hkn : k < L.length
            · obtain ⟨b2, o2, rfl, hc2⟩ := (HT3.out.later hBz) (by omega)
              have cc := hc2 k hkn
              have HKk : Hid (k < L.length) := hkn
              have hin := into_any a4 n cap4 _ (atS L k) wr hT4 (by rw [Hn.out]; exact HD.out k)
              have e1 : lstS (atS (intoAll [] (L.take k))) n = intoAll [] (L.take k) := by rw [Hn.out]; exact lstS_all _
              rw [e1] at hin
              have e2 : intoL (atS L k) (intoAll [] (L.take k)) = intoAll [] (L.take (k + 1)) := by rw [take_snoc L k hkn, intoAll_snoc]
              rw [e2] at hin
              obtain ⟨M2, hM2⟩ : ∃ M2, M2 = intoAll [] (L.take (k + 1)) := ⟨_, rfl⟩
              rw [← hM2] at hin
              have HM2 : Hid (M2 = intoAll [] (L.take (k + 1))) := hM2
              obtain ⟨sk, hsk⟩ : ∃ sk, sk = atS L k := ⟨_, rfl⟩
              rw [← hsk] at hin cc
              clear hc2 e1 e2 hT4 hM2 hsk
              go_wp2_with (go_at_call 47; refine hin.mono ?_; rintro e w4 ⟨v4, rfl, ho4, hB4⟩)
              go_roundw
              case rel => exact ⟨k + 1, _, HKk.out, by go_num, rfl, by rw [← HM2.out]; exact own_low ho4 (Nat.le_trans hA3 hBz.size), hBz.trans (hB4.mono hBz.size)⟩
              case measure => have := HKk.out; simp [intOf]; omega
            · obtain rfl : k = L.length := by omega
              have HF : Hid (wr.ownsRow A.heap.size 9 1 (.slice a4 n cap4) (namesQ q).length (cellsS (namesQ q))) := by
                show World.ownsRow _ _ _ _ _ _ _
                have h1 := HO4.out
                have h2 := Hn.out
                rw [List.take_length, HE.out] at h1 h2
                rw [← h2]
                exact h1
              have hb3 := HB3.out.trans (hBz.mono hA3)
              clear hT4
              go_wp2
              go_ret
              exact ⟨_, rfl, own_low HF.out HB0.out.size, HB0.out.trans (hb3.mono HB0.out.size)⟩
end Go.Proofs.YtinnhaojmnmliaaGreat
namespace Go.Proofs.YtinnhaojmnmliaaGreat
open Go.RowKit Go.Maps Go.WideMaps Go.Sort

/-- The row that is gone over first. -/
theorem push_after {q : Qy} {A w1 w2 w3 : World} {n₀ : Nat} {v1 : Value} {a : Option Addr} {cap : Nat} {L : List ByteArray} (hL : L = namesP q.p ++ varsX q.x) (_ : A.heap.size = n₀ + 2) (hb : q.p.size + q.x.size + q.m ≤ 1048576)
    (h1 : w1.ownsRow A.heap.size 9 1 v1 (vs1 (firstL (usesP q.p)) (firstL (usesP q.p)).length).length (vs1 (firstL (usesP q.p)) (firstL (usesP q.p)).length)) (b1 : RowKit.Below A.heap.size A w1) (b2 : RowKit.Below w1.heap.size w1 w2) (b3 : RowKit.Below w2.heap.size w2 w3)
    (hT : Txs w3 a (varsX q.x).length (atS (varsX q.x))) :
    ∃ v5 w5, (Builtin.append_ #[42, 42] 42 #[v1, .slice a (varsX q.x).length cap]).run Tryz.prog w3 = .ok v5 w5 ∧ w5.ownsRow A.heap.size 9 1 v5 L.length (cellsS L) ∧ RowKit.Below A.heap.size A w5 := by
  subst hL
  have e : vs1 (firstL (usesP q.p)) (firstL (usesP q.p)).length = cellsS (namesP q.p) := by simp [vs1, cellsS, namesP, List.take_length]
  rw [e] at h1
  have el : (cellsS (namesP q.p)).length = (namesP q.p).length := by simp [cellsS]
  rw [el] at h1
  have b23 := b2.trans (b3.mono b2.size)
  have h3 := own_laterS h1 b23
  have bA := b1.trans (b23.mono b1.size)
  have hp := namesP_len q.p
  have hx := vars_len q.x
  obtain ⟨v5, w5, hrun, hown, hgr⟩ := push_strs h3 bA.size a (varsX q.x).length cap (atS (varsX q.x)) hT (by omega)
  rw [lstS_all] at hown
  exact ⟨v5, w5, hrun, hown, bA.grown hgr bA.size fun k e => (h3.lt k e).1⟩
set_option maxRecDepth 100000 in
set_option maxHeartbeats 8000000 in
theorem namesQ_any (q : Qy) (w : World) (hQ : IsQ w q) (hok : QOk q) (hsm : q.bulk ≤ 1048576) :
    Calls Tryz.prog 15 #[q.val] w fun e w' => ∃ v, e = .returned v ∧ w'.ownsRow w.heap.size 9 1 v (namesQ q).length (cellsS (namesQ q)) ∧ Below w.heap.size w w' := by
  have hb := hsm
  unfold Qy.bulk at hb
  have hmm := @run_makeMap Tryz.prog
  have HQ : Hid (IsQ w q) := hQ
  have HO : Hid (∀ s ∈ allV q, s.size ≤ maxLen) := allV_ok hok
  have HOK : Hid (QOk q) := hok
  obtain ⟨L, hL⟩ : ∃ L, L = namesP q.p ++ varsX q.x := ⟨_, rfl⟩
  have HL : Hid (L = namesP q.p ++ varsX q.x) := hL
  clear hQ hok hsm hL
  go_enter Tryz.func15, Tryz.ntmps15
  go_upto_region 2 with fail
  obtain ⟨A, hA⟩ : ∃ A, (w.alloc (.cells q.cells 28)).alloc (.map #[] 0) = A := ⟨_, rfl⟩
  have hsz : A.heap.size = w.heap.size + 2 := by rw [← hA]; simp
  have hB : Below w.heap.size w A := by rw [← hA]; exact ((Below.refl _ w).alloc (Nat.le_refl _) _).alloc (by simp) _
  have qb0 : QB A w.heap.size q := by rw [← hA]; exact (alloc_old (by simp)).trans (QB.new w q)
  have mb0 : A.ownsMap Tryz.prog 9 RU (w.heap.size + 1) 0 (.map []) := by
    have := World.ownsMap_made (w.alloc (.cells q.cells 28)) Tryz.prog 9 RU
    rw [World.size_alloc, hA] at this
    exact this
  rw [hA]
  obtain ⟨⟨k0, k1, k2, k3, k4, k5⟩, k6, -⟩ := qb0.at0
  have C1 : Hid (Calls Tryz.prog 40 #[q.p.val] A _) := vars12_any q.p A (HQ.out.p.later hB) (by omega) HOK.out.p
  have C2 : Hid (∀ d, Calls Tryz.prog 42 #[.slice q.a q.n q.cap] d _) := fun d => joined_any q.a q.n q.cap q.c d
  have C3 : Hid (∀ d, RowKit.Below A.heap.size A d → Calls Tryz.prog 41 #[q.x.val] d _) := fun d h => vars_any q.x d (HQ.out.x.later (hB.trans (h.mono hB.size))) (by omega)
  have QB0 : Hid (QB A w.heap.size q) := qb0
  have MB0 : Hid (A.ownsMap Tryz.prog 9 RU (w.heap.size + 1) 0 (.map [])) := mb0
  have HB : Hid (RowKit.Below w.heap.size w A) := hB
  have HSZ : Hid (A.heap.size = w.heap.size + 2) := hsz
  clear hA qb0 mb0 hsz hB hmm
  go_wp2_with (first
    | (go_at_call 40; refine C1.out.mono ?_; rintro e w1 ⟨v1, v2, v3, rfl, hR3, hB1⟩; have d6 := (QB0.out.later hB1).at0.2.1; have HR3 : Hid _ := hR3.o1; clear hR3 k0 k1 k2 k3 k4 k5 k6)
    | (go_at_call 42; refine (C2.out _).mono ?_; rintro e w2 ⟨rfl, hB2⟩)
    | (go_at_call 41; refine (C3.out _ (hB1.trans (hB2.mono hB1.size))).mono ?_; rintro e w3 ⟨v4, rfl, hR4, hB3⟩; obtain ⟨a4, cap4, rfl, hT4, hl4, hc4⟩ := own_txs hR4; obtain ⟨v5, w5, hrun, hown5, hgr5⟩ := push_after (q := q) HL.out HSZ.out hb HR3.out hB1 hB2 hB3 hT4 (cap := cap4); obtain ⟨a5, cap5, rfl, hT5, hl5, hc5⟩ := own_txs hown5; have HR5 : Hid (_ = _) := hrun; clear hrun hR4)
    | (at_builtin; refine wpList_append_run rfl (.tmp 19) (.tmp 23) 42 rfl _ _ _ rfl rfl HR5.out ?_))
  have hB5 : RowKit.Below w.heap.size w w5 := HB.out.trans (hgr5.mono HB.out.size)
  have QB5 : Hid (QB w5 w.heap.size q) := QB0.out.later hgr5
  have hMlt : w.heap.size + 1 < A.heap.size := by have := HSZ.out; omega
  have MB5 : Hid (w5.ownsMap Tryz.prog 9 RU (w.heap.size + 1) 0 (.map [])) := by
    obtain ⟨es, clock, hb', Ft, hs, hD⟩ := MB0.out
    exact ⟨es, clock, (hgr5.block _ hMlt).trans hb', Ft, hs, hD⟩
  have hN5 : w.heap.size + 2 ≤ w5.heap.size := by have := HSZ.out; have := hgr5.size; omega
  have hLl : L.length + q.m ≤ 1048576 := by
    have h1 := namesP_len q.p
    have h2 := vars_len q.x
    rw [HL.out, List.length_append]
    omega
  have HT5 : Hid (Txs w5 a5 L.length (atS L) ∧ ∀ b o, a5 = some ⟨b, o, none⟩ → 0 < L.length → w.heap.size + 2 ≤ b) := by
    refine ⟨hT5, fun b o e h0 => ?_⟩
    rcases hown5.2 with ⟨e', _⟩ | ⟨g, cap, cur, e', hg, _⟩
    · injection e' with e1 _ _
      rw [e1] at e; cases e
    · injection e' with e1 _ _
      rw [e1] at e; cases e
      have := HSZ.out; omega
  clear hT4 hl4 hc4 hT5 hl5 hc5 hown5 hgr5 hB1 hB2 hB3 HR3 HR5 C1 C2 C3 QB0 MB0 HSZ d6 hMlt HB
  have HAL : Hid (∀ k, k < L.length → (atS L k).size ≤ maxLen) := fun k hk => by
    refine HO.out _ ?_
    rw [allV, List.mem_append, ← HL.out]
    refine .inl ?_
    unfold atS
    rw [List.getD_eq_getElem?_getD, List.getElem?_eq_getElem hk]
    exact List.getElem_mem hk
  have HTS : Hid (∀ k, k < L.length → L.take (k + 1) = L.take k ++ [atS L k]) := fun k hk => take_snoc _ k hk
  go_loopw [26] (fun v wr => ∃ k : Nat, k ≤ L.length ∧ v = .int .i64 k ∧ (∃ D, wr.ownsMap Tryz.prog 9 RU (w.heap.size + 1) k D ∧ Hid (Hs (L.take k) D)) ∧ Lb w5.heap.size (w.heap.size + 1) w5 wr) (fun v _ => L.length - (intOf v).toNat)
  case atStart => exact ⟨0, Nat.zero_le _, rfl, ⟨_, MB5.out, hs_none⟩, Lb.refl _ _ _⟩
  case round =>
    obtain ⟨k, hk, rfl, ⟨D, hown, HH⟩, hLb⟩ := hrel
    by_cases hkn : k < L.length
    · obtain ⟨⟨b, o, rfl, hcs⟩, hbo⟩ := And.intro (HT5.out.1 (by omega)) HT5.out.2
      have hbm := hbo b o rfl (by omega)
      have hblt := World.block_lt_of_cell? w5 _ (hcs k hkn)
      have c0 : wr.cell? ⟨b, o + k, none⟩ = some (.string (atS L k)) := by
        rw [World.cell?_of_block (w := w5) (w' := wr) (a := ⟨b, o + k, none⟩) (hLb.block b hblt (by omega))]
        exact hcs k hkn
      have HKN : Hid (k < L.length) := hkn
      have hkey : keyOf Tryz.prog 9 (.string (atS L k)) = some (keyS (atS L k)) := keyOf_string_mk Tryz.underlying9 (HAL.out k hkn)
      clear hcs hbo
      go_wp2_with (first
        | (at_mapUpdate; refine wpList_mapUpdate_own _ rfl _ _ _ 60 rfl 9 66 str_law Tryz.underlying60 RU (w.heap.size + 1) k _ rfl hown (by unfold maxLen; omega) _ _ _ rfl rfl hkey _ [] rfl ?_; intro w1 hown1 hgrow1)
        | go_in)
      go_roundw
      case rel => exact ⟨k + 1, by omega, by go_num, ⟨_, hown1, by show Hs _ _; rw [HTS.out k HKN.out]; exact HH.out.more hown.isMap (hown.tidy str_law) _ _⟩, hLb.trans (Lb.grown hgrow1 hLb.size)⟩
      case measure => simp [intOf]; omega
    · obtain rfl : k = L.length := by omega
      have QB6 : QB wr w.heap.size q := (hLb.block _ (by omega) (by omega)).trans QB5.out
      have c10 := QB6.at0.2.2.2.2.2
      have hH6 : Hs L D := by have := HH.out; rw [List.take_length] at this; exact this
      have HH6 : Hid (Hs L D) := hH6
      have hB6 : RowKit.Below w.heap.size w wr := hB5.trans (hLb.below (by omega) (by omega))
      have HITS : Hid (Its w q.ia q.m q.it) := HQ.out.it
      have HOI : Hid (∀ i, i < q.m → (q.it i).s.size ≤ maxLen) := fun i hi => (HOK.out.it i hi).2.1
      clear HH hH6 QB6 HT5 HAL HTS hk hkn
      go_wp2_with fail
      obtain ⟨w6, hw6⟩ : ∃ w6, w6 = wr := ⟨_, rfl⟩
      rw [← hw6] at hB6 hown hLb ⊢
      clear c10 hw6
      have hM6 : w.heap.size + 1 < w6.heap.size := by have := hLb.size; omega
      go_loopw [37] (fun v wr => ∃ k : Nat, k ≤ q.m ∧ v = .int .i64 k ∧ (∃ D, wr.ownsMap Tryz.prog 9 RU (w.heap.size + 1) (L.length + k) D ∧ Hid (Hs (L ++ lstS (fun i => (q.it i).s) k) D)) ∧ Lb w6.heap.size (w.heap.size + 1) w6 wr) (fun v _ => q.m - (intOf v).toNat)
      case atStart => exact ⟨0, Nat.zero_le _, rfl, ⟨D, hown, by show Hs _ _; rw [lstS, List.append_nil]; exact HH6.out⟩, Lb.refl _ _ _⟩
      case round =>
        obtain ⟨k, hk, rfl, ⟨D2, hown2, HH2⟩, hLb2⟩ := hrel
        have hBr : RowKit.Below w.heap.size w wr := hB6.trans (hLb2.below (by omega) (by omega))
        by_cases hkn : k < q.m
        · obtain ⟨b, o, ea, i0, i1, i2, i3⟩ := (HITS.out.later hBr) k hkn
          rw [ea]
          have HKN : Hid (k < q.m) := hkn
          have hkey : keyOf Tryz.prog 9 (.string (q.it k).s) = some (keyS (q.it k).s) := keyOf_string_mk Tryz.underlying9 (HOI.out k hkn)
          have hownA : (wr.alloc (.cells (q.it k).cells 56)).ownsMap Tryz.prog 9 RU (w.heap.size + 1) (L.length + k) D2 := hown2.alloc _
          have HLA : Hid (Lb w6.heap.size (w.heap.size + 1) w6 (wr.alloc (.cells (q.it k).cells 56))) := hLb2.trans (.of_below ((RowKit.Below.refl _ _).alloc hLb2.size _))
          clear ea
          go_wp2_with (first
            | (at_mapUpdate; refine wpList_mapUpdate_own _ rfl _ _ _ 60 rfl 9 66 str_law Tryz.underlying60 RU (w.heap.size + 1) (L.length + k) _ rfl hownA (by unfold maxLen; omega) _ _ _ rfl rfl hkey _ [] rfl ?_; intro w1 hown1 hgrow1)
            | go_in)
          refine ⟨⟨k + 1, hkn, by simp, ⟨_, by rw [← Nat.add_assoc]; exact hown1, ?_⟩, HLA.out.trans (Lb.grown hgrow1 HLA.out.size)⟩, ?_⟩
          · show Hs _ _
            rw [lstS, ← List.append_assoc]
            exact HH2.out.more hown2.isMap (hown2.tidy str_law) _ _
          · simp [intOf]
            omega
        · obtain rfl : k = q.m := by omega
          have hH : Hs (allV q) D2 := by have := HH2.out; rw [HL.out] at this; exact this
          have hsz : Maps.size D2 ≤ 1048576 := by
            have h1 := HH2.out.le
            rw [List.length_append, lstS_len] at h1
            omega
          have C5 : Hid (∀ mb d, Calls Tryz.prog 44 #[.map mb] d _) := fun mb d => keysM_any mb d
          have C6 : Hid (Calls Tryz.prog 43 #[.func (.func 74) #[] #[.pointer (some ⟨wr.heap.size, 0, none⟩)]] (wr.alloc (.cells #[.map (some (w.heap.size + 1))] 60)) _) := sortedM_any (w.heap.size + 1) (L.length + q.m) D2 RU wr hown2 (by unfold maxLen; omega) (by omega)
          have HSK : Hid (∀ ss : List (List UInt8), ss.Perm (strKeys D2) → (sortB ss).map encStr = cellsS (namesQ q) ∧ ss.length = (namesQ q).length) := fun ss hp => sorted_keys hown2 (namesQ_sorted q) (fun s => by rw [namesQ_mem]; exact (hH.has s).symm) hp
          clear hH hsz
          go_wp2_with (first
            | (go_at_call 44; refine (C5.out _ _).mono ?_; rintro e w7 ⟨rfl, hw7⟩; subst hw7)
            | (go_at_call 43; refine C6.out.mono ?_; rintro e w8 ⟨v8, ss, rfl, hperm, hrow, hB8⟩))
          go_ret
          obtain ⟨hc1, hc2⟩ := HSK.out ss hperm
          rw [hc1, hc2] at hrow
          refine ⟨v8, rfl, own_low hrow ?_, hBr.trans ?_⟩
          · simp
            have := hBr.size
            omega
          · exact ((RowKit.Below.refl _ _).alloc hBr.size _).trans (hB8.mono (by simp; have := hBr.size; omega))
end Go.Proofs.YtinnhaojmnmliaaGreat
