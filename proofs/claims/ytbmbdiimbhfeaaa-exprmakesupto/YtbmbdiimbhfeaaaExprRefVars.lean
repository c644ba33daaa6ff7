/-
  The document's Vars.
-/
import Derived.Test.YtbmbdiimbhfeaaaExprRefInto
namespace Go.Proofs.Ytbmbdiimbhfeaaa
open Go.RowKit

theorem intoAll_snoc (s : ByteArray) : ∀ (m l : List ByteArray), intoAll l (m ++ [s]) = intoL s (intoAll l m)
  | [], l => rfl
  | a :: m, l => by
    show intoAll (intoL a l) (m ++ [s]) = intoL s (intoAll (intoL a l) m)
    exact intoAll_snoc s m _
theorem into_len (s : ByteArray) : ∀ l : List ByteArray, (intoL s l).length ≤ l.length + 1
  | [] => by simp [intoL]
  | a :: l => by
    have := into_len s l
    simp only [intoL]
    split
    · simp
    · split
      · simp
      · simp; omega
theorem intoAll_len : ∀ (m l : List ByteArray), (intoAll l m).length ≤ l.length + m.length
  | [], l => by simp [intoAll]
  | a :: m, l => by
    have h1 := intoAll_len m (intoL a l)
    have h2 := into_len a l
    simp only [intoAll, List.length_cons]
    omega
theorem accN_len (l : List ByteArray) (f : Nat → List ByteArray) (g : Nat → Nat) : ∀ n, (∀ i, i < n → (f i).length ≤ g i) → (accN l f n).length ≤ l.length + sumN g n
  | 0, _ => by simp [accN, sumN]
  | n + 1, h => by
    have h1 := accN_len l f g n fun i hi => h i (by omega)
    have h2 := h n (by omega)
    have h3 := intoAll_len (f n) (accN l f n)
    simp only [accN, sumN]
    omega
theorem vars_len : ∀ x : X, (varsX x).length ≤ x.size := by
  refine X.ind fun x ih => ?_
  rw [varsX_eq, x.size_eq]
  have h := accN_len (if x.k = 2 then [x.s] else []) (fun i => varsX (x.c i)) (fun i => (x.c i).size) x.n ih
  have h1 : (if x.k = 2 then [x.s] else ([] : List ByteArray)).length ≤ 1 := by split <;> simp
  omega
theorem sumN_part {f : Nat → Nat} : ∀ {n i : Nat}, i < n → sumN f i + f i ≤ sumN f n
  | 0, _, h => by omega
  | n + 1, i, h => by
    simp only [sumN]
    by_cases e : i = n
    · subst e; omega
    · have := sumN_part (f := f) (show i < n by omega); omega
/-- How many names there are on the way. -/
theorem acc_bound (x : X) (i k : Nat) (hi : i < x.n) (hk : k ≤ (varsX (x.c i)).length) (hsm : x.size ≤ 1048576) : (intoAll (accN (if x.k = 2 then [x.s] else []) (fun i => varsX (x.c i)) i) ((varsX (x.c i)).take k)).length ≤ 1048576 := by
  have h1 := intoAll_len ((varsX (x.c i)).take k) (accN (if x.k = 2 then [x.s] else []) (fun i => varsX (x.c i)) i)
  have h2 := accN_len (if x.k = 2 then [x.s] else []) (fun i => varsX (x.c i)) (fun i => (x.c i).size) i fun j _ => vars_len _
  have h3 := vars_len (x.c i)
  have h4 := sumN_part (f := fun i => (x.c i).size) hi
  have h5 := x.size_eq
  have h6 : (if x.k = 2 then [x.s] else ([] : List ByteArray)).length ≤ 1 := by split <;> simp
  rw [List.length_take] at h1
  omega
theorem take_snoc (l : List ByteArray) (k : Nat) (h : k < l.length) : l.take (k + 1) = l.take k ++ [atS l k] := by
  rw [List.take_add_one]
  simp [atS, h]
theorem own_laterS {w w' : World} {B e size n : Nat} {v : Value} {xs : List Value} (h : w.ownsRow B e size v n xs) (hb : Below w.heap.size w w') : w'.ownsRow B e size v n xs :=
  h.kept (row := none) ⟨hb.os, hb.tape, hb.output, hb.size, fun k hk _ => hb.block k hk⟩ (Classical.em _)
set_option maxRecDepth 100000 in
set_option maxHeartbeats 1000000 in
theorem refVars_any : ∀ (x : X) (w : World), IsX w x → x.size ≤ 1048576 → Calls Try.prog 21 #[x.val] w fun e w' => ∃ v, e = .returned v ∧ w'.ownsRow w.heap.size 9 1 v (varsX x).length (cellsS (varsX x)) ∧ Below w.heap.size w w' := by
  refine X.ind fun x ih w hX hsm => ?_
  obtain ⟨l0, hl0⟩ : ∃ l0, l0 = (if x.k = 2 then [x.s] else ([] : List ByteArray)) := ⟨_, rfl⟩
  have HR : Hid (varsX x = accN l0 (fun i => varsX (x.c i)) x.n) := by show varsX x = _; rw [varsX_eq, hl0]
  have HBD : Hid (∀ i k, i < x.n → k ≤ (varsX (x.c i)).length → (intoAll (accN l0 (fun i => varsX (x.c i)) i) ((varsX (x.c i)).take k)).length ≤ 1048576) := fun i k hi hk => by rw [hl0]; exact acc_bound x i k hi hk hsm
  have HV : Hid (∀ i, i < x.n → (varsX (x.c i)).length ≤ 1048576) := fun i hi => by have := vars_len (x.c i); have := x.size_part i hi; omega
  have HI : Hid (∀ i, i < x.n → ∀ w, IsX w (x.c i) → Calls Try.prog 21 #[(x.c i).val] w fun e w' => ∃ v, e = .returned v ∧ w'.ownsRow w.heap.size 9 1 v (varsX (x.c i)).length (cellsS (varsX (x.c i))) ∧ Below w.heap.size w w') := fun i hi w h => ih i hi w h (by have := x.size_part i hi; omega)
  have HX : Hid (IsX w x) := hX
  have hlen := hX.len
  obtain ⟨A, hA⟩ : ∃ A, w.alloc (.cells x.cells 26) = A := ⟨_, rfl⟩
  have HB : Hid (Below w.heap.size w A) := by show Below _ _ _; rw [← hA]; exact (Below.refl _ w).alloc (Nat.le_refl _) _
  have HN : Hid (Node A w.heap.size 0 x) := by show Node _ _ _ _; rw [← hA]; exact node_new w _ x
  have hs : A.heap.size = w.heap.size + 1 := by rw [← hA]; simp
  obtain ⟨a0, -, -, -, a4, -, -⟩ := HN.out.at0
  clear ih hX hsm
  by_cases hk : x.k = 2
  · have hk' : (x.k == 2) = true := by simpa using hk
    obtain ⟨v1, A1, r1, o1, b1⟩ := push_str (n := 0) (l := []) (World.ownsRow_nil A A.heap.size 9 1) (Nat.le_refl _) (by omega) x.s
    have HO1 : Hid (A1.ownsRow A.heap.size 9 1 v1 l0.length (cellsS l0)) := by show World.ownsRow _ _ _ _ _ _ _; rw [hl0, if_pos hk]; exact o1
    rw [hs] at r1
    clear hk hl0 o1
    go_enter Try.func21, Try.ntmps21
    go_wp2_with (first | (at_builtin; refine wpList_append_run rfl (.tmp 10) (.tmp 13) 35 rfl _ _ _ rfl rfl r1 ?_))
    go_loopw [3, 4] (fun u v wr => ∃ i : Nat, i ≤ x.n ∧ v = .int .i64 i ∧ Hid (wr.ownsRow A.heap.size 9 1 u (accN l0 (fun i => varsX (x.c i)) i).length (cellsS (accN l0 (fun i => varsX (x.c i)) i))) ∧ Below A.heap.size A wr) (fun _ v _ => x.n - (intOf v).toNat)
    case atStart => exact ⟨0, Nat.zero_le _, rfl, HO1, b1⟩
    case round =>
      obtain ⟨i, hi, rfl, HO, hB⟩ := hrel
      obtain ⟨-, -, -, -, -, -, c6⟩ := (node_on HN.out (hB.mono (by omega))).at0
      have hw := HB.out.trans (hB.mono (by omega))
      by_cases hin : i < x.n
      · obtain ⟨b, o, ea, hn, hx⟩ := (HX.out.later hw).part hin
        rw [ea] at c6
        obtain ⟨d0, d1, d2, d3, d4, d5, d6⟩ := hn
        have hc := HI.out i hin wr hx
        have HK : Hid (i < x.n) := hin
        have HL : Hid (varsX (x.c i) = varsX (x.c i)) := rfl
        obtain ⟨L, hL⟩ : ∃ L, L = varsX (x.c i) := ⟨_, rfl⟩
        obtain ⟨acc, hacc⟩ : ∃ acc, acc = accN l0 (fun i => varsX (x.c i)) i := ⟨_, rfl⟩
        have HS : Hid (accN l0 (fun i => varsX (x.c i)) (i + 1) = intoAll acc L) := by show accN _ _ (i + 1) = _; rw [hacc, hL]; rfl
        have HD : Hid (∀ k, k ≤ L.length → (intoAll acc (L.take k)).length ≤ 1048576) := fun k hk => by rw [hacc, hL] at *; exact HBD.out i k hin hk
        have hLn : L.length ≤ 1048576 := by rw [hL]; exact HV.out i hin
        rw [← hacc] at HO
        rw [← hL] at hc
        obtain ⟨m, hm⟩ : ∃ m, m = L.length := ⟨_, rfl⟩
        have HM : Hid (m = L.length) := hm
        rw [← hm] at hc hLn
        clear hx hw ea HL hL hacc hm
        go_wp2_with (go_at_call 21; refine hc.mono ?_; rintro e w2 ⟨v2, rfl, ho2, hB2⟩; obtain ⟨a2, cap2, rfl, hT2, -, -⟩ := own_txs ho2; have HT2 : Hid (Txs w2 a2 m (atS L)) := hT2; have HO2 : Hid (w2.ownsRow A.heap.size 9 1 u3 acc.length (cellsS acc)) := own_laterS HO.out hB2; clear hT2 ho2)
        have hB3 := hB.trans (hB2.mono hB.size)
        go_loopw [3, 6] (fun u v wz => ∃ k q : Nat, k ≤ m ∧ v = .int .i64 k ∧ Hid (q = (intoAll acc (L.take k)).length) ∧ Hid (wz.ownsRow A.heap.size 9 1 u q (cellsS (intoAll acc (L.take k)))) ∧ Below w2.heap.size w2 wz) (fun _ v _ => m - (intOf v).toNat)
        case atStart => exact ⟨0, _, Nat.zero_le _, rfl, rfl, HO2, Below.refl _ _⟩
        case round =>
          obtain ⟨k, q, hk, rfl, Hq, HQ, hBz⟩ := hrel
          obtain ⟨a3, cap3, rfl, hT3, hl3, -⟩ := own_txs HQ.out
          have hLk : k ≤ L.length := by rw [← HM.out]; exact hk
          by_cases hkn : k < m
          · obtain ⟨b2, o2, rfl, hc2⟩ := (HT2.out.later hBz) (by omega)
            have cc := hc2 k hkn
            have HKk : Hid (k < m) := hkn
            have hin := into_any a3 q cap3 _ (atS L k) wr hT3 (by rw [Hq.out]; exact HD.out k hLk)
            have e1 : lstS (atS (intoAll acc (L.take k))) q = intoAll acc (L.take k) := by rw [Hq.out]; exact lstS_all _
            rw [e1] at hin
            have e2 : intoL (atS L k) (intoAll acc (L.take k)) = intoAll acc (L.take (k + 1)) := by rw [take_snoc L k (by rw [← HM.out]; exact hkn), intoAll_snoc]
            rw [e2] at hin
            obtain ⟨M2, hM2⟩ : ∃ M2, M2 = intoAll acc (L.take (k + 1)) := ⟨_, rfl⟩
            rw [← hM2] at hin
            have HM2 : Hid (M2 = intoAll acc (L.take (k + 1))) := hM2
            obtain ⟨sk, hsk⟩ : ∃ sk, sk = atS L k := ⟨_, rfl⟩
            rw [← hsk] at hin cc
            clear hc2 e1 e2 hT3 hM2 hsk hl3 hLk
            go_wp2_with (go_at_call 36; refine hin.mono ?_; rintro e w4 ⟨v4, rfl, ho4, hB4⟩)
            go_roundw
            case rel => exact ⟨k + 1, _, HKk.out, by go_num, rfl, by rw [← HM2.out]; exact own_low ho4 (Nat.le_trans hB3.size hBz.size), hBz.trans (hB4.mono hBz.size)⟩
            case measure => have := HKk.out; simp [intOf]; omega
          · obtain rfl : k = m := by omega
            have HQ' : Hid (wr.ownsRow A.heap.size 9 1 (.slice a3 q cap3) (accN l0 (fun i => varsX (x.c i)) (i + 1)).length (cellsS (accN l0 (fun i => varsX (x.c i)) (i + 1)))) := by
              show World.ownsRow _ _ _ _ _ _ _
              rw [HS.out]
              have h1 := HQ.out
              have h2 := Hq.out
              rw [HM.out, List.take_length] at h1 h2
              rw [← h2]
              exact h1
            clear hT3 hl3 hLk
            go_wp2
            go_roundw
            case rel => exact ⟨i + 1, HK.out, by go_num, HQ', hB3.trans (hBz.mono hB3.size)⟩
            case measure => have := HK.out; simp [intOf]; omega
      · obtain rfl : i = x.n := by omega
        go_wp2
        go_ret
        exact ⟨_, rfl, by rw [HR.out]; exact own_low HO.out (by omega), hw⟩
  · have hk' : (x.k == 2) = false := by simpa using hk
    have HO1 : Hid (A.ownsRow A.heap.size 9 1 (.slice none 0 0) l0.length (cellsS l0)) := by show World.ownsRow _ _ _ _ _ _ _; rw [hl0, if_neg hk]; exact World.ownsRow_nil _ _ _ _
    clear hk hl0
    go_enter Try.func21, Try.ntmps21
    go_wp2_with fail
    go_loopw [3, 4] (fun u v wr => ∃ i : Nat, i ≤ x.n ∧ v = .int .i64 i ∧ Hid (wr.ownsRow A.heap.size 9 1 u (accN l0 (fun i => varsX (x.c i)) i).length (cellsS (accN l0 (fun i => varsX (x.c i)) i))) ∧ Below A.heap.size A wr) (fun _ v _ => x.n - (intOf v).toNat)
    case atStart => exact ⟨0, Nat.zero_le _, rfl, HO1, Below.refl _ _⟩
    case round =>
      obtain ⟨i, hi, rfl, HO, hB⟩ := hrel
      obtain ⟨-, -, -, -, -, -, c6⟩ := (node_on HN.out (hB.mono (by omega))).at0
      have hw := HB.out.trans (hB.mono (by omega))
      by_cases hin : i < x.n
      · obtain ⟨b, o, ea, hn, hx⟩ := (HX.out.later hw).part hin
        rw [ea] at c6
        obtain ⟨d0, d1, d2, d3, d4, d5, d6⟩ := hn
        have hc := HI.out i hin wr hx
        have HK : Hid (i < x.n) := hin
        have HL : Hid (varsX (x.c i) = varsX (x.c i)) := rfl
        obtain ⟨L, hL⟩ : ∃ L, L = varsX (x.c i) := ⟨_, rfl⟩
        obtain ⟨acc, hacc⟩ : ∃ acc, acc = accN l0 (fun i => varsX (x.c i)) i := ⟨_, rfl⟩
        have HS : Hid (accN l0 (fun i => varsX (x.c i)) (i + 1) = intoAll acc L) := by show accN _ _ (i + 1) = _; rw [hacc, hL]; rfl
        have HD : Hid (∀ k, k ≤ L.length → (intoAll acc (L.take k)).length ≤ 1048576) := fun k hk => by rw [hacc, hL] at *; exact HBD.out i k hin hk
        have hLn : L.length ≤ 1048576 := by rw [hL]; exact HV.out i hin
        rw [← hacc] at HO
        rw [← hL] at hc
        obtain ⟨m, hm⟩ : ∃ m, m = L.length := ⟨_, rfl⟩
        have HM : Hid (m = L.length) := hm
        rw [← hm] at hc hLn
        clear hx hw ea HL hL hacc hm
        go_wp2_with (go_at_call 21; refine hc.mono ?_; rintro e w2 ⟨v2, rfl, ho2, hB2⟩; obtain ⟨a2, cap2, rfl, hT2, -, -⟩ := own_txs ho2; have HT2 : Hid (Txs w2 a2 m (atS L)) := hT2; have HO2 : Hid (w2.ownsRow A.heap.size 9 1 u3 acc.length (cellsS acc)) := own_laterS HO.out hB2; clear hT2 ho2)
        have hB3 := hB.trans (hB2.mono hB.size)
        go_loopw [3, 6] (fun u v wz => ∃ k q : Nat, k ≤ m ∧ v = .int .i64 k ∧ Hid (q = (intoAll acc (L.take k)).length) ∧ Hid (wz.ownsRow A.heap.size 9 1 u q (cellsS (intoAll acc (L.take k)))) ∧ Below w2.heap.size w2 wz) (fun _ v _ => m - (intOf v).toNat)
        case atStart => exact ⟨0, _, Nat.zero_le _, rfl, rfl, HO2, Below.refl _ _⟩
        case round =>
          obtain ⟨k, q, hk, rfl, Hq, HQ, hBz⟩ := hrel
          obtain ⟨a3, cap3, rfl, hT3, hl3, -⟩ := own_txs HQ.out
          have hLk : k ≤ L.length := by rw [← HM.out]; exact hk
          by_cases hkn : k < m
          · obtain ⟨b2, o2, rfl, hc2⟩ := (HT2.out.later hBz) (by omega)
            have cc := hc2 k hkn
            have HKk : Hid (k < m) := hkn
            have hin := into_any a3 q cap3 _ (atS L k) wr hT3 (by rw [Hq.out]; exact HD.out k hLk)
            have e1 : lstS (atS (intoAll acc (L.take k))) q = intoAll acc (L.take k) := by rw [Hq.out]; exact lstS_all _
            rw [e1] at hin
            have e2 : intoL (atS L k) (intoAll acc (L.take k)) = intoAll acc (L.take (k + 1)) := by rw [take_snoc L k (by rw [← HM.out]; exact hkn), intoAll_snoc]
            rw [e2] at hin
            obtain ⟨M2, hM2⟩ : ∃ M2, M2 = intoAll acc (L.take (k + 1)) := ⟨_, rfl⟩
            rw [← hM2] at hin
            have HM2 : Hid (M2 = intoAll acc (L.take (k + 1))) := hM2
            obtain ⟨sk, hsk⟩ : ∃ sk, sk = atS L k := ⟨_, rfl⟩
            rw [← hsk] at hin cc
            clear hc2 e1 e2 hT3 hM2 hsk hl3 hLk
            go_wp2_with (go_at_call 36; refine hin.mono ?_; rintro e w4 ⟨v4, rfl, ho4, hB4⟩)
            go_roundw
            case rel => exact ⟨k + 1, _, HKk.out, by go_num, rfl, by rw [← HM2.out]; exact own_low ho4 (Nat.le_trans hB3.size hBz.size), hBz.trans (hB4.mono hBz.size)⟩
            case measure => have := HKk.out; simp [intOf]; omega
          · obtain rfl : k = m := by omega
            have HQ' : Hid (wr.ownsRow A.heap.size 9 1 (.slice a3 q cap3) (accN l0 (fun i => varsX (x.c i)) (i + 1)).length (cellsS (accN l0 (fun i => varsX (x.c i)) (i + 1)))) := by
              show World.ownsRow _ _ _ _ _ _ _
              rw [HS.out]
              have h1 := HQ.out
              have h2 := Hq.out
              rw [HM.out, List.take_length] at h1 h2
              rw [← h2]
              exact h1
            clear hT3 hl3 hLk
            go_wp2
            go_roundw
            case rel => exact ⟨i + 1, HK.out, by go_num, HQ', hB3.trans (hBz.mono hB3.size)⟩
            case measure => have := HK.out; simp [intOf]; omega
      · obtain rfl : i = x.n := by omega
        go_wp2
        go_ret
        exact ⟨_, rfl, by rw [HR.out]; exact own_low HO.out (by omega), hw⟩
end Go.Proofs.Ytbmbdiimbhfeaaa
