/-
  The document's own Uses: a row of uses, of three cells each.
  slices.Clone of patterns: a row of nodes that a call owns.
-/
import Derived.Test.YtinnhaojmnmliaaDPatSize
import Derived.Test.YtinnhaojmnmliaaDPatFirsts
import Derived.Test.YtinnhaojmnmliaaDPatMadeMath
import Derived.Maps.AppendAt
namespace Go.Proofs.Ytinnhaojmnmliaa
open Go.RowKit

/-- The cells of some uses. -/
def rowU : List Pt → List Value
  | [] => []
  | y :: l => .string y.s :: .string y.t :: .int .i64 y.k :: rowU l
theorem rowU_len : ∀ l : List Pt, (rowU l).length = l.length * 3
  | [] => rfl
  | _ :: l => by simp only [rowU, List.length_cons, rowU_len l]; omega
theorem rowU_app : ∀ l m : List Pt, rowU (l ++ m) = rowU l ++ rowU m
  | [], _ => rfl
  | y :: l, m => by simp only [List.cons_append, rowU, rowU_app l m]
theorem rowU_one : ∀ l : List Pt, ∀ u ∈ rowU l, u.oneCell' = true
  | [], u, h => by simp [rowU] at h
  | y :: l, u, h => by
    simp only [rowU, List.mem_cons] at h
    rcases h with rfl | rfl | rfl | h
    · rfl
    · rfl
    · rfl
    · exact rowU_one l u h
theorem rowU_get : ∀ (l : List Pt) (j : Nat) (y : Pt), l[j]? = some y → (rowU l)[j * 3]? = some (.string y.s) ∧ (rowU l)[j * 3 + 1]? = some (.string y.t) ∧ (rowU l)[j * 3 + 2]? = some (.int .i64 y.k)
  | [], j, y, h => by simp at h
  | z :: l, 0, y, h => by simp at h; subst h; exact ⟨rfl, rfl, rfl⟩
  | z :: l, j + 1, y, h => by
    simp only [List.getElem?_cons_succ] at h
    have := rowU_get l j y h
    rw [show (j + 1) * 3 = j * 3 + 3 by omega]
    exact this
theorem infoU : (Try.prog.info? 56).map (fun i => (i.zero, i.size, i.bytes)) = some (some (.agg #[.string ⟨#[]⟩, .string ⟨#[]⟩, .int .i64 0]), 3, 40) := by kernel_rfl
/-- A row that a call owns, use by use. -/
theorem own_uses {w : World} {base n : Nat} {v : Value} {l : List Pt} (h : w.ownsRow base 56 3 v n (rowU l)) : ∃ a cap, v = .slice a n cap ∧ l.length = n ∧ n ≤ cap ∧ cap ≤ maxLen ∧
    ∀ (j : Nat) (y : Pt), l[j]? = some y → ∃ g, a = some ⟨g, 0, none⟩ ∧ base ≤ g ∧ g < w.heap.size ∧ w.cell? ⟨g, j * 3, none⟩ = some (.string y.s) ∧ w.cell? ⟨g, j * 3 + 1, none⟩ = some (.string y.t) ∧ w.cell? ⟨g, j * 3 + 2, none⟩ = some (.int .i64 y.k) := by
  have hl : l.length = n := by have := h.1; rw [rowU_len] at this; omega
  rcases h.2 with ⟨rfl, rfl⟩ | ⟨g, cap, cur, rfl, hg, hc, hnc, hcm, hs, ht⟩
  · exact ⟨none, 0, rfl, hl, Nat.le_refl _, Nat.zero_le _, fun j y hy => by have := (List.getElem?_eq_some_iff.1 hy).1; omega⟩
  · refine ⟨_, cap, rfl, hl, hnc, hcm, fun j y hy => ?_⟩
    have hj := (List.getElem?_eq_some_iff.1 hy).1
    obtain ⟨g1, g2, g3⟩ := rowU_get l j y hy
    have key : ∀ i, i < n * 3 → w.cell? ⟨g, i, none⟩ = (rowU l)[i]? := by
      intro i hi
      rw [← ht, List.getElem?_take_of_lt (by omega)]
      simp only [World.cell?, hc]
      rw [Array.getElem?_toList]
      rfl
    exact ⟨g, rfl, hg, (Array.getElem?_eq_some_iff.1 hc).1, (key _ (by omega)).trans g1, (key _ (by omega)).trans g2, (key _ (by omega)).trans g3⟩
/-- Some uses more: the cells lie in a row from p on. -/
theorem push_u {w : World} {base n : Nat} {v : Value} {l m : List Pt} (h : w.ownsRow base 56 3 v n (rowU l)) (hb : base ≤ w.heap.size) (p : Addr) (c : Nat) (hm : ∀ j u, (rowU m)[j]? = some u → w.cell? (p.add j) = some u) (hn : n + m.length ≤ 16777216) :
    ∃ v' w', (Builtin.append_ #[53, 53] 53 #[v, .slice (some p) m.length c]).run Try.prog w = .ok v' w' ∧ w'.ownsRow base 56 3 v' (n + m.length) (rowU (l ++ m)) ∧ w.grownBy w' v.ownBlock := by
  obtain ⟨i0, hi, hz0, hz1, hz2⟩ := info_parts infoU
  obtain ⟨v', w', hrun, hown', hgrow, _⟩ := run_append_own (P := Try.prog) (w := w) base 53 53 56 i0 _ 3 40 Try.underlying53 hi hz0 hz1 hz2 rfl (by decide) v n (rowU l) h p m.length c (rowU m) (rowU_len m)
    hm (rowU_one m) (by unfold maxLen; omega) (by omega) hb
  rw [rowU_app]
  exact ⟨v', w', hrun, hown', hgrow⟩
/-- A row behind another. -/
theorem push_row_u {w : World} {base base2 n : Nat} {v u : Value} {l m : List Pt} (h : w.ownsRow base 56 3 v n (rowU l)) (hb : base ≤ w.heap.size) (h2 : w.ownsRow base2 56 3 u m.length (rowU m)) (hn : n + m.length ≤ 16777216) :
    ∃ v' w', (Builtin.append_ #[53, 53] 53 #[v, u]).run Try.prog w = .ok v' w' ∧ w'.ownsRow base 56 3 v' (n + m.length) (rowU (l ++ m)) ∧ w.grownBy w' v.ownBlock := by
  rcases h2.2 with ⟨rfl, e0⟩ | ⟨g, cap, cur, rfl, hg, hc, hnc, hcm, hs, ht⟩
  · have em : m = [] := List.eq_nil_of_length_eq_zero e0
    subst em
    obtain ⟨i0, hi, hz0, hz1, hz2⟩ := info_parts infoU
    obtain ⟨a, cap, rfl, -, h1, -⟩ := own_uses h
    have ht : Try.prog.underlying 53 = some (.slice 56) := Try.underlying53
    refine ⟨.slice a n cap, w, ?_, by simpa using h, ⟨rfl, rfl, rfl, Nat.le_refl _, fun _ _ _ => rfl⟩⟩
    cases a <;> simp [Builtin.append_, run_underlying ht, sizeOf, typeInfo, hi, Builtin.lenOf, Builtin.firstCells, h1, storeCells]
  · refine push_u h hb ⟨g, 0, none⟩ cap (fun j u hu => ?_) hn
    have hj : j < m.length * 3 := by have := (List.getElem?_eq_some_iff.1 hu).1; rwa [rowU_len] at this
    rw [← ht, List.getElem?_take_of_lt hj] at hu
    rw [add_none, Nat.zero_add]
    simp only [World.cell?, hc]
    rw [Array.getElem?_toList] at hu
    exact hu
theorem length_catU (x : Pt) : ∀ n, n ≤ x.n → (catN (fun i => usesP (x.c i)) n).length ≤ sumN (fun i => (x.c i).size) n
  | 0, _ => Nat.le_refl _
  | n + 1, h => by
    rw [catN, sumN, List.length_append]
    have h1 := length_catU x n (by omega)
    have h2 := length_uses (x.c n)
    omega
/-- What Uses hands back. -/
def UsesAns (x : Pt) (w : World) (e : Ending) (w' : World) : Prop := ∃ v, e = .returned v ∧ w'.ownsRow w.heap.size 56 3 v (usesP x).length (rowU (usesP x)) ∧ Below w.heap.size w w'
theorem own_low3 {w : World} {B B' e k n : Nat} {v : Value} {xs : List Value} (h : w.ownsRow B e k v n xs) (hB : B' ≤ B) : w.ownsRow B' e k v n xs := by
  refine ⟨h.1, ?_⟩
  rcases h.2 with h2 | ⟨g, cap, cur, e1, hg, h3⟩
  · exact .inl h2
  · exact .inr ⟨g, cap, cur, e1, Nat.le_trans hB hg, h3⟩
theorem sumN_upto {f : Nat → Nat} : ∀ {m n : Nat}, m ≤ n → sumN f m ≤ sumN f n
  | m, 0, h => by
    obtain rfl : m = 0 := by omega
    exact Nat.le_refl _
  | m, n + 1, h => by
    by_cases e : m = n + 1
    · rw [e]; exact Nat.le_refl _
    · have := sumN_upto (f := f) (show m ≤ n by omega)
      rw [sumN]; omega
set_option maxRecDepth 100000 in
set_option maxHeartbeats 8000000 in
theorem refUses_none (x : Pt) (w : World) (hX : IsP w x) (hsm : x.size ≤ 1048576) (ih : ∀ i, i < x.n → ∀ w : World, IsP w (x.c i) → Calls Try.prog 30 #[(x.c i).val] w (UsesAns (x.c i) w)) (hk : ¬ x.k = 1 ∧ ¬ x.k = 5 ∧ ¬ x.k = 6) :
    Calls Try.prog 30 #[x.val] w (UsesAns x w) := by
  obtain ⟨A, hA, hB, hs, hn⟩ := boxP_one x w
  obtain ⟨a0, a1, a2, a3, a4, a5⟩ := hn.at0
  have HB : Hid (Below w.heap.size w A) := hB
  have HN : Hid (NodeP A w.heap.size 0 x) := hn
  have HX : Hid (IsP w x) := hX
  have hlen := hX.len
  have HI : Hid (∀ i, i < x.n → ∀ W, Below w.heap.size w W → Calls Try.prog 30 #[(x.c i).val] W (UsesAns (x.c i) W)) := fun i hi W hW => by
    obtain ⟨_, _, _, _, h1⟩ := (hX.later hW).part hi
    exact ih i hi W h1
  have HLB : Hid (∀ k, k < x.n → (([] : List Pt) ++ catN (fun i => usesP (x.c i)) k).length + (usesP (x.c k)).length ≤ 16777216) := fun k hk => by
    have h1 := length_catU x (k + 1) (by omega)
    rw [catN, List.length_append] at h1
    have h2 : sumN (fun i => (x.c i).size) (k + 1) ≤ sumN (fun i => (x.c i).size) x.n := sumN_upto (by omega)
    have h3 := x.size_eq
    rw [List.length_append]
    simp only [List.length_nil]
    omega
  have k1 : (x.k == 1) = false := by simpa using hk.1
  have k5 : (x.k == 5) = false := by simpa using hk.2.1
  have k6 : (x.k == 6) = false := by simpa using hk.2.2
  have HU : Hid (usesP x = ([] : List Pt) ++ catN (fun i => usesP (x.c i)) x.n) := by show _ = _; rw [usesP_eq, if_neg (by simp [nmd, k1, k5, k6])]
  clear hB hn hX ih hs hsm hk
  go_enter Try.func30, Try.ntmps30
  go_wp2_with fail
  clear a0 a1 a2 a3 a4 a5 hA k1 k5 k6
  go_loopw [3, 4] (fun ov iv wr => ∃ (k : Nat) (v : Value), k ≤ x.n ∧ ov = v ∧ iv = .int .i64 k ∧ Hid (wr.ownsRow A.heap.size 56 3 v (([] : List Pt) ++ catN (fun i => usesP (x.c i)) k).length (rowU (([] : List Pt) ++ catN (fun i => usesP (x.c i)) k))) ∧ Below A.heap.size A wr) (fun _ iv _ => x.n - (intOf iv).toNat)
  case atStart => exact ⟨0, _, Nat.zero_le _, rfl, rfl, World.ownsRow_nil _ _ _ _, Below.refl _ _⟩
  case round =>
    obtain ⟨k, v, hk, rfl, rfl, HR, hBr⟩ := hrel
    have hw := HB.out.trans (hBr.mono HB.out.size)
    obtain ⟨c0, c1, c2, c3, c4, c5⟩ := (HN.out.later hBr).at0
    by_cases hkn : k < x.n
    · obtain ⟨b, o, ea, hn, -⟩ := (HX.out.later hw).part hkn
      rw [ea] at c5
      obtain ⟨d0, d1, d2, d3, d4, d5⟩ := hn
      have hc := HI.out k hkn wr hw
      have HKN : Hid (k < x.n) := hkn
      clear ea
      go_wp2_with (first
        | (go_at_call 30; refine hc.mono ?_; clear hc; rintro e w2 ⟨u, rfl, hu, hB2⟩; obtain ⟨v3, w3, hrun, hown3, hgr3⟩ := push_row_u (own_laterS HR.out hB2) (Nat.le_trans hBr.size hB2.size) hu (HLB.out k HKN.out); have HR3 : Hid (_ = _) := hrun; have HO3 : Hid _ := hown3; have HG3 : Hid (Below A.heap.size A w3) := (hBr.trans (hB2.mono hBr.size)).grown hgr3 (Nat.le_trans hBr.size hB2.size) (fun j e => (HR.out.lt j e).1); clear hrun hown3 hgr3)
        | (at_builtin; refine wpList_append_run rfl (.tmp 35) (.tmp 41) 53 rfl _ _ _ rfl rfl HR3.out ?_))
      have hnx : w3.ownsRow A.heap.size 56 3 v3 (([] : List Pt) ++ catN (fun i => usesP (x.c i)) (k + 1)).length (rowU (([] : List Pt) ++ catN (fun i => usesP (x.c i)) (k + 1))) := by
        have h1 := HO3.out
        rw [List.append_assoc] at h1
        rw [catN, ← List.append_assoc, List.length_append]
        rw [← List.append_assoc] at h1
        exact h1
      first
        | (refine ⟨⟨k + 1, v3, HKN.out, rfl, by simp, hnx, HG3.out⟩, ?_⟩
           have := HKN.out
           simp [intOf]
           omega)
        | (go_roundw
           case rel => exact ⟨k + 1, v3, HKN.out, rfl, by go_num, hnx, HG3.out⟩
           case measure => have := HKN.out; simp [intOf]; omega)
    · obtain rfl : k = x.n := by omega
      go_wp2
      go_ret
      refine ⟨_, rfl, ?_, hw⟩
      rw [HU.out]
      exact own_low3 HR.out (by have := HB.out.size; omega)
set_option maxRecDepth 100000 in
set_option maxHeartbeats 8000000 in
theorem refUses_1 (x : Pt) (w : World) (hX : IsP w x) (hsm : x.size ≤ 1048576) (ih : ∀ i, i < x.n → ∀ w : World, IsP w (x.c i) → Calls Try.prog 30 #[(x.c i).val] w (UsesAns (x.c i) w)) (hk : x.k = 1) :
    Calls Try.prog 30 #[x.val] w (UsesAns x w) := by
  obtain ⟨A, hA, hB, hs, hn⟩ := boxP_one x w
  obtain ⟨a0, a1, a2, a3, a4, a5⟩ := hn.at0
  have HB : Hid (Below w.heap.size w A) := hB
  have HN : Hid (NodeP A w.heap.size 0 x) := hn
  have HX : Hid (IsP w x) := hX
  have hlen := hX.len
  have HI : Hid (∀ i, i < x.n → ∀ W, Below w.heap.size w W → Calls Try.prog 30 #[(x.c i).val] W (UsesAns (x.c i) W)) := fun i hi W hW => by
    obtain ⟨_, _, _, _, h1⟩ := (hX.later hW).part hi
    exact ih i hi W h1
  have HLB : Hid (∀ k, k < x.n → ([x] ++ catN (fun i => usesP (x.c i)) k).length + (usesP (x.c k)).length ≤ 16777216) := fun k hk => by
    have h1 := length_catU x (k + 1) (by omega)
    rw [catN, List.length_append] at h1
    have h2 : sumN (fun i => (x.c i).size) (k + 1) ≤ sumN (fun i => (x.c i).size) x.n := sumN_upto (by omega)
    have h3 := x.size_eq
    rw [List.length_append]
    simp only [List.length_cons, List.length_nil]
    omega
  have k1 : (x.k == 1) = true := by simpa using hk
  have HU : Hid (usesP x = [x] ++ catN (fun i => usesP (x.c i)) x.n) := by show _ = _; rw [usesP_eq, if_pos (by simp [nmd, hk])]
  obtain ⟨v0, w0, hrun0, hown0, hgr0⟩ := push_u (l := []) (m := [x]) (w := A.alloc (.cells #[.string x.s, .string x.t, .int .i64 x.k] 56)) (World.ownsRow_nil _ A.heap.size _ _) (by simp) ⟨A.heap.size, 0, none⟩ 1 (fun j u hu => by
    have hb := alloc_new A (.cells #[.string x.s, .string x.t, .int .i64 x.k] 56)
    rw [add_none, Nat.zero_add]
    simp only [World.cell?, hb]
    simp only [rowU] at hu
    rw [← Array.getElem?_toList]
    exact hu) (by simp)
  have HR0 : Hid (_ = _) := hrun0
  have HO0 : Hid (w0.ownsRow A.heap.size 56 3 v0 ([x] ++ catN (fun i => usesP (x.c i)) 0).length (rowU ([x] ++ catN (fun i => usesP (x.c i)) 0))) := by
    have h1 := hown0
    simp only [List.nil_append, Nat.zero_add] at h1
    show w0.ownsRow _ _ _ _ _ _
    rw [catN, List.append_nil]
    exact h1
  have HG0 : Hid (Below A.heap.size A w0) := ((Below.refl _ A).alloc (Nat.le_refl _) _).grown hgr0 (by simp) (fun j e => by simp [Value.ownBlock] at e)
  clear hB hn hX ih hs hsm hk hrun0 hown0 hgr0
  go_enter Try.func30, Try.ntmps30
  go_wp2_with (first | (at_builtin; refine wpList_append_run rfl (.tmp 18) (.tmp 26) 53 rfl _ _ _ rfl rfl HR0.out ?_))
  clear a0 a1 a2 a3 a4 a5 hA k1
  go_loopw [3, 4] (fun ov iv wr => ∃ (k : Nat) (v : Value), k ≤ x.n ∧ ov = v ∧ iv = .int .i64 k ∧ Hid (wr.ownsRow A.heap.size 56 3 v ([x] ++ catN (fun i => usesP (x.c i)) k).length (rowU ([x] ++ catN (fun i => usesP (x.c i)) k))) ∧ Below A.heap.size A wr) (fun _ iv _ => x.n - (intOf iv).toNat)
  case atStart => exact ⟨0, _, Nat.zero_le _, rfl, rfl, HO0.out, HG0.out⟩
  case round =>
    obtain ⟨k, v, hk, rfl, rfl, HR, hBr⟩ := hrel
    have hw := HB.out.trans (hBr.mono HB.out.size)
    obtain ⟨c0, c1, c2, c3, c4, c5⟩ := (HN.out.later hBr).at0
    by_cases hkn : k < x.n
    · obtain ⟨b, o, ea, hn, -⟩ := (HX.out.later hw).part hkn
      rw [ea] at c5
      obtain ⟨d0, d1, d2, d3, d4, d5⟩ := hn
      have hc := HI.out k hkn wr hw
      have HKN : Hid (k < x.n) := hkn
      clear ea
      go_wp2_with (first
        | (go_at_call 30; refine hc.mono ?_; clear hc; rintro e w2 ⟨u, rfl, hu, hB2⟩; obtain ⟨v3, w3, hrun, hown3, hgr3⟩ := push_row_u (own_laterS HR.out hB2) (Nat.le_trans hBr.size hB2.size) hu (HLB.out k HKN.out); have HR3 : Hid (_ = _) := hrun; have HO3 : Hid _ := hown3; have HG3 : Hid (Below A.heap.size A w3) := (hBr.trans (hB2.mono hBr.size)).grown hgr3 (Nat.le_trans hBr.size hB2.size) (fun j e => (HR.out.lt j e).1); clear hrun hown3 hgr3)
        | (at_builtin; refine wpList_append_run rfl (.tmp 35) (.tmp 41) 53 rfl _ _ _ rfl rfl HR3.out ?_))
      have hnx : w3.ownsRow A.heap.size 56 3 v3 ([x] ++ catN (fun i => usesP (x.c i)) (k + 1)).length (rowU ([x] ++ catN (fun i => usesP (x.c i)) (k + 1))) := by
        have h1 := HO3.out
        rw [List.append_assoc] at h1
        rw [catN, ← List.append_assoc, List.length_append]
        rw [← List.append_assoc] at h1
        exact h1
      first
        | (refine ⟨⟨k + 1, v3, HKN.out, rfl, by simp, hnx, HG3.out⟩, ?_⟩
           have := HKN.out
           simp [intOf]
           omega)
        | (go_roundw
           case rel => exact ⟨k + 1, v3, HKN.out, rfl, by go_num, hnx, HG3.out⟩
           case measure => have := HKN.out; simp [intOf]; omega)
    · obtain rfl : k = x.n := by omega
      go_wp2
      go_ret
      refine ⟨_, rfl, ?_, hw⟩
      rw [HU.out]
      exact own_low3 HR.out (by have := HB.out.size; omega)
set_option maxRecDepth 100000 in
set_option maxHeartbeats 8000000 in
theorem refUses_5 (x : Pt) (w : World) (hX : IsP w x) (hsm : x.size ≤ 1048576) (ih : ∀ i, i < x.n → ∀ w : World, IsP w (x.c i) → Calls Try.prog 30 #[(x.c i).val] w (UsesAns (x.c i) w)) (hk : x.k = 5) :
    Calls Try.prog 30 #[x.val] w (UsesAns x w) := by
  obtain ⟨A, hA, hB, hs, hn⟩ := boxP_one x w
  obtain ⟨a0, a1, a2, a3, a4, a5⟩ := hn.at0
  have HB : Hid (Below w.heap.size w A) := hB
  have HN : Hid (NodeP A w.heap.size 0 x) := hn
  have HX : Hid (IsP w x) := hX
  have hlen := hX.len
  have HI : Hid (∀ i, i < x.n → ∀ W, Below w.heap.size w W → Calls Try.prog 30 #[(x.c i).val] W (UsesAns (x.c i) W)) := fun i hi W hW => by
    obtain ⟨_, _, _, _, h1⟩ := (hX.later hW).part hi
    exact ih i hi W h1
  have HLB : Hid (∀ k, k < x.n → ([x] ++ catN (fun i => usesP (x.c i)) k).length + (usesP (x.c k)).length ≤ 16777216) := fun k hk => by
    have h1 := length_catU x (k + 1) (by omega)
    rw [catN, List.length_append] at h1
    have h2 : sumN (fun i => (x.c i).size) (k + 1) ≤ sumN (fun i => (x.c i).size) x.n := sumN_upto (by omega)
    have h3 := x.size_eq
    rw [List.length_append]
    simp only [List.length_cons, List.length_nil]
    omega
  have k1 : (x.k == 1) = false := by simp [hk]
  have k5 : (x.k == 5) = true := by simpa using hk
  have HU : Hid (usesP x = [x] ++ catN (fun i => usesP (x.c i)) x.n) := by show _ = _; rw [usesP_eq, if_pos (by simp [nmd, hk])]
  obtain ⟨v0, w0, hrun0, hown0, hgr0⟩ := push_u (l := []) (m := [x]) (w := A.alloc (.cells #[.string x.s, .string x.t, .int .i64 x.k] 56)) (World.ownsRow_nil _ A.heap.size _ _) (by simp) ⟨A.heap.size, 0, none⟩ 1 (fun j u hu => by
    have hb := alloc_new A (.cells #[.string x.s, .string x.t, .int .i64 x.k] 56)
    rw [add_none, Nat.zero_add]
    simp only [World.cell?, hb]
    simp only [rowU] at hu
    rw [← Array.getElem?_toList]
    exact hu) (by simp)
  have HR0 : Hid (_ = _) := hrun0
  have HO0 : Hid (w0.ownsRow A.heap.size 56 3 v0 ([x] ++ catN (fun i => usesP (x.c i)) 0).length (rowU ([x] ++ catN (fun i => usesP (x.c i)) 0))) := by
    have h1 := hown0
    simp only [List.nil_append, Nat.zero_add] at h1
    show w0.ownsRow _ _ _ _ _ _
    rw [catN, List.append_nil]
    exact h1
  have HG0 : Hid (Below A.heap.size A w0) := ((Below.refl _ A).alloc (Nat.le_refl _) _).grown hgr0 (by simp) (fun j e => by simp [Value.ownBlock] at e)
  clear hB hn hX ih hs hsm hk hrun0 hown0 hgr0
  go_enter Try.func30, Try.ntmps30
  go_wp2_with (first | (at_builtin; refine wpList_append_run rfl (.tmp 18) (.tmp 26) 53 rfl _ _ _ rfl rfl HR0.out ?_))
  clear a0 a1 a2 a3 a4 a5 hA k1 k5
  go_loopw [3, 4] (fun ov iv wr => ∃ (k : Nat) (v : Value), k ≤ x.n ∧ ov = v ∧ iv = .int .i64 k ∧ Hid (wr.ownsRow A.heap.size 56 3 v ([x] ++ catN (fun i => usesP (x.c i)) k).length (rowU ([x] ++ catN (fun i => usesP (x.c i)) k))) ∧ Below A.heap.size A wr) (fun _ iv _ => x.n - (intOf iv).toNat)
  case atStart => exact ⟨0, _, Nat.zero_le _, rfl, rfl, HO0.out, HG0.out⟩
  case round =>
    obtain ⟨k, v, hk, rfl, rfl, HR, hBr⟩ := hrel
    have hw := HB.out.trans (hBr.mono HB.out.size)
    obtain ⟨c0, c1, c2, c3, c4, c5⟩ := (HN.out.later hBr).at0
    by_cases hkn : k < x.n
    · obtain ⟨b, o, ea, hn, -⟩ := (HX.out.later hw).part hkn
      rw [ea] at c5
      obtain ⟨d0, d1, d2, d3, d4, d5⟩ := hn
      have hc := HI.out k hkn wr hw
      have HKN : Hid (k < x.n) := hkn
      clear ea
      go_wp2_with (first
        | (go_at_call 30; refine hc.mono ?_; clear hc; rintro e w2 ⟨u, rfl, hu, hB2⟩; obtain ⟨v3, w3, hrun, hown3, hgr3⟩ := push_row_u (own_laterS HR.out hB2) (Nat.le_trans hBr.size hB2.size) hu (HLB.out k HKN.out); have HR3 : Hid (_ = _) := hrun; have HO3 : Hid _ := hown3; have HG3 : Hid (Below A.heap.size A w3) := (hBr.trans (hB2.mono hBr.size)).grown hgr3 (Nat.le_trans hBr.size hB2.size) (fun j e => (HR.out.lt j e).1); clear hrun hown3 hgr3)
        | (at_builtin; refine wpList_append_run rfl (.tmp 35) (.tmp 41) 53 rfl _ _ _ rfl rfl HR3.out ?_))
      have hnx : w3.ownsRow A.heap.size 56 3 v3 ([x] ++ catN (fun i => usesP (x.c i)) (k + 1)).length (rowU ([x] ++ catN (fun i => usesP (x.c i)) (k + 1))) := by
        have h1 := HO3.out
        rw [List.append_assoc] at h1
        rw [catN, ← List.append_assoc, List.length_append]
        rw [← List.append_assoc] at h1
        exact h1
      first
        | (refine ⟨⟨k + 1, v3, HKN.out, rfl, by simp, hnx, HG3.out⟩, ?_⟩
           have := HKN.out
           simp [intOf]
           omega)
        | (go_roundw
           case rel => exact ⟨k + 1, v3, HKN.out, rfl, by go_num, hnx, HG3.out⟩
           case measure => have := HKN.out; simp [intOf]; omega)
    · obtain rfl : k = x.n := by omega
      go_wp2
      go_ret
      refine ⟨_, rfl, ?_, hw⟩
      rw [HU.out]
      exact own_low3 HR.out (by have := HB.out.size; omega)
set_option maxRecDepth 100000 in
set_option maxHeartbeats 8000000 in
theorem refUses_6 (x : Pt) (w : World) (hX : IsP w x) (hsm : x.size ≤ 1048576) (ih : ∀ i, i < x.n → ∀ w : World, IsP w (x.c i) → Calls Try.prog 30 #[(x.c i).val] w (UsesAns (x.c i) w)) (hk : x.k = 6) :
    Calls Try.prog 30 #[x.val] w (UsesAns x w) := by
  obtain ⟨A, hA, hB, hs, hn⟩ := boxP_one x w
  obtain ⟨a0, a1, a2, a3, a4, a5⟩ := hn.at0
  have HB : Hid (Below w.heap.size w A) := hB
  have HN : Hid (NodeP A w.heap.size 0 x) := hn
  have HX : Hid (IsP w x) := hX
  have hlen := hX.len
  have HI : Hid (∀ i, i < x.n → ∀ W, Below w.heap.size w W → Calls Try.prog 30 #[(x.c i).val] W (UsesAns (x.c i) W)) := fun i hi W hW => by
    obtain ⟨_, _, _, _, h1⟩ := (hX.later hW).part hi
    exact ih i hi W h1
  have HLB : Hid (∀ k, k < x.n → ([x] ++ catN (fun i => usesP (x.c i)) k).length + (usesP (x.c k)).length ≤ 16777216) := fun k hk => by
    have h1 := length_catU x (k + 1) (by omega)
    rw [catN, List.length_append] at h1
    have h2 : sumN (fun i => (x.c i).size) (k + 1) ≤ sumN (fun i => (x.c i).size) x.n := sumN_upto (by omega)
    have h3 := x.size_eq
    rw [List.length_append]
    simp only [List.length_cons, List.length_nil]
    omega
  have k1 : (x.k == 1) = false := by simp [hk]
  have k5 : (x.k == 5) = false := by simp [hk]
  have k6 : (x.k == 6) = true := by simpa using hk
  have HU : Hid (usesP x = [x] ++ catN (fun i => usesP (x.c i)) x.n) := by show _ = _; rw [usesP_eq, if_pos (by simp [nmd, hk])]
  obtain ⟨v0, w0, hrun0, hown0, hgr0⟩ := push_u (l := []) (m := [x]) (w := A.alloc (.cells #[.string x.s, .string x.t, .int .i64 x.k] 56)) (World.ownsRow_nil _ A.heap.size _ _) (by simp) ⟨A.heap.size, 0, none⟩ 1 (fun j u hu => by
    have hb := alloc_new A (.cells #[.string x.s, .string x.t, .int .i64 x.k] 56)
    rw [add_none, Nat.zero_add]
    simp only [World.cell?, hb]
    simp only [rowU] at hu
    rw [← Array.getElem?_toList]
    exact hu) (by simp)
  have HR0 : Hid (_ = _) := hrun0
  have HO0 : Hid (w0.ownsRow A.heap.size 56 3 v0 ([x] ++ catN (fun i => usesP (x.c i)) 0).length (rowU ([x] ++ catN (fun i => usesP (x.c i)) 0))) := by
    have h1 := hown0
    simp only [List.nil_append, Nat.zero_add] at h1
    show w0.ownsRow _ _ _ _ _ _
    rw [catN, List.append_nil]
    exact h1
  have HG0 : Hid (Below A.heap.size A w0) := ((Below.refl _ A).alloc (Nat.le_refl _) _).grown hgr0 (by simp) (fun j e => by simp [Value.ownBlock] at e)
  clear hB hn hX ih hs hsm hk hrun0 hown0 hgr0
  go_enter Try.func30, Try.ntmps30
  go_wp2_with (first | (at_builtin; refine wpList_append_run rfl (.tmp 18) (.tmp 26) 53 rfl _ _ _ rfl rfl HR0.out ?_))
  clear a0 a1 a2 a3 a4 a5 hA k1 k5 k6
  go_loopw [3, 4] (fun ov iv wr => ∃ (k : Nat) (v : Value), k ≤ x.n ∧ ov = v ∧ iv = .int .i64 k ∧ Hid (wr.ownsRow A.heap.size 56 3 v ([x] ++ catN (fun i => usesP (x.c i)) k).length (rowU ([x] ++ catN (fun i => usesP (x.c i)) k))) ∧ Below A.heap.size A wr) (fun _ iv _ => x.n - (intOf iv).toNat)
  case atStart => exact ⟨0, _, Nat.zero_le _, rfl, rfl, HO0.out, HG0.out⟩
  case round =>
    obtain ⟨k, v, hk, rfl, rfl, HR, hBr⟩ := hrel
    have hw := HB.out.trans (hBr.mono HB.out.size)
    obtain ⟨c0, c1, c2, c3, c4, c5⟩ := (HN.out.later hBr).at0
    by_cases hkn : k < x.n
    · obtain ⟨b, o, ea, hn, -⟩ := (HX.out.later hw).part hkn
      rw [ea] at c5
      obtain ⟨d0, d1, d2, d3, d4, d5⟩ := hn
      have hc := HI.out k hkn wr hw
      have HKN : Hid (k < x.n) := hkn
      clear ea
      go_wp2_with (first
        | (go_at_call 30; refine hc.mono ?_; clear hc; rintro e w2 ⟨u, rfl, hu, hB2⟩; obtain ⟨v3, w3, hrun, hown3, hgr3⟩ := push_row_u (own_laterS HR.out hB2) (Nat.le_trans hBr.size hB2.size) hu (HLB.out k HKN.out); have HR3 : Hid (_ = _) := hrun; have HO3 : Hid _ := hown3; have HG3 : Hid (Below A.heap.size A w3) := (hBr.trans (hB2.mono hBr.size)).grown hgr3 (Nat.le_trans hBr.size hB2.size) (fun j e => (HR.out.lt j e).1); clear hrun hown3 hgr3)
        | (at_builtin; refine wpList_append_run rfl (.tmp 35) (.tmp 41) 53 rfl _ _ _ rfl rfl HR3.out ?_))
      have hnx : w3.ownsRow A.heap.size 56 3 v3 ([x] ++ catN (fun i => usesP (x.c i)) (k + 1)).length (rowU ([x] ++ catN (fun i => usesP (x.c i)) (k + 1))) := by
        have h1 := HO3.out
        rw [List.append_assoc] at h1
        rw [catN, ← List.append_assoc, List.length_append]
        rw [← List.append_assoc] at h1
        exact h1
      first
        | (refine ⟨⟨k + 1, v3, HKN.out, rfl, by simp, hnx, HG3.out⟩, ?_⟩
           have := HKN.out
           simp [intOf]
           omega)
        | (go_roundw
           case rel => exact ⟨k + 1, v3, HKN.out, rfl, by go_num, hnx, HG3.out⟩
           case measure => have := HKN.out; simp [intOf]; omega)
    · obtain rfl : k = x.n := by omega
      go_wp2
      go_ret
      refine ⟨_, rfl, ?_, hw⟩
      rw [HU.out]
      exact own_low3 HR.out (by have := HB.out.size; omega)
theorem refUses_any : ∀ (x : Pt) (w : World), IsP w x → x.size ≤ 1048576 → Calls Try.prog 30 #[x.val] w (UsesAns x w) := by
  refine Pt.ind fun x ih w hX hsm => ?_
  have ih' : ∀ i, i < x.n → ∀ w : World, IsP w (x.c i) → Calls Try.prog 30 #[(x.c i).val] w (UsesAns (x.c i) w) := fun i hi w' h => ih i hi w' h (by have := x.size_part i hi; omega)
  by_cases h1 : x.k = 1
  · exact refUses_1 x w hX hsm ih' h1
  · by_cases h5 : x.k = 5
    · exact refUses_5 x w hX hsm ih' h5
    · by_cases h6 : x.k = 6
      · exact refUses_6 x w hX hsm ih' h6
      · exact refUses_none x w hX hsm ih' ⟨h1, h5, h6⟩
end Go.Proofs.Ytinnhaojmnmliaa
namespace Go.Proofs.Ytinnhaojmnmliaa
open Go.RowKit

/-- The cells of some nodes, one behind the other. -/
def rowP (c : Nat → Pt) : Nat → List Value
  | 0 => []
  | n + 1 => rowP c n ++ (c n).cells.toList
theorem rowP_len (c : Nat → Pt) : ∀ n, (rowP c n).length = n * 6
  | 0 => rfl
  | n + 1 => by rw [rowP, List.length_append, rowP_len c n]; simp; omega
theorem rowP_get (c : Nat → Pt) : ∀ n i j, i < n → j < 6 → (rowP c n)[i * 6 + j]? = (c i).cells[j]?
  | 0, _, _, h, _ => by omega
  | n + 1, i, j, h, hj => by
    rw [rowP]
    by_cases e : i = n
    · subst e
      rw [List.getElem?_append_right (by rw [rowP_len]; omega), rowP_len, show i * 6 + j - i * 6 = j by omega]
      simp
    · rw [List.getElem?_append_left (by rw [rowP_len]; omega)]
      exact rowP_get c n i j (by omega) hj
theorem rowP_one (c : Nat → Pt) : ∀ n, ∀ u ∈ rowP c n, u.oneCell' = true
  | 0, u, h => by simp [rowP] at h
  | n + 1, u, h => by
    rw [rowP, List.mem_append] at h
    rcases h with h | h
    · exact rowP_one c n u h
    · simp at h
      rcases h with rfl | rfl | rfl | rfl | rfl | rfl <;> rfl
theorem rowP_congr {c d : Nat → Pt} : ∀ {n : Nat}, (∀ i, i < n → c i = d i) → rowP c n = rowP d n
  | 0, _ => rfl
  | n + 1, h => by rw [rowP, rowP, rowP_congr fun i hi => h i (by omega), h n (by omega)]
/-- Nodes, one behind the other, as cells. -/
theorem nodesP_cells {w : World} {b o n : Nat} {c : Nat → Pt} (h : ∀ i, i < n → NodeP w b (o + i * 6) (c i)) : ∀ j u, (rowP c n)[j]? = some u → w.cell? ((Addr.mk b o none).add j) = some u := by
  intro j u hu
  have hj : j < n * 6 := by have := (List.getElem?_eq_some_iff.1 hu).1; rwa [rowP_len] at this
  have hi : j / 6 < n := by omega
  have hm : j % 6 < 6 := Nat.mod_lt _ (by omega)
  have he : j / 6 * 6 + j % 6 = j := by omega
  have := rowP_get c n (j / 6) (j % 6) hi hm
  rw [he, hu] at this
  rw [add_none]
  obtain ⟨d0, d1, d2, d3, d4, d5⟩ := h (j / 6) hi
  obtain ⟨m, hm'⟩ : ∃ m, m = j % 6 := ⟨_, rfl⟩
  rw [← hm'] at this hm he
  rw [show o + j = o + j / 6 * 6 + m by omega]
  match m, hm with
  | 0, _ => simp at this; rw [this]; exact d0
  | 1, _ => simp at this; rw [this]; exact d1
  | 2, _ => simp at this; rw [this]; exact d2
  | 3, _ => simp at this; rw [this]; exact d3
  | 4, _ => simp at this; rw [this]; exact d4
  | 5, _ => simp at this; rw [this]; exact d5
/-- A block of cells that may be written. -/
def FreeP (w : World) (b : Nat) : Prop := ∃ cur, w.heap[b]? = some (.cells cur 24 (0, 0))
theorem FreeP.frozen {w : World} {b : Nat} (h : FreeP w b) (o : Nat) : w.frozen? ⟨b, o, none⟩ = false := by
  obtain ⟨cur, h⟩ := h
  simp [World.frozen?, h]
theorem ownP_free {w : World} {base n : Nat} {v : Value} {xs : List Value} (h : w.ownsRow base 24 6 v n xs) (hn : 0 < n) : ∃ g cap, v = .slice (some ⟨g, 0, none⟩) n cap ∧ base ≤ g ∧ FreeP w g := by
  rcases h.2 with ⟨_, e⟩ | ⟨g, cap, cur, e, hg, hc, _⟩
  · omega
  · exact ⟨g, cap, e, hg, cur, hc⟩
/-- A row that a call owns, node by node. -/
theorem ownP_nodes {w : World} {base n : Nat} {v : Value} {c : Nat → Pt} (h : w.ownsRow base 24 6 v n (rowP c n)) :
    ∃ a cap, v = .slice a n cap ∧ n ≤ cap ∧ cap ≤ maxLen ∧ (0 < n → ∃ g, a = some ⟨g, 0, none⟩ ∧ base ≤ g ∧ g < w.heap.size ∧ FreeP w g ∧ ∀ i, i < n → NodeP w g (i * 6) (c i)) := by
  rcases h.2 with ⟨rfl, rfl⟩ | ⟨g, cap, cur, rfl, hg, hc, hnc, hcm, hs, ht⟩
  · exact ⟨none, 0, rfl, Nat.le_refl _, Nat.zero_le _, fun h => by omega⟩
  · refine ⟨_, cap, rfl, hnc, hcm, fun h0 => ⟨g, rfl, hg, (Array.getElem?_eq_some_iff.1 hc).1, ⟨cur, hc⟩, fun i hi => ?_⟩⟩
    have key : ∀ j, j < 6 → w.cell? ⟨g, i * 6 + j, none⟩ = (c i).cells[j]? := by
      intro j hj
      rw [← rowP_get c n i j hi hj, ← ht, List.getElem?_take_of_lt (by omega)]
      simp only [World.cell?, hc]
      rw [Array.getElem?_toList]
      rfl
    exact ⟨key 0 (by omega), key 1 (by omega), key 2 (by omega), key 3 (by omega), key 4 (by omega), key 5 (by omega)⟩
theorem infoP : (Try.prog.info? 24).map (fun i => (i.zero, i.size, i.bytes)) = some (some (.agg #[.int .i64 0, .string ⟨#[]⟩, .string ⟨#[]⟩, .int .i64 0, .int .i64 0, .slice none 0 0]), 6, 80) := by kernel_rfl
/-- Some nodes more behind a row that the call owns. -/
theorem push_p {w : World} {base n : Nat} {v : Value} {xs : List Value} (h : w.ownsRow base 24 6 v n xs) (hb : base ≤ w.heap.size) (p : Addr) (m k : Nat) (c : Nat → Pt) (hm : ∀ i, i < m → ∃ b o, p = ⟨b, o, none⟩ ∧ NodeP w b (o + i * 6) (c i)) (hn : n + m ≤ 16777216) :
    ∃ v' w', (Builtin.append_ #[22, 22] 22 #[v, .slice (some p) m k]).run Try.prog w = .ok v' w' ∧ w'.ownsRow base 24 6 v' (n + m) (xs ++ rowP c m) ∧ w.grownBy w' v.ownBlock := by
  obtain ⟨i0, hi, hz0, hz1, hz2⟩ := info_parts infoP
  obtain ⟨v', w', hrun, hown', hgrow, _⟩ := run_append_own (P := Try.prog) (w := w) base 22 22 24 i0 _ 6 80 Try.underlying22 hi hz0 hz1 hz2 rfl (by decide) v n xs h p m k (rowP c m) (rowP_len c m)
    (fun j u hu => by
      have h0 : 0 < m := by
        have := (List.getElem?_eq_some_iff.1 hu).1
        rw [rowP_len] at this
        omega
      obtain ⟨b, o, rfl, _⟩ := hm 0 h0
      refine nodesP_cells (fun i hi => ?_) j u hu
      obtain ⟨b', o', e, hn'⟩ := hm i hi
      cases e
      exact hn') (rowP_one c m) (by unfold maxLen; omega) (by omega) hb
  exact ⟨v', w', hrun, hown', hgrow⟩
set_option maxRecDepth 100000 in
set_option maxHeartbeats 2000000 in
theorem cloneP_any (a : Option Addr) (n cap : Nat) (c : Nat → Pt) (w : World) (h : ∀ i, i < n → ∃ b o, a = some ⟨b, o, none⟩ ∧ NodeP w b (o + i * 6) (c i)) (hn : n ≤ 1048576) :
    Calls Try.prog 53 #[.slice a n cap] w fun e w' => ∃ v, e = .returned v ∧ w'.ownsRow w.heap.size 24 6 v n (rowP c n) ∧ Below w.heap.size w w' := by
  cases a with
  | none =>
    obtain rfl : n = 0 := by
      by_cases h0 : 0 < n
      · obtain ⟨_, _, e, _⟩ := h 0 h0
        cases e
      · omega
    clear h
    have he : ∀ w : World, (binOp .eql 22 (.slice none 0 cap) (.slice none 0 0)).run Try.prog w = .ok (.bool true) w := fun _ => rfl
    go_enter Try.func53, Try.ntmps53
    go_wp2
    go_ret
    exact ⟨_, rfl, World.ownsRow_nil _ _ _ _, Below.refl _ _⟩
  | some x =>
    have hB0 : Below w.heap.size w (w.alloc (.cells #[] 24)) := (Below.refl _ _).alloc (Nat.le_refl _) _
    have hown0 : (w.alloc (.cells #[] 24)).ownsRow w.heap.size 24 6 (.slice (some ⟨w.heap.size, 0, none⟩) 0 0) 0 [] :=
      ⟨rfl, .inr ⟨w.heap.size, 0, #[], rfl, Nat.le_refl _, alloc_new w _, Nat.le_refl _, Nat.zero_le _, rfl, rfl⟩⟩
    obtain ⟨v1, w1, hrun1, hown1, hg1⟩ := push_p hown0 (by simp) x n cap c (fun i hi => by
      obtain ⟨b', o', e, hn'⟩ := h i hi
      cases e
      exact ⟨b', o', rfl, hn'.later hB0⟩) (by omega)
    simp only [Nat.zero_add, List.nil_append] at hown1
    have hB1 : Below w.heap.size w w1 := hB0.grown hg1 (by simp) (by intro k hk; simp [Value.ownBlock] at hk; omega)
    have HR1 : Hid (_ = _) := hrun1
    clear h hown0 hB0 hg1 hrun1
    have he : ∀ w : World, (binOp .eql 22 (.slice (some x) n cap) (.slice none 0 0)).run Try.prog w = .ok (.bool false) w := fun _ => rfl
    go_enter Try.func53, Try.ntmps53
    go_wp2_with (first | (at_builtin; refine wpList_append_run rfl (.tmp 5) (.tmp 6) 22 rfl _ _ _ rfl rfl HR1.out ?_))
    go_ret
    exact ⟨_, rfl, hown1, hB1⟩
end Go.Proofs.Ytinnhaojmnmliaa
