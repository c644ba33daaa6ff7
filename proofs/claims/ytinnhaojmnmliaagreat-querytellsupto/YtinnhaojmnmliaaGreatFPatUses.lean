/-
  The document's own Uses: a row of uses, of three cells each.
  The document's own Vars: each name once, with its Type and kind.
-/
import Derived.Test.YtinnhaojmnmliaaGreatFPatDown
import Derived.Test.YtinnhaojmnmliaaGreatFPatFirsts
import Derived.Test.YtinnhaojmnmliaaGreatCPatBase
import Derived.Test.YtinnhaojmnmliaaGreatFPatVars
import Derived.Maps.AppendAt
namespace Go.Proofs.YtinnhaojmnmliaaGreat
open Go.RowKit

/-- The cells of some uses. -/
def rowU : List Pt → List Value
  | [] => []
  | y :: l => .string y.s :: .string y.t :: .int .i64 y.k :: rowU l
theorem rowU_len : ∀ l : List Pt, (rowU l).length = l.length * 3
  | [] => rfl
  | _ :: l => by simp only [rowU, List.length_cons, rowU_len l]; omega
theorem rowU_app : ∀ l m : List Pt, rowU (l ++ m) = rowU l ++ rowU m
  | [], _ => rfl
  | y :: l, m => by simp only [List.cons_append, rowU, rowU_app l m]
theorem rowU_one : ∀ l : List Pt, ∀ u ∈ rowU l, u.oneCell' = true
  | [], u, h => by simp [rowU] at h
  | y :: l, u, h => by
    simp only [rowU, List.mem_cons] at h
    rcases h with rfl | rfl | rfl | h
    · rfl
    · rfl
    · rfl
    · exact rowU_one l u h
theorem rowU_get : ∀ (l : List Pt) (j : Nat) (y : Pt), l[j]? = some y → (rowU l)[j * 3]? = some (.string y.s) ∧ (rowU l)[j * 3 + 1]? = some (.string y.t) ∧ (rowU l)[j * 3 + 2]? = some (.int .i64 y.k)
  | [], j, y, h => by simp at h
  | z :: l, 0, y, h => by simp at h; subst h; exact ⟨rfl, rfl, rfl⟩
  | z :: l, j + 1, y, h => by
    simp only [List.getElem?_cons_succ] at h
    have := rowU_get l j y h
    rw [show (j + 1) * 3 = j * 3 + 3 by omega]
    exact this
theorem infoU : (Tryz.prog.info? 101).map (fun i => (i.zero, i.size, i.bytes)) = some (some (.agg #[.string ⟨#[]⟩, .string ⟨#[]⟩, .int .i64 0]), 3, 40) := by kernel_rfl
/-- A row that a call owns, use by use. -/
theorem own_uses {w : World} {base n : Nat} {v : Value} {l : List Pt} (h : w.ownsRow base 101 3 v n (rowU l)) : ∃ a cap, v = .slice a n cap ∧ l.length = n ∧ n ≤ cap ∧ cap ≤ maxLen ∧
    ∀ (j : Nat) (y : Pt), l[j]? = some y → ∃ g, a = some ⟨g, 0, none⟩ ∧ base ≤ g ∧ g < w.heap.size ∧ w.cell? ⟨g, j * 3, none⟩ = some (.string y.s) ∧ w.cell? ⟨g, j * 3 + 1, none⟩ = some (.string y.t) ∧ w.cell? ⟨g, j * 3 + 2, none⟩ = some (.int .i64 y.k) := by
  have hl : l.length = n := by have := h.1; rw [rowU_len] at this; omega
  rcases h.2 with ⟨rfl, rfl⟩ | ⟨g, cap, cur, rfl, hg, hc, hnc, hcm, hs, ht⟩
  · exact ⟨none, 0, rfl, hl, Nat.le_refl _, Nat.zero_le _, fun j y hy => by have := (List.getElem?_eq_some_iff.1 hy).1; omega⟩
  · refine ⟨_, cap, rfl, hl, hnc, hcm, fun j y hy => ?_⟩
    have hj := (List.getElem?_eq_some_iff.1 hy).1
    obtain ⟨g1, g2, g3⟩ := rowU_get l j y hy
    have key : ∀ i, i < n * 3 → w.cell? ⟨g, i, none⟩ = (rowU l)[i]? := by
      intro i hi
      rw [← ht, List.getElem?_take_of_lt (by omega)]
      simp only [World.cell?, hc]
      rw [Array.getElem?_toList]
      rfl
    exact ⟨g, rfl, hg, (Array.getElem?_eq_some_iff.1 hc).1, (key _ (by omega)).trans g1, (key _ (by omega)).trans g2, (key _ (by omega)).trans g3⟩
/-- Some uses more: the cells lie in a row from p on. -/
theorem push_u {w : World} {base n : Nat} {v : Value} {l m : List Pt} (h : w.ownsRow base 101 3 v n (rowU l)) (hb : base ≤ w.heap.size) (p : Addr) (c : Nat) (hm : ∀ j u, (rowU m)[j]? = some u → w.cell? (p.add j) = some u) (hn : n + m.length ≤ 16777216) :
    ∃ v' w', (Builtin.append_ #[98, 98] 98 #[v, .slice (some p) m.length c]).run Tryz.prog w = .ok v' w' ∧ w'.ownsRow base 101 3 v' (n + m.length) (rowU (l ++ m)) ∧ w.grownBy w' v.ownBlock := by
  obtain ⟨i0, hi, hz0, hz1, hz2⟩ := info_parts infoU
  obtain ⟨v', w', hrun, hown', hgrow, _⟩ := run_append_own (P := Tryz.prog) (w := w) base 98 98 101 i0 _ 3 40 Tryz.underlying98 hi hz0 hz1 hz2 rfl (by decide) v n (rowU l) h p m.length c (rowU m) (rowU_len m)
    hm (rowU_one m) (by unfold maxLen; omega) (by omega) hb
  rw [rowU_app]
  exact ⟨v', w', hrun, hown', hgrow⟩
/-- A row behind another. -/
theorem push_row_u {w : World} {base base2 n : Nat} {v u : Value} {l m : List Pt} (h : w.ownsRow base 101 3 v n (rowU l)) (hb : base ≤ w.heap.size) (h2 : w.ownsRow base2 101 3 u m.length (rowU m)) (hn : n + m.length ≤ 16777216) :
    ∃ v' w', (Builtin.append_ #[98, 98] 98 #[v, u]).run Tryz.prog w = .ok v' w' ∧ w'.ownsRow base 101 3 v' (n + m.length) (rowU (l ++ m)) ∧ w.grownBy w' v.ownBlock := by
  rcases h2.2 with ⟨rfl, e0⟩ | ⟨g, cap, cur, rfl, hg, hc, hnc, hcm, hs, ht⟩
  · have em : m = [] := List.eq_nil_of_length_eq_zero e0
    subst em
    obtain ⟨i0, hi, hz0, hz1, hz2⟩ := info_parts infoU
    obtain ⟨a, cap, rfl, -, h1, -⟩ := own_uses h
    have ht : Tryz.prog.underlying 98 = some (.slice 101) := Tryz.underlying98
    refine ⟨.slice a n cap, w, ?_, by simpa using h, ⟨rfl, rfl, rfl, Nat.le_refl _, fun _ _ _ => rfl⟩⟩
    cases a <;> simp [Builtin.append_, run_underlying ht, sizeOf, typeInfo, hi, Builtin.lenOf, Builtin.firstCells, h1, storeCells]
  · refine push_u h hb ⟨g, 0, none⟩ cap (fun j u hu => ?_) hn
    have hj : j < m.length * 3 := by have := (List.getElem?_eq_some_iff.1 hu).1; rwa [rowU_len] at this
    rw [← ht, List.getElem?_take_of_lt hj] at hu
    rw [add_none, Nat.zero_add]
    simp only [World.cell?, hc]
    rw [Array.getElem?_toList] at hu
    exact hu
theorem length_catU (x : Pt) : ∀ n, n ≤ x.n → (catN (fun i => usesP (x.c i)) n).length ≤ sumN (fun i => (x.c i).size) n
  | 0, _ => Nat.le_refl _
  | n + 1, h => by
    rw [catN, sumN, List.length_append]
    have h1 := length_catU x n (by omega)
    have h2 := length_uses (x.c n)
    omega
/-- What Uses hands back. -/
def UsesAns (x : Pt) (w : World) (e : Ending) (w' : World) : Prop := ∃ v, e = .returned v ∧ w'.ownsRow w.heap.size 101 3 v (usesP x).length (rowU (usesP x)) ∧ Below w.heap.size w w'
theorem own_low3 {w : World} {B B' e k n : Nat} {v : Value} {xs : List Value} (h : w.ownsRow B e k v n xs) (hB : B' ≤ B) : w.ownsRow B' e k v n xs := by
  refine ⟨h.1, ?_⟩
  rcases h.2 with h2 | ⟨g, cap, cur, e1, hg, h3⟩
  · exact .inl h2
  · exact .inr ⟨g, cap, cur, e1, Nat.le_trans hB hg, h3⟩
theorem sumN_upto {f : Nat → Nat} : ∀ {m n : Nat}, m ≤ n → sumN f m ≤ sumN f n
  | m, 0, h => by
    obtain rfl : m = 0 := by omega
    exact Nat.le_refl _
  | m, n + 1, h => by
    by_cases e : m = n + 1
    · rw [e]; exact Nat.le_refl _
    · have := sumN_upto (f := f) (show m ≤ n by omega)
      rw [sumN]; omega
set_option maxRecDepth 100000 in
set_option maxHeartbeats 8000000 in
theorem refUses_none (x : Pt) (w : World) (hX : IsP w x) (hsm : x.size ≤ 1048576) (ih : ∀ i, i < x.n → ∀ w : World, IsP w (x.c i) → Calls Tryz.prog 75 #[(x.c i).val] w (UsesAns (x.c i) w)) (hk : ¬ x.k = 1 ∧ ¬ x.k = 5 ∧ ¬ x.k = 6) :
    Calls Tryz.prog 75 #[x.val] w (UsesAns x w) := by
  obtain ⟨A, hA, hB, hs, hn⟩ := boxP_one x w
  obtain ⟨a0, a1, a2, a3, a4, a5⟩ := hn.at0
  have HB : Hid (Below w.heap.size w A) := hB
  have HN : Hid (NodeP A w.heap.size 0 x) := hn
  have HX : Hid (IsP w x) := hX
  have hlen := hX.len
  have HI : Hid (∀ i, i < x.n → ∀ W, Below w.heap.size w W → Calls Tryz.prog 75 #[(x.c i).val] W (UsesAns (x.c i) W)) := fun i hi W hW => by
    obtain ⟨_, _, _, _, h1⟩ := (hX.later hW).part hi
    exact ih i hi W h1
  have HLB : Hid (∀ k, k < x.n → (([] : List Pt) ++ catN (fun i => usesP (x.c i)) k).length + (usesP (x.c k)).length ≤ 16777216) := fun k hk => by
    have h1 := length_catU x (k + 1) (by omega)
    rw [catN, List.length_append] at h1
    have h2 : sumN (fun i => (x.c i).size) (k + 1) ≤ sumN (fun i => (x.c i).size) x.n := sumN_upto (by omega)
    have h3 := x.size_eq
    rw [List.length_append]
    simp only [List.length_nil]
    omega
  have k1 : (x.k == 1) = false := by simpa using hk.1
  have k5 : (x.k == 5) = false := by simpa using hk.2.1
  have k6 : (x.k == 6) = false := by simpa using hk.2.2
  have HU : Hid (usesP x = ([] : List Pt) ++ catN (fun i => usesP (x.c i)) x.n) := by show _ = _; rw [usesP_eq, if_neg (by simp [nmd, k1, k5, k6])]
  clear hB hn hX ih hs hsm hk
  go_enter Tryz.func75, Tryz.ntmps75
  go_wp2_with fail
  clear a0 a1 a2 a3 a4 a5 hA k1 k5 k6
  go_loopw [3, 4] (fun ov iv wr => ∃ (k : Nat) (v : Value), k ≤ x.n ∧ ov = v ∧ iv = .int .i64 k ∧ Hid (wr.ownsRow A.heap.size 101 3 v (([] : List Pt) ++ catN (fun i => usesP (x.c i)) k).length (rowU (([] : List Pt) ++ catN (fun i => usesP (x.c i)) k))) ∧ Below A.heap.size A wr) (fun _ iv _ => x.n - (intOf iv).toNat)
  case atStart => exact ⟨0, _, Nat.zero_le _, rfl, rfl, World.ownsRow_nil _ _ _ _, Below.refl _ _⟩
  case round =>
    obtain ⟨k, v, hk, rfl, rfl, HR, hBr⟩ := hrel
    have hw := HB.out.trans (hBr.mono HB.out.size)
    obtain ⟨c0, c1, c2, c3, c4, c5⟩ := (HN.out.later hBr).at0
    by_cases hkn : k < x.n
    · obtain ⟨b, o, ea, hn, -⟩ := (HX.out.later hw).part hkn
      rw [ea] at c5
      obtain ⟨d0, d1, d2, d3, d4, d5⟩ := hn
      have hc := HI.out k hkn wr hw
      have HKN : Hid (k < x.n) := hkn
      clear ea
      go_wp2_with (first
        | (go_at_call 75; refine hc.mono ?_; clear hc; rintro e w2 ⟨u, rfl, hu, hB2⟩; obtain ⟨v3, w3, hrun, hown3, hgr3⟩ := push_row_u (own_laterS HR.out hB2) (Nat.le_trans hBr.size hB2.size) hu (HLB.out k HKN.out); have HR3 : Hid (_ = _) := hrun; have HO3 : Hid _ := hown3; have HG3 : Hid (Below A.heap.size A w3) := (hBr.trans (hB2.mono hBr.size)).grown hgr3 (Nat.le_trans hBr.size hB2.size) (fun j e => (HR.out.lt j e).1); clear hrun hown3 hgr3)
        | (at_builtin; refine wpList_append_run rfl (.tmp 35) (.tmp 41) 98 rfl _ _ _ rfl rfl HR3.out ?_))
      have hnx : w3.ownsRow A.heap.size 101 3 v3 (([] : List Pt) ++ catN (fun i => usesP (x.c i)) (k + 1)).length (rowU (([] : List Pt) ++ catN (fun i => usesP (x.c i)) (k + 1))) := by
        have h1 := HO3.out
        rw [List.append_assoc] at h1
        rw [catN, ← List.append_assoc, List.length_append]
        rw [← List.append_assoc] at h1
        exact h1
      first
        | (refine ⟨⟨k + 1, v3, HKN.out, rfl, by simp, hnx, HG3.out⟩, ?_⟩
           have := HKN.out
           simp [intOf]
           omega)
        | (go_roundw
           case rel => exact ⟨k + 1, v3, HKN.out, rfl, by go_num, hnx, HG3.out⟩
           case measure => have := HKN.out; simp [intOf]; omega)
    · obtain rfl : k = x.n := by omega
      go_wp2
      go_ret
      refine ⟨_, rfl, ?_, hw⟩
      rw [HU.out]
      exact own_low3 HR.out (by have := HB.out.size; omega)
set_option maxRecDepth 100000 in
set_option maxHeartbeats 8000000 in
theorem refUses_1 (x : Pt) (w : World) (hX : IsP w x) (hsm : x.size ≤ 1048576) (ih : ∀ i, i < x.n → ∀ w : World, IsP w (x.c i) → Calls Tryz.prog 75 #[(x.c i).val] w (UsesAns (x.c i) w)) (hk : x.k = 1) :
    Calls Tryz.prog 75 #[x.val] w (UsesAns x w) := by
  obtain ⟨A, hA, hB, hs, hn⟩ := boxP_one x w
  obtain ⟨a0, a1, a2, a3, a4, a5⟩ := hn.at0
  have HB : Hid (Below w.heap.size w A) := hB
  have HN : Hid (NodeP A w.heap.size 0 x) := hn
  have HX : Hid (IsP w x) := hX
  have hlen := hX.len
  have HI : Hid (∀ i, i < x.n → ∀ W, Below w.heap.size w W → Calls Tryz.prog 75 #[(x.c i).val] W (UsesAns (x.c i) W)) := fun i hi W hW => by
    obtain ⟨_, _, _, _, h1⟩ := (hX.later hW).part hi
    exact ih i hi W h1
  have HLB : Hid (∀ k, k < x.n → ([x] ++ catN (fun i => usesP (x.c i)) k).length + (usesP (x.c k)).length ≤ 16777216) := fun k hk => by
    have h1 := length_catU x (k + 1) (by omega)
    rw [catN, List.length_append] at h1
    have h2 : sumN (fun i => (x.c i).size) (k + 1) ≤ sumN (fun i => (x.c i).size) x.n := sumN_upto (by omega)
    have h3 := x.size_eq
    rw [List.length_append]
    simp only [List.length_cons, List.length_nil]
    omega
  have k1 : (x.k == 1) = true := by simpa using hk
  have HU : Hid (usesP x = [x] ++ catN (fun i => usesP (x.c i)) x.n) := by show _ = _; rw [usesP_eq, if_pos (by simp [nmd, hk])]
  obtain ⟨v0, w0, hrun0, hown0, hgr0⟩ := push_u (l := []) (m := [x]) (w := A.alloc (.cells #[.string x.s, .string x.t, .int .i64 x.k] 101)) (World.ownsRow_nil _ A.heap.size _ _) (by simp) ⟨A.heap.size, 0, none⟩ 1 (fun j u hu => by
    have hb := alloc_new A (.cells #[.string x.s, .string x.t, .int .i64 x.k] 101)
    rw [add_none, Nat.zero_add]
    simp only [World.cell?, hb]
    simp only [rowU] at hu
    rw [← Array.getElem?_toList]
    exact hu) (by simp)
  have HR0 : Hid (_ = _) := hrun0
  have HO0 : Hid (w0.ownsRow A.heap.size 101 3 v0 ([x] ++ catN (fun i => usesP (x.c i)) 0).length (rowU ([x] ++ catN (fun i => usesP (x.c i)) 0))) := by
    have h1 := hown0
    simp only [List.nil_append, Nat.zero_add] at h1
    show w0.ownsRow _ _ _ _ _ _
    rw [catN, List.append_nil]
    exact h1
  have HG0 : Hid (Below A.heap.size A w0) := ((Below.refl _ A).alloc (Nat.le_refl _) _).grown hgr0 (by simp) (fun j e => by simp [Value.ownBlock] at e)
  clear hB hn hX ih hs hsm hk hrun0 hown0 hgr0
  go_enter Tryz.func75, Tryz.ntmps75
  go_wp2_with (first | (at_builtin; refine wpList_append_run rfl (.tmp 18) (.tmp 26) 98 rfl _ _ _ rfl rfl HR0.out ?_))
  clear a0 a1 a2 a3 a4 a5 hA k1
  go_loopw [3, 4] (fun ov iv wr => ∃ (k : Nat) (v : Value), k ≤ x.n ∧ ov = v ∧ iv = .int .i64 k ∧ Hid (wr.ownsRow A.heap.size 101 3 v ([x] ++ catN (fun i => usesP (x.c i)) k).length (rowU ([x] ++ catN (fun i => usesP (x.c i)) k))) ∧ Below A.heap.size A wr) (fun _ iv _ => x.n - (intOf iv).toNat)
  case atStart => exact ⟨0, _, Nat.zero_le _, rfl, rfl, HO0.out, HG0.out⟩
  case round =>
    obtain ⟨k, v, hk, rfl, rfl, HR, hBr⟩ := hrel
    have hw := HB.out.trans (hBr.mono HB.out.size)
    obtain ⟨c0, c1, c2, c3, c4, c5⟩ := (HN.out.later hBr).at0
    by_cases hkn : k < x.n
    · obtain ⟨b, o, ea, hn, -⟩ := (HX.out.later hw).part hkn
      rw [ea] at c5
      obtain ⟨d0, d1, d2, d3, d4, d5⟩ := hn
      have hc := HI.out k hkn wr hw
      have HKN : Hid (k < x.n) := hkn
      clear ea
      go_wp2_with (first
        | (go_at_call 75; refine hc.mono ?_; clear hc; rintro e w2 ⟨u, rfl, hu, hB2⟩; obtain ⟨v3, w3, hrun, hown3, hgr3⟩ := push_row_u (own_laterS HR.out hB2) (Nat.le_trans hBr.size hB2.size) hu (HLB.out k HKN.out); have HR3 : Hid (_ = _) := hrun; have HO3 : Hid _ := hown3; have HG3 : Hid (Below A.heap.size A w3) := (hBr.trans (hB2.mono hBr.size)).grown hgr3 (Nat.le_trans hBr.size hB2.size) (fun j e => (HR.out.lt j e).1); clear hrun hown3 hgr3)
        | (at_builtin; refine wpList_append_run rfl (.tmp 35) (.tmp 41) 98 rfl _ _ _ rfl rfl HR3.out ?_))
      have hnx : w3.ownsRow A.heap.size 101 3 v3 ([x] ++ catN (fun i => usesP (x.c i)) (k + 1)).length (rowU ([x] ++ catN (fun i => usesP (x.c i)) (k + 1))) := by
        have h1 := HO3.out
        rw [List.append_assoc] at h1
        rw [catN, ← List.append_assoc, List.length_append]
        rw [← List.append_assoc] at h1
        exact h1
      first
        | (refine ⟨⟨k + 1, v3, HKN.out, rfl, by simp, hnx, HG3.out⟩, ?_⟩
           have := HKN.out
           simp [intOf]
           omega)
        | (go_roundw
           case rel => exact ⟨k + 1, v3, HKN.out, rfl, by go_num, hnx, HG3.out⟩
           case measure => have := HKN.out; simp [intOf]; omega)
    · obtain rfl : k = x.n := by omega
      go_wp2
      go_ret
      refine ⟨_, rfl, ?_, hw⟩
      rw [HU.out]
      exact own_low3 HR.out (by have := HB.out.size; omega)
set_option maxRecDepth 100000 in
set_option maxHeartbeats 8000000 in
theorem refUses_5 (x : Pt) (w : World) (hX : IsP w x) (hsm : x.size ≤ 1048576) (ih : ∀ i, i < x.n → ∀ w : World, IsP w (x.c i) → Calls Tryz.prog 75 #[(x.c i).val] w (UsesAns (x.c i) w)) (hk : x.k = 5) :
    Calls Tryz.prog 75 #[x.val] w (UsesAns x w) := by
  obtain ⟨A, hA, hB, hs, hn⟩ := boxP_one x w
  obtain ⟨a0, a1, a2, a3, a4, a5⟩ := hn.at0
  have HB : Hid (Below w.heap.size w A) := hB
  have HN : Hid (NodeP A w.heap.size 0 x) := hn
  have HX : Hid (IsP w x) := hX
  have hlen := hX.len
  have HI : Hid (∀ i, i < x.n → ∀ W, Below w.heap.size w W → Calls Tryz.prog 75 #[(x.c i).val] W (UsesAns (x.c i) W)) := fun i hi W hW => by
    obtain ⟨_, _, _, _, h1⟩ := (hX.later hW).part hi
    exact ih i hi W h1
  have HLB : Hid (∀ k, k < x.n → ([x] ++ catN (fun i => usesP (x.c i)) k).length + (usesP (x.c k)).length ≤ 16777216) := fun k hk => by
    have h1 := length_catU x (k + 1) (by omega)
    rw [catN, List.length_append] at h1
    have h2 : sumN (fun i => (x.c i).size) (k + 1) ≤ sumN (fun i => (x.c i).size) x.n := sumN_upto (by omega)
    have h3 := x.size_eq
    rw [List.length_append]
    simp only [List.length_cons, List.length_nil]
    omega
  have k1 : (x.k == 1) = false := by simp [hk]
  have k5 : (x.k == 5) = true := by simpa using hk
  have HU : Hid (usesP x = [x] ++ catN (fun i => usesP (x.c i)) x.n) := by show _ = _; rw [usesP_eq, if_pos (by simp [nmd, hk])]
  obtain ⟨v0, w0, hrun0, hown0, hgr0⟩ := push_u (l := []) (m := [x]) (w := A.alloc (.cells #[.string x.s, .string x.t, .int .i64 x.k] 101)) (World.ownsRow_nil _ A.heap.size _ _) (by simp) ⟨A.heap.size, 0, none⟩ 1 (fun j u hu => by
    have hb := alloc_new A (.cells #[.string x.s, .string x.t, .int .i64 x.k] 101)
    rw [add_none, Nat.zero_add]
    simp only [World.cell?, hb]
    simp only [rowU] at hu
    rw [← Array.getElem?_toList]
    exact hu) (by simp)
  have HR0 : Hid (_ = _) := hrun0
  have HO0 : Hid (w0.ownsRow A.heap.size 101 3 v0 ([x] ++ catN (fun i => usesP (x.c i)) 0).length (rowU ([x] ++ catN (fun i => usesP (x.c i)) 0))) := by
    have h1 := hown0
    simp only [List.nil_append, Nat.zero_add] at h1
    show w0.ownsRow _ _ _ _ _ _
    rw [catN, List.append_nil]
    exact h1
  have HG0 : Hid (Below A.heap.size A w0) := ((Below.refl _ A).alloc (Nat.le_refl _) _).grown hgr0 (by simp) (fun j e => by simp [Value.ownBlock] at e)
  clear hB hn hX ih hs hsm hk hrun0 hown0 hgr0
  go_enter Tryz.func75, Tryz.ntmps75
  go_wp2_with (first | (at_builtin; refine wpList_append_run rfl (.tmp 18) (.tmp 26) 98 rfl _ _ _ rfl rfl HR0.out ?_))
  clear a0 a1 a2 a3 a4 a5 hA k1 k5
  go_loopw [3, 4] (fun ov iv wr => ∃ (k : Nat) (v : Value), k ≤ x.n ∧ ov = v ∧ iv = .int .i64 k ∧ Hid (wr.ownsRow A.heap.size 101 3 v ([x] ++ catN (fun i => usesP (x.c i)) k).length (rowU ([x] ++ catN (fun i => usesP (x.c i)) k))) ∧ Below A.heap.size A wr) (fun _ iv _ => x.n - (intOf iv).toNat)
  case atStart => exact ⟨0, _, Nat.zero_le _, rfl, rfl, HO0.out, HG0.out⟩
  case round =>
    obtain ⟨k, v, hk, rfl, rfl, HR, hBr⟩ := hrel
    have hw := HB.out.trans (hBr.mono HB.out.size)
    obtain ⟨c0, c1, c2, c3, c4, c5⟩ := (HN.out.later hBr).at0
    by_cases hkn : k < x.n
    · obtain ⟨b, o, ea, hn, -⟩ := (HX.out.later hw).part hkn
      rw [ea] at c5
      obtain ⟨d0, d1, d2, d3, d4, d5⟩ := hn
      have hc := HI.out k hkn wr hw
      have HKN : Hid (k < x.n) := hkn
      clear ea
      go_wp2_with (first
        | (go_at_call 75; refine hc.mono ?_; clear hc; rintro e w2 ⟨u, rfl, hu, hB2⟩; obtain ⟨v3, w3, hrun, hown3, hgr3⟩ := push_row_u (own_laterS HR.out hB2) (Nat.le_trans hBr.size hB2.size) hu (HLB.out k HKN.out); have HR3 : Hid (_ = _) := hrun; have HO3 : Hid _ := hown3; have HG3 : Hid (Below A.heap.size A w3) := (hBr.trans (hB2.mono hBr.size)).grown hgr3 (Nat.le_trans hBr.size hB2.size) (fun j e => (HR.out.lt j e).1); clear hrun hown3 hgr3)
        | (at_builtin; refine wpList_append_run rfl (.tmp 35) (.tmp 41) 98 rfl _ _ _ rfl rfl HR3.out ?_))
      have hnx : w3.ownsRow A.heap.size 101 3 v3 ([x] ++ catN (fun i => usesP (x.c i)) (k + 1)).length (rowU ([x] ++ catN (fun i => usesP (x.c i)) (k + 1))) := by
        have h1 := HO3.out
        rw [List.append_assoc] at h1
        rw [catN, ← List.append_assoc, List.length_append]
        rw [← List.append_assoc] at h1
        exact h1
      first
        | (refine ⟨⟨k + 1, v3, HKN.out, rfl, by simp, hnx, HG3.out⟩, ?_⟩
           have := HKN.out
           simp [intOf]
           omega)
        | (go_roundw
           case rel => exact ⟨k + 1, v3, HKN.out, rfl, by go_num, hnx, HG3.out⟩
           case measure => have := HKN.out; simp [intOf]; omega)
    · obtain rfl : k = x.n := by omega
      go_wp2
      go_ret
      refine ⟨_, rfl, ?_, hw⟩
      rw [HU.out]
      exact own_low3 HR.out (by have := HB.out.size; omega)
set_option maxRecDepth 100000 in
set_option maxHeartbeats 8000000 in
theorem refUses_6 (x : Pt) (w : World) (hX : IsP w x) (hsm : x.size ≤ 1048576) (ih : ∀ i, i < x.n → ∀ w : World, IsP w (x.c i) → Calls Tryz.prog 75 #[(x.c i).val] w (UsesAns (x.c i) w)) (hk : x.k = 6) :
    Calls Tryz.prog 75 #[x.val] w (UsesAns x w) := by
  obtain ⟨A, hA, hB, hs, hn⟩ := boxP_one x w
  obtain ⟨a0, a1, a2, a3, a4, a5⟩ := hn.at0
  have HB : Hid (Below w.heap.size w A) := hB
  have HN : Hid (NodeP A w.heap.size 0 x) := hn
  have HX : Hid (IsP w x) := hX
  have hlen := hX.len
  have HI : Hid (∀ i, i < x.n → ∀ W, Below w.heap.size w W → Calls Tryz.prog 75 #[(x.c i).val] W (UsesAns (x.c i) W)) := fun i hi W hW => by
    obtain ⟨_, _, _, _, h1⟩ := (hX.later hW).part hi
    exact ih i hi W h1
  have HLB : Hid (∀ k, k < x.n → ([x] ++ catN (fun i => usesP (x.c i)) k).length + (usesP (x.c k)).length ≤ 16777216) := fun k hk => by
    have h1 := length_catU x (k + 1) (by omega)
    rw [catN, List.length_append] at h1
    have h2 : sumN (fun i => (x.c i).size) (k + 1) ≤ sumN (fun i => (x.c i).size) x.n := sumN_upto (by omega)
    have h3 := x.size_eq
    rw [List.length_append]
    simp only [List.length_cons, List.length_nil]
    omega
  have k1 : (x.k == 1) = false := by simp [hk]
  have k5 : (x.k == 5) = false := by simp [hk]
  have k6 : (x.k == 6) = true := by simpa using hk
  have HU : Hid (usesP x = [x] ++ catN (fun i => usesP (x.c i)) x.n) := by show _ = _; rw [usesP_eq, if_pos (by simp [nmd, hk])]
  obtain ⟨v0, w0, hrun0, hown0, hgr0⟩ := push_u (l := []) (m := [x]) (w := A.alloc (.cells #[.string x.s, .string x.t, .int .i64 x.k] 101)) (World.ownsRow_nil _ A.heap.size _ _) (by simp) ⟨A.heap.size, 0, none⟩ 1 (fun j u hu => by
    have hb := alloc_new A (.cells #[.string x.s, .string x.t, .int .i64 x.k] 101)
    rw [add_none, Nat.zero_add]
    simp only [World.cell?, hb]
    simp only [rowU] at hu
    rw [← Array.getElem?_toList]
    exact hu) (by simp)
  have HR0 : Hid (_ = _) := hrun0
  have HO0 : Hid (w0.ownsRow A.heap.size 101 3 v0 ([x] ++ catN (fun i => usesP (x.c i)) 0).length (rowU ([x] ++ catN (fun i => usesP (x.c i)) 0))) := by
    have h1 := hown0
    simp only [List.nil_append, Nat.zero_add] at h1
    show w0.ownsRow _ _ _ _ _ _
    rw [catN, List.append_nil]
    exact h1
  have HG0 : Hid (Below A.heap.size A w0) := ((Below.refl _ A).alloc (Nat.le_refl _) _).grown hgr0 (by simp) (fun j e => by simp [Value.ownBlock] at e)
  clear hB hn hX ih hs hsm hk hrun0 hown0 hgr0
  go_enter Tryz.func75, Tryz.ntmps75
  go_wp2_with (first | (at_builtin; refine wpList_append_run rfl (.tmp 18) (.tmp 26) 98 rfl _ _ _ rfl rfl HR0.out ?_))
  clear a0 a1 a2 a3 a4 a5 hA k1 k5 k6
  go_loopw [3, 4] (fun ov iv wr => ∃ (k : Nat) (v : Value), k ≤ x.n ∧ ov = v ∧ iv = .int .i64 k ∧ Hid (wr.ownsRow A.heap.size 101 3 v ([x] ++ catN (fun i => usesP (x.c i)) k).length (rowU ([x] ++ catN (fun i => usesP (x.c i)) k))) ∧ Below A.heap.size A wr) (fun _ iv _ => x.n - (intOf iv).toNat)
  case atStart => exact ⟨0, _, Nat.zero_le _, rfl, rfl, HO0.out, HG0.out⟩
  case round =>
    obtain ⟨k, v, hk, rfl, rfl, HR, hBr⟩ := hrel
    have hw := HB.out.trans (hBr.mono HB.out.size)
    obtain ⟨c0, c1, c2, c3, c4, c5⟩ := (HN.out.later hBr).at0
    by_cases hkn : k < x.n
    · obtain ⟨b, o, ea, hn, -⟩ := (HX.out.later hw).part hkn
      rw [ea] at c5
      obtain ⟨d0, d1, d2, d3, d4, d5⟩ := hn
      have hc := HI.out k hkn wr hw
      have HKN : Hid (k < x.n) := hkn
      clear ea
      go_wp2_with (first
        | (go_at_call 75; refine hc.mono ?_; clear hc; rintro e w2 ⟨u, rfl, hu, hB2⟩; obtain ⟨v3, w3, hrun, hown3, hgr3⟩ := push_row_u (own_laterS HR.out hB2) (Nat.le_trans hBr.size hB2.size) hu (HLB.out k HKN.out); have HR3 : Hid (_ = _) := hrun; have HO3 : Hid _ := hown3; have HG3 : Hid (Below A.heap.size A w3) := (hBr.trans (hB2.mono hBr.size)).grown hgr3 (Nat.le_trans hBr.size hB2.size) (fun j e => (HR.out.lt j e).1); clear hrun hown3 hgr3)
        | (at_builtin; refine wpList_append_run rfl (.tmp 35) (.tmp 41) 98 rfl _ _ _ rfl rfl HR3.out ?_))
      have hnx : w3.ownsRow A.heap.size 101 3 v3 ([x] ++ catN (fun i => usesP (x.c i)) (k + 1)).length (rowU ([x] ++ catN (fun i => usesP (x.c i)) (k + 1))) := by
        have h1 := HO3.out
        rw [List.append_assoc] at h1
        rw [catN, ← List.append_assoc, List.length_append]
        rw [← List.append_assoc] at h1
        exact h1
      first
        | (refine ⟨⟨k + 1, v3, HKN.out, rfl, by simp, hnx, HG3.out⟩, ?_⟩
           have := HKN.out
           simp [intOf]
           omega)
        | (go_roundw
           case rel => exact ⟨k + 1, v3, HKN.out, rfl, by go_num, hnx, HG3.out⟩
           case measure => have := HKN.out; simp [intOf]; omega)
    · obtain rfl : k = x.n := by omega
      go_wp2
      go_ret
      refine ⟨_, rfl, ?_, hw⟩
      rw [HU.out]
      exact own_low3 HR.out (by have := HB.out.size; omega)
theorem refUses_any : ∀ (x : Pt) (w : World), IsP w x → x.size ≤ 1048576 → Calls Tryz.prog 75 #[x.val] w (UsesAns x w) := by
  refine Pt.ind fun x ih w hX hsm => ?_
  have ih' : ∀ i, i < x.n → ∀ w : World, IsP w (x.c i) → Calls Tryz.prog 75 #[(x.c i).val] w (UsesAns (x.c i) w) := fun i hi w' h => ih i hi w' h (by have := x.size_part i hi; omega)
  by_cases h1 : x.k = 1
  · exact refUses_1 x w hX hsm ih' h1
  · by_cases h5 : x.k = 5
    · exact refUses_5 x w hX hsm ih' h5
    · by_cases h6 : x.k = 6
      · exact refUses_6 x w hX hsm ih' h6
      · exact refUses_none x w hX hsm ih' ⟨h1, h5, h6⟩
end Go.Proofs.YtinnhaojmnmliaaGreat
namespace Go.Proofs.YtinnhaojmnmliaaGreat
open Go.RowKit

def f1 (l : List Pt) : List Value := l.map fun y => .string y.s
def f2 (l : List Pt) : List Value := l.map fun y => .string y.t
def f3 (l : List Pt) : List Value := l.map fun y => .int .i64 y.k
theorem vs1_all (l : List Pt) : vs1 l l.length = f1 l := by simp [vs1, f1]
theorem vs2_all (l : List Pt) : vs2 l l.length = f2 l := by simp [vs2, f2]
theorem vs3_all (l : List Pt) : vs3 l l.length = f3 l := by simp [vs3, f3]
section
variable {base : Nat} {W : World} {v1 v2 v3 : Value} {x1 x2 x3 : List Value}
theorem R3.later {W' : World} (h : R3 base W v1 v2 v3 x1 x2 x3) (hB : Below W.heap.size W W') : R3 base W' v1 v2 v3 x1 x2 x3 := ⟨own_laterS h.o1 hB, own_laterS h.o2 hB, own_laterS h.o3 hB, h.a12, h.a13, h.a23⟩
theorem R3.box (h : R3 base W v1 v2 v3 x1 x2 x3) (t : TypeId) (u : Value) : Bx (W.alloc (.cells #[u] t)) v1 v2 v3 W.heap.size t u :=
  ⟨Boxed.new W t u, fun e => by have := (h.o1.lt _ e).2; omega, fun e => by have := (h.o2.lt _ e).2; omega, fun e => by have := (h.o3.lt _ e).2; omega⟩
/-- A row of names, by index. -/
theorem own_f1 {l : List Pt} (h : W.ownsRow base 9 1 v1 (f1 l).length (f1 l)) : ∃ a cap, v1 = .slice a l.length cap ∧ l.length ≤ cap ∧ ∀ (j : Nat) (y : Pt), l[j]? = some y → ∃ g, a = some ⟨g, 0, none⟩ ∧ W.cell? ⟨g, j, none⟩ = some (.string y.s) := by
  have e0 : (f1 l).length = l.length := by simp [f1]
  rw [e0] at h
  rcases h.2 with ⟨rfl, e⟩ | ⟨g, cap, cur, rfl, hg, hc, hnc, hcm, hs, ht⟩
  · exact ⟨none, 0, by rw [e], by omega, fun j y hy => by have := (List.getElem?_eq_some_iff.1 hy).1; omega⟩
  · refine ⟨_, cap, rfl, hnc, fun j y hy => ⟨g, rfl, ?_⟩⟩
    have hj := (List.getElem?_eq_some_iff.1 hy).1
    simp only [World.cell?, hc]
    have h1 : (f1 l)[j]? = some (.string y.s) := by simp [f1, hy]
    rw [← ht, List.getElem?_take_of_lt (by omega), Array.getElem?_toList] at h1
    exact h1
end
/-- Has one of the first the name? -/
def hadB (l : List Pt) (s : ByteArray) (m : Nat) : Bool := (l.take m).any fun z => decide (z.s = s)
theorem hadB_next {l : List Pt} {s : ByteArray} {m : Nat} {y : Pt} (h : l[m]? = some y) : hadB l s (m + 1) = (hadB l s m || decide (y.s = s)) := by
  unfold hadB
  rw [List.take_add_one, h]
  simp [List.any_append]
theorem hadB_all (l : List Pt) (s : ByteArray) : hadB l s l.length = l.any fun z => decide (z.s = s) := by unfold hadB; rw [List.take_length]
set_option maxRecDepth 100000 in
set_option maxHeartbeats 16000000 in
theorem refVars12_any (x : Pt) (w : World) (hX : IsP w x) (hsm : x.size ≤ 1048576) :
    Calls Tryz.prog 45 #[x.val] w fun e w' => ∃ v1 v2 v3, e = .returned (.tuple #[v1, v2, v3]) ∧ R3 w.heap.size w' v1 v2 v3 (f1 (firstL (usesP x))) (f2 (firstL (usesP x))) (f3 (firstL (usesP x))) ∧ Below w.heap.size w w' := by
  obtain ⟨A, hA, hB, hs, hn⟩ := boxP_one x w
  obtain ⟨a0, a1, a2, a3, a4, a5⟩ := hn.at0
  have HBA : Hid (Below w.heap.size w A) := hB
  have C1 : Hid (Calls Tryz.prog 75 #[x.val] A (UsesAns x A)) := refUses_any x A (hX.later hB) hsm
  have hul : (usesP x).length ≤ 1048576 := by have := length_uses x; omega
  have HFL : Hid (∀ i, (firstL ((usesP x).take i)).length ≤ 1048576) := fun i => by
    have h1 := length_firstL ((usesP x).take i)
    rw [List.length_take] at h1
    omega
  clear hB hn hX hsm hs
  unfold UsesAns at C1
  generalize usesP x = U at C1 hul HFL ⊢
  go_enter Tryz.func45, Tryz.ntmps45
  go_wp2_with (first | (go_at_call 75; refine C1.out.mono ?_; rintro e w1 ⟨u, rfl, hu, hB1⟩; obtain ⟨au, capu, rfl, -, hcu, hcm, hus⟩ := own_uses hu; have HUS : Hid (∀ (j : Nat) (y : Pt), U[j]? = some y → _) := hus; clear hus hu))
  clear a0 a1 a2 a3 a4 a5 hA C1
  have HB1 : Hid (Below A.heap.size A w1) := hB1
  clear hB1
  go_loopw [5, 6, 7, 9] (fun u5 u6 u7 u9 wr => ∃ k : Nat, k ≤ U.length ∧ u9 = .int .i64 k ∧ Hid (R3 w1.heap.size wr u5 u6 u7 (f1 (firstL (U.take k))) (f2 (firstL (U.take k))) (f3 (firstL (U.take k)))) ∧ Below w1.heap.size w1 wr) (fun _ _ _ u9 _ => U.length - (intOf u9).toNat)
  case atStart => exact ⟨0, Nat.zero_le _, rfl, R3.nil _ _, Below.refl _ _⟩
  case round =>
    obtain ⟨k, hk, rfl, HR, hB⟩ := hrel
    by_cases hkn : k < U.length
    · obtain ⟨y, hy⟩ : ∃ y, U[k]? = some y := ⟨U[k]'hkn, List.getElem?_eq_getElem _⟩
      obtain ⟨g, rfl, hg1, hg2, us0, us1, us2⟩ := HUS.out k y hy
      have HKN : Hid (k < U.length) := hkn
      have HSN : Hid (firstL (U.take (k + 1)) = addU (firstL (U.take k)) y) := by show _ = _; rw [List.take_add_one, hy]; exact firstL_snoc _ _
      have hFl := HFL.out k
      obtain ⟨F, hF⟩ : ∃ F, F = firstL (U.take k) := ⟨_, rfl⟩
      rw [← hF] at HR HSN hFl
      obtain ⟨a5, cap5, rfl, hc5, hrow5⟩ := own_f1 HR.out.o1
      have HRW : Hid (∀ (j : Nat) (z : Pt), F[j]? = some z → ∃ g, a5 = some ⟨g, 0, none⟩ ∧ wr.cell? ⟨g, j, none⟩ = some (.string z.s)) := hrow5
      have HUC : Hid (w1.cell? ⟨g, k * 3, none⟩ = some (.string y.s) ∧ w1.cell? ⟨g, k * 3 + 1, none⟩ = some (.string y.t) ∧ w1.cell? ⟨g, k * 3 + 2, none⟩ = some (.int .i64 y.k)) := ⟨us0, us1, us2⟩
      clear hy us0 us1 us2 hF hrow5 hg1 hg2
      go_wp2_with fail
      have hBr := hB
      clear hB
      obtain ⟨w2, hw2⟩ : ∃ w2, w2 = wr := ⟨_, rfl⟩
      rw [← hw2] at hBr HR HRW ⊢
      clear hw2
      go_loopw [10, 11] (fun h m ws => ∃ j : Nat, j ≤ F.length ∧ h = .bool (hadB F y.s j) ∧ m = .int .i64 j ∧ Below w2.heap.size w2 ws) (fun _ m _ => F.length - (intOf m).toNat)
      case atStart => exact ⟨0, Nat.zero_le _, rfl, rfl, Below.refl _ _⟩
      case round =>
        obtain ⟨j, hj, rfl, rfl, hBs⟩ := hrel
        by_cases hjn : j < F.length
        · obtain ⟨z, hz⟩ : ∃ z, F[j]? = some z := ⟨F[j]'hjn, List.getElem?_eq_getElem _⟩
          obtain ⟨g5, rfl, c5⟩ := HRW.out j z hz
          have c5' := cell_later c5 hBs
          have hb1s := hBr.trans (hBs.mono hBr.size)
          have c6' := cell_later HUC.out.1 hb1s
          have HNX : Hid (hadB F y.s (j + 1) = (hadB F y.s j || decide (z.s = y.s))) := hadB_next hz
          have HJN : Hid (j < F.length) := hjn
          clear c5 hz hb1s
          cases hh : hadB F y.s j with
          | true =>
            rw [hh] at HNX
            clear hh c5' c6'
            go_wp2_with fail
            go_quiet (fail)
            go_wp2
            go_roundw
            case rel => exact ⟨j + 1, HJN.out, by rw [HNX.out]; rfl, by go_num, bd hBs _⟩
            case measure => have := HJN.out; simp [intOf]; omega
          | false =>
            rw [hh] at HNX
            clear hh
            by_cases e : z.s = y.s
            · have t := str_yes e
              rw [decide_eq_true e] at HNX
              clear e
              go_wp2_with fail
              go_quiet (fail)
              go_wp2
              go_roundw
              case rel => exact ⟨j + 1, HJN.out, by rw [HNX.out]; rfl, by go_num, bd hBs _⟩
              case measure => have := HJN.out; simp [intOf]; omega
            · have t := str_not e
              rw [decide_eq_false e] at HNX
              clear e
              go_wp2_with fail
              go_quiet (fail)
              go_wp2
              go_roundw
              case rel => exact ⟨j + 1, HJN.out, by rw [HNX.out]; rfl, by go_num, bd hBs _⟩
              case measure => have := HJN.out; simp [intOf]; omega
        · obtain rfl : j = F.length := by omega
          rw [hadB_all]
          have HRs : Hid (R3 w1.heap.size wr (.slice a5 F.length cap5) u6 u7 (f1 F) (f2 F) (f3 F)) := HR.out.later hBs
          have hb1s := hBr.trans (hBs.mono hBr.size)
          cases hh : F.any fun z => decide (z.s = y.s) with
          | true =>
            have HAD : Hid (firstL (U.take (k + 1)) = F) := by show _ = _; rw [HSN.out]; unfold addU; rw [if_pos hh]
            clear hh
            go_wp2
            go_roundw
            case rel => exact ⟨k + 1, HKN.out, by go_num, by show R3 _ _ _ _ _ _ _ _; rw [HAD.out]; exact HRs.out, hb1s⟩
            case measure => have := HKN.out; simp [intOf]; omega
          | false =>
            have HAD : Hid (firstL (U.take (k + 1)) = F ++ [y]) := by show _ = _; rw [HSN.out]; unfold addU; rw [if_neg (by rw [hh]; simp)]
            have hsz : w1.heap.size ≤ wr.heap.size := hb1s.size
            obtain ⟨z1, W1, r1, q1, b1, e1⟩ := (HRs.out.alloc (.cells #[.string y.s] 9)).app1 (by simp; omega) (by simp [f1]; omega) (HRs.out.box 9 (.string y.s))
            have hbW1 : Below w1.heap.size wr W1 := ((Below.refl _ wr).alloc hsz _).trans e1
            obtain ⟨z2, W2, r2, q2, b2, e2⟩ := (q1.alloc (.cells #[.string y.t] 9)).app2 (by simp; have := hbW1.size; omega) (by simp [f2]; omega) (q1.box 9 (.string y.t))
            have hbW2 : Below w1.heap.size wr W2 := hbW1.trans (((Below.refl _ W1).alloc (Nat.le_trans hsz hbW1.size) _).trans e2)
            obtain ⟨z3, W3, r3, q3, b3, e3⟩ := (q2.alloc (.cells #[.int .i64 y.k] 3)).app3 (by simp; have := hbW2.size; omega) (by simp [f3]; omega) (q2.box 3 (.int .i64 y.k))
            have hbW3 : Below w1.heap.size wr W3 := hbW2.trans (((Below.refl _ W2).alloc (Nat.le_trans hsz hbW2.size) _).trans e3)
            have HR1 : Hid (_ = _) := r1
            have HR2 : Hid (_ = _) := r2
            have HR3 : Hid (_ = _) := r3
            have cc0 := cell_later HUC.out.1 hb1s
            have cc1 := (hb1s.trans hbW1).cell (p := ⟨g, k * 3 + 1, none⟩) (World.block_lt_of_cell? w1 _ HUC.out.2.1) |>.trans HUC.out.2.1
            have cc2 := (hb1s.trans hbW2).cell (p := ⟨g, k * 3 + 2, none⟩) (World.block_lt_of_cell? w1 _ HUC.out.2.2) |>.trans HUC.out.2.2
            have HQ : Hid (R3 w1.heap.size W3 z1 z2 z3 (f1 (firstL (U.take (k + 1)))) (f2 (firstL (U.take (k + 1)))) (f3 (firstL (U.take (k + 1))))) := by
              show R3 _ _ _ _ _ _ _ _
              rw [HAD.out]
              unfold f1 f2 f3 at q3 ⊢
              simp only [List.map_append, List.map_cons, List.map_nil]
              exact q3
            have HBW : Hid (Below w1.heap.size w1 W3) := hb1s.trans hbW3
            clear hh r1 r2 r3 q1 q2 q3 b1 b2 b3 e1 e2 e3 hbW1 hbW2 hbW3 hsz
            go_wp2_with (first
              | (at_builtin; refine wpList_append_run rfl (.tmp 41) (.tmp 47) 42 rfl _ _ _ rfl rfl HR1.out ?_; clear HR1)
              | (at_builtin; refine wpList_append_run rfl (.tmp 49) (.tmp 55) 42 rfl _ _ _ rfl rfl HR2.out ?_; clear HR2)
              | (at_builtin; refine wpList_append_run rfl (.tmp 57) (.tmp 63) 61 rfl _ _ _ rfl rfl HR3.out ?_; clear HR3))
            go_roundw
            case rel => exact ⟨k + 1, HKN.out, by go_num, HQ.out, HBW.out⟩
            case measure => have := HKN.out; simp [intOf]; omega
    · obtain rfl : k = U.length := by omega
      go_wp2
      refine bodyPost_ret (results_tmp3 rfl _ _ _) rfl ?_
      have hR := HR.out
      rw [List.take_length] at hR
      exact ⟨_, _, _, rfl, ⟨own_low3 hR.o1 (Nat.le_trans HBA.out.size HB1.out.size), own_low3 hR.o2 (Nat.le_trans HBA.out.size HB1.out.size), own_low3 hR.o3 (Nat.le_trans HBA.out.size HB1.out.size), hR.a12, hR.a13, hR.a23⟩, HBA.out.trans ((HB1.out.trans (hB.mono HB1.out.size)).mono HBA.out.size)⟩
end Go.Proofs.YtinnhaojmnmliaaGreat
