/-
  The document's own Uses: a row of uses, of three cells each.
  A pattern with other names is as well made as it was: plain facts, of no function.
  Well made, as the document's own Made asks: plain facts, of no function.
  PatParts' walk: a part of a right pattern is right.
  Patterns that came in.
-/
import Derived.Test.YtfnfegcjgnbgbaaGreatDoorTPatKinds
import Derived.Test.YtfnfegcjgnbgbaaGreatDoorTPatFirsts
import Derived.Test.YtfnfegcjgnbgbaaGreatDoorTValOrder
import Derived.Test.YtfnfegcjgnbgbaaGreatDoorTPatCheck
import Derived.Test.YtfnfegcjgnbgbaaGreatDoorTPatFresh
import Derived.Test.YtfnfegcjgnbgbaaGreatDoorTTrees
import Derived.Test.YtfnfegcjgnbgbaaGreatDoorTAbNote
import Derived.Test.YtfnfegcjgnbgbaaGreatDoorTPatApart
import Derived.Test.YtfnfegcjgnbgbaaGreatDoorTPatMath
import Derived.Maps.AppendAt
import Derived.Deep.DeepCutAuto
import Derived.Deep.Strs
namespace Go.Proofs.YtfnfegcjgnbgbaaGreatDoor
open Go.RowKit

/-- The cells of some uses. -/
def rowU : List Pt → List Value
  | [] => []
  | y :: l => .string y.s :: .string y.t :: .int .i64 y.k :: rowU l
theorem rowU_len : ∀ l : List Pt, (rowU l).length = l.length * 3
  | [] => rfl
  | _ :: l => by simp only [rowU, List.length_cons, rowU_len l]; omega
theorem rowU_app : ∀ l m : List Pt, rowU (l ++ m) = rowU l ++ rowU m
  | [], _ => rfl
  | y :: l, m => by simp only [List.cons_append, rowU, rowU_app l m]
theorem rowU_one : ∀ l : List Pt, ∀ u ∈ rowU l, u.oneCell' = true
  | [], u, h => by simp [rowU] at h
  | y :: l, u, h => by
    simp only [rowU, List.mem_cons] at h
    rcases h with rfl | rfl | rfl | h
    · rfl
    · rfl
    · rfl
    · exact rowU_one l u h
theorem rowU_get : ∀ (l : List Pt) (j : Nat) (y : Pt), l[j]? = some y → (rowU l)[j * 3]? = some (.string y.s) ∧ (rowU l)[j * 3 + 1]? = some (.string y.t) ∧ (rowU l)[j * 3 + 2]? = some (.int .i64 y.k)
  | [], j, y, h => by simp at h
  | z :: l, 0, y, h => by simp at h; subst h; exact ⟨rfl, rfl, rfl⟩
  | z :: l, j + 1, y, h => by
    simp only [List.getElem?_cons_succ] at h
    have := rowU_get l j y h
    rw [show (j + 1) * 3 = j * 3 + 3 by omega]
    exact this
theorem infoU : (Tryz.prog.info? 118).map (fun i => (i.zero, i.size, i.bytes)) = some (some (.agg #[.string ⟨#[]⟩, .string ⟨#[]⟩, .int .i64 0]), 3, 40) := by kernel_rfl
/-- A row that a call owns, use by use. -/
theorem own_uses {w : World} {base n : Nat} {v : Value} {l : List Pt} (h : w.ownsRow base 118 3 v n (rowU l)) : ∃ a cap, v = .slice a n cap ∧ l.length = n ∧ n ≤ cap ∧ cap ≤ maxLen ∧
    ∀ (j : Nat) (y : Pt), l[j]? = some y → ∃ g, a = some ⟨g, 0, none⟩ ∧ base ≤ g ∧ g < w.heap.size ∧ w.cell? ⟨g, j * 3, none⟩ = some (.string y.s) ∧ w.cell? ⟨g, j * 3 + 1, none⟩ = some (.string y.t) ∧ w.cell? ⟨g, j * 3 + 2, none⟩ = some (.int .i64 y.k) := by
  have hl : l.length = n := by have := h.1; rw [rowU_len] at this; omega
  rcases h.2 with ⟨rfl, rfl⟩ | ⟨g, cap, cur, rfl, hg, hc, hnc, hcm, hs, ht⟩
  · exact ⟨none, 0, rfl, hl, Nat.le_refl _, Nat.zero_le _, fun j y hy => by have := (List.getElem?_eq_some_iff.1 hy).1; omega⟩
  · refine ⟨_, cap, rfl, hl, hnc, hcm, fun j y hy => ?_⟩
    have hj := (List.getElem?_eq_some_iff.1 hy).1
    obtain ⟨g1, g2, g3⟩ := rowU_get l j y hy
    have key : ∀ i, i < n * 3 → w.cell? ⟨g, i, none⟩ = (rowU l)[i]? := by
      intro i hi
      rw [← ht, List.getElem?_take_of_lt (by omega)]
      simp only [World.cell?, hc]
      rw [Array.getElem?_toList]
      rfl
    exact ⟨g, rfl, hg, (Array.getElem?_eq_some_iff.1 hc).1, (key _ (by omega)).trans g1, (key _ (by omega)).trans g2, (key _ (by omega)).trans g3⟩
/-- Some uses more: the cells lie in a row from p on. -/
theorem push_u {w : World} {base n : Nat} {v : Value} {l m : List Pt} (h : w.ownsRow base 118 3 v n (rowU l)) (hb : base ≤ w.heap.size) (p : Addr) (c : Nat) (hm : ∀ j u, (rowU m)[j]? = some u → w.cell? (p.add j) = some u) (hn : n + m.length ≤ 16777216) :
    ∃ v' w', (Builtin.append_ #[115, 115] 115 #[v, .slice (some p) m.length c]).run Tryz.prog w = .ok v' w' ∧ w'.ownsRow base 118 3 v' (n + m.length) (rowU (l ++ m)) ∧ w.grownBy w' v.ownBlock := by
  obtain ⟨i0, hi, hz0, hz1, hz2⟩ := info_parts infoU
  obtain ⟨v', w', hrun, hown', hgrow, _⟩ := run_append_own (P := Tryz.prog) (w := w) base 115 115 118 i0 _ 3 40 Tryz.underlying115 hi hz0 hz1 hz2 rfl (by decide) v n (rowU l) h p m.length c (rowU m) (rowU_len m)
    hm (rowU_one m) (by unfold maxLen; omega) (by omega) hb
  rw [rowU_app]
  exact ⟨v', w', hrun, hown', hgrow⟩
/-- A row behind another. -/
theorem push_row_u {w : World} {base base2 n : Nat} {v u : Value} {l m : List Pt} (h : w.ownsRow base 118 3 v n (rowU l)) (hb : base ≤ w.heap.size) (h2 : w.ownsRow base2 118 3 u m.length (rowU m)) (hn : n + m.length ≤ 16777216) :
    ∃ v' w', (Builtin.append_ #[115, 115] 115 #[v, u]).run Tryz.prog w = .ok v' w' ∧ w'.ownsRow base 118 3 v' (n + m.length) (rowU (l ++ m)) ∧ w.grownBy w' v.ownBlock := by
  rcases h2.2 with ⟨rfl, e0⟩ | ⟨g, cap, cur, rfl, hg, hc, hnc, hcm, hs, ht⟩
  · have em : m = [] := List.eq_nil_of_length_eq_zero e0
    subst em
    obtain ⟨i0, hi, hz0, hz1, hz2⟩ := info_parts infoU
    obtain ⟨a, cap, rfl, -, h1, -⟩ := own_uses h
    have ht : Tryz.prog.underlying 115 = some (.slice 118) := Tryz.underlying115
    refine ⟨.slice a n cap, w, ?_, by simpa using h, ⟨rfl, rfl, rfl, Nat.le_refl _, fun _ _ _ => rfl⟩⟩
    cases a <;> simp [Builtin.append_, run_underlying ht, sizeOf, typeInfo, hi, Builtin.lenOf, Builtin.firstCells, h1, storeCells]
  · refine push_u h hb ⟨g, 0, none⟩ cap (fun j u hu => ?_) hn
    have hj : j < m.length * 3 := by have := (List.getElem?_eq_some_iff.1 hu).1; rwa [rowU_len] at this
    rw [← ht, List.getElem?_take_of_lt hj] at hu
    rw [add_none, Nat.zero_add]
    simp only [World.cell?, hc]
    rw [Array.getElem?_toList] at hu
    exact hu
theorem length_catU (x : Pt) : ∀ n, n ≤ x.n → (catN (fun i => usesP (x.c i)) n).length ≤ sumN (fun i => (x.c i).size) n
  | 0, _ => Nat.le_refl _
  | n + 1, h => by
    rw [catN, sumN, List.length_append]
    have h1 := length_catU x n (by omega)
    have h2 := length_uses (x.c n)
    omega
/-- What Uses hands back. -/
def UsesAns (x : Pt) (w : World) (e : Ending) (w' : World) : Prop := ∃ v, e = .returned v ∧ w'.ownsRow w.heap.size 118 3 v (usesP x).length (rowU (usesP x)) ∧ Below w.heap.size w w'
theorem own_low3 {w : World} {B B' e k n : Nat} {v : Value} {xs : List Value} (h : w.ownsRow B e k v n xs) (hB : B' ≤ B) : w.ownsRow B' e k v n xs := by
  refine ⟨h.1, ?_⟩
  rcases h.2 with h2 | ⟨g, cap, cur, e1, hg, h3⟩
  · exact .inl h2
  · exact .inr ⟨g, cap, cur, e1, Nat.le_trans hB hg, h3⟩
theorem sumN_upto {f : Nat → Nat} : ∀ {m n : Nat}, m ≤ n → sumN f m ≤ sumN f n
  | m, 0, h => by
    obtain rfl : m = 0 := by omega
    exact Nat.le_refl _
  | m, n + 1, h => by
    by_cases e : m = n + 1
    · rw [e]; exact Nat.le_refl _
    · have := sumN_upto (f := f) (show m ≤ n by omega)
      rw [sumN]; omega
set_option maxRecDepth 100000 in
set_option maxHeartbeats 8000000 in
theorem refUses_none (x : Pt) (w : World) (hX : IsP w x) (hsm : x.size ≤ 1048576) (ih : ∀ i, i < x.n → ∀ w : World, IsP w (x.c i) → Calls Tryz.prog 86 #[(x.c i).val] w (UsesAns (x.c i) w)) (hk : ¬ x.k = 1 ∧ ¬ x.k = 5 ∧ ¬ x.k = 6) :
    Calls Tryz.prog 86 #[x.val] w (UsesAns x w) := by
  obtain ⟨A, hA, hB, hs, hn⟩ := boxP_one x w
  obtain ⟨a0, a1, a2, a3, a4, a5⟩ := hn.at0
  have HB : Hid (Below w.heap.size w A) := hB
  have HN : Hid (NodeP A w.heap.size 0 x) := hn
  have HX : Hid (IsP w x) := hX
  have hlen := hX.len
  have HI : Hid (∀ i, i < x.n → ∀ W, Below w.heap.size w W → Calls Tryz.prog 86 #[(x.c i).val] W (UsesAns (x.c i) W)) := fun i hi W hW => by
    obtain ⟨_, _, _, _, h1⟩ := (hX.later hW).part hi
    exact ih i hi W h1
  have HLB : Hid (∀ k, k < x.n → (([] : List Pt) ++ catN (fun i => usesP (x.c i)) k).length + (usesP (x.c k)).length ≤ 16777216) := fun k hk => by
    have h1 := length_catU x (k + 1) (by omega)
    rw [catN, List.length_append] at h1
    have h2 : sumN (fun i => (x.c i).size) (k + 1) ≤ sumN (fun i => (x.c i).size) x.n := sumN_upto (by omega)
    have h3 := x.size_eq
    rw [List.length_append]
    simp only [List.length_nil]
    omega
  have k1 : (x.k == 1) = false := by simpa using hk.1
  have k5 : (x.k == 5) = false := by simpa using hk.2.1
  have k6 : (x.k == 6) = false := by simpa using hk.2.2
  have HU : Hid (usesP x = ([] : List Pt) ++ catN (fun i => usesP (x.c i)) x.n) := by show _ = _; rw [usesP_eq, if_neg (by simp [nmd, k1, k5, k6])]
  clear hB hn hX ih hs hsm hk
  go_enter Tryz.func86, Tryz.ntmps86
  go_wp2_with fail
  clear a0 a1 a2 a3 a4 a5 hA k1 k5 k6
  go_loopw [3, 4] (fun ov iv wr => ∃ (k : Nat) (v : Value), k ≤ x.n ∧ ov = v ∧ iv = .int .i64 k ∧ Hid (wr.ownsRow A.heap.size 118 3 v (([] : List Pt) ++ catN (fun i => usesP (x.c i)) k).length (rowU (([] : List Pt) ++ catN (fun i => usesP (x.c i)) k))) ∧ Below A.heap.size A wr) (fun _ iv _ => x.n - (intOf iv).toNat)
  case atStart => exact ⟨0, _, Nat.zero_le _, rfl, rfl, World.ownsRow_nil _ _ _ _, Below.refl _ _⟩
  case round =>
    obtain ⟨k, v, hk, rfl, rfl, HR, hBr⟩ := hrel
    have hw := HB.out.trans (hBr.mono HB.out.size)
    obtain ⟨c0, c1, c2, c3, c4, c5⟩ := (HN.out.later hBr).at0
    by_cases hkn : k < x.n
    · obtain ⟨b, o, ea, hn, -⟩ := (HX.out.later hw).part hkn
      rw [ea] at c5
      obtain ⟨d0, d1, d2, d3, d4, d5⟩ := hn
      have hc := HI.out k hkn wr hw
      have HKN : Hid (k < x.n) := hkn
      clear ea
      go_wp2_with (first
        | (go_at_call 86; refine hc.mono ?_; clear hc; rintro e w2 ⟨u, rfl, hu, hB2⟩; obtain ⟨v3, w3, hrun, hown3, hgr3⟩ := push_row_u (own_laterS HR.out hB2) (Nat.le_trans hBr.size hB2.size) hu (HLB.out k HKN.out); have HR3 : Hid (_ = _) := hrun; have HO3 : Hid _ := hown3; have HG3 : Hid (Below A.heap.size A w3) := (hBr.trans (hB2.mono hBr.size)).grown hgr3 (Nat.le_trans hBr.size hB2.size) (fun j e => (HR.out.lt j e).1); clear hrun hown3 hgr3)
        | (at_builtin; refine wpList_append_run rfl (.tmp 35) (.tmp 41) 115 rfl _ _ _ rfl rfl HR3.out ?_))
      have hnx : w3.ownsRow A.heap.size 118 3 v3 (([] : List Pt) ++ catN (fun i => usesP (x.c i)) (k + 1)).length (rowU (([] : List Pt) ++ catN (fun i => usesP (x.c i)) (k + 1))) := by
        have h1 := HO3.out
        rw [List.append_assoc] at h1
        rw [catN, ← List.append_assoc, List.length_append]
        rw [← List.append_assoc] at h1
        exact h1
      first
        | (refine ⟨⟨k + 1, v3, HKN.out, rfl, by simp, hnx, HG3.out⟩, ?_⟩
           have := HKN.out
           simp [intOf]
           omega)
        | (go_roundw
           case rel => exact ⟨k + 1, v3, HKN.out, rfl, by go_num, hnx, HG3.out⟩
           case measure => have := HKN.out; simp [intOf]; omega)
    · obtain rfl : k = x.n := by omega
      go_wp2
      go_ret
      refine ⟨_, rfl, ?_, hw⟩
      rw [HU.out]
      exact own_low3 HR.out (by have := HB.out.size; omega)
set_option maxRecDepth 100000 in
set_option maxHeartbeats 8000000 in
theorem refUses_1 (x : Pt) (w : World) (hX : IsP w x) (hsm : x.size ≤ 1048576) (ih : ∀ i, i < x.n → ∀ w : World, IsP w (x.c i) → Calls Tryz.prog 86 #[(x.c i).val] w (UsesAns (x.c i) w)) (hk : x.k = 1) :
    Calls Tryz.prog 86 #[x.val] w (UsesAns x w) := by
  obtain ⟨A, hA, hB, hs, hn⟩ := boxP_one x w
  obtain ⟨a0, a1, a2, a3, a4, a5⟩ := hn.at0
  have HB : Hid (Below w.heap.size w A) := hB
  have HN : Hid (NodeP A w.heap.size 0 x) := hn
  have HX : Hid (IsP w x) := hX
  have hlen := hX.len
  have HI : Hid (∀ i, i < x.n → ∀ W, Below w.heap.size w W → Calls Tryz.prog 86 #[(x.c i).val] W (UsesAns (x.c i) W)) := fun i hi W hW => by
    obtain ⟨_, _, _, _, h1⟩ := (hX.later hW).part hi
    exact ih i hi W h1
  have HLB : Hid (∀ k, k < x.n → ([x] ++ catN (fun i => usesP (x.c i)) k).length + (usesP (x.c k)).length ≤ 16777216) := fun k hk => by
    have h1 := length_catU x (k + 1) (by omega)
    rw [catN, List.length_append] at h1
    have h2 : sumN (fun i => (x.c i).size) (k + 1) ≤ sumN (fun i => (x.c i).size) x.n := sumN_upto (by omega)
    have h3 := x.size_eq
    rw [List.length_append]
    simp only [List.length_cons, List.length_nil]
    omega
  have k1 : (x.k == 1) = true := by simpa using hk
  have HU : Hid (usesP x = [x] ++ catN (fun i => usesP (x.c i)) x.n) := by show _ = _; rw [usesP_eq, if_pos (by simp [nmd, hk])]
  obtain ⟨v0, w0, hrun0, hown0, hgr0⟩ := push_u (l := []) (m := [x]) (w := A.alloc (.cells #[.string x.s, .string x.t, .int .i64 x.k] 118)) (World.ownsRow_nil _ A.heap.size _ _) (by simp) ⟨A.heap.size, 0, none⟩ 1 (fun j u hu => by
    have hb := alloc_new A (.cells #[.string x.s, .string x.t, .int .i64 x.k] 118)
    rw [add_none, Nat.zero_add]
    simp only [World.cell?, hb]
    simp only [rowU] at hu
    rw [← Array.getElem?_toList]
    exact hu) (by simp)
  have HR0 : Hid (_ = _) := hrun0
  have HO0 : Hid (w0.ownsRow A.heap.size 118 3 v0 ([x] ++ catN (fun i => usesP (x.c i)) 0).length (rowU ([x] ++ catN (fun i => usesP (x.c i)) 0))) := by
    have h1 := hown0
    simp only [List.nil_append, Nat.zero_add] at h1
    show w0.ownsRow _ _ _ _ _ _
    rw [catN, List.append_nil]
    exact h1
  have HG0 : Hid (Below A.heap.size A w0) := ((Below.refl _ A).alloc (Nat.le_refl _) _).grown hgr0 (by simp) (fun j e => by simp [Value.ownBlock] at e)
  clear hB hn hX ih hs hsm hk hrun0 hown0 hgr0
  go_enter Tryz.func86, Tryz.ntmps86
  go_wp2_with (first | (at_builtin; refine wpList_append_run rfl (.tmp 18) (.tmp 26) 115 rfl _ _ _ rfl rfl HR0.out ?_))
  clear a0 a1 a2 a3 a4 a5 hA k1
  go_loopw [3, 4] (fun ov iv wr => ∃ (k : Nat) (v : Value), k ≤ x.n ∧ ov = v ∧ iv = .int .i64 k ∧ Hid (wr.ownsRow A.heap.size 118 3 v ([x] ++ catN (fun i => usesP (x.c i)) k).length (rowU ([x] ++ catN (fun i => usesP (x.c i)) k))) ∧ Below A.heap.size A wr) (fun _ iv _ => x.n - (intOf iv).toNat)
  case atStart => exact ⟨0, _, Nat.zero_le _, rfl, rfl, HO0.out, HG0.out⟩
  case round =>
    obtain ⟨k, v, hk, rfl, rfl, HR, hBr⟩ := hrel
    have hw := HB.out.trans (hBr.mono HB.out.size)
    obtain ⟨c0, c1, c2, c3, c4, c5⟩ := (HN.out.later hBr).at0
    by_cases hkn : k < x.n
    · obtain ⟨b, o, ea, hn, -⟩ := (HX.out.later hw).part hkn
      rw [ea] at c5
      obtain ⟨d0, d1, d2, d3, d4, d5⟩ := hn
      have hc := HI.out k hkn wr hw
      have HKN : Hid (k < x.n) := hkn
      clear ea
      go_wp2_with (first
        | (go_at_call 86; refine hc.mono ?_; clear hc; rintro e w2 ⟨u, rfl, hu, hB2⟩; obtain ⟨v3, w3, hrun, hown3, hgr3⟩ := push_row_u (own_laterS HR.out hB2) (Nat.le_trans hBr.size hB2.size) hu (HLB.out k HKN.out); have HR3 : Hid (_ = _) := hrun; have HO3 : Hid _ := hown3; have HG3 : Hid (Below A.heap.size A w3) := (hBr.trans (hB2.mono hBr.size)).grown hgr3 (Nat.le_trans hBr.size hB2.size) (fun j e => (HR.out.lt j e).1); clear hrun hown3 hgr3)
        | (at_builtin; refine wpList_append_run rfl (.tmp 35) (.tmp 41) 115 rfl _ _ _ rfl rfl HR3.out ?_))
      have hnx : w3.ownsRow A.heap.size 118 3 v3 ([x] ++ catN (fun i => usesP (x.c i)) (k + 1)).length (rowU ([x] ++ catN (fun i => usesP (x.c i)) (k + 1))) := by
        have h1 := HO3.out
        rw [List.append_assoc] at h1
        rw [catN, ← List.append_assoc, List.length_append]
        rw [← List.append_assoc] at h1
        exact h1
      first
        | (refine ⟨⟨k + 1, v3, HKN.out, rfl, by simp, hnx, HG3.out⟩, ?_⟩
           have := HKN.out
           simp [intOf]
           omega)
        | (go_roundw
           case rel => exact ⟨k + 1, v3, HKN.out, rfl, by go_num, hnx, HG3.out⟩
           case measure => have := HKN.out; simp [intOf]; omega)
    · obtain rfl : k = x.n := by omega
      go_wp2
      go_ret
      refine ⟨_, rfl, ?_, hw⟩
      rw [HU.out]
      exact own_low3 HR.out (by have := HB.out.size; omega)
set_option maxRecDepth 100000 in
set_option maxHeartbeats 8000000 in
theorem refUses_5 (x : Pt) (w : World) (hX : IsP w x) (hsm : x.size ≤ 1048576) (ih : ∀ i, i < x.n → ∀ w : World, IsP w (x.c i) → Calls Tryz.prog 86 #[(x.c i).val] w (UsesAns (x.c i) w)) (hk : x.k = 5) :
    Calls Tryz.prog 86 #[x.val] w (UsesAns x w) := by
  obtain ⟨A, hA, hB, hs, hn⟩ := boxP_one x w
  obtain ⟨a0, a1, a2, a3, a4, a5⟩ := hn.at0
  have HB : Hid (Below w.heap.size w A) := hB
  have HN : Hid (NodeP A w.heap.size 0 x) := hn
  have HX : Hid (IsP w x) := hX
  have hlen := hX.len
  have HI : Hid (∀ i, i < x.n → ∀ W, Below w.heap.size w W → Calls Tryz.prog 86 #[(x.c i).val] W (UsesAns (x.c i) W)) := fun i hi W hW => by
    obtain ⟨_, _, _, _, h1⟩ := (hX.later hW).part hi
    exact ih i hi W h1
  have HLB : Hid (∀ k, k < x.n → ([x] ++ catN (fun i => usesP (x.c i)) k).length + (usesP (x.c k)).length ≤ 16777216) := fun k hk => by
    have h1 := length_catU x (k + 1) (by omega)
    rw [catN, List.length_append] at h1
    have h2 : sumN (fun i => (x.c i).size) (k + 1) ≤ sumN (fun i => (x.c i).size) x.n := sumN_upto (by omega)
    have h3 := x.size_eq
    rw [List.length_append]
    simp only [List.length_cons, List.length_nil]
    omega
  have k1 : (x.k == 1) = false := by simp [hk]
  have k5 : (x.k == 5) = true := by simpa using hk
  have HU : Hid (usesP x = [x] ++ catN (fun i => usesP (x.c i)) x.n) := by show _ = _; rw [usesP_eq, if_pos (by simp [nmd, hk])]
  obtain ⟨v0, w0, hrun0, hown0, hgr0⟩ := push_u (l := []) (m := [x]) (w := A.alloc (.cells #[.string x.s, .string x.t, .int .i64 x.k] 118)) (World.ownsRow_nil _ A.heap.size _ _) (by simp) ⟨A.heap.size, 0, none⟩ 1 (fun j u hu => by
    have hb := alloc_new A (.cells #[.string x.s, .string x.t, .int .i64 x.k] 118)
    rw [add_none, Nat.zero_add]
    simp only [World.cell?, hb]
    simp only [rowU] at hu
    rw [← Array.getElem?_toList]
    exact hu) (by simp)
  have HR0 : Hid (_ = _) := hrun0
  have HO0 : Hid (w0.ownsRow A.heap.size 118 3 v0 ([x] ++ catN (fun i => usesP (x.c i)) 0).length (rowU ([x] ++ catN (fun i => usesP (x.c i)) 0))) := by
    have h1 := hown0
    simp only [List.nil_append, Nat.zero_add] at h1
    show w0.ownsRow _ _ _ _ _ _
    rw [catN, List.append_nil]
    exact h1
  have HG0 : Hid (Below A.heap.size A w0) := ((Below.refl _ A).alloc (Nat.le_refl _) _).grown hgr0 (by simp) (fun j e => by simp [Value.ownBlock] at e)
  clear hB hn hX ih hs hsm hk hrun0 hown0 hgr0
  go_enter Tryz.func86, Tryz.ntmps86
  go_wp2_with (first | (at_builtin; refine wpList_append_run rfl (.tmp 18) (.tmp 26) 115 rfl _ _ _ rfl rfl HR0.out ?_))
  clear a0 a1 a2 a3 a4 a5 hA k1 k5
  go_loopw [3, 4] (fun ov iv wr => ∃ (k : Nat) (v : Value), k ≤ x.n ∧ ov = v ∧ iv = .int .i64 k ∧ Hid (wr.ownsRow A.heap.size 118 3 v ([x] ++ catN (fun i => usesP (x.c i)) k).length (rowU ([x] ++ catN (fun i => usesP (x.c i)) k))) ∧ Below A.heap.size A wr) (fun _ iv _ => x.n - (intOf iv).toNat)
  case atStart => exact ⟨0, _, Nat.zero_le _, rfl, rfl, HO0.out, HG0.out⟩
  case round =>
    obtain ⟨k, v, hk, rfl, rfl, HR, hBr⟩ := hrel
    have hw := HB.out.trans (hBr.mono HB.out.size)
    obtain ⟨c0, c1, c2, c3, c4, c5⟩ := (HN.out.later hBr).at0
    by_cases hkn : k < x.n
    · obtain ⟨b, o, ea, hn, -⟩ := (HX.out.later hw).part hkn
      rw [ea] at c5
      obtain ⟨d0, d1, d2, d3, d4, d5⟩ := hn
      have hc := HI.out k hkn wr hw
      have HKN : Hid (k < x.n) := hkn
      clear ea
      go_wp2_with (first
        | (go_at_call 86; refine hc.mono ?_; clear hc; rintro e w2 ⟨u, rfl, hu, hB2⟩; obtain ⟨v3, w3, hrun, hown3, hgr3⟩ := push_row_u (own_laterS HR.out hB2) (Nat.le_trans hBr.size hB2.size) hu (HLB.out k HKN.out); have HR3 : Hid (_ = _) := hrun; have HO3 : Hid _ := hown3; have HG3 : Hid (Below A.heap.size A w3) := (hBr.trans (hB2.mono hBr.size)).grown hgr3 (Nat.le_trans hBr.size hB2.size) (fun j e => (HR.out.lt j e).1); clear hrun hown3 hgr3)
        | (at_builtin; refine wpList_append_run rfl (.tmp 35) (.tmp 41) 115 rfl _ _ _ rfl rfl HR3.out ?_))
      have hnx : w3.ownsRow A.heap.size 118 3 v3 ([x] ++ catN (fun i => usesP (x.c i)) (k + 1)).length (rowU ([x] ++ catN (fun i => usesP (x.c i)) (k + 1))) := by
        have h1 := HO3.out
        rw [List.append_assoc] at h1
        rw [catN, ← List.append_assoc, List.length_append]
        rw [← List.append_assoc] at h1
        exact h1
      first
        | (refine ⟨⟨k + 1, v3, HKN.out, rfl, by simp, hnx, HG3.out⟩, ?_⟩
           have := HKN.out
           simp [intOf]
           omega)
        | (go_roundw
           case rel => exact ⟨k + 1, v3, HKN.out, rfl, by go_num, hnx, HG3.out⟩
           case measure => have := HKN.out; simp [intOf]; omega)
    · obtain rfl : k = x.n := by omega
      go_wp2
      go_ret
      refine ⟨_, rfl, ?_, hw⟩
      rw [HU.out]
      exact own_low3 HR.out (by have := HB.out.size; omega)
set_option maxRecDepth 100000 in
set_option maxHeartbeats 8000000 in
theorem refUses_6 (x : Pt) (w : World) (hX : IsP w x) (hsm : x.size ≤ 1048576) (ih : ∀ i, i < x.n → ∀ w : World, IsP w (x.c i) → Calls Tryz.prog 86 #[(x.c i).val] w (UsesAns (x.c i) w)) (hk : x.k = 6) :
    Calls Tryz.prog 86 #[x.val] w (UsesAns x w) := by
  obtain ⟨A, hA, hB, hs, hn⟩ := boxP_one x w
  obtain ⟨a0, a1, a2, a3, a4, a5⟩ := hn.at0
  have HB : Hid (Below w.heap.size w A) := hB
  have HN : Hid (NodeP A w.heap.size 0 x) := hn
  have HX : Hid (IsP w x) := hX
  have hlen := hX.len
  have HI : Hid (∀ i, i < x.n → ∀ W, Below w.heap.size w W → Calls Tryz.prog 86 #[(x.c i).val] W (UsesAns (x.c i) W)) := fun i hi W hW => by
    obtain ⟨_, _, _, _, h1⟩ := (hX.later hW).part hi
    exact ih i hi W h1
  have HLB : Hid (∀ k, k < x.n → ([x] ++ catN (fun i => usesP (x.c i)) k).length + (usesP (x.c k)).length ≤ 16777216) := fun k hk => by
    have h1 := length_catU x (k + 1) (by omega)
    rw [catN, List.length_append] at h1
    have h2 : sumN (fun i => (x.c i).size) (k + 1) ≤ sumN (fun i => (x.c i).size) x.n := sumN_upto (by omega)
    have h3 := x.size_eq
    rw [List.length_append]
    simp only [List.length_cons, List.length_nil]
    omega
  have k1 : (x.k == 1) = false := by simp [hk]
  have k5 : (x.k == 5) = false := by simp [hk]
  have k6 : (x.k == 6) = true := by simpa using hk
  have HU : Hid (usesP x = [x] ++ catN (fun i => usesP (x.c i)) x.n) := by show _ = _; rw [usesP_eq, if_pos (by simp [nmd, hk])]
  obtain ⟨v0, w0, hrun0, hown0, hgr0⟩ := push_u (l := []) (m := [x]) (w := A.alloc (.cells #[.string x.s, .string x.t, .int .i64 x.k] 118)) (World.ownsRow_nil _ A.heap.size _ _) (by simp) ⟨A.heap.size, 0, none⟩ 1 (fun j u hu => by
    have hb := alloc_new A (.cells #[.string x.s, .string x.t, .int .i64 x.k] 118)
    rw [add_none, Nat.zero_add]
    simp only [World.cell?, hb]
    simp only [rowU] at hu
    rw [← Array.getElem?_toList]
    exact hu) (by simp)
  have HR0 : Hid (_ = _) := hrun0
  have HO0 : Hid (w0.ownsRow A.heap.size 118 3 v0 ([x] ++ catN (fun i => usesP (x.c i)) 0).length (rowU ([x] ++ catN (fun i => usesP (x.c i)) 0))) := by
    have h1 := hown0
    simp only [List.nil_append, Nat.zero_add] at h1
    show w0.ownsRow _ _ _ _ _ _
    rw [catN, List.append_nil]
    exact h1
  have HG0 : Hid (Below A.heap.size A w0) := ((Below.refl _ A).alloc (Nat.le_refl _) _).grown hgr0 (by simp) (fun j e => by simp [Value.ownBlock] at e)
  clear hB hn hX ih hs hsm hk hrun0 hown0 hgr0
  go_enter Tryz.func86, Tryz.ntmps86
  go_wp2_with (first | (at_builtin; refine wpList_append_run rfl (.tmp 18) (.tmp 26) 115 rfl _ _ _ rfl rfl HR0.out ?_))
  clear a0 a1 a2 a3 a4 a5 hA k1 k5 k6
  go_loopw [3, 4] (fun ov iv wr => ∃ (k : Nat) (v : Value), k ≤ x.n ∧ ov = v ∧ iv = .int .i64 k ∧ Hid (wr.ownsRow A.heap.size 118 3 v ([x] ++ catN (fun i => usesP (x.c i)) k).length (rowU ([x] ++ catN (fun i => usesP (x.c i)) k))) ∧ Below A.heap.size A wr) (fun _ iv _ => x.n - (intOf iv).toNat)
  case atStart => exact ⟨0, _, Nat.zero_le _, rfl, rfl, HO0.out, HG0.out⟩
  case round =>
    obtain ⟨k, v, hk, rfl, rfl, HR, hBr⟩ := hrel
    have hw := HB.out.trans (hBr.mono HB.out.size)
    obtain ⟨c0, c1, c2, c3, c4, c5⟩ := (HN.out.later hBr).at0
    by_cases hkn : k < x.n
    · obtain ⟨b, o, ea, hn, -⟩ := (HX.out.later hw).part hkn
      rw [ea] at c5
      obtain ⟨d0, d1, d2, d3, d4, d5⟩ := hn
      have hc := HI.out k hkn wr hw
      have HKN : Hid (k < x.n) := hkn
      clear ea
      go_wp2_with (first
        | (go_at_call 86; refine hc.mono ?_; clear hc; rintro e w2 ⟨u, rfl, hu, hB2⟩; obtain ⟨v3, w3, hrun, hown3, hgr3⟩ := push_row_u (own_laterS HR.out hB2) (Nat.le_trans hBr.size hB2.size) hu (HLB.out k HKN.out); have HR3 : Hid (_ = _) := hrun; have HO3 : Hid _ := hown3; have HG3 : Hid (Below A.heap.size A w3) := (hBr.trans (hB2.mono hBr.size)).grown hgr3 (Nat.le_trans hBr.size hB2.size) (fun j e => (HR.out.lt j e).1); clear hrun hown3 hgr3)
        | (at_builtin; refine wpList_append_run rfl (.tmp 35) (.tmp 41) 115 rfl _ _ _ rfl rfl HR3.out ?_))
      have hnx : w3.ownsRow A.heap.size 118 3 v3 ([x] ++ catN (fun i => usesP (x.c i)) (k + 1)).length (rowU ([x] ++ catN (fun i => usesP (x.c i)) (k + 1))) := by
        have h1 := HO3.out
        rw [List.append_assoc] at h1
        rw [catN, ← List.append_assoc, List.length_append]
        rw [← List.append_assoc] at h1
        exact h1
      first
        | (refine ⟨⟨k + 1, v3, HKN.out, rfl, by simp, hnx, HG3.out⟩, ?_⟩
           have := HKN.out
           simp [intOf]
           omega)
        | (go_roundw
           case rel => exact ⟨k + 1, v3, HKN.out, rfl, by go_num, hnx, HG3.out⟩
           case measure => have := HKN.out; simp [intOf]; omega)
    · obtain rfl : k = x.n := by omega
      go_wp2
      go_ret
      refine ⟨_, rfl, ?_, hw⟩
      rw [HU.out]
      exact own_low3 HR.out (by have := HB.out.size; omega)
theorem refUses_any : ∀ (x : Pt) (w : World), IsP w x → x.size ≤ 1048576 → Calls Tryz.prog 86 #[x.val] w (UsesAns x w) := by
  refine Pt.ind fun x ih w hX hsm => ?_
  have ih' : ∀ i, i < x.n → ∀ w : World, IsP w (x.c i) → Calls Tryz.prog 86 #[(x.c i).val] w (UsesAns (x.c i) w) := fun i hi w' h => ih i hi w' h (by have := x.size_part i hi; omega)
  by_cases h1 : x.k = 1
  · exact refUses_1 x w hX hsm ih' h1
  · by_cases h5 : x.k = 5
    · exact refUses_5 x w hX hsm ih' h5
    · by_cases h6 : x.k = 6
      · exact refUses_6 x w hX hsm ih' h6
      · exact refUses_none x w hX hsm ih' ⟨h1, h5, h6⟩
end Go.Proofs.YtfnfegcjgnbgbaaGreatDoor
namespace Go.Proofs.YtfnfegcjgnbgbaaGreatDoor
open Go.RowKit

theorem uses_part {x y : Pt} {i : Nat} (hi : i < x.n) (h : y ∈ usesP (x.c i)) : y ∈ usesP x := by
  rw [usesP_eq]
  exact List.mem_append_right _ (mem_catN.2 ⟨i, hi, h⟩)
end Go.Proofs.YtfnfegcjgnbgbaaGreatDoor
namespace Go.Proofs.YtfnfegcjgnbgbaaGreatDoor
open Go.RowKit

/-- Do the PNots stand where they may? -/
def notsP : Pt → Bool → Bool
  | .nil, _ => true
  | .mk k s t lo hi a n cap c, whole => allN (fun i => if (c i).k = 6 then notB (.mk k s t lo hi a n cap c) whole i else notsP (c i) false) n
theorem notsP_eq (x : Pt) (whole : Bool) : notsP x whole = allN (fun i => if (x.c i).k = 6 then notB x whole i else notsP (x.c i) false) x.n := by cases x <;> rfl
/-- Does each Var stand once, but in parts of a POr? -/
def OnceP : Pt → Prop
  | .nil => True
  | .mk k _ _ _ _ _ n _ c => ∀ i, i < n → OnceP (c i) ∧ ∀ j, j < i → ∀ a ∈ usesP (c i), ∀ b ∈ usesP (c j), a.s = b.s → k = 4 ∧ Agree a b
theorem onceP_eq (x : Pt) : OnceP x ↔ ∀ i, i < x.n → OnceP (x.c i) ∧ ∀ j, j < i → ∀ a ∈ usesP (x.c i), ∀ b ∈ usesP (x.c j), a.s = b.s → x.k = 4 ∧ Agree a b := by
  cases x with
  | nil => exact ⟨fun _ i hi => absurd hi (Nat.not_lt_zero _), fun _ => trivial⟩
  | mk => exact Iff.rfl
theorem Agree.symm {a b : Pt} (h : Agree a b) : Agree b a := ⟨h.1.symm, h.2.symm⟩
theorem once_of {x : Pt} (ha : AlikeP x) : ∀ {y : Pt} {d : Nat}, (∀ v ∈ visP d y, v.2.k = 4 ∨ Apart v.2) → (∀ a ∈ usesP y, a ∈ usesP x) → OnceP y := by
  refine @(Pt.ind fun y ih d hv hs => ?_)
  rw [onceP_eq]
  intro i hi
  refine ⟨ih i hi (d := d + 1) (fun v hm => hv v (by rw [visP_eq]; exact List.mem_cons_of_mem _ (mem_catN.2 ⟨i, hi, hm⟩))) (fun a h => hs a (uses_part hi h)), fun j hj a h1 b h2 e => ?_⟩
  rcases hv (d, y) (by rw [visP_eq]; simp) with h | h
  · exact ⟨h, ha a (hs a (uses_part hi h1)) b (hs b (uses_part (by omega) h2)) e⟩
  · exact absurd e.symm (h j i hj hi b h2 a h1)
theorem of_once : ∀ {y : Pt}, rightP y = true → OnceP y → AlikeP y ∧ ∀ d, ∀ v ∈ visP d y, v.2.k = 4 ∨ Apart v.2 := by
  refine @(Pt.ind fun y ih hr ho => ?_)
  rw [onceP_eq] at ho
  rw [rightP_eq, Bool.and_eq_true, allN_true] at hr
  constructor
  · intro a ha b hb e
    by_cases hk : nmd y.k = true
    · have hn := named_leaf hr.1 hk
      rw [usesP_eq, if_pos hk, hn] at ha hb
      simp [catN] at ha hb
      rw [ha, hb]
      exact ⟨rfl, Iff.rfl⟩
    · rw [usesP_eq, if_neg hk, List.nil_append] at ha hb
      obtain ⟨i, hi, ha⟩ := mem_catN.1 ha
      obtain ⟨j, hj, hb⟩ := mem_catN.1 hb
      rcases Nat.lt_trichotomy i j with h | h | h
      · exact ((ho j hj).2 i h b hb a ha e.symm).2.symm
      · subst h
        exact (ih i hi (hr.2 i hi) (ho i hi).1).1 a ha b hb e
      · exact ((ho i hi).2 j h a ha b hb e).2
  · intro d v hv
    rw [visP_eq] at hv
    rcases List.mem_cons.1 hv with rfl | hv
    · by_cases h4 : y.k = 4
      · exact .inl h4
      · refine .inr fun i j hij hj a ha b hb e => ?_
        exact h4 ((ho j hj).2 i hij b hb a ha e.symm).1
    · obtain ⟨i, hi, hv⟩ := mem_catN.1 hv
      exact (ih i hi (hr.2 i hi) (ho i hi).1).2 (d + 1) v hv
theorem nots_vis : ∀ {y : Pt} {d : Nat}, 1 ≤ d → rightP y = true → (notsP y (d == 1) = true ↔ ∀ v ∈ visP d y, betweenB v.2 (v.1 == 1) = true) := by
  refine @(Pt.ind fun y ih d hd hr => ?_)
  have hr0 := hr
  rw [rightP_eq, Bool.and_eq_true, allN_true] at hr
  rw [notsP_eq, allN_true, visP_eq]
  have hd1 : (d + 1 == 1) = false := by simp; omega
  constructor
  · intro h v hv
    rcases List.mem_cons.1 hv with rfl | hv
    · show betweenB y (d == 1) = true
      unfold betweenB
      rw [allN_true]
      intro i hi
      have := h i hi
      by_cases h6 : (y.c i).k = 6
      · rw [if_pos h6] at this; exact this
      · unfold notB; simp [h6]
    · obtain ⟨i, hi, hv⟩ := mem_catN.1 hv
      have := h i hi
      by_cases h6 : (y.c i).k = 6
      · have hri := hr.2 i hi
        rw [rightP_eq, Bool.and_eq_true] at hri
        have hn := named_leaf hri.1 (by rw [h6]; rfl)
        rw [visP_eq, hn] at hv
        simp [catN] at hv
        rw [hv]
        unfold betweenB
        simp only [hn]
        rfl
      · rw [if_neg h6] at this
        have h2 := (ih i hi (d := d + 1) (by omega) (hr.2 i hi)).1 (by rw [hd1]; exact this)
        exact h2 v hv
  · intro h i hi
    by_cases h6 : (y.c i).k = 6
    · rw [if_pos h6]
      have := h (d, y) (by simp)
      unfold betweenB at this
      rw [allN_true] at this
      exact this i hi
    · rw [if_neg h6]
      have h2 := (ih i hi (d := d + 1) (by omega) (hr.2 i hi)).2 (fun v hv => h v (List.mem_cons_of_mem _ (mem_catN.2 ⟨i, hi, hv⟩)))
      rw [hd1] at h2
      exact h2
/-- The document's own Made asks the same. -/
theorem made_ref {x : Pt} (hr : rightP x = true) : MadeP x ↔ x.k ≠ 6 ∧ notsP x true = true ∧ OnceP x := by
  have hn := nots_vis (y := x) (d := 1) (Nat.le_refl _) hr
  constructor
  · rintro ⟨h1, h2, h3⟩
    exact ⟨h1, hn.2 fun v hv => (h3 v hv).1, once_of h2 (d := 1) (fun v hv => (h3 v hv).2) (fun a ha => ha)⟩
  · rintro ⟨h1, h2, h3⟩
    obtain ⟨h4, h5⟩ := of_once hr h3
    exact ⟨h1, h4, fun v hv => ⟨hn.1 h2 v hv, h5 1 v hv⟩⟩
end Go.Proofs.YtfnfegcjgnbgbaaGreatDoor
namespace Go.Proofs.YtfnfegcjgnbgbaaGreatDoor
open Go.RowKit

/-- A new box, and a pattern put into it. -/
theorem boxP_put (q : Pt) (w : World) : ∃ A W, w.alloc (.cells zeroP 24) = A ∧ A.heap[w.heap.size]? = some (.cells zeroP 24 (0, 0)) ∧
    (((((A.setCell ⟨w.heap.size, 0, none⟩ (.int .i64 q.k)).setCell ⟨w.heap.size, 1, none⟩ (.string q.s)).setCell ⟨w.heap.size, 2, none⟩ (.string q.t)).setCell ⟨w.heap.size, 3, none⟩ (.int .i64 q.lo)).setCell ⟨w.heap.size, 4, none⟩ (.int .i64 q.hi)).setCell ⟨w.heap.size, 5, none⟩ (.slice q.a q.n q.cap) = W ∧
    Below w.heap.size w W ∧ NodeP W w.heap.size 0 q ∧ W.heap.size = w.heap.size + 1 := by
  have h0 : (w.alloc (.cells zeroP 24)).heap[w.heap.size]? = some (.cells zeroP 24 (0, 0)) := World.alloc_heap_new w _
  exact ⟨_, _, rfl, h0, rfl, below_set6 ((Below.refl _ w).alloc (Nat.le_refl _) _) (Nat.le_refl _), nodeP_box (heap_set6 (z := .nil) h0), by simp⟩
end Go.Proofs.YtfnfegcjgnbgbaaGreatDoor
namespace Go.Proofs.YtfnfegcjgnbgbaaGreatDoor
open Go.RowKit Go.ChangeShapes Go.WideShapes

section
variable {H : Type} {enc : TypeId × Value → H} {w : World} {base : Nat} {spare : Nat → Bool} {held : Bool}
theorem pat_under : ∃ f0 f1 f2 f3 f4 f5 : Field, Tryz.prog.underlying 24 = some (.struct #[f0, f1, f2, f3, f4, f5]) ∧ f0.offset = 0 ∧ f1.offset = 1 ∧ f2.offset = 2 ∧ f3.offset = 3 ∧ f4.offset = 4 ∧ f5.offset = 5 ∧ f0.type = 3 ∧ f1.type = 9 ∧ f2.type = 9 ∧ f3.type = 3 ∧ f4.type = 3 ∧ f5.type = 22 := ⟨_, _, _, _, _, _, Tryz.underlying24, rfl, rfl, rfl, rfl, rfl, rfl, rfl, rfl, rfl, rfl, rfl, rfl⟩
theorem cells_p : Tryz.prog.cellsOf 24 = 6 := by kernel_rfl
theorem cells_pl : Tryz.prog.cellsOf 22 = 1 := by kernel_rfl
set_option maxRecDepth 100000 in
/-- A pattern's cells, read: as a tree, of no more nodes than the reading's bulk. -/
theorem trod_p : ∀ (m fuel : Nat) (cs : List Value) (x : DataW H × List MemPlace), DataW.trod enc Tryz.prog w base spare held fuel 24 cs = some x → Rows.uptoBulk x.1 ≤ m →
    ∃ q : Pt, cs = [.int .i64 q.k, .string q.s, .string q.t, .int .i64 q.lo, .int .i64 q.hi, .slice q.a q.n q.cap] ∧ IsP w q ∧ q.size ≤ Rows.uptoBulk x.1 ∧ POk q := by
  intro m
  induction m with
  | zero =>
    intro fuel cs x h hm
    obtain ⟨f0, f1, f2, f3, f4, f5, hu, -⟩ := pat_under
    obtain ⟨xs, n, rfl, rfl, -⟩ := DataW.trod_struct hu h
    simp [Rows.uptoBulk] at hm
  | succ m ih =>
    intro fuel cs x h hm
    obtain ⟨f0, f1, f2, f3, f4, f5, hu, o0, o1, o2, o3, o4, o5, t0, t1, t2, t3, t4, t5⟩ := pat_under
    obtain ⟨xs, n, rfl, rfl, hl, hlen, hf⟩ := DataW.trod_struct hu h
    rw [cells_p] at hl
    match xs, hlen, cs, hl with
    | [y0, y1, y2, y3, y4, y5], _, [c0, c1, c2, c3, c4, c5], _ =>
      have hb : Rows.uptoBulk y5.1 + 1 ≤ Rows.uptoBulk (DataW.agg (H := H) ([y0, y1, y2, y3, y4, y5].map (·.1))) := by
        simp only [List.map_cons, List.map_nil, Rows.uptoBulk, Rows.uptoBulkAll]
        omega
      dsimp only at hm ⊢
      clear h
      generalize Rows.uptoBulk (DataW.agg (H := H) ([y0, y1, y2, y3, y4, y5].map (·.1))) = M at hb hm ⊢
      have g0 := hf 0 f0 rfl
      have g1 := hf 1 f1 rfl
      have g2 := hf 2 f2 rfl
      have g3 := hf 3 f3 rfl
      have g4 := hf 4 f4 rfl
      have g5 := hf 5 f5 rfl
      rw [o0, t0, cells_i] at g0
      rw [o1, t1, cells_s] at g1
      rw [o2, t2, cells_s] at g2
      rw [o3, t3, cells_i] at g3
      rw [o4, t4, cells_i] at g4
      rw [o5, t5, cells_pl] at g5
      simp at g0 g1 g2 g3 g4 g5
      obtain ⟨k, e0, rfl, w0⟩ := DataW.trod_int Tryz.underlying3 g0
      obtain ⟨s, e1, rfl, w2⟩ := DataW.trod_string Tryz.underlying9 g1
      obtain ⟨t, e2, rfl, w3⟩ := DataW.trod_string Tryz.underlying9 g2
      obtain ⟨lo, e3, rfl, _⟩ := DataW.trod_int Tryz.underlying3 g3
      obtain ⟨hi, e5, rfl, _⟩ := DataW.trod_int Tryz.underlying3 g4
      simp at e0 e1 e2 e3 e5
      subst e0 e1 e2 e3 e5
      rcases Deep.open_slice Tryz.underlying22 g5 with ⟨e4, _⟩ | ⟨a, len, cap, mm, nn, D, Pl, e4, _, hl4, hcm, hmm, rfl, hx⟩
      · simp at e4
        subst e4
        exact ⟨.mk k s t lo hi none 0 0 (fun _ => .nil), rfl, ⟨by omega, by omega, fun i hi => by omega⟩, by simp only [Pt.size, sumN]; omega, w2, w3, fun i hi => by omega⟩
      · simp at e4
        subst e4
        have hlm : len ≤ mm := by rw [hmm]; split <;> omega
        have hB : sumN (fun i => Rows.uptoBulk (D i)) len + 1 ≤ Rows.uptoBulk (DataW.slice (H := H) ((List.range len).map D) ((List.range (mm - len)).map fun j => D (len + j))) := by
          simp only [Rows.uptoBulk, bulk_range]
          omega
        simp only at hb
        have each : ∀ i, i < len → ∃ q : Pt, w.cell? (a.add (i * 6)) = some (.int .i64 q.k) ∧ w.cell? (a.add (i * 6 + 1)) = some (.string q.s) ∧ w.cell? (a.add (i * 6 + 2)) = some (.string q.t) ∧ w.cell? (a.add (i * 6 + 3)) = some (.int .i64 q.lo) ∧
            w.cell? (a.add (i * 6 + 4)) = some (.int .i64 q.hi) ∧ w.cell? (a.add (i * 6 + 5)) = some (.slice q.a q.n q.cap) ∧ IsP w q ∧ q.size ≤ Rows.uptoBulk (D i) ∧ POk q := by
          intro i hi
          obtain ⟨cs', h1, h2⟩ := hx i (by omega)
          rw [cells_p] at h1
          obtain ⟨_, hlen, hcell⟩ := World.cells?_some h1
          have hle := sumN_le (f := fun i => Rows.uptoBulk (D i)) hi
          obtain ⟨q, rfl, hq, hqs, hqo⟩ := ih _ _ _ h2 (by simp only; omega)
          have d0 := hcell 0 (by omega)
          have d1 := hcell 1 (by omega)
          have d2 := hcell 2 (by omega)
          have d3 := hcell 3 (by omega)
          have d4 := hcell 4 (by omega)
          have d5 := hcell 5 (by omega)
          rw [Deep.add_add] at d0 d1 d2 d3 d4 d5
          exact ⟨q, by simpa using d0, by simpa using d1, by simpa using d2, by simpa using d3, by simpa using d4, by simpa using d5, hq, hqs, hqo⟩
        have : Inhabited Pt := ⟨.nil⟩
        obtain ⟨q, hq⟩ := Deep.choose_lt each
        refine ⟨.mk k s t lo hi (some a) len cap q, rfl, ⟨hl4, by unfold maxLen at hcm; omega, fun i hi => ?_⟩, ?_, w2, w3, fun i hi => (hq i hi).2.2.2.2.2.2.2.2⟩
        · obtain ⟨b, off, spot⟩ := a
          obtain ⟨d0, d1, d2, d3, d4, d5, hi1, hi2, -⟩ := hq i hi
          have hspot : spot = none := by simpa [Addr.add] using World.cell?_spot (hq 0 (by omega)).1
          subst hspot
          rw [add_none] at d0 d1 d2 d3 d4 d5
          refine ⟨b, off, rfl, ⟨?_, ?_, ?_, ?_, ?_, ?_⟩, hi1⟩
          · exact d0
          · rw [Nat.add_assoc]; exact d1
          · rw [Nat.add_assoc]; exact d2
          · rw [Nat.add_assoc]; exact d3
          · rw [Nat.add_assoc]; exact d4
          · rw [Nat.add_assoc]; exact d5
        · have h1 := sumN_mono (f := fun i => (q i).size) (g := fun i => Rows.uptoBulk (D i)) (n := len) fun i hi => (hq i hi).2.2.2.2.2.2.2.1
          show 1 + sumN (fun i => (q i).size) len ≤ _
          omega
end
end Go.Proofs.YtfnfegcjgnbgbaaGreatDoor
