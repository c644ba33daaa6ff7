/-
  The documents' looks at a pattern (Has, exact, atoms), Fine and Says.
  Rows of notes as lists of pairs; able.Notes' closure, slices.IndexFunc and slices.DeleteFunc over notes.
  able.Notes.
  haruspexref19.Fine, the three Says, AbleSays' walk.
-/
import Derived.Test.YtfnfegcjgnbgbaaGreatDoorSAbSaysMath
import Derived.Test.YtfnfegcjgnbgbaaGreatDoorSQryRefCheckB
import Derived.Test.YtfnfegcjgnbgbaaGreatDoorSPatRefMade
import Derived.Test.YtfnfegcjgnbgbaaGreatDoorSFirstsMap
import Derived.Test.YtfnfegcjgnbgbaaGreatDoorSHeldIn
import Derived.Test.YtfnfegcjgnbgbaaGreatDoorSTxt
import Derived.Test.YtfnfegcjgnbgbaaGreatDoorSRangeBox
import Derived.Laws.IdiomCopy
import Derived.Lib.SliceRun
import Derived.Laws.OwnMore
namespace Go.Proofs.YtfnfegcjgnbgbaaGreatDoor
open Go.RowKit

set_option maxRecDepth 100000 in
set_option maxHeartbeats 4000000 in
theorem has_any (z : Int) : ∀ (x : Pt) (w : World), IsP w x → Calls Tryz.prog 38 #[x.val, .int .i64 z] w fun e w' => e = .returned (.bool (hasB z x)) ∧ Below w.heap.size w w' := by
  refine Pt.ind fun x ih w hX => ?_
  have HI : Hid (∀ i, i < x.n → ∀ w, IsP w (x.c i) → Calls Tryz.prog 38 #[(x.c i).val, .int .i64 z] w fun e w' => e = .returned (.bool (hasB z (x.c i))) ∧ Below w.heap.size w w') := ih
  have HX : Hid (IsP w x) := hX
  have hlen := hX.len
  obtain ⟨A, hA, hB0, hs, hN⟩ := boxP_one x w
  have HB : Hid (Below w.heap.size w A ∧ A.heap.size = w.heap.size + 1) := ⟨hB0, hs⟩
  have HN : Hid (NodeP A w.heap.size 0 x) := hN
  obtain ⟨r, hr⟩ : ∃ r, r = hasB z x := ⟨_, rfl⟩
  have HR : Hid (r = ((x.k == z) || !allN (fun i => !hasB z (x.c i)) x.n)) := by show r = _; rw [hr, hasB_eq]
  rw [← hr]
  obtain ⟨a0, a1, a2, a3, a4, a5⟩ := hN.at0
  clear ih hX hB0 hN hr hs
  by_cases hk : x.k = z
  · have t1 : (x.k == z) = true := by simp [hk]
    have hr1 : Hid (r = true) := by show r = true; rw [HR.out, t1]; rfl
    clear hk
    go_enter Tryz.func38, Tryz.ntmps38
    go_wp2
    go_ret
    exact ⟨by rw [hr1.out]; rfl, HB.out.1⟩
  · have t1 : (x.k == z) = false := by simp [hk]
    have HR2 : Hid (r = !allN (fun i => !hasB z (x.c i)) x.n) := by show r = _; rw [HR.out, t1]; rfl
    clear hk HR
    go_enter Tryz.func38, Tryz.ntmps38
    go_wp2_with fail
    clear a0 a1 a2 a3 a4 a5
    go_loopw [5] (fun v wr => ∃ k : Nat, k ≤ x.n ∧ v = .int .i64 k ∧ Below A.heap.size A wr ∧ Hid (∀ j, j < k → hasB z (x.c j) = false)) (fun v _ => x.n - (intOf v).toNat)
    case atStart => exact ⟨0, Nat.zero_le _, rfl, Below.refl _ _, fun j hj => by omega⟩
    case round =>
      obtain ⟨k, hk, rfl, hB, hno⟩ := hrel
      obtain ⟨-, -, -, -, -, c6⟩ := (nodeP_on HN.out (hB.mono (by have := HB.out.2; omega))).at0
      have hw := HB.out.1.trans (hB.mono HB.out.1.size)
      by_cases hkn : k < x.n
      · obtain ⟨b, o, ea, hn, hx⟩ := (HX.out.later hw).part hkn
        rw [ea] at c6
        obtain ⟨d0, d1, d2, d3, d4, d5⟩ := hn
        have hc := HI.out k hkn wr hx
        have HK : Hid (k < x.n) := hkn
        have HQ : Hid (Below w.heap.size w wr) := hw
        obtain ⟨b, hb⟩ : ∃ b, b = hasB z (x.c k) := ⟨_, rfl⟩
        have HBB : Hid (b = hasB z (x.c k)) := hb
        rw [← hb] at hc
        clear hx hw hb
        cases b
        · go_wp2_with (go_at_call 38; refine hc.mono ?_; clear hc; rintro e w2 ⟨rfl, hB2⟩)
          refine ⟨⟨k + 1, HK.out, by simp, hB.trans (hB2.mono hB.size), fun j hj => ?_⟩, by have := HK.out; simp [intOf]; omega⟩
          by_cases e : j = k
          · rw [e]; exact HBB.out.symm
          · exact hno.out j (by omega)
        · go_wp2_with (go_at_call 38; refine hc.mono ?_; clear hc; rintro e w2 ⟨rfl, hB2⟩)
          go_ret
          refine ⟨?_, HQ.out.trans (hB2.mono HQ.out.size)⟩
          rw [HR2.out, allN_false HK.out (by rw [← HBB.out]; rfl)]
          rfl
      · have hk' : k = x.n := by omega
        subst hk'
        go_wp2
        go_ret
        refine ⟨?_, hw⟩
        rw [HR2.out, allN_true.2 fun i hi => by rw [hno.out i hi]; rfl]
        rfl
set_option maxRecDepth 100000 in
set_option maxHeartbeats 4000000 in
theorem exact_any : ∀ (x : Pt) (w : World), IsP w x → Calls Tryz.prog 39 #[x.val] w fun e w' => e = .returned (.bool (exactB x)) ∧ Below w.heap.size w w' := by
  refine Pt.ind fun x ih w hX => ?_
  have HI : Hid (∀ i, i < x.n → ∀ w, IsP w (x.c i) → Calls Tryz.prog 39 #[(x.c i).val] w fun e w' => e = .returned (.bool (exactB (x.c i))) ∧ Below w.heap.size w w') := ih
  have HX : Hid (IsP w x) := hX
  have hlen := hX.len
  obtain ⟨A, hA, hB0, hs, hN⟩ := boxP_one x w
  have HB : Hid (Below w.heap.size w A ∧ A.heap.size = w.heap.size + 1) := ⟨hB0, hs⟩
  have HN : Hid (NodeP A w.heap.size 0 x) := hN
  obtain ⟨r, hr⟩ : ∃ r, r = exactB x := ⟨_, rfl⟩
  have HR : Hid (r = (!(x.k == 5 && x.lo != x.hi) && allN (fun i => exactB (x.c i)) x.n)) := by show r = _; rw [hr, exactB_eq]
  rw [← hr]
  obtain ⟨a0, a1, a2, a3, a4, a5⟩ := hN.at0
  clear ih hX hB0 hN hr hs
  have key : (x.k == 5 && x.lo != x.hi) = true ∨ (x.k == 5) = false ∨ ((x.k == 5) = true ∧ (x.lo != x.hi) = false) := by
    cases x.k == 5 <;> cases x.lo != x.hi <;> simp
  rcases key with hk | hk
  · obtain ⟨t1, t2⟩ : (x.k == 5) = true ∧ (x.lo != x.hi) = true := by simpa using hk
    have hr1 : Hid (r = false) := by show r = false; rw [HR.out, t1, t2]; rfl
    clear hk HR
    go_enter Tryz.func39, Tryz.ntmps39
    go_wp2
    go_ret
    exact ⟨by rw [hr1.out]; rfl, HB.out.1⟩
  · have HR2 : Hid (r = allN (fun i => exactB (x.c i)) x.n) := by
      show r = _
      rw [HR.out]
      rcases hk with t | ⟨t, u⟩
      · rw [t]; simp
      · rw [t, u]; simp
    have go : ∀ (wr : World) (k : Nat), True := fun _ _ => trivial
    clear go HR
    go_enter Tryz.func39, Tryz.ntmps39
    rcases hk with t1 | ⟨t1, t2⟩
    all_goals
      go_wp2_with fail
      clear a0 a1 a2 a3 a4 a5
      go_loopw [3] (fun v wr => ∃ k : Nat, k ≤ x.n ∧ v = .int .i64 k ∧ Below A.heap.size A wr ∧ Hid (∀ j, j < k → exactB (x.c j) = true)) (fun v _ => x.n - (intOf v).toNat)
      case atStart => exact ⟨0, Nat.zero_le _, rfl, Below.refl _ _, fun j hj => by omega⟩
      case round =>
        obtain ⟨k, hk, rfl, hB, hno⟩ := hrel
        obtain ⟨-, -, -, -, -, c6⟩ := (nodeP_on HN.out (hB.mono (by have := HB.out.2; omega))).at0
        have hw := HB.out.1.trans (hB.mono HB.out.1.size)
        by_cases hkn : k < x.n
        · obtain ⟨b, o, ea, hn, hx⟩ := (HX.out.later hw).part hkn
          rw [ea] at c6
          obtain ⟨d0, d1, d2, d3, d4, d5⟩ := hn
          have hc := HI.out k hkn wr hx
          have HK : Hid (k < x.n) := hkn
          have HQ : Hid (Below w.heap.size w wr) := hw
          obtain ⟨b, hb⟩ : ∃ b, b = exactB (x.c k) := ⟨_, rfl⟩
          have HBB : Hid (b = exactB (x.c k)) := hb
          rw [← hb] at hc
          clear hx hw hb
          cases b
          · go_wp2_with (go_at_call 39; refine hc.mono ?_; clear hc; rintro e w2 ⟨rfl, hB2⟩)
            go_ret
            refine ⟨?_, HQ.out.trans (hB2.mono HQ.out.size)⟩
            rw [HR2.out, allN_false HK.out HBB.out.symm]
            rfl
          · go_wp2_with (go_at_call 39; refine hc.mono ?_; clear hc; rintro e w2 ⟨rfl, hB2⟩)
            refine ⟨⟨k + 1, HK.out, by simp, hB.trans (hB2.mono hB.size), fun j hj => ?_⟩, by have := HK.out; simp [intOf]; omega⟩
            by_cases e : j = k
            · rw [e]; exact HBB.out.symm
            · exact hno.out j (by omega)
        · have hk' : k = x.n := by omega
          subst hk'
          go_wp2
          go_ret
          refine ⟨?_, hw⟩
          rw [HR2.out, allN_true.2 fun i hi => hno.out i hi]
          rfl
set_option maxRecDepth 100000 in
set_option maxHeartbeats 4000000 in
theorem atoms_any : ∀ (x : Pt) (w : World), IsP w x → Calls Tryz.prog 40 #[x.val] w fun e w' => e = .returned (.bool (atomsB x)) ∧ Below w.heap.size w w' := by
  refine Pt.ind fun x ih w hX => ?_
  have HI : Hid (∀ i, i < x.n → ∀ w, IsP w (x.c i) → Calls Tryz.prog 40 #[(x.c i).val] w fun e w' => e = .returned (.bool (atomsB (x.c i))) ∧ Below w.heap.size w w') := ih
  have HX : Hid (IsP w x) := hX
  have hlen := hX.len
  obtain ⟨A, hA, hB0, hs, hN⟩ := boxP_one x w
  have HB : Hid (Below w.heap.size w A ∧ A.heap.size = w.heap.size + 1) := ⟨hB0, hs⟩
  have HN : Hid (NodeP A w.heap.size 0 x) := hN
  obtain ⟨r, hr⟩ : ∃ r, r = atomsB x := ⟨_, rfl⟩
  have HR : Hid (r = allN (fun i => !(x.k == 3 && (x.c i).k != 1) && atomsB (x.c i)) x.n) := by show r = _; rw [hr, atomsB_eq]
  rw [← hr]
  clear ih hX hB0 hN hr hs
  obtain ⟨t, ht⟩ : ∃ t, (x.k == 3) = t := ⟨_, rfl⟩
  go_enter Tryz.func40, Tryz.ntmps40
  go_wp2_with fail
  go_loopw [3] (fun v wr => ∃ k : Nat, k ≤ x.n ∧ v = .int .i64 k ∧ Below A.heap.size A wr ∧ Hid (∀ j, j < k → (!(x.k == 3 && (x.c j).k != 1) && atomsB (x.c j)) = true)) (fun v _ => x.n - (intOf v).toNat)
  case atStart => exact ⟨0, Nat.zero_le _, rfl, Below.refl _ _, fun j hj => by omega⟩
  case round =>
    obtain ⟨k, hk, rfl, hB, hno⟩ := hrel
    obtain ⟨c0, -, -, -, -, c6⟩ := (nodeP_on HN.out (hB.mono (by have := HB.out.2; omega))).at0
    have hw := HB.out.1.trans (hB.mono HB.out.1.size)
    by_cases hkn : k < x.n
    · obtain ⟨b, o, ea, hn, hx⟩ := (HX.out.later hw).part hkn
      rw [ea] at c6
      obtain ⟨d0, d1, d2, d3, d4, d5⟩ := hn
      have hc := HI.out k hkn wr hx
      have HK : Hid (k < x.n) := hkn
      have HQ : Hid (Below w.heap.size w wr) := hw
      obtain ⟨b, hb⟩ : ∃ b, b = atomsB (x.c k) := ⟨_, rfl⟩
      have HBB : Hid (b = atomsB (x.c k)) := hb
      obtain ⟨u, hu⟩ : ∃ u, ((x.c k).k != 1) = u := ⟨_, rfl⟩
      have HTU : Hid ((x.k == 3) = t ∧ ((x.c k).k != 1) = u) := ⟨ht, hu⟩
      rw [← hb] at hc
      clear hx hw hb
      have step : (t && u) = false → b = true → (!(x.k == 3 && (x.c k).k != 1) && atomsB (x.c k)) = true := fun h1 h2 => by rw [HTU.out.1, HTU.out.2, h1, ← HBB.out, h2]; rfl
      have stop : ((t && u) = true ∨ b = false) → r = false := fun h => by
        rw [HR.out]
        refine allN_false HK.out ?_
        show (!(x.k == 3 && (x.c k).k != 1) && atomsB (x.c k)) = false
        rw [HTU.out.1, HTU.out.2, ← HBB.out]
        rcases h with h | h
        · rw [h]; rfl
        · rw [h]; simp
      have STEP : Hid ((t && u) = false → b = true → (!(x.k == 3 && (x.c k).k != 1) && atomsB (x.c k)) = true) := step
      have STOP : Hid (((t && u) = true ∨ b = false) → r = false) := stop
      clear step stop HTU HBB
      have fin : ∀ w2, Below wr.heap.size wr w2 → (t && u) = false → b = true → Hid ((∃ k' : Nat, k' ≤ x.n ∧ Value.int .i64 ((k : Int) + 1) = .int .i64 k' ∧ Below A.heap.size A w2 ∧ Hid (∀ j, j < k' → (!(x.k == 3 && (x.c j).k != 1) && atomsB (x.c j)) = true))) := fun w2 hB2 h1 h2 => by
        refine ⟨k + 1, HK.out, by simp, hB.trans (hB2.mono hB.size), fun j hj => ?_⟩
        by_cases e : j = k
        · rw [e]; exact STEP.out h1 h2
        · exact hno.out j (by omega)
      have FIN : Hid (∀ w2, Below wr.heap.size wr w2 → (t && u) = false → b = true → Hid ((∃ k' : Nat, k' ≤ x.n ∧ Value.int .i64 ((k : Int) + 1) = .int .i64 k' ∧ Below A.heap.size A w2 ∧ Hid (∀ j, j < k' → (!(x.k == 3 && (x.c j).k != 1) && atomsB (x.c j)) = true)))) := fin
      clear fin
      cases t <;> cases u <;> cases b
      all_goals go_wp2_with (go_at_call 40; refine hc.mono ?_; clear hc; rintro e w2 ⟨rfl, hB2⟩)
      all_goals first
        | (refine ⟨(FIN.out _ hB2 (by simp) (by simp)).out, ?_⟩; have := HK.out; simp [intOf]; omega)
        | (go_ret; exact ⟨by rw [STOP.out (by simp)]; rfl, HQ.out.trans (hB2.mono HQ.out.size)⟩)
        | (go_ret; exact ⟨by rw [STOP.out (by simp)]; rfl, HQ.out⟩)
    · have hk' : k = x.n := by omega
      subst hk'
      go_wp2
      go_ret
      refine ⟨?_, hw⟩
      rw [HR.out, allN_true.2 fun i hi => hno.out i hi]
      rfl
end Go.Proofs.YtfnfegcjgnbgbaaGreatDoor
namespace Go.Proofs.YtfnfegcjgnbgbaaGreatDoor
open Go.RowKit Go.Shelf
attribute [local go_sem] Oper.semAt_some

/-- A note as it lies: its way's row, and what it is. -/
abbrev Pn := Value × Nt
def rowN : List Pn → List Value
  | [] => []
  | p :: l => p.1 :: .int .i64 p.2.2 :: rowN l
theorem rowN_len : ∀ l : List Pn, (rowN l).length = l.length * 2
  | [] => rfl
  | p :: l => by simp only [rowN, List.length_cons]; rw [rowN_len l]; omega
theorem rowN_take : ∀ (l : List Pn) (k : Nat), (rowN l).take (k * 2) = rowN (l.take k)
  | [], k => by simp [rowN]
  | p :: l, 0 => by simp [rowN]
  | p :: l, k + 1 => by
    rw [show (k + 1) * 2 = k * 2 + 1 + 1 by omega]
    simp only [rowN, List.take_succ_cons]
    rw [rowN_take l k]
theorem rowN_at : ∀ (l : List Pn) (k : Nat) (p : Pn), l[k]? = some p → (rowN l)[k * 2]? = some p.1 ∧ (rowN l)[k * 2 + 1]? = some (.int .i64 p.2.2)
  | [], k, p, h => by simp at h
  | q :: l, 0, p, h => by simp at h; subst h; simp [rowN]
  | q :: l, k + 1, p, h => by
    have := rowN_at l k p (by simpa using h)
    rw [show (k + 1) * 2 = k * 2 + 1 + 1 by omega, show k * 2 + 1 + 1 + 1 = (k * 2 + 1) + 1 + 1 by omega]
    simpa [rowN] using this
theorem rowN_set : ∀ (l : List Pn) (k : Nat) (p : Pn), rowN (l.set k p) = ((rowN l).set (k * 2) p.1).set (k * 2 + 1) (.int .i64 p.2.2)
  | [], k, p => by simp [rowN]
  | q :: l, 0, p => by simp [rowN]
  | q :: l, k + 1, p => by
    rw [show (k + 1) * 2 = k * 2 + 1 + 1 by omega, show k * 2 + 1 + 1 + 1 = (k * 2 + 1) + 1 + 1 by omega]
    simp only [List.set_cons_succ, rowN]
    rw [rowN_set l k p]
theorem ntCells_pairs : ∀ P : List Pn, ntCells (P.map (·.1)) (P.map (·.2)) = rowN P
  | [] => rfl
  | p :: P => by simp only [List.map_cons, ntCells, rowN]; rw [ntCells_pairs P]
/-- A row of notes. -/
structure NtP (W : World) (base : Nat) (K : Nat → Prop) (v : Value) (P : List Pn) : Prop where
  row : W.ownsRow base 56 2 v P.length (rowN P)
  way : ∀ p ∈ P, Wy W base p.1 p.2.1 ∧ ∀ k, p.1.ownBlock = some k → K k
theorem Nts.pairs {W : World} {base : Nat} {K : Nat → Prop} {v : Value} {L : List Nt} {us : List Value} (h : Nts W base K v L us) : ∃ P : List Pn, P.map (·.2) = L ∧ NtP W base K v P := by
  refine ⟨us.zip L, by rw [List.map_snd_zip (by rw [h.len]; exact Nat.le_refl _)], ?_, ?_⟩
  · have e : ntCells us L = rowN (us.zip L) := by
      have := ntCells_pairs (us.zip L)
      rwa [List.map_snd_zip (by rw [h.len]; exact Nat.le_refl _), List.map_fst_zip (by rw [h.len]; exact Nat.le_refl _)] at this
    rw [← e, show (us.zip L).length = L.length by rw [List.length_zip, h.len]; omega]
    exact h.row
  · rintro ⟨u, n⟩ hp
    obtain ⟨j, hj⟩ := List.getElem?_of_mem hp
    rw [List.getElem?_zip_eq_some] at hj
    exact h.way j u n hj.1 hj.2
theorem NtP.nts {W : World} {base : Nat} {K : Nat → Prop} {v : Value} {P : List Pn} (h : NtP W base K v P) : Nts W base K v (P.map (·.2)) (P.map (·.1)) := by
  refine ⟨by simp, by rw [ntCells_pairs, List.length_map]; exact h.row, fun j u n hu hn => ?_⟩
  rw [List.getElem?_map, Option.map_eq_some_iff] at hu hn
  obtain ⟨p, hp, rfl⟩ := hu
  obtain ⟨p', hp', rfl⟩ := hn
  rw [hp] at hp'
  cases hp'
  exact h.way p (List.mem_of_getElem? hp)
theorem NtP.later {W W' : World} {base : Nat} {K : Nat → Prop} {v : Value} {P : List Pn} (h : NtP W base K v P) (hB : Below W.heap.size W W') : NtP W' base K v P :=
  ⟨own_same h.row fun k _ _ hc => (hB.block k (heap_lt hc)).trans hc, fun p hp => ⟨(h.way p hp).1.same fun k _ _ hc => (hB.block k (heap_lt hc)).trans hc, (h.way p hp).2⟩⟩
/-- Where a note lies. -/
theorem NtP.at {W : World} {base : Nat} {K : Nat → Prop} {a : Option Addr} {n cap : Nat} {P : List Pn} (h : NtP W base K (.slice a n cap) P) {k : Nat} {p : Pn} (hk : P[k]? = some p) :
    ∃ g va vm vc, a = some ⟨g, 0, none⟩ ∧ n = P.length ∧ P.length ≤ cap ∧ cap ≤ maxLen ∧ base ≤ g ∧ p.1 = .slice va vm vc ∧ W.cell? ⟨g, k * 2, none⟩ = some (.slice va vm vc) ∧ W.cell? ⟨g, k * 2 + 1, none⟩ = some (.int .i64 p.2.2) := by
  have hlt := (List.getElem?_eq_some_iff.1 hk).1
  rcases h.row.2 with ⟨e, e0⟩ | ⟨g, cap', cur, e, h1, h2, h3, h4, h5, h6⟩
  · omega
  · injection e with e1 e2 e3
    subst e1 e3
    obtain ⟨va, vc, hv, -⟩ := ((h.way p (List.mem_of_getElem? hk)).1).shape
    obtain ⟨c1, c2⟩ := rowN_at P k p hk
    have q : ∀ j u, (rowN P)[j]? = some u → W.cell? ⟨g, j, none⟩ = some u := fun j u hu => by
      rw [cell_heap h2]
      rw [← h6, List.getElem?_take] at hu
      split at hu
      · simpa using hu
      · cases hu
    exact ⟨g, va, _, vc, rfl, e2, h3, h4, h1, hv, by rw [← hv]; exact q _ _ c1, q _ _ c2⟩
/-- The closure of able.Notes: is it left out? -/
abbrev delV (db : Nat) : Value := .func (.func 35) #[] #[.pointer (some ⟨db, 0, none⟩)]
set_option maxHeartbeats 1000000 in
theorem del_any (va : Option Addr) (vm vc : Nat) (z d : Int) (db : Nat) (W : World) (hd : Boxed W db 3 (.int .i64 d)) (hT : AbT W) :
    Calls Tryz.prog 35 #[.agg #[.slice va vm vc, .int .i64 z], .pointer (some ⟨db, 0, none⟩)] W fun e W' => e = .returned (.bool (!lacksB d z)) ∧ Below W.heap.size W W' := by
  obtain ⟨A, hA⟩ : ∃ A, W.alloc (.cells #[.slice va vm vc, .int .i64 z] 56) = A := ⟨_, rfl⟩
  have hB : Below W.heap.size W A := by rw [← hA]; exact (Below.refl _ W).alloc (Nat.le_refl _) _
  have c1 := (Boxed.kept_of hd hB hd.lt).cell
  have hn : A.heap[W.heap.size]? = some (.cells #[.slice va vm vc, .int .i64 z] 56 (0, 0)) := by rw [← hA]; exact alloc_new _ _
  have n0 : A.cell? ⟨W.heap.size, 0, none⟩ = some (.slice va vm vc) := by rw [cell_heap hn]; rfl
  have n1 : A.cell? ⟨W.heap.size, 1, none⟩ = some (.int .i64 z) := by rw [cell_heap hn]; rfl
  have hl := lacks_any d z A (hT.later hB)
  have HB : Hid (Below W.heap.size W A) := hB
  obtain ⟨b, hb⟩ : ∃ b, b = lacksB d z := ⟨_, rfl⟩
  rw [← hb] at hl ⊢
  clear hd hT hB hn hb
  subst hA
  go_enter Tryz.func35, Tryz.ntmps35
  go_wp2_with (go_at_call 14; refine hl.mono ?_; clear hl; rintro e w1 ⟨rfl, rfl⟩)
  go_ret
  exact ⟨rfl, HB.out⟩
/-- Is it kept? -/
abbrev keepN (d : Int) (p : Pn) : Bool := lacksB d p.2.2
set_option maxRecDepth 100000 in
set_option maxHeartbeats 4000000 in
theorem index_any (a : Option Addr) (n cap : Nat) (P : List Pn) (base : Nat) (K : Nat → Prop) (d : Int) (db : Nat) (W : World) (hP : NtP W base K (.slice a n cap) P) (hd : Boxed W db 3 (.int .i64 d)) (hT : AbT W) :
    Calls Tryz.prog 59 #[.slice a n cap, delV db] W fun e W' => Below W.heap.size W W' ∧
      ((e = .returned (.int .i64 (-1)) ∧ P.filter (keepN d) = P) ∨ ∃ i, i < n ∧ e = .returned (.int .i64 i) ∧ (P.take i).filter (keepN d) = P.take i ∧ ∃ p, P[i]? = some p ∧ keepN d p = false) := by
  have hn : n = P.length ∧ n ≤ 9223372036854775807 := by
    rcases hP.row.2 with ⟨e, e0⟩ | ⟨g, cap', cur, e, h1, h2, h3, h4, h5, h6⟩
    · cases e; exact ⟨e0.symm, by omega⟩
    · cases e; exact ⟨rfl, by simp only [maxLen] at h4; omega⟩
  obtain ⟨hnl, hn8⟩ := hn
  have HP : Hid (NtP W base K (.slice a n cap) P ∧ Boxed W db 3 (.int .i64 d) ∧ AbT W ∧ n = P.length) := ⟨hP, hd, hT, hnl⟩
  clear hP hd hT hnl
  go_enter Tryz.func59, Tryz.ntmps59
  go_wp2_with fail
  go_loopw [8] (fun u wr => ∃ i : Nat, i ≤ n ∧ u = .int .i64 i ∧ Below W.heap.size W wr ∧ Hid ((P.take i).filter (keepN d) = P.take i)) (fun u _ => n - (intOf u).toNat)
  case atStart => exact ⟨0, Nat.zero_le _, rfl, Below.refl _ _, by show ([] : List Pn).filter _ = _; rfl⟩
  case round =>
    obtain ⟨i, hi, rfl, hB, hk⟩ := hrel
    by_cases hin : i < n
    · have hnl := HP.out.2.2.2
      obtain ⟨p, hp⟩ : ∃ p, P[i]? = some p := ⟨_, List.getElem?_eq_getElem (by omega)⟩
      obtain ⟨g, va, vm, vc, rfl, -, -, -, -, hv, c0, c1⟩ := (HP.out.1.later hB).at hp
      have hc := del_any va vm vc p.2.2 d db wr (Boxed.kept_of HP.out.2.1 hB HP.out.2.1.lt) (HP.out.2.2.1.later hB)
      have HIN : Hid (i < n ∧ P[i]? = some p) := ⟨hin, hp⟩
      obtain ⟨z, hz⟩ : ∃ z, z = p.2.2 := ⟨_, rfl⟩
      rw [← hz] at hc c1
      obtain ⟨b, hb⟩ : ∃ b, b = lacksB d z := ⟨_, rfl⟩
      have HB : Hid (b = keepN d p) := by rw [hb, hz]; rfl
      rw [← hb] at hc
      clear hb hz hnl hp hv
      cases b
      · go_wp2_with (go_at_call 35; refine hc.mono ?_; clear hc; rintro e w1 ⟨rfl, hB1⟩)
        go_ret
        exact ⟨hB.trans (hB1.mono hB.size), .inr ⟨i, HIN.out.1, rfl, hk.out, p, HIN.out.2, HB.out.symm⟩⟩
      · go_wp2_with (go_at_call 35; refine hc.mono ?_; clear hc; rintro e w1 ⟨rfl, hB1⟩)
        go_roundw
        case rel =>
          refine ⟨i + 1, HIN.out.1, by go_num, hB.trans (hB1.mono hB.size), ?_⟩
          show (P.take (i + 1)).filter (keepN d) = P.take (i + 1)
          rw [List.take_add_one, HIN.out.2, List.filter_append, hk.out]
          simp [← HB.out]
        case measure => have := HIN.out.1; simp [intOf]; omega
    · obtain rfl : i = n := by omega
      go_wp2
      go_ret
      refine ⟨hB, .inl ⟨rfl, ?_⟩⟩
      have := hk.out
      rwa [HP.out.2.2.2, List.take_length] at this
theorem own_cut22 {w : World} {base e size g n cap K : Nat} {xs : List Value} (h : w.ownsRow base e size (.slice (some ⟨g, 0, none⟩) n cap) n xs) (hK : K ≤ n) : w.ownsRow base e size (.slice (some ⟨g, 0, none⟩) K cap) K (xs.take (K * size)) := by
  have hm : K * size ≤ n * size := Nat.mul_le_mul_right _ hK
  refine ⟨by rw [List.length_take, h.1]; omega, ?_⟩
  rcases h.2 with ⟨h', _⟩ | ⟨g', cap', cur, h', hb, hg, hnc, hcm, hcs, ht⟩
  · cases h'
  · cases h'
    exact .inr ⟨g, cap, cur, rfl, hb, hg, by omega, hcm, hcs, by rw [← ht, List.take_take, Nat.min_eq_left hm]⟩
/-- What is written behind it leaves it. -/
theorem own_setCells22 {base e size g K cap : Nat} {ys : List Value} : ∀ (vs : List Value) (o : Nat) (w : World), w.ownsRow base e size (.slice (some ⟨g, 0, none⟩) K cap) K ys → K * size ≤ o → (w.setCells g o vs).ownsRow base e size (.slice (some ⟨g, 0, none⟩) K cap) K ys
  | [], _, _, h, _ => h
  | v :: vs, o, w, h, ho => by
    have := (h.stored o v).1
    rw [List.set_eq_of_length_le (by rw [h.1]; exact ho)] at this
    exact own_setCells22 vs (o + 1) _ this (by omega)
theorem below_setCells22 {B g : Nat} {a : World} (hb : B ≤ g) : ∀ (vs : List Value) (o : Nat) (w : World), Below B a w → Below B a (w.setCells g o vs)
  | [], _, _, h => h
  | v :: vs, o, _, h => below_setCells22 hb vs (o + 1) _ (h.setCell (p := ⟨g, o, none⟩) hb v)
/-- clear of n > 0 elements of some cells each. -/
theorem run_clear22 {P : Program} (w : World) (t e ty : TypeId) (z : Value) (ht : P.underlying t = some (.slice e)) (hv : ∀ w, (zeroValue e).run P w = .ok z w) (h1 : ∀ u ∈ z.cells, u.oneCell' = true) (hz : 0 < z.cells.size) (b o n c : Nat) (hn : 0 < n)
    (hc : ∀ j, j < n * z.cells.size → (w.cell? ⟨b, o + j, none⟩).isSome = true) (hf : ∀ j, j < n * z.cells.size → w.frozen? ⟨b, o + j, none⟩ = false) :
    (Builtin.clear_ #[t] ty #[.slice (some ⟨b, o, none⟩) n c]).run P w = .ok (.tuple #[]) (w.setCells b o (Builtin.zeroCells z.cells n).toList) := by
  have hlen : (Builtin.zeroCells z.cells n).toList.length = n * z.cells.size := by simp [Builtin.zeroCells]
  have hst := run_storeCells_cells (P := P) b o (Builtin.zeroCells z.cells n).toList 0 w (by simpa [hlen] using hc) (by simpa [hlen] using hf) (by
    intro v hv'
    simp only [Builtin.zeroCells, Array.toList_map, List.mem_map] at hv'
    obtain ⟨i, _, rfl⟩ := hv'
    have hi : i % z.cells.size < z.cells.size := Nat.mod_lt _ hz
    rw [getElem!_pos z.cells _ hi]
    exact h1 _ (Array.getElem_mem hi))
  simp only [Nat.add_zero] at hst
  obtain ⟨m, rfl⟩ : ∃ m, n = m + 1 := ⟨n - 1, by omega⟩
  simp [Builtin.clear_, run_underlying ht, hv, hst]
/-- How far the row has come: the first K are what is kept of the first p; from p on all is as it was. -/
structure DelInv (f : Pn → Bool) (P M : List Pn) (p K : Nat) : Prop where
  len : M.length = P.length
  lo : M.take K = (P.take p).filter f
  lt : K < p
  le : p ≤ P.length
  hi : ∀ j, p ≤ j → M[j]? = P[j]?
  mem : ∀ x ∈ M, x ∈ P
theorem DelInv.start {f : Pn → Bool} {P : List Pn} {i : Nat} {x : Pn} (hx : P[i]? = some x) (hf : f x = false) (h : (P.take i).filter f = P.take i) : DelInv f P P (i + 1) i :=
  ⟨rfl, by rw [List.take_add_one, hx, List.filter_append, h]; simp [hf], by omega, (List.getElem?_eq_some_iff.1 hx).1, fun _ _ => rfl, fun _ h => h⟩
theorem DelInv.skip {f : Pn → Bool} {P M : List Pn} {p K : Nat} {x : Pn} (h : DelInv f P M p K) (hx : P[p]? = some x) (hf : f x = false) : DelInv f P M (p + 1) K :=
  ⟨h.len, by rw [List.take_add_one, hx, List.filter_append, h.lo]; simp [hf], by have := h.lt; omega, (List.getElem?_eq_some_iff.1 hx).1, fun j hj => h.hi j (by omega), h.mem⟩
theorem DelInv.keep {f : Pn → Bool} {P M : List Pn} {p K : Nat} {x : Pn} (h : DelInv f P M p K) (hx : P[p]? = some x) (hf : f x = true) : DelInv f P (M.set K x) (p + 1) (K + 1) := by
  have hp := (List.getElem?_eq_some_iff.1 hx).1
  have hl := h.len
  have ht := h.lt
  refine ⟨by simp [hl], ?_, by omega, hp, fun j hj => ?_, fun y hy => ?_⟩
  · rw [List.take_add_one (l := P), hx, List.filter_append, ← h.lo, List.take_add_one, List.getElem?_set_self (by omega), List.take_set_of_le (Nat.le_refl _)]
    simp [hf]
  · rw [List.getElem?_set_ne (by omega)]
    exact h.hi j (by omega)
  · rcases List.mem_or_eq_of_mem_set hy with hy | rfl
    · exact h.mem y hy
    · exact List.mem_of_getElem? hx
theorem own_setN {W : World} {base g n cap K : Nat} {Kp : Nat → Prop} {M : List Pn} {x : Pn} (h : NtP W base Kp (.slice (some ⟨g, 0, none⟩) n cap) M) (hn : n = M.length) (hx : Wy W base x.1 x.2.1 ∧ ∀ k, x.1.ownBlock = some k → Kp k) (hb : base ≤ g) :
    ∃ V, (W.setCell ⟨g, K * 2, none⟩ x.1).setCell ⟨g, K * 2 + 1, none⟩ (.int .i64 x.2.2) = V ∧ NtP V base Kp (.slice (some ⟨g, 0, none⟩) n cap) (M.set K x) ∧ Below base W V := by
  have o0 := h.row
  rw [← hn] at o0
  have o1 := (o0.stored (K * 2) x.1).1
  have o2 := (o1.stored (K * 2 + 1) (.int .i64 x.2.2)).1
  have hc : ∀ (k : Nat) (c : Array Value), W.heap[k]? = some (.cells c 3 (0, 0)) → ((W.setCell ⟨g, K * 2, none⟩ x.1).setCell ⟨g, K * 2 + 1, none⟩ (.int .i64 x.2.2)).heap[k]? = some (.cells c 3 (0, 0)) := fun k c hc => by
    have hk : k ≠ g := fun e => by
      subst e
      rcases h.row.2 with ⟨e, e0⟩ | ⟨g', cap', cur, e, h1, h2, h3⟩
      · cases e
      · cases e
        rw [hc] at h2
        simp at h2
    exact (Below.heap_setCell _ ⟨g, K * 2 + 1, none⟩ _ k hk).trans ((Below.heap_setCell _ ⟨g, K * 2, none⟩ _ k hk).trans hc)
  refine ⟨_, rfl, ⟨?_, fun p hp => ?_⟩, ((Below.refl _ W).setCell (p := ⟨g, K * 2, none⟩) hb _).setCell (p := ⟨g, K * 2 + 1, none⟩) hb _⟩
  · rw [rowN_set, List.length_set, ← hn]
    exact o2
  · have hq : Wy W base p.1 p.2.1 ∧ ∀ k, p.1.ownBlock = some k → Kp k := by
      rcases List.mem_or_eq_of_mem_set hp with hp | rfl
      · exact h.way p hp
      · exact hx
    exact ⟨hq.1.same fun k c _ hk => hc k c hk, hq.2⟩
theorem setCells_other {g q : Nat} : ∀ (vs : List Value) (o : Nat) (w : World), q ≠ g → (w.setCells g o vs).heap[q]? = w.heap[q]?
  | [], _, _, _ => rfl
  | v :: vs, o, w, h => (setCells_other vs (o + 1) _ h).trans (Below.heap_setCell w ⟨g, o, none⟩ v q h)
theorem zeroNt (w : World) : (zeroValue 56).run Tryz.prog w = .ok (.agg #[.slice none 0 0, .int .i64 0]) w := by kernel_rfl
set_option maxRecDepth 100000 in
set_option maxHeartbeats 8000000 in
theorem delete_any (a : Option Addr) (n cap : Nat) (P : List Pn) (base : Nat) (K : Nat → Prop) (d : Int) (db : Nat) (W : World) (hP : NtP W base K (.slice a n cap) P) (hd : Boxed W db 3 (.int .i64 d)) (hT : AbT W) (hb : base ≤ W.heap.size) (hdb : db < base) (hTb : ∀ d, Below base W d → AbT d) :
    Calls Tryz.prog 34 #[.slice a n cap, delV db] W fun e W' => ∃ cap', e = .returned (.slice a (P.filter (keepN d)).length cap') ∧ NtP W' base K (.slice a (P.filter (keepN d)).length cap') (P.filter (keepN d)) ∧ Below base W W' := by
  have hc0 := index_any a n cap P base K d db W hP hd hT
  have hn : n = P.length ∧ n ≤ 9223372036854775807 := by
    rcases hP.row.2 with ⟨e, e0⟩ | ⟨g, cap', cur, e, h1, h2, h3, h4, h5, h6⟩
    · cases e; exact ⟨e0.symm, by omega⟩
    · cases e; exact ⟨rfl, by simp only [maxLen] at h4; omega⟩
  obtain ⟨hnl, hn8⟩ := hn
  have HP : Hid (NtP W base K (.slice a n cap) P ∧ Boxed W db 3 (.int .i64 d) ∧ n = P.length ∧ base ≤ W.heap.size ∧ db < base ∧ ∀ d, Below base W d → AbT d) := ⟨hP, hd, hnl, hb, hdb, hTb⟩
  clear hP hd hT hnl hb hdb hTb
  go_enter Tryz.func34, Tryz.ntmps34
  go_wp2_with (go_at_call 59; refine hc0.mono ?_; clear hc0; rintro e w1 ⟨hB1, (⟨rfl, hall⟩ | ⟨i, hi, rfl, hpre, x, hx, hf⟩)⟩; all_goals (try (have hi1 : (((i : Nat) : Int) == -1) = false := (by rw [Bool.eq_false_iff]; simp only [ne_eq, beq_iff_eq]; omega))))
  · go_ret
    have e1 : P.filter (keepN d) = P := hall
    refine ⟨cap, ?_, ?_, hB1.mono HP.out.2.2.2.1⟩
    · rw [e1, ← HP.out.2.2.1]
      rfl
    · rw [e1, ← HP.out.2.2.1]
      exact HP.out.1.later hB1
  · obtain ⟨g, va0, vm0, vc0, rfl, -, hcapn, hcap8, hbg, -, -, -⟩ := HP.out.1.at hx
    have HI0 : Hid (DelInv (keepN d) P P (i + 1) i) := DelInv.start hx hf hpre
    have HN0 : Hid (NtP w1 base K (.slice (some ⟨g, 0, none⟩) n cap) P) := HP.out.1.later hB1
    have hB10 : Below base W w1 := hB1.mono HP.out.2.2.2.1
    have HBG : Hid (base ≤ g ∧ n ≤ cap) := ⟨hbg, by rw [HP.out.2.2.1]; exact hcapn⟩
    have hcc : n ≤ cap := by rw [HP.out.2.2.1]; exact hcapn
    have hcap9 : cap ≤ 9223372036854775807 := by simp only [maxLen] at hcap8; omega
    clear hpre hx hf hB1 hcapn hbg hcap8
    go_loopw [5, 6] (fun u v wr => ∃ (k p : Nat) (M : List Pn), u = .int .i64 k ∧ v = .int .i64 p ∧ p ≤ n ∧ k ≤ n ∧ Hid (DelInv (keepN d) P M p k) ∧ Hid (NtP wr base K (.slice (some ⟨g, 0, none⟩) n cap) M) ∧ Below base W wr) (fun _ v _ => n - (intOf v).toNat)
    case atStart => exact ⟨i, i + 1, P, rfl, by go_num, by omega, by omega, HI0, HN0, hB10⟩
    case round =>
      clear HI0 HN0 hB10
      obtain ⟨k, p, M, rfl, rfl, hp, hk, HI, HN, hB⟩ := hrel
      have hkn : k < n := by have := HI.out.lt; omega
      have hck : ¬ cap = k := by omega
      have hML : M.length = n := HI.out.len.trans HP.out.2.2.1.symm
      by_cases hpn : p < n
      · have hnl := HP.out.2.2.1
        obtain ⟨x, hx⟩ : ∃ x, P[p]? = some x := ⟨_, List.getElem?_eq_getElem (by omega)⟩
        have hxM : M[p]? = some x := (HI.out.hi p (Nat.le_refl _)).trans hx
        obtain ⟨g', va, vm, vc, eg, -, -, -, -, hv, c0, c1⟩ := HN.out.at hxM
        obtain rfl : g = g' := by cases eg; rfl
        obtain ⟨z, hz⟩ : ∃ z, z = x.2.2 := ⟨_, rfl⟩
        rw [← hz] at c1
        have hBz : Below wr.heap.size wr (wr.alloc (.cells #[.slice va vm vc, .int .i64 z] 56)) := (Below.refl _ _).alloc (Nat.le_refl _) _
        have hsz : base ≤ wr.heap.size := Nat.le_trans HP.out.2.2.2.1 hB.size
        have hBd := hB.trans (hBz.mono hsz)
        have hdr : Boxed wr db 3 (.int .i64 d) := Boxed.kept_of HP.out.2.1 hB HP.out.2.2.2.2.1
        have hc := del_any va vm vc z d db _ (Boxed.kept_of hdr hBz hdr.lt) (HP.out.2.2.2.2.2 _ hBd)
        have HX : Hid (p < n ∧ P[p]? = some x ∧ x.1 = .slice va vm vc ∧ z = x.2.2 ∧ M[p]? = some x) := ⟨hpn, hx, hv, hz, hxM⟩
        have HKN : Hid (k < n ∧ base ≤ wr.heap.size) := ⟨hkn, hsz⟩
        have HBz : Hid (Below wr.heap.size wr (wr.alloc (.cells #[.slice va vm vc, .int .i64 z] 56))) := hBz
        have nz : (wr.alloc (.cells #[.slice va vm vc, .int .i64 z] 56)).heap[wr.heap.size]? = some (.cells #[.slice va vm vc, .int .i64 z] 56 (0, 0)) := alloc_new _ _
        have b0 : (wr.alloc (.cells #[.slice va vm vc, .int .i64 z] 56)).cell? ⟨wr.heap.size, 0, none⟩ = some (.slice va vm vc) := by rw [cell_heap nz]; rfl
        have b1 : (wr.alloc (.cells #[.slice va vm vc, .int .i64 z] 56)).cell? ⟨wr.heap.size, 1, none⟩ = some (.int .i64 z) := by rw [cell_heap nz]; rfl
        have HML : Hid (M.length = n) := hML
        obtain ⟨b, hb⟩ : ∃ b, b = lacksB d z := ⟨_, rfl⟩
        have HB : Hid (b = keepN d x) := by rw [hb, hz]; rfl
        rw [← hb] at hc
        clear hb hz hnl hx hv hxM eg hBd hdr hBz hsz nz hML
        cases b
        · go_wp2_with (go_at_call 35; refine hc.mono ?_; clear hc; rintro e w2 ⟨rfl, hB2⟩)
          have HI2 : Hid (DelInv (keepN d) P M (p + 1) k) := HI.out.skip HX.out.2.1 HB.out.symm
          go_roundw
          case rel => exact ⟨k, p + 1, M, rfl, by go_num, HX.out.1, hk, HI2, (HN.out.later HBz.out).later hB2, (hB.trans (HBz.out.mono HKN.out.2)).trans (hB2.mono (Nat.le_trans HKN.out.2 HBz.out.size))⟩
          case measure => have := HX.out.1; simp [intOf]; omega
        · go_wp2_with (go_at_call 35; refine hc.mono ?_; clear hc; rintro e w2 ⟨rfl, hB2⟩; have hN2 := (HN.out.later HBz.out).later hB2; obtain ⟨y, hy⟩ : (∃ y, M[k]? = some y) := ⟨_, List.getElem?_eq_getElem (by rw [HML.out]; exact HKN.out.1)⟩; obtain ⟨g', va', vm', vc', eg, -, -, -, -, -, d0, d1⟩ := hN2.at hy; obtain rfl : g = g' := (by cases eg; rfl); have e0 := cell_later b0 hB2; have e1 := cell_later b1 hB2; have f0 := (show w2.ownsRow base 56 2 (.slice (some ⟨g, 0, none⟩) M.length cap) M.length (rowN M) from (by have := hN2.row; rw [HML.out] at this ⊢; exact this)).frozenAt (k * 2); have f1 := (show w2.ownsRow base 56 2 (.slice (some ⟨g, 0, none⟩) M.length cap) M.length (rowN M) from (by have := hN2.row; rw [HML.out] at this ⊢; exact this)).frozenAt (k * 2 + 1); clear hy eg hN2 c0 c1 b0 b1)
          have hN2 := (HN.out.later HBz.out).later hB2
          obtain ⟨V, hV, NV, BV⟩ := own_setN (K := k) hN2 HML.out.symm (hN2.way x (List.mem_of_getElem? HX.out.2.2.2.2)) HBG.out.1
          rw [HX.out.2.2.1, ← HX.out.2.2.2.1] at hV
          have HI2 : Hid (DelInv (keepN d) P (M.set k x) (p + 1) (k + 1)) := HI.out.keep HX.out.2.1 HB.out.symm
          have hB2' : Below base W w2 := (hB.trans (HBz.out.mono HKN.out.2)).trans (hB2.mono (Nat.le_trans HKN.out.2 HBz.out.size))
          rw [hV]
          go_roundw
          case rel => exact ⟨k + 1, p + 1, M.set k x, by go_num, by go_num, HX.out.1, HKN.out.1, HI2, NV, hB2'.trans BV⟩
          case measure => have := HX.out.1; simp [intOf]; omega
      · obtain rfl : p = n := by omega
        have e : M.take k = P.filter (keepN d) := by have := HI.out.lo; rwa [HP.out.2.2.1, List.take_length] at this
        have ekl : k = (P.filter (keepN d)).length := by rw [← e, List.length_take, hML]; omega
        have hrow : wr.ownsRow base 56 2 (.slice (some ⟨g, 0, none⟩) p cap) p (rowN M) := by have := HN.out.row; rw [hML] at this; exact this
        have hsz2 : (.agg #[.slice none 0 0, .int .i64 0] : Value).cells.size = 2 := rfl
        obtain ⟨zs, hzs⟩ : ∃ zs, zs = (Builtin.zeroCells (.agg #[.slice none 0 0, .int .i64 0] : Value).cells (p - k)).toList := ⟨_, rfl⟩
        have hcl : ∀ ty, (Builtin.clear_ #[31] ty #[.slice (some ⟨g, k * 2, none⟩) (p - k) (cap - k)]).run Tryz.prog wr = .ok (.tuple #[]) (wr.setCells g (k * 2) zs) := fun ty => by
          rw [hzs]
          refine run_clear22 wr 31 56 ty (.agg #[.slice none 0 0, .int .i64 0]) Tryz.underlying31 zeroNt (by simp [Value.cells, Value.oneCell']) (by simp [Value.cells]) g (k * 2) (p - k) (cap - k) (by omega) (fun j2 hj2 => ?_) (fun j2 _ => hrow.frozenAt _)
          rw [hsz2] at hj2
          rw [hrow.cellAt _ (by omega), List.getElem?_eq_getElem (by rw [rowN_len, hML]; omega)]
          rfl
        have hfin : Hid (NtP (wr.setCells g (k * 2) zs) base K (.slice (some ⟨g, 0, none⟩) (P.filter (keepN d)).length cap) (P.filter (keepN d)) ∧ Below base W (wr.setCells g (k * 2) zs)) := by
          have o1 := own_cut22 hrow (show k ≤ p by omega)
          rw [rowN_take, e] at o1
          have hbel : Below base wr (wr.setCells g (k * 2) zs) := below_setCells22 HBG.out.1 zs _ wr (Below.refl _ _)
          refine ⟨⟨?_, fun x hx => ?_⟩, below_setCells22 HBG.out.1 zs _ wr hB⟩
          · rw [← ekl]
            exact own_setCells22 zs _ wr o1 (Nat.le_refl _)
          · have hxM : x ∈ M := List.mem_of_mem_take (by rw [e]; exact hx)
            obtain ⟨h1, h2⟩ := HN.out.way x hxM
            refine ⟨h1.same fun q c _ hc => (setCells_other zs (k * 2) wr (fun eq => ?_)).trans hc, h2⟩
            subst eq
            rcases hrow.2 with ⟨e, -⟩ | ⟨g', cap', cur, e, -, h3, -⟩
            · cases e
            · cases e
              rw [hc] at h3
              simp at h3
        generalize wr.setCells g (k * 2) zs = V at hcl hfin
        clear HN HI hB hzs hrow e hML
        have EKL : Hid (k = (P.filter (keepN d)).length) := ekl
        clear ekl
        go_wp2
        go_ret
        exact ⟨cap, by rw [← EKL.out]; rfl, hfin.out.1, hfin.out.2⟩
end Go.Proofs.YtfnfegcjgnbgbaaGreatDoor
namespace Go.Proofs.YtfnfegcjgnbgbaaGreatDoor
open Go.RowKit

theorem own_low22 {w : World} {B B' e k n : Nat} {v : Value} {xs : List Value} (h : w.ownsRow B e k v n xs) (hB : B' ≤ B) : w.ownsRow B' e k v n xs := by
  refine ⟨h.1, ?_⟩
  rcases h.2 with h2 | ⟨g, cap, cur, e1, hg, h3⟩
  · exact .inl h2
  · exact .inr ⟨g, cap, cur, e1, Nat.le_trans hB hg, h3⟩
theorem Nts.low {W : World} {B B' : Nat} {K : Nat → Prop} {v : Value} {L : List Nt} {us : List Value} (h : Nts W B K v L us) (hB : B' ≤ B) : Nts W B' K v L us :=
  ⟨h.len, own_low22 h.row hB, fun j u n hu hn => ⟨own_low22 (h.way j u n hu hn).1 hB, (h.way j u n hu hn).2⟩⟩
/-- What a dialect lacks of a query. -/
def notesL (d : Int) (q : Qy) : List Nt := (usesL q).filter fun n => lacksB d n.2
def NotesAns (d : Int) (q : Qy) (w : World) (e : Ending) (w' : World) : Prop :=
  (¬ (dialB d = true ∧ FineQ q) ∧ e = .returned (.tuple #[.slice none 0 0, .int .i64 1]) ∧ Below w.heap.size w w') ∨
  (dialB d = true ∧ FineQ q ∧ ∃ a cap K us, e = .returned (.tuple #[.slice a (notesL d q).length cap, .int .i64 0]) ∧ Nts w' w.heap.size K (.slice a (notesL d q).length cap) (notesL d q) us ∧ Below w.heap.size w w')
theorem boxQ_d (d : Int) (q : Qy) (w : World) : ∃ A, (w.alloc (.cells #[.int .i64 d] 3)).alloc (.cells q.cells 28) = A ∧ Below w.heap.size w A ∧ A.heap.size = w.heap.size + 2 ∧ Boxed A w.heap.size 3 (.int .i64 d) ∧ QB A (w.heap.size + 1) q := by
  refine ⟨_, rfl, ((Below.refl _ w).alloc (Nat.le_refl _) _).alloc (by simp) _, by simp, (Boxed.new _ _ _).alloc _, ?_⟩
  have := QB.new (w.alloc (.cells #[.int .i64 d] 3)) q
  rwa [World.size_alloc] at this
set_option maxRecDepth 100000 in
set_option maxHeartbeats 4000000 in
theorem notes_any (d : Int) (q : Qy) (w : World) (hQ : IsQ w q) (hok : QOk q) (hT : AbT w) : Calls Tryz.prog 9 #[.int .i64 d, q.val] w (NotesAns d q w) := by
  obtain ⟨A, hA, hB, hs, hd, hq⟩ := boxQ_d d q w
  have hc1 := dialect_any d A
  have hc2 := uses_any q A (hQ.later hB) hok (hT.later hB)
  obtain ⟨⟨a0, a1, a2, a3, a4, a5⟩, a6, a7, a8, a9, a10⟩ := hq.at0
  have cd := hd.cell
  have HB : Hid (Below w.heap.size w A ∧ A.heap.size = w.heap.size + 2 ∧ Boxed A w.heap.size 3 (.int .i64 d) ∧ AbT A) := ⟨hB, hs, hd, hT.later hB⟩
  clear hQ hok hT hB hs hd hq
  by_cases hdi : dialB d = true
  · rw [hdi] at hc1
    have HDI : Hid (dialB d = true) := hdi
    clear hdi
    have fin : ∀ (e : Ending) (W' : World), UsesAll q A e W' → ∃ (a : Option Addr) (n cap : Nat) (z : Int), e = .returned (.tuple #[.slice a n cap, .int .i64 z]) ∧ Hid (Calls Tryz.prog 34 #[.slice a n cap, delV w.heap.size] W' fun e2 W2 => ∃ v, e2 = .returned v ∧ NotesAns d q w (.returned (.tuple #[v, .int .i64 z])) W2) := by
      intro e W' h
      have main : ∀ (a : Option Addr) (n cap : Nat) (P : List Pn) (K : Nat → Prop), NtP W' A.heap.size K (.slice a n cap) P → Below A.heap.size A W' → Calls Tryz.prog 34 #[.slice a n cap, delV w.heap.size] W' fun e W2 => ∃ cap', e = .returned (.slice a (P.filter (keepN d)).length cap') ∧ NtP W2 A.heap.size K (.slice a (P.filter (keepN d)).length cap') (P.filter (keepN d)) ∧ Below A.heap.size W' W2 := fun a n cap P K hP hbel =>
        delete_any a n cap P A.heap.size K d w.heap.size W' hP (Boxed.kept_of HB.out.2.2.1 hbel HB.out.2.2.1.lt) (HB.out.2.2.2.later hbel) hbel.size HB.out.2.2.1.lt (fun D hD => HB.out.2.2.2.later (hbel.trans hD))
      rcases h with ⟨hn, rfl, hbel⟩ | ⟨hf, a, cap, K, us, rfl, hN, hbel⟩
      · refine ⟨none, 0, 0, 1, rfl, (main none 0 0 [] (fun _ => False) ⟨World.ownsRow_nil _ _ _ _, fun p hp => by cases hp⟩ hbel).mono ?_⟩
        rintro e W2 ⟨cap', rfl, h1, h2⟩
        have hcap : cap' = 0 := by
          rcases h1.row.2 with ⟨e, -⟩ | ⟨g, cc, cur, e, -⟩
          · cases e; rfl
          · cases e
        subst hcap
        exact ⟨_, rfl, .inl ⟨fun h => hn h.2, rfl, HB.out.1.trans ((hbel.trans h2).mono HB.out.1.size)⟩⟩
      · obtain ⟨P, hPL, hP⟩ := hN.pairs
        refine ⟨a, _, cap, 0, rfl, (main a _ cap P K hP hbel).mono ?_⟩
        rintro e W2 ⟨cap', rfl, h1, h2⟩
        have e1 : (P.filter (keepN d)).map (·.2) = notesL d q := by
          unfold notesL
          rw [← hPL, List.filter_map]
          rfl
        have e2 : (P.filter (keepN d)).length = (notesL d q).length := by rw [← e1, List.length_map]
        have h3 := h1.nts
        rw [e1, e2] at h3
        refine ⟨_, rfl, .inr ⟨HDI.out, hf, a, cap', K, _, by rw [e2], h3.low (by rw [HB.out.2.1]; omega), HB.out.1.trans ((hbel.trans h2).mono HB.out.1.size)⟩⟩
    have FIN : Hid (∀ (e : Ending) (W' : World), UsesAll q A e W' → ∃ (a : Option Addr) (n cap : Nat) (z : Int), e = .returned (.tuple #[.slice a n cap, .int .i64 z]) ∧ Hid (Calls Tryz.prog 34 #[.slice a n cap, delV w.heap.size] W' fun e2 W2 => ∃ v, e2 = .returned v ∧ NotesAns d q w (.returned (.tuple #[v, .int .i64 z])) W2)) := fin
    clear fin HB HDI
    go_enter Tryz.func9, Tryz.ntmps9
    go_upto_region 1 with fail
    clear hA
    go_wp2_with (first
      | (go_at_call 33; refine hc1.mono ?_; clear hc1; rintro e w1 ⟨rfl, rfl⟩)
      | (go_at_call 7; refine hc2.mono ?_; clear hc2; rintro e w2 hu; obtain ⟨a, n, cap, z, rfl, hdel⟩ := FIN.out _ _ hu; clear FIN hu)
      | (go_at_call 34; refine hdel.out.mono ?_; clear hdel; rintro e w3 ⟨v, rfl, hans⟩))
    refine bodyPost_ret (results_tmp2 rfl _ _ _) rfl ?_
    exact hans
  · have hdf : dialB d = false := by simpa using hdi
    rw [hdf] at hc1
    have HN : Hid (¬ (dialB d = true ∧ FineQ q)) := fun h => hdi h.1
    clear hdi hdf hc2
    go_enter Tryz.func9, Tryz.ntmps9
    go_wp2_with (go_at_call 33; refine hc1.mono ?_; clear hc1; rintro e w1 ⟨rfl, rfl⟩)
    refine bodyPost_ret (results_tmp2 rfl _ _ _) rfl ?_
    exact .inl ⟨HN.out, rfl, HB.out.1⟩
end Go.Proofs.YtfnfegcjgnbgbaaGreatDoor
namespace Go.Proofs.YtfnfegcjgnbgbaaGreatDoor
open Go.RowKit

theorem boxQ_s (q : Qy) (w : World) : ∃ A, w.alloc (.cells q.cells 28) = A ∧ Below w.heap.size w A ∧ A.heap.size = w.heap.size + 1 ∧ QB A w.heap.size q :=
  ⟨_, rfl, (Below.refl _ w).alloc (Nat.le_refl _) _, by simp, QB.new w q⟩
set_option maxRecDepth 100000 in
set_option maxHeartbeats 4000000 in
theorem fine_any (q : Qy) (w : World) (hQ : IsQ w q) (hok : QOk q) (hsm : q.bulk ≤ 1048576) : Calls Tryz.prog 18 #[q.val] w fun e w' => ∃ z : Int, e = .returned (.int .i64 z) ∧ Hid (z = 0 ↔ FineQ q) ∧ Below w.heap.size w w' := by
  obtain ⟨A, hA, hB, hs, hq⟩ := boxQ_s q w
  have hc1 := refCheckQ_any q A (hQ.later hB) hok hsm
  have hc2 : ∀ D, Below A.heap.size A D → Calls Tryz.prog 37 #[q.p.val] D fun e w' => ∃ z : Int, e = .returned (.int .i64 z) ∧ MadeZ q.p z ∧ Below D.heap.size D w' := fun D h => refMade_any q.p D ((hQ.p.later hB).later h) (by unfold Qy.bulk at hsm; omega) hok.p
  obtain ⟨⟨a0, a1, a2, a3, a4, a5⟩, a6, a7, a8, a9, a10⟩ := hq.at0
  have HB : Hid (Below w.heap.size w A ∧ QB A w.heap.size q) := ⟨hB, hq⟩
  obtain ⟨c, hc⟩ : ∃ c, c = chkQ q := ⟨_, rfl⟩
  have HC : Hid (c = chkQ q) := hc
  rw [← hc] at hc1
  clear hQ hok hsm hB hs hq hc
  by_cases h0 : c = 0
  · subst h0
    have hz : chkP q.p = 0 := lexN_zero.1 HC.out.symm 0 (by omega)
    have HZ : Hid (∀ z, MadeZ q.p z → (z = 0 ↔ FineQ q)) := fun z h => by
      rcases h with h | h | h
      · exact absurd hz h.1
      · exact ⟨fun _ => ⟨HC.out.symm, h.2.1⟩, fun _ => h.2.2⟩
      · exact ⟨fun e => by have := h.2.2; omega, fun e => absurd e.2 h.2.1⟩
    clear hz
    go_enter Tryz.func18, Tryz.ntmps18
    go_upto_region 1 with fail
    clear hA
    go_wp2_with (first
      | (go_at_call 37; refine (hc2 _ hB1).mono ?_; clear hc2; rintro e w2 ⟨z, rfl, hz, hB2⟩)
      | (go_at_call 36; refine hc1.mono ?_; clear hc1; rintro e w1 ⟨rfl, hB1⟩; clear a0 a1 a2 a3 a4 a5 a6 a7 a8 a9 a10; obtain ⟨⟨a0, a1, a2, a3, a4, a5⟩, a6, a7, a8, a9, a10⟩ := (HB.out.2.later hB1).at0))
    go_ret
    exact ⟨z, rfl, HZ.out z hz, HB.out.1.trans ((hB1.trans (hB2.mono hB1.size)).mono HB.out.1.size)⟩
  · have hne : (c != 0) = true := by simp [h0]
    have HN : Hid (c = 0 ↔ FineQ q) := ⟨fun e => absurd e h0, fun e => absurd (HC.out.trans e.1) h0⟩
    clear h0 hc2
    go_enter Tryz.func18, Tryz.ntmps18
    go_upto_region 1 with fail
    clear hA
    go_wp2_with (go_at_call 36; refine hc1.mono ?_; clear hc1; rintro e w1 ⟨rfl, hB1⟩)
    go_ret
    exact ⟨c, rfl, HN, HB.out.1.trans (hB1.mono HB.out.1.size)⟩
/-- What the three documents say of a query that is fine. -/
def saysB1 (q : Qy) : Bool := !hasB 3 q.p
def saysB2 (q : Qy) : Bool := exactB q.p && (q.key.toList.isEmpty && (decide (q.m = 0) && decide (q.mode = 0)))
def saysB3 (q : Qy) : Bool := !hasB 6 q.p && (atomsB q.p && !decide (q.mode = 0))
theorem fine_yes {q : Qy} (hf : FineQ q) {w : World} (h : Calls Tryz.prog 18 #[q.val] w fun e w' => ∃ z : Int, e = .returned (.int .i64 z) ∧ Hid (z = 0 ↔ FineQ q) ∧ Below w.heap.size w w') : Calls Tryz.prog 18 #[q.val] w fun e w' => e = .returned (.int .i64 0) ∧ Below w.heap.size w w' := by
  refine h.mono ?_
  rintro e w' ⟨z, rfl, h1, h2⟩
  rw [h1.out.2 hf]
  exact ⟨rfl, h2⟩
set_option maxRecDepth 100000 in
set_option maxHeartbeats 4000000 in
theorem says19_any (q : Qy) (w : World) (hQ : IsQ w q) (hok : QOk q) (hsm : q.bulk ≤ 1048576) (hf : FineQ q) : Calls Tryz.prog 19 #[q.val] w fun e w' => e = .returned (.bool (saysB1 q)) ∧ Below w.heap.size w w' := by
  obtain ⟨A, hA, hB, hs, hq⟩ := boxQ_s q w
  have hc1 := fine_yes hf (fine_any q A (hQ.later hB) hok hsm)
  have hc2 : ∀ D, Below A.heap.size A D → Calls Tryz.prog 38 #[q.p.val, .int .i64 3] D fun e w' => e = .returned (.bool (hasB 3 q.p)) ∧ Below D.heap.size D w' := fun D h => has_any 3 q.p D ((hQ.p.later hB).later h)
  obtain ⟨⟨a0, a1, a2, a3, a4, a5⟩, a6, a7, a8, a9, a10⟩ := hq.at0
  have HB : Hid (Below w.heap.size w A ∧ QB A w.heap.size q) := ⟨hB, hq⟩
  unfold saysB1
  obtain ⟨b, hb⟩ : ∃ b, b = hasB 3 q.p := ⟨_, rfl⟩
  rw [← hb] at hc2 ⊢
  clear hQ hok hsm hB hs hq hf hb
  go_enter Tryz.func19, Tryz.ntmps19
  go_upto_region 1 with fail
  clear hA
  go_wp2_with (first
    | (go_at_call 38; refine (hc2 _ hB1).mono ?_; clear hc2; rintro e w2 ⟨rfl, hB2⟩)
    | (go_at_call 18; refine hc1.mono ?_; clear hc1; rintro e w1 ⟨rfl, hB1⟩; clear a0 a1 a2 a3 a4 a5 a6 a7 a8 a9 a10; obtain ⟨⟨a0, a1, a2, a3, a4, a5⟩, a6, a7, a8, a9, a10⟩ := (HB.out.2.later hB1).at0))
  go_ret
  exact ⟨rfl, HB.out.1.trans ((hB1.trans (hB2.mono hB1.size)).mono HB.out.1.size)⟩
set_option maxRecDepth 100000 in
set_option maxHeartbeats 8000000 in
theorem says20_any (q : Qy) (w : World) (hQ : IsQ w q) (hok : QOk q) (hsm : q.bulk ≤ 1048576) (hf : FineQ q) : Calls Tryz.prog 20 #[q.val] w fun e w' => e = .returned (.bool (saysB2 q)) ∧ Below w.heap.size w w' := by
  obtain ⟨A, hA, hB, hs, hq⟩ := boxQ_s q w
  have hc1 := fine_yes hf (fine_any q A (hQ.later hB) hok hsm)
  have hc2 : ∀ D, Below A.heap.size A D → Calls Tryz.prog 39 #[q.p.val] D fun e w' => e = .returned (.bool (exactB q.p)) ∧ Below D.heap.size D w' := fun D h => exact_any q.p D ((hQ.p.later hB).later h)
  obtain ⟨⟨a0, a1, a2, a3, a4, a5⟩, a6, a7, a8, a9, a10⟩ := hq.at0
  have HB : Hid (Below w.heap.size w A ∧ QB A w.heap.size q) := ⟨hB, hq⟩
  obtain ⟨r, hr⟩ : ∃ r, r = saysB2 q := ⟨_, rfl⟩
  obtain ⟨b, hb⟩ : ∃ b, b = exactB q.p := ⟨_, rfl⟩
  obtain ⟨k, hk⟩ : ∃ k, q.key.toList.isEmpty = k := ⟨_, rfl⟩
  obtain ⟨m, hm⟩ : ∃ m, (((q.m : Nat) : Int) == 0) = m := ⟨_, rfl⟩
  obtain ⟨d, hd⟩ : ∃ d, (q.mode == 0) = d := ⟨_, rfl⟩
  have HR : Hid (r = (b && (k && (m && d)))) := by
    show r = _
    rw [hr, saysB2, hb, hk, ← hm, ← hd, show decide (q.m = 0) = (((q.m : Nat) : Int) == 0) by rw [Bool.eq_iff_iff]; simp, show decide (q.mode = 0) = (q.mode == 0) by rw [Bool.eq_iff_iff]; simp]
  rw [← hr]
  rw [← hb] at hc2
  clear hQ hok hsm hB hs hq hf hb hr
  have pre : Hid (∀ w1, Below A.heap.size A w1 → QB w1 w.heap.size q) := fun w1 h => HB.out.2.later h
  cases b <;> cases k <;> cases m <;> cases d
  all_goals
    go_enter Tryz.func20, Tryz.ntmps20
    go_upto_region 1 with fail
    clear hA
    go_wp2_with (first
      | (go_at_call 39; refine (hc2 _ hB1).mono ?_; clear hc2; rintro e w2 ⟨rfl, hB2⟩; clear a0 a1 a2 a3 a4 a5 a6 a7 a8 a9 a10; obtain ⟨⟨a0, a1, a2, a3, a4, a5⟩, a6, a7, a8, a9, a10⟩ := (pre.out _ (hB1.trans (hB2.mono hB1.size))).at0)
      | (go_at_call 18; refine hc1.mono ?_; clear hc1; rintro e w1 ⟨rfl, hB1⟩; clear a0 a1 a2 a3 a4 a5 a6 a7 a8 a9 a10; obtain ⟨⟨a0, a1, a2, a3, a4, a5⟩, a6, a7, a8, a9, a10⟩ := (pre.out _ hB1).at0))
    go_ret
    exact ⟨by rw [HR.out]; rfl, HB.out.1.trans ((hB1.trans (hB2.mono hB1.size)).mono HB.out.1.size)⟩
set_option maxRecDepth 100000 in
set_option maxHeartbeats 8000000 in
theorem says21_any (q : Qy) (w : World) (hQ : IsQ w q) (hok : QOk q) (hsm : q.bulk ≤ 1048576) (hf : FineQ q) : Calls Tryz.prog 21 #[q.val] w fun e w' => e = .returned (.bool (saysB3 q)) ∧ Below w.heap.size w w' := by
  obtain ⟨A, hA, hB, hs, hq⟩ := boxQ_s q w
  have hc1 := fine_yes hf (fine_any q A (hQ.later hB) hok hsm)
  have hc2 : ∀ D, Below A.heap.size A D → Calls Tryz.prog 38 #[q.p.val, .int .i64 6] D fun e w' => e = .returned (.bool (hasB 6 q.p)) ∧ Below D.heap.size D w' := fun D h => has_any 6 q.p D ((hQ.p.later hB).later h)
  have hc3 : ∀ D, Below A.heap.size A D → Calls Tryz.prog 40 #[q.p.val] D fun e w' => e = .returned (.bool (atomsB q.p)) ∧ Below D.heap.size D w' := fun D h => atoms_any q.p D ((hQ.p.later hB).later h)
  obtain ⟨⟨a0, a1, a2, a3, a4, a5⟩, a6, a7, a8, a9, a10⟩ := hq.at0
  have HB : Hid (Below w.heap.size w A ∧ QB A w.heap.size q) := ⟨hB, hq⟩
  obtain ⟨r, hr⟩ : ∃ r, r = saysB3 q := ⟨_, rfl⟩
  obtain ⟨b, hb⟩ : ∃ b, b = hasB 6 q.p := ⟨_, rfl⟩
  obtain ⟨k, hk⟩ : ∃ k, k = atomsB q.p := ⟨_, rfl⟩
  obtain ⟨d, hd⟩ : ∃ d, (q.mode != 0) = d := ⟨_, rfl⟩
  have HR : Hid (r = (!b && (k && d))) := by
    show r = _
    rw [hr, saysB3, hb, hk, ← hd, show (!decide (q.mode = 0)) = (q.mode != 0) by rw [Bool.eq_iff_iff]; simp]
  rw [← hr]
  rw [← hb] at hc2
  rw [← hk] at hc3
  clear hQ hok hsm hB hs hq hf hb hr hk
  have pre : Hid (∀ w1, Below A.heap.size A w1 → QB w1 w.heap.size q) := fun w1 h => HB.out.2.later h
  cases b <;> cases k <;> cases d
  all_goals
    go_enter Tryz.func21, Tryz.ntmps21
    go_upto_region 1 with fail
    clear hA
    go_wp2_with (first
      | (go_at_call 40; refine (hc3 _ hB12).mono ?_; clear hc3; rintro e w3 ⟨rfl, hB3⟩; clear a0 a1 a2 a3 a4 a5 a6 a7 a8 a9 a10; obtain ⟨⟨a0, a1, a2, a3, a4, a5⟩, a6, a7, a8, a9, a10⟩ := (pre.out _ (hB12.trans (hB3.mono hB12.size))).at0; have hBE := hB12.trans (hB3.mono hB12.size))
      | (go_at_call 38; refine (hc2 _ hB1).mono ?_; clear hc2; rintro e w2 ⟨rfl, hB2⟩; clear a0 a1 a2 a3 a4 a5 a6 a7 a8 a9 a10; have hB12 := hB1.trans (hB2.mono hB1.size); obtain ⟨⟨a0, a1, a2, a3, a4, a5⟩, a6, a7, a8, a9, a10⟩ := (pre.out _ hB12).at0)
      | (go_at_call 18; refine hc1.mono ?_; clear hc1; rintro e w1 ⟨rfl, hB1⟩; clear a0 a1 a2 a3 a4 a5 a6 a7 a8 a9 a10; obtain ⟨⟨a0, a1, a2, a3, a4, a5⟩, a6, a7, a8, a9, a10⟩ := (pre.out _ hB1).at0))
    go_ret
    first
      | exact ⟨by rw [HR.out]; rfl, HB.out.1.trans (hBE.mono HB.out.1.size)⟩
      | exact ⟨by rw [HR.out]; rfl, HB.out.1.trans (hB12.mono HB.out.1.size)⟩
theorem notes_yes {d : Int} {q : Qy} {w : World} (hd : dialB d = true) (hf : FineQ q) {e : Ending} {w' : World} (ha : NotesAns d q w e w') : ∃ a cap, e = .returned (.tuple #[.slice a (notesL d q).length cap, .int .i64 0]) ∧ Below w.heap.size w w' := by
  rcases ha with ⟨h1, -⟩ | ⟨-, -, a, cap, K, us, h1, -, h2⟩
  · exact absurd ⟨hd, hf⟩ h1
  · exact ⟨a, cap, h1, h2⟩
theorem len_says {d : Int} {q : Qy} {b : Bool} (h : ((usesL q).filter fun n => lacksB d n.2) = [] ↔ b = true) : ((((notesL d q).length : Nat) : Int) == 0) = b := by
  rw [Bool.eq_iff_iff, ← h]
  unfold notesL
  simp [List.length_eq_zero_iff]
set_option maxRecDepth 100000 in
set_option maxHeartbeats 8000000 in
theorem ableSays_walk (q : Qy) (w : World) (hQ : IsQ w q) (hok : QOk q) (hsm : q.bulk ≤ 1048576) (hT : AbT w) : Calls Tryz.prog 4 #[q.val] w fun e w' => e = .returned (.bool true) ∧ Below w.heap.size w w' := by
  obtain ⟨A, hA, hB, hs, hq⟩ := boxQ_s q w
  have hc1 := fine_any q A (hQ.later hB) hok hsm
  obtain ⟨⟨a0, a1, a2, a3, a4, a5⟩, a6, a7, a8, a9, a10⟩ := hq.at0
  have HB : Hid (Below w.heap.size w A ∧ QB A w.heap.size q ∧ AbT A) := ⟨hB, hq, hT.later hB⟩
  have hcw : ∀ D, Below A.heap.size A D → Calls Tryz.prog 6 #[] D fun e w' => e = .returned (.bool true) ∧ w' = D := fun D h => awake22_any D (HB.out.2.2.later h)
  by_cases hf : ¬ FineQ q
  · have hc1' : Calls Tryz.prog 18 #[q.val] A fun e w' => ∃ z : Int, e = .returned (.int .i64 z) ∧ (z != 0) = true ∧ Below A.heap.size A w' := by
      refine hc1.mono ?_
      rintro e w' ⟨z, rfl, h1, h2⟩
      refine ⟨z, rfl, ?_, h2⟩
      simp only [bne_iff_ne, ne_eq]
      exact fun e => hf (h1.out.1 e)
    clear hQ hok hsm hT hB hs hq hf hc1
    go_enter Tryz.func4, Tryz.ntmps4
    go_upto_region 1 with fail
    clear hA
    go_wp2_with (first
      | (go_at_call 6; refine (hcw _ hB1).mono ?_; clear hcw; rintro e w2 ⟨rfl, rfl⟩)
      | (go_at_call 18; refine hc1'.mono ?_; clear hc1'; rintro e w1 ⟨z, rfl, hz, hB1⟩))
    go_ret
    exact ⟨rfl, HB.out.1.trans (hB1.mono HB.out.1.size)⟩
  · have hf : FineQ q := Classical.not_not.1 hf
    have hm := qyMode hf.1
    have hc1' := fine_yes hf hc1
    obtain ⟨n1, hn1⟩ : ∃ n, n = (notesL 1 q).length := ⟨_, rfl⟩
    obtain ⟨n2, hn2⟩ : ∃ n, n = (notesL 2 q).length := ⟨_, rfl⟩
    obtain ⟨n3, hn3⟩ : ∃ n, n = (notesL 3 q).length := ⟨_, rfl⟩
    have N : ∀ d, dialB d = true → ∀ D, Below A.heap.size A D → Calls Tryz.prog 9 #[.int .i64 d, q.val] D fun e w' => ∃ a cap, e = .returned (.tuple #[.slice a (notesL d q).length cap, .int .i64 0]) ∧ Below D.heap.size D w' := fun d hd D h =>
      (notes_any d q D ((hQ.later hB).later h) hok (HB.out.2.2.later h)).mono fun e w' ha => notes_yes hd hf ha
    have N1 := N 1 (by decide)
    have N2 := N 2 (by decide)
    have N3 := N 3 (by decide)
    rw [← hn1] at N1
    rw [← hn2] at N2
    rw [← hn3] at N3
    have S1 : ∀ D, Below A.heap.size A D → Calls Tryz.prog 19 #[q.val] D fun e w' => e = .returned (.bool (saysB1 q)) ∧ Below D.heap.size D w' := fun D h => says19_any q D ((hQ.later hB).later h) hok hsm hf
    have S2 : ∀ D, Below A.heap.size A D → Calls Tryz.prog 20 #[q.val] D fun e w' => e = .returned (.bool (saysB2 q)) ∧ Below D.heap.size D w' := fun D h => says20_any q D ((hQ.later hB).later h) hok hsm hf
    have S3 : ∀ D, Below A.heap.size A D → Calls Tryz.prog 21 #[q.val] D fun e w' => e = .returned (.bool (saysB3 q)) ∧ Below D.heap.size D w' := fun D h => says21_any q D ((hQ.later hB).later h) hok hsm hf
    have e1 : (((n1 : Nat) : Int) == 0) = saysB1 q := by
      rw [hn1]
      exact len_says ((says1 hm).trans (by unfold saysB1; simp))
    have e2 : (((n2 : Nat) : Int) == 0) = saysB2 q := by
      rw [hn2]
      exact len_says ((says2 hm).trans (by unfold saysB2; simp))
    have e3 : (((n3 : Nat) : Int) == 0) = saysB3 q := by
      rw [hn3]
      exact len_says ((says3 hm).trans (by unfold saysB3; simp))
    obtain ⟨b1, hb1⟩ : ∃ b, b = saysB1 q := ⟨_, rfl⟩
    obtain ⟨b2, hb2⟩ : ∃ b, b = saysB2 q := ⟨_, rfl⟩
    obtain ⟨b3, hb3⟩ : ∃ b, b = saysB3 q := ⟨_, rfl⟩
    rw [← hb1] at S1 e1
    rw [← hb2] at S2 e2
    rw [← hb3] at S3 e3
    have pre : Hid (∀ w1, Below A.heap.size A w1 → QB w1 w.heap.size q) := fun w1 h => HB.out.2.1.later h
    clear hQ hok hsm hT hB hs hq hf hc1 N hn1 hn2 hn3 hb1 hb2 hb3 hm
    go_enter Tryz.func4, Tryz.ntmps4
    go_upto_region 1 with fail
    clear hA
    go_wp2_with (first
      | (go_at_call 6; refine (hcw _ hB7).mono ?_; clear hcw; rintro e w8 ⟨rfl, rfl⟩)
      | (go_at_call 21; refine (S3 _ hB6).mono ?_; clear S3; rintro e w7 ⟨rfl, hBd7⟩; have hB7 := hB6.trans (hBd7.mono hB6.size); clear a0 a1 a2 a3 a4 a5 a6 a7 a8 a9 a10)
      | (go_at_call 20; refine (S2 _ hB5).mono ?_; clear S2; rintro e w6 ⟨rfl, hBd6⟩; have hB6 := hB5.trans (hBd6.mono hB5.size); clear a0 a1 a2 a3 a4 a5 a6 a7 a8 a9 a10; obtain ⟨⟨a0, a1, a2, a3, a4, a5⟩, a6, a7, a8, a9, a10⟩ := (pre.out _ hB6).at0)
      | (go_at_call 19; refine (S1 _ hB4).mono ?_; clear S1; rintro e w5 ⟨rfl, hBd5⟩; have hB5 := hB4.trans (hBd5.mono hB4.size); clear a0 a1 a2 a3 a4 a5 a6 a7 a8 a9 a10; obtain ⟨⟨a0, a1, a2, a3, a4, a5⟩, a6, a7, a8, a9, a10⟩ := (pre.out _ hB5).at0)
      | (go_at_call 9; refine (N3 _ hB3).mono ?_; clear N3; rintro e w4 ⟨la3, lc3, rfl, hBd4⟩; have hB4 := hB3.trans (hBd4.mono hB3.size); clear a0 a1 a2 a3 a4 a5 a6 a7 a8 a9 a10; obtain ⟨⟨a0, a1, a2, a3, a4, a5⟩, a6, a7, a8, a9, a10⟩ := (pre.out _ hB4).at0)
      | (go_at_call 9; refine (N2 _ hB2).mono ?_; clear N2; rintro e w3 ⟨la2, lc2, rfl, hBd3⟩; have hB3 := hB2.trans (hBd3.mono hB2.size); clear a0 a1 a2 a3 a4 a5 a6 a7 a8 a9 a10; obtain ⟨⟨a0, a1, a2, a3, a4, a5⟩, a6, a7, a8, a9, a10⟩ := (pre.out _ hB3).at0)
      | (go_at_call 9; refine (N1 _ hB1).mono ?_; clear N1; rintro e w2 ⟨la1, lc1, rfl, hBd2⟩; have hB2 := hB1.trans (hBd2.mono hB1.size); clear a0 a1 a2 a3 a4 a5 a6 a7 a8 a9 a10; obtain ⟨⟨a0, a1, a2, a3, a4, a5⟩, a6, a7, a8, a9, a10⟩ := (pre.out _ hB2).at0)
      | (go_at_call 18; refine hc1'.mono ?_; clear hc1'; rintro e w1 ⟨rfl, hB1⟩; clear a0 a1 a2 a3 a4 a5 a6 a7 a8 a9 a10; obtain ⟨⟨a0, a1, a2, a3, a4, a5⟩, a6, a7, a8, a9, a10⟩ := (pre.out _ hB1).at0))
    go_ret
    exact ⟨rfl, HB.out.1.trans (hB7.mono HB.out.1.size)⟩
end Go.Proofs.YtfnfegcjgnbgbaaGreatDoor
