/-
  A query that may be has no Vars but its pattern's; without a condition, its items, its window it may be, too; of no function.
  query.Names, the walk.
  slices.Clone of conditions: a row of nodes that a call owns.
  WellRight's walk.
  Of what came in: cells of small types, and values.
-/
import Derived.Test.YtkfpgkohkhhlhaaGreatDoorRBrief
import Derived.Test.YtkfpgkohkhhlhaaGreatDoorRWlItem
import Derived.Test.YtkfpgkohkhhlhaaGreatDoorRVarsMath
import Derived.Test.YtkfpgkohkhhlhaaGreatDoorRPatBase
import Derived.Test.YtkfpgkohkhhlhaaGreatDoorRValOrder
import Derived.Deep.Strs
namespace Go.Proofs.YtkfpgkohkhhlhaaGreatDoor
open Go.RowKit

/-- A condition of some kind has only Vars that are known. -/
theorem kind_vars {L : ByteArray → ByteArray → Option Int} {P : ByteArray → Prop} (hL : ∀ v f k, L v f = some k → P v) : ∀ (x : X), TreeR x → (kindE L x).2 = 0 → ∀ t, hasVar t x → P t := by
  refine X.ind fun x ih hT hk t ht => ?_
  obtain ⟨hN, hP⟩ := (treeR_eq x).1 hT
  rcases (hasVar_eq t x).1 ht with ⟨h2, rfl⟩ | ⟨i, hi, h⟩
  · rcases hN.2.2 with ⟨h, _⟩ | ⟨_, hn, _⟩ | ⟨h, _⟩ | ⟨h, _⟩ | ⟨h, _⟩
    · omega
    · rw [kindE_field h2 hn] at hk
      cases e : L x.s x.f with
      | none => rw [e] at hk; cases hk
      | some k => exact hL _ _ _ e
    · omega
    · omega
    · omega
  · refine ih i hi (hP i hi) ?_ t h
    cases x with
    | nil => exact absurd hi (Nat.not_lt_zero _)
    | mk k v s f a n cap c =>
      by_cases e : lexN (fun i => (kindE L (c i)).2) n = 0
      · exact lexN_zero.1 e i hi
      · simp only [kindE, if_neg e] at hk
        exact absurd hk e
theorem cond_vars {L : ByteArray → ByteArray → Option Int} {P : ByteArray → Prop} (hL : ∀ v f k, L v f = some k → P v) {p : Pt} {x : X} (h : CondR L p x 0) : ∀ t, t ∈ varsX x → P t := by
  obtain ⟨K, E, hk, hz⟩ := h
  have hc : condZ K E = 0 := by
    by_cases e : condZ K E = 0
    · exact e
    · rw [if_neg e] at hz
      exact absurd hz.symm e
  have hE : E = 0 := by
    unfold condZ at hc
    split at hc
    · cases hc
    · exact hc
  rcases hk with ⟨_, hT, _, he⟩ | ⟨_, _, he⟩
  · exact fun t ht => kind_vars hL x hT (by rw [← he]; exact hE) t ((mem_vars t x).1 ht)
  · omega
theorem look_known {x : Pt} {ns : Nat} {Q : Nat → Sch} (v f : ByteArray) (k : Int) (h : lookW x ns Q v f = some k) : v ∈ (fstL x).map (·.s) := by
  unfold lookW lookN at h
  cases e : idx (fstV x) v (fstL x).length with
  | none => rw [e] at h; cases h
  | some j =>
    obtain ⟨hj, he, _⟩ := idx_some _ _ _ _ e
    rw [← he]
    have hj' : j < ((fstL x).map (·.s)).length := by simpa using hj
    rw [show fstV x j = ((fstL x).map (·.s))[j] by simp [fstV, atS, hj]]
    exact List.getElem_mem hj'
theorem WellR.all {q : Qy} {ns : Nat} {Q : Nat → Sch} (h : WellR q ns Q 0) : ∀ j, j < 8 → Az q ns Q j 0 := by
  rcases h with ⟨_, h⟩ | ⟨h, _⟩
  · exact h
  · exact absurd rfl h
theorem fst_zero {R : Nat → Int → Prop} {n : Nat} (h : FstR R n 0) : ∀ i, i < n → R i 0 := by
  rcases h with ⟨_, h⟩ | ⟨h, _⟩
  · exact h
  · exact absurd rfl h
theorem first_nodup (l : List Pt) : ((firstL l).map (·.s)).Nodup := by
  have key : ∀ (l acc : List Pt), (acc.map (·.s)).Nodup → ((l.foldl addU acc).map (·.s)).Nodup := by
    intro l
    induction l with
    | nil => intro acc h; exact h
    | cons z l ih =>
      intro acc h
      refine ih (addU acc z) ?_
      cases e : idxF acc z.s with
      | some i => rw [addU_some e]; exact h
      | none =>
        rw [addU_none e, List.map_append, List.nodup_append]
        refine ⟨h, by simp, fun a ha b hb => ?_⟩
        obtain ⟨y, hy, rfl⟩ := List.mem_map.1 ha
        simp only [List.map_cons, List.map_nil, List.mem_singleton] at hb
        rw [hb]
        exact idxF_none.1 e y hy
  exact key l [] List.nodup_nil
/-- The names of a query that may be are its pattern's. -/
theorem names_well {q : Qy} {ns : Nat} {Q : Nat → Sch} (h : WellR q ns Q 0) : (namesQ q).length = (fstL q.p).length := by
  have ha := h.all
  have key : ∀ t, t ∈ namesQ q ↔ t ∈ (fstL q.p).map (·.s) := by
    intro t
    rw [namesQ_mem, allV, List.mem_append, List.mem_append]
    constructor
    · rintro ((h | h) | h)
      · exact h
      · rw [mem_vars, hasVar_eq] at h
        rcases h with ⟨h, _⟩ | ⟨i, hi, h⟩
        · exact absurd h (show ¬ (16 : Int) = 2 by decide)
        · exact cond_vars look_known (fst_zero (R := fun i => CondR (lookW q.p ns Q) q.p (q.c i)) (ha 5 (by omega)) i hi) t ((mem_vars t _).2 h)
      · obtain ⟨i, hi, rfl⟩ := (lstS_mem _ _ _).1 h
        have hz : (0 : Int) = itemZ (lookW q.p ns Q) q.p (q.it i) := fst_zero (R := fun i z => z = itemZ (lookW q.p ns Q) q.p (q.it i)) (ha 7 (by omega)) i hi
        unfold itemZ at hz
        split at hz
        · rename_i hm
          exact memB_iff.1 hm
        · cases hz
    · exact fun h => .inl (.inl h)
  have h1 := nodup_le _ _ (sorted_nodup _ (namesQ_sorted q)) fun x hx => (key x).1 hx
  have h2 := nodup_le _ _ (first_nodup (usesP q.p)) fun x hx => (key x).2 hx
  rw [List.length_map] at h1 h2
  exact Nat.le_antisymm h1 h2
/-- Without one condition, the items, maybe the window. -/
def lessQ (q : Qy) (a : Option Addr) (n cap : Nat) (c : Nat → X) (win : Int) : Qy := ⟨q.p, a, n, cap, c, q.key, q.mode, win, none, 0, 0, fun _ => ⟨⟨#[]⟩, 0, ⟨#[]⟩, ⟨#[]⟩⟩⟩
theorem less_well {q : Qy} {ns : Nat} {Q : Nat → Sch} (h : WellR q ns Q 0) (a : Option Addr) (n cap : Nat) (c : Nat → X) (win : Int) (hn : n ≤ q.n) (hc : ∀ i, i < n → ∃ j, j < q.n ∧ c i = q.c j) (hs : (lessQ q a n cap c win).x.size ≤ q.x.size) (hw : (win = q.win) ∨ (win = 0 ∧ ∀ i, ¬ HasTail q.p i)) : WellR (lessQ q a n cap c win) ns Q 0 := by
  have ha := h.all
  refine .inl ⟨rfl, fun j hj => ?_⟩
  have hq : ∀ i, i < 9 → clN q i = 0 := lexN_zero.1 (show (0 : Int) = chkQ q from ha 1 (by omega)).symm
  match j, hj with
  | 0, _ => exact ha 0 (by omega)
  | 1, _ =>
    refine (lexN_zero.2 fun i hi => ?_ : chkQ (lessQ q a n cap c win) = 0).symm
    match i, hi with
    | 0, _ => exact hq 0 (by omega)
    | 1, _ =>
      have h2 : cl2 q = 0 := hq 1 (by omega)
      show cl2 (lessQ q a n cap c win) = 0
      unfold cl2 at h2 ⊢
      split at h2
      · cases h2
      · rw [if_neg]
        show ¬ (16 < n ∨ 16 < 0)
        omega
    | 2, _ =>
      have h2 := lexN_zero.1 (show lexN (fun i => chkX (q.c i)) q.n = 0 from hq 2 (by omega))
      refine lexN_zero.2 fun i hi => ?_
      obtain ⟨j, hj, e⟩ := hc i hi
      show chkX (c i) = 0
      rw [e]; exact h2 j hj
    | 3, _ =>
      have h2 : cl4 q = 0 := hq 3 (by omega)
      show cl4 (lessQ q a n cap c win) = 0
      unfold cl4 at h2 ⊢
      split at h2
      · cases h2
      · rw [if_neg (by omega)]
    | 4, _ =>
      have h2 : cl5 q = 0 := hq 4 (by omega)
      show cl5 (lessQ q a n cap c win) = 0
      unfold cl5 at h2 ⊢
      split at h2
      · cases h2
      · rename_i hh
        rw [if_neg]
        rintro ⟨i, hi, hk⟩
        obtain ⟨j, hj, e⟩ := hc i hi
        exact hh ⟨j, hj, by rw [← e]; exact hk⟩
    | 5, _ => exact hq 5 (by omega)
    | 6, _ => exact hq 6 (by omega)
    | 7, _ =>
      rcases hw with rfl | ⟨rfl, _⟩
      · exact hq 7 (by omega)
      · rfl
    | 8, _ =>
      show cl9 (lessQ q a n cap c win) = 0
      unfold cl9
      rw [if_pos]
      exact ⟨fun i hi => absurd hi (Nat.not_lt_zero _), fun i hi => absurd hi (Nat.not_lt_zero _)⟩
  | 2, _ => exact ha 2 (by omega)
  | 3, _ =>
    rcases hw with rfl | ⟨rfl, hno⟩
    · exact ha 3 (by omega)
    · exact ⟨.inr rfl, fun h => absurd h (by decide), fun h => absurd h.1.choose_spec (hno _)⟩
  | 4, _ => exact ha 4 (by omega)
  | 5, _ =>
    have h2 := fst_zero (R := fun i => CondR (lookW q.p ns Q) q.p (q.c i)) (ha 5 (by omega))
    refine .inl ⟨rfl, fun i hi => ?_⟩
    obtain ⟨j, hj, e⟩ := hc i hi
    show CondR (lookW q.p ns Q) q.p (c i) 0
    rw [e]; exact h2 j hj
  | 6, _ => exact ha 6 (by omega)
  | 7, _ => exact .inl ⟨rfl, fun i hi => absurd hi (Nat.not_lt_zero _)⟩
end Go.Proofs.YtkfpgkohkhhlhaaGreatDoor
namespace Go.Proofs.YtkfpgkohkhhlhaaGreatDoor
open Go.RowKit Go.Maps Go.WideMaps Go.Sort

/-- The row that is gone over first. -/
theorem push_after {q : Qy} {A w1 w2 w3 : World} {n₀ : Nat} {v1 : Value} {a : Option Addr} {cap : Nat} {L : List ByteArray} (hL : L = namesP q.p ++ varsX q.x) (_ : A.heap.size = n₀ + 2) (hb : q.p.size + q.x.size + q.m ≤ 1048576)
    (h1 : w1.ownsRow A.heap.size 9 1 v1 (vs1 (firstL (usesP q.p)) (firstL (usesP q.p)).length).length (vs1 (firstL (usesP q.p)) (firstL (usesP q.p)).length)) (b1 : RowKit.Below A.heap.size A w1) (b2 : RowKit.Below w1.heap.size w1 w2) (b3 : RowKit.Below w2.heap.size w2 w3)
    (hT : Txs w3 a (varsX q.x).length (atS (varsX q.x))) :
    ∃ v5 w5, (Builtin.append_ #[37, 37] 37 #[v1, .slice a (varsX q.x).length cap]).run Tryz.prog w3 = .ok v5 w5 ∧ w5.ownsRow A.heap.size 9 1 v5 L.length (cellsS L) ∧ RowKit.Below A.heap.size A w5 := by
  subst hL
  have e : vs1 (firstL (usesP q.p)) (firstL (usesP q.p)).length = cellsS (namesP q.p) := by simp [vs1, cellsS, namesP, List.take_length]
  rw [e] at h1
  have el : (cellsS (namesP q.p)).length = (namesP q.p).length := by simp [cellsS]
  rw [el] at h1
  have b23 := b2.trans (b3.mono b2.size)
  have h3 := own_laterS h1 b23
  have bA := b1.trans (b23.mono b1.size)
  have hp := namesP_len q.p
  have hx := vars_len q.x
  obtain ⟨v5, w5, hrun, hown, hgr⟩ := push_strs h3 bA.size a (varsX q.x).length cap (atS (varsX q.x)) hT (by omega)
  rw [lstS_all] at hown
  exact ⟨v5, w5, hrun, hown, bA.grown hgr bA.size fun k e => (h3.lt k e).1⟩
set_option maxRecDepth 100000 in
set_option maxHeartbeats 8000000 in
theorem namesQ_any (q : Qy) (w : World) (hQ : IsQ w q) (hok : QOk q) (hsm : q.bulk ≤ 1048576) :
    Calls Tryz.prog 18 #[q.val] w fun e w' => ∃ v, e = .returned v ∧ w'.ownsRow w.heap.size 9 1 v (namesQ q).length (cellsS (namesQ q)) ∧ Below w.heap.size w w' := by
  have hb := hsm
  unfold Qy.bulk at hb
  have hmm := @run_makeMap Tryz.prog
  have HQ : Hid (IsQ w q) := hQ
  have HO : Hid (∀ s ∈ allV q, s.size ≤ maxLen) := allV_ok hok
  have HOK : Hid (QOk q) := hok
  obtain ⟨L, hL⟩ : ∃ L, L = namesP q.p ++ varsX q.x := ⟨_, rfl⟩
  have HL : Hid (L = namesP q.p ++ varsX q.x) := hL
  clear hQ hok hsm hL
  go_enter Tryz.func18, Tryz.ntmps18
  go_upto_region 2 with fail
  obtain ⟨A, hA⟩ : ∃ A, (w.alloc (.cells q.cells 29)).alloc (.map #[] 0) = A := ⟨_, rfl⟩
  have hsz : A.heap.size = w.heap.size + 2 := by rw [← hA]; simp
  have hB : Below w.heap.size w A := by rw [← hA]; exact ((Below.refl _ w).alloc (Nat.le_refl _) _).alloc (by simp) _
  have qb0 : QB A w.heap.size q := by rw [← hA]; exact (alloc_old (by simp)).trans (QB.new w q)
  have mb0 : A.ownsMap Tryz.prog 9 RU (w.heap.size + 1) 0 (.map []) := by
    have := World.ownsMap_made (w.alloc (.cells q.cells 29)) Tryz.prog 9 RU
    rw [World.size_alloc, hA] at this
    exact this
  rw [hA]
  obtain ⟨⟨k0, k1, k2, k3, k4, k5⟩, k6, -⟩ := qb0.at0
  have C1 : Hid (Calls Tryz.prog 17 #[q.p.val] A _) := vars12_any q.p A (HQ.out.p.later hB) (by omega) HOK.out.p
  have C2 : Hid (∀ d, Calls Tryz.prog 60 #[.slice q.a q.n q.cap] d _) := fun d => joined_any q.a q.n q.cap q.c d
  have C3 : Hid (∀ d, RowKit.Below A.heap.size A d → Calls Tryz.prog 43 #[q.x.val] d _) := fun d h => vars_any q.x d (HQ.out.x.later (hB.trans (h.mono hB.size))) (by omega)
  have QB0 : Hid (QB A w.heap.size q) := qb0
  have MB0 : Hid (A.ownsMap Tryz.prog 9 RU (w.heap.size + 1) 0 (.map [])) := mb0
  have HB : Hid (RowKit.Below w.heap.size w A) := hB
  have HSZ : Hid (A.heap.size = w.heap.size + 2) := hsz
  clear hA qb0 mb0 hsz hB hmm
  go_wp2_with (first
    | (go_at_call 17; refine C1.out.mono ?_; rintro e w1 ⟨v1, v2, v3, rfl, hR3, hB1⟩; have d6 := (QB0.out.later hB1).at0.2.1; have HR3 : Hid _ := hR3.o1; clear hR3 k0 k1 k2 k3 k4 k5 k6)
    | (go_at_call 60; refine (C2.out _).mono ?_; rintro e w2 ⟨rfl, hB2⟩)
    | (go_at_call 43; refine (C3.out _ (hB1.trans (hB2.mono hB1.size))).mono ?_; rintro e w3 ⟨v4, rfl, hR4, hB3⟩; obtain ⟨a4, cap4, rfl, hT4, hl4, hc4⟩ := own_txs hR4; obtain ⟨v5, w5, hrun, hown5, hgr5⟩ := push_after (q := q) HL.out HSZ.out hb HR3.out hB1 hB2 hB3 hT4 (cap := cap4); obtain ⟨a5, cap5, rfl, hT5, hl5, hc5⟩ := own_txs hown5; have HR5 : Hid (_ = _) := hrun; clear hrun hR4)
    | (at_builtin; refine wpList_append_run rfl (.tmp 19) (.tmp 23) 37 rfl _ _ _ rfl rfl HR5.out ?_))
  have hB5 : RowKit.Below w.heap.size w w5 := HB.out.trans (hgr5.mono HB.out.size)
  have QB5 : Hid (QB w5 w.heap.size q) := QB0.out.later hgr5
  have hMlt : w.heap.size + 1 < A.heap.size := by have := HSZ.out; omega
  have MB5 : Hid (w5.ownsMap Tryz.prog 9 RU (w.heap.size + 1) 0 (.map [])) := by
    obtain ⟨es, clock, hb', Ft, hs, hD⟩ := MB0.out
    exact ⟨es, clock, (hgr5.block _ hMlt).trans hb', Ft, hs, hD⟩
  have hN5 : w.heap.size + 2 ≤ w5.heap.size := by have := HSZ.out; have := hgr5.size; omega
  have hLl : L.length + q.m ≤ 1048576 := by
    have h1 := namesP_len q.p
    have h2 := vars_len q.x
    rw [HL.out, List.length_append]
    omega
  have HT5 : Hid (Txs w5 a5 L.length (atS L) ∧ ∀ b o, a5 = some ⟨b, o, none⟩ → 0 < L.length → w.heap.size + 2 ≤ b) := by
    refine ⟨hT5, fun b o e h0 => ?_⟩
    rcases hown5.2 with ⟨e', _⟩ | ⟨g, cap, cur, e', hg, _⟩
    · injection e' with e1 _ _
      rw [e1] at e; cases e
    · injection e' with e1 _ _
      rw [e1] at e; cases e
      have := HSZ.out; omega
  clear hT4 hl4 hc4 hT5 hl5 hc5 hown5 hgr5 hB1 hB2 hB3 HR3 HR5 C1 C2 C3 QB0 MB0 HSZ d6 hMlt HB
  have HAL : Hid (∀ k, k < L.length → (atS L k).size ≤ maxLen) := fun k hk => by
    refine HO.out _ ?_
    rw [allV, List.mem_append, ← HL.out]
    refine .inl ?_
    unfold atS
    rw [List.getD_eq_getElem?_getD, List.getElem?_eq_getElem hk]
    exact List.getElem_mem hk
  have HTS : Hid (∀ k, k < L.length → L.take (k + 1) = L.take k ++ [atS L k]) := fun k hk => take_snoc _ k hk
  go_loopw [26] (fun v wr => ∃ k : Nat, k ≤ L.length ∧ v = .int .i64 k ∧ (∃ D, wr.ownsMap Tryz.prog 9 RU (w.heap.size + 1) k D ∧ Hid (Hs (L.take k) D)) ∧ Lb w5.heap.size (w.heap.size + 1) w5 wr) (fun v _ => L.length - (intOf v).toNat)
  case atStart => exact ⟨0, Nat.zero_le _, rfl, ⟨_, MB5.out, hs_none⟩, Lb.refl _ _ _⟩
  case round =>
    obtain ⟨k, hk, rfl, ⟨D, hown, HH⟩, hLb⟩ := hrel
    by_cases hkn : k < L.length
    · obtain ⟨⟨b, o, rfl, hcs⟩, hbo⟩ := And.intro (HT5.out.1 (by omega)) HT5.out.2
      have hbm := hbo b o rfl (by omega)
      have hblt := World.block_lt_of_cell? w5 _ (hcs k hkn)
      have c0 : wr.cell? ⟨b, o + k, none⟩ = some (.string (atS L k)) := by
        rw [World.cell?_of_block (w := w5) (w' := wr) (a := ⟨b, o + k, none⟩) (hLb.block b hblt (by omega))]
        exact hcs k hkn
      have HKN : Hid (k < L.length) := hkn
      have hkey : keyOf Tryz.prog 9 (.string (atS L k)) = some (keyS (atS L k)) := keyOf_string_mk Tryz.underlying9 (HAL.out k hkn)
      clear hcs hbo
      go_wp2_with (first
        | (at_mapUpdate; refine wpList_mapUpdate_own _ rfl _ _ _ 106 rfl 9 108 str_law Tryz.underlying106 RU (w.heap.size + 1) k _ rfl hown (by unfold maxLen; omega) _ _ _ rfl rfl hkey _ [] rfl ?_; intro w1 hown1 hgrow1)
        | go_in)
      go_roundw
      case rel => exact ⟨k + 1, by omega, by go_num, ⟨_, hown1, by show Hs _ _; rw [HTS.out k HKN.out]; exact HH.out.more hown.isMap (hown.tidy str_law) _ _⟩, hLb.trans (Lb.grown hgrow1 hLb.size)⟩
      case measure => simp [intOf]; omega
    · obtain rfl : k = L.length := by omega
      have QB6 : QB wr w.heap.size q := (hLb.block _ (by omega) (by omega)).trans QB5.out
      have c10 := QB6.at0.2.2.2.2.2
      have hH6 : Hs L D := by have := HH.out; rw [List.take_length] at this; exact this
      have HH6 : Hid (Hs L D) := hH6
      have hB6 : RowKit.Below w.heap.size w wr := hB5.trans (hLb.below (by omega) (by omega))
      have HITS : Hid (Its w q.ia q.m q.it) := HQ.out.it
      have HOI : Hid (∀ i, i < q.m → (q.it i).s.size ≤ maxLen) := fun i hi => (HOK.out.it i hi).2.1
      clear HH hH6 QB6 HT5 HAL HTS hk hkn
      go_wp2_with fail
      obtain ⟨w6, hw6⟩ : ∃ w6, w6 = wr := ⟨_, rfl⟩
      rw [← hw6] at hB6 hown hLb ⊢
      clear c10 hw6
      have hM6 : w.heap.size + 1 < w6.heap.size := by have := hLb.size; omega
      go_loopw [37] (fun v wr => ∃ k : Nat, k ≤ q.m ∧ v = .int .i64 k ∧ (∃ D, wr.ownsMap Tryz.prog 9 RU (w.heap.size + 1) (L.length + k) D ∧ Hid (Hs (L ++ lstS (fun i => (q.it i).s) k) D)) ∧ Lb w6.heap.size (w.heap.size + 1) w6 wr) (fun v _ => q.m - (intOf v).toNat)
      case atStart => exact ⟨0, Nat.zero_le _, rfl, ⟨D, hown, by show Hs _ _; rw [lstS, List.append_nil]; exact HH6.out⟩, Lb.refl _ _ _⟩
      case round =>
        obtain ⟨k, hk, rfl, ⟨D2, hown2, HH2⟩, hLb2⟩ := hrel
        have hBr : RowKit.Below w.heap.size w wr := hB6.trans (hLb2.below (by omega) (by omega))
        by_cases hkn : k < q.m
        · obtain ⟨b, o, ea, i0, i1, i2, i3⟩ := (HITS.out.later hBr) k hkn
          rw [ea]
          have HKN : Hid (k < q.m) := hkn
          have hkey : keyOf Tryz.prog 9 (.string (q.it k).s) = some (keyS (q.it k).s) := keyOf_string_mk Tryz.underlying9 (HOI.out k hkn)
          have hownA : (wr.alloc (.cells (q.it k).cells 77)).ownsMap Tryz.prog 9 RU (w.heap.size + 1) (L.length + k) D2 := hown2.alloc _
          have HLA : Hid (Lb w6.heap.size (w.heap.size + 1) w6 (wr.alloc (.cells (q.it k).cells 77))) := hLb2.trans (.of_below ((RowKit.Below.refl _ _).alloc hLb2.size _))
          clear ea
          go_wp2_with (first
            | (at_mapUpdate; refine wpList_mapUpdate_own _ rfl _ _ _ 106 rfl 9 108 str_law Tryz.underlying106 RU (w.heap.size + 1) (L.length + k) _ rfl hownA (by unfold maxLen; omega) _ _ _ rfl rfl hkey _ [] rfl ?_; intro w1 hown1 hgrow1)
            | go_in)
          refine ⟨⟨k + 1, hkn, by simp, ⟨_, by rw [← Nat.add_assoc]; exact hown1, ?_⟩, HLA.out.trans (Lb.grown hgrow1 HLA.out.size)⟩, ?_⟩
          · show Hs _ _
            rw [lstS, ← List.append_assoc]
            exact HH2.out.more hown2.isMap (hown2.tidy str_law) _ _
          · simp [intOf]
            omega
        · obtain rfl : k = q.m := by omega
          have hH : Hs (allV q) D2 := by have := HH2.out; rw [HL.out] at this; exact this
          have hsz : Maps.size D2 ≤ 1048576 := by
            have h1 := HH2.out.le
            rw [List.length_append, lstS_len] at h1
            omega
          have C5 : Hid (∀ mb d, Calls Tryz.prog 61 #[.map mb] d _) := fun mb d => keysM_any mb d
          have C6 : Hid (Calls Tryz.prog 38 #[.func (.func 109) #[] #[.pointer (some ⟨wr.heap.size, 0, none⟩)]] (wr.alloc (.cells #[.map (some (w.heap.size + 1))] 106)) _) := sortedM_any (w.heap.size + 1) (L.length + q.m) D2 RU wr hown2 (by unfold maxLen; omega) (by omega)
          have HSK : Hid (∀ ss : List (List UInt8), ss.Perm (strKeys D2) → (sortB ss).map encStr = cellsS (namesQ q) ∧ ss.length = (namesQ q).length) := fun ss hp => sorted_keys hown2 (namesQ_sorted q) (fun s => by rw [namesQ_mem]; exact (hH.has s).symm) hp
          clear hH hsz
          go_wp2_with (first
            | (go_at_call 61; refine (C5.out _ _).mono ?_; rintro e w7 ⟨rfl, hw7⟩; subst hw7)
            | (go_at_call 38; refine C6.out.mono ?_; rintro e w8 ⟨v8, ss, rfl, hperm, hrow, hB8⟩))
          go_ret
          obtain ⟨hc1, hc2⟩ := HSK.out ss hperm
          rw [hc1, hc2] at hrow
          refine ⟨v8, rfl, own_low hrow ?_, hBr.trans ?_⟩
          · simp
            have := hBr.size
            omega
          · exact ((RowKit.Below.refl _ _).alloc hBr.size _).trans (hB8.mono (by simp; have := hBr.size; omega))
end Go.Proofs.YtkfpgkohkhhlhaaGreatDoor
namespace Go.Proofs.YtkfpgkohkhhlhaaGreatDoor
open Go.RowKit

/-- The cells of some nodes, one behind the other. -/
def rowX (c : Nat → X) : Nat → List Value
  | 0 => []
  | n + 1 => rowX c n ++ (c n).cells.toList
theorem rowX_len (c : Nat → X) : ∀ n, (rowX c n).length = n * 7
  | 0 => rfl
  | n + 1 => by rw [rowX, List.length_append, rowX_len c n]; simp; omega
theorem rowX_get (c : Nat → X) : ∀ n i j, i < n → j < 7 → (rowX c n)[i * 7 + j]? = (c i).cells[j]?
  | 0, _, _, h, _ => by omega
  | n + 1, i, j, h, hj => by
    rw [rowX]
    by_cases e : i = n
    · subst e
      rw [List.getElem?_append_right (by rw [rowX_len]; omega), rowX_len, show i * 7 + j - i * 7 = j by omega]
      simp
    · rw [List.getElem?_append_left (by rw [rowX_len]; omega)]
      exact rowX_get c n i j (by omega) hj
theorem rowX_one (c : Nat → X) : ∀ n, ∀ u ∈ rowX c n, u.oneCell' = true
  | 0, u, h => by simp [rowX] at h
  | n + 1, u, h => by
    rw [rowX, List.mem_append] at h
    rcases h with h | h
    · exact rowX_one c n u h
    · simp at h
      rcases h with rfl | rfl | rfl | rfl | rfl | rfl | rfl <;> rfl
theorem rowX_congr {c d : Nat → X} : ∀ {n : Nat}, (∀ i, i < n → c i = d i) → rowX c n = rowX d n
  | 0, _ => rfl
  | n + 1, h => by rw [rowX, rowX, rowX_congr fun i hi => h i (by omega), h n (by omega)]
theorem add_at (b o j : Nat) : (Addr.mk b o none).add j = ⟨b, o + j, none⟩ := by
  unfold Addr.add
  split
  · simp
  · rfl
/-- Nodes, one behind the other, as cells. -/
theorem nodes_cells {w : World} {b o n : Nat} {c : Nat → X} (h : ∀ i, i < n → Node w b (o + i * 7) (c i)) : ∀ j u, (rowX c n)[j]? = some u → w.cell? ((Addr.mk b o none).add j) = some u := by
  intro j u hu
  have hj : j < n * 7 := by have := (List.getElem?_eq_some_iff.1 hu).1; rwa [rowX_len] at this
  have hi : j / 7 < n := by omega
  have hm : j % 7 < 7 := Nat.mod_lt _ (by omega)
  have he : j / 7 * 7 + j % 7 = j := by omega
  have := rowX_get c n (j / 7) (j % 7) hi hm
  rw [he, hu] at this
  rw [add_at]
  obtain ⟨d0, d1, d2, d3, d4, d5, d6⟩ := h (j / 7) hi
  obtain ⟨m, hm'⟩ : ∃ m, m = j % 7 := ⟨_, rfl⟩
  rw [← hm'] at this hm he
  rw [show o + j = o + j / 7 * 7 + m by omega]
  match m, hm with
  | 0, _ => simp at this; rw [this]; exact d0
  | 1, _ => simp at this; rw [this]; exact d1
  | 2, _ => simp at this; rw [this]; exact d2
  | 3, _ => simp at this; rw [this]; exact d3
  | 4, _ => simp at this; rw [this]; exact d4
  | 5, _ => simp at this; rw [this]; exact d5
  | 6, _ => simp at this; rw [this]; exact d6
/-- A block of cells that may be written. -/
def Free (w : World) (b : Nat) : Prop := ∃ cur, w.heap[b]? = some (.cells cur 54 (0, 0))
theorem Free.frozen {w : World} {b : Nat} (h : Free w b) (o : Nat) : w.frozen? ⟨b, o, none⟩ = false := by
  obtain ⟨cur, h⟩ := h
  simp [World.frozen?, h]
/-- A row that a call owns, node by node. -/
theorem own_nodes {w : World} {base n : Nat} {v : Value} {c : Nat → X} (h : w.ownsRow base 54 7 v n (rowX c n)) :
    ∃ a cap, v = .slice a n cap ∧ n ≤ cap ∧ cap ≤ maxLen ∧ (0 < n → ∃ g, a = some ⟨g, 0, none⟩ ∧ base ≤ g ∧ g < w.heap.size ∧ Free w g ∧ ∀ i, i < n → Node w g (i * 7) (c i)) := by
  rcases h.2 with ⟨rfl, rfl⟩ | ⟨g, cap, cur, rfl, hg, hc, hnc, hcm, hs, ht⟩
  · exact ⟨none, 0, rfl, Nat.le_refl _, Nat.zero_le _, fun h => by omega⟩
  · refine ⟨_, cap, rfl, hnc, hcm, fun h0 => ⟨g, rfl, hg, (Array.getElem?_eq_some_iff.1 hc).1, ⟨cur, hc⟩, fun i hi => ?_⟩⟩
    have key : ∀ j, j < 7 → w.cell? ⟨g, i * 7 + j, none⟩ = (c i).cells[j]? := by
      intro j hj
      rw [← rowX_get c n i j hi hj, ← ht, List.getElem?_take_of_lt (by omega)]
      simp only [World.cell?, hc]
      rw [Array.getElem?_toList]
      rfl
    exact ⟨key 0 (by omega), key 1 (by omega), key 2 (by omega), key 3 (by omega), key 4 (by omega), key 5 (by omega), key 6 (by omega)⟩
theorem infoX : (Tryz.prog.info? 54).map (fun i => (i.zero, i.size, i.bytes)) = some (some (.agg #[.int .i64 0, .int .i64 0, .int .i64 0, .string ⟨#[]⟩, .string ⟨#[]⟩, .string ⟨#[]⟩, .slice none 0 0]), 7, 96) := by kernel_rfl
/-- Some nodes more behind a row that the call owns. -/
theorem push_x {w : World} {base n : Nat} {v : Value} {xs : List Value} (h : w.ownsRow base 54 7 v n xs) (hb : base ≤ w.heap.size) (p : Addr) (m k : Nat) (c : Nat → X) (hm : ∀ i, i < m → ∃ b o, p = ⟨b, o, none⟩ ∧ Node w b (o + i * 7) (c i)) (hn : n + m ≤ 16777216) :
    ∃ v' w', (Builtin.append_ #[26, 26] 26 #[v, .slice (some p) m k]).run Tryz.prog w = .ok v' w' ∧ w'.ownsRow base 54 7 v' (n + m) (xs ++ rowX c m) ∧ w.grownBy w' v.ownBlock := by
  obtain ⟨i0, hi, hz0, hz1, hz2⟩ := info_parts infoX
  obtain ⟨v', w', hrun, hown', hgrow, _⟩ := run_append_own (P := Tryz.prog) (w := w) base 26 26 54 i0 _ 7 96 Tryz.underlying26 hi hz0 hz1 hz2 rfl (by decide) v n xs h p m k (rowX c m) (rowX_len c m)
    (fun j u hu => by
      have h0 : 0 < m := by
        have := (List.getElem?_eq_some_iff.1 hu).1
        rw [rowX_len] at this
        omega
      obtain ⟨b, o, rfl, _⟩ := hm 0 h0
      refine nodes_cells (fun i hi => ?_) j u hu
      obtain ⟨b', o', e, hn'⟩ := hm i hi
      cases e
      exact hn') (rowX_one c m) (by unfold maxLen; omega) (by omega) hb
  exact ⟨v', w', hrun, hown', hgrow⟩
end Go.Proofs.YtkfpgkohkhhlhaaGreatDoor
namespace Go.Proofs.YtkfpgkohkhhlhaaGreatDoor
open Go.RowKit

abbrev zeroQ : Array Value := #[.int .i64 0, .string ⟨#[]⟩, .string ⟨#[]⟩, .int .i64 0, .int .i64 0, .slice none 0 0, .slice none 0 0, .string ⟨#[]⟩, .int .i64 0, .int .i64 0, .slice none 0 0]
/-- A new box, and a query put into it. -/
theorem boxQ_put (q : Qy) (w : World) : ∃ A W, w.alloc (.cells zeroQ 29) = A ∧ A.heap[w.heap.size]? = some (.cells zeroQ 29 (0, 0)) ∧
    ((((((((((A.setCell ⟨w.heap.size, 0, none⟩ (.int .i64 q.p.k)).setCell ⟨w.heap.size, 1, none⟩ (.string q.p.s)).setCell ⟨w.heap.size, 2, none⟩ (.string q.p.t)).setCell ⟨w.heap.size, 3, none⟩ (.int .i64 q.p.lo)).setCell ⟨w.heap.size, 4, none⟩ (.int .i64 q.p.hi)).setCell ⟨w.heap.size, 5, none⟩ (.slice q.p.a q.p.n q.p.cap)).setCell ⟨w.heap.size, 6, none⟩ (.slice q.a q.n q.cap)).setCell ⟨w.heap.size, 7, none⟩ (.string q.key)).setCell ⟨w.heap.size, 8, none⟩ (.int .i64 q.mode)).setCell ⟨w.heap.size, 9, none⟩ (.int .i64 q.win)).setCell ⟨w.heap.size, 10, none⟩ (.slice q.ia q.m q.icap) = W ∧
    Below w.heap.size w W ∧ QB W w.heap.size q ∧ W.heap.size = w.heap.size + 1 := by
  have h0 : (w.alloc (.cells zeroQ 29)).heap[w.heap.size]? = some (.cells zeroQ 29 (0, 0)) := World.alloc_heap_new w _
  have hs : ∀ {W : World} {o : Nat} {v : Value}, Below w.heap.size w W → Below w.heap.size w (W.setCell ⟨w.heap.size, o, none⟩ v) := fun {W o v} h => h.setCell (p := ⟨w.heap.size, o, none⟩) (Nat.le_refl _) v
  refine ⟨_, _, rfl, h0, rfl, hs (hs (hs (hs (hs (hs (hs (hs (hs (hs (hs ((Below.refl _ w).alloc (Nat.le_refl _) _))))))))))), ?_, by simp⟩
  unfold QB
  rw [heap_set (heap_set (heap_set (heap_set (heap_set (heap_set (heap_set (heap_set (heap_set (heap_set (heap_set h0))))))))))]
  simp
theorem zero_cellsQ {w : World} {B : Nat} (h : w.heap[B]? = some (.cells zeroQ 29 (0, 0))) : (w.cell? ⟨B, 0, none⟩ = some (.int .i64 0) ∧ w.cell? ⟨B, 1, none⟩ = some (.string ⟨#[]⟩) ∧ w.cell? ⟨B, 2, none⟩ = some (.string ⟨#[]⟩) ∧ w.cell? ⟨B, 3, none⟩ = some (.int .i64 0) ∧ w.cell? ⟨B, 4, none⟩ = some (.int .i64 0) ∧ w.cell? ⟨B, 5, none⟩ = some (.slice none 0 0) ∧ w.cell? ⟨B, 6, none⟩ = some (.slice none 0 0) ∧ w.cell? ⟨B, 7, none⟩ = some (.string ⟨#[]⟩) ∧ w.cell? ⟨B, 8, none⟩ = some (.int .i64 0) ∧ w.cell? ⟨B, 9, none⟩ = some (.int .i64 0) ∧ w.cell? ⟨B, 10, none⟩ = some (.slice none 0 0)) ∧
    ∀ j, w.frozen? ⟨B, j, none⟩ = false := by
  refine ⟨⟨?_, ?_, ?_, ?_, ?_, ?_, ?_, ?_, ?_, ?_, ?_⟩, fun j => ?_⟩ <;> simp [World.cell?, World.frozen?, h]
/-- Without the one at k. -/
def dropC (c : Nat → X) (k i : Nat) : X := if i < k then c i else c (i + 1)
theorem rowX_add (c : Nat → X) : ∀ (n m : Nat), rowX c (n + m) = rowX c n ++ rowX (fun i => c (n + i)) m
  | n, 0 => by simp [rowX]
  | n, m + 1 => by rw [← Nat.add_assoc, rowX, rowX_add c n m, rowX, List.append_assoc]
theorem rowX_drop (c : Nat → X) (k m : Nat) : rowX (dropC c k) (k + m) = rowX c k ++ rowX (fun i => c (k + 1 + i)) m := by
  rw [rowX_add, rowX_congr (c := dropC c k) (d := c) (fun i hi => by simp [dropC, hi]), rowX_congr (c := fun i => dropC c k (k + i)) (d := fun i => c (k + 1 + i)) (fun i hi => by simp only [dropC]; rw [if_neg (by omega), show k + i + 1 = k + 1 + i by omega])]
theorem sumN_drop (f : Nat → Nat) (k m : Nat) : sumN (fun i => if i < k then f i else f (i + 1)) (k + m) + f k = sumN f (k + m + 1) := by
  induction m with
  | zero =>
    simp only [Nat.add_zero, sumN]
    rw [sumN_congr (f := fun i => if i < k then f i else f (i + 1)) (g := f) (fun i hi => by simp [hi])]
  | succ m ih =>
    rw [show k + (m + 1) = (k + m) + 1 from rfl]
    simp only [sumN] at ih ⊢
    rw [if_neg (by omega)]
    omega
theorem own_set {w : World} {base t n B o : Nat} {v u : Value} {xs : List Value} (h : w.ownsRow base t 7 v n xs) (hB : B < base) : (w.setCell ⟨B, o, none⟩ u).ownsRow base t 7 v n xs := by
  refine ⟨h.1, ?_⟩
  rcases h.2 with h | ⟨g, cap, cur, e, hg, hc, rest⟩
  · exact .inl h
  · exact .inr ⟨g, cap, cur, e, hg, (Below.heap_setCell w ⟨B, o, none⟩ u g (Nat.ne_of_gt (Nat.lt_of_lt_of_le hB hg))).trans hc, rest⟩
/-- What is asked at last: its box, what lies in it. -/
structure LessW (w5 W : World) (q : Qy) (ns : Nat) (Q : Nat → Sch) (a : Option Addr) (n cap : Nat) (c : Nat → X) : Prop where
  qb : QB W w5.heap.size (lessQ q a n cap c q.win)
  bw : Below w5.heap.size w5 W
  isq : ∀ V win, Bt w5.heap.size W V → IsQ V (lessQ q a n cap c win)
  ok : ∀ win, QOk (lessQ q a n cap c win)
  sm : ∀ win, (lessQ q a n cap c win).bulk ≤ 1048576
  wl : ∀ win, (win = q.win ∨ (win = 0 ∧ ∀ i, ¬ HasTail q.p i)) → WellR (lessQ q a n cap c win) ns Q 0
theorem lessW_none {w5 W : World} {q : Qy} {ns : Nat} {Q : Nat → Sch} (hw : WellR q ns Q 0) (hQ : IsQ w5 q) (hok : QOk q) (hsm : q.bulk ≤ 1048576) (hqb : QB W w5.heap.size (lessQ q q.a q.n q.cap q.c q.win)) (hB : Below w5.heap.size w5 W) : LessW w5 W q ns Q q.a q.n q.cap q.c := by
  refine ⟨hqb, hB, fun V win hV => ?_, fun win => ?_, fun win => ?_, fun win hwin => ?_⟩
  · have h2 := hQ.later (hB.trans hV.1)
    exact ⟨h2.p, h2.x, fun i hi => absurd hi (Nat.not_lt_zero _), Nat.le_refl _, Nat.zero_le _⟩
  · exact ⟨hok.p, hok.x, hok.key, fun i hi => absurd hi (Nat.not_lt_zero _)⟩
  · unfold Qy.bulk at hsm ⊢
    show q.p.size + q.x.size + 0 ≤ _
    omega
  · exact less_well hw q.a q.n q.cap q.c win (Nat.le_refl _) (fun i hi => ⟨i, hi, rfl⟩) (Nat.le_refl _) hwin
theorem lessW_drop {w5 W : World} {q : Qy} {ns : Nat} {Q : Nat → Sch} {a : Option Addr} {cap base k m : Nat} (hw : WellR q ns Q 0) (hQ : IsQ w5 q) (hok : QOk q) (hsm : q.bulk ≤ 1048576) (hn : q.n = k + m + 1) (hbase : w5.heap.size < base) (ho : W.ownsRow base 54 7 (.slice a (k + m) cap) (k + m) (rowX (dropC q.c k) (k + m))) (hqb : QB W w5.heap.size (lessQ q a (k + m) cap (dropC q.c k) q.win)) (hB : Below w5.heap.size w5 W) : LessW w5 W q ns Q a (k + m) cap (dropC q.c k) := by
  have hdrop : ∀ i, i < k + m → ∃ j, j < q.n ∧ dropC q.c k i = q.c j := fun i hi => by
    unfold dropC
    split
    · exact ⟨i, by omega, rfl⟩
    · exact ⟨i + 1, by omega, rfl⟩
  have hsz : (lessQ q a (k + m) cap (dropC q.c k) q.win).x.size ≤ q.x.size := by
    rw [X.size_eq, X.size_eq q.x]
    show 1 + sumN (fun i => (dropC q.c k i).size) (k + m) ≤ 1 + sumN (fun i => (q.c i).size) q.n
    have := sumN_drop (fun i => (q.c i).size) k m
    rw [hn]
    rw [sumN_congr (f := fun i => (dropC q.c k i).size) (g := fun i => if i < k then (q.c i).size else (q.c (i + 1)).size) (fun i _ => by unfold dropC; split <;> rfl)]
    omega
  refine ⟨hqb, hB, fun V win hV => ?_, fun win => ?_, fun win => ?_, fun win hwin => ?_⟩
  · have h2 := hQ.later (hB.trans hV.1)
    refine ⟨h2.p, ?_, fun i hi => absurd hi (Nat.not_lt_zero _), Nat.le_refl _, Nat.zero_le _⟩
    obtain ⟨a', cap', e, h1, h3, h4⟩ := own_nodes ho
    cases e
    rw [isX_eq]
    refine ⟨h1, by unfold maxLen at h3; show cap ≤ _; omega, fun i hi => ?_⟩
    obtain ⟨g, rfl, hg, hlt, _, hnd⟩ := h4 (by have : i < k + m := hi; omega)
    refine ⟨g, 0, rfl, ?_, ?_⟩
    · rw [Nat.zero_add]
      refine (hnd i hi).of fun j _ => ?_
      simp only [World.cell?]
      rw [hV.2 g hlt (by omega)]
    · obtain ⟨j, hj, e⟩ := hdrop i hi
      obtain ⟨_, _, _, _, hx⟩ := h2.x.part (i := j) hj
      show IsX V (dropC q.c k i)
      rw [e]
      exact hx
  · refine ⟨hok.p, ?_, hok.key, fun i hi => absurd hi (Nat.not_lt_zero _)⟩
    obtain ⟨hx1, hx2, hx3⟩ := (xOk_eq q.x).1 hok.x
    rw [xOk_eq]
    refine ⟨hx1, hx2, fun i hi => ?_⟩
    obtain ⟨j, hj, e⟩ := hdrop i hi
    show XOk (dropC q.c k i)
    rw [e]
    exact hx3 j hj
  · unfold Qy.bulk at hsm ⊢
    have hsz' : (lessQ q a (k + m) cap (dropC q.c k) win).x.size ≤ q.x.size := hsz
    show q.p.size + _ + 0 ≤ _
    omega
  · exact less_well hw a (k + m) cap (dropC q.c k) win (by omega) hdrop hsz hwin
set_option maxRecDepth 100000 in
set_option maxHeartbeats 1000000 in
theorem wellRight_walk (a : Option Addr) (ns cs : Nat) (Q : Nat → Sch) (q : Qy) (t : Nat) (N T : Addr) (w : World) (hS : Schs w a ns Q) (hQ : IsQ w q) (hok : QOk q) (hsm : q.bulk ≤ 1048576) (ht : t < 256) (hSe : Sens w N T) (hE : w.cell? ⟨0, 0, none⟩ = some (rty 66)) :
    Calls Tryz.prog 5 #[.slice a ns cs, q.val, .int .u8 (t : Nat)] w fun e w' => e = .returned (.bool true) ∧ Below w.heap.size w w' := by
  obtain ⟨A, hA⟩ : ∃ A, w.alloc (.cells q.cells 29) = A := ⟨_, rfl⟩
  have hqb : QB A w.heap.size q := by rw [← hA]; exact QB.new w q
  have hBA : Below w.heap.size w A := by rw [← hA]; exact (Below.refl _ w).alloc (Nat.le_refl _) _
  have hsA : A.heap.size = w.heap.size + 1 := by rw [← hA]; simp
  have hps : q.p.size ≤ 1048576 := by unfold Qy.bulk at hsm; omega
  obtain ⟨⟨d0, d1, d2, d3, d4, d5⟩, d6, d7, d8, d9, d10⟩ := hqb.at0
  have C1 := checkW_any a ns cs Q q N T A (hS.later hBA) (hQ.later hBA) hok hsm (hSe.later hBA) (cell_later hE hBA)
  have CA : Hid (∀ d, Below A.heap.size A d → Calls Tryz.prog 7 #[] d fun e w' => e = .returned (.bool true) ∧ Below d.heap.size d w') := fun d hd => awake14_any N T d ((hSe.later hBA).later hd) (cell_later (cell_later hE hBA) hd)
  have CK : Hid (∀ d L, Below A.heap.size A d → IsQ d L → QOk L → L.bulk ≤ 1048576 → WellR L ns Q 0 → Calls Tryz.prog 8 #[.slice a ns cs, L.val] d fun e w' => e = .returned (.int .i64 0) ∧ Below d.heap.size d w') := fun d L hd h1 h2 h3 h4 => (checkW_any a ns cs Q L N T d ((hS.later hBA).later hd) h1 h2 h3 ((hSe.later hBA).later hd) (cell_later (cell_later hE hBA) hd)).mono (by rintro e w' ⟨z, rfl, hz, hB⟩; exact ⟨by rw [hz.one h4], hB⟩)
  have C2 : Hid (∀ d, Below A.heap.size A d → Calls Tryz.prog 15 #[q.val] d _) := fun d hd => checkQ_any q d ((hQ.later hBA).later hd) hok hsm
  have C3 : Hid (∀ d, Below A.heap.size A d → Calls Tryz.prog 16 #[q.p.val] d _) := fun d hd => madeP_any q.p d ((hQ.p.later hBA).later hd) hps hok.p
  have C4 : Hid (∀ d, Below A.heap.size A d → Calls Tryz.prog 17 #[q.p.val] d _) := fun d hd => vars12_any q.p d ((hQ.p.later hBA).later hd) hps hok.p
  have C5 : Hid (∀ d, Below A.heap.size A d → Calls Tryz.prog 18 #[q.val] d _) := fun d hd => namesQ_any q d ((hQ.later hBA).later hd) hok hsm
  have HQ : Hid (IsQ A q) := hQ.later hBA
  have HOK : Hid (QOk q) := hok
  have HSM : Hid (q.bulk ≤ 1048576) := hsm
  have HPS : Hid (q.p.size ≤ 1048576) := hps
  have HQB : Hid (QB A w.heap.size q) := hqb
  have HBA : Hid (Below w.heap.size w A) := hBA
  have HSA : Hid (A.heap.size = w.heap.size + 1) := hsA
  clear hqb hBA hS hQ hok hsm hSe hE hps hsA
  go_enter Tryz.func5, Tryz.ntmps5
  go_wp2_with (first
    | (go_at_call 8; refine C1.mono ?_; clear C1; rintro e w1 ⟨z, rfl, hz, hB1⟩; obtain ⟨⟨b0, b1, b2, b3, b4, b5⟩, b6, b7, b8, b9, b10⟩ := (HQB.out.later hB1).at0; clear d0 d1 d2 d3 d4 d5 d6 d7 d8 d9 d10; by_cases hz0 : z = 0)
    | (go_at_call 7; refine (CA.out w1 hB1).mono ?_; clear CA; rintro e w2 ⟨rfl, hB2⟩)
    | (go_at_call 15; subst hz0; refine (C2.out w1 hB1).mono ?_; clear C2 b0 b1 b2 b3 b4 b5 b6 b7 b8 b9 b10; rintro e w2 ⟨rfl, hB2⟩; have hq0 : chkQ q = 0 := (hz.all 1 (by omega)).symm; rw [hq0]; have hBA2 := hB1.trans (hB2.mono hB1.size); obtain ⟨⟨e0, e1, e2, e3, e4, e5⟩, -⟩ := (HQB.out.later hBA2).at0)
    | (go_at_call 16; refine (C3.out w2 hBA2).mono ?_; clear C3 e0 e1 e2 e3 e4 e5; rintro e w3 ⟨z3, rfl, hz3, hB3⟩; obtain rfl := made_one hz3 (hz.all 2 (by omega)); have hBA3 := hBA2.trans (hB3.mono hBA2.size); obtain ⟨⟨f0, f1, f2, f3, f4, f5⟩, -⟩ := (HQB.out.later hBA3).at0)
    | (go_at_call 17; refine (C4.out w3 hBA3).mono ?_; clear C4 f0 f1 f2 f3 f4 f5; rintro e w4 ⟨v1, v2, v3, rfl, hR3, hB4⟩; obtain ⟨a1, c1, rfl⟩ := row_slice hR3.o1; obtain ⟨a2, c2, rfl⟩ := row_slice hR3.o2; obtain ⟨a3, c3, rfl⟩ := row_slice hR3.o3; have hBA4 := hBA3.trans (hB4.mono hBA3.size); obtain ⟨⟨g0, g1, g2, g3, g4, g5⟩, g6, g7, g8, g9, g10⟩ := (HQB.out.later hBA4).at0))
  · refine (C5.out w4 hBA4).mono ?_
    clear C5 g0 g1 g2 g3 g4 g5 g6 g7 g8 g9 g10
    rintro e w5 ⟨v5, rfl, ho5, hB5⟩
    obtain ⟨a5, c5, rfl⟩ := row_slice ho5
    have hBA5 := hBA4.trans (hB5.mono hBA4.size)
    obtain ⟨⟨k0, k1, k2, k3, k4, k5⟩, k6, k7, k8, k9, k10⟩ := (HQB.out.later hBA5).at0
    have hl : (namesQ q).length = (vs1 (firstL (usesP q.p)) (firstL (usesP q.p)).length).length := by rw [names_well hz]; simp [vs1, fstL]
    rw [hl]
    clear ho5 hR3 hl hB5 hB4 hB3 hB2
    obtain ⟨A6, W6, hA6, h06, hW6, hB6, hq6, hs6⟩ := boxQ_put q w5
    obtain ⟨⟨z0, z1, z2, z3, z4, z5, z6, z7, z8, z9, z10⟩, zf⟩ := zero_cellsQ h06
    obtain ⟨W7, hW7⟩ : ∃ W7, W6.setCell ⟨w5.heap.size, 10, none⟩ (.slice none 0 0) = W7 := ⟨_, rfl⟩
    have hq7 : QB W7 w5.heap.size (lessQ q q.a q.n q.cap q.c q.win) := by rw [← hW7]; exact heap_set hq6
    have hB7 : Below w5.heap.size w5 W7 := by rw [← hW7]; exact hB6.setCell (p := ⟨w5.heap.size, 10, none⟩) (Nat.le_refl _) _
    have hf6 := hq6.frozen 10
    obtain ⟨-, -, -, -, -, x10⟩ := hq6.at0
    have hBA7 := hBA5.trans (hB7.mono hBA5.size)
    obtain ⟨⟨l0, l1, l2, l3, l4, l5⟩, l6, -⟩ := (HQB.out.later hBA7).at0
    have HQ7 : Hid (QB W7 w5.heap.size (lessQ q q.a q.n q.cap q.c q.win)) := hq7
    have HB7 : Hid (Below w5.heap.size w5 W7) := hB7
    have HBA7 : Hid (Below A.heap.size A W7) := hBA7
    have HBA5 : Hid (Below A.heap.size A w5) := hBA5
    clear hq7 hB7 hq6 hB6 hs6 h06 hBA7 hBA5 hBA4 hBA3 hBA2
    by_cases hn : q.n = 0
    · have tn : ¬ (0 : Int) < (q.n : Int) := by omega
      have HN : Hid (q.n = 0) := hn
      clear hn
      have LS : Hid (LessW w5 W7 q ns Q q.a q.n q.cap q.c) := lessW_none hz (HQ.out.later HBA5.out) HOK.out HSM.out HQ7.out HB7.out
      have HBAW : Hid (Below A.heap.size A W7) := HBA7.out
      go_wp2_with fail
      by_cases hT : ∃ i, HasTail q.p i
      · obtain ⟨i, hi⟩ := hT
        refine (tail_yes q.p i W7 (HQ.out.later HBAW.out).p HPS.out hi).mono ?_
        rintro e w8 ⟨y, rfl, -, -, -, hB8⟩
        obtain ⟨D, V, hD, hDb, hDV, hDB, hDn, hDs⟩ := boxP_put y w8
        obtain ⟨⟨g0, g1, g2, g3, g4, g5⟩, f0, f1, f2, f3, f4, f5⟩ := zero_cells hDb
        have hWV : Below W7.heap.size W7 V := hB8.trans (hDB.mono hB8.size)
        obtain ⟨⟨u0, u1, u2, u3, u4, u5⟩, u6, u7, u8, u9, u10⟩ := (LS.out.qb.later hWV).at0
        simp only [lessQ] at u0 u1 u2 u3 u4 u5 u6 u7 u8 u9 u10
        have hAV := HBAW.out.trans (hWV.mono HBAW.out.size)
        have CC := CK.out V (lessQ q q.a q.n q.cap q.c q.win) hAV (LS.out.isq V q.win (Bt.of_below hWV (Nat.le_of_lt LS.out.qb.lt))) (LS.out.ok _) (LS.out.sm _) (LS.out.wl _ (.inl rfl))
        have HAV : Hid (Below A.heap.size A V) := hAV
        clear hAV hWV hDn hDs hDB hDb LS HBAW CK hi
        go_wp2_with (first
          | (go_at_call 8; refine CC.mono ?_; clear CC; rintro e w9 ⟨rfl, hB9⟩; have hA9 := HAV.out.trans (hB9.mono HAV.out.size))
          | (go_at_call 7; refine (CA.out w9 hA9).mono ?_; rintro e w10 ⟨rfl, hB10⟩))
        go_ret
        exact ⟨rfl, HBA.out.trans ((hA9.trans (hB10.mono hA9.size)).mono HBA.out.size)⟩
      · have hno : ∀ i, ¬ HasTail q.p i := fun i hi => hT ⟨i, hi⟩
        refine (tail_no q.p W7 (HQ.out.later HBAW.out).p hno).mono ?_
        rintro e w8 ⟨rfl, hB8⟩
        obtain ⟨D, V, hD, hDb, hDV, hDB, hDn, hDs⟩ := boxP_put .nil w8
        obtain ⟨⟨g0, g1, g2, g3, g4, g5⟩, f0, f1, f2, f3, f4, f5⟩ := zero_cells hDb
        have hDV : (((((D.setCell ⟨w8.heap.size, 0, none⟩ (.int .i64 0)).setCell ⟨w8.heap.size, 1, none⟩ (.string ⟨#[]⟩)).setCell ⟨w8.heap.size, 2, none⟩ (.string ⟨#[]⟩)).setCell ⟨w8.heap.size, 3, none⟩ (.int .i64 0)).setCell ⟨w8.heap.size, 4, none⟩ (.int .i64 0)).setCell ⟨w8.heap.size, 5, none⟩ (.slice none 0 0) = V := hDV
        have hWV : Below W7.heap.size W7 V := hB8.trans (hDB.mono hB8.size)
        have hqV := LS.out.qb.later hWV
        have v9 : V.cell? ⟨w5.heap.size, 9, none⟩ = some (.int .i64 q.win) := hqV.at0.2.2.2.2.1
        have vf := hqV.frozen 9
        obtain ⟨Z, hZ⟩ : ∃ Z, V.setCell ⟨w5.heap.size, 9, none⟩ (.int .i64 0) = Z := ⟨_, rfl⟩
        have hqZ : QB Z w5.heap.size (lessQ q q.a q.n q.cap q.c 0) := by rw [← hZ]; exact heap_set hqV
        have hBt : Bt w5.heap.size W7 Z := (Bt.of_below hWV (Nat.le_of_lt LS.out.qb.lt)).trans (by rw [← hZ]; exact Bt.set 9 _)
        have h5Z : Below w5.heap.size w5 Z := LS.out.bw.trans hBt.1
        have hAZ := HBA5.out.trans (h5Z.mono HBA5.out.size)
        obtain ⟨⟨u0, u1, u2, u3, u4, u5⟩, u6, u7, u8, u9, u10⟩ := hqZ.at0
        simp only [lessQ] at u0 u1 u2 u3 u4 u5 u6 u7 u8 u9 u10
        have CC := CK.out Z (lessQ q q.a q.n q.cap q.c 0) hAZ (LS.out.isq Z 0 hBt) (LS.out.ok _) (LS.out.sm _) (LS.out.wl _ (.inr ⟨rfl, hno⟩))
        have HAV : Hid (Below A.heap.size A Z) := hAZ
        clear hAZ hWV hDn hDs hDB hDb LS HBAW CK hno hqV hqZ hBt h5Z hT
        go_wp2_with (first
          | (go_at_call 8; refine CC.mono ?_; clear CC; rintro e w9 ⟨rfl, hB9⟩; have hA9 := HAV.out.trans (hB9.mono HAV.out.size))
          | (go_at_call 7; refine (CA.out w9 hA9).mono ?_; rintro e w10 ⟨rfl, hB10⟩))
        go_ret
        exact ⟨rfl, HBA.out.trans ((hA9.trans (hB10.mono hA9.size)).mono HBA.out.size)⟩
    · obtain ⟨k, hk⟩ : ∃ k, k = t % q.n := ⟨_, rfl⟩
      have hkn : k < q.n := by rw [hk]; exact Nat.mod_lt _ (by omega)
      obtain ⟨m, hm⟩ : ∃ m, q.n = k + m + 1 := ⟨q.n - k - 1, by omega⟩
      have hn0 : ¬ ((q.n : Int) = 0) := by omega
      have tn : (0 : Int) < (q.n : Int) := by omega
      have HM : Hid (q.n = k + m + 1) := hm
      have hrem : Int.tmod (t : Int) (q.n : Int) = (k : Int) := by rw [hk, Int.tmod_eq_emod_of_nonneg (by omega)]; simp
      clear hm hn hk
      go_wp2_with fail
      refine wp_region_noPanic ?_
      refine wp_region_held_drew (S := fun w' => Below w5.heap.size w5 w') (by kernel_rfl) HB7.out.drew (fun hHeld => ?_)
      have hd7 : Below W7.heap.size W7 W7.drew := (Below.refl _ _).drew
      obtain ⟨d, hd⟩ : ∃ d, d = W7.drew := ⟨_, rfl⟩
      rw [← hd] at hHeld hd7 ⊢
      clear hd
      obtain ⟨b, o, ea, -, -⟩ := HQ.out.x.part (i := 0) (show 0 < q.n by rw [HM.out]; omega)
      have ea : q.a = some ⟨b, o, none⟩ := ea
      have hBAd := HBA7.out.trans (hd7.mono HBA7.out.size)
      have hnd : ∀ i, i < q.n → Node d b (o + i * 7) (q.c i) := fun i hi => by obtain ⟨b2, o2, e2, h2, -⟩ := (HQ.out.later hBAd).x.part (i := i) hi; have e3 : q.a = some ⟨b2, o2, none⟩ := e2; rw [ea] at e3; cases e3; exact h2
      have hcp : q.n ≤ q.cap ∧ q.cap ≤ 9223372036854775807 := by have := (isX_eq A q.x).1 HQ.out.x; exact ⟨this.1, this.2.1⟩
      have hsmn : q.n ≤ 1048576 := by have := HSM.out; unfold Qy.bulk at this; have h2 := X.n_lt q.x; have h3 : q.n = q.x.n := rfl; omega
      have hown0 : (d.alloc (.cells #[] 54)).ownsRow d.heap.size 54 7 (.slice (some ⟨d.heap.size, 0, none⟩) 0 0) 0 [] := ⟨rfl, .inr ⟨d.heap.size, 0, #[], rfl, Nat.le_refl _, alloc_new d _, Nat.le_refl _, Nat.zero_le _, rfl, rfl⟩⟩
      have hBd0 : Below d.heap.size d (d.alloc (.cells #[] 54)) := (Below.refl _ _).alloc (Nat.le_refl _) _
      obtain ⟨v1, x1, r1, o1, g1⟩ := push_x hown0 (by simp) ⟨b, o, none⟩ k q.cap q.c (fun i hi => ⟨b, o, rfl, (hnd i (by omega)).later hBd0⟩) (by omega)
      simp only [Nat.zero_add, List.nil_append] at o1
      have hBx1 : Below d.heap.size d x1 := hBd0.grown g1 (by simp) (by intro k hk; simp [Value.ownBlock] at hk; omega)
      obtain ⟨X, hX⟩ : ∃ X, X = if q.cap = k + 1 then (⟨b, o, none⟩ : Addr) else ⟨b, o + (k + 1) * 7, none⟩ := ⟨_, rfl⟩
      obtain ⟨v2, x2, r2, o2, g2⟩ := push_x o1 hBx1.size X m (q.cap - (k + 1)) (fun i => q.c (k + 1 + i)) (fun i hi => ⟨b, o + (k + 1) * 7, by rw [hX, if_neg (by have := HM.out; omega)], by have h9 := (hnd (k + 1 + i) (by have := HM.out; omega)).later hBx1; rw [show o + (k + 1) * 7 + i * 7 = o + (k + 1 + i) * 7 by omega]; exact h9⟩) (by have := HM.out; omega)
      have hBx2 : Below d.heap.size d x2 := hBx1.grown g2 hBx1.size (fun q hq => (o1.lt q hq).1)
      rw [← rowX_drop] at o2
      obtain ⟨a', cap', rfl⟩ := row_slice o2
      have hW72 := hd7.trans (hBx2.mono hd7.size)
      have hq72 := HQ7.out.later hW72
      have HR1 : Hid (_ = _) := r1
      have HR2 : Hid (_ = _) := r2
      have HO2 : Hid (World.ownsRow _ _ _ _ _ _ _) := o2
      have HXX : Hid (X = _) := hX
      have HCP : Hid (q.n ≤ q.cap ∧ q.cap ≤ 9223372036854775807) := hcp
      have HND : Hid (q.n ≤ 1048576) := hsmn
      have h5d := HB7.out.trans (hd7.mono HB7.out.size)
      have h51 := h5d.trans (hBx1.mono h5d.size)
      have h52 := h5d.trans (hBx2.mono h5d.size)
      have h50 : Below w5.heap.size w5 (d.alloc (.cells #[] 54)) := h5d.alloc h5d.size _
      clear r1 r2 o1 o2 g1 g2 hX hcp hsmn hnd hown0
      refine wpAnyH_take (i := 1) (oi := ⟨some 56, .fieldAddr 29 (.tmp 4) 1, 0, _, _, _⟩) (v := ?v1a) rfl (by kernel_rfl) (by kernel_rfl) (by kernel_rfl) (fun _ _ _ h => h) (Or.inl ⟨by rfl, ?hy1a⟩) hHeld ?rest1a
      case hy1a => intro w9 hSw; go_simp; (try with_reducible rfl)
      try simp only [Act.put, s_put, s_0, s_1]
      refine wpAnyH_take (i := 2) (oi := ⟨some 57, .load 26 (.tmp 56), 26, _, _, _⟩) (v := ?v2a) rfl (by kernel_rfl) (by kernel_rfl) (by kernel_rfl) (fun _ _ _ h => h) (Or.inl ⟨by rfl, ?hy2a⟩) hHeld ?rest2a
      case hy2a => intro w9 hSw; obtain ⟨-, y6, -⟩ := (HQB.out.later (HBA5.out.trans (hSw.mono HBA5.out.size))).at0; rw [ea] at y6; go_simp; (try with_reducible rfl)
      try simp only [Act.put, s_put, s_0, s_1]
      refine wpAnyH_take (i := 3) (oi := ⟨some 58, .move (.tmp 12), 3, _, _, _⟩) (v := ?v3a) rfl (by kernel_rfl) (by kernel_rfl) (by kernel_rfl) (fun _ _ _ h => h) (Or.inl ⟨by rfl, ?hy3a⟩) hHeld ?rest3a
      case hy3a => intro w9 hSw; go_simp; (try with_reducible rfl)
      try simp only [Act.put, s_put, s_0, s_1]
      refine wpAnyH_take (i := 4) (oi := ⟨some 59, .slice 26 (.tmp 57) none (some (.tmp 58)) none, 26, _, _, _⟩) (v := .slice (some ⟨b, o, none⟩) k q.cap) rfl (by kernel_rfl) (by kernel_rfl) (by kernel_rfl) (fun _ _ _ h => h) (Or.inl ⟨by rfl, ?hy4a⟩) hHeld ?rest4a
      case hy4a => intro w9 hSw; have hkc : k ≤ q.cap := (by have h1 := HM.out; have h2 := HCP.out; omega); go_simp
      try simp only [Act.put, s_put, s_0, s_1]
      refine wpAnyH_take (i := 6) (oi := ⟨some 61, .fieldAddr 29 (.tmp 4) 1, 0, _, _, _⟩) (v := ?v6a) rfl (by kernel_rfl) (by kernel_rfl) (by kernel_rfl) (fun _ _ _ h => h) (Or.inl ⟨by rfl, ?hy6a⟩) hHeld ?rest6a
      case hy6a => intro w9 hSw; go_simp; (try with_reducible rfl)
      try simp only [Act.put, s_put, s_0, s_1]
      refine wpAnyH_take (i := 7) (oi := ⟨some 62, .load 26 (.tmp 61), 26, _, _, _⟩) (v := ?v7a) rfl (by kernel_rfl) (by kernel_rfl) (by kernel_rfl) (fun _ _ _ h => h) (Or.inl ⟨by rfl, ?hy7a⟩) hHeld ?rest7a
      case hy7a => intro w9 hSw; obtain ⟨-, y6, -⟩ := (HQB.out.later (HBA5.out.trans (hSw.mono HBA5.out.size))).at0; rw [ea] at y6; go_simp; (try with_reducible rfl)
      try simp only [Act.put, s_put, s_0, s_1]
      refine wpAnyH_take (i := 8) (oi := ⟨some 63, .move (.tmp 12), 3, _, _, _⟩) (v := ?v8a) rfl (by kernel_rfl) (by kernel_rfl) (by kernel_rfl) (fun _ _ _ h => h) (Or.inl ⟨by rfl, ?hy8a⟩) hHeld ?rest8a
      case hy8a => intro w9 hSw; go_simp; (try with_reducible rfl)
      try simp only [Act.put, s_put, s_0, s_1]
      refine wpAnyH_take (i := 9) (oi := ⟨some 64, .binOp BinOp.add 3 (.tmp 63) (.const (Value.int IntKind.i64 1)) 3, 3, _, _, _⟩) (v := ?v9a) rfl (by kernel_rfl) (by kernel_rfl) (by kernel_rfl) (fun _ _ _ h => h) (Or.inl ⟨by rfl, ?hy9a⟩) hHeld ?rest9a
      case hy9a => intro w9 hSw; go_simp; (try with_reducible rfl)
      try simp only [Act.put, s_put, s_0, s_1]
      refine wpAnyH_take (i := 10) (oi := ⟨some 65, .slice 26 (.tmp 62) (some (.tmp 64)) none none, 26, _, _, _⟩) (v := .slice (some X) m (q.cap - (k + 1))) rfl (by kernel_rfl) (by kernel_rfl) (by kernel_rfl) (fun _ _ _ h => h) (Or.inl ⟨by rfl, ?hy10a⟩) hHeld ?rest10a
      case hy10a => intro w9 hSw; have h1 := HM.out; have h2 := HCP.out; have h3 := HND.out; go_simp; rw [show IntKind.i64.wrap ((k : Int) + 1) = ((k + 1 : Nat) : Int) by rw [IntKind.wrap_i64]; omega, Int.toNat_natCast, if_pos (by omega), HXX.out]; rw [show k + m + 1 - (k + 1) = m by omega]; split <;> rfl
      try simp only [Act.put, s_put, s_0, s_1]
      refine wpAnyH_ready (rs := [0]) (by kernel_rfl) (by simp) ?_
      refine AllReadyH.cons (o := ⟨some 55, .buildSlice 26 0 #[], 26, _, _, _⟩) rfl (fun K hK => ?_) AllReadyH.nil
      go_simp
      refine hK.out _ _ h50 (fun _ => ?_)
      clear hK K
      refine wpAnyH_ready (rs := [5]) (by kernel_rfl) (by simp) ?_
      refine AllReadyH.cons (o := ⟨some 60, .call { callee := .builtin Builtin.append, args := #[.tmp 55, .tmp 59], argTypes := #[26, 26] }, 26, _, _, _⟩) rfl (fun K hK => ?_) AllReadyH.nil
      rw [if_pos (by rfl)]
      refine wpOp_append_at (.tmp 55) (.tmp 59) 26 rfl _ _ _ rfl rfl HR1.out ?_
      refine hK.out _ _ h51 (fun _ => ?_)
      clear hK K
      try simp only [Act.put, s_put, s_0, s_1]
      refine wpAnyH_ready (rs := [11]) (by kernel_rfl) (by simp) ?_
      refine AllReadyH.cons (o := ⟨some 66, .call { callee := .builtin Builtin.append, args := #[.tmp 60, .tmp 65], argTypes := #[26, 26] }, 26, _, _, _⟩) rfl (fun K hK => ?_) AllReadyH.nil
      rw [if_pos (by rfl)]
      refine wpOp_append_at (.tmp 60) (.tmp 65) 26 rfl _ _ _ rfl rfl HR2.out ?_
      refine hK.out _ _ h52 (fun hHeld => ?_)
      clear hK K
      try simp only [Act.put, s_put, s_0, s_1]
      refine wpAnyH_take (i := 12) (oi := ⟨some 67, .fieldAddr 29 (.tmp 11) 1, 0, _, _, _⟩) (v := ?v12a) rfl (by kernel_rfl) (by kernel_rfl) (by kernel_rfl) (fun _ _ _ h => h) (Or.inl ⟨by rfl, ?hy12a⟩) hHeld ?rest12a
      case hy12a => intro w9 hSw; go_simp; (try with_reducible rfl)
      try simp only [Act.put, s_put, s_0, s_1]
      have u6 : x2.cell? ⟨w5.heap.size, 6, none⟩ = some (.slice q.a q.n q.cap) := hq72.at0.2.1
      have uf := hq72.frozen 6
      obtain ⟨W, hW⟩ : ∃ W, x2.setCell ⟨w5.heap.size, 6, none⟩ (.slice a' (k + m) cap') = W := ⟨_, rfl⟩
      have h5W : Below w5.heap.size w5 W := by rw [← hW]; exact h52.setCell (p := ⟨w5.heap.size, 6, none⟩) (Nat.le_refl _) _
      refine wpAnyH_ready (rs := [13]) (by kernel_rfl) (by simp) ?_
      refine AllReadyH.cons (o := ⟨none, Op.store 26 (Operand.tmp 67) (Operand.tmp 66), 0, _, _, _⟩) rfl (fun K hK => ?_) AllReadyH.nil
      go_simp
      refine hK.out _ _ (h5W) (fun hHeld => ?_)
      clear hK K
      try simp only [Act.put, s_put, s_0, s_1]
      have hqW : QB W w5.heap.size (lessQ q a' (k + m) cap' (dropC q.c k) q.win) := by rw [← hW]; exact heap_set hq72
      have LS : Hid (LessW w5 W q ns Q a' (k + m) cap' (dropC q.c k)) := lessW_drop hz (HQ.out.later HBA5.out) HOK.out HSM.out HM.out (Nat.lt_of_lt_of_le HQ7.out.lt hd7.size) (by rw [← hW]; exact own_set HO2.out (Nat.lt_of_lt_of_le HQ7.out.lt hd7.size)) hqW h5W
      have HBAW : Hid (Below A.heap.size A W) := HBA5.out.trans (h5W.mono HBA5.out.size)
      obtain ⟨⟨m0, m1, m2, m3, m4, m5⟩, -⟩ := (HQB.out.later HBAW.out).at0
      clear HR1 HR2 HO2 HXX HCP HND u6 uf hW hqW h5W h52 h51 h50 h5d hq72 hW72 hBx2 hBx1 hBd0 hBAd hHeld hd7
      refine wpAnyH_done (by kernel_rfl) ?_ _
      refine NoPanic.normal ?_
      go_wp2_with fail
      by_cases hT : ∃ i, HasTail q.p i
      · obtain ⟨i, hi⟩ := hT
        refine (tail_yes q.p i W (HQ.out.later HBAW.out).p HPS.out hi).mono ?_
        rintro e w8 ⟨y, rfl, -, -, -, hB8⟩
        obtain ⟨D, V, hD, hDb, hDV, hDB, hDn, hDs⟩ := boxP_put y w8
        obtain ⟨⟨g0, g1, g2, g3, g4, g5⟩, f0, f1, f2, f3, f4, f5⟩ := zero_cells hDb
        have hWV : Below W.heap.size W V := hB8.trans (hDB.mono hB8.size)
        obtain ⟨⟨u0, u1, u2, u3, u4, u5⟩, u6, u7, u8, u9, u10⟩ := (LS.out.qb.later hWV).at0
        simp only [lessQ] at u0 u1 u2 u3 u4 u5 u6 u7 u8 u9 u10
        have hAV := HBAW.out.trans (hWV.mono HBAW.out.size)
        have CC := CK.out V (lessQ q a' (k + m) cap' (dropC q.c k) q.win) hAV (LS.out.isq V q.win (Bt.of_below hWV (Nat.le_of_lt LS.out.qb.lt))) (LS.out.ok _) (LS.out.sm _) (LS.out.wl _ (.inl rfl))
        have HAV : Hid (Below A.heap.size A V) := hAV
        clear hAV hWV hDn hDs hDB hDb LS HBAW CK hi
        go_wp2_with (first
          | (go_at_call 8; refine CC.mono ?_; clear CC; rintro e w9 ⟨rfl, hB9⟩; have hA9 := HAV.out.trans (hB9.mono HAV.out.size))
          | (go_at_call 7; refine (CA.out w9 hA9).mono ?_; rintro e w10 ⟨rfl, hB10⟩))
        go_ret
        exact ⟨rfl, HBA.out.trans ((hA9.trans (hB10.mono hA9.size)).mono HBA.out.size)⟩
      · have hno : ∀ i, ¬ HasTail q.p i := fun i hi => hT ⟨i, hi⟩
        refine (tail_no q.p W (HQ.out.later HBAW.out).p hno).mono ?_
        rintro e w8 ⟨rfl, hB8⟩
        obtain ⟨D, V, hD, hDb, hDV, hDB, hDn, hDs⟩ := boxP_put .nil w8
        obtain ⟨⟨g0, g1, g2, g3, g4, g5⟩, f0, f1, f2, f3, f4, f5⟩ := zero_cells hDb
        have hDV : (((((D.setCell ⟨w8.heap.size, 0, none⟩ (.int .i64 0)).setCell ⟨w8.heap.size, 1, none⟩ (.string ⟨#[]⟩)).setCell ⟨w8.heap.size, 2, none⟩ (.string ⟨#[]⟩)).setCell ⟨w8.heap.size, 3, none⟩ (.int .i64 0)).setCell ⟨w8.heap.size, 4, none⟩ (.int .i64 0)).setCell ⟨w8.heap.size, 5, none⟩ (.slice none 0 0) = V := hDV
        have hWV : Below W.heap.size W V := hB8.trans (hDB.mono hB8.size)
        have hqV := LS.out.qb.later hWV
        have v9 : V.cell? ⟨w5.heap.size, 9, none⟩ = some (.int .i64 q.win) := hqV.at0.2.2.2.2.1
        have vf := hqV.frozen 9
        obtain ⟨Z, hZ⟩ : ∃ Z, V.setCell ⟨w5.heap.size, 9, none⟩ (.int .i64 0) = Z := ⟨_, rfl⟩
        have hqZ : QB Z w5.heap.size (lessQ q a' (k + m) cap' (dropC q.c k) 0) := by rw [← hZ]; exact heap_set hqV
        have hBt : Bt w5.heap.size W Z := (Bt.of_below hWV (Nat.le_of_lt LS.out.qb.lt)).trans (by rw [← hZ]; exact Bt.set 9 _)
        have h5Z : Below w5.heap.size w5 Z := LS.out.bw.trans hBt.1
        have hAZ := HBA5.out.trans (h5Z.mono HBA5.out.size)
        obtain ⟨⟨u0, u1, u2, u3, u4, u5⟩, u6, u7, u8, u9, u10⟩ := hqZ.at0
        simp only [lessQ] at u0 u1 u2 u3 u4 u5 u6 u7 u8 u9 u10
        have CC := CK.out Z (lessQ q a' (k + m) cap' (dropC q.c k) 0) hAZ (LS.out.isq Z 0 hBt) (LS.out.ok _) (LS.out.sm _) (LS.out.wl _ (.inr ⟨rfl, hno⟩))
        have HAV : Hid (Below A.heap.size A Z) := hAZ
        clear hAZ hWV hDn hDs hDB hDb LS HBAW CK hno hqV hqZ hBt h5Z hT
        go_wp2_with (first
          | (go_at_call 8; refine CC.mono ?_; clear CC; rintro e w9 ⟨rfl, hB9⟩; have hA9 := HAV.out.trans (hB9.mono HAV.out.size))
          | (go_at_call 7; refine (CA.out w9 hA9).mono ?_; rintro e w10 ⟨rfl, hB10⟩))
        go_ret
        exact ⟨rfl, HBA.out.trans ((hA9.trans (hB10.mono hA9.size)).mono HBA.out.size)⟩
  · go_ret
    exact ⟨rfl, HBA.out.trans ((hB1.trans (hB2.mono hB1.size)).mono HBA.out.size)⟩
end Go.Proofs.YtkfpgkohkhhlhaaGreatDoor
namespace Go.Proofs.YtkfpgkohkhhlhaaGreatDoor
open Go.RowKit Go.ChangeShapes Go.WideShapes

section
variable {H : Type} {enc : TypeId × Value → H} {w : World} {base : Nat} {spare : Nat → Bool} {held : Bool}
theorem val_under : ∃ f0 f1 f2 : Field, Tryz.prog.underlying 52 = some (.struct #[f0, f1, f2]) ∧ f0.offset = 0 ∧ f1.offset = 1 ∧ f2.offset = 2 ∧ f0.type = 3 ∧ f1.type = 2 ∧ f2.type = 9 := ⟨_, _, _, Tryz.underlying52, rfl, rfl, rfl, rfl, rfl, rfl⟩
theorem cells_v : Tryz.prog.cellsOf 52 = 3 := by kernel_rfl
theorem cells_n : Tryz.prog.cellsOf 2 = 1 := by kernel_rfl
/-- The cells of a value, read. -/
theorem trod_val {fuel : Nat} {cs : List Value} {x : DataW H × List MemPlace} (h : DataW.trod enc Tryz.prog w base spare held fuel 52 cs = some x) :
    ∃ q : Val, cs = [.int .i64 q.k, .int .i64 q.n, .string q.s] := by
  obtain ⟨f0, f1, f2, hu, o0, o1, o2, t0, t1, t2⟩ := val_under
  obtain ⟨y0, y1, y2, m, rfl, hl, g0, g1, g2⟩ := Deep.trod_struct3 hu h
  rw [cells_v] at hl
  rw [o0, t0, cells_i] at g0
  rw [o1, t1, cells_n] at g1
  rw [o2, t2, cells_s] at g2
  match cs, hl with
  | [c0, c1, c2], _ =>
    obtain ⟨k, e0, rfl, w0⟩ := DataW.trod_int Tryz.underlying3 g0
    obtain ⟨n, e1, rfl, w1⟩ := DataW.trod_int Tryz.underlying2 g1
    obtain ⟨s, e2, rfl, w2⟩ := DataW.trod_string Tryz.underlying9 g2
    simp at e0 e1 e2
    subst e0 e1 e2
    exact ⟨⟨k, n, s⟩, rfl⟩
end
end Go.Proofs.YtkfpgkohkhhlhaaGreatDoor
