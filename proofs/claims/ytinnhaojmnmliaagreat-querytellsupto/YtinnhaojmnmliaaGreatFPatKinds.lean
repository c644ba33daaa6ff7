/-
  When a pattern is right: plain facts, of no function.
  slices.ContainsFunc of a pattern's parts: is one of the same kind?
-/
import Derived.Test.YtinnhaojmnmliaaGreatCPatBase
import Derived.Test.YtinnhaojmnmliaaGreatEBrief
import Derived.Test.YtinnhaojmnmliaaGreatCTxt
import Derived.BigQuiet
namespace Go.Proofs.YtinnhaojmnmliaaGreat
open Go.RowKit

/-- May a PMany have these? -/
def cntB (lo hi : Int) : Bool := decide (1 ≤ lo) && (decide (lo ≤ 1000) && ((hi == 0 || (decide (lo ≤ hi) && decide (hi ≤ 1000))) && !(lo == 1 && hi == 1)))
def emptyB (s : ByteArray) : Bool := s.toList == []
/-- Is one of the parts of the same kind? -/
def ownB (x : Pt) : Bool := !allN (fun i => !((x.c i).k == x.k)) x.n
/-- Is a node right, its parts aside? -/
def leafB (x : Pt) : Bool := nameB x.s && (nameB x.t && (x.lo == 0 && (x.hi == 0 && x.n == 0)))
def manyB (x : Pt) : Bool := nameB x.s && (nameB x.t && (cntB x.lo x.hi && x.n == 0))
def rowB (x : Pt) : Bool := emptyB x.s && (emptyB x.t && (x.lo == 0 && (x.hi == 0 && (decide (2 ≤ x.n) && !ownB x))))
def isRow (k : Int) : Bool := k == 2 || k == 3 || k == 4
def rightN (x : Pt) : Bool := if isRow x.k = true then rowB x else if x.k = 5 then manyB x else if x.k = 1 ∨ x.k = 6 then leafB x else false
/-- Is all of it right? -/
def rightP : Pt → Bool
  | .nil => rightN .nil
  | .mk k s t lo hi a n cap c => rightN (.mk k s t lo hi a n cap c) && allN (fun i => rightP (c i)) n
theorem rightP_eq (x : Pt) : rightP x = (rightN x && allN (fun i => rightP (x.c i)) x.n) := by
  cases x with
  | nil => show rightN .nil = (rightN .nil && true); simp
  | mk => rfl
theorem right_vis : ∀ (x : Pt) (d : Nat), rightP x = true ↔ ∀ v ∈ visP d x, rightN v.2 = true := by
  refine Pt.ind fun x ih d => ?_
  rw [rightP_eq, Bool.and_eq_true, allN_true, visP_eq]
  constructor
  · rintro ⟨h1, h2⟩ v hv
    rcases List.mem_cons.1 hv with rfl | hv
    · exact h1
    · obtain ⟨i, hi, hv⟩ := mem_catN.1 hv
      exact (ih i hi (d + 1)).1 (h2 i hi) v hv
  · intro h
    exact ⟨h (d, x) (by simp), fun i hi => (ih i hi (d + 1)).2 fun v hv => h v (List.mem_cons_of_mem _ (mem_catN.2 ⟨i, hi, hv⟩))⟩
/-- What Check answers. -/
def chkP (x : Pt) : Int := if 64 < x.size ∨ 8 < x.deep then 2 else if rightP x = true then 0 else 1
theorem chkP_zero {x : Pt} : chkP x = 0 ↔ x.size ≤ 64 ∧ x.deep ≤ 8 ∧ rightP x = true := by
  unfold chkP
  by_cases h : 64 < x.size ∨ 8 < x.deep
  · rw [if_pos h]
    constructor
    · intro e; omega
    · rintro ⟨h1, h2, _⟩; omega
  · rw [if_neg h]
    by_cases hr : rightP x = true
    · rw [if_pos hr]
      exact ⟨fun _ => ⟨by omega, by omega, hr⟩, fun _ => rfl⟩
    · rw [if_neg hr]
      exact ⟨fun e => by omega, fun e => absurd e.2.2 hr⟩
/-- A part of a right one is right. -/
theorem chkP_part {x : Pt} (h : chkP x = 0) {i : Nat} (hi : i < x.n) : chkP (x.c i) = 0 := by
  rw [chkP_zero] at h ⊢
  have h1 := x.size_part i hi
  have h2 := x.deep_part i hi
  have h3 := h.2.2
  rw [rightP_eq, Bool.and_eq_true, allN_true] at h3
  exact ⟨by omega, by omega, h3.2 i hi⟩
theorem ownB_sm {x y : Pt} (h : Sm x y) : ownB x = ownB y := by
  obtain ⟨h1, h2, h3, h4, h5, h6, h7⟩ := (sm_iff _ _).1 h
  unfold ownB
  rw [← h6, ← h1]
  congr 1
  rw [Bool.eq_iff_iff, allN_true, allN_true]
  constructor
  · intro q i hi; have := q i hi; rwa [((sm_iff _ _).1 (h7 i hi)).1] at this
  · intro q i hi; have := q i hi; rwa [← ((sm_iff _ _).1 (h7 i hi)).1] at this
theorem rightN_sm {x y : Pt} (h : Sm x y) : rightN x = rightN y := by
  have ho := ownB_sm h
  obtain ⟨h1, h2, h3, h4, h5, h6, h7⟩ := (sm_iff _ _).1 h
  unfold rightN rowB manyB leafB
  rw [ho, h1, h2, h3, h4, h5, h6]
theorem rightP_sm : ∀ {x y : Pt}, Sm x y → rightP x = rightP y := by
  refine @(Pt.ind fun x ih y h => ?_)
  have hn := rightN_sm h
  obtain ⟨h1, h2, h3, h4, h5, h6, h7⟩ := (sm_iff _ _).1 h
  rw [rightP_eq, rightP_eq y, hn, ← h6]
  congr 1
  rw [Bool.eq_iff_iff, allN_true, allN_true]
  exact ⟨fun q i hi => by rw [← ih i hi (h7 i hi)]; exact q i hi, fun q i hi => by rw [ih i hi (h7 i hi)]; exact q i hi⟩
theorem chkP_sm {x y : Pt} (h : Sm x y) : chkP x = chkP y := by
  unfold chkP
  rw [size_sm h, deep_sm h, rightP_sm h]
/-- A right node that has a Var has no parts. -/
theorem named_leaf {x : Pt} (h : rightN x = true) (hk : nmd x.k = true) : x.n = 0 := by
  unfold rightN at h
  unfold nmd at hk
  simp only [Bool.or_eq_true, beq_iff_eq] at hk
  have hr : ¬ isRow x.k = true := by
    unfold isRow
    simp only [Bool.or_eq_true, beq_iff_eq]
    omega
  rw [if_neg hr] at h
  by_cases h5 : x.k = 5
  · rw [if_pos h5] at h
    unfold manyB at h
    simp at h
    exact h.2.2.2
  · rw [if_neg h5] at h
    by_cases h1 : x.k = 1 ∨ x.k = 6
    · rw [if_pos h1] at h
      unfold leafB at h
      simp at h
      exact h.2.2.2.2
    · rw [if_neg h1] at h; cases h
end Go.Proofs.YtinnhaojmnmliaaGreat
namespace Go.Proofs.YtinnhaojmnmliaaGreat
open Go.RowKit

theorem NodeP.at00 {w : World} {B : Nat} {x : Pt} (h : NodeP w B 0 x) : w.cell? ⟨B, 0, none⟩ = some (.int .i64 x.k) := h.1
set_option maxRecDepth 100000 in
set_option maxHeartbeats 1000000 in
theorem kindP_any (z : Pt) (Bx b o : Nat) (k : Int) (w : World) (hb : w.cell? ⟨Bx, 0, none⟩ = some (.pointer (some ⟨b, o, none⟩))) (hk : w.cell? ⟨b, o, none⟩ = some (.int .i64 k)) :
    Calls Tryz.prog 106 #[z.val, .pointer (some ⟨Bx, 0, none⟩)] w fun e w' => e = .returned (.bool (z.k == k)) ∧ Below w.heap.size w w' := by
  obtain ⟨A, hA⟩ : ∃ A, w.alloc (.cells z.cells 24) = A := ⟨_, rfl⟩
  have hB : Below w.heap.size w A := by rw [← hA]; exact (Below.refl _ w).alloc (Nat.le_refl _) _
  have n0 : A.cell? ⟨w.heap.size, 0, none⟩ = some (.int .i64 z.k) := by rw [← hA]; exact (nodeP_new w _ z).1
  have c1 := cell_later hb hB
  have c2 := cell_later hk hB
  have HB : Hid (Below w.heap.size w A) := hB
  clear hb hk hB
  go_enter Tryz.func106, Tryz.ntmps106
  go_wp2_with fail
  go_quiet (fail)
  go_wp2
  go_ret
  exact ⟨rfl, bd HB.out _⟩
set_option maxRecDepth 100000 in
set_option maxHeartbeats 1000000 in
theorem kindsP_index (y : Pt) (Bx b o : Nat) (k : Int) (w : World) (hY : IsP w y) (hb : w.cell? ⟨Bx, 0, none⟩ = some (.pointer (some ⟨b, o, none⟩))) (hk : w.cell? ⟨b, o, none⟩ = some (.int .i64 k)) :
    Calls Tryz.prog 126 #[.slice y.a y.n y.cap, .func (.func 106) #[] #[.pointer (some ⟨Bx, 0, none⟩)]] w fun e w' => ∃ r : Int, e = .returned (.int .i64 r) ∧ (0 ≤ r ↔ ∃ i, i < y.n ∧ (y.c i).k = k) ∧ Below w.heap.size w w' := by
  have HY : Hid (IsP w y) := hY
  have hlen := hY.len
  obtain ⟨a, ha⟩ : ∃ a, a = y.a := ⟨_, rfl⟩
  rw [← ha]
  have HA : Hid (a = y.a) := ha
  clear ha
  have Hb : Hid (w.cell? ⟨Bx, 0, none⟩ = some (.pointer (some ⟨b, o, none⟩))) := hb
  have Hk : Hid (w.cell? ⟨b, o, none⟩ = some (.int .i64 k)) := hk
  clear hY hb hk
  go_enter Tryz.func126, Tryz.ntmps126
  go_wp2
  go_loopw [8] (fun u wr => ∃ i : Nat, i ≤ y.n ∧ u = .int .i64 i ∧ Hid (∀ j, j < i → (y.c j).k ≠ k) ∧ Below w.heap.size w wr) (fun u _ => y.n - (intOf u).toNat)
  case atStart => exact ⟨0, Nat.zero_le _, rfl, fun j hj => by omega, Below.refl _ _⟩
  case round =>
    obtain ⟨i, hi, rfl, HI, hB⟩ := hrel
    by_cases hin : i < y.n
    · obtain ⟨b2, o2, ea, hn, hx⟩ := (HY.out.later hB).part hin
      rw [← HA.out] at ea
      subst ea
      obtain ⟨d0, d1, d2, d3, d4, d5⟩ := hn
      have hc := kindP_any (y.c i) Bx b o k wr (cell_later Hb.out hB) (cell_later Hk.out hB)
      have HK : Hid (i < y.n) := hin
      clear hx
      by_cases hv : (y.c i).k = k
      · have hv' : ((y.c i).k == k) = true := by simpa using hv
        have HV : Hid ((y.c i).k = k) := hv
        rw [hv'] at hc
        clear hv hv'
        go_wp2_with (go_at_call 106; refine hc.mono ?_; rintro e w2 ⟨rfl, hB2⟩)
        try rw [Exit.noGoto_ret]
        go_ret
        exact ⟨_, rfl, ⟨fun _ => ⟨i, HK.out, HV.out⟩, fun _ => by omega⟩, hB.trans (hB2.mono hB.size)⟩
      · have hv' : ((y.c i).k == k) = false := by simpa using hv
        have HV : Hid (¬ (y.c i).k = k) := hv
        rw [hv'] at hc
        clear hv hv'
        go_wp2_with (go_at_call 106; refine hc.mono ?_; rintro e w2 ⟨rfl, hB2⟩)
        go_roundw
        case rel => exact ⟨i + 1, HK.out, by go_num, fun j hj => by by_cases e : j = i; (· rw [e]; exact HV.out); exact HI.out j (by omega), hB.trans (hB2.mono hB.size)⟩
        case measure => have := HK.out; simp [intOf]; omega
    · obtain rfl : i = y.n := by omega
      go_wp2
      go_ret
      refine ⟨_, rfl, ⟨fun h => by omega, fun ⟨j, hj, e⟩ => absurd e (HI.out j hj)⟩, hB⟩
set_option maxRecDepth 100000 in
set_option maxHeartbeats 1000000 in
theorem kindsP_any (y : Pt) (Bx b o : Nat) (k : Int) (w : World) (hY : IsP w y) (hb : w.cell? ⟨Bx, 0, none⟩ = some (.pointer (some ⟨b, o, none⟩))) (hk : w.cell? ⟨b, o, none⟩ = some (.int .i64 k)) :
    Calls Tryz.prog 105 #[.slice y.a y.n y.cap, .func (.func 106) #[] #[.pointer (some ⟨Bx, 0, none⟩)]] w fun e w' => ∃ r : Bool, e = .returned (.bool r) ∧ (r = true ↔ ∃ i, i < y.n ∧ (y.c i).k = k) ∧ Below w.heap.size w w' := by
  have hc := kindsP_index y Bx b o k w hY hb hk
  clear hY hb hk
  go_enter Tryz.func105, Tryz.ntmps105
  go_wp2_with (go_at_call 126; refine hc.mono ?_; rintro e w2 ⟨r, rfl, hr, hB2⟩; have HR : Hid (0 ≤ r ↔ ∃ i, i < y.n ∧ (y.c i).k = k) := hr; clear hr)
  go_ret
  exact ⟨decide (0 ≤ r), rfl, by rw [← HR.out]; simp, hB2⟩
theorem ownB_iff (x : Pt) : ownB x = true ↔ ∃ i, i < x.n ∧ (x.c i).k = x.k := by
  unfold ownB
  rw [Bool.not_eq_true']
  constructor
  · intro h
    refine Classical.byContradiction fun hn => ?_
    have : allN (fun i => !((x.c i).k == x.k)) x.n = true := allN_true.2 fun i hi => by
      simp only [Bool.not_eq_true', beq_eq_false_iff_ne]
      exact fun e => hn ⟨i, hi, e⟩
    rw [this] at h
    cases h
  · rintro ⟨i, hi, e⟩
    exact allN_false hi (by simp [e])
theorem ownP_any (x : Pt) (Bx b o : Nat) (w : World) (hX : IsP w x) (hb : w.cell? ⟨Bx, 0, none⟩ = some (.pointer (some ⟨b, o, none⟩))) (hk : w.cell? ⟨b, o, none⟩ = some (.int .i64 x.k)) :
    Calls Tryz.prog 105 #[.slice x.a x.n x.cap, .func (.func 106) #[] #[.pointer (some ⟨Bx, 0, none⟩)]] w fun e w' => e = .returned (.bool (ownB x)) ∧ Below w.heap.size w w' := by
  refine (kindsP_any x Bx b o x.k w hX hb hk).mono ?_
  rintro e w' ⟨r, rfl, hr, hB⟩
  have : r = ownB x := by rw [Bool.eq_iff_iff, hr, ownB_iff]
  rw [this]
  exact ⟨rfl, hB⟩
end Go.Proofs.YtinnhaojmnmliaaGreat
