/-
  A pattern with other names is as well made as it was: plain facts, of no function.
  A query with one name changed, and back: plain facts, of no function.
  pat.Same: by slices.EqualFunc, which is handed pat.Same itself.
-/
import Derived.Test.YtinnhaojmnmliaaGreatCPatMadeMath
import Derived.Test.YtinnhaojmnmliaaGreatCPatClone
import Derived.Test.YtinnhaojmnmliaaGreatCRefVar
import Derived.Test.YtinnhaojmnmliaaGreatCQryClausesC
import Derived.Test.YtinnhaojmnmliaaGreatCVarsMath
import Derived.Test.YtinnhaojmnmliaaGreatCTextRows
import Derived.Test.YtinnhaojmnmliaaGreatCPatBase
namespace Go.Proofs.YtinnhaojmnmliaaGreat
open Go.RowKit

/-- The same but for its names. -/
def Rn (f : ByteArray → ByteArray) (x y : Pt) : Prop := Sm y (renP f x)
theorem rn_parts {f : ByteArray → ByteArray} {x y : Pt} (h : Rn f x y) : y.k = x.k ∧ y.s = (if nmd x.k = true then f x.s else x.s) ∧ y.t = x.t ∧ y.lo = x.lo ∧ y.hi = x.hi ∧ y.n = x.n ∧ ∀ i, i < x.n → Rn f (x.c i) (y.c i) := by
  obtain ⟨h1, h2, h3, h4, h5, h6, h7⟩ := (sm_iff _ _).1 h
  obtain ⟨a1, a2, a3, a4, a5, a6, a7⟩ := renP_parts f x
  refine ⟨h1.trans a1, h2.trans a2, h3.trans a3, h4.trans a4, h5.trans a5, h6.trans a6, fun i hi => ?_⟩
  have := h7 i (by rw [h6, a6]; exact hi)
  rw [a7] at this
  exact this
theorem uses_rn {f : ByteArray → ByteArray} : ∀ {x y : Pt}, Rn f x y → ∀ b ∈ usesP y, ∃ a ∈ usesP x, b.k = a.k ∧ b.s = f a.s ∧ b.t = a.t := by
  refine @(Pt.ind fun x ih y h b hb => ?_)
  obtain ⟨h1, h2, h3, _, _, h6, h7⟩ := rn_parts h
  rw [usesP_eq] at hb ⊢
  rcases List.mem_append.1 hb with hb | hb
  · by_cases hk : nmd y.k = true
    · rw [if_pos hk, List.mem_singleton] at hb
      rw [h1] at hk
      rw [if_pos hk] at h2
      exact ⟨x, by rw [if_pos hk]; simp, by rw [hb]; exact ⟨h1, h2, h3⟩⟩
    · rw [if_neg hk] at hb
      simp at hb
  · obtain ⟨i, hi, hb⟩ := mem_catN.1 hb
    rw [h6] at hi
    obtain ⟨a, ha, e⟩ := ih i hi (h7 i hi) b hb
    exact ⟨a, List.mem_append_right _ (mem_catN.2 ⟨i, hi, ha⟩), e⟩
theorem uses_part {x y : Pt} {i : Nat} (hi : i < x.n) (h : y ∈ usesP (x.c i)) : y ∈ usesP x := by
  rw [usesP_eq]
  exact List.mem_append_right _ (mem_catN.2 ⟨i, hi, h⟩)
theorem vis_rn {f : ByteArray → ByteArray} : ∀ {x y : Pt}, Rn f x y → ∀ d, ∀ v ∈ visP d y, ∃ u ∈ visP d x, v.1 = u.1 ∧ Rn f u.2 v.2 ∧ ∀ a ∈ usesP u.2, a ∈ usesP x := by
  refine @(Pt.ind fun x ih y h d v hv => ?_)
  obtain ⟨_, _, _, _, _, h6, h7⟩ := rn_parts h
  rw [visP_eq] at hv ⊢
  rcases List.mem_cons.1 hv with rfl | hv
  · exact ⟨(d, x), by simp, rfl, h, fun a ha => ha⟩
  · obtain ⟨i, hi, hv⟩ := mem_catN.1 hv
    rw [h6] at hi
    obtain ⟨u, hu, e1, e2, e3⟩ := ih i hi (h7 i hi) (d + 1) v hv
    exact ⟨u, List.mem_cons_of_mem _ (mem_catN.2 ⟨i, hi, hu⟩), e1, e2, fun a ha => uses_part hi (e3 a ha)⟩
theorem between_rn {f : ByteArray → ByteArray} {x y : Pt} (h : Rn f x y) (whole : Bool) (hb : betweenB x whole = true) : betweenB y whole = true := by
  obtain ⟨h1, _, _, _, _, h6, h7⟩ := rn_parts h
  unfold betweenB at hb ⊢
  rw [allN_true] at hb ⊢
  intro i hi
  rw [h6] at hi
  have k1 := (rn_parts (h7 i hi)).1
  have k2 := (rn_parts (h7 (i - 1) (by omega))).1
  have := hb i hi
  unfold notB at this ⊢
  rw [k1, k2, h1, h6]
  exact this
theorem made_rn {f : ByteArray → ByteArray} {x y : Pt} (h : Rn f x y) (inj : ∀ a ∈ usesP x, ∀ b ∈ usesP x, f a.s = f b.s → a.s = b.s) (hm : MadeP x) : MadeP y := by
  obtain ⟨m1, m2, m3⟩ := hm
  refine ⟨by rw [(rn_parts h).1]; exact m1, fun a ha b hb e => ?_, fun v hv => ?_⟩
  · obtain ⟨a', ha', p1, p2, p3⟩ := uses_rn h a ha
    obtain ⟨b', hb', q1, q2, q3⟩ := uses_rn h b hb
    have := m2 a' ha' b' hb' (inj a' ha' b' hb' (by rw [← p2, ← q2]; exact e))
    exact ⟨by rw [p3, q3]; exact this.1, by rw [p1, q1]; exact this.2⟩
  · obtain ⟨u, hu, e1, e2, e3⟩ := vis_rn h 1 v hv
    obtain ⟨n1, n2⟩ := m3 u hu
    refine ⟨by rw [e1]; exact between_rn e2 _ n1, ?_⟩
    rcases n2 with n2 | n2
    · exact .inl (by rw [(rn_parts e2).1]; exact n2)
    · refine .inr fun i j hij hj a ha b hb e => ?_
      obtain ⟨_, _, _, _, _, h6, h7⟩ := rn_parts e2
      rw [h6] at hj
      obtain ⟨a', ha', _, p2, _⟩ := uses_rn (h7 i (by omega)) a ha
      obtain ⟨b', hb', _, q2, _⟩ := uses_rn (h7 j hj) b hb
      exact n2 i j hij hj a' ha' b' hb' (inj a' (e3 a' (uses_part (by omega) ha')) b' (e3 b' (uses_part hj hb')) (by rw [← p2, ← q2]; exact e))
/-- Names, each once. -/
def addS (l : List ByteArray) (s : ByteArray) : List ByteArray := if l.any (fun z => decide (z = s)) = true then l else l ++ [s]
theorem any_map (l : List Pt) (s : ByteArray) : (l.map (·.s)).any (fun z => decide (z = s)) = l.any (fun z => decide (z.s = s)) := by
  induction l with
  | nil => rfl
  | cons a l ih => simp only [List.map_cons, List.any_cons, ih]
theorem first_names : ∀ (l acc : List Pt), (l.foldl addU acc).map (·.s) = (l.map (·.s)).foldl addS (acc.map (·.s))
  | [], _ => rfl
  | y :: l, acc => by
    simp only [List.foldl_cons, List.map_cons]
    rw [first_names l]
    congr 1
    unfold addU addS
    rw [any_map]
    split
    · rfl
    · simp
theorem adds_map {f : ByteArray → ByteArray} : ∀ (l acc : List ByteArray), (∀ a ∈ acc ++ l, ∀ b ∈ acc ++ l, f a = f b → a = b) → (l.map f).foldl addS (acc.map f) = (l.foldl addS acc).map f
  | [], _, _ => rfl
  | s :: l, acc, h => by
    simp only [List.foldl_cons, List.map_cons]
    have e : addS (acc.map f) (f s) = (addS acc s).map f := by
      have : (acc.map f).any (fun z => decide (z = f s)) = acc.any (fun z => decide (z = s)) := by
        rw [Bool.eq_iff_iff, List.any_eq_true, List.any_eq_true]
        constructor
        · rintro ⟨z, hz, e⟩
          obtain ⟨a, ha, rfl⟩ := List.mem_map.1 hz
          exact ⟨a, ha, by simpa using h a (List.mem_append_left _ ha) s (by simp) (by simpa using e)⟩
        · rintro ⟨z, hz, e⟩
          exact ⟨f z, List.mem_map.2 ⟨z, hz, rfl⟩, by simp at e; simp [e]⟩
      unfold addS
      rw [this]
      split
      · rfl
      · simp
    rw [e]
    have sub : ∀ a, a ∈ addS acc s ++ l → a ∈ acc ++ s :: l := fun a ha => by
      unfold addS at ha
      split at ha
      · rcases List.mem_append.1 ha with ha | ha
        · exact List.mem_append_left _ ha
        · exact List.mem_append_right _ (List.mem_cons_of_mem _ ha)
      · rw [List.append_assoc] at ha
        exact ha
    exact adds_map l _ fun a ha b hb => h a (sub a ha) b (sub b hb)
theorem names_rn {f : ByteArray → ByteArray} : ∀ {x y : Pt}, Rn f x y → (usesP y).map (·.s) = ((usesP x).map (·.s)).map f := by
  refine @(Pt.ind fun x ih y h => ?_)
  obtain ⟨h1, h2, _, _, _, h6, h7⟩ := rn_parts h
  have hc : ∀ m, m ≤ x.n → (catN (fun i => usesP (y.c i)) m).map (·.s) = ((catN (fun i => usesP (x.c i)) m).map (·.s)).map f := by
    intro m
    induction m with
    | zero => intro _; rfl
    | succ m ihm => intro hm; simp only [catN, List.map_append, ihm (by omega), ih m (by omega) (h7 m (by omega))]
  rw [usesP_eq, usesP_eq x, List.map_append, List.map_append, List.map_append, h6, hc _ (Nat.le_refl _), h1]
  congr 1
  by_cases hk : nmd x.k = true
  · rw [if_pos hk] at h2
    simp [hk, h2]
  · simp [hk]
theorem first_len {f : ByteArray → ByteArray} {x y : Pt} (h : Rn f x y) (inj : ∀ a ∈ usesP x, ∀ b ∈ usesP x, f a.s = f b.s → a.s = b.s) : (firstL (usesP y)).length = (firstL (usesP x)).length := by
  have e1 := first_names (usesP y) []
  have e2 := first_names (usesP x) []
  have e3 := adds_map (f := f) ((usesP x).map (·.s)) [] (fun a ha b hb e => by
    simp only [List.nil_append] at ha hb
    obtain ⟨a', ha', rfl⟩ := List.mem_map.1 ha
    obtain ⟨b', hb', rfl⟩ := List.mem_map.1 hb
    exact inj a' ha' b' hb' e)
  rw [names_rn h] at e1
  have h1 := congrArg List.length e1
  have h2 := congrArg List.length e2
  have h3 := congrArg List.length e3
  simp only [List.map_nil, List.length_map] at h1 h2 h3
  unfold firstL
  omega
theorem size_rn {f : ByteArray → ByteArray} : ∀ {x y : Pt}, Rn f x y → y.size = x.size := by
  refine @(Pt.ind fun x ih y h => ?_)
  obtain ⟨_, _, _, _, _, h6, h7⟩ := rn_parts h
  rw [x.size_eq, y.size_eq, h6, sumN_congr fun i hi => ih i hi (h7 i hi)]
theorem deep_rn {f : ByteArray → ByteArray} : ∀ {x y : Pt}, Rn f x y → y.deep = x.deep := by
  refine @(Pt.ind fun x ih y h => ?_)
  obtain ⟨_, _, _, _, _, h6, h7⟩ := rn_parts h
  rw [x.deep_eq, y.deep_eq, h6, maxN_congr fun i hi => ih i hi (h7 i hi)]
theorem ownB_rn {f : ByteArray → ByteArray} {x y : Pt} (h : Rn f x y) : ownB y = ownB x := by
  obtain ⟨h1, _, _, _, _, h6, h7⟩ := rn_parts h
  unfold ownB
  rw [h6, h1]
  congr 1
  rw [Bool.eq_iff_iff, allN_true, allN_true]
  constructor
  · intro q i hi; have := q i hi; rwa [(rn_parts (h7 i hi)).1] at this
  · intro q i hi; have := q i hi; rwa [← (rn_parts (h7 i hi)).1] at this
theorem rightN_rn {f : ByteArray → ByteArray} {x y : Pt} (h : Rn f x y) (hf : ∀ s, nameB s = true → nameB (f s) = true) (hr : rightN x = true) : rightN y = true := by
  have ho := ownB_rn h
  obtain ⟨h1, h2, h3, h4, h5, h6, h7⟩ := rn_parts h
  unfold rightN at hr ⊢
  rw [h1]
  by_cases hrow : isRow x.k = true
  · rw [if_pos hrow] at hr ⊢
    have hk : ¬ nmd x.k = true := by
      unfold isRow at hrow
      unfold nmd
      simp only [Bool.or_eq_true, beq_iff_eq] at hrow ⊢
      omega
    rw [if_neg hk] at h2
    unfold rowB at hr ⊢
    rw [ho, h2, h3, h4, h5, h6]
    exact hr
  · rw [if_neg hrow] at hr ⊢
    by_cases k5 : x.k = 5
    · rw [if_pos k5] at hr ⊢
      have hk : nmd x.k = true := by rw [k5]; rfl
      rw [if_pos hk] at h2
      unfold manyB at hr ⊢
      rw [Bool.and_eq_true] at hr
      rw [h2, h3, h4, h5, h6, hf _ hr.1, Bool.true_and]
      exact hr.2
    · rw [if_neg k5] at hr ⊢
      by_cases k16 : x.k = 1 ∨ x.k = 6
      · rw [if_pos k16] at hr ⊢
        have hk : nmd x.k = true := by rcases k16 with e | e <;> rw [e] <;> rfl
        rw [if_pos hk] at h2
        unfold leafB at hr ⊢
        rw [Bool.and_eq_true] at hr
        rw [h2, h3, h4, h5, h6, hf _ hr.1, Bool.true_and]
        exact hr.2
      · rw [if_neg k16] at hr
        cases hr
theorem rightP_rn {f : ByteArray → ByteArray} (hf : ∀ s, nameB s = true → nameB (f s) = true) : ∀ {x y : Pt}, Rn f x y → rightP x = true → rightP y = true := by
  refine @(Pt.ind fun x ih y h hr => ?_)
  rw [rightP_eq, Bool.and_eq_true, allN_true] at hr ⊢
  obtain ⟨_, _, _, _, _, h6, h7⟩ := rn_parts h
  refine ⟨rightN_rn h hf hr.1, fun i hi => ?_⟩
  rw [h6] at hi
  exact ih i hi (h7 i hi) (hr.2 i hi)
theorem chkP_rn {f : ByteArray → ByteArray} (hf : ∀ s, nameB s = true → nameB (f s) = true) {x y : Pt} (h : Rn f x y) (hc : chkP x = 0) : chkP y = 0 := by
  rw [chkP_zero] at hc ⊢
  rw [size_rn h, deep_rn h]
  exact ⟨hc.1, hc.2.1, rightP_rn hf h hc.2.2⟩
theorem ok_rn {f : ByteArray → ByteArray} (hf : ∀ s, s.size ≤ maxLen → (f s).size ≤ maxLen) : ∀ {x y : Pt}, Rn f x y → POk x → POk y := by
  refine @(Pt.ind fun x ih y h ho => ?_)
  obtain ⟨_, h2, h3, _, _, h6, h7⟩ := rn_parts h
  obtain ⟨o1, o2, o3⟩ := (pOk_eq x).1 ho
  refine (pOk_eq y).2 ⟨?_, by rw [h3]; exact o2, fun i hi => ?_⟩
  · rw [h2]
    split
    · exact hf _ o1
    · exact o1
  · rw [h6] at hi
    exact ih i hi (h7 i hi) (o3 i hi)
/-- And back. -/
theorem back_rn {f g : ByteArray → ByteArray} : ∀ {x y z : Pt}, Rn f x y → Rn g y z → (∀ a ∈ usesP x, g (f a.s) = a.s) → Sm x z := by
  refine @(Pt.ind fun x ih y z h k hg => ?_)
  obtain ⟨h1, h2, h3, h4, h5, h6, h7⟩ := rn_parts h
  obtain ⟨k1, k2, k3, k4, k5, k6, k7⟩ := rn_parts k
  refine (sm_iff _ _).2 ⟨by rw [k1, h1], ?_, by rw [k3, h3], by rw [k4, h4], by rw [k5, h5], by rw [k6, h6], fun i hi => ih i hi (h7 i hi) (k7 i (by rw [h6]; exact hi)) fun a ha => hg a (uses_part hi ha)⟩
  rw [k2, h2, h1]
  by_cases hk : nmd x.k = true
  · simp only [if_pos hk]
    exact (hg x (by rw [usesP_eq, if_pos hk]; simp)).symm
  · simp only [if_neg hk]
/-- One name for another that nobody has. -/
theorem one_inj {x : Pt} {v u : ByteArray} (hu : ∀ a ∈ usesP x, a.s ≠ u) : ∀ a ∈ usesP x, ∀ b ∈ usesP x, nameX (fun _ => v) (fun _ => u) 1 a.s = nameX (fun _ => v) (fun _ => u) 1 b.s → a.s = b.s := by
  intro a ha b hb e
  rw [nameX_one, nameX_one] at e
  by_cases e1 : v = a.s
  · by_cases e2 : v = b.s
    · rw [← e1, ← e2]
    · rw [if_pos e1, if_neg e2] at e
      exact absurd e.symm (hu b hb)
  · by_cases e2 : v = b.s
    · rw [if_neg e1, if_pos e2] at e
      exact absurd e (hu a ha)
    · rw [if_neg e1, if_neg e2] at e
      exact e
theorem one_back {x : Pt} {v u : ByteArray} (hu : ∀ a ∈ usesP x, a.s ≠ u) : ∀ a ∈ usesP x, nameX (fun _ => u) (fun _ => v) 1 (nameX (fun _ => v) (fun _ => u) 1 a.s) = a.s := by
  intro a ha
  rw [nameX_one, nameX_one]
  by_cases e1 : v = a.s
  · rw [if_pos e1, if_pos rfl]; exact e1
  · rw [if_neg e1, if_neg fun e => hu a ha e.symm]
theorem one_name {v u : ByteArray} (hu : nameB u = true) (s : ByteArray) (hs : nameB s = true) : nameB (nameX (fun _ => v) (fun _ => u) 1 s) = true := by
  rw [nameX_one]
  split
  · exact hu
  · exact hs
theorem one_ok {v u : ByteArray} (hu : u.size ≤ maxLen) (s : ByteArray) (hs : s.size ≤ maxLen) : (nameX (fun _ => v) (fun _ => u) 1 s).size ≤ maxLen := by
  rw [nameX_one]
  split
  · exact hu
  · exact hs
theorem letter_name {u : ByteArray} (h1 : u.size = 1) (h2 : 97 ≤ byteAt u 0) (h3 : byteAt u 0 ≤ 122) : nameB u = true := by
  have : ∀ j, j < u.size → okB (byteAt u j) j = true := fun j hj => by
    obtain rfl : j = 0 := by omega
    unfold okB smallB
    simp [h2, h3]
  rw [nameB_all this]
  unfold fitsB
  rw [h1]
  rfl
end Go.Proofs.YtinnhaojmnmliaaGreat
namespace Go.Proofs.YtinnhaojmnmliaaGreat
open Go.RowKit

abbrev one (v u : ByteArray) : ByteArray → ByteArray := nameX (fun _ => v) (fun _ => u) 1
theorem one_eq (v u s : ByteArray) : one v u s = if v = s then u else s := nameX_one v u s
theorem one_bk {v u s : ByteArray} (h : s ≠ u) : one u v (one v u s) = s := by
  rw [one_eq, one_eq]
  by_cases e : v = s
  · rw [if_pos e, if_pos rfl]; exact e
  · rw [if_neg e, if_neg fun q => h q.symm]
theorem one_in {v u s t : ByteArray} (hs : s ≠ u) (ht : t ≠ u) (h : one v u s = one v u t) : s = t := by
  have h1 := one_bk (v := v) hs
  rw [h, one_bk ht] at h1
  exact h1.symm
section
variable {q p r : Qy} {v u : ByteArray} (h : RnQ (one v u) q p)
include h
theorem rn_n : p.n = q.n := by
  obtain ⟨-, -, -, -, n1, -⟩ := (ordX_zero _ _).1 h.x
  exact n1
theorem rn_bulk : p.bulk = q.bulk := by
  unfold Qy.bulk
  rw [size_rn (f := one v u) h.p, ren_size h.x, h.m]
theorem rn_ok (zu : u.size ≤ maxLen) (hok : QOk q) : QOk p := by
  refine ⟨ok_rn (one_ok zu) h.p hok.p, xOk_one h.x zu hok.x, by rw [h.key]; exact hok.key, fun i hi => ?_⟩
  rw [h.m] at hi
  rw [h.it i hi]
  exact ⟨(hok.it i hi).1, one_ok zu _ (hok.it i hi).2.1, (hok.it i hi).2.2⟩
theorem rn_mem (t : ByteArray) : t ∈ allV p ↔ ∃ s ∈ allV q, one v u s = t := by
  have hp : ∀ t, t ∈ namesP p.p ↔ ∃ s ∈ namesP q.p, one v u s = t := fun t => by
    have m1 : ∀ (x : Pt) (t : ByteArray), t ∈ namesP x ↔ t ∈ (usesP x).map (·.s) := fun x t => by
      rw [namesP, List.mem_map, List.mem_map]
      constructor
      · rintro ⟨y, hy, e⟩
        exact ⟨y, mem_firstL hy, e⟩
      · rintro ⟨y, hy, e⟩
        obtain ⟨z, hz, q⟩ := firstL_has hy
        exact ⟨z, hz, q.trans e⟩
    rw [m1, names_rn (f := one v u) h.p, List.mem_map]
    constructor
    · rintro ⟨s, hs, e⟩
      exact ⟨s, (m1 _ _).2 hs, e⟩
    · rintro ⟨s, hs, e⟩
      exact ⟨s, (m1 _ _).1 hs, e⟩
  have hx : ∀ t, t ∈ varsX p.x ↔ ∃ s ∈ varsX q.x, one v u s = t := fun t => by
    rw [mem_vars]
    have h1 : hasVar t p.x ↔ hasVar t (renX (one v u) q.x) := ⟨hasVar_same t _ _ h.x, hasVar_same t _ _ (ordX_zsymm h.x)⟩
    rw [h1, hasVar_ren]
    constructor
    · rintro ⟨s, hs, e⟩
      exact ⟨s, (mem_vars _ _).2 hs, e⟩
    · rintro ⟨s, hs, e⟩
      exact ⟨s, (mem_vars _ _).1 hs, e⟩
  have hi : ∀ t, t ∈ lstS (fun i => (p.it i).s) p.m ↔ ∃ s ∈ lstS (fun i => (q.it i).s) q.m, one v u s = t := fun t => by
    rw [lstS_mem, h.m]
    constructor
    · rintro ⟨j, hj, e⟩
      refine ⟨(q.it j).s, (lstS_mem _ _ _).2 ⟨j, hj, rfl⟩, ?_⟩
      rw [h.it j hj] at e
      exact e
    · rintro ⟨s, hs, e⟩
      obtain ⟨j, hj, rfl⟩ := (lstS_mem _ _ _).1 hs
      refine ⟨j, hj, ?_⟩
      rw [h.it j hj]
      exact e
  unfold allV
  simp only [List.mem_append, hp t, hx t, hi t]
  constructor
  · rintro ((⟨s, hs, e⟩ | ⟨s, hs, e⟩) | ⟨s, hs, e⟩)
    · exact ⟨s, .inl (.inl hs), e⟩
    · exact ⟨s, .inl (.inr hs), e⟩
    · exact ⟨s, .inr hs, e⟩
  · rintro ⟨s, (hs | hs) | hs, e⟩
    · exact .inl (.inl ⟨s, hs, e⟩)
    · exact .inl (.inr ⟨s, hs, e⟩)
    · exact .inr ⟨s, hs, e⟩
theorem rn_len (hu : ¬ u ∈ allV q) : (namesQ p).length = (namesQ q).length := by
  refine sorted_map_length (one v u) (namesQ q) (namesQ p) (namesQ_sorted q) (namesQ_sorted p) (fun s hs t ht e => ?_) fun t => ?_
  · rw [namesQ_mem] at hs ht
    exact one_in (v := v) (u := u) (fun q => hu (by rw [← q]; exact hs)) (fun q => hu (by rw [← q]; exact ht)) e
  · rw [namesQ_mem, rn_mem h]
    constructor
    · rintro ⟨s, hs, e⟩
      exact ⟨s, (namesQ_mem _ _).2 hs, e⟩
    · rintro ⟨s, hs, e⟩
      exact ⟨s, (namesQ_mem _ _).1 hs, e⟩
theorem rn_back (hu : ¬ u ∈ allV q) (k : RnQ (one u v) p r) : sameQ r q = true := by
  have hp : ∀ a ∈ usesP q.p, a.s ≠ u := fun a ha e => hu (by
    obtain ⟨z, hz, e2⟩ := firstL_has ha
    rw [allV, List.mem_append, List.mem_append]
    exact .inl (.inl (List.mem_map.2 ⟨z, hz, e2.trans e⟩)))
  have hx : ¬ hasVar u q.x := fun e => hu (by
    rw [allV, List.mem_append, List.mem_append]
    exact .inl (.inr ((mem_vars _ _).2 e)))
  have hi : ∀ i, i < q.m → (q.it i).s ≠ u := fun i hi e => hu (by
    rw [allV, List.mem_append]
    exact .inr ((lstS_mem _ _ _).2 ⟨i, hi, e⟩))
  have h1 : Sm q.p r.p := back_rn (f := one v u) (g := one u v) h.p k.p (one_back hp)
  have h2 : ordX q.x r.x = 0 := ren_back h.x hx k.x
  obtain ⟨-, -, -, -, n1, x1⟩ := (ordX_zero _ _).1 (ordX_zsymm h2)
  refine (sameQ_iff r q).2 ⟨h1.symm, k.key.trans h.key, k.mode.trans h.mode, k.win.trans h.win, n1, k.m.trans h.m, x1, fun i hi2 => ?_⟩
  have hi3 : i < p.m := k.m ▸ hi2
  have hi4 : i < q.m := h.m ▸ hi3
  rw [k.it i hi3, h.it i hi4]
  unfold renI
  rw [show one u v (one v u (q.it i).s) = (q.it i).s from one_bk (hi i hi4)]
omit h in
theorem nodeR_rn {x y : X} (hy : ordX y (renX (one v u) x) = 0) (hn : nameB u = true) (hr : NodeR x) : NodeR y := by
  obtain ⟨a1, a2, a3, a4, a5, a6⟩ := (ordX_zero _ _).1 hy
  obtain ⟨p1, p2, p3, p4, p5, p6⟩ := renX_parts (one v u) x
  rw [p1] at a1
  rw [p2] at a2
  rw [p3] at a3
  rw [p4] at a4
  rw [p5] at a5
  have hk : ∀ i, i < y.n → (y.c i).k = (x.c i).k := fun i hi => by
    obtain ⟨b1, -⟩ := (ordX_zero _ _).1 (a6 i hi)
    rw [p6, (renX_parts (one v u) (x.c i)).1] at b1
    exact b1
  unfold NodeR at hr ⊢
  obtain ⟨h1, h2, h3⟩ := hr
  refine ⟨fun e => a2.trans (h1 (a1 ▸ e)), fun e => ?_, ?_⟩
  · have e' : x.k ≠ 2 := a1 ▸ e
    rw [if_neg e'] at a3
    exact ⟨a3.trans (h2 e').1, a4.trans (h2 e').2⟩
  · rcases h3 with ⟨b1, b2, b3⟩ | ⟨b1, b2, b3, b4⟩ | ⟨b1, b2⟩ | ⟨b1, b2, b3⟩ | ⟨b1, b2, b3⟩
    · exact .inl ⟨a1.trans b1, a5.trans b2, by rw [a2]; exact b3⟩
    · rw [if_pos b1] at a3
      exact .inr (.inl ⟨a1.trans b1, a5.trans b2, by rw [a3]; exact one_name hn _ b3, by rw [a4]; exact b4⟩)
    · exact .inr (.inr (.inl ⟨by rw [a1]; exact b1, a5.trans b2⟩))
    · exact .inr (.inr (.inr (.inl ⟨by rw [a1]; exact b1, by rw [a1]; exact b2, a5.trans b3⟩)))
    · refine .inr (.inr (.inr (.inr ⟨by rw [a1]; exact b1, by rw [a5]; exact b2, fun i hi => ?_⟩)))
      rw [hk i hi, a1]
      exact b3 i (a5 ▸ hi)
omit h in
theorem treeR_rn (hn : nameB u = true) : ∀ x y : X, ordX y (renX (one v u) x) = 0 → TreeR x → TreeR y := by
  refine X.ind fun x ih y hy hr => ?_
  rw [treeR_eq] at hr ⊢
  obtain ⟨a1, a2, a3, a4, a5, a6⟩ := (ordX_zero _ _).1 hy
  obtain ⟨p1, p2, p3, p4, p5, p6⟩ := renX_parts (one v u) x
  rw [p5] at a5
  refine ⟨nodeR_rn hy hn hr.1, fun i hi => ?_⟩
  have hi' : i < x.n := a5 ▸ hi
  have := a6 i hi
  rw [p6] at this
  exact ih i hi' _ this (hr.2 i hi')
omit h in
theorem chkX_zero (x : X) : chkX x = 0 ↔ x.size ≤ 100 ∧ TreeR x := by
  unfold chkX
  by_cases h1 : 100 < x.size
  · rw [if_pos h1]
    constructor
    · intro e; omega
    · intro e; omega
  · rw [if_neg h1]
    by_cases h2 : TreeR x
    · rw [if_pos h2]
      exact ⟨fun _ => ⟨by omega, h2⟩, fun _ => rfl⟩
    · rw [if_neg h2]
      constructor
      · intro e; omega
      · intro e; exact absurd e.2 h2
omit h in
theorem clN_zero {q : Qy} (hz : ∀ j, j < 9 → clN q j = 0) : cl1 q = 0 ∧ cl2 q = 0 ∧ cl3 q = 0 ∧ cl4 q = 0 ∧ cl5 q = 0 ∧ cl6 q = 0 ∧ cl7 q = 0 ∧ cl8 q = 0 ∧ cl9 q = 0 :=
  ⟨hz 0 (by omega), hz 1 (by omega), hz 2 (by omega), hz 3 (by omega), hz 4 (by omega), hz 5 (by omega), hz 6 (by omega), hz 7 (by omega), hz 8 (by omega)⟩
theorem rn_chk (hn : nameB u = true) (hc : chkQ q = 0) : chkQ p = 0 := by
  obtain ⟨c1, c2, c3, c4, c5, c6, c7, c8, c9⟩ := clN_zero (lexN_zero.1 hc)
  have hpn := rn_n h
  obtain ⟨-, -, -, -, -, x6⟩ := (ordX_zero _ _).1 h.x
  have hpx : ∀ i, i < q.n → ordX (p.c i) (renX (one v u) (q.c i)) = 0 := fun i hi => x6 i (show i < p.n from hpn ▸ hi)
  have d1 : cl1 p = 0 := chkP_rn (one_name hn) h.p c1
  have d2 : cl2 p = 0 := by unfold cl2; rw [hpn, h.m]; exact c2
  have d3 : cl3 p = 0 := by
    unfold cl3
    rw [lexN_zero]
    intro i hi
    rw [hpn] at hi
    have h0 := lexN_zero.1 c3 i hi
    obtain ⟨k1, k2⟩ := (chkX_zero _).1 h0
    exact (chkX_zero _).2 ⟨by rw [ren_size (hpx i hi)]; exact k1, treeR_rn hn _ _ (hpx i hi) k2⟩
  have d4 : cl4 p = 0 := by unfold cl4; rw [ren_size h.x]; exact c4
  have d5 : cl5 p = 0 := by
    unfold cl5 at c5 ⊢
    by_cases e : ∃ i, i < q.n ∧ (q.c i).k = 16
    · rw [if_pos e] at c5; cases c5
    · rw [if_neg]
      rintro ⟨i, hi, ek⟩
      rw [hpn] at hi
      obtain ⟨b1, -⟩ := (ordX_zero _ _).1 (hpx i hi)
      rw [(renX_parts (one v u) (q.c i)).1] at b1
      exact e ⟨i, hi, b1 ▸ ek⟩
  have d6 : cl6 p = 0 := by unfold cl6; rw [h.key]; exact c6
  have d7 : cl7 p = 0 := by unfold cl7; rw [h.mode]; exact c7
  have d8 : cl8 p = 0 := by unfold cl8; rw [h.win]; exact c8
  have d9 : cl9 p = 0 := by
    unfold cl9 at c9 ⊢
    by_cases e : ItemsR q q.m
    · refine if_pos ⟨fun i hi => ?_, fun i hi j hj => ?_⟩
      · rw [h.m] at hi
        rw [h.it i hi]
        have := e.1 i hi
        unfold rightI renI at *
        simp only [Bool.and_eq_true] at this ⊢
        exact ⟨this.1, one_name hn _ this.2.1, this.2.2⟩
      · rw [h.m] at hi
        rw [h.it i hi, h.it j (by omega)]
        exact e.2 i hi j hj
    · rw [if_neg e] at c9; cases c9
  refine lexN_zero.2 fun j hj => ?_
  match j, hj with
  | 0, _ => exact d1
  | 1, _ => exact d2
  | 2, _ => exact d3
  | 3, _ => exact d4
  | 4, _ => exact d5
  | 5, _ => exact d6
  | 6, _ => exact d7
  | 7, _ => exact d8
  | 8, _ => exact d9
end
end Go.Proofs.YtinnhaojmnmliaaGreat
namespace Go.Proofs.YtinnhaojmnmliaaGreat
open Go.RowKit

set_option maxRecDepth 100000 in
set_option maxHeartbeats 4000000 in
theorem equalFunc_no (a a' : Option Addr) (n m cap cap' : Nat) (w : World) (hne : ¬ n = m) :
    Calls Tryz.prog 68 #[.slice a n cap, .slice a' m cap', .func (.func 35) #[] #[]] w fun e w' => e = .returned (.bool false) ∧ Below w.heap.size w w' := by
  have t := ne_no (show ¬ ((n : Nat) : Int) = ((m : Nat) : Int) by omega)
  clear hne
  go_enter Tryz.func68, Tryz.ntmps68
  go_wp2
  go_ret
  exact ⟨rfl, Below.refl _ _⟩
set_option maxRecDepth 100000 in
set_option maxHeartbeats 4000000 in
theorem equalFunc_any (a a' : Option Addr) (n cap cap' : Nat) (c c' : Nat → Pt) (w : World) (hn : n ≤ 9223372036854775807) (h1 : ∀ i, i < n → ∃ b o, a = some ⟨b, o, none⟩ ∧ NodeP w b (o + i * 6) (c i)) (h2 : ∀ i, i < n → ∃ b o, a' = some ⟨b, o, none⟩ ∧ NodeP w b (o + i * 6) (c' i))
    (hC : ∀ i, i < n → ∀ W, Below w.heap.size w W → Calls Tryz.prog 35 #[(c i).val, (c' i).val] W fun e w' => e = .returned (.bool (sameP (c i) (c' i))) ∧ Below W.heap.size W w') :
    Calls Tryz.prog 68 #[.slice a n cap, .slice a' n cap', .func (.func 35) #[] #[]] w fun e w' => e = .returned (.bool (allN (fun i => sameP (c i) (c' i)) n)) ∧ Below w.heap.size w w' := by
  obtain ⟨r, hr⟩ : ∃ r, r = allN (fun i => sameP (c i) (c' i)) n := ⟨_, rfl⟩
  have HF : Hid (∀ i, i < n → sameP (c i) (c' i) = false → r = false) := fun i hi h => hr.trans (allN_false hi h)
  have HT : Hid ((∀ i, i < n → sameP (c i) (c' i) = true) → r = true) := fun h => hr.trans (allN_true.2 h)
  rw [← hr]
  have HC : Hid (∀ i, i < n → ∀ W, Below w.heap.size w W → Calls Tryz.prog 35 #[(c i).val, (c' i).val] W fun e w' => e = .returned (.bool (sameP (c i) (c' i))) ∧ Below W.heap.size W w') := hC
  have H1 : Hid (∀ i, i < n → ∃ b o, a = some ⟨b, o, none⟩ ∧ NodeP w b (o + i * 6) (c i)) := h1
  have H2 : Hid (∀ i, i < n → ∃ b o, a' = some ⟨b, o, none⟩ ∧ NodeP w b (o + i * 6) (c' i)) := h2
  clear hr hC h1 h2
  go_enter Tryz.func68, Tryz.ntmps68
  go_wp2
  go_loopw [17] (fun u wr => ∃ k : Nat, k ≤ n ∧ u = .int .i64 k ∧ Hid (∀ i, i < k → sameP (c i) (c' i) = true) ∧ Below w.heap.size w wr) (fun u _ => n - (intOf u).toNat)
  case atStart => exact ⟨0, Nat.zero_le _, rfl, fun i hi => absurd hi (Nat.not_lt_zero _), Below.refl _ _⟩
  case round =>
    obtain ⟨k, hk, rfl, HK, hB⟩ := hrel
    by_cases hkn : k < n
    · obtain ⟨b, o, rfl, hn1⟩ := H1.out k hkn
      obtain ⟨b', o', rfl, hn2⟩ := H2.out k hkn
      obtain ⟨A, hA, hB2, hs, hm1, hm2⟩ := boxP_two (c k) (c' k) wr
      have hlt := hn1.lt
      have hlt2 := hn2.lt
      have q2 : NodeP (wr.alloc (.cells (c k).cells 24)) b' (o' + k * 6) (c' k) := (hn2.later hB).later ((Below.refl _ _).alloc (Nat.le_refl _) _)
      obtain ⟨d0, d1, d2, d3, d4, d5⟩ := hn1.later hB
      obtain ⟨f0, f1, f2, f3, f4, f5⟩ := q2
      obtain ⟨g0, g1, g2, g3, g4, g5⟩ := hm1.at0
      obtain ⟨i0, i1, i2, i3, i4, i5⟩ := hm2.at0
      have hc := HC.out k hkn A (hB.trans (hB2.mono hB.size))
      have HKN : Hid (k < n) := hkn
      have HB : Hid (Below w.heap.size w A) := hB.trans (hB2.mono hB.size)
      obtain ⟨q, hq⟩ : ∃ q, q = sameP (c k) (c' k) := ⟨_, rfl⟩
      rw [← hq] at hc
      have HE : Hid (q = sameP (c k) (c' k)) := hq
      clear hq hn1 hn2 hm1 hm2 hB2 hs hB
      go_wp2_with (go_at_call 35; refine hc.mono ?_; clear hc; rintro e w2 ⟨rfl, hB2⟩; cases q)
      all_goals go_wp2
      all_goals first
        | (go_ret; exact ⟨by rw [HF.out k HKN.out HE.out.symm]; rfl, HB.out.trans (hB2.mono HB.out.size)⟩)
        | (go_roundw
           case rel =>
             refine ⟨k + 1, HKN.out, by go_num, fun i hi => ?_, HB.out.trans (hB2.mono HB.out.size)⟩
             by_cases e : i = k
             · rw [e]; exact HE.out.symm
             · exact HK.out i (by omega)
           case measure => have := HKN.out; simp [intOf]; omega)
    · obtain rfl : k = n := by omega
      go_wp2
      go_ret
      exact ⟨by rw [HT.out HK.out]; rfl, hB⟩
set_option maxRecDepth 100000 in
set_option maxHeartbeats 8000000 in
theorem samePat_any : ∀ (x y : Pt) (w : World), IsP w x → IsP w y → Calls Tryz.prog 35 #[x.val, y.val] w fun e w' => e = .returned (.bool (sameP x y)) ∧ Below w.heap.size w w' := by
  refine Pt.ind fun x ih y w hX hY => ?_
  obtain ⟨A, hA, hB, hs, hn, hm⟩ := boxP_two x y w
  obtain ⟨a0, a1, a2, a3, a4, a5⟩ := hn.at0
  obtain ⟨b0, b1, b2, b3, b4, b5⟩ := hm.at0
  have HB : Hid (Below w.heap.size w A) := hB
  have EQ : Hid (∀ d, Below A.heap.size A d → Calls Tryz.prog 68 #[.slice x.a x.n x.cap, .slice y.a y.n y.cap, .func (.func 35) #[] #[]] d fun e w' => e = .returned (.bool (decide (x.n = y.n) && allN (fun i => sameP (x.c i) (y.c i)) x.n)) ∧ Below d.heap.size d w') := fun d hd => by
    have hw := hB.trans (hd.mono (by omega))
    by_cases e : x.n = y.n
    · rw [decide_eq_true e, Bool.true_and, ← e]
      refine equalFunc_any x.a y.a x.n x.cap y.cap x.c y.c d hX.len (fun i hi => ?_) (fun i hi => ?_) fun i hi W hW => ?_
      · obtain ⟨b, o, ea, h1, _⟩ := (hX.later hw).part hi
        exact ⟨b, o, ea, h1⟩
      · obtain ⟨b, o, ea, h1, _⟩ := (hY.later hw).part (e ▸ hi)
        exact ⟨b, o, ea, h1⟩
      · obtain ⟨_, _, _, _, h1⟩ := (hX.later (hw.trans (hW.mono hw.size))).part hi
        obtain ⟨_, _, _, _, h2⟩ := (hY.later (hw.trans (hW.mono hw.size))).part (e ▸ hi)
        exact ih i hi _ W h1 h2
    · rw [decide_eq_false e, Bool.false_and]
      exact equalFunc_no x.a y.a x.n y.n x.cap y.cap d e
  obtain ⟨q, hq⟩ : ∃ q, q = (decide (x.n = y.n) && allN (fun i => sameP (x.c i) (y.c i)) x.n) := ⟨_, rfl⟩
  rw [← hq] at EQ
  have HR : Hid (sameP x y = (decide (x.k = y.k) && (decide (x.s = y.s) && (decide (x.t = y.t) && (decide (x.lo = y.lo) && (decide (x.hi = y.hi) && q)))))) := by show _ = _; rw [hq]; exact sameP_eq x y
  clear ih hX hY hB hn hm hq
  generalize sameP x y = r at HR ⊢
  by_cases e1 : x.k = y.k
  · by_cases e2 : x.s = y.s
    · by_cases e3 : x.t = y.t
      · by_cases e4 : x.lo = y.lo
        · by_cases e5 : x.hi = y.hi
          · have HR' : Hid (r = q) := by show r = q; rw [HR.out, decide_eq_true e1, decide_eq_true e2, decide_eq_true e3, decide_eq_true e4, decide_eq_true e5]; simp
            have t1 : (x.k == y.k) = true := by simpa using e1
            have t2 := str_yes e2
            have t3 := str_yes e3
            have t4 : (x.lo == y.lo) = true := by simpa using e4
            have t5 : (x.hi == y.hi) = true := by simpa using e5
            clear e1 e2 e3 e4 e5 HR
            go_enter Tryz.func35, Tryz.ntmps35
            go_wp2_with (go_at_call 68; refine (EQ.out _ (Below.refl _ _)).mono ?_; clear EQ; rintro e w2 ⟨rfl, hB2⟩)
            go_ret
            exact ⟨by rw [HR'.out]; rfl, HB.out.trans (hB2.mono (by omega))⟩
          · have HR' : Hid (r = false) := by show r = false; rw [HR.out, decide_eq_true e1, decide_eq_true e2, decide_eq_true e3, decide_eq_true e4, decide_eq_false e5]; simp
            have t1 : (x.k == y.k) = true := by simpa using e1
            have t2 := str_yes e2
            have t3 := str_yes e3
            have t4 : (x.lo == y.lo) = true := by simpa using e4
            have t5 : (x.hi == y.hi) = false := by simpa using e5
            clear e1 e2 e3 e4 e5 HR EQ
            go_enter Tryz.func35, Tryz.ntmps35
            go_wp2
            go_ret
            exact ⟨by rw [HR'.out]; rfl, HB.out⟩
        · have HR' : Hid (r = false) := by show r = false; rw [HR.out, decide_eq_true e1, decide_eq_true e2, decide_eq_true e3, decide_eq_false e4]; simp
          have t1 : (x.k == y.k) = true := by simpa using e1
          have t2 := str_yes e2
          have t3 := str_yes e3
          have t4 : (x.lo == y.lo) = false := by simpa using e4
          clear e1 e2 e3 e4 HR EQ
          go_enter Tryz.func35, Tryz.ntmps35
          go_wp2
          go_ret
          exact ⟨by rw [HR'.out]; rfl, HB.out⟩
      · have HR' : Hid (r = false) := by show r = false; rw [HR.out, decide_eq_true e1, decide_eq_true e2, decide_eq_false e3]; simp
        have t1 : (x.k == y.k) = true := by simpa using e1
        have t2 := str_yes e2
        have t3 := str_not e3
        clear e1 e2 e3 HR EQ
        go_enter Tryz.func35, Tryz.ntmps35
        go_wp2
        go_ret
        exact ⟨by rw [HR'.out]; rfl, HB.out⟩
    · have HR' : Hid (r = false) := by show r = false; rw [HR.out, decide_eq_true e1, decide_eq_false e2]; simp
      have t1 : (x.k == y.k) = true := by simpa using e1
      have t2 := str_not e2
      clear e1 e2 HR EQ
      go_enter Tryz.func35, Tryz.ntmps35
      go_wp2
      go_ret
      exact ⟨by rw [HR'.out]; rfl, HB.out⟩
  · have HR' : Hid (r = false) := by show r = false; rw [HR.out, decide_eq_false e1]; simp
    have t1 : (x.k == y.k) = false := by simpa using e1
    clear e1 HR EQ
    go_enter Tryz.func35, Tryz.ntmps35
    go_wp2
    go_ret
    exact ⟨by rw [HR'.out]; rfl, HB.out⟩
end Go.Proofs.YtinnhaojmnmliaaGreat
