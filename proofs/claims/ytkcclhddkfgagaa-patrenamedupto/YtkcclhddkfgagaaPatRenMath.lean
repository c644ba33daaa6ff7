/-
  A pattern with other names is as well made as it was: plain facts, of no function.
-/
import Derived.Test.YtkcclhddkfgagaaPatMadeMath
import Derived.Test.YtkcclhddkfgagaaPatRen
import Derived.Test.YtkcclhddkfgagaaRefVar
namespace Go.Proofs.Ytkcclhddkfgagaa
open Go.RowKit

/-- The same but for its names. -/
def Rn (f : ByteArray → ByteArray) (x y : Pt) : Prop := Sm y (renP f x)
theorem rn_parts {f : ByteArray → ByteArray} {x y : Pt} (h : Rn f x y) : y.k = x.k ∧ y.s = (if nmd x.k = true then f x.s else x.s) ∧ y.t = x.t ∧ y.lo = x.lo ∧ y.hi = x.hi ∧ y.n = x.n ∧ ∀ i, i < x.n → Rn f (x.c i) (y.c i) := by
  obtain ⟨h1, h2, h3, h4, h5, h6, h7⟩ := (sm_iff _ _).1 h
  obtain ⟨a1, a2, a3, a4, a5, a6, a7⟩ := renP_parts f x
  refine ⟨h1.trans a1, h2.trans a2, h3.trans a3, h4.trans a4, h5.trans a5, h6.trans a6, fun i hi => ?_⟩
  have := h7 i (by rw [h6, a6]; exact hi)
  rw [a7] at this
  exact this
theorem uses_rn {f : ByteArray → ByteArray} : ∀ {x y : Pt}, Rn f x y → ∀ b ∈ usesP y, ∃ a ∈ usesP x, b.k = a.k ∧ b.s = f a.s ∧ b.t = a.t := by
  refine @(Pt.ind fun x ih y h b hb => ?_)
  obtain ⟨h1, h2, h3, _, _, h6, h7⟩ := rn_parts h
  rw [usesP_eq] at hb ⊢
  rcases List.mem_append.1 hb with hb | hb
  · by_cases hk : nmd y.k = true
    · rw [if_pos hk, List.mem_singleton] at hb
      rw [h1] at hk
      rw [if_pos hk] at h2
      exact ⟨x, by rw [if_pos hk]; simp, by rw [hb]; exact ⟨h1, h2, h3⟩⟩
    · rw [if_neg hk] at hb
      simp at hb
  · obtain ⟨i, hi, hb⟩ := mem_catN.1 hb
    rw [h6] at hi
    obtain ⟨a, ha, e⟩ := ih i hi (h7 i hi) b hb
    exact ⟨a, List.mem_append_right _ (mem_catN.2 ⟨i, hi, ha⟩), e⟩
theorem uses_part {x y : Pt} {i : Nat} (hi : i < x.n) (h : y ∈ usesP (x.c i)) : y ∈ usesP x := by
  rw [usesP_eq]
  exact List.mem_append_right _ (mem_catN.2 ⟨i, hi, h⟩)
theorem vis_rn {f : ByteArray → ByteArray} : ∀ {x y : Pt}, Rn f x y → ∀ d, ∀ v ∈ visP d y, ∃ u ∈ visP d x, v.1 = u.1 ∧ Rn f u.2 v.2 ∧ ∀ a ∈ usesP u.2, a ∈ usesP x := by
  refine @(Pt.ind fun x ih y h d v hv => ?_)
  obtain ⟨_, _, _, _, _, h6, h7⟩ := rn_parts h
  rw [visP_eq] at hv ⊢
  rcases List.mem_cons.1 hv with rfl | hv
  · exact ⟨(d, x), by simp, rfl, h, fun a ha => ha⟩
  · obtain ⟨i, hi, hv⟩ := mem_catN.1 hv
    rw [h6] at hi
    obtain ⟨u, hu, e1, e2, e3⟩ := ih i hi (h7 i hi) (d + 1) v hv
    exact ⟨u, List.mem_cons_of_mem _ (mem_catN.2 ⟨i, hi, hu⟩), e1, e2, fun a ha => uses_part hi (e3 a ha)⟩
theorem between_rn {f : ByteArray → ByteArray} {x y : Pt} (h : Rn f x y) (whole : Bool) (hb : betweenB x whole = true) : betweenB y whole = true := by
  obtain ⟨h1, _, _, _, _, h6, h7⟩ := rn_parts h
  unfold betweenB at hb ⊢
  rw [allN_true] at hb ⊢
  intro i hi
  rw [h6] at hi
  have k1 := (rn_parts (h7 i hi)).1
  have k2 := (rn_parts (h7 (i - 1) (by omega))).1
  have := hb i hi
  unfold notB at this ⊢
  rw [k1, k2, h1, h6]
  exact this
theorem made_rn {f : ByteArray → ByteArray} {x y : Pt} (h : Rn f x y) (inj : ∀ a ∈ usesP x, ∀ b ∈ usesP x, f a.s = f b.s → a.s = b.s) (hm : MadeP x) : MadeP y := by
  obtain ⟨m1, m2, m3⟩ := hm
  refine ⟨by rw [(rn_parts h).1]; exact m1, fun a ha b hb e => ?_, fun v hv => ?_⟩
  · obtain ⟨a', ha', p1, p2, p3⟩ := uses_rn h a ha
    obtain ⟨b', hb', q1, q2, q3⟩ := uses_rn h b hb
    have := m2 a' ha' b' hb' (inj a' ha' b' hb' (by rw [← p2, ← q2]; exact e))
    exact ⟨by rw [p3, q3]; exact this.1, by rw [p1, q1]; exact this.2⟩
  · obtain ⟨u, hu, e1, e2, e3⟩ := vis_rn h 1 v hv
    obtain ⟨n1, n2⟩ := m3 u hu
    refine ⟨by rw [e1]; exact between_rn e2 _ n1, ?_⟩
    rcases n2 with n2 | n2
    · exact .inl (by rw [(rn_parts e2).1]; exact n2)
    · refine .inr fun i j hij hj a ha b hb e => ?_
      obtain ⟨_, _, _, _, _, h6, h7⟩ := rn_parts e2
      rw [h6] at hj
      obtain ⟨a', ha', _, p2, _⟩ := uses_rn (h7 i (by omega)) a ha
      obtain ⟨b', hb', _, q2, _⟩ := uses_rn (h7 j hj) b hb
      exact n2 i j hij hj a' ha' b' hb' (inj a' (e3 a' (uses_part (by omega) ha')) b' (e3 b' (uses_part hj hb')) (by rw [← p2, ← q2]; exact e))
/-- Names, each once. -/
def addS (l : List ByteArray) (s : ByteArray) : List ByteArray := if l.any (fun z => decide (z = s)) = true then l else l ++ [s]
theorem any_map (l : List Pt) (s : ByteArray) : (l.map (·.s)).any (fun z => decide (z = s)) = l.any (fun z => decide (z.s = s)) := by
  induction l with
  | nil => rfl
  | cons a l ih => simp only [List.map_cons, List.any_cons, ih]
theorem first_names : ∀ (l acc : List Pt), (l.foldl addU acc).map (·.s) = (l.map (·.s)).foldl addS (acc.map (·.s))
  | [], _ => rfl
  | y :: l, acc => by
    simp only [List.foldl_cons, List.map_cons]
    rw [first_names l]
    congr 1
    unfold addU addS
    rw [any_map]
    split
    · rfl
    · simp
theorem adds_map {f : ByteArray → ByteArray} : ∀ (l acc : List ByteArray), (∀ a ∈ acc ++ l, ∀ b ∈ acc ++ l, f a = f b → a = b) → (l.map f).foldl addS (acc.map f) = (l.foldl addS acc).map f
  | [], _, _ => rfl
  | s :: l, acc, h => by
    simp only [List.foldl_cons, List.map_cons]
    have e : addS (acc.map f) (f s) = (addS acc s).map f := by
      have : (acc.map f).any (fun z => decide (z = f s)) = acc.any (fun z => decide (z = s)) := by
        rw [Bool.eq_iff_iff, List.any_eq_true, List.any_eq_true]
        constructor
        · rintro ⟨z, hz, e⟩
          obtain ⟨a, ha, rfl⟩ := List.mem_map.1 hz
          exact ⟨a, ha, by simpa using h a (List.mem_append_left _ ha) s (by simp) (by simpa using e)⟩
        · rintro ⟨z, hz, e⟩
          exact ⟨f z, List.mem_map.2 ⟨z, hz, rfl⟩, by simp at e; simp [e]⟩
      unfold addS
      rw [this]
      split
      · rfl
      · simp
    rw [e]
    have sub : ∀ a, a ∈ addS acc s ++ l → a ∈ acc ++ s :: l := fun a ha => by
      unfold addS at ha
      split at ha
      · rcases List.mem_append.1 ha with ha | ha
        · exact List.mem_append_left _ ha
        · exact List.mem_append_right _ (List.mem_cons_of_mem _ ha)
      · rw [List.append_assoc] at ha
        exact ha
    exact adds_map l _ fun a ha b hb => h a (sub a ha) b (sub b hb)
theorem names_rn {f : ByteArray → ByteArray} : ∀ {x y : Pt}, Rn f x y → (usesP y).map (·.s) = ((usesP x).map (·.s)).map f := by
  refine @(Pt.ind fun x ih y h => ?_)
  obtain ⟨h1, h2, _, _, _, h6, h7⟩ := rn_parts h
  have hc : ∀ m, m ≤ x.n → (catN (fun i => usesP (y.c i)) m).map (·.s) = ((catN (fun i => usesP (x.c i)) m).map (·.s)).map f := by
    intro m
    induction m with
    | zero => intro _; rfl
    | succ m ihm => intro hm; simp only [catN, List.map_append, ihm (by omega), ih m (by omega) (h7 m (by omega))]
  rw [usesP_eq, usesP_eq x, List.map_append, List.map_append, List.map_append, h6, hc _ (Nat.le_refl _), h1]
  congr 1
  by_cases hk : nmd x.k = true
  · rw [if_pos hk] at h2
    simp [hk, h2]
  · simp [hk]
theorem first_len {f : ByteArray → ByteArray} {x y : Pt} (h : Rn f x y) (inj : ∀ a ∈ usesP x, ∀ b ∈ usesP x, f a.s = f b.s → a.s = b.s) : (firstL (usesP y)).length = (firstL (usesP x)).length := by
  have e1 := first_names (usesP y) []
  have e2 := first_names (usesP x) []
  have e3 := adds_map (f := f) ((usesP x).map (·.s)) [] (fun a ha b hb e => by
    simp only [List.nil_append] at ha hb
    obtain ⟨a', ha', rfl⟩ := List.mem_map.1 ha
    obtain ⟨b', hb', rfl⟩ := List.mem_map.1 hb
    exact inj a' ha' b' hb' e)
  rw [names_rn h] at e1
  have h1 := congrArg List.length e1
  have h2 := congrArg List.length e2
  have h3 := congrArg List.length e3
  simp only [List.map_nil, List.length_map] at h1 h2 h3
  unfold firstL
  omega
theorem size_rn {f : ByteArray → ByteArray} : ∀ {x y : Pt}, Rn f x y → y.size = x.size := by
  refine @(Pt.ind fun x ih y h => ?_)
  obtain ⟨_, _, _, _, _, h6, h7⟩ := rn_parts h
  rw [x.size_eq, y.size_eq, h6, sumN_congr fun i hi => ih i hi (h7 i hi)]
theorem deep_rn {f : ByteArray → ByteArray} : ∀ {x y : Pt}, Rn f x y → y.deep = x.deep := by
  refine @(Pt.ind fun x ih y h => ?_)
  obtain ⟨_, _, _, _, _, h6, h7⟩ := rn_parts h
  rw [x.deep_eq, y.deep_eq, h6, maxN_congr fun i hi => ih i hi (h7 i hi)]
theorem ownB_rn {f : ByteArray → ByteArray} {x y : Pt} (h : Rn f x y) : ownB y = ownB x := by
  obtain ⟨h1, _, _, _, _, h6, h7⟩ := rn_parts h
  unfold ownB
  rw [h6, h1]
  congr 1
  rw [Bool.eq_iff_iff, allN_true, allN_true]
  constructor
  · intro q i hi; have := q i hi; rwa [(rn_parts (h7 i hi)).1] at this
  · intro q i hi; have := q i hi; rwa [← (rn_parts (h7 i hi)).1] at this
theorem rightN_rn {f : ByteArray → ByteArray} {x y : Pt} (h : Rn f x y) (hf : ∀ s, nameB s = true → nameB (f s) = true) (hr : rightN x = true) : rightN y = true := by
  have ho := ownB_rn h
  obtain ⟨h1, h2, h3, h4, h5, h6, h7⟩ := rn_parts h
  unfold rightN at hr ⊢
  rw [h1]
  by_cases hrow : isRow x.k = true
  · rw [if_pos hrow] at hr ⊢
    have hk : ¬ nmd x.k = true := by
      unfold isRow at hrow
      unfold nmd
      simp only [Bool.or_eq_true, beq_iff_eq] at hrow ⊢
      omega
    rw [if_neg hk] at h2
    unfold rowB at hr ⊢
    rw [ho, h2, h3, h4, h5, h6]
    exact hr
  · rw [if_neg hrow] at hr ⊢
    by_cases k5 : x.k = 5
    · rw [if_pos k5] at hr ⊢
      have hk : nmd x.k = true := by rw [k5]; rfl
      rw [if_pos hk] at h2
      unfold manyB at hr ⊢
      rw [Bool.and_eq_true] at hr
      rw [h2, h3, h4, h5, h6, hf _ hr.1, Bool.true_and]
      exact hr.2
    · rw [if_neg k5] at hr ⊢
      by_cases k16 : x.k = 1 ∨ x.k = 6
      · rw [if_pos k16] at hr ⊢
        have hk : nmd x.k = true := by rcases k16 with e | e <;> rw [e] <;> rfl
        rw [if_pos hk] at h2
        unfold leafB at hr ⊢
        rw [Bool.and_eq_true] at hr
        rw [h2, h3, h4, h5, h6, hf _ hr.1, Bool.true_and]
        exact hr.2
      · rw [if_neg k16] at hr
        cases hr
theorem rightP_rn {f : ByteArray → ByteArray} (hf : ∀ s, nameB s = true → nameB (f s) = true) : ∀ {x y : Pt}, Rn f x y → rightP x = true → rightP y = true := by
  refine @(Pt.ind fun x ih y h hr => ?_)
  rw [rightP_eq, Bool.and_eq_true, allN_true] at hr ⊢
  obtain ⟨_, _, _, _, _, h6, h7⟩ := rn_parts h
  refine ⟨rightN_rn h hf hr.1, fun i hi => ?_⟩
  rw [h6] at hi
  exact ih i hi (h7 i hi) (hr.2 i hi)
theorem chkP_rn {f : ByteArray → ByteArray} (hf : ∀ s, nameB s = true → nameB (f s) = true) {x y : Pt} (h : Rn f x y) (hc : chkP x = 0) : chkP y = 0 := by
  rw [chkP_zero] at hc ⊢
  rw [size_rn h, deep_rn h]
  exact ⟨hc.1, hc.2.1, rightP_rn hf h hc.2.2⟩
theorem ok_rn {f : ByteArray → ByteArray} (hf : ∀ s, s.size ≤ maxLen → (f s).size ≤ maxLen) : ∀ {x y : Pt}, Rn f x y → POk x → POk y := by
  refine @(Pt.ind fun x ih y h ho => ?_)
  obtain ⟨_, h2, h3, _, _, h6, h7⟩ := rn_parts h
  obtain ⟨o1, o2, o3⟩ := (pOk_eq x).1 ho
  refine (pOk_eq y).2 ⟨?_, by rw [h3]; exact o2, fun i hi => ?_⟩
  · rw [h2]
    split
    · exact hf _ o1
    · exact o1
  · rw [h6] at hi
    exact ih i hi (h7 i hi) (o3 i hi)
/-- And back. -/
theorem back_rn {f g : ByteArray → ByteArray} : ∀ {x y z : Pt}, Rn f x y → Rn g y z → (∀ a ∈ usesP x, g (f a.s) = a.s) → Sm x z := by
  refine @(Pt.ind fun x ih y z h k hg => ?_)
  obtain ⟨h1, h2, h3, h4, h5, h6, h7⟩ := rn_parts h
  obtain ⟨k1, k2, k3, k4, k5, k6, k7⟩ := rn_parts k
  refine (sm_iff _ _).2 ⟨by rw [k1, h1], ?_, by rw [k3, h3], by rw [k4, h4], by rw [k5, h5], by rw [k6, h6], fun i hi => ih i hi (h7 i hi) (k7 i (by rw [h6]; exact hi)) fun a ha => hg a (uses_part hi ha)⟩
  rw [k2, h2, h1]
  by_cases hk : nmd x.k = true
  · simp only [if_pos hk]
    exact (hg x (by rw [usesP_eq, if_pos hk]; simp)).symm
  · simp only [if_neg hk]
/-- One name for another that nobody has. -/
theorem one_inj {x : Pt} {v u : ByteArray} (hu : ∀ a ∈ usesP x, a.s ≠ u) : ∀ a ∈ usesP x, ∀ b ∈ usesP x, nameX (fun _ => v) (fun _ => u) 1 a.s = nameX (fun _ => v) (fun _ => u) 1 b.s → a.s = b.s := by
  intro a ha b hb e
  rw [nameX_one, nameX_one] at e
  by_cases e1 : v = a.s
  · by_cases e2 : v = b.s
    · rw [← e1, ← e2]
    · rw [if_pos e1, if_neg e2] at e
      exact absurd e.symm (hu b hb)
  · by_cases e2 : v = b.s
    · rw [if_neg e1, if_pos e2] at e
      exact absurd e (hu a ha)
    · rw [if_neg e1, if_neg e2] at e
      exact e
theorem one_back {x : Pt} {v u : ByteArray} (hu : ∀ a ∈ usesP x, a.s ≠ u) : ∀ a ∈ usesP x, nameX (fun _ => u) (fun _ => v) 1 (nameX (fun _ => v) (fun _ => u) 1 a.s) = a.s := by
  intro a ha
  rw [nameX_one, nameX_one]
  by_cases e1 : v = a.s
  · rw [if_pos e1, if_pos rfl]; exact e1
  · rw [if_neg e1, if_neg fun e => hu a ha e.symm]
theorem one_name {v u : ByteArray} (hu : nameB u = true) (s : ByteArray) (hs : nameB s = true) : nameB (nameX (fun _ => v) (fun _ => u) 1 s) = true := by
  rw [nameX_one]
  split
  · exact hu
  · exact hs
theorem one_ok {v u : ByteArray} (hu : u.size ≤ maxLen) (s : ByteArray) (hs : s.size ≤ maxLen) : (nameX (fun _ => v) (fun _ => u) 1 s).size ≤ maxLen := by
  rw [nameX_one]
  split
  · exact hu
  · exact hs
theorem letter_name {u : ByteArray} (h1 : u.size = 1) (h2 : 97 ≤ byteAt u 0) (h3 : byteAt u 0 ≤ 122) : nameB u = true := by
  have : ∀ j, j < u.size → okB (byteAt u j) j = true := fun j hj => by
    obtain rfl : j = 0 := by omega
    unfold okB smallB
    simp [h2, h3]
  rw [nameB_all this]
  unfold fitsB
  rw [h1]
  rfl
end Go.Proofs.Ytkcclhddkfgagaa
