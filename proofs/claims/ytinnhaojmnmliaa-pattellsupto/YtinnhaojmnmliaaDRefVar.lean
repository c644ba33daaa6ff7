/-
  The document's Name of conditions: a name's new name.
  A pattern with other names is as well made as it was: plain facts, of no function.
  Well made, as the document's own Made asks: plain facts, of no function.
-/
import Derived.Test.YtinnhaojmnmliaaDPatMadeMath
import Derived.Test.YtinnhaojmnmliaaDPatFresh
import Derived.Deep.DeepCutAuto
namespace Go.Proofs.Ytinnhaojmnmliaa
open Go.RowKit

theorem nameX_one (v w s : ByteArray) : nameX (fun _ => v) (fun _ => w) 1 s = if v = s then w else s := by
  unfold nameX
  simp only [fstS]
  by_cases h : v = s
  · simp [h]
  · simp [h]
theorem bytes_eq {a b : ByteArray} (h : a.toList = b.toList) : a = b := by
  rw [ByteArray.toList_eq, ByteArray.toList_eq] at h
  exact ByteArray.ext (Array.ext' h)
theorem fstS_of {S : Nat → ByteArray} {s : ByteArray} {n j : Nat} (h1 : j < n) (h2 : S j = s) (h3 : ∀ j', j' < j → S j' ≠ s) : fstS S s n = some j := by
  cases e : fstS S s n with
  | none => exact absurd h2 (fstS_none e j h1)
  | some q =>
    obtain ⟨q1, q2, q3⟩ := fstS_some e
    by_cases h : q < j
    · exact absurd q2 (h3 q h)
    · by_cases h' : j < q
      · exact absurd h2 (q3 j h')
      · rw [show q = j by omega]
theorem fstS_nil {S : Nat → ByteArray} {s : ByteArray} {n : Nat} (h : ∀ j, j < n → S j ≠ s) : fstS S s n = none := by
  cases e : fstS S s n with
  | none => rfl
  | some q =>
    obtain ⟨q1, q2, _⟩ := fstS_some e
    exact absurd q2 (h q q1)
theorem name_none {S T : Nat → ByteArray} {s : ByteArray} {m m' : Nat} (h : ∀ j, j < m → S j ≠ s) : nameX S T (min m m') s = s := by
  unfold nameX
  rw [fstS_nil fun j hj => h j (by omega)]
theorem name_hit {S T : Nat → ByteArray} {s : ByteArray} {m m' p : Nat} (h1 : p < m) (h2 : S p = s) (h3 : ∀ j, j < p → S j ≠ s) (h4 : p < m') : nameX S T (min m m') s = T p := by
  unfold nameX
  rw [fstS_of (by omega) h2 h3]
theorem name_past {S T : Nat → ByteArray} {s : ByteArray} {m m' p : Nat} (h3 : ∀ j, j < p → S j ≠ s) (h4 : ¬ p < m') : nameX S T (min m m') s = s := by
  unfold nameX
  rw [fstS_nil fun j hj => h3 j (by omega)]
set_option maxRecDepth 100000 in
set_option maxHeartbeats 4000000 in
theorem refVar_any (s : ByteArray) (a a' : Option Addr) (m m' cap cap' : Nat) (S T : Nat → ByteArray) (w : World) (hS : Txs w a m S) (hT : Txs w a' m' T) (hm : m ≤ 1048576) (hm' : m' ≤ 1048576) :
    Calls Try.prog 51 #[.string s, .slice a m cap, .slice a' m' cap'] w fun e w' => e = .returned (.string (nameX S T (min m m') s)) ∧ w' = w := by
  have HS : Hid (Txs w a m S) := hS
  have HT : Hid (Txs w a' m' T) := hT
  obtain ⟨r, hr⟩ : ∃ r, r = nameX S T (min m m') s := ⟨_, rfl⟩
  rw [← hr]
  clear hS hT
  cases hf : fstS S s m with
  | none =>
    have hno := fstS_none hf
    have HN : Hid (∀ j, j < m → S j ≠ s) := hno
    have HR : Hid (r = s) := hr.trans (name_none hno)
    clear hf hr hno
    go_enter Try.func51, Try.ntmps51
    go_wp2
    go_loopw [7] (fun i wr => ∃ k : Nat, k ≤ m ∧ i = .int .i64 k ∧ wr = w) (fun i _ => m - (intOf i).toNat)
    case atStart => exact ⟨0, Nat.zero_le _, rfl, rfl⟩
    case round =>
      obtain ⟨k, hk, rfl, hwr⟩ := hrel
      subst hwr
      by_cases hlt : k < m
      · have HLT : Hid (k < m) := hlt
        obtain ⟨b, o, rfl, hc⟩ := HS.out (by omega)
        have ck := hc k hlt
        have hne : ((S k).toList == s.toList) = false := by
          rw [beq_eq_false_iff_ne]
          exact fun q => HN.out k hlt (bytes_eq q)
        clear hc hlt
        go_wp2
        go_roundw
        case rel => exact ⟨k + 1, HLT.out, by go_num, by first | trivial | rfl⟩
        case measure => have := HLT.out; simp [intOf]; omega
      · obtain rfl : k = m := by omega
        go_wp2
        go_ret
        exact ⟨by rw [HR.out]; rfl, rfl⟩
  | some p =>
    obtain ⟨h1, h2, h3⟩ := fstS_some hf
    have HN : Hid (∀ j, j < p → S j ≠ s) := h3
    have HP : Hid (p < m) := h1
    have HE : Hid (S p = s) := h2
    have HR1 : Hid (p < m' → r = T p) := fun h => hr.trans (name_hit h1 h2 h3 h)
    have HR2 : Hid (¬ p < m' → r = s) := fun h => hr.trans (name_past h3 h)
    clear hf hr h1 h2 h3
    go_enter Try.func51, Try.ntmps51
    go_wp2
    go_loopw [7] (fun i wr => ∃ k : Nat, k ≤ p ∧ i = .int .i64 k ∧ wr = w) (fun i _ => p - (intOf i).toNat)
    case atStart => exact ⟨0, Nat.zero_le _, rfl, rfl⟩
    case round =>
      obtain ⟨k, hk, rfl, hwr⟩ := hrel
      subst hwr
      have hlt : k < m := by have := HP.out; omega
      obtain ⟨b, o, rfl, hc⟩ := HS.out (by omega)
      have ck := hc k hlt
      clear hc
      by_cases hkp : k = p
      · have HKP : Hid (k = p) := hkp
        have hne : ((S k).toList == s.toList) = true := by rw [hkp, HE.out]; simp
        by_cases hpm : k < m'
        · obtain ⟨b', o', rfl, hc'⟩ := HT.out (by omega)
          have ck' := hc' k hpm
          have HR : Hid (r = T k) := by show r = T k; rw [hkp] at hpm ⊢; exact HR1.out hpm
          clear hc' hkp
          go_wp2
          go_ret
          exact ⟨by rw [HR.out]; rfl, rfl⟩
        · have HR : Hid (r = s) := HR2.out (by rw [← hkp]; exact hpm)
          clear hkp
          go_wp2
          go_ret
          exact ⟨by rw [HR.out]; rfl, rfl⟩
      · have HKP : Hid (¬ k = p) := hkp
        have hne : ((S k).toList == s.toList) = false := by
          rw [beq_eq_false_iff_ne]
          exact fun q => HN.out k (by omega) (bytes_eq q)
        clear hkp
        go_wp2
        go_roundw
        case rel => exact ⟨k + 1, by have := HKP.out; omega, by go_num, by first | trivial | rfl⟩
        case measure => have := HKP.out; simp [intOf]; omega
end Go.Proofs.Ytinnhaojmnmliaa
namespace Go.Proofs.Ytinnhaojmnmliaa
open Go.RowKit

/-- The same but for its names. -/
def Rn (f : ByteArray → ByteArray) (x y : Pt) : Prop := Sm y (renP f x)
theorem rn_parts {f : ByteArray → ByteArray} {x y : Pt} (h : Rn f x y) : y.k = x.k ∧ y.s = (if nmd x.k = true then f x.s else x.s) ∧ y.t = x.t ∧ y.lo = x.lo ∧ y.hi = x.hi ∧ y.n = x.n ∧ ∀ i, i < x.n → Rn f (x.c i) (y.c i) := by
  obtain ⟨h1, h2, h3, h4, h5, h6, h7⟩ := (sm_iff _ _).1 h
  obtain ⟨a1, a2, a3, a4, a5, a6, a7⟩ := renP_parts f x
  refine ⟨h1.trans a1, h2.trans a2, h3.trans a3, h4.trans a4, h5.trans a5, h6.trans a6, fun i hi => ?_⟩
  have := h7 i (by rw [h6, a6]; exact hi)
  rw [a7] at this
  exact this
theorem uses_rn {f : ByteArray → ByteArray} : ∀ {x y : Pt}, Rn f x y → ∀ b ∈ usesP y, ∃ a ∈ usesP x, b.k = a.k ∧ b.s = f a.s ∧ b.t = a.t := by
  refine @(Pt.ind fun x ih y h b hb => ?_)
  obtain ⟨h1, h2, h3, _, _, h6, h7⟩ := rn_parts h
  rw [usesP_eq] at hb ⊢
  rcases List.mem_append.1 hb with hb | hb
  · by_cases hk : nmd y.k = true
    · rw [if_pos hk, List.mem_singleton] at hb
      rw [h1] at hk
      rw [if_pos hk] at h2
      exact ⟨x, by rw [if_pos hk]; simp, by rw [hb]; exact ⟨h1, h2, h3⟩⟩
    · rw [if_neg hk] at hb
      simp at hb
  · obtain ⟨i, hi, hb⟩ := mem_catN.1 hb
    rw [h6] at hi
    obtain ⟨a, ha, e⟩ := ih i hi (h7 i hi) b hb
    exact ⟨a, List.mem_append_right _ (mem_catN.2 ⟨i, hi, ha⟩), e⟩
theorem uses_part {x y : Pt} {i : Nat} (hi : i < x.n) (h : y ∈ usesP (x.c i)) : y ∈ usesP x := by
  rw [usesP_eq]
  exact List.mem_append_right _ (mem_catN.2 ⟨i, hi, h⟩)
theorem vis_rn {f : ByteArray → ByteArray} : ∀ {x y : Pt}, Rn f x y → ∀ d, ∀ v ∈ visP d y, ∃ u ∈ visP d x, v.1 = u.1 ∧ Rn f u.2 v.2 ∧ ∀ a ∈ usesP u.2, a ∈ usesP x := by
  refine @(Pt.ind fun x ih y h d v hv => ?_)
  obtain ⟨_, _, _, _, _, h6, h7⟩ := rn_parts h
  rw [visP_eq] at hv ⊢
  rcases List.mem_cons.1 hv with rfl | hv
  · exact ⟨(d, x), by simp, rfl, h, fun a ha => ha⟩
  · obtain ⟨i, hi, hv⟩ := mem_catN.1 hv
    rw [h6] at hi
    obtain ⟨u, hu, e1, e2, e3⟩ := ih i hi (h7 i hi) (d + 1) v hv
    exact ⟨u, List.mem_cons_of_mem _ (mem_catN.2 ⟨i, hi, hu⟩), e1, e2, fun a ha => uses_part hi (e3 a ha)⟩
theorem between_rn {f : ByteArray → ByteArray} {x y : Pt} (h : Rn f x y) (whole : Bool) (hb : betweenB x whole = true) : betweenB y whole = true := by
  obtain ⟨h1, _, _, _, _, h6, h7⟩ := rn_parts h
  unfold betweenB at hb ⊢
  rw [allN_true] at hb ⊢
  intro i hi
  rw [h6] at hi
  have k1 := (rn_parts (h7 i hi)).1
  have k2 := (rn_parts (h7 (i - 1) (by omega))).1
  have := hb i hi
  unfold notB at this ⊢
  rw [k1, k2, h1, h6]
  exact this
theorem made_rn {f : ByteArray → ByteArray} {x y : Pt} (h : Rn f x y) (inj : ∀ a ∈ usesP x, ∀ b ∈ usesP x, f a.s = f b.s → a.s = b.s) (hm : MadeP x) : MadeP y := by
  obtain ⟨m1, m2, m3⟩ := hm
  refine ⟨by rw [(rn_parts h).1]; exact m1, fun a ha b hb e => ?_, fun v hv => ?_⟩
  · obtain ⟨a', ha', p1, p2, p3⟩ := uses_rn h a ha
    obtain ⟨b', hb', q1, q2, q3⟩ := uses_rn h b hb
    have := m2 a' ha' b' hb' (inj a' ha' b' hb' (by rw [← p2, ← q2]; exact e))
    exact ⟨by rw [p3, q3]; exact this.1, by rw [p1, q1]; exact this.2⟩
  · obtain ⟨u, hu, e1, e2, e3⟩ := vis_rn h 1 v hv
    obtain ⟨n1, n2⟩ := m3 u hu
    refine ⟨by rw [e1]; exact between_rn e2 _ n1, ?_⟩
    rcases n2 with n2 | n2
    · exact .inl (by rw [(rn_parts e2).1]; exact n2)
    · refine .inr fun i j hij hj a ha b hb e => ?_
      obtain ⟨_, _, _, _, _, h6, h7⟩ := rn_parts e2
      rw [h6] at hj
      obtain ⟨a', ha', _, p2, _⟩ := uses_rn (h7 i (by omega)) a ha
      obtain ⟨b', hb', _, q2, _⟩ := uses_rn (h7 j hj) b hb
      exact n2 i j hij hj a' ha' b' hb' (inj a' (e3 a' (uses_part (by omega) ha')) b' (e3 b' (uses_part hj hb')) (by rw [← p2, ← q2]; exact e))
/-- Names, each once. -/
def addS (l : List ByteArray) (s : ByteArray) : List ByteArray := if l.any (fun z => decide (z = s)) = true then l else l ++ [s]
theorem any_map (l : List Pt) (s : ByteArray) : (l.map (·.s)).any (fun z => decide (z = s)) = l.any (fun z => decide (z.s = s)) := by
  induction l with
  | nil => rfl
  | cons a l ih => simp only [List.map_cons, List.any_cons, ih]
theorem first_names : ∀ (l acc : List Pt), (l.foldl addU acc).map (·.s) = (l.map (·.s)).foldl addS (acc.map (·.s))
  | [], _ => rfl
  | y :: l, acc => by
    simp only [List.foldl_cons, List.map_cons]
    rw [first_names l]
    congr 1
    unfold addU addS
    rw [any_map]
    split
    · rfl
    · simp
theorem adds_map {f : ByteArray → ByteArray} : ∀ (l acc : List ByteArray), (∀ a ∈ acc ++ l, ∀ b ∈ acc ++ l, f a = f b → a = b) → (l.map f).foldl addS (acc.map f) = (l.foldl addS acc).map f
  | [], _, _ => rfl
  | s :: l, acc, h => by
    simp only [List.foldl_cons, List.map_cons]
    have e : addS (acc.map f) (f s) = (addS acc s).map f := by
      have : (acc.map f).any (fun z => decide (z = f s)) = acc.any (fun z => decide (z = s)) := by
        rw [Bool.eq_iff_iff, List.any_eq_true, List.any_eq_true]
        constructor
        · rintro ⟨z, hz, e⟩
          obtain ⟨a, ha, rfl⟩ := List.mem_map.1 hz
          exact ⟨a, ha, by simpa using h a (List.mem_append_left _ ha) s (by simp) (by simpa using e)⟩
        · rintro ⟨z, hz, e⟩
          exact ⟨f z, List.mem_map.2 ⟨z, hz, rfl⟩, by simp at e; simp [e]⟩
      unfold addS
      rw [this]
      split
      · rfl
      · simp
    rw [e]
    have sub : ∀ a, a ∈ addS acc s ++ l → a ∈ acc ++ s :: l := fun a ha => by
      unfold addS at ha
      split at ha
      · rcases List.mem_append.1 ha with ha | ha
        · exact List.mem_append_left _ ha
        · exact List.mem_append_right _ (List.mem_cons_of_mem _ ha)
      · rw [List.append_assoc] at ha
        exact ha
    exact adds_map l _ fun a ha b hb => h a (sub a ha) b (sub b hb)
theorem names_rn {f : ByteArray → ByteArray} : ∀ {x y : Pt}, Rn f x y → (usesP y).map (·.s) = ((usesP x).map (·.s)).map f := by
  refine @(Pt.ind fun x ih y h => ?_)
  obtain ⟨h1, h2, _, _, _, h6, h7⟩ := rn_parts h
  have hc : ∀ m, m ≤ x.n → (catN (fun i => usesP (y.c i)) m).map (·.s) = ((catN (fun i => usesP (x.c i)) m).map (·.s)).map f := by
    intro m
    induction m with
    | zero => intro _; rfl
    | succ m ihm => intro hm; simp only [catN, List.map_append, ihm (by omega), ih m (by omega) (h7 m (by omega))]
  rw [usesP_eq, usesP_eq x, List.map_append, List.map_append, List.map_append, h6, hc _ (Nat.le_refl _), h1]
  congr 1
  by_cases hk : nmd x.k = true
  · rw [if_pos hk] at h2
    simp [hk, h2]
  · simp [hk]
theorem first_len {f : ByteArray → ByteArray} {x y : Pt} (h : Rn f x y) (inj : ∀ a ∈ usesP x, ∀ b ∈ usesP x, f a.s = f b.s → a.s = b.s) : (firstL (usesP y)).length = (firstL (usesP x)).length := by
  have e1 := first_names (usesP y) []
  have e2 := first_names (usesP x) []
  have e3 := adds_map (f := f) ((usesP x).map (·.s)) [] (fun a ha b hb e => by
    simp only [List.nil_append] at ha hb
    obtain ⟨a', ha', rfl⟩ := List.mem_map.1 ha
    obtain ⟨b', hb', rfl⟩ := List.mem_map.1 hb
    exact inj a' ha' b' hb' e)
  rw [names_rn h] at e1
  have h1 := congrArg List.length e1
  have h2 := congrArg List.length e2
  have h3 := congrArg List.length e3
  simp only [List.map_nil, List.length_map] at h1 h2 h3
  unfold firstL
  omega
theorem size_rn {f : ByteArray → ByteArray} : ∀ {x y : Pt}, Rn f x y → y.size = x.size := by
  refine @(Pt.ind fun x ih y h => ?_)
  obtain ⟨_, _, _, _, _, h6, h7⟩ := rn_parts h
  rw [x.size_eq, y.size_eq, h6, sumN_congr fun i hi => ih i hi (h7 i hi)]
theorem deep_rn {f : ByteArray → ByteArray} : ∀ {x y : Pt}, Rn f x y → y.deep = x.deep := by
  refine @(Pt.ind fun x ih y h => ?_)
  obtain ⟨_, _, _, _, _, h6, h7⟩ := rn_parts h
  rw [x.deep_eq, y.deep_eq, h6, maxN_congr fun i hi => ih i hi (h7 i hi)]
theorem ownB_rn {f : ByteArray → ByteArray} {x y : Pt} (h : Rn f x y) : ownB y = ownB x := by
  obtain ⟨h1, _, _, _, _, h6, h7⟩ := rn_parts h
  unfold ownB
  rw [h6, h1]
  congr 1
  rw [Bool.eq_iff_iff, allN_true, allN_true]
  constructor
  · intro q i hi; have := q i hi; rwa [(rn_parts (h7 i hi)).1] at this
  · intro q i hi; have := q i hi; rwa [← (rn_parts (h7 i hi)).1] at this
theorem rightN_rn {f : ByteArray → ByteArray} {x y : Pt} (h : Rn f x y) (hf : ∀ s, nameB s = true → nameB (f s) = true) (hr : rightN x = true) : rightN y = true := by
  have ho := ownB_rn h
  obtain ⟨h1, h2, h3, h4, h5, h6, h7⟩ := rn_parts h
  unfold rightN at hr ⊢
  rw [h1]
  by_cases hrow : isRow x.k = true
  · rw [if_pos hrow] at hr ⊢
    have hk : ¬ nmd x.k = true := by
      unfold isRow at hrow
      unfold nmd
      simp only [Bool.or_eq_true, beq_iff_eq] at hrow ⊢
      omega
    rw [if_neg hk] at h2
    unfold rowB at hr ⊢
    rw [ho, h2, h3, h4, h5, h6]
    exact hr
  · rw [if_neg hrow] at hr ⊢
    by_cases k5 : x.k = 5
    · rw [if_pos k5] at hr ⊢
      have hk : nmd x.k = true := by rw [k5]; rfl
      rw [if_pos hk] at h2
      unfold manyB at hr ⊢
      rw [Bool.and_eq_true] at hr
      rw [h2, h3, h4, h5, h6, hf _ hr.1, Bool.true_and]
      exact hr.2
    · rw [if_neg k5] at hr ⊢
      by_cases k16 : x.k = 1 ∨ x.k = 6
      · rw [if_pos k16] at hr ⊢
        have hk : nmd x.k = true := by rcases k16 with e | e <;> rw [e] <;> rfl
        rw [if_pos hk] at h2
        unfold leafB at hr ⊢
        rw [Bool.and_eq_true] at hr
        rw [h2, h3, h4, h5, h6, hf _ hr.1, Bool.true_and]
        exact hr.2
      · rw [if_neg k16] at hr
        cases hr
theorem rightP_rn {f : ByteArray → ByteArray} (hf : ∀ s, nameB s = true → nameB (f s) = true) : ∀ {x y : Pt}, Rn f x y → rightP x = true → rightP y = true := by
  refine @(Pt.ind fun x ih y h hr => ?_)
  rw [rightP_eq, Bool.and_eq_true, allN_true] at hr ⊢
  obtain ⟨_, _, _, _, _, h6, h7⟩ := rn_parts h
  refine ⟨rightN_rn h hf hr.1, fun i hi => ?_⟩
  rw [h6] at hi
  exact ih i hi (h7 i hi) (hr.2 i hi)
theorem chkP_rn {f : ByteArray → ByteArray} (hf : ∀ s, nameB s = true → nameB (f s) = true) {x y : Pt} (h : Rn f x y) (hc : chkP x = 0) : chkP y = 0 := by
  rw [chkP_zero] at hc ⊢
  rw [size_rn h, deep_rn h]
  exact ⟨hc.1, hc.2.1, rightP_rn hf h hc.2.2⟩
theorem ok_rn {f : ByteArray → ByteArray} (hf : ∀ s, s.size ≤ maxLen → (f s).size ≤ maxLen) : ∀ {x y : Pt}, Rn f x y → POk x → POk y := by
  refine @(Pt.ind fun x ih y h ho => ?_)
  obtain ⟨_, h2, h3, _, _, h6, h7⟩ := rn_parts h
  obtain ⟨o1, o2, o3⟩ := (pOk_eq x).1 ho
  refine (pOk_eq y).2 ⟨?_, by rw [h3]; exact o2, fun i hi => ?_⟩
  · rw [h2]
    split
    · exact hf _ o1
    · exact o1
  · rw [h6] at hi
    exact ih i hi (h7 i hi) (o3 i hi)
/-- And back. -/
theorem back_rn {f g : ByteArray → ByteArray} : ∀ {x y z : Pt}, Rn f x y → Rn g y z → (∀ a ∈ usesP x, g (f a.s) = a.s) → Sm x z := by
  refine @(Pt.ind fun x ih y z h k hg => ?_)
  obtain ⟨h1, h2, h3, h4, h5, h6, h7⟩ := rn_parts h
  obtain ⟨k1, k2, k3, k4, k5, k6, k7⟩ := rn_parts k
  refine (sm_iff _ _).2 ⟨by rw [k1, h1], ?_, by rw [k3, h3], by rw [k4, h4], by rw [k5, h5], by rw [k6, h6], fun i hi => ih i hi (h7 i hi) (k7 i (by rw [h6]; exact hi)) fun a ha => hg a (uses_part hi ha)⟩
  rw [k2, h2, h1]
  by_cases hk : nmd x.k = true
  · simp only [if_pos hk]
    exact (hg x (by rw [usesP_eq, if_pos hk]; simp)).symm
  · simp only [if_neg hk]
/-- One name for another that nobody has. -/
theorem one_inj {x : Pt} {v u : ByteArray} (hu : ∀ a ∈ usesP x, a.s ≠ u) : ∀ a ∈ usesP x, ∀ b ∈ usesP x, nameX (fun _ => v) (fun _ => u) 1 a.s = nameX (fun _ => v) (fun _ => u) 1 b.s → a.s = b.s := by
  intro a ha b hb e
  rw [nameX_one, nameX_one] at e
  by_cases e1 : v = a.s
  · by_cases e2 : v = b.s
    · rw [← e1, ← e2]
    · rw [if_pos e1, if_neg e2] at e
      exact absurd e.symm (hu b hb)
  · by_cases e2 : v = b.s
    · rw [if_neg e1, if_pos e2] at e
      exact absurd e (hu a ha)
    · rw [if_neg e1, if_neg e2] at e
      exact e
theorem one_back {x : Pt} {v u : ByteArray} (hu : ∀ a ∈ usesP x, a.s ≠ u) : ∀ a ∈ usesP x, nameX (fun _ => u) (fun _ => v) 1 (nameX (fun _ => v) (fun _ => u) 1 a.s) = a.s := by
  intro a ha
  rw [nameX_one, nameX_one]
  by_cases e1 : v = a.s
  · rw [if_pos e1, if_pos rfl]; exact e1
  · rw [if_neg e1, if_neg fun e => hu a ha e.symm]
theorem one_name {v u : ByteArray} (hu : nameB u = true) (s : ByteArray) (hs : nameB s = true) : nameB (nameX (fun _ => v) (fun _ => u) 1 s) = true := by
  rw [nameX_one]
  split
  · exact hu
  · exact hs
theorem one_ok {v u : ByteArray} (hu : u.size ≤ maxLen) (s : ByteArray) (hs : s.size ≤ maxLen) : (nameX (fun _ => v) (fun _ => u) 1 s).size ≤ maxLen := by
  rw [nameX_one]
  split
  · exact hu
  · exact hs
theorem letter_name {u : ByteArray} (h1 : u.size = 1) (h2 : 97 ≤ byteAt u 0) (h3 : byteAt u 0 ≤ 122) : nameB u = true := by
  have : ∀ j, j < u.size → okB (byteAt u j) j = true := fun j hj => by
    obtain rfl : j = 0 := by omega
    unfold okB smallB
    simp [h2, h3]
  rw [nameB_all this]
  unfold fitsB
  rw [h1]
  rfl
end Go.Proofs.Ytinnhaojmnmliaa
namespace Go.Proofs.Ytinnhaojmnmliaa
open Go.RowKit

/-- Do the PNots stand where they may? -/
def notsP : Pt → Bool → Bool
  | .nil, _ => true
  | .mk k s t lo hi a n cap c, whole => allN (fun i => if (c i).k = 6 then notB (.mk k s t lo hi a n cap c) whole i else notsP (c i) false) n
theorem notsP_eq (x : Pt) (whole : Bool) : notsP x whole = allN (fun i => if (x.c i).k = 6 then notB x whole i else notsP (x.c i) false) x.n := by cases x <;> rfl
/-- Does each Var stand once, but in parts of a POr? -/
def OnceP : Pt → Prop
  | .nil => True
  | .mk k _ _ _ _ _ n _ c => ∀ i, i < n → OnceP (c i) ∧ ∀ j, j < i → ∀ a ∈ usesP (c i), ∀ b ∈ usesP (c j), a.s = b.s → k = 4 ∧ Agree a b
theorem onceP_eq (x : Pt) : OnceP x ↔ ∀ i, i < x.n → OnceP (x.c i) ∧ ∀ j, j < i → ∀ a ∈ usesP (x.c i), ∀ b ∈ usesP (x.c j), a.s = b.s → x.k = 4 ∧ Agree a b := by
  cases x with
  | nil => exact ⟨fun _ i hi => absurd hi (Nat.not_lt_zero _), fun _ => trivial⟩
  | mk => exact Iff.rfl
theorem Agree.symm {a b : Pt} (h : Agree a b) : Agree b a := ⟨h.1.symm, h.2.symm⟩
theorem once_of {x : Pt} (ha : AlikeP x) : ∀ {y : Pt} {d : Nat}, (∀ v ∈ visP d y, v.2.k = 4 ∨ Apart v.2) → (∀ a ∈ usesP y, a ∈ usesP x) → OnceP y := by
  refine @(Pt.ind fun y ih d hv hs => ?_)
  rw [onceP_eq]
  intro i hi
  refine ⟨ih i hi (d := d + 1) (fun v hm => hv v (by rw [visP_eq]; exact List.mem_cons_of_mem _ (mem_catN.2 ⟨i, hi, hm⟩))) (fun a h => hs a (uses_part hi h)), fun j hj a h1 b h2 e => ?_⟩
  rcases hv (d, y) (by rw [visP_eq]; simp) with h | h
  · exact ⟨h, ha a (hs a (uses_part hi h1)) b (hs b (uses_part (by omega) h2)) e⟩
  · exact absurd e.symm (h j i hj hi b h2 a h1)
theorem of_once : ∀ {y : Pt}, rightP y = true → OnceP y → AlikeP y ∧ ∀ d, ∀ v ∈ visP d y, v.2.k = 4 ∨ Apart v.2 := by
  refine @(Pt.ind fun y ih hr ho => ?_)
  rw [onceP_eq] at ho
  rw [rightP_eq, Bool.and_eq_true, allN_true] at hr
  constructor
  · intro a ha b hb e
    by_cases hk : nmd y.k = true
    · have hn := named_leaf hr.1 hk
      rw [usesP_eq, if_pos hk, hn] at ha hb
      simp [catN] at ha hb
      rw [ha, hb]
      exact ⟨rfl, Iff.rfl⟩
    · rw [usesP_eq, if_neg hk, List.nil_append] at ha hb
      obtain ⟨i, hi, ha⟩ := mem_catN.1 ha
      obtain ⟨j, hj, hb⟩ := mem_catN.1 hb
      rcases Nat.lt_trichotomy i j with h | h | h
      · exact ((ho j hj).2 i h b hb a ha e.symm).2.symm
      · subst h
        exact (ih i hi (hr.2 i hi) (ho i hi).1).1 a ha b hb e
      · exact ((ho i hi).2 j h a ha b hb e).2
  · intro d v hv
    rw [visP_eq] at hv
    rcases List.mem_cons.1 hv with rfl | hv
    · by_cases h4 : y.k = 4
      · exact .inl h4
      · refine .inr fun i j hij hj a ha b hb e => ?_
        exact h4 ((ho j hj).2 i hij b hb a ha e.symm).1
    · obtain ⟨i, hi, hv⟩ := mem_catN.1 hv
      exact (ih i hi (hr.2 i hi) (ho i hi).1).2 (d + 1) v hv
theorem nots_vis : ∀ {y : Pt} {d : Nat}, 1 ≤ d → rightP y = true → (notsP y (d == 1) = true ↔ ∀ v ∈ visP d y, betweenB v.2 (v.1 == 1) = true) := by
  refine @(Pt.ind fun y ih d hd hr => ?_)
  have hr0 := hr
  rw [rightP_eq, Bool.and_eq_true, allN_true] at hr
  rw [notsP_eq, allN_true, visP_eq]
  have hd1 : (d + 1 == 1) = false := by simp; omega
  constructor
  · intro h v hv
    rcases List.mem_cons.1 hv with rfl | hv
    · show betweenB y (d == 1) = true
      unfold betweenB
      rw [allN_true]
      intro i hi
      have := h i hi
      by_cases h6 : (y.c i).k = 6
      · rw [if_pos h6] at this; exact this
      · unfold notB; simp [h6]
    · obtain ⟨i, hi, hv⟩ := mem_catN.1 hv
      have := h i hi
      by_cases h6 : (y.c i).k = 6
      · have hri := hr.2 i hi
        rw [rightP_eq, Bool.and_eq_true] at hri
        have hn := named_leaf hri.1 (by rw [h6]; rfl)
        rw [visP_eq, hn] at hv
        simp [catN] at hv
        rw [hv]
        unfold betweenB
        simp only [hn]
        rfl
      · rw [if_neg h6] at this
        have h2 := (ih i hi (d := d + 1) (by omega) (hr.2 i hi)).1 (by rw [hd1]; exact this)
        exact h2 v hv
  · intro h i hi
    by_cases h6 : (y.c i).k = 6
    · rw [if_pos h6]
      have := h (d, y) (by simp)
      unfold betweenB at this
      rw [allN_true] at this
      exact this i hi
    · rw [if_neg h6]
      have h2 := (ih i hi (d := d + 1) (by omega) (hr.2 i hi)).2 (fun v hv => h v (List.mem_cons_of_mem _ (mem_catN.2 ⟨i, hi, hv⟩)))
      rw [hd1] at h2
      exact h2
/-- The document's own Made asks the same. -/
theorem made_ref {x : Pt} (hr : rightP x = true) : MadeP x ↔ x.k ≠ 6 ∧ notsP x true = true ∧ OnceP x := by
  have hn := nots_vis (y := x) (d := 1) (Nat.le_refl _) hr
  constructor
  · rintro ⟨h1, h2, h3⟩
    exact ⟨h1, hn.2 fun v hv => (h3 v hv).1, once_of h2 (d := 1) (fun v hv => (h3 v hv).2) (fun a ha => ha)⟩
  · rintro ⟨h1, h2, h3⟩
    obtain ⟨h4, h5⟩ := of_once hr h3
    exact ⟨h1, h4, fun v hv => ⟨hn.1 h2 v hv, h5 1 v hv⟩⟩
end Go.Proofs.Ytinnhaojmnmliaa
