/-
  Names in order, each once: plain facts, of no function.
  Stable sorting and each once, of any things with an order in three answers; plain facts, of no program.
-/
import Derived.Test.YtcdehohmgfocdaaSExprMath
namespace Go.Proofs.Ytcdehohmgfocdaa
open Go.RowKit

/-- The names that a condition's fields have. -/
def hasVar (s : ByteArray) : X → Prop
  | .nil => False
  | .mk k _ v _ _ n _ c => (k = 2 ∧ v = s) ∨ ∃ i, i < n ∧ hasVar s (c i)
/-- With other names. -/
def renX (g : ByteArray → ByteArray) : X → X
  | .nil => .nil
  | .mk k v s f a n cap c => .mk k v (if k = 2 then g s else s) f a n cap (fun i => renX g (c i))
theorem renX_parts (g : ByteArray → ByteArray) (x : X) : (renX g x).k = x.k ∧ (renX g x).v = x.v ∧ (renX g x).s = (if x.k = 2 then g x.s else x.s) ∧ (renX g x).f = x.f ∧ (renX g x).n = x.n ∧ ∀ i, (renX g x).c i = renX g (x.c i) := by
  cases x with
  | nil => exact ⟨rfl, rfl, rfl, rfl, rfl, fun _ => rfl⟩
  | mk => exact ⟨rfl, rfl, rfl, rfl, rfl, fun _ => rfl⟩
theorem renX_same (g : ByteArray → ByteArray) : ∀ x y : X, ordX x y = 0 → ordX (renX g x) (renX g y) = 0 := by
  refine X.ind fun x ih y h => ?_
  · obtain ⟨h1, h2, h3, h4, h5, h6⟩ := (ordX_zero _ _).1 h
    obtain ⟨a1, a2, a3, a4, a5, a6⟩ := renX_parts g x
    obtain ⟨b1, b2, b3, b4, b5, b6⟩ := renX_parts g y
    rw [ordX_zero, a1, a2, a3, a4, a5, b1, b2, b3, b4, b5, h1, h3]
    refine ⟨rfl, h2, rfl, h4, h5, fun i hi => ?_⟩
    rw [a6, b6]
    exact ih i hi (y.c i) (h6 i hi)
end Go.Proofs.Ytcdehohmgfocdaa
namespace Go.Proofs.Ytcdehohmgfocdaa
open Go.RowKit

/-- An order in three answers. -/
structure Ord3 {α : Type} (c : α → α → Int) : Prop where
  turn : ∀ x y, c y x = -c x y
  comp : ∀ x y z, Comp (c x y) (c y z) (c x z)
section
variable {α : Type} {c : α → α → Int}
theorem Ord3.self (h : Ord3 c) (x : α) : c x x = 0 := by have := h.turn x x; omega
theorem Ord3.le (h : Ord3 c) {x y z : α} (h1 : c x y ≤ 0) (h2 : c y z ≤ 0) : c x z ≤ 0 := by
  obtain ⟨c1, c2, c3⟩ := h.comp x y z
  by_cases e1 : c x y = 0
  · by_cases e2 : c y z = 0
    · have := c1 e1 e2; omega
    · have := c3 h1 (by omega); omega
  · have := c2 (by omega) h2; omega
theorem Ord3.lt (h : Ord3 c) {x y z : α} (h1 : c x y < 0) (h2 : c y z ≤ 0) : c x z < 0 := (h.comp x y z).2.1 h1 h2
theorem Ord3.lt' (h : Ord3 c) {x y z : α} (h1 : c x y ≤ 0) (h2 : c y z < 0) : c x z < 0 := (h.comp x y z).2.2 h1 h2
theorem Ord3.eq (h : Ord3 c) {x y z : α} (h1 : c x y = 0) (h2 : c y z = 0) : c x z = 0 := (h.comp x y z).1 h1 h2
/-- Of one class. -/
def cls (c : α → α → Int) (z x : α) : Bool := decide (c z x = 0)
theorem cls_yes {z x : α} : cls c z x = true ↔ c z x = 0 := by simp [cls]
abbrev Srt (c : α → α → Int) (r : List α) : Prop := r.Pairwise fun x y => c x y ≤ 0
/-- r is l, sorted, and what is the same is as it stood. -/
structure St (c : α → α → Int) (l r : List α) : Prop where
  srt : Srt c r
  perm : r.Perm l
  same : ∀ z, r.filter (cls c z) = l.filter (cls c z)
theorem srt_uniq (h : Ord3 c) : ∀ (r r' : List α), Srt c r → Srt c r' → (∀ z, r.filter (cls c z) = r'.filter (cls c z)) → r = r'
  | [], [], _, _, _ => rfl
  | [], y :: r', _, _, hf => by have := hf y; simp [cls, h.self] at this
  | x :: r, [], _, _, hf => by have := hf x; simp [cls, h.self] at this
  | x :: r, y :: r', h1, h2, hf => by
    have hx : x ∈ y :: r' := by
      have : x ∈ (x :: r).filter (cls c x) := by simp [cls, h.self]
      rw [hf x] at this
      exact (List.mem_filter.1 this).1
    have hy : y ∈ x :: r := by
      have : y ∈ (y :: r').filter (cls c y) := by simp [cls, h.self]
      rw [← hf y] at this
      exact (List.mem_filter.1 this).1
    have a1 : c y x ≤ 0 := by
      rcases List.mem_cons.1 hx with e | e
      · rw [e]; have := h.self y; omega
      · exact (List.pairwise_cons.1 h2).1 x e
    have a2 : c x y ≤ 0 := by
      rcases List.mem_cons.1 hy with e | e
      · rw [e]; have := h.self x; omega
      · exact (List.pairwise_cons.1 h1).1 y e
    have a3 := h.turn x y
    have a4 : c x y = 0 := by omega
    have e : x = y := by
      have := hf x
      rw [List.filter_cons, List.filter_cons, if_pos (cls_yes.2 (h.self x)), if_pos (cls_yes.2 a4)] at this
      injection this
    subst e
    rw [srt_uniq h r r' (List.pairwise_cons.1 h1).2 (List.pairwise_cons.1 h2).2 fun z => by
      have := hf z
      rw [List.filter_cons, List.filter_cons] at this
      by_cases e : cls c z x = true
      · rw [if_pos e, if_pos e] at this; injection this
      · rwa [if_neg e, if_neg e] at this]
theorem St.uniq (h : Ord3 c) {l r r' : List α} (h1 : St c l r) (h2 : St c l r') : r = r' := srt_uniq h r r' h1.srt h2.srt fun z => (h1.same z).trans (h2.same z).symm
theorem St.refl {l : List α} (h : Srt c l) : St c l l := ⟨h, List.Perm.refl _, fun _ => rfl⟩
def mle (c : α → α → Int) (x y : α) : Bool := decide (¬ c y x < 0)
theorem filter_none {z : α} {l : List α} (h : ∀ e ∈ l, ¬ c z e = 0) : l.filter (cls c z) = [] := by
  rw [List.filter_eq_nil_iff]
  intro e he
  simp [cls, h e he]
theorem merge_filter (h : Ord3 c) (z : α) (r : List α) : ∀ s : List α, Srt c r → Srt c s → (r.merge s (mle c)).filter (cls c z) = r.filter (cls c z) ++ s.filter (cls c z) := by
  induction r with
  | nil => intro s _ _; simp
  | cons x r ihr =>
    intro s
    induction s with
    | nil => intro _ _; simp
    | cons y s ihs =>
      intro h1 h2
      rw [List.cons_merge_cons]
      by_cases e : mle c x y = true
      · rw [if_pos e, List.filter_cons, ihr (y :: s) (List.pairwise_cons.1 h1).2 h2, List.filter_cons (xs := r)]
        by_cases g : cls c z x = true
        · rw [if_pos g, if_pos g]; rfl
        · rw [if_neg g, if_neg g]
      · rw [if_neg e, List.filter_cons, ihs h1 (List.pairwise_cons.1 h2).2, List.filter_cons (xs := s)]
        by_cases g : cls c z y = true
        · rw [if_pos g, if_pos g, filter_none (z := z) (l := x :: r) fun w hw => by
            have hyx : c y x < 0 := by simpa [mle] using e
            have hxw : c x w ≤ 0 := by
              rcases List.mem_cons.1 hw with e' | e'
              · rw [e']; have := h.self x; omega
              · exact (List.pairwise_cons.1 h1).1 w e'
            have hyw := h.lt hyx hxw
            have hzy := cls_yes.1 g
            have := h.lt' (x := z) (y := y) (z := w) (by omega) hyw
            omega]
          rfl
        · rw [if_neg g, if_neg g]
theorem St.merge (h : Ord3 c) {a b r s : List α} (h1 : St c a r) (h2 : St c b s) : St c (a ++ b) (r.merge s (mle c)) := by
  have tot : ∀ x y : α, (mle c x y || mle c y x) = true := fun x y => by
    have := h.turn x y
    simp [mle]
    omega
  have cv : ∀ {l : List α}, Srt c l ↔ l.Pairwise fun x y => mle c x y = true := fun {l} => by
    have e : ∀ x y, c x y ≤ 0 ↔ mle c x y = true := fun x y => by have := h.turn x y; simp [mle]; omega
    constructor <;> intro g <;> exact g.imp fun {x y} q => by first | exact (e x y).1 q | exact (e x y).2 q
  refine ⟨cv.2 (List.pairwise_merge (fun x y z g1 g2 => ?_) tot _ _ (cv.1 h1.srt) (cv.1 h2.srt)), (List.merge_perm_append _).trans (h1.perm.append h2.perm), fun z => ?_⟩
  · have t1 := h.turn x y
    have t2 := h.turn y z
    have t3 := h.turn x z
    simp [mle] at g1 g2 ⊢
    have := h.le (x := x) (y := y) (z := z) (by omega) (by omega)
    omega
  · rw [merge_filter h z r s h1.srt h2.srt, h1.same, h2.same, List.filter_append]
/-- One more, set behind those that are not greater. -/
theorem St.ins (h : Ord3 c) {l r : List α} (hs : St c l r) (x : α) (k : Nat) (h1 : ∀ e ∈ r.drop k, c x e < 0) (h2 : ∀ e ∈ r.take k, c e x ≤ 0) : St c (l ++ [x]) (r.take k ++ x :: r.drop k) := by
  have hr : Srt c (r.take k ++ r.drop k) := by rw [List.take_append_drop]; exact hs.srt
  obtain ⟨p1, p2, p3⟩ := List.pairwise_append.1 hr
  refine ⟨List.pairwise_append.2 ⟨p1, List.pairwise_cons.2 ⟨fun e he => by have := h1 e he; omega, p2⟩, fun a ha b hb => ?_⟩, ?_, fun z => ?_⟩
  · rcases List.mem_cons.1 hb with e | e
    · rw [e]; exact h2 a ha
    · exact p3 a ha b e
  · refine List.perm_middle.trans ?_
    rw [List.take_append_drop]
    refine List.Perm.trans ?_ (List.perm_append_comm (l₁ := [x]) (l₂ := l))
    exact List.Perm.cons x hs.perm
  · rw [List.filter_append, List.filter_append, ← hs.same z]
    conv => rhs; rw [← List.take_append_drop k r]
    rw [List.filter_append, List.append_assoc]
    congr 1
    rw [List.filter_cons]
    by_cases g : cls c z x = true
    · rw [if_pos g, filter_none (z := z) (l := r.drop k) fun e he => by
        have := h1 e he
        have g' := cls_yes.1 g
        have := h.lt' (x := z) (y := x) (z := e) (by omega) this
        omega]
      simp [g]
    · rw [if_neg g]
      simp [g]
theorem srt_take (h : Ord3 c) {r : List α} (hr : Srt c r) {x y : α} {k : Nat} (hy : r[k]? = some y) (hx : ¬ c x y < 0) : ∀ e ∈ r.take (k + 1), c e x ≤ 0 := by
  intro e he
  have hk : k < r.length := (List.getElem?_eq_some_iff.1 hy).1
  have hyx : c y x ≤ 0 := by have := h.turn x y; omega
  rw [List.take_add_one, hy] at he
  have hr' : Srt c (r.take k ++ r.drop k) := by rw [List.take_append_drop]; exact hr
  rcases List.mem_append.1 he with he | he
  · refine h.le ((List.pairwise_append.1 hr').2.2 e he y ?_) hyx
    rw [List.mem_iff_getElem?]
    exact ⟨0, by rw [List.getElem?_drop]; exact hy⟩
  · simp at he; rw [he]; exact hyx
/-- Each once, of those that lie side by side: behind p. -/
def cpc (eq : α → α → Bool) : α → List α → List α
  | _, [] => []
  | p, x :: l => if eq x p = true then cpc eq x l else x :: cpc eq x l
def compactL (eq : α → α → Bool) : List α → List α
  | [] => []
  | x :: l => x :: cpc eq x l
theorem cpc_filter (h : Ord3 c) {eq : α → α → Bool} (he : ∀ x y, eq x y = true ↔ c x y = 0) (z : α) : ∀ (p : α) (l : List α), Srt c (p :: l) → (cpc eq p l).filter (cls c z) = if cls c z p = true then [] else (l.filter (cls c z)).take 1
  | p, [], _ => by simp [cpc]
  | p, x :: l, hs => by
    obtain ⟨s1, s2⟩ := List.pairwise_cons.1 hs
    obtain ⟨s3, s4⟩ := List.pairwise_cons.1 s2
    have ih := cpc_filter h he z x l s2
    have t := h.turn x p
    have px := s1 x (by simp)
    rw [cpc]
    by_cases g : eq x p = true
    · rw [if_pos g, ih]
      have g' := (he x p).1 g
      have : cls c z p = cls c z x := by
        rw [Bool.eq_iff_iff, cls_yes, cls_yes]
        exact ⟨fun q => h.eq q (by omega), fun q => h.eq q (by omega)⟩
      rw [this, List.filter_cons]
      by_cases q : cls c z x = true
      · rw [if_pos q, if_pos q]
      · rw [if_neg q, if_neg q, if_neg q]
    · rw [if_neg g, List.filter_cons, List.filter_cons, ih]
      have g' : ¬ c x p = 0 := fun e => g ((he x p).2 e)
      by_cases q : cls c z x = true
      · rw [if_pos q, if_pos q, if_pos q, if_neg]
        · simp
        · intro q2
          have a1 := cls_yes.1 q
          have a2 := cls_yes.1 q2
          have a3 := h.turn z x
          exact g' (h.eq (x := x) (y := z) (z := p) (by omega) a2)
      · rw [if_neg q, if_neg q, if_neg q]
        by_cases q2 : cls c z p = true
        · rw [if_pos q2, filter_none]
          · rfl
          · intro e hl
            have a2 := cls_yes.1 q2
            have a3 := s3 e hl
            have := h.lt' (x := z) (y := p) (z := e) (by omega) (h.lt (x := p) (y := x) (z := e) (by omega) a3)
            omega
        · rw [if_neg q2]
theorem compact_filter (h : Ord3 c) {eq : α → α → Bool} (he : ∀ x y, eq x y = true ↔ c x y = 0) (z : α) : ∀ l : List α, Srt c l → (compactL eq l).filter (cls c z) = (l.filter (cls c z)).take 1
  | [], _ => rfl
  | x :: l, hs => by
    rw [compactL, List.filter_cons, List.filter_cons, cpc_filter h he z x l hs]
    by_cases q : cls c z x = true
    · rw [if_pos q, if_pos q, if_pos q]; simp
    · rw [if_neg q, if_neg q, if_neg q]
theorem cpc_sub (eq : α → α → Bool) : ∀ (p : α) (l : List α), (cpc eq p l).Sublist l
  | _, [] => List.Sublist.refl _
  | p, x :: l => by
    rw [cpc]
    split
    · exact (cpc_sub eq x l).cons x
    · exact (cpc_sub eq x l).cons_cons x
theorem compact_sub (eq : α → α → Bool) : ∀ l : List α, (compactL eq l).Sublist l
  | [] => List.Sublist.refl _
  | x :: l => (cpc_sub eq x l).cons_cons x
/-- Strictly sorted: one of each class of l. -/
structure Once (c : α → α → Int) (l r : List α) : Prop where
  srt : r.Pairwise fun x y => c x y < 0
  mem : ∀ x ∈ r, x ∈ l
  all : ∀ x ∈ l, ∃ y ∈ r, c x y = 0
theorem strict_of (h : Ord3 c) {eq : α → α → Bool} (he : ∀ x y, eq x y = true ↔ c x y = 0) : ∀ (p : α) (l : List α), Srt c (p :: l) → (∀ e ∈ cpc eq p l, c p e < 0) ∧ (cpc eq p l).Pairwise fun x y => c x y < 0
  | p, [], _ => by simp [cpc]
  | p, x :: l, hs => by
    obtain ⟨s1, s2⟩ := List.pairwise_cons.1 hs
    have px := s1 x (by simp)
    have t := h.turn x p
    obtain ⟨i1, i2⟩ := strict_of h he x l s2
    rw [cpc]
    by_cases g : eq x p = true
    · rw [if_pos g]
      exact ⟨fun e he' => h.lt' px (i1 e he'), i2⟩
    · rw [if_neg g]
      have g' : ¬ c x p = 0 := fun e => g ((he x p).2 e)
      refine ⟨fun e he' => ?_, List.pairwise_cons.2 ⟨i1, i2⟩⟩
      rcases List.mem_cons.1 he' with e' | e'
      · rw [e']; omega
      · exact h.lt' px (i1 e e')
theorem Once.compact (h : Ord3 c) {eq : α → α → Bool} (he : ∀ x y, eq x y = true ↔ c x y = 0) {l r : List α} (hs : St c l r) : Once c l (compactL eq r) := by
  refine ⟨?_, fun x hx => hs.perm.mem_iff.1 ((compact_sub eq r).subset hx), fun x hx => ?_⟩
  · cases r with
    | nil => exact List.Pairwise.nil
    | cons p r =>
      obtain ⟨i1, i2⟩ := strict_of h he p r hs.srt
      exact List.pairwise_cons.2 ⟨i1, i2⟩
  · have h1 := compact_filter h he x r hs.srt
    have hx' : x ∈ r.filter (cls c x) := List.mem_filter.2 ⟨hs.perm.mem_iff.2 hx, cls_yes.2 (h.self x)⟩
    cases e : r.filter (cls c x) with
    | nil => rw [e] at hx'; cases hx'
    | cons y ys =>
      rw [e] at h1
      have : y ∈ (compactL eq r).filter (cls c x) := by rw [h1]; simp
      obtain ⟨m1, m2⟩ := List.mem_filter.1 this
      exact ⟨y, m1, cls_yes.1 m2⟩
theorem strict_uniq (h : Ord3 c) : ∀ (r s : List α), r.Pairwise (fun x y => c x y < 0) → s.Pairwise (fun x y => c x y < 0) → (∀ x ∈ r, ∃ y ∈ s, c x y = 0) → (∀ y ∈ s, ∃ x ∈ r, c x y = 0) → r.length = s.length ∧ ∀ (i : Nat) (x y : α), r[i]? = some x → s[i]? = some y → c x y = 0
  | [], [], _, _, _, _ => ⟨rfl, fun i x y hx _ => by simp at hx⟩
  | [], y :: s, _, _, _, h4 => by obtain ⟨x, hx, _⟩ := h4 y (by simp); cases hx
  | x :: r, [], _, _, h3, _ => by obtain ⟨y, hy, _⟩ := h3 x (by simp); cases hy
  | x :: r, y :: s, h1, h2, h3, h4 => by
    obtain ⟨a1, a2⟩ := List.pairwise_cons.1 h1
    obtain ⟨b1, b2⟩ := List.pairwise_cons.1 h2
    have exy : c x y = 0 := by
      obtain ⟨y', hy', e1⟩ := h3 x (by simp)
      obtain ⟨x', hx', e2⟩ := h4 y (by simp)
      rcases List.mem_cons.1 hy' with q | q
      · rw [← q]; exact e1
      · rcases List.mem_cons.1 hx' with p | p
        · rw [← p]; exact e2
        · have z1 := b1 y' q
          have z2 := a1 x' p
          have z3 := h.lt' (x := x') (y := y) (z := y') (by omega) z1
          have z4 := h.lt (x := x) (y := x') (z := y') z2 (by omega)
          omega
    have t := h.turn x y
    have ih := strict_uniq h r s a2 b2 (fun u hu => by
      obtain ⟨v, hv, e⟩ := h3 u (by simp [hu])
      rcases List.mem_cons.1 hv with q | q
      · have z1 := a1 u hu
        have t2 := h.turn u v
        rw [q] at e t2
        have := h.eq (x := x) (y := y) (z := u) exy (by omega)
        omega
      · exact ⟨v, q, e⟩) (fun v hv => by
      obtain ⟨u, hu, e⟩ := h4 v (by simp [hv])
      rcases List.mem_cons.1 hu with q | q
      · have z1 := b1 v hv
        rw [q] at e
        have := h.eq (x := y) (y := x) (z := v) (by omega) e
        omega
      · exact ⟨u, q, e⟩)
    refine ⟨by simp [ih.1], fun i u v hu hv => ?_⟩
    cases i with
    | zero => simp at hu hv; rw [← hu, ← hv]; exact exy
    | succ i => exact ih.2 i u v (by simpa using hu) (by simpa using hv)
theorem Once.uniq (h : Ord3 c) {l r s : List α} (h1 : Once c l r) (h2 : Once c l s) : r.length = s.length ∧ ∀ (i : Nat) (x y : α), r[i]? = some x → s[i]? = some y → c x y = 0 :=
  strict_uniq h r s h1.srt h2.srt (fun x hx => h2.all x (h1.mem x hx)) (fun y hy => by
    obtain ⟨x, hx, e⟩ := h1.all y (h2.mem y hy)
    exact ⟨x, hx, by have := h.turn x y; omega⟩)
theorem Once.ins (h : Ord3 c) {l r : List α} (hs : Once c l r) (x : α) (k : Nat) (h1 : ∀ e ∈ r.drop k, c x e < 0) (h2 : ∀ e ∈ r.take k, c e x < 0) : Once c (l ++ [x]) (r.take k ++ x :: r.drop k) := by
  have hr : (r.take k ++ r.drop k).Pairwise fun x y => c x y < 0 := by rw [List.take_append_drop]; exact hs.srt
  obtain ⟨p1, p2, p3⟩ := List.pairwise_append.1 hr
  have sub : ∀ e, e ∈ r → e ∈ r.take k ++ x :: r.drop k := fun e he => by
    rw [← List.take_append_drop k r] at he
    rcases List.mem_append.1 he with he | he
    · exact List.mem_append.2 (.inl he)
    · exact List.mem_append.2 (.inr (List.mem_cons_of_mem _ he))
  refine ⟨List.pairwise_append.2 ⟨p1, List.pairwise_cons.2 ⟨h1, p2⟩, fun a ha b hb => ?_⟩, fun e he => ?_, fun e he => ?_⟩
  · rcases List.mem_cons.1 hb with e | e
    · rw [e]; exact h2 a ha
    · exact p3 a ha b e
  · rcases List.mem_append.1 he with he | he
    · exact List.mem_append.2 (.inl (hs.mem e (List.mem_of_mem_take he)))
    · rcases List.mem_cons.1 he with he | he
      · rw [he]; simp
      · exact List.mem_append.2 (.inl (hs.mem e (List.mem_of_mem_drop he)))
  · rcases List.mem_append.1 he with he | he
    · obtain ⟨y, hy, e'⟩ := hs.all e he
      exact ⟨y, sub y hy, e'⟩
    · simp at he; rw [he]; exact ⟨x, by simp, h.self x⟩
theorem Once.skip {l r : List α} (hs : Once c l r) {x y : α} (hy : y ∈ r) (e : c x y = 0) : Once c (l ++ [x]) r :=
  ⟨hs.srt, fun e he => List.mem_append.2 (.inl (hs.mem e he)), fun e' he => by
    rcases List.mem_append.1 he with he | he
    · exact hs.all e' he
    · simp at he; rw [he]; exact ⟨y, hy, e⟩⟩
theorem strict_take (h : Ord3 c) {r : List α} (hr : r.Pairwise fun x y => c x y < 0) {x y : α} {k : Nat} (hy : r[k]? = some y) (hx : ¬ c x y < 0) (hn : ¬ c x y = 0) : ∀ e ∈ r.take (k + 1), c e x < 0 := by
  intro e he
  have hyx : c y x < 0 := by have := h.turn x y; omega
  rw [List.take_add_one, hy] at he
  have hr' : (r.take k ++ r.drop k).Pairwise fun x y => c x y < 0 := by rw [List.take_append_drop]; exact hr
  rcases List.mem_append.1 he with he | he
  · refine h.lt ((List.pairwise_append.1 hr').2.2 e he y ?_) (by omega)
    rw [List.mem_iff_getElem?]
    exact ⟨0, by rw [List.getElem?_drop]; exact hy⟩
  · simp at he; rw [he]; exact hyx
end
end Go.Proofs.Ytcdehohmgfocdaa
