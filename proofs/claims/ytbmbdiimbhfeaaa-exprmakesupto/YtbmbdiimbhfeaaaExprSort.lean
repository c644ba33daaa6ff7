/-
  Names sorted and each once: slices.Sort and slices.Compact of texts; plain facts.
-/
import Derived.Test.YtbmbdiimbhfeaaaNamesMath
import Derived.Test.YtbmbdiimbhfeaaaShelf
import Derived.Lib.OwnBridge
import Derived.Sort.OwnSorted
import Derived.Sort.Walk0
namespace Go.Proofs.Ytbmbdiimbhfeaaa
open Go.RowKit Go.Shelf Go.Sort

/-- A text's bytes. -/
def bs (s : ByteArray) : List UInt8 := s.data.toList
theorem bs_mk (s : ByteArray) : (⟨(bs s).toArray⟩ : ByteArray) = s := by simp [bs]
theorem mk_bs (l : List UInt8) : bs ⟨l.toArray⟩ = l := by simp [bs]
theorem bs_list (s : ByteArray) : s.toList = bs s := by rw [ByteArray.toList_eq]; rfl
theorem lt_bytes (x y : List UInt8) : decide (x < y) = Op.bytesLess x y := (bytesLess_eq x y).symm
theorem le_bytes (x y : List UInt8) : decide (x ≤ y) = !Op.bytesLess y x := by
  rw [← lt_bytes]
  by_cases h : y < x
  · have : ¬ x ≤ y := fun e => e h
    simp [h, this]
  · have : x ≤ y := h
    simp [h, this]
theorem less_le {l m r : List UInt8} (h1 : Op.bytesLess m l = false) (h2 : Op.bytesLess r m = false) : Op.bytesLess r l = false := by
  cases h : Op.bytesLess r l with
  | false => rfl
  | true =>
    by_cases e : l = m
    · rw [← e, h] at h2; cases h2
    · have h3 := less_total l m e
      rw [h1] at h3
      have h4 := less_trans _ _ _ h h3
      rw [h4] at h2; cases h2
theorem cmp_bytes (a b : ByteArray) : cmpS a b < 0 ↔ Op.bytesLess (bs a) (bs b) = true := by
  rcases cmpS_cases a b with ⟨h, h1, _⟩ | ⟨h, h1⟩ | ⟨h, h1, _⟩
  · rw [h, ← bs_list, ← bs_list]; simp [h1]
  · rw [bs_list, bs_list] at h1
    rw [h, h1, less_irrefl]; simp
  · rw [bs_list, bs_list] at h1
    rw [h]
    constructor
    · intro h; omega
    · intro h2
      have := less_trans _ _ _ h1 h2
      rw [less_irrefl] at this
      cases this
/-- The texts sorted, then each once. -/
def sortB (l : List (List UInt8)) : List (List UInt8) := l.mergeSort fun x y => decide (x ≤ y)
theorem sortB_le (l : List (List UInt8)) : (sortB l).Pairwise fun x y => Op.bytesLess y x = false := by
  have h := List.pairwise_mergeSort (le := fun (x y : List UInt8) => decide (x ≤ y)) (fun a b c h1 h2 => by
    rw [le_bytes] at h1 h2 ⊢
    simp at h1 h2 ⊢
    exact less_le h1 h2) (fun a b => by
    rw [le_bytes, le_bytes]
    by_cases e : a = b
    · subst e; simp [less_irrefl]
    · have := less_total a b e
      cases h : Op.bytesLess b a <;> simp_all) l
  exact h.imp fun h => by rw [le_bytes] at h; simpa using h
theorem sortB_mem (l : List (List UInt8)) (x : List UInt8) : x ∈ sortB l ↔ x ∈ l := List.mem_mergeSort
theorem sortB_len (l : List (List UInt8)) : (sortB l).length = l.length := List.length_mergeSort l
theorem compact_mem (d : Array (List UInt8)) (x : List UInt8) : ∀ m, x ∈ Lib.compactUpTo d m ↔ ∃ j, j < m ∧ d[j]! = x
  | 0 => by simp [Lib.compactUpTo]
  | m + 1 => by
    rw [Lib.compactUpTo_succ, List.mem_append, compact_mem d x m]
    constructor
    · rintro (⟨j, hj, e⟩ | h)
      · exact ⟨j, by omega, e⟩
      · split at h
        · simp at h; exact ⟨m, by omega, h.symm⟩
        · simp at h
    · rintro ⟨j, hj, e⟩
      by_cases hjm : j < m
      · exact .inl ⟨j, hjm, e⟩
      · obtain rfl : j = m := by omega
        by_cases hk : Lib.keeps d j = true
        · exact .inr (by rw [if_pos hk]; simp [e])
        · simp [Lib.keeps] at hk
          exact .inl ⟨j - 1, by omega, by rw [← hk.2]; exact e⟩
theorem compact_less (d : Array (List UInt8)) (n : Nat) (hs : ∀ i j, i < j → j < n → Op.bytesLess d[j]! d[i]! = false) : ∀ m, m ≤ n → (Lib.compactUpTo d m).Pairwise fun x y => Op.bytesLess x y = true
  | 0, _ => by simp [Lib.compactUpTo]
  | m + 1, hm => by
    rw [Lib.compactUpTo_succ]
    by_cases hk : Lib.keeps d m = true
    · rw [if_pos hk, List.pairwise_append]
      refine ⟨compact_less d n hs m (by omega), by simp, fun x hx y hy => ?_⟩
      simp at hy
      subst hy
      obtain ⟨j, hj, rfl⟩ := (compact_mem d x m).1 hx
      simp [Lib.keeps] at hk
      have h1 := hs (m - 1) m (by omega) (by omega)
      have h2 : Op.bytesLess d[m - 1]! d[m]! = true := by
        have := less_total d[m - 1]! d[m]! (fun e => (hk.resolve_left (by omega)) e.symm)
        rw [h1] at this
        exact this
      by_cases e : j = m - 1
      · rw [e]; exact h2
      · have h3 := hs j (m - 1) (by omega) (by omega)
        by_cases e2 : d[j]! = d[m - 1]!
        · rw [e2]; exact h2
        · have h4 := less_total d[j]! d[m - 1]! e2
          rw [h3] at h4
          exact less_trans _ _ _ h4 h2
    · rw [if_neg hk, List.append_nil]
      exact compact_less d n hs m (by omega)
/-- What Vars hands back, of the names that it has met. -/
def onceB (l : List (List UInt8)) : List (List UInt8) := Lib.compact (sortB l)
theorem onceB_mem (l : List (List UInt8)) (x : List UInt8) : x ∈ onceB l ↔ x ∈ l := by
  unfold onceB Lib.compact
  rw [compact_mem, ← sortB_mem l]
  constructor
  · rintro ⟨j, hj, rfl⟩
    simp [hj]
  · intro h
    obtain ⟨j, hj, e⟩ := List.getElem_of_mem h
    exact ⟨j, hj, by simp [hj, e]⟩
theorem onceB_less (l : List (List UInt8)) : (onceB l).Pairwise fun x y => Op.bytesLess x y = true := by
  unfold onceB Lib.compact
  refine compact_less _ _ (fun i j hij hj => ?_) _ (Nat.le_refl _)
  have h := List.pairwise_iff_getElem.1 (sortB_le l) i j (by omega) hj hij
  simpa [show i < (sortB l).length by omega, hj] using h
theorem onceB_len (l : List (List UInt8)) : (onceB l).length ≤ l.length := by
  unfold onceB Lib.compact
  rw [← sortB_len l]
  unfold Lib.compactUpTo
  rw [List.length_map]
  exact Nat.le_trans (List.length_filter_le _ _) (by simp)
theorem sorted_of : ∀ l : List (List UInt8), (l.Pairwise fun x y => Op.bytesLess x y = true) → Sorted (l.map fun x => (⟨x.toArray⟩ : ByteArray))
  | [], _ => trivial
  | a :: l, h => by
    rw [List.pairwise_cons] at h
    refine ⟨fun b hb => ?_, sorted_of l h.2⟩
    obtain ⟨y, hy, rfl⟩ := List.mem_map.1 hb
    rw [cmp_bytes, mk_bs, mk_bs]
    exact h.1 y hy
/-- Sorted, each once: just the document's. -/
theorem once_vars (x : X) (l : List ByteArray) (h : ∀ t, t ∈ l ↔ hasVar t x) : (onceB (l.map bs)).map (fun x => (⟨x.toArray⟩ : ByteArray)) = varsX x := by
  refine vars_one _ x (sorted_of _ (onceB_less _)) fun t => ?_
  rw [← h t, List.mem_map]
  constructor
  · rintro ⟨y, hy, rfl⟩
    rw [onceB_mem, List.mem_map] at hy
    obtain ⟨s, hs, rfl⟩ := hy
    rw [bs_mk]
    exact hs
  · intro ht
    exact ⟨bs t, by rw [onceB_mem]; exact List.mem_map_of_mem ht, bs_mk t⟩
end Go.Proofs.Ytbmbdiimbhfeaaa
