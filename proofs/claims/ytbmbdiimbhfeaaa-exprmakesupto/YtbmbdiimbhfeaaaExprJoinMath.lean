/-
  The parts that are joined: plain facts, and rows of them; of no function.
-/
import Derived.Test.YtbmbdiimbhfeaaaExprRefRename
namespace Go.Proofs.Ytbmbdiimbhfeaaa
open Go.RowKit

/-- The cells of conditions, one behind the other. -/
def rowL : List X → List Value
  | [] => []
  | x :: l => x.cells.toList ++ rowL l
theorem rowL_app : ∀ l m : List X, rowL (l ++ m) = rowL l ++ rowL m
  | [], _ => rfl
  | x :: l, m => by rw [List.cons_append, rowL, rowL, rowL_app l m, List.append_assoc]
/-- The parts of a condition as a list. -/
def kidsL (c : Nat → X) : Nat → List X
  | 0 => []
  | n + 1 => kidsL c n ++ [c n]
theorem kidsL_len (c : Nat → X) : ∀ n, (kidsL c n).length = n
  | 0 => rfl
  | n + 1 => by simp [kidsL, kidsL_len c n]
theorem rowX_kids (c : Nat → X) : ∀ n, rowX c n = rowL (kidsL c n)
  | 0 => rfl
  | n + 1 => by rw [rowX, kidsL, rowL_app, rowX_kids c n]; simp [rowL]
def atX (l : List X) (j : Nat) : X := l.getD j .nil
theorem kidsL_congr {c d : Nat → X} : ∀ {n : Nat}, (∀ i, i < n → c i = d i) → kidsL c n = kidsL d n
  | 0, _ => rfl
  | n + 1, h => by rw [kidsL, kidsL, kidsL_congr fun i hi => h i (by omega), h n (by omega)]
theorem kidsL_take (l : List X) : ∀ n, n ≤ l.length → kidsL (atX l) n = l.take n
  | 0, _ => by simp [kidsL]
  | n + 1, h => by
    rw [kidsL, kidsL_take l n (by omega), List.take_add_one]
    simp [atX, show n < l.length by omega]
theorem kidsL_at (l : List X) : kidsL (atX l) l.length = l := by rw [kidsL_take l _ (Nat.le_refl _), List.take_length]
theorem rowX_at (l : List X) : rowX (atX l) l.length = rowL l := by rw [rowX_kids, kidsL_at]
theorem mem_kids (c : Nat → X) (y : X) : ∀ n, y ∈ kidsL c n ↔ ∃ i, i < n ∧ c i = y
  | 0 => by simp [kidsL]
  | n + 1 => by
    simp only [kidsL, List.mem_append, List.mem_singleton, mem_kids c y n]
    constructor
    · rintro (⟨i, hi, h⟩ | h)
      · exact ⟨i, by omega, h⟩
      · exact ⟨n, by omega, h.symm⟩
    · rintro ⟨i, hi, h⟩
      by_cases e : i = n
      · exact .inr (e ▸ h.symm)
      · exact .inl ⟨i, by omega, h⟩
def sizeL : List X → Nat
  | [] => 0
  | x :: l => x.size + sizeL l
theorem sizeL_app : ∀ l m : List X, sizeL (l ++ m) = sizeL l + sizeL m
  | [], m => by simp [sizeL]
  | x :: l, m => by rw [List.cons_append, sizeL, sizeL, sizeL_app l m]; omega
theorem sizeL_kids (c : Nat → X) : ∀ n, sizeL (kidsL c n) = sumN (fun i => (c i).size) n
  | 0 => rfl
  | n + 1 => by rw [kidsL, sizeL_app, sizeL_kids c n]; simp [sizeL, sumN]
theorem len_sizeL : ∀ l : List X, l.length ≤ sizeL l
  | [] => Nat.le_refl _
  | x :: l => by have := x.size_pos; have := len_sizeL l; simp only [List.length_cons, sizeL]; omega
theorem size_sizeL : ∀ {l : List X} {x : X}, x ∈ l → x.size ≤ sizeL l
  | y :: l, x, h => by
    rcases List.mem_cons.1 h with rfl | h
    · simp only [sizeL]; omega
    · have := size_sizeL h; simp only [sizeL]; omega
/-- Join's parts. -/
def partL (k : Int) (c : Nat → X) : Nat → List X
  | 0 => []
  | i + 1 => partL k c i ++ (if (c i).k = k then kidsL (c i).c (c i).n else [c i])
theorem partL_size (k : Int) (c : Nat → X) : ∀ n, sizeL (partL k c n) ≤ sumN (fun i => (c i).size) n
  | 0 => Nat.le_refl _
  | n + 1 => by
    rw [partL, sizeL_app]
    have h := partL_size k c n
    simp only [sumN]
    split
    · rw [sizeL_kids]; have := (c n).size_eq; omega
    · simp only [sizeL]; omega
theorem partL_hit {k : Int} {c : Nat → X} {i : Nat} (h : (c i).k = k) : partL k c (i + 1) = partL k c i ++ kidsL (c i).c (c i).n := by rw [partL, if_pos h]
theorem partL_miss {k : Int} {c : Nat → X} {i : Nat} (h : ¬ (c i).k = k) : partL k c (i + 1) = partL k c i ++ [c i] := by rw [partL, if_neg h]
theorem partL_is {w : World} {k : Int} {c : Nat → X} : ∀ {n : Nat}, (∀ i, i < n → IsX w (c i)) → ∀ y ∈ partL k c n, IsX w y
  | 0, _, y, h => by simp [partL] at h
  | n + 1, hc, y, h => by
    by_cases e : (c n).k = k
    · rw [partL_hit e, List.mem_append] at h
      rcases h with h | h
      · exact partL_is (fun i hi => hc i (by omega)) y h
      · obtain ⟨j, hj, rfl⟩ := (mem_kids _ _ _).1 h
        obtain ⟨_, _, _, _, hx⟩ := (hc n (by omega)).part hj
        exact hx
    · rw [partL_miss e, List.mem_append, List.mem_singleton] at h
      rcases h with h | h
      · exact partL_is (fun i hi => hc i (by omega)) y h
      · rw [h]; exact hc n (by omega)
/-- What Join answers. -/
def joinX (k : Int) : List X → X
  | [] => .mk 1 ⟨1, if k = 16 then 1 else 0, ⟨#[]⟩⟩ ⟨#[]⟩ ⟨#[]⟩ none 0 0 (fun _ => .nil)
  | [p] => p
  | p :: q :: l => .mk k val0 ⟨#[]⟩ ⟨#[]⟩ none (l.length + 2) 0 (atX (p :: q :: l))
theorem joinX_more {k : Int} {l : List X} (h : 2 ≤ l.length) (a : Option Addr) (cap : Nat) : ordX (.mk k val0 ⟨#[]⟩ ⟨#[]⟩ a l.length cap (atX l)) (joinX k l) = 0 := by
  match l, h with
  | p :: q :: l, _ => exact (ordX_zero _ _).2 ⟨rfl, rfl, rfl, rfl, rfl, fun i _ => ordX_self _⟩
theorem joinX_one {k : Int} {l : List X} (h : l.length = 1) : joinX k l = atX l 0 := by
  match l, h with
  | [p], _ => rfl
/-- A row that holds just these. -/
theorem own_list {w : World} {base : Nat} {v : Value} {l : List X} (h : w.ownsRow base 26 7 v l.length (rowL l)) (hl : ∀ y ∈ l, IsX w y) :
    ∃ a cap, v = .slice a l.length cap ∧ IsX w (.mk 0 val0 ⟨#[]⟩ ⟨#[]⟩ a l.length cap (atX l)) ∧ (0 < l.length → ∃ g, a = some ⟨g, 0, none⟩ ∧ base ≤ g ∧ Node w g 0 (atX l 0)) := by
  rw [← rowX_at] at h
  obtain ⟨a, cap, e, h1, h2, h3⟩ := own_nodes h
  refine ⟨a, cap, e, ⟨h1, by unfold maxLen at h2; omega, fun i hi => ?_⟩, fun h0 => ?_⟩
  · obtain ⟨g, ea, _, _, _, hn⟩ := h3 (by omega)
    refine ⟨g, 0, ea, by rw [Nat.zero_add]; exact hn i hi, hl _ ?_⟩
    rw [← kidsL_at l, mem_kids]
    exact ⟨i, hi, by rw [kidsL_at]⟩
  · obtain ⟨g, ea, hg, _, _, hn⟩ := h3 h0
    exact ⟨g, ea, hg, by have := hn 0 h0; rwa [Nat.zero_mul] at this⟩
/-- The parts of a condition behind a row that the call owns. -/
theorem push_kids {w : World} {base : Nat} {v : Value} {l : List X} (h : w.ownsRow base 26 7 v l.length (rowL l)) (hb : base ≤ w.heap.size) (x : X) (hx : IsX w x) (hn : l.length + x.n ≤ 16777216) :
    ∃ v' w', (Builtin.append_ #[24, 24] 24 #[v, .slice x.a x.n x.cap]).run Try.prog w = .ok v' w' ∧ w'.ownsRow base 26 7 v' (l ++ kidsL x.c x.n).length (rowL (l ++ kidsL x.c x.n)) ∧ w.grownBy w' v.ownBlock := by
  rw [List.length_append, kidsL_len, rowL_app, ← rowX_kids]
  cases ha : x.a with
  | some p =>
    refine push_x h hb p x.n x.cap x.c (fun i hi => ?_) hn
    obtain ⟨b, o, e, hn, _⟩ := hx.part hi
    rw [ha] at e
    cases e
    exact ⟨b, o, rfl, hn⟩
  | none =>
    have h0 : x.n = 0 := by
      by_cases h0 : 0 < x.n
      · obtain ⟨b, o, e, _⟩ := hx.part h0
        rw [ha] at e
        cases e
      · omega
    rw [h0]
    obtain ⟨i0, hi0, hz0, hz1, hz2⟩ := info_parts infoX
    refine ⟨v, w, ?_, by simpa [rowX] using h, ⟨rfl, rfl, rfl, Nat.le_refl _, fun _ _ _ => rfl⟩⟩
    obtain ⟨a, cap, rfl, h1, h2, _⟩ := own_nodes (by rw [← rowX_at] at h; exact h)
    have ht : Try.prog.underlying 24 = some (.slice 26) := Try.underlying24
    cases a <;> simp [Builtin.append_, run_underlying ht, sizeOf, typeInfo, hi0, Builtin.lenOf, Builtin.firstCells, h1, storeCells]
/-- One behind a row that the call owns. -/
theorem push_one {w : World} {base : Nat} {v : Value} {l : List X} (h : w.ownsRow base 26 7 v l.length (rowL l)) (hb : base ≤ w.heap.size) (x : X) (hn : l.length + 1 ≤ 16777216) :
    ∃ v' w', (Builtin.append_ #[24, 24] 24 #[v, .slice (some ⟨w.heap.size, 0, none⟩) 1 1]).run Try.prog (w.alloc (.cells x.cells 26)) = .ok v' w' ∧ w'.ownsRow base 26 7 v' (l ++ [x]).length (rowL (l ++ [x])) ∧ Below base w w' := by
  obtain ⟨v', w', h1, h2, h3⟩ := push_x (h.alloc (.cells x.cells 26)) (by simp; omega) ⟨w.heap.size, 0, none⟩ 1 1 (fun _ => x) (fun i hi => ⟨_, _, rfl, by
    obtain rfl : i = 0 := by omega
    exact node_new w _ x⟩) hn
  refine ⟨v', w', h1, ?_, ((Below.refl base w).alloc hb _).grown h3 (by simp; omega) fun k e => (h.lt k e).1⟩
  rw [List.length_append, rowL_app]
  simpa [rowX, rowL] using h2
end Go.Proofs.Ytbmbdiimbhfeaaa
