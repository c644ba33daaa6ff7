/-
  slices.Clone of conditions: a row of nodes that a call owns.
-/
import Derived.Test.YtmbinllefkifiaaExprWalk
import Derived.Test.YtmbinllefkifiaaExprSize
import Derived.Test.YtmbinllefkifiaaBulk
namespace Go.Proofs.Ytmbinllefkifiaa
open Go.RowKit

/-- The cells of some nodes, one behind the other. -/
def rowX (c : Nat → X) : Nat → List Value
  | 0 => []
  | n + 1 => rowX c n ++ (c n).cells.toList
theorem rowX_len (c : Nat → X) : ∀ n, (rowX c n).length = n * 7
  | 0 => rfl
  | n + 1 => by rw [rowX, List.length_append, rowX_len c n]; simp; omega
theorem rowX_get (c : Nat → X) : ∀ n i j, i < n → j < 7 → (rowX c n)[i * 7 + j]? = (c i).cells[j]?
  | 0, _, _, h, _ => by omega
  | n + 1, i, j, h, hj => by
    rw [rowX]
    by_cases e : i = n
    · subst e
      rw [List.getElem?_append_right (by rw [rowX_len]; omega), rowX_len, show i * 7 + j - i * 7 = j by omega]
      simp
    · rw [List.getElem?_append_left (by rw [rowX_len]; omega)]
      exact rowX_get c n i j (by omega) hj
theorem rowX_one (c : Nat → X) : ∀ n, ∀ u ∈ rowX c n, u.oneCell' = true
  | 0, u, h => by simp [rowX] at h
  | n + 1, u, h => by
    rw [rowX, List.mem_append] at h
    rcases h with h | h
    · exact rowX_one c n u h
    · simp at h
      rcases h with rfl | rfl | rfl | rfl | rfl | rfl | rfl <;> rfl
theorem rowX_congr {c d : Nat → X} : ∀ {n : Nat}, (∀ i, i < n → c i = d i) → rowX c n = rowX d n
  | 0, _ => rfl
  | n + 1, h => by rw [rowX, rowX, rowX_congr fun i hi => h i (by omega), h n (by omega)]
theorem add_at (b o j : Nat) : (Addr.mk b o none).add j = ⟨b, o + j, none⟩ := by
  unfold Addr.add
  split
  · simp
  · rfl
/-- Nodes, one behind the other, as cells. -/
theorem nodes_cells {w : World} {b o n : Nat} {c : Nat → X} (h : ∀ i, i < n → Node w b (o + i * 7) (c i)) : ∀ j u, (rowX c n)[j]? = some u → w.cell? ((Addr.mk b o none).add j) = some u := by
  intro j u hu
  have hj : j < n * 7 := by have := (List.getElem?_eq_some_iff.1 hu).1; rwa [rowX_len] at this
  have hi : j / 7 < n := by omega
  have hm : j % 7 < 7 := Nat.mod_lt _ (by omega)
  have he : j / 7 * 7 + j % 7 = j := by omega
  have := rowX_get c n (j / 7) (j % 7) hi hm
  rw [he, hu] at this
  rw [add_at]
  obtain ⟨d0, d1, d2, d3, d4, d5, d6⟩ := h (j / 7) hi
  obtain ⟨m, hm'⟩ : ∃ m, m = j % 7 := ⟨_, rfl⟩
  rw [← hm'] at this hm he
  rw [show o + j = o + j / 7 * 7 + m by omega]
  match m, hm with
  | 0, _ => simp at this; rw [this]; exact d0
  | 1, _ => simp at this; rw [this]; exact d1
  | 2, _ => simp at this; rw [this]; exact d2
  | 3, _ => simp at this; rw [this]; exact d3
  | 4, _ => simp at this; rw [this]; exact d4
  | 5, _ => simp at this; rw [this]; exact d5
  | 6, _ => simp at this; rw [this]; exact d6
/-- A block of cells that may be written. -/
def Free (w : World) (b : Nat) : Prop := ∃ cur, w.heap[b]? = some (.cells cur 40 (0, 0))
theorem Free.frozen {w : World} {b : Nat} (h : Free w b) (o : Nat) : w.frozen? ⟨b, o, none⟩ = false := by
  obtain ⟨cur, h⟩ := h
  simp [World.frozen?, h]
theorem own_free {w : World} {base n : Nat} {v : Value} {xs : List Value} (h : w.ownsRow base 40 7 v n xs) (hn : 0 < n) : ∃ g cap, v = .slice (some ⟨g, 0, none⟩) n cap ∧ base ≤ g ∧ Free w g := by
  rcases h.2 with ⟨_, e⟩ | ⟨g, cap, cur, e, hg, hc, _⟩
  · omega
  · exact ⟨g, cap, e, hg, cur, hc⟩
/-- A row that a call owns, node by node. -/
theorem own_nodes {w : World} {base n : Nat} {v : Value} {c : Nat → X} (h : w.ownsRow base 40 7 v n (rowX c n)) :
    ∃ a cap, v = .slice a n cap ∧ n ≤ cap ∧ cap ≤ maxLen ∧ (0 < n → ∃ g, a = some ⟨g, 0, none⟩ ∧ base ≤ g ∧ g < w.heap.size ∧ Free w g ∧ ∀ i, i < n → Node w g (i * 7) (c i)) := by
  rcases h.2 with ⟨rfl, rfl⟩ | ⟨g, cap, cur, rfl, hg, hc, hnc, hcm, hs, ht⟩
  · exact ⟨none, 0, rfl, Nat.le_refl _, Nat.zero_le _, fun h => by omega⟩
  · refine ⟨_, cap, rfl, hnc, hcm, fun h0 => ⟨g, rfl, hg, (Array.getElem?_eq_some_iff.1 hc).1, ⟨cur, hc⟩, fun i hi => ?_⟩⟩
    have key : ∀ j, j < 7 → w.cell? ⟨g, i * 7 + j, none⟩ = (c i).cells[j]? := by
      intro j hj
      rw [← rowX_get c n i j hi hj, ← ht, List.getElem?_take_of_lt (by omega)]
      simp only [World.cell?, hc]
      rw [Array.getElem?_toList]
      rfl
    exact ⟨key 0 (by omega), key 1 (by omega), key 2 (by omega), key 3 (by omega), key 4 (by omega), key 5 (by omega), key 6 (by omega)⟩
theorem infoX : (Try.prog.info? 40).map (fun i => (i.zero, i.size, i.bytes)) = some (some (.agg #[.int .i64 0, .int .i64 0, .int .i64 0, .string ⟨#[]⟩, .string ⟨#[]⟩, .string ⟨#[]⟩, .slice none 0 0]), 7, 96) := by kernel_rfl
/-- Some nodes more behind a row that the call owns. -/
theorem push_x {w : World} {base n : Nat} {v : Value} {xs : List Value} (h : w.ownsRow base 40 7 v n xs) (hb : base ≤ w.heap.size) (p : Addr) (m k : Nat) (c : Nat → X) (hm : ∀ i, i < m → ∃ b o, p = ⟨b, o, none⟩ ∧ Node w b (o + i * 7) (c i)) (hn : n + m ≤ 16777216) :
    ∃ v' w', (Builtin.append_ #[29, 29] 29 #[v, .slice (some p) m k]).run Try.prog w = .ok v' w' ∧ w'.ownsRow base 40 7 v' (n + m) (xs ++ rowX c m) ∧ w.grownBy w' v.ownBlock := by
  obtain ⟨i0, hi, hz0, hz1, hz2⟩ := info_parts infoX
  obtain ⟨v', w', hrun, hown', hgrow, _⟩ := run_append_own (P := Try.prog) (w := w) base 29 29 40 i0 _ 7 96 Try.underlying29 hi hz0 hz1 hz2 rfl (by decide) v n xs h p m k (rowX c m) (rowX_len c m)
    (fun j u hu => by
      have h0 : 0 < m := by
        have := (List.getElem?_eq_some_iff.1 hu).1
        rw [rowX_len] at this
        omega
      obtain ⟨b, o, rfl, _⟩ := hm 0 h0
      refine nodes_cells (fun i hi => ?_) j u hu
      obtain ⟨b', o', e, hn'⟩ := hm i hi
      cases e
      exact hn') (rowX_one c m) (by unfold maxLen; omega) (by omega) hb
  exact ⟨v', w', hrun, hown', hgrow⟩
set_option maxRecDepth 100000 in
set_option maxHeartbeats 2000000 in
theorem clone_any (a : Option Addr) (n cap : Nat) (c : Nat → X) (w : World) (h : ∀ i, i < n → ∃ b o, a = some ⟨b, o, none⟩ ∧ Node w b (o + i * 7) (c i)) (hn : n ≤ 1048576) :
    Calls Try.prog 63 #[.slice a n cap] w fun e w' => ∃ v, e = .returned v ∧ w'.ownsRow w.heap.size 40 7 v n (rowX c n) ∧ Below w.heap.size w w' := by
  cases a with
  | none =>
    obtain rfl : n = 0 := by
      by_cases h0 : 0 < n
      · obtain ⟨_, _, e, _⟩ := h 0 h0
        cases e
      · omega
    clear h
    have he : ∀ w : World, (binOp .eql 29 (.slice none 0 cap) (.slice none 0 0)).run Try.prog w = .ok (.bool true) w := fun _ => rfl
    go_enter Try.func63, Try.ntmps63
    go_wp2
    go_ret
    exact ⟨_, rfl, World.ownsRow_nil _ _ _ _, Below.refl _ _⟩
  | some x =>
    have hB0 : Below w.heap.size w (w.alloc (.cells #[] 40)) := (Below.refl _ _).alloc (Nat.le_refl _) _
    have hown0 : (w.alloc (.cells #[] 40)).ownsRow w.heap.size 40 7 (.slice (some ⟨w.heap.size, 0, none⟩) 0 0) 0 [] :=
      ⟨rfl, .inr ⟨w.heap.size, 0, #[], rfl, Nat.le_refl _, alloc_new w _, Nat.le_refl _, Nat.zero_le _, rfl, rfl⟩⟩
    obtain ⟨v1, w1, hrun1, hown1, hg1⟩ := push_x hown0 (by simp) x n cap c (fun i hi => by
      obtain ⟨b', o', e, hn'⟩ := h i hi
      cases e
      exact ⟨b', o', rfl, hn'.later hB0⟩) (by omega)
    simp only [Nat.zero_add, List.nil_append] at hown1
    have hB1 : Below w.heap.size w w1 := hB0.grown hg1 (by simp) (by intro k hk; simp [Value.ownBlock] at hk; omega)
    have HR1 : Hid (_ = _) := hrun1
    clear h hown0 hB0 hg1 hrun1
    have he : ∀ w : World, (binOp .eql 29 (.slice (some x) n cap) (.slice none 0 0)).run Try.prog w = .ok (.bool false) w := fun _ => rfl
    go_enter Try.func63, Try.ntmps63
    go_wp2_with (first | (at_builtin; refine wpList_append_run rfl (.tmp 5) (.tmp 6) 29 rfl _ _ _ rfl rfl HR1.out ?_))
    go_ret
    exact ⟨_, rfl, hown1, hB1⟩
end Go.Proofs.Ytmbinllefkifiaa
