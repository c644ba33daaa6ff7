/-
  slices.Clone of patterns: a row of nodes that a call owns.
-/
import Derived.Test.YtjclelmbpmlioaaPatWalk
import Derived.Test.YtjclelmbpmlioaaBulk
namespace Go.Proofs.Ytjclelmbpmlioaa
open Go.RowKit

/-- The cells of some nodes, one behind the other. -/
def rowP (c : Nat → Pt) : Nat → List Value
  | 0 => []
  | n + 1 => rowP c n ++ (c n).cells.toList
theorem rowP_len (c : Nat → Pt) : ∀ n, (rowP c n).length = n * 6
  | 0 => rfl
  | n + 1 => by rw [rowP, List.length_append, rowP_len c n]; simp; omega
theorem rowP_get (c : Nat → Pt) : ∀ n i j, i < n → j < 6 → (rowP c n)[i * 6 + j]? = (c i).cells[j]?
  | 0, _, _, h, _ => by omega
  | n + 1, i, j, h, hj => by
    rw [rowP]
    by_cases e : i = n
    · subst e
      rw [List.getElem?_append_right (by rw [rowP_len]; omega), rowP_len, show i * 6 + j - i * 6 = j by omega]
      simp
    · rw [List.getElem?_append_left (by rw [rowP_len]; omega)]
      exact rowP_get c n i j (by omega) hj
theorem rowP_one (c : Nat → Pt) : ∀ n, ∀ u ∈ rowP c n, u.oneCell' = true
  | 0, u, h => by simp [rowP] at h
  | n + 1, u, h => by
    rw [rowP, List.mem_append] at h
    rcases h with h | h
    · exact rowP_one c n u h
    · simp at h
      rcases h with rfl | rfl | rfl | rfl | rfl | rfl <;> rfl
theorem rowP_congr {c d : Nat → Pt} : ∀ {n : Nat}, (∀ i, i < n → c i = d i) → rowP c n = rowP d n
  | 0, _ => rfl
  | n + 1, h => by rw [rowP, rowP, rowP_congr fun i hi => h i (by omega), h n (by omega)]
/-- Nodes, one behind the other, as cells. -/
theorem nodesP_cells {w : World} {b o n : Nat} {c : Nat → Pt} (h : ∀ i, i < n → NodeP w b (o + i * 6) (c i)) : ∀ j u, (rowP c n)[j]? = some u → w.cell? ((Addr.mk b o none).add j) = some u := by
  intro j u hu
  have hj : j < n * 6 := by have := (List.getElem?_eq_some_iff.1 hu).1; rwa [rowP_len] at this
  have hi : j / 6 < n := by omega
  have hm : j % 6 < 6 := Nat.mod_lt _ (by omega)
  have he : j / 6 * 6 + j % 6 = j := by omega
  have := rowP_get c n (j / 6) (j % 6) hi hm
  rw [he, hu] at this
  rw [add_none]
  obtain ⟨d0, d1, d2, d3, d4, d5⟩ := h (j / 6) hi
  obtain ⟨m, hm'⟩ : ∃ m, m = j % 6 := ⟨_, rfl⟩
  rw [← hm'] at this hm he
  rw [show o + j = o + j / 6 * 6 + m by omega]
  match m, hm with
  | 0, _ => simp at this; rw [this]; exact d0
  | 1, _ => simp at this; rw [this]; exact d1
  | 2, _ => simp at this; rw [this]; exact d2
  | 3, _ => simp at this; rw [this]; exact d3
  | 4, _ => simp at this; rw [this]; exact d4
  | 5, _ => simp at this; rw [this]; exact d5
/-- A block of cells that may be written. -/
def FreeP (w : World) (b : Nat) : Prop := ∃ cur, w.heap[b]? = some (.cells cur 24 (0, 0))
theorem FreeP.frozen {w : World} {b : Nat} (h : FreeP w b) (o : Nat) : w.frozen? ⟨b, o, none⟩ = false := by
  obtain ⟨cur, h⟩ := h
  simp [World.frozen?, h]
theorem ownP_free {w : World} {base n : Nat} {v : Value} {xs : List Value} (h : w.ownsRow base 24 6 v n xs) (hn : 0 < n) : ∃ g cap, v = .slice (some ⟨g, 0, none⟩) n cap ∧ base ≤ g ∧ FreeP w g := by
  rcases h.2 with ⟨_, e⟩ | ⟨g, cap, cur, e, hg, hc, _⟩
  · omega
  · exact ⟨g, cap, e, hg, cur, hc⟩
/-- A row that a call owns, node by node. -/
theorem ownP_nodes {w : World} {base n : Nat} {v : Value} {c : Nat → Pt} (h : w.ownsRow base 24 6 v n (rowP c n)) :
    ∃ a cap, v = .slice a n cap ∧ n ≤ cap ∧ cap ≤ maxLen ∧ (0 < n → ∃ g, a = some ⟨g, 0, none⟩ ∧ base ≤ g ∧ g < w.heap.size ∧ FreeP w g ∧ ∀ i, i < n → NodeP w g (i * 6) (c i)) := by
  rcases h.2 with ⟨rfl, rfl⟩ | ⟨g, cap, cur, rfl, hg, hc, hnc, hcm, hs, ht⟩
  · exact ⟨none, 0, rfl, Nat.le_refl _, Nat.zero_le _, fun h => by omega⟩
  · refine ⟨_, cap, rfl, hnc, hcm, fun h0 => ⟨g, rfl, hg, (Array.getElem?_eq_some_iff.1 hc).1, ⟨cur, hc⟩, fun i hi => ?_⟩⟩
    have key : ∀ j, j < 6 → w.cell? ⟨g, i * 6 + j, none⟩ = (c i).cells[j]? := by
      intro j hj
      rw [← rowP_get c n i j hi hj, ← ht, List.getElem?_take_of_lt (by omega)]
      simp only [World.cell?, hc]
      rw [Array.getElem?_toList]
      rfl
    exact ⟨key 0 (by omega), key 1 (by omega), key 2 (by omega), key 3 (by omega), key 4 (by omega), key 5 (by omega)⟩
theorem infoP : (Try.prog.info? 24).map (fun i => (i.zero, i.size, i.bytes)) = some (some (.agg #[.int .i64 0, .string ⟨#[]⟩, .string ⟨#[]⟩, .int .i64 0, .int .i64 0, .slice none 0 0]), 6, 80) := by kernel_rfl
/-- Some nodes more behind a row that the call owns. -/
theorem push_p {w : World} {base n : Nat} {v : Value} {xs : List Value} (h : w.ownsRow base 24 6 v n xs) (hb : base ≤ w.heap.size) (p : Addr) (m k : Nat) (c : Nat → Pt) (hm : ∀ i, i < m → ∃ b o, p = ⟨b, o, none⟩ ∧ NodeP w b (o + i * 6) (c i)) (hn : n + m ≤ 1759218604390) :
    ∃ v' w', (Builtin.append_ #[22, 22] 22 #[v, .slice (some p) m k]).run Try.prog w = .ok v' w' ∧ w'.ownsRow base 24 6 v' (n + m) (xs ++ rowP c m) ∧ w.grownBy w' v.ownBlock := by
  obtain ⟨i0, hi, hz0, hz1, hz2⟩ := info_parts infoP
  obtain ⟨v', w', hrun, hown', hgrow, _⟩ := run_append_own (P := Try.prog) (w := w) base 22 22 24 i0 _ 6 80 Try.underlying22 hi hz0 hz1 hz2 rfl (by decide) v n xs h p m k (rowP c m) (rowP_len c m)
    (fun j u hu => by
      have h0 : 0 < m := by
        have := (List.getElem?_eq_some_iff.1 hu).1
        rw [rowP_len] at this
        omega
      obtain ⟨b, o, rfl, _⟩ := hm 0 h0
      refine nodesP_cells (fun i hi => ?_) j u hu
      obtain ⟨b', o', e, hn'⟩ := hm i hi
      cases e
      exact hn') (rowP_one c m) (by unfold maxLen; omega) (by omega) hb
  exact ⟨v', w', hrun, hown', hgrow⟩
set_option maxRecDepth 100000 in
set_option maxHeartbeats 2000000 in
theorem cloneP_wide (a : Option Addr) (n cap : Nat) (c : Nat → Pt) (w : World) (h : ∀ i, i < n → ∃ b o, a = some ⟨b, o, none⟩ ∧ NodeP w b (o + i * 6) (c i)) (hn : n ≤ 1759218604390) :
    Calls Try.prog 42 #[.slice a n cap] w fun e w' => ∃ v, e = .returned v ∧ w'.ownsRow w.heap.size 24 6 v n (rowP c n) ∧ Below w.heap.size w w' := by
  cases a with
  | none =>
    obtain rfl : n = 0 := by
      by_cases h0 : 0 < n
      · obtain ⟨_, _, e, _⟩ := h 0 h0
        cases e
      · omega
    clear h
    have he : ∀ w : World, (binOp .eql 22 (.slice none 0 cap) (.slice none 0 0)).run Try.prog w = .ok (.bool true) w := fun _ => rfl
    go_enter Try.func42, Try.ntmps42
    go_wp2
    go_ret
    exact ⟨_, rfl, World.ownsRow_nil _ _ _ _, Below.refl _ _⟩
  | some x =>
    have hB0 : Below w.heap.size w (w.alloc (.cells #[] 24)) := (Below.refl _ _).alloc (Nat.le_refl _) _
    have hown0 : (w.alloc (.cells #[] 24)).ownsRow w.heap.size 24 6 (.slice (some ⟨w.heap.size, 0, none⟩) 0 0) 0 [] :=
      ⟨rfl, .inr ⟨w.heap.size, 0, #[], rfl, Nat.le_refl _, alloc_new w _, Nat.le_refl _, Nat.zero_le _, rfl, rfl⟩⟩
    obtain ⟨v1, w1, hrun1, hown1, hg1⟩ := push_p hown0 (by simp) x n cap c (fun i hi => by
      obtain ⟨b', o', e, hn'⟩ := h i hi
      cases e
      exact ⟨b', o', rfl, hn'.later hB0⟩) (by omega)
    simp only [Nat.zero_add, List.nil_append] at hown1
    have hB1 : Below w.heap.size w w1 := hB0.grown hg1 (by simp) (by intro k hk; simp [Value.ownBlock] at hk; omega)
    have HR1 : Hid (_ = _) := hrun1
    clear h hown0 hB0 hg1 hrun1
    have he : ∀ w : World, (binOp .eql 22 (.slice (some x) n cap) (.slice none 0 0)).run Try.prog w = .ok (.bool false) w := fun _ => rfl
    go_enter Try.func42, Try.ntmps42
    go_wp2_with (first | (at_builtin; refine wpList_append_run rfl (.tmp 5) (.tmp 6) 22 rfl _ _ _ rfl rfl HR1.out ?_))
    go_ret
    exact ⟨_, rfl, hown1, hB1⟩
theorem cloneP_any (a : Option Addr) (n cap : Nat) (c : Nat → Pt) (w : World) (h : ∀ i, i < n → ∃ b o, a = some ⟨b, o, none⟩ ∧ NodeP w b (o + i * 6) (c i)) (hn : n ≤ 1048576) :
    Calls Try.prog 42 #[.slice a n cap] w fun e w' => ∃ v, e = .returned v ∧ w'.ownsRow w.heap.size 24 6 v n (rowP c n) ∧ Below w.heap.size w w' := cloneP_wide a n cap c w h (by omega)
end Go.Proofs.Ytjclelmbpmlioaa
