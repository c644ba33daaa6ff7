/-
  slices.Clone of schemas and of fields: rows of two cells an element that a call owns.
  typing.copied: schemas of which nobody else has the rows.
-/
import Derived.Test.YtahlmlbfgijcpaaGreatDoorCSchBook
import Derived.Maps.AppendAt
namespace Go.Proofs.YtahlmlbfgijcpaaGreatDoor
open Go.RowKit

/-- The cells of some elements of two cells, one behind the other. -/
def row2 (Nm : Nat → ByteArray) (V : Nat → Value) : Nat → List Value
  | 0 => []
  | n + 1 => row2 Nm V n ++ [.string (Nm n), V n]
theorem row2_len (Nm : Nat → ByteArray) (V : Nat → Value) : ∀ n, (row2 Nm V n).length = n * 2
  | 0 => rfl
  | n + 1 => by rw [row2, List.length_append, row2_len Nm V n]; simp; omega
theorem row2_get (Nm : Nat → ByteArray) (V : Nat → Value) : ∀ n i, i < n → (row2 Nm V n)[i * 2]? = some (.string (Nm i)) ∧ (row2 Nm V n)[i * 2 + 1]? = some (V i)
  | 0, _, h => by omega
  | n + 1, i, h => by
    rw [row2]
    by_cases e : i = n
    · subst e
      rw [List.getElem?_append_right (by rw [row2_len]; omega), row2_len, List.getElem?_append_right (by rw [row2_len]; omega), row2_len, show i * 2 - i * 2 = 0 by omega, show i * 2 + 1 - i * 2 = 1 by omega]
      exact ⟨rfl, rfl⟩
    · rw [List.getElem?_append_left (by rw [row2_len]; omega), List.getElem?_append_left (by rw [row2_len]; omega)]
      exact row2_get Nm V n i (by omega)
theorem row2_one (Nm : Nat → ByteArray) (V : Nat → Value) : ∀ n, (∀ j, j < n → (V j).oneCell' = true) → ∀ u ∈ row2 Nm V n, u.oneCell' = true
  | 0, _, u, h => by simp [row2] at h
  | n + 1, hV, u, h => by
    rw [row2, List.mem_append] at h
    rcases h with h | h
    · exact row2_one Nm V n (fun j hj => hV j (by omega)) u h
    · simp at h
      rcases h with rfl | rfl
      · rfl
      · exact hV n (by omega)
theorem add_two (b o j : Nat) : (Addr.mk b o none).add j = ⟨b, o + j, none⟩ := by
  unfold Addr.add
  split
  · simp
  · rfl
theorem row2_cells {w : World} {b o n : Nat} {Nm : Nat → ByteArray} {V : Nat → Value} (h : ∀ i, i < n → w.cell? ⟨b, o + i * 2, none⟩ = some (.string (Nm i)) ∧ w.cell? ⟨b, o + i * 2 + 1, none⟩ = some (V i)) : ∀ j u, (row2 Nm V n)[j]? = some u → w.cell? ((Addr.mk b o none).add j) = some u := by
  intro j u hu
  have hj : j < n * 2 := by have := (List.getElem?_eq_some_iff.1 hu).1; rwa [row2_len] at this
  have hi : j / 2 < n := by omega
  obtain ⟨g0, g1⟩ := row2_get Nm V n (j / 2) hi
  obtain ⟨c0, c1⟩ := h (j / 2) hi
  rw [add_two]
  rcases Nat.mod_two_eq_zero_or_one j with e | e
  · rw [show j / 2 * 2 = j by omega] at g0 c0
    rw [hu] at g0
    cases g0
    exact c0
  · rw [show j / 2 * 2 + 1 = j by omega] at g1
    rw [hu] at g1
    cases g1
    rw [show o + j = o + j / 2 * 2 + 1 by omega]
    exact c1
theorem infoS2 : (Tryz.prog.info? 58).map (fun i => (i.zero, i.size, i.bytes)) = some (some (.agg #[.string ⟨#[]⟩, .slice none 0 0]), 2, 40) := by kernel_rfl
set_option maxRecDepth 100000 in
set_option maxHeartbeats 2000000 in
theorem cloneS_any (a : Option Addr) (n cap : Nat) (Nm : Nat → ByteArray) (V : Nat → Value) (w : World) (h : Row2 w a n Nm V) (hV : ∀ j, j < n → (V j).oneCell' = true) (hn : n ≤ 1048576) :
    Calls Tryz.prog 29 #[.slice a n cap] w fun e w' => ∃ v, e = .returned v ∧ w'.ownsRow w.heap.size 58 2 v n (row2 Nm V n) ∧ Below w.heap.size w w' := by
  cases a with
  | none =>
    obtain rfl : n = 0 := by
      by_cases h0 : 0 < n
      · obtain ⟨_, _, e, _⟩ := h h0
        cases e
      · omega
    clear h hV
    have he : ∀ w : World, (binOp .eql 22 (.slice none 0 cap) (.slice none 0 0)).run Tryz.prog w = .ok (.bool true) w := fun _ => rfl
    go_enter Tryz.func29, Tryz.ntmps29
    go_wp2
    go_ret
    exact ⟨_, rfl, World.ownsRow_nil _ _ _ _, Below.refl _ _⟩
  | some x =>
    have hB0 : Below w.heap.size w (w.alloc (.cells #[] 58)) := (Below.refl _ _).alloc (Nat.le_refl _) _
    have hown0 : (w.alloc (.cells #[] 58)).ownsRow w.heap.size 58 2 (.slice (some ⟨w.heap.size, 0, none⟩) 0 0) 0 [] :=
      ⟨rfl, .inr ⟨w.heap.size, 0, #[], rfl, Nat.le_refl _, heap_alloc_new w _, Nat.le_refl _, Nat.zero_le _, rfl, rfl⟩⟩
    obtain ⟨i0, hi, hz0, hz1, hz2⟩ := info_parts infoS2
    obtain ⟨v1, w1, hrun1, hown1, hg1, _⟩ := run_append_own (P := Tryz.prog) (w := w.alloc (.cells #[] 58)) w.heap.size 22 22 58 i0 _ 2 40 Tryz.underlying22 hi hz0 hz1 hz2 rfl (by decide) _ 0 [] hown0 x n cap (row2 Nm V n) (row2_len Nm V n)
      (fun j u hu => by
        have h0 : 0 < n := by
          have := (List.getElem?_eq_some_iff.1 hu).1
          rw [row2_len] at this
          omega
        obtain ⟨b, o, e, hc⟩ := h h0
        cases e
        exact row2_cells (fun i hi => ⟨cell_later (hc i hi).1.1 hB0, cell_later (hc i hi).1.2 hB0⟩) j u hu) (row2_one Nm V n hV) (by unfold maxLen; omega) (by omega) (by simp)
    simp only [Nat.zero_add, List.nil_append] at hown1
    have hB1 : Below w.heap.size w w1 := hB0.grown hg1 (by simp) (by intro k hk; simp [Value.ownBlock] at hk; omega)
    have HR1 : Hid (_ = _) := hrun1
    clear h hV hown0 hB0 hg1 hrun1
    have he : ∀ w : World, (binOp .eql 22 (.slice (some x) n cap) (.slice none 0 0)).run Tryz.prog w = .ok (.bool false) w := fun _ => rfl
    go_enter Tryz.func29, Tryz.ntmps29
    go_wp2_with (first | (at_builtin; refine wpList_append_run rfl (.tmp 5) (.tmp 6) 22 rfl _ _ _ rfl rfl HR1.out ?_))
    go_ret
    exact ⟨_, rfl, hown1, hB1⟩
theorem infoF2 : (Tryz.prog.info? 74).map (fun i => (i.zero, i.size, i.bytes)) = some (some (.agg #[.string ⟨#[]⟩, .int .i64 0]), 2, 24) := by kernel_rfl
set_option maxRecDepth 100000 in
set_option maxHeartbeats 2000000 in
theorem cloneF_any (a : Option Addr) (n cap : Nat) (Nm : Nat → ByteArray) (V : Nat → Value) (w : World) (h : Row2 w a n Nm V) (hV : ∀ j, j < n → (V j).oneCell' = true) (hn : n ≤ 1048576) :
    Calls Tryz.prog 30 #[.slice a n cap] w fun e w' => ∃ v, e = .returned v ∧ w'.ownsRow w.heap.size 74 2 v n (row2 Nm V n) ∧ Below w.heap.size w w' := by
  cases a with
  | none =>
    obtain rfl : n = 0 := by
      by_cases h0 : 0 < n
      · obtain ⟨_, _, e, _⟩ := h h0
        cases e
      · omega
    clear h hV
    have he : ∀ w : World, (binOp .eql 56 (.slice none 0 cap) (.slice none 0 0)).run Tryz.prog w = .ok (.bool true) w := fun _ => rfl
    go_enter Tryz.func30, Tryz.ntmps30
    go_wp2
    go_ret
    exact ⟨_, rfl, World.ownsRow_nil _ _ _ _, Below.refl _ _⟩
  | some x =>
    have hB0 : Below w.heap.size w (w.alloc (.cells #[] 74)) := (Below.refl _ _).alloc (Nat.le_refl _) _
    have hown0 : (w.alloc (.cells #[] 74)).ownsRow w.heap.size 74 2 (.slice (some ⟨w.heap.size, 0, none⟩) 0 0) 0 [] :=
      ⟨rfl, .inr ⟨w.heap.size, 0, #[], rfl, Nat.le_refl _, heap_alloc_new w _, Nat.le_refl _, Nat.zero_le _, rfl, rfl⟩⟩
    obtain ⟨i0, hi, hz0, hz1, hz2⟩ := info_parts infoF2
    obtain ⟨v1, w1, hrun1, hown1, hg1, _⟩ := run_append_own (P := Tryz.prog) (w := w.alloc (.cells #[] 74)) w.heap.size 56 56 74 i0 _ 2 24 Tryz.underlying56 hi hz0 hz1 hz2 rfl (by decide) _ 0 [] hown0 x n cap (row2 Nm V n) (row2_len Nm V n)
      (fun j u hu => by
        have h0 : 0 < n := by
          have := (List.getElem?_eq_some_iff.1 hu).1
          rw [row2_len] at this
          omega
        obtain ⟨b, o, e, hc⟩ := h h0
        cases e
        exact row2_cells (fun i hi => ⟨cell_later (hc i hi).1.1 hB0, cell_later (hc i hi).1.2 hB0⟩) j u hu) (row2_one Nm V n hV) (by unfold maxLen; omega) (by omega) (by simp)
    simp only [Nat.zero_add, List.nil_append] at hown1
    have hB1 : Below w.heap.size w w1 := hB0.grown hg1 (by simp) (by intro k hk; simp [Value.ownBlock] at hk; omega)
    have HR1 : Hid (_ = _) := hrun1
    clear h hV hown0 hB0 hg1 hrun1
    have he : ∀ w : World, (binOp .eql 56 (.slice (some x) n cap) (.slice none 0 0)).run Tryz.prog w = .ok (.bool false) w := fun _ => rfl
    go_enter Tryz.func30, Tryz.ntmps30
    go_wp2_with (first | (at_builtin; refine wpList_append_run rfl (.tmp 5) (.tmp 6) 56 rfl _ _ _ rfl rfl HR1.out ?_))
    go_ret
    exact ⟨_, rfl, hown1, hB1⟩
end Go.Proofs.YtahlmlbfgijcpaaGreatDoor
namespace Go.Proofs.YtahlmlbfgijcpaaGreatDoor
open Go.RowKit

/-- The same schema, but for where its fields lie. -/
def SameS (x y : Sch) : Prop := y.nm = x.nm ∧ y.l = x.l ∧ y.fn = x.fn ∧ y.fk = x.fk
theorem SameS.refl (x : Sch) : SameS x x := ⟨rfl, rfl, rfl, rfl⟩
/-- A block of schemas that may be written, and fields that lie elsewhere. -/
structure Own2 (w : World) (g n : Nat) (Q : Nat → Sch) : Prop where
  free : ∃ cur, w.heap[g]? = some (.cells cur 58 (0, 0))
  cells : ∀ j, j < n → w.cell? ⟨g, j * 2, none⟩ = some (.string (Q j).nm) ∧ w.cell? ⟨g, j * 2 + 1, none⟩ = some (Q j).v ∧ (Q j).nm.size ≤ maxLen
  flds : ∀ j, j < n → Flds w (Q j).a (Q j).l (Q j).fn (Q j).fk ∧ (0 < (Q j).l → ∀ b o, (Q j).a = some ⟨b, o, none⟩ → b ≠ g) ∧ (Q j).l ≤ 16
theorem Own2.later {w w' : World} {g n : Nat} {Q : Nat → Sch} (h : Own2 w g n Q) (hB : Below w.heap.size w w') : Own2 w' g n Q := by
  obtain ⟨cur, hc⟩ := h.free
  exact ⟨⟨cur, (hB.block _ (Array.getElem?_eq_some_iff.1 hc).1).trans hc⟩, fun j hj => ⟨cell_later (h.cells j hj).1 hB, cell_later (h.cells j hj).2.1 hB, (h.cells j hj).2.2⟩, fun j hj => ⟨(h.flds j hj).1.later hB, (h.flds j hj).2⟩⟩
theorem Own2.frozen {w : World} {g n : Nat} {Q : Nat → Sch} (h : Own2 w g n Q) (o : Nat) : w.frozen? ⟨g, o, none⟩ = false := by
  obtain ⟨cur, hc⟩ := h.free
  simp [World.frozen?, hc]
theorem Own2.schs {w : World} {g n : Nat} {Q : Nat → Sch} (h : Own2 w g n Q) : Schs w (some ⟨g, 0, none⟩) n Q := by
  refine ⟨fun _ => ⟨g, 0, rfl, fun j hj => ?_⟩, fun j hj => ⟨(h.flds j hj).1, by have := (h.flds j hj).2.2; omega⟩⟩
  simp only [Nat.zero_add]
  exact ⟨⟨(h.cells j hj).1, (h.cells j hj).2.1⟩, (h.cells j hj).2.2⟩
/-- One schema's fields are laid elsewhere. -/
theorem Own2.set {w : World} {g n k : Nat} {Q : Nat → Sch} (h : Own2 w g n Q) (hk : k < n) {a : Option Addr} {c : Nat} (hF : Flds w a (Q k).l (Q k).fn (Q k).fk) (ha : 0 < (Q k).l → ∀ b o, a = some ⟨b, o, none⟩ → b ≠ g) :
    Own2 (w.setCell ⟨g, k * 2 + 1, none⟩ (.slice a (Q k).l c)) g n (fun j => if j = k then { Q k with a := a, c := c } else Q j) := by
  obtain ⟨cur, hc⟩ := h.free
  have hlt : g < w.heap.size := (Array.getElem?_eq_some_iff.1 hc).1
  have hcell : ∀ (p : Addr), p ≠ ⟨g, k * 2 + 1, none⟩ → ∀ v, w.cell? p = some v → (w.setCell ⟨g, k * 2 + 1, none⟩ (.slice a (Q k).l c)).cell? p = some v := fun p hp v hv => by
    rw [World.cell?_setCell_other _ _ _ _ (fun e => hp e.symm)]; exact hv
  have hat : (w.setCell ⟨g, k * 2 + 1, none⟩ (.slice a (Q k).l c)).cell? ⟨g, k * 2 + 1, none⟩ = some (.slice a (Q k).l c) := World.cell?_setCell_same _ _ _ (h.cells k hk).2.1
  have hfl : ∀ {a' : Option Addr} {l : Nat} {fn : Nat → ByteArray} {fk : Nat → Int}, Flds w a' l fn fk → (0 < l → ∀ b o, a' = some ⟨b, o, none⟩ → b ≠ g) → Flds (w.setCell ⟨g, k * 2 + 1, none⟩ (.slice a (Q k).l c)) a' l fn fk := fun hf hb h0 => by
    obtain ⟨b, o, e, hcs⟩ := hf h0
    have hne := hb h0 b o e
    refine ⟨b, o, e, fun j hj => ⟨⟨hcell _ (fun e => hne (by injection e)) _ (hcs j hj).1.1, hcell _ (fun e => hne (by injection e)) _ (hcs j hj).1.2⟩, (hcs j hj).2⟩⟩
  refine ⟨?_, fun j hj => ?_, fun j hj => ?_⟩
  · exact ⟨cur.setIfInBounds (k * 2 + 1) (.slice a (Q k).l c), by simp [World.setCell, Array.getElem?_modify, hc]⟩
  · by_cases e : j = k
    · subst e
      simp only [if_pos]
      exact ⟨hcell _ (fun e => by injection e; omega) _ (h.cells j hj).1, hat, (h.cells j hj).2.2⟩
    · simp only [if_neg e]
      exact ⟨hcell _ (fun e => by injection e; omega) _ (h.cells j hj).1, hcell _ (fun e => by injection e; omega) _ (h.cells j hj).2.1, (h.cells j hj).2.2⟩
  · by_cases e : j = k
    · subst e
      simp only [if_pos]
      exact ⟨hfl hF ha, ha, (h.flds j hj).2.2⟩
    · simp only [if_neg e]
      exact ⟨hfl (h.flds j hj).1 (h.flds j hj).2.1, (h.flds j hj).2⟩
theorem own_row2 {w : World} {base n : Nat} {v : Value} {T : TypeId} {Nm : Nat → ByteArray} {V : Nat → Value} (h : w.ownsRow base T 2 v n (row2 Nm V n)) :
    ∃ a cap, v = .slice a n cap ∧ (0 < n → ∃ g, a = some ⟨g, 0, none⟩ ∧ base ≤ g ∧ (∃ cur, w.heap[g]? = some (.cells cur T (0, 0))) ∧ ∀ i, i < n → w.cell? ⟨g, i * 2, none⟩ = some (.string (Nm i)) ∧ w.cell? ⟨g, i * 2 + 1, none⟩ = some (V i)) := by
  rcases h.2 with ⟨rfl, rfl⟩ | ⟨g, cap, cur, rfl, hg, hc, hnc, hcm, hs, ht⟩
  · exact ⟨none, 0, rfl, fun h => by omega⟩
  · refine ⟨_, cap, rfl, fun h0 => ⟨g, rfl, hg, ⟨cur, hc⟩, fun i hi => ?_⟩⟩
    have key : ∀ j, j < n * 2 → w.cell? ⟨g, j, none⟩ = (row2 Nm V n)[j]? := by
      intro j hj
      rw [← ht, List.getElem?_take_of_lt (by omega)]
      simp only [World.cell?, hc]
      rw [Array.getElem?_toList]
      rfl
    rw [key _ (by omega), key _ (by omega)]
    exact row2_get Nm V n i hi
theorem cloneFlds (w : World) (x : Sch) (hF : Flds w x.a x.l x.fn x.fk) (hl : x.l ≤ 16) : Calls Tryz.prog 30 #[x.v] w fun e w' => ∃ a cap, e = .returned (.slice a x.l cap) ∧ Flds w' a x.l x.fn x.fk ∧ (0 < x.l → ∀ b o, a = some ⟨b, o, none⟩ → w.heap.size ≤ b) ∧ Below w.heap.size w w' := by
  refine (cloneF_any x.a x.l x.c x.fn _ w hF (fun _ _ => rfl) (by omega)).mono ?_
  rintro e w' ⟨v, rfl, ho, hB⟩
  obtain ⟨a, cap, rfl, hg⟩ := own_row2 ho
  refine ⟨a, cap, rfl, fun h0 => ?_, fun h0 b o e => ?_, hB⟩
  · obtain ⟨g, e, hg1, _, hc⟩ := hg h0
    obtain ⟨b, o, _, hs⟩ := hF h0
    exact ⟨g, 0, e, fun j hj => ⟨by simp only [Nat.zero_add]; exact hc j hj, (hs j hj).2⟩⟩
  · obtain ⟨g, e', hg1, _, hc⟩ := hg h0
    rw [e] at e'
    cases e'
    exact hg1
theorem cloneSchs (w : World) (a : Option Addr) (n cap : Nat) (Q : Nat → Sch) (H : Schs w a n Q) (hn : n ≤ 16) (hl : ∀ j, j < n → (Q j).l ≤ 16) : Calls Tryz.prog 29 #[.slice a n cap] w fun e w' => ∃ a1 cap1, e = .returned (.slice a1 n cap1) ∧ (0 < n → ∃ g, a1 = some ⟨g, 0, none⟩ ∧ w.heap.size ≤ g ∧ Own2 w' g n Q) ∧ Below w.heap.size w w' := by
  refine (cloneS_any a n cap _ _ w H.1 (fun _ _ => rfl) (by omega)).mono ?_
  rintro e w' ⟨v, rfl, ho, hB⟩
  obtain ⟨a1, cap1, rfl, hg⟩ := own_row2 ho
  refine ⟨a1, cap1, rfl, fun h0 => ?_, hB⟩
  obtain ⟨g, e, hg1, hfr, hc⟩ := hg h0
  obtain ⟨b, o, _, hs⟩ := H.1 h0
  refine ⟨g, e, hg1, hfr, fun j hj => ⟨(hc j hj).1, (hc j hj).2, (hs j hj).2⟩, fun j hj => ⟨(H.2 j hj).1.later hB, fun h1 b o e => ?_, hl j hj⟩⟩
  obtain ⟨b', o', e', hs'⟩ := (H.2 j hj).1 h1
  rw [e] at e'
  cases e'
  have := World.block_lt_of_cell? w _ (hs' 0 h1).1.1
  simp at this
  omega
set_option maxRecDepth 100000 in
set_option maxHeartbeats 4000000 in
theorem copiedS_any (a : Option Addr) (n cap : Nat) (Q : Nat → Sch) (w : World) (H : Schs w a n Q) (hn : n ≤ 16) (hl : ∀ j, j < n → (Q j).l ≤ 16) :
    Calls Tryz.prog 14 #[.slice a n cap] w fun e w' => ∃ a1 cap1 Q1, e = .returned (.slice a1 n cap1) ∧ Schs w' a1 n Q1 ∧ (∀ j, j < n → SameS (Q j) (Q1 j)) ∧ Below w.heap.size w w' := by
  have C1 : Hid (Calls Tryz.prog 29 _ w _) := cloneSchs w a n cap Q H hn hl
  clear H hl
  go_enter Tryz.func14, Tryz.ntmps14
  go_wp2_with (first | (go_at_call 29; refine C1.out.mono ?_; rintro e w1 ⟨a1, cap1, rfl, hO, hB1⟩))
  have HO : Hid (0 < n → _) := hO
  clear hO C1
  go_loopw [8] (fun v wr => ∃ k : Nat, k ≤ n ∧ v = .int .i64 k ∧ Hid (0 < n → ∃ g Q1, a1 = some ⟨g, 0, none⟩ ∧ w.heap.size ≤ g ∧ Own2 wr g n Q1 ∧ ∀ j, j < n → SameS (Q j) (Q1 j)) ∧ Below w.heap.size w wr) (fun v _ => n - (intOf v).toNat)
  case atStart => exact ⟨0, Nat.zero_le _, rfl, fun h0 => by obtain ⟨g, e, hg, ho⟩ := HO.out h0; exact ⟨g, Q, e, hg, ho, fun j _ => SameS.refl _⟩, hB1⟩
  case round =>
    obtain ⟨k, hk, rfl, HI, hB⟩ := hrel
    by_cases hkn : k < n
    · obtain ⟨g, Q1, rfl, hg, ho, hsm⟩ := HI.out (by omega)
      have c0 := (ho.cells k hkn).2.1
      have C2 : Hid (Calls Tryz.prog 30 #[(Q1 k).v] wr _) := cloneFlds wr (Q1 k) (ho.flds k hkn).1 (ho.flds k hkn).2.2
      have HW : Hid (Own2 wr g n Q1) := ho
      have HS : Hid (∀ j, j < n → SameS (Q j) (Q1 j)) := hsm
      have HG : Hid (w.heap.size ≤ g) := hg
      have hglt : g < wr.heap.size := World.block_lt_of_cell? wr _ c0
      have HGL : Hid (g < wr.heap.size) := hglt
      clear ho hsm hg HI HO hglt
      go_wp2_with (first | (go_at_call 30; refine C2.out.mono ?_; rintro e w2 ⟨a2, cap2, rfl, hF2, hb2, hB2⟩; have c2 := ((HW.out.later hB2).cells k hkn).2.1; have f2 := (HW.out.later hB2).frozen (k * 2 + 1); have HF2 : Hid (Flds w2 a2 (Q1 k).l (Q1 k).fn (Q1 k).fk) := hF2; have HB2 : Hid (0 < (Q1 k).l → _) := hb2; clear hF2 hb2))
      refine ⟨⟨k + 1, hkn, by simp, fun _ => ⟨g, _, rfl, HG.out, (HW.out.later hB2).set hkn HF2.out (fun h0 b o e => by have := HB2.out h0 b o e; have := HGL.out; omega), fun j hj => ?_⟩, (hB.trans (hB2.mono hB.size)).setCell (p := ⟨g, k * 2 + 1, none⟩) HG.out _⟩, ?_⟩
      · by_cases e : j = k
        · subst e
          simp only [if_pos]
          exact HS.out j hj
        · simp only [if_neg e]
          exact HS.out j hj
      · simp [intOf]
        omega
    · obtain rfl : k = n := by omega
      go_wp2
      go_ret
      by_cases h0 : 0 < k
      · obtain ⟨g, Q1, rfl, hg, ho, hsm⟩ := HI.out h0
        exact ⟨_, _, Q1, rfl, ho.schs, hsm, hB⟩
      · exact ⟨_, _, Q, rfl, ⟨fun h => absurd h h0, fun j hj => by omega⟩, fun j hj => by omega, hB⟩
end Go.Proofs.YtahlmlbfgijcpaaGreatDoor
