/-
  What dict.Add answers, and what of memory it turns.
-/
import Derived.Test.YtjnkplmcopihbaaDcBase
import Derived.Test.YtjnkplmcopihbaaDcClone
namespace Go.Proofs.Ytjnkplmcopihbaa
open Go.RowKit Go.Maps Go.WideMaps

/-- Of what was there nothing turns but blocks p, M and r. -/
structure Tch (p M : Nat) (r : Option Nat) (w w' : World) : Prop where
  os : w'.os = w.os
  tape : w'.tape = w.tape
  output : w'.output = w.output
  size : w.heap.size ≤ w'.heap.size
  block : ∀ k, k < w.heap.size → k ≠ p → k ≠ M → some k ≠ r → w'.heap[k]? = w.heap[k]?
theorem Tch.of {p M : Nat} {r : Option Nat} {w w' : World} (b : Below w.heap.size w w') : Tch p M r w w' := ⟨b.os, b.tape, b.output, b.size, fun k hk _ _ _ => b.block k hk⟩
theorem Tch.below {p M B : Nat} {r : Option Nat} {w w' : World} (t : Tch p M r w w') (hB : B ≤ w.heap.size) (hp : B ≤ p) (hM : B ≤ M) (hr : ∀ k, r = some k → B ≤ k) : Below B w w' :=
  ⟨t.os, t.tape, t.output, t.size, fun k hk => t.block k (by omega) (by omega) (by omega) (fun e => by have := hr k e.symm; omega)⟩
/-- One text more behind a row that the call owns, and where it lies. -/
theorem push_own {w : World} {base n : Nat} {v : Value} {l : List ByteArray} (h : w.ownsRow base 9 1 v n (cellsS l)) (hb : base ≤ w.heap.size) (hn : n ≤ 2097152) (s : ByteArray) :
    ∃ v' w', (Builtin.append_ #[22, 22] 22 #[v, .slice (some ⟨w.heap.size, 0, none⟩) 1 1]).run Try.prog (w.alloc (.cells #[.string s] 9)) = .ok v' w' ∧ w'.ownsRow base 9 1 v' (n + 1) (cellsS (l ++ [s])) ∧ (w.alloc (.cells #[.string s] 9)).grownBy w' v.ownBlock ∧ Moved w v v' := by
  obtain ⟨i0, hi, hz0, hz1, hz2⟩ := info_parts infoS
  obtain ⟨v', w', hrun, hown', hgrow, _, hblk⟩ := run_append_own_at (P := Try.prog) (w := w.alloc (.cells #[.string s] 9)) base 22 22 9 i0 (.string ⟨#[]⟩) 1 16 Try.underlying22 hi hz0 hz1 hz2 rfl (by decide) v _ _ (h.alloc _) ⟨w.heap.size, 0, none⟩ 1 1 [.string s] rfl
    (cell_one_new w (.string s) 9) (by simp [Value.oneCell']) (by unfold maxLen; omega) (by omega) (by simp; omega)
  have e : cellsS (l ++ [s]) = cellsS l ++ [.string s] := by simp [cellsS]
  rw [e]
  refine ⟨v', w', hrun, hown', hgrow, ?_⟩
  rcases hblk with q | q
  · exact .inl q
  · refine .inr fun k hk => ?_
    rw [q] at hk
    injection hk with hk
    rw [← hk]
    simp
/-- A call of Add. -/
def Added (w : World) (B p M : Nat) (most : Int) (v : Value) (L : List ByteArray) (s : ByteArray) (e : Ending) (w' : World) : Prop :=
  ∃ v', e = .returned (.tuple #[.int .i64 (addZ most L s).1, .int .i64 (addZ most L s).2.1]) ∧ Dc w' B p M most v' (addZ most L s).2.2 ∧ Tch p M v.ownBlock w w' ∧ Moved w v v'
set_option maxRecDepth 100000 in
set_option maxHeartbeats 1000000 in
theorem addD_found {w : World} {B p M : Nat} {most : Int} {v : Value} {L : List ByteArray} (H : Dc w B p M most v L) (s : ByteArray) (hs : s.size ≤ maxLen) (j : Nat) (hj : numL L s = some j) :
    Calls Try.prog 9 #[.pointer (some ⟨p, 0, none⟩), .string s] w fun e w' => e = .returned (.tuple #[.int .i64 j, .int .i64 0]) ∧ w' = w := by
  have C1 : Hid (Calls Try.prog 25 _ _ _) := madeD_some p M w H.cell1
  have c := findD_any H s hs
  rw [hj, dnumZ, hj] at c
  have C2 : Hid (Calls Try.prog 13 _ _ _) := c
  clear H c hj
  go_enter Try.func9, Try.ntmps9
  go_wp2_with (first
    | (go_at_call 25; refine C1.out.mono ?_; rintro e w1 ⟨rfl, hw1⟩; replace hw1 := hw1.symm; subst hw1)
    | (go_at_call 13; refine C2.out.mono ?_; rintro e w2 ⟨rfl, hw2⟩; replace hw2 := hw2.symm; subst hw2))
  go_ret2
  exact ⟨rfl, rfl⟩
set_option maxRecDepth 100000 in
set_option maxHeartbeats 1000000 in
theorem addD_long {w : World} {B p M : Nat} {most : Int} {v : Value} {L : List ByteArray} (H : Dc w B p M most v L) (s : ByteArray) (hs : s.size ≤ maxLen) (hn : numL L s = none) (hc : 256 < s.size ∨ (L.length : Int) = most) :
    Calls Try.prog 9 #[.pointer (some ⟨p, 0, none⟩), .string s] w fun e w' => e = .returned (.tuple #[.int .i64 0, .int .i64 2]) ∧ Below w.heap.size w w' := by
  have C1 : Hid (Calls Try.prog 25 _ _ _) := madeD_some p M w H.cell1
  have c := findD_any H s hs
  rw [hn, dnumZ, hn] at c
  have C2 : Hid (Calls Try.prog 13 _ _ _) := c
  have C3 : Hid (Calls Try.prog 15 _ _ _) := lenD_any H
  have HD : Hid (Dc w B p M most v L) := H
  clear H c hn
  by_cases hz : 256 < (s.size : Int)
  · clear hc
    go_enter Try.func9, Try.ntmps9
    go_wp2_with (first
      | (go_at_call 25; refine C1.out.mono ?_; rintro e w1 ⟨rfl, hw1⟩; replace hw1 := hw1.symm; subst hw1)
      | (go_at_call 13; refine C2.out.mono ?_; rintro e w2 ⟨rfl, hw2⟩; replace hw2 := hw2.symm; subst hw2)
      | (go_at_call 15; refine C3.out.mono ?_; rintro e w3 ⟨rfl, hB⟩; have c0 := (HD.out.later hB).cell0))
    go_ret2
    exact ⟨rfl, hB⟩
  · obtain rfl : (L.length : Int) = most := by omega
    clear hc
    go_enter Try.func9, Try.ntmps9
    go_wp2_with (first
      | (go_at_call 25; refine C1.out.mono ?_; rintro e w1 ⟨rfl, hw1⟩; replace hw1 := hw1.symm; subst hw1)
      | (go_at_call 13; refine C2.out.mono ?_; rintro e w2 ⟨rfl, hw2⟩; replace hw2 := hw2.symm; subst hw2)
      | (go_at_call 15; refine C3.out.mono ?_; rintro e w3 ⟨rfl, hB⟩; have c0 := (HD.out.later hB).cell0))
    go_ret2
    exact ⟨rfl, hB⟩
/-- A block of cells is none of a map's. -/
theorem map_ne {w : World} {M k n : Nat} {D : DataW Unit} {c : Array Value} {t : TypeId} {f : Nat × Nat} (h : w.ownsMap Try.prog 9 (plainElem (H := Unit) Try.prog 3) M n D) (hk : w.heap[k]? = some (.cells c t f)) : k ≠ M := by
  obtain ⟨es, clock, e1, _⟩ := h
  intro e
  subst e
  rw [e1] at hk
  cases hk
theorem own_map_ne {w : World} {M B n q : Nat} {D : DataW Unit} {v : Value} {xs : List Value} (h : w.ownsMap Try.prog 9 (plainElem (H := Unit) Try.prog 3) M n D) (ho : w.ownsRow B 9 1 v q xs) : v.ownBlock ≠ some M := by
  intro hv
  rcases ho.2 with ⟨rfl, _⟩ | ⟨g, cap, cur, rfl, _, hg, _⟩
  · simp [Value.ownBlock] at hv
  · simp [Value.ownBlock] at hv
    exact map_ne h hg hv
/-- The row of texts is not the block of a dictionary. -/
theorem own_top_ne {w : World} {B q k : Nat} {v : Value} {xs : List Value} {c : Array Value} {t : TypeId} {f : Nat × Nat} (ho : w.ownsRow B 9 1 v q xs) (hk : w.heap[k]? = some (.cells c t f)) (ht : t ≠ 9) : v.ownBlock ≠ some k := by
  intro hv
  rcases ho.2 with ⟨rfl, _⟩ | ⟨g, cap, cur, rfl, _, hg, _⟩
  · simp [Value.ownBlock] at hv
  · simp [Value.ownBlock] at hv
    subst hv
    rw [hg] at hk
    simp at hk
    exact ht hk.2.1.symm
theorem Dc.own_grown {w w' : World} {B p M : Nat} {most : Int} {v : Value} {L : List ByteArray} (H : Dc w B p M most v L) (g : w.grownBy w' (some M)) : w'.ownsRow B 9 1 v L.length (cellsS L) := by
  obtain ⟨D, hown, _⟩ := H.nums
  have hne := own_map_ne hown H.own
  exact own_keptS H.own fun k hk => g.block k (H.own.lt k hk).2 fun e => hne (hk.trans e)
theorem Dc.top_grown {w w' : World} {B p M : Nat} {most : Int} {v : Value} {L : List ByteArray} (H : Dc w B p M most v L) (g : w.grownBy w' (some M)) : w'.heap[p]? = some (.cells #[.int .i64 most, .map (some M), v] 65 (0, 0)) := by
  obtain ⟨D, hown, _⟩ := H.nums
  rw [g.block p H.lt (fun e => map_ne hown H.top (by injection e))]
  exact H.top
theorem Dc.cell2_grown {w w' : World} {B p M : Nat} {most : Int} {v : Value} {L : List ByteArray} (H : Dc w B p M most v L) (g : w.grownBy w' (some M)) : w'.cell? ⟨p, 2, none⟩ = some v := by simp [World.cell?, H.top_grown g]
set_option maxRecDepth 100000 in
set_option maxHeartbeats 2000000 in
theorem addD_new {w : World} {B p M : Nat} {most : Int} {v : Value} {L : List ByteArray} (H : Dc w B p M most v L) (hB0 : B ≤ w.heap.size) (s : ByteArray) (hz : s.size ≤ 256) (hn : numL L s = none) (hc : (L.length : Int) ≠ most) :
    Calls Try.prog 9 #[.pointer (some ⟨p, 0, none⟩), .string s] w fun e w' =>
      e = .returned (.tuple #[.int .i64 (L.length : Int), .int .i64 0]) ∧ ∃ v', Dc w' B p M most v' (L ++ [s]) ∧ Tch p M v.ownBlock w w' ∧ Moved w v v' := by
  have hs : s.size ≤ maxLen := by unfold maxLen; omega
  have C1 : Hid (Calls Try.prog 25 _ _ _) := madeD_some p M w H.cell1
  have c := findD_any H s hs
  rw [hn, dnumZ, hn] at c
  have C2 : Hid (Calls Try.prog 13 _ _ _) := c
  have C3 : Hid (Calls Try.prog 15 _ _ _) := lenD_any H
  have HD : Hid (Dc w B p M most v L) := H
  have hz1 : ¬ 256 < (s.size : Int) := by omega
  have hc1 : ((L.length : Int) == most) = false := by simpa using hc
  have hL : L.length ≤ 4096 := by have := H.txt.fit; have := H.txt.m1; omega
  have HN : Hid (numL L s = none) := hn
  have hkey : keyOf Try.prog 9 (.string s) = some (keyS s) := keyOf_string_mk Try.underlying9 hs
  clear H c hn
  go_enter Try.func9, Try.ntmps9
  go_wp2_with (first
    | (go_at_call 25; refine C1.out.mono ?_; rintro e w1 ⟨rfl, hw1⟩; replace hw1 := hw1.symm; subst hw1)
    | (go_at_call 13; refine C2.out.mono ?_; rintro e w2 ⟨rfl, hw2⟩; replace hw2 := hw2.symm; subst hw2)
    | (go_at_call 15; refine C3.out.mono ?_; rintro e w3 ⟨rfl, hB⟩; have c0 := (HD.out.later hB).cell0)
    | (go_at_call 26
       refine (cloneD_any s _ (by omega)).mono ?_
       rintro e w4 ⟨rfl, hB4⟩
       have HB4 : Hid (Below w.heap.size w w4) := hB.trans (hB4.mono hB.size)
       have HD4 : Hid (Dc w4 B p M most v L) := (HD.out.later hB).later hB4
       have c1 := HD4.out.cell1
       obtain ⟨D, hown, hD⟩ := HD4.out.nums
       have HM : Hid (MapsTo (numL L) D) := hD
       clear hB hB4 hD)
    | (at_mapUpdate; refine wpList_mapUpdate_own _ rfl _ _ _ 63 rfl 9 3 str_law Try.underlying63 (plainElem (H := Unit) Try.prog 3) M L.length _ rfl hown (by unfold maxLen; omega) _ _ _ rfl rfl hkey _ [] (plainElem_int Try.underlying3 (WalkArith.wf_i64 (by omega))) ?_; intro w5 hown5 hgrow5
       obtain ⟨v6, w6, hrun6, hown6, hgrow6, hmv6⟩ := push_own (s := s) (HD4.out.own_grown hgrow5) (by have := hgrow5.size; have := HB4.out.size; omega) (by omega)
       obtain ⟨a6, k6, rfl⟩ := own_slice hown6
       have c2 := HD4.out.cell2_grown hgrow5
       have hp5 : p < w5.heap.size := Nat.lt_of_lt_of_le HD4.out.lt hgrow5.size
       have ht6 : w6.heap[p]? = some (.cells #[.int .i64 most, .map (some M), v] 65 (0, 0)) := by
         rw [hgrow6.block p (by simp; omega) (fun e => own_top_ne HD4.out.own HD4.out.top (by decide) e.symm), Below.heap_alloc _ _ _ hp5]
         exact HD4.out.top_grown hgrow5
       have c6 : w6.cell? ⟨p, 2, none⟩ = some v := by simp [World.cell?, ht6]
       have f6 : w6.frozen? ⟨p, 2, none⟩ = false := by simp [World.frozen?, ht6]
       have HR6 : Hid (_ = _) := hrun6
       have HT6 : Hid (_ = _) := ht6
       have HO6 : Hid (World.ownsRow _ _ _ _ _ _ _) := hown6
       have HG6 : Hid (World.grownBy _ _ _) := hgrow6
       have HG5 : Hid (World.grownBy _ _ _) := hgrow5
       have HO5 : Hid (World.ownsMap _ _ _ _ _ _ _) := hown5
       have HO4 : Hid (World.ownsMap _ _ _ _ _ _ _) := hown
       have HV6 : Hid (Moved _ _ _) := hmv6
       clear hrun6 ht6 hown6 hgrow6 hgrow5 hown5 hown hmv6)
    | (at_builtin; refine wpList_append_run rfl (.tmp 45) (.tmp 47) 22 rfl _ _ _ rfl rfl HR6.out ?_))
  go_ret2
  have b4 := HB4.out
  have z5 := HG5.out.size
  have z6 := HG6.out.size
  rw [World.size_alloc] at z6
  have hlt := HD4.out.map_lt
  have hvM := own_map_ne HO4.out HD4.out.own
  have hpM := map_ne HO4.out HD4.out.top
  have hsz : (w6.setCell ⟨p, 2, none⟩ (.slice a6 (L.length + 1) k6)).heap.size = w6.heap.size := World.size_setCell ..
  have hne := own_top_ne HO6.out HT6.out (by decide)
  have hM6 : w6.ownsMap Try.prog 9 (plainElem (H := Unit) Try.prog 3) M (L.length + 1) (D.put (keyS s) (.lit (.int .i64 L.length))) := by
    obtain ⟨es, clock, e1, e2⟩ := HO5.out
    refine ⟨es, clock, ?_, e2⟩
    rw [HG6.out.block M (by simp; omega) (fun e => hvM e.symm), Below.heap_alloc _ _ _ (by omega)]
    exact e1
  refine ⟨rfl, .slice a6 (L.length + 1) k6, ⟨by simp [World.setCell, Array.getElem?_modify, HT6.out], ?_, ⟨D.put (keyS s) (.lit (.int .i64 L.length)), ?_, ?_⟩, HD.out.low, HD.out.lowM, HD.out.txt.push HN.out hz hc⟩, ⟨?_, ?_, ?_, ?_, fun k hk h1 h2 h3 => ?_⟩, ?_⟩
  · rw [List.length_append, List.length_singleton]
    exact own_keptS HO6.out fun k hk => Below.heap_setCell _ _ _ _ (fun e => hne (by rw [hk]; exact congrArg some e))
  · rw [List.length_append, List.length_singleton]
    exact hM6.setCell (fun e => hpM e.symm) _
  · exact (HM.out.put HO4.out.isMap s L.length).congr fun t => numL_push HN.out t
  · exact HG6.out.os.trans (HG5.out.os.trans b4.os)
  · exact HG6.out.tape.trans (HG5.out.tape.trans b4.tape)
  · exact HG6.out.output.trans (HG5.out.output.trans b4.output)
  · rw [hsz]
    have := b4.size
    omega
  · have := b4.size
    rw [Below.heap_setCell _ _ _ _ h1, HG6.out.block k (by simp; omega) h3, Below.heap_alloc _ _ _ (by omega), HG5.out.block k (by omega) (by intro e; injection e with e; exact h2 e)]
    exact b4.block k hk
  · have := b4.size
    rcases HV6.out with e | e
    · exact .inl e
    · exact .inr fun k hk => by have := e k hk; omega
theorem addD_any {w : World} {B p M : Nat} {most : Int} {v : Value} {L : List ByteArray} (H : Dc w B p M most v L) (hB0 : B ≤ w.heap.size) (s : ByteArray) (hs : s.size ≤ maxLen) :
    Calls Try.prog 9 #[.pointer (some ⟨p, 0, none⟩), .string s] w (Added w B p M most v L s) := by
  unfold Added addZ
  cases hn : numL L s with
  | some j =>
    refine (addD_found H s hs j hn).mono ?_
    rintro e w' ⟨rfl, rfl⟩
    exact ⟨v, rfl, H, Tch.of (Below.refl _ _), .inl rfl⟩
  | none =>
    by_cases hc : 256 < s.size ∨ (L.length : Int) = most
    · simp only [if_pos hc]
      refine (addD_long H s hs hn hc).mono ?_
      rintro e w' ⟨rfl, hB⟩
      exact ⟨v, rfl, H.later hB, Tch.of hB, .inl rfl⟩
    · simp only [if_neg hc]
      refine (addD_new H hB0 s (by omega) hn (by omega)).mono ?_
      rintro e w' ⟨rfl, v', h1, h2, h3⟩
      exact ⟨v', rfl, h1, h2, h3⟩
theorem Added.below {w0 w w' : World} {B p M : Nat} {most : Int} {v : Value} {L : List ByteArray} {s : ByteArray} {e : Ending} (H : Dc w B p M most v L) (hB : B ≤ w.heap.size) (t : Added w B p M most v L s e w') (b : Below B w0 w) : Below B w0 w' := by
  obtain ⟨v', _, _, h3, _⟩ := t
  exact b.trans (h3.below hB H.low H.lowM fun k hk => (H.own.lt k hk).1)
end Go.Proofs.Ytjnkplmcopihbaa
