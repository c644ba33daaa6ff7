/-
  A dictionary in memory, and what dict.New, made, all, Len, Find and Get answer.
-/
import Derived.Test.YtjnkplmcopihbaaDcMath
namespace Go.Proofs.Ytjnkplmcopihbaa
open Go.RowKit Go.Maps Go.WideMaps

/-- A dictionary: block p holds the bound, the map M and the slice v of the texts by their numbers. -/
structure Dc (w : World) (B p M : Nat) (most : Int) (v : Value) (L : List ByteArray) : Prop where
  top : w.heap[p]? = some (.cells #[.int .i64 most, .map (some M), v] 65 (0, 0))
  own : w.ownsRow B 9 1 v L.length (cellsS L)
  nums : ∃ D, w.ownsMap Try.prog 9 (plainElem (H := Unit) Try.prog 3) M L.length D ∧ MapsTo (numL L) D
  low : B ≤ p
  lowM : B ≤ M
  txt : Txt1 most L
theorem Dc.lt {w : World} {B p M : Nat} {most : Int} {v : Value} {L : List ByteArray} (H : Dc w B p M most v L) : p < w.heap.size := (Array.getElem?_eq_some_iff.1 H.top).1
theorem Dc.cell0 {w : World} {B p M : Nat} {most : Int} {v : Value} {L : List ByteArray} (H : Dc w B p M most v L) : w.cell? ⟨p, 0, none⟩ = some (.int .i64 most) := by simp [World.cell?, H.top]
theorem Dc.cell1 {w : World} {B p M : Nat} {most : Int} {v : Value} {L : List ByteArray} (H : Dc w B p M most v L) : w.cell? ⟨p, 1, none⟩ = some (.map (some M)) := by simp [World.cell?, H.top]
theorem Dc.cell2 {w : World} {B p M : Nat} {most : Int} {v : Value} {L : List ByteArray} (H : Dc w B p M most v L) : w.cell? ⟨p, 2, none⟩ = some v := by simp [World.cell?, H.top]
theorem Dc.frozen {w : World} {B p M : Nat} {most : Int} {v : Value} {L : List ByteArray} (H : Dc w B p M most v L) : w.frozen? ⟨p, 2, none⟩ = false := by simp [World.frozen?, H.top]
theorem Dc.map_lt {w : World} {B p M : Nat} {most : Int} {v : Value} {L : List ByteArray} (H : Dc w B p M most v L) : M < w.heap.size := by
  obtain ⟨D, ⟨es, clock, h1, _⟩, _⟩ := H.nums
  exact (Array.getElem?_eq_some_iff.1 h1).1
theorem own_keptS {w w' : World} {B n : Nat} {v : Value} {xs : List Value} (h : w.ownsRow B 9 1 v n xs) (hg : ∀ k, v.ownBlock = some k → w'.heap[k]? = w.heap[k]?) : w'.ownsRow B 9 1 v n xs := by
  refine ⟨h.1, ?_⟩
  rcases h.2 with hn | ⟨g, cap, cur, rfl, hb, hgg, rest⟩
  · exact .inl hn
  · exact .inr ⟨g, cap, cur, rfl, hb, (hg g rfl).trans hgg, rest⟩
/-- It is as it was where other blocks turn. -/
theorem Dc.kept {w w' : World} {B p M : Nat} {most : Int} {v : Value} {L : List ByteArray} (H : Dc w B p M most v L) (h1 : w'.heap[p]? = w.heap[p]?) (h2 : w'.heap[M]? = w.heap[M]?) (h3 : ∀ k, v.ownBlock = some k → w'.heap[k]? = w.heap[k]?) : Dc w' B p M most v L := by
  refine ⟨h1.trans H.top, own_keptS H.own h3, ?_, H.low, H.lowM, H.txt⟩
  obtain ⟨D, ⟨es, clock, e1, e2⟩, hD⟩ := H.nums
  exact ⟨D, ⟨es, clock, h2.trans e1, e2⟩, hD⟩
theorem Dc.later {w w' : World} {B p M : Nat} {most : Int} {v : Value} {L : List ByteArray} (H : Dc w B p M most v L) (b : Below w.heap.size w w') : Dc w' B p M most v L :=
  H.kept (b.block p H.lt) (b.block M H.map_lt) fun k hk => b.block k (H.own.lt k hk).2

set_option maxHeartbeats 400000 in
theorem newD_no (most : Int) (w : World) (h : most < 0 ∨ 4096 < most) : Calls Try.prog 6 #[.int .i64 most] w fun e w' => e = .returned (.tuple #[.pointer none, .int .i64 1]) ∧ w' = w := by
  by_cases h0 : most < 0
  · go_enter Try.func6, Try.ntmps6
    go_wp2
    go_ret2
    exact ⟨rfl, rfl⟩
  · have h1 : (4096 : Int) < most := by omega
    clear h
    go_enter Try.func6, Try.ntmps6
    go_wp2
    go_ret2
    exact ⟨rfl, rfl⟩
set_option maxHeartbeats 400000 in
theorem newD_ok (most : Int) (B : Nat) (w : World) (h0 : 0 ≤ most) (h1 : most ≤ 4096) (hB : B ≤ w.heap.size) : Calls Try.prog 6 #[.int .i64 most] w fun e w' =>
    ∃ p M, e = .returned (.tuple #[.pointer (some ⟨p, 0, none⟩), .int .i64 0]) ∧ Dc w' B p M most (.slice none 0 0) [] ∧ Below w.heap.size w w' := by
  have hmm := @run_makeMap Try.prog
  go_enter Try.func6, Try.ntmps6
  go_wp2
  go_ret2
  exact ⟨w.heap.size + 1, w.heap.size, rfl, ⟨two_top w _ _, World.ownsRow_nil _ _ _ _, ⟨_, (World.ownsMap_made w _ _ _).alloc _, mapsTo_none.congr fun _ => rfl⟩, by omega, hB, Txt1.nil h0 h1⟩, ((Below.refl _ w).alloc (Nat.le_refl _) _).alloc (by simp) _⟩
set_option maxRecDepth 100000 in
theorem madeD_nil (w : World) : Calls Try.prog 25 #[.pointer none] w fun e w' => e = .returned (.bool false) ∧ w' = w := by
  go_enter Try.func25, Try.ntmps25
  go_wp2
  go_ret
  exact ⟨rfl, rfl⟩
set_option maxRecDepth 100000 in
theorem madeD_zero (p : Nat) (w : World) (h : w.cell? ⟨p, 1, none⟩ = some (.map none)) : Calls Try.prog 25 #[.pointer (some ⟨p, 0, none⟩)] w fun e w' => e = .returned (.bool false) ∧ w' = w := by
  have hq : ∀ w, (binOp .neq 63 (.map none) (.map none)).run Try.prog w = .ok (.bool false) w := fun _ => rfl
  go_enter Try.func25, Try.ntmps25
  go_wp2
  go_ret
  exact ⟨rfl, rfl⟩
set_option maxRecDepth 100000 in
theorem madeD_some (p M : Nat) (w : World) (h : w.cell? ⟨p, 1, none⟩ = some (.map (some M))) : Calls Try.prog 25 #[.pointer (some ⟨p, 0, none⟩)] w fun e w' => e = .returned (.bool true) ∧ w' = w := by
  have hq : ∀ w, (binOp .neq 63 (.map (some M)) (.map none)).run Try.prog w = .ok (.bool true) w := fun _ => rfl
  go_enter Try.func25, Try.ntmps25
  go_wp2
  go_ret
  exact ⟨rfl, rfl⟩
set_option maxRecDepth 100000 in
theorem allD_none (p M : Nat) (w : World) (h : w.cell? ⟨p, 1, none⟩ = some (.map (some M))) (hc : w.cell? ⟨p, 2, none⟩ = some (.slice none 0 0)) :
    Calls Try.prog 27 #[.pointer (some ⟨p, 0, none⟩)] w fun e w' => e = .returned (.slice none 0 0) ∧ ∃ m, w' = w.drewN m := by
  have C : Hid (Calls Try.prog 25 _ _ _) := madeD_some p M w h
  go_enter Try.func27, Try.ntmps27
  go_wp2_with (go_at_call 25; refine C.out.mono ?_; rintro e w1 ⟨rfl, hw1⟩; replace hw1 := hw1.symm; subst hw1)
  go_quiet (fail)
  go_wp2
  go_ret
  exact ⟨rfl, nq, rfl⟩
set_option maxRecDepth 100000 in
theorem allD_some (p M g len cap : Nat) (w : World) (h : w.cell? ⟨p, 1, none⟩ = some (.map (some M))) (hc : w.cell? ⟨p, 2, none⟩ = some (.slice (some ⟨g, 0, none⟩) len cap)) (hl : len ≤ cap) :
    Calls Try.prog 27 #[.pointer (some ⟨p, 0, none⟩)] w fun e w' => e = .returned (.slice (some ⟨g, 0, none⟩) len len) ∧ ∃ m, w' = w.drewN m := by
  have C : Hid (Calls Try.prog 25 _ _ _) := madeD_some p M w h
  go_enter Try.func27, Try.ntmps27
  go_wp2_with (go_at_call 25; refine C.out.mono ?_; rintro e w1 ⟨rfl, hw1⟩; replace hw1 := hw1.symm; subst hw1)
  go_quiet (fail)
  go_wp2
  go_ret
  exact ⟨rfl, nq, rfl⟩
/-- The texts, by index, without the room behind them. -/
theorem allD_quiet {w : World} {B p M : Nat} {most : Int} {v : Value} {L : List ByteArray} (H : Dc w B p M most v L) :
    ∃ a cap, v = .slice a L.length cap ∧ Txs w a L.length (atS L) ∧ Calls Try.prog 27 #[.pointer (some ⟨p, 0, none⟩)] w fun e w' => e = .returned (.slice a L.length L.length) ∧ ∃ m, w' = w.drewN m := by
  obtain ⟨a, cap, rfl, hT, _, hl⟩ := own_txs H.own
  have hc := H.cell2
  rcases H.own.2 with ⟨e, h0⟩ | ⟨g, cap', cur, e, _⟩
  · injection e with e1 e2 e3
    subst e1 e3
    refine ⟨none, _, rfl, hT, ?_⟩
    rw [h0] at hc ⊢
    exact allD_none p M w H.cell1 hc
  · cases e
    exact ⟨_, _, rfl, hT, allD_some p M g L.length cap w H.cell1 hc hl⟩
theorem allD_any {w : World} {B p M : Nat} {most : Int} {v : Value} {L : List ByteArray} (H : Dc w B p M most v L) :
    ∃ a cap, v = .slice a L.length cap ∧ Txs w a L.length (atS L) ∧ Calls Try.prog 27 #[.pointer (some ⟨p, 0, none⟩)] w fun e w' => e = .returned (.slice a L.length L.length) ∧ Below w.heap.size w w' := by
  obtain ⟨a, cap, h1, h2, c⟩ := allD_quiet H
  exact ⟨a, cap, h1, h2, c.mono fun e w' ⟨h3, m, h4⟩ => ⟨h3, h4 ▸ below_drewN w m⟩⟩
set_option maxRecDepth 100000 in
theorem lenD_quiet {w : World} {B p M : Nat} {most : Int} {v : Value} {L : List ByteArray} (H : Dc w B p M most v L) :
    Calls Try.prog 15 #[.pointer (some ⟨p, 0, none⟩)] w fun e w' => e = .returned (.int .i64 (L.length : Int)) ∧ ∃ m, w' = w.drewN m := by
  obtain ⟨a, cap, -, -, c⟩ := allD_quiet H
  have C : Hid (Calls Try.prog 27 _ _ _) := c
  clear c H
  go_enter Try.func15, Try.ntmps15
  go_wp2_with (go_at_call 27; refine C.out.mono ?_; rintro e w1 ⟨rfl, m, hw⟩)
  go_ret
  exact ⟨rfl, m, rfl⟩
theorem lenD_any {w : World} {B p M : Nat} {most : Int} {v : Value} {L : List ByteArray} (H : Dc w B p M most v L) :
    Calls Try.prog 15 #[.pointer (some ⟨p, 0, none⟩)] w fun e w' => e = .returned (.int .i64 (L.length : Int)) ∧ Below w.heap.size w w' :=
  (lenD_quiet H).mono fun _ _ ⟨h3, m, h4⟩ => ⟨h3, h4 ▸ below_drewN w m⟩
set_option maxRecDepth 100000 in
/-- A look-up of a text's number. -/
theorem look_num {W : World} {M q : Nat} {D : DataW Unit} {L : List ByteArray} {s : ByteArray} (ho : W.ownsMap Try.prog 9 (plainElem (H := Unit) Try.prog 3) M q D) (hF : MapsTo (numL L) D) (hs : s.size ≤ maxLen) :
    (Instr.lookup 63 (.map (some M)) (.string s) true).run Try.prog W = .ok (.tuple #[.int .i64 (dnumZ L s), .bool (numL L s).isSome]) W := by
  have hkey : keyOf Try.prog 9 (.string s) = some (keyS s) := keyOf_string_mk Try.underlying9 hs
  obtain ⟨v, ps, hrun, hv⟩ := ho.look_ok str_law Try.underlying63 (z := .int .i64 0) rfl (plainElem_int Try.underlying3 (WalkArith.wf_i64 (by omega))) hkey
  obtain ⟨c, rfl, hc, hwc⟩ := plainElem_int_inv Try.underlying3 hv
  have hc' : D.atKey (keyS s) zeroI = .lit (.int .i64 c) := congrArg Prod.fst hc
  unfold dnumZ
  rw [hrun]
  cases e : numL L s with
  | none =>
    have h := hF.1 s e
    rw [atKey_of_not_has h] at hc'
    injection hc' with hc'
    injection hc' with _ hc'
    rw [h, ← hc']; rfl
  | some j =>
    have h := hF.2 s j e
    rw [h.2] at hc'
    injection hc' with hc'
    injection hc' with _ hc'
    rw [h.1, ← hc']; rfl
set_option maxRecDepth 100000 in
set_option maxHeartbeats 400000 in
theorem findD_any {w : World} {B p M : Nat} {most : Int} {v : Value} {L : List ByteArray} (H : Dc w B p M most v L) (s : ByteArray) (hs : s.size ≤ maxLen) :
    Calls Try.prog 13 #[.pointer (some ⟨p, 0, none⟩), .string s] w fun e w' => e = .returned (.tuple #[.int .i64 (dnumZ L s), .bool (numL L s).isSome]) ∧ w' = w := by
  have C : Hid (Calls Try.prog 25 _ _ _) := madeD_some p M w H.cell1
  obtain ⟨D, hown, hD⟩ := H.nums
  have hrun := look_num hown hD hs
  have c1 := H.cell1
  clear H hown hD
  go_enter Try.func13, Try.ntmps13
  go_wp2_with (go_at_call 25; refine C.out.mono ?_; rintro e w1 ⟨rfl, hw1⟩; replace hw1 := hw1.symm; subst hw1)
  go_ret2
  exact ⟨rfl, rfl⟩
set_option maxRecDepth 100000 in
set_option maxHeartbeats 400000 in
theorem getD_any {w : World} {B p M : Nat} {most : Int} {v : Value} {L : List ByteArray} (H : Dc w B p M most v L) (i : Int) :
    Calls Try.prog 11 #[.pointer (some ⟨p, 0, none⟩), .int .i64 i] w fun e w' => e = .returned (.tuple #[.string (dgetZ L i).1, .int .i64 (dgetZ L i).2]) ∧ Below w.heap.size w w' := by
  have C1 : Hid (Calls Try.prog 25 _ _ _) := madeD_some p M w H.cell1
  have HD : Hid (Dc w B p M most v L) := H
  clear H
  unfold dgetZ
  by_cases h0 : i < 0
  · rw [if_neg (by omega)]
    go_enter Try.func11, Try.ntmps11
    go_wp2_with (go_at_call 25; refine C1.out.mono ?_; rintro e w1 ⟨rfl, hw1⟩; replace hw1 := hw1.symm; subst hw1)
    go_ret2
    exact ⟨rfl, Below.refl _ _⟩
  · obtain ⟨j, rfl⟩ := Int.eq_ofNat_of_zero_le (show 0 ≤ i by omega)
    have C2 : Hid (Calls Try.prog 15 _ _ _) := lenD_any HD.out
    by_cases h1 : j < L.length
    · rw [if_pos (by omega)]
      go_enter Try.func11, Try.ntmps11
      go_wp2_with (first
        | (go_at_call 25; refine C1.out.mono ?_; rintro e w1 ⟨rfl, hw1⟩; replace hw1 := hw1.symm; subst hw1)
        | (go_at_call 15; refine C2.out.mono ?_; rintro e w2 ⟨rfl, hB⟩; have HD2 : Hid (Dc w2 B p M most v L) := HD.out.later hB)
        | (go_at_call 27
           obtain ⟨a, cap, -, hT, c⟩ := allD_any HD2.out
           refine c.mono ?_
           rintro e w3 ⟨rfl, hB3⟩
           obtain ⟨b, o, rfl, hc⟩ := (hT.later hB3) (by omega)
           have hcj := hc j h1
           clear hT hc c))
      go_ret2
      refine ⟨?_, hB.trans (hB3.mono hB.size)⟩
      rw [Int.toNat_natCast]
      rfl
    · rw [if_neg (by omega)]
      go_enter Try.func11, Try.ntmps11
      go_wp2_with (first
        | (go_at_call 25; refine C1.out.mono ?_; rintro e w1 ⟨rfl, hw1⟩; replace hw1 := hw1.symm; subst hw1)
        | (go_at_call 15; refine C2.out.mono ?_; rintro e w2 ⟨rfl, hB⟩))
      go_ret2
      exact ⟨rfl, hB⟩
end Go.Proofs.Ytjnkplmcopihbaa
