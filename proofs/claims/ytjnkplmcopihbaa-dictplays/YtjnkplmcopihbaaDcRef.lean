/-
  The document's dictionary (haruspexref23): what New, Find, Get and Add answer.
-/
import Derived.Test.YtjnkplmcopihbaaDcAdd
import Derived.Test.YtjnkplmcopihbaaRefWriter
namespace Go.Proofs.Ytjnkplmcopihbaa
open Go.RowKit Go.Maps Go.WideMaps

/-- The document's dictionary: block q holds the slice u of the texts, and the bound. -/
structure Rc (w : World) (B q : Nat) (most : Int) (u : Value) (L : List ByteArray) : Prop where
  top : w.heap[q]? = some (.cells #[u, .int .i64 most] 44 (0, 0))
  own : w.ownsRow B 9 1 u L.length (cellsS L)
  low : B ≤ q
  txt : Txt1 most L
theorem Rc.lt {w : World} {B q : Nat} {most : Int} {u : Value} {L : List ByteArray} (H : Rc w B q most u L) : q < w.heap.size := (Array.getElem?_eq_some_iff.1 H.top).1
theorem Rc.cell0 {w : World} {B q : Nat} {most : Int} {u : Value} {L : List ByteArray} (H : Rc w B q most u L) : w.cell? ⟨q, 0, none⟩ = some u := by simp [World.cell?, H.top]
theorem Rc.cell1 {w : World} {B q : Nat} {most : Int} {u : Value} {L : List ByteArray} (H : Rc w B q most u L) : w.cell? ⟨q, 1, none⟩ = some (.int .i64 most) := by simp [World.cell?, H.top]
theorem Rc.kept {w w' : World} {B q : Nat} {most : Int} {u : Value} {L : List ByteArray} (H : Rc w B q most u L) (h1 : w'.heap[q]? = w.heap[q]?) (h3 : ∀ k, u.ownBlock = some k → w'.heap[k]? = w.heap[k]?) : Rc w' B q most u L :=
  ⟨h1.trans H.top, own_keptS H.own h3, H.low, H.txt⟩
theorem Rc.later {w w' : World} {B q : Nat} {most : Int} {u : Value} {L : List ByteArray} (H : Rc w B q most u L) (b : Below w.heap.size w w') : Rc w' B q most u L :=
  H.kept (b.block q H.lt) fun k hk => b.block k (H.own.lt k hk).2

set_option maxHeartbeats 400000 in
theorem refNewD_no (most : Int) (w : World) (h : most < 0 ∨ 4096 < most) : Calls Try.prog 7 #[.int .i64 most] w fun e w' => e = .returned (.tuple #[.pointer none, .int .i64 1]) ∧ w' = w := by
  by_cases h0 : most < 0
  · go_enter Try.func7, Try.ntmps7
    go_wp2
    go_ret2
    exact ⟨rfl, rfl⟩
  · have h1 : (4096 : Int) < most := by omega
    clear h
    go_enter Try.func7, Try.ntmps7
    go_wp2
    go_ret2
    exact ⟨rfl, rfl⟩
set_option maxHeartbeats 400000 in
theorem refNewD_ok (most : Int) (B : Nat) (w : World) (h0 : 0 ≤ most) (h1 : most ≤ 4096) (hB : B ≤ w.heap.size) : Calls Try.prog 7 #[.int .i64 most] w fun e w' =>
    ∃ q, e = .returned (.tuple #[.pointer (some ⟨q, 0, none⟩), .int .i64 0]) ∧ Rc w' B q most (.slice none 0 0) [] ∧ Below w.heap.size w w' := by
  go_enter Try.func7, Try.ntmps7
  go_wp2
  go_ret2
  exact ⟨w.heap.size, rfl, ⟨heap_alloc_new w _, World.ownsRow_nil _ _ _ _, hB, Txt1.nil h0 h1⟩, (Below.refl _ w).alloc (Nat.le_refl _) _⟩
set_option maxRecDepth 100000 in
set_option maxHeartbeats 1000000 in
theorem refFindD_any {w : World} {B q : Nat} {most : Int} {u : Value} {L : List ByteArray} (H : Rc w B q most u L) (s : ByteArray) :
    Calls Try.prog 14 #[.pointer (some ⟨q, 0, none⟩), .string s] w fun e w' => e = .returned (.tuple #[.int .i64 (dnumZ L s), .bool (numL L s).isSome]) ∧ Below w.heap.size w w' := by
  obtain ⟨a, cap, rfl, hT, _, hl⟩ := own_txs H.own
  have c0 := H.cell0
  have hL : L.length ≤ 4096 := by have := H.txt.fit; have := H.txt.m1; omega
  have HT : Hid (Txs w a L.length (atS L)) := hT
  clear H hT
  go_enter Try.func14, Try.ntmps14
  go_wp2_with fail
  go_loopw [6] (fun kv wr => ∃ k : Nat, kv = .int .i64 (k : Int) ∧ k ≤ L.length ∧ Hid (∀ i, i < k → atS L i ≠ s) ∧ Below w.heap.size w wr) (fun kv _ => L.length - (intOf kv).toNat)
  case atStart => exact ⟨0, rfl, Nat.zero_le _, fun i hi => by omega, Below.refl _ _⟩
  case round =>
    obtain ⟨k, rfl, hk, HK, hB⟩ := hrel
    have c0 := cell_later c0 hB
    by_cases hkL : k < L.length
    · obtain ⟨b, o, rfl, hc⟩ := (HT.out.later hB) (by omega)
      have ck := hc k hkL
      clear hc
      by_cases he : atS L k = s
      · have e1 := str_yes he
        have HE : Hid (numL L s = some k) := numL_at hkL he HK.out
        clear he
        go_wp2_with fail
        go_ret2
        rw [dnumZ, HE.out]
        exact ⟨rfl, hB⟩
      · have e1 := str_not he
        have HE : Hid (¬ atS L k = s) := he
        clear he
        go_wp2_with fail
        refine ⟨⟨k + 1, by go_num, hkL, fun i hi => ?_, hB⟩, by simp [intOf]; omega⟩
        by_cases e : i = k
        · rw [e]; exact HE.out
        · exact HK.out i (by omega)
    · have HN : Hid (numL L s = none) := numL_none.2 fun hs => by
        obtain ⟨i, hi, e⟩ := List.getElem_of_mem hs
        exact HK.out i (by omega) (by simp [atS, hi, e])
      go_wp2_with fail
      go_ret2
      rw [dnumZ, HN.out]
      exact ⟨rfl, hB⟩
set_option maxRecDepth 100000 in
set_option maxHeartbeats 1000000 in
theorem refGetD_any {w : World} {B q : Nat} {most : Int} {u : Value} {L : List ByteArray} (H : Rc w B q most u L) (i : Int) :
    Calls Try.prog 12 #[.pointer (some ⟨q, 0, none⟩), .int .i64 i] w fun e w' => e = .returned (.tuple #[.string (dgetZ L i).1, .int .i64 (dgetZ L i).2]) ∧ Below w.heap.size w w' := by
  obtain ⟨a, cap, rfl, hT, _, hl⟩ := own_txs H.own
  have c0 := H.cell0
  have hL : L.length ≤ 4096 := by have := H.txt.fit; have := H.txt.m1; omega
  have HT : Hid (Txs w a L.length (atS L)) := hT
  clear H hT
  unfold dgetZ
  by_cases h0 : i < 0
  · rw [if_neg (by omega)]
    go_enter Try.func12, Try.ntmps12
    go_wp2_with fail
    go_ret2
    exact ⟨rfl, Below.refl _ _⟩
  · obtain ⟨j, rfl⟩ := Int.eq_ofNat_of_zero_le (show 0 ≤ i by omega)
    by_cases h1 : j < L.length
    · rw [if_pos (by omega)]
      obtain ⟨b, o, rfl, hc⟩ := HT.out (by omega)
      have ck := hc j h1
      clear hc
      go_enter Try.func12, Try.ntmps12
      go_wp2_with fail
      go_ret2
      exact ⟨rfl, Below.refl _ _⟩
    · rw [if_neg (by omega)]
      go_enter Try.func12, Try.ntmps12
      go_wp2_with fail
      go_ret2
      exact ⟨rfl, Below.refl _ _⟩
/-- A call of the document's Add. -/
def RefAdded (w : World) (B q : Nat) (most : Int) (u : Value) (L : List ByteArray) (s : ByteArray) (e : Ending) (w' : World) : Prop :=
  ∃ u', e = .returned (.tuple #[.int .i64 (addZ most L s).1, .int .i64 (addZ most L s).2.1]) ∧ Rc w' B q most u' (addZ most L s).2.2 ∧ Touch q none w w' ∧ Moved w u u'
/-- Some texts behind a row that the call owns. -/
theorem append_txs {w : World} {base n m c : Nat} {v : Value} {l k : List ByteArray} {a : Option Addr} (h : w.ownsRow base 9 1 v n (cellsS l)) (hT : Txs w a m (atS k)) (hk : k.length = m) (ha : a = none → m = 0 ∧ c = 0) (hb : base ≤ w.heap.size) (hn : n + m ≤ 2097152) :
    ∃ v' w', (Builtin.append_ #[22, 22] 22 #[v, .slice a m c]).run Try.prog w = .ok v' w' ∧ w'.ownsRow base 9 1 v' (n + m) (cellsS (l ++ k)) ∧ w.grownBy w' v.ownBlock := by
  obtain ⟨i0, hi, hz0, hz1, hz2⟩ := info_parts infoS
  cases a with
  | none =>
    obtain ⟨rfl, rfl⟩ := ha rfl
    obtain rfl : k = [] := List.eq_nil_of_length_eq_zero hk
    refine ⟨v, w, run_append_owned_none (P := Try.prog) w base 22 22 9 i0 1 Try.underlying22 hi v n (cellsS l) h, ?_, ⟨rfl, rfl, rfl, Nat.le_refl _, fun _ _ _ => rfl⟩⟩
    rw [List.append_nil]
    exact h
  | some x =>
    obtain ⟨v', w', hrun, hown', hgrow, _⟩ := run_append_own (P := Try.prog) (w := w) base 22 22 9 i0 (.string ⟨#[]⟩) 1 16 Try.underlying22 hi hz0 hz1 hz2 rfl (by decide) v _ _ h x m c (cellsS k) (by simp [cellsS, hk])
      (fun j y hy => by
        have hj : j < k.length := by
          have := (List.getElem?_eq_some_iff.1 hy).1
          simpa [cellsS] using this
        obtain ⟨b, o, e, hc⟩ := hT (by omega)
        cases e
        rw [addr_add, hc j (by omega)]
        simp [cellsS, hj] at hy
        simp [atS, hj, hy]) (by intro y hy; simp [cellsS] at hy; obtain ⟨z, _, rfl⟩ := hy; rfl) (by unfold maxLen; omega) (by omega) hb
    refine ⟨v', w', hrun, ?_, hgrow⟩
    have e : cellsS (l ++ k) = cellsS l ++ cellsS k := by simp [cellsS]
    rw [e]
    exact hown'
set_option maxRecDepth 100000 in
set_option maxHeartbeats 1000000 in
theorem refAddD_found {w : World} {B q : Nat} {most : Int} {u : Value} {L : List ByteArray} (H : Rc w B q most u L) (s : ByteArray) (j : Nat) (hj : numL L s = some j) :
    Calls Try.prog 10 #[.pointer (some ⟨q, 0, none⟩), .string s] w fun e w' => e = .returned (.tuple #[.int .i64 j, .int .i64 0]) ∧ Below w.heap.size w w' := by
  have c := refFindD_any H s
  rw [hj, dnumZ, hj] at c
  have C2 : Hid (Calls Try.prog 14 _ _ _) := c
  clear H c hj
  go_enter Try.func10, Try.ntmps10
  go_wp2_with (go_at_call 14; refine C2.out.mono ?_; rintro e w2 ⟨rfl, hB⟩)
  go_ret2
  exact ⟨rfl, hB⟩
set_option maxRecDepth 100000 in
set_option maxHeartbeats 1000000 in
theorem refAddD_long {w : World} {B q : Nat} {most : Int} {u : Value} {L : List ByteArray} (H : Rc w B q most u L) (s : ByteArray) (hn : numL L s = none) (hc : 256 < s.size ∨ (L.length : Int) = most) :
    Calls Try.prog 10 #[.pointer (some ⟨q, 0, none⟩), .string s] w fun e w' => e = .returned (.tuple #[.int .i64 0, .int .i64 2]) ∧ Below w.heap.size w w' := by
  obtain ⟨a, cap, rfl, hT, _, hl⟩ := own_txs H.own
  have c := refFindD_any H s
  rw [hn, dnumZ, hn] at c
  have C2 : Hid (Calls Try.prog 14 _ _ _) := c
  have HD : Hid (Rc w B q most _ L) := H
  have hf := H.txt.fit
  clear H c hn hT
  by_cases hz : 256 < (s.size : Int)
  · clear hc
    have hd : decide (256 < (s.size : Int)) = true := decide_eq_true hz
    go_enter Try.func10, Try.ntmps10
    go_wp2_with (go_at_call 14; refine C2.out.mono ?_; rintro e w2 ⟨rfl, hB⟩; have c0 := (HD.out.later hB).cell0; have c1 := (HD.out.later hB).cell1)
    go_quiet (fail)
    go_wp2
    go_ret2
    exact ⟨rfl, hB.trans ((below_drewN w2 nq).mono hB.size)⟩
  · obtain rfl : (L.length : Int) = most := by omega
    clear hc
    have hd : decide (256 < (s.size : Int)) = false := decide_eq_false hz
    go_enter Try.func10, Try.ntmps10
    go_wp2_with (go_at_call 14; refine C2.out.mono ?_; rintro e w2 ⟨rfl, hB⟩; have c0 := (HD.out.later hB).cell0; have c1 := (HD.out.later hB).cell1)
    go_quiet (fail)
    go_wp2
    go_ret2
    exact ⟨rfl, hB.trans ((below_drewN w2 nq).mono hB.size)⟩
set_option maxRecDepth 100000 in
set_option maxHeartbeats 2000000 in
theorem refAddD_new {w : World} {B q : Nat} {most : Int} {u : Value} {L : List ByteArray} (H : Rc w B q most u L) (hB0 : B ≤ w.heap.size) (s : ByteArray) (hz : s.size ≤ 256) (hn : numL L s = none) (hc : (L.length : Int) ≠ most) :
    Calls Try.prog 10 #[.pointer (some ⟨q, 0, none⟩), .string s] w fun e w' =>
      e = .returned (.tuple #[.int .i64 (L.length : Int), .int .i64 0]) ∧ ∃ u', Rc w' B q most u' (L ++ [s]) ∧ Touch q none w w' ∧ Moved w u u' := by
  obtain ⟨a, cap, rfl, hT, _, hl⟩ := own_txs H.own
  have c := refFindD_any H s
  rw [hn, dnumZ, hn] at c
  have C2 : Hid (Calls Try.prog 14 _ _ _) := c
  have HD : Hid (Rc w B q most _ L) := H
  have hf := H.txt.fit
  have hm := H.txt.m1
  have hlm : (L.length : Int) < most := by omega
  have hz1 : ¬ 256 < (s.size : Int) := by omega
  have hd : decide (256 < (s.size : Int)) = false := decide_eq_false hz1
  have hd2 : decide (most ≤ (L.length : Int)) = false := decide_eq_false (by omega)
  have HN : Hid (numL L s = none) := hn
  have HT : Hid (Txs w a L.length (atS L)) := hT
  have hA : a = none → L.length = 0 ∧ cap = 0 := fun e => by
    rcases H.own.2 with ⟨e1, e2⟩ | ⟨g, cap', cur, e1, _⟩
    · injection e1 with _ _ e3
      exact ⟨e2, e3⟩
    · rw [e] at e1
      cases e1
  have HA : Hid (a = none → L.length = 0 ∧ cap = 0) := hA
  clear H c hn hT hA
  go_enter Try.func10, Try.ntmps10
  go_wp2_with (go_at_call 14; refine C2.out.mono ?_; rintro e w2 ⟨rfl, hB⟩; have c0 := (HD.out.later hB).cell0; have c1 := (HD.out.later hB).cell1)
  go_quiet (fail)
  have hBn := hB.trans ((below_drewN w2 nq).mono hB.size)
  generalize w2.drewN nq = W at hBn ⊢
  have hHW := HD.out.later hBn
  have hB1 : Below W.heap.size W (W.alloc (.cells #[] 9)) := (Below.refl _ _).alloc (Nat.le_refl _) _
  have hown1 : (W.alloc (.cells #[] 9)).ownsRow W.heap.size 9 1 (.slice (some ⟨W.heap.size, 0, none⟩) 0 0) 0 (cellsS []) :=
    ⟨rfl, .inr ⟨W.heap.size, 0, #[], rfl, Nat.le_refl _, heap_alloc_new W _, Nat.le_refl _, Nat.zero_le _, rfl, rfl⟩⟩
  obtain ⟨u2, w3, hrun2, hown2, hg2⟩ := append_txs hown1 ((HT.out.later hBn).later hB1) rfl HA.out (by simp) (by omega)
  simp only [Nat.zero_add, List.nil_append] at hown2
  have hB2 : Below W.heap.size W w3 := hB1.grown hg2 (by simp) (by intro k hk; simp [Value.ownBlock] at hk; omega)
  obtain ⟨u3, w4, hrun3, hown3, hg3, -⟩ := push_own (s := s) hown2 hB2.size (by omega)
  have hB3 : Below W.heap.size W w4 := (hB2.alloc hB2.size _).grown hg3 (by simp; have := hB2.size; omega) (fun k hk => (hown2.lt k hk).1)
  obtain ⟨a3, k3, rfl⟩ := own_slice hown3
  have d0 := hHW.cell0
  have d1 := (hHW.later hB1).cell0
  have d4 := (hHW.later hB3).cell0
  have d4f : w4.frozen? ⟨q, 0, none⟩ = false := by simp [World.frozen?, (hHW.later hB3).top]
  have R2 : Hid (_ = _) := hrun2
  have R3 : Hid (_ = _) := hrun3
  have O3 : Hid (World.ownsRow _ _ _ _ _ _ _) := hown3
  have HW4 : Hid (Rc w4 B q most _ L) := hHW.later hB3
  have HB5 : Hid (Below w.heap.size w w4) := hBn.trans (hB3.mono hBn.size)
  have hsz := hBn.size
  have e1 : IntKind.i64.wrap ((L.length : Int) + 1 - 1) = (L.length : Int) := by rw [IntKind.wrap_i64]; omega
  clear hrun2 hrun3 hown3 hg2 hg3 hown1 hown2 hB1 hB2 hB3 hHW hBn c0 c1
  go_wp2_with (first
    | (at_builtin; refine wpList_append_run rfl (.tmp 32) (.tmp 36) 22 rfl _ _ _ rfl rfl R2.out ?_)
    | (at_builtin; refine wpList_append_run rfl (.tmp 37) (.tmp 39) 22 rfl _ _ _ rfl rfl R3.out ?_))
  go_ret2
  have hne := own_top_ne O3.out HW4.out.top (by decide)
  refine ⟨rfl, .slice a3 (L.length + 1) k3, ⟨by simp [World.setCell, Array.getElem?_modify, HW4.out.top], ?_, HD.out.low, HD.out.txt.push HN.out hz hc⟩, Touch.after HB5.out (touch_set0 _ _ _), .inr fun k hk => ?_⟩
  · rw [List.length_append, List.length_singleton]
    have o := own_keptS (w' := w4.setCell ⟨q, 0, none⟩ (.slice a3 (L.length + 1) k3)) O3.out (fun k hk => Below.heap_setCell _ _ _ _ (fun e => hne (by rw [hk]; exact congrArg some e)))
    refine ⟨o.1, ?_⟩
    rcases o.2 with hn | ⟨g, cap2, cur, x1, x2, rest⟩
    · exact .inl hn
    · exact .inr ⟨g, cap2, cur, x1, by omega, rest⟩
  · exact Nat.le_trans hsz (O3.out.lt k hk).1
theorem refAddD_any {w : World} {B q : Nat} {most : Int} {u : Value} {L : List ByteArray} (H : Rc w B q most u L) (hB0 : B ≤ w.heap.size) (s : ByteArray) :
    Calls Try.prog 10 #[.pointer (some ⟨q, 0, none⟩), .string s] w (RefAdded w B q most u L s) := by
  unfold RefAdded addZ
  cases hn : numL L s with
  | some j =>
    refine (refAddD_found H s j hn).mono ?_
    rintro e w' ⟨rfl, hB⟩
    exact ⟨u, rfl, H.later hB, Touch.of hB, .inl rfl⟩
  | none =>
    by_cases hc : 256 < s.size ∨ (L.length : Int) = most
    · simp only [if_pos hc]
      refine (refAddD_long H s hn hc).mono ?_
      rintro e w' ⟨rfl, hB⟩
      exact ⟨u, rfl, H.later hB, Touch.of hB, .inl rfl⟩
    · simp only [if_neg hc]
      refine (refAddD_new H hB0 s (by omega) hn (by omega)).mono ?_
      rintro e w' ⟨rfl, u', h1, h2, h3⟩
      exact ⟨u', rfl, h1, h2, h3⟩
theorem RefAdded.below {w0 w w' : World} {B q : Nat} {most : Int} {u : Value} {L : List ByteArray} {s : ByteArray} {e : Ending} (H : Rc w B q most u L) (hB : B ≤ w.heap.size) (t : RefAdded w B q most u L s e w') (b : Below B w0 w) : Below B w0 w' := by
  obtain ⟨u', _, _, h3, _⟩ := t
  exact b.trans (h3.below hB H.low fun k hk => by cases hk)
end Go.Proofs.Ytjnkplmcopihbaa
