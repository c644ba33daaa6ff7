/-
  DictBack's walk: a dictionary as bytes is read as it was; each text is told by its number, and stays so.
-/
import Derived.Test.YtjnkplmcopihbaaDcBackMath
import Derived.Test.YtjnkplmcopihbaaDcAwake
import Derived.Deep.DeepCutAuto
namespace Go.Proofs.Ytjnkplmcopihbaa
open Go.RowKit Go.Maps Go.WideMaps

theorem infoI23 : (Try.prog.info? 3).map (fun i => (i.zero, i.size, i.bytes)) = some (some (.int .i64 0), 1, 8) := by kernel_rfl
def cellsI (N : List Int) : List Value := N.map (Value.int .i64)
/-- A row of numbers that the call owns. -/
def Nr (w : World) (B : Nat) (x : Value) (N : List Int) : Prop := w.ownsRow B 3 1 x N.length (cellsI N)
theorem Nr.block {w : World} {B k : Nat} {x : Value} {N : List Int} (H : Nr w B x N) (hk : x.ownBlock = some k) : ∃ d, w.heap[k]? = some (.cells d 3 (0, 0)) := by
  rcases H.2 with ⟨rfl, _⟩ | ⟨g, cap, cur, rfl, _, hg, _⟩
  · cases hk
  · cases hk
    exact ⟨cur, hg⟩
theorem Nr.kept {w w' : World} {B : Nat} {x : Value} {N : List Int} (H : Nr w B x N) (hg : ∀ k d, w.heap[k]? = some (Obj.cells d 3 (0, 0)) → x.ownBlock = some k → w'.heap[k]? = w.heap[k]?) : Nr w' B x N := by
  refine ⟨H.1, ?_⟩
  rcases H.2 with hn | ⟨g, cap, cur, rfl, hb, hgg, rest⟩
  · exact .inl hn
  · exact .inr ⟨g, cap, cur, rfl, hb, (hg g cur hgg rfl).trans hgg, rest⟩
theorem Nr.later {w w' : World} {B : Nat} {x : Value} {N : List Int} (H : Nr w B x N) (b : Below w.heap.size w w') : Nr w' B x N :=
  H.kept fun k _ hk _ => b.block k (Array.getElem?_eq_some_iff.1 hk).1
theorem Nr.added {w w' : World} {B C p M : Nat} {most : Int} {v x : Value} {N : List Int} {L : List ByteArray} {s : ByteArray} {e : Ending} (H : Nr w B x N) (D : Dc w C p M most v L) (t : Added w C p M most v L s e w') : Nr w' B x N := by
  obtain ⟨v', h1, h2, h3, h4⟩ := t
  obtain ⟨E, hown, _⟩ := D.nums
  refine H.kept fun k d hk _ => h3.block k (Array.getElem?_eq_some_iff.1 hk).1 (fun e => ?_) (map_ne hown hk) fun e => own_top_ne D.own hk (by decide) e.symm
  subst e
  have := hk.symm.trans D.top
  simp at this
theorem Nr.touched {w w' : World} {B h : Nat} {x : Value} {N : List Int} {c : Array Value} {t : TypeId} (H : Nr w B x N) (T : Touch h none w w') (hh : w.heap[h]? = some (.cells c t (0, 0))) (ht : t ≠ 3) : Nr w' B x N :=
  H.kept fun k d hk _ => T.block k (Array.getElem?_eq_some_iff.1 hk).1 (fun e => by
    subst e
    rw [hh] at hk
    simp at hk
    exact ht hk.2) (by simp)
/-- By index. -/
theorem Nr.ints {w : World} {B : Nat} {x : Value} {N : List Int} (H : Nr w B x N) : ∃ a cap, x = .slice a N.length cap ∧ N.length ≤ cap ∧ (0 < N.length → ∃ b, a = some ⟨b, 0, none⟩ ∧ ∀ j, j < N.length → w.cell? ⟨b, 0 + j, none⟩ = some (.int .i64 (N.getD j 0))) := by
  rcases H.2 with ⟨rfl, h0⟩ | ⟨g, cap, cur, rfl, _, hg, hle, hm, hsz, ht⟩
  · exact ⟨none, 0, by rw [h0], by omega, fun h => by omega⟩
  · refine ⟨some ⟨g, 0, none⟩, cap, rfl, hle, fun _ => ⟨g, rfl, fun j hj => ?_⟩⟩
    have hj2 : cur.toList[j]? = some (.int .i64 N[j]) := by
      have : (cur.toList.take (N.length * 1))[j]? = some (.int .i64 N[j]) := by rw [ht]; simp [cellsI, hj]
      rw [List.getElem?_take] at this
      split at this
      · exact this
      · cases this
    simp at hj2
    simp [World.cell?, hg, hj2, hj]
/-- One number more. -/
theorem push_intD {w : World} {base : Nat} {x : Value} {N : List Int} (h : Nr w base x N) (hb : base ≤ w.heap.size) (hn : N.length ≤ 2097152) (i : Int) :
    ∃ x' w', (Builtin.append_ #[23, 23] 23 #[x, .slice (some ⟨w.heap.size, 0, none⟩) 1 1]).run Try.prog (w.alloc (.cells #[.int .i64 i] 3)) = .ok x' w' ∧ Nr w' base x' (N ++ [i]) ∧ (w.alloc (.cells #[.int .i64 i] 3)).grownBy w' x.ownBlock := by
  obtain ⟨i0, hi, hz0, hz1, hz2⟩ := info_parts infoI23
  obtain ⟨x', w', hrun, hown', hgrow, _⟩ := run_append_own (P := Try.prog) (w := w.alloc (.cells #[.int .i64 i] 3)) base 23 23 3 i0 (.int .i64 0) 1 8 Try.underlying23 hi hz0 hz1 hz2 rfl (by decide) x _ _ (World.ownsRow.alloc h _) ⟨w.heap.size, 0, none⟩ 1 1 [.int .i64 i] rfl
    (cell_one_new w (.int .i64 i) 3) (by simp [Value.oneCell']) (by unfold maxLen; omega) (by omega) (by simp; omega)
  refine ⟨x', w', hrun, ?_, hgrow⟩
  have e : cellsI (N ++ [i]) = cellsI N ++ [.int .i64 i] := by simp [cellsI]
  unfold Nr
  rw [e, List.length_append, List.length_singleton]
  exact hown'
theorem Dc.grown_int {w w' : World} {B C p M : Nat} {most : Int} {v x : Value} {L : List ByteArray} {N : List Int} (H : Dc w B p M most v L) (X : Nr w C x N) (g : w.grownBy w' x.ownBlock) : Dc w' B p M most v L := by
  obtain ⟨E, hown, _⟩ := H.nums
  have far : ∀ k c t, w.heap[k]? = some (Obj.cells c t (0, 0)) → t ≠ 3 → w'.heap[k]? = w.heap[k]? := fun k c t hk ht => by
    refine g.block k (Array.getElem?_eq_some_iff.1 hk).1 fun e => ?_
    obtain ⟨d, hd⟩ := X.block e.symm
    rw [hd] at hk
    simp at hk
    exact ht hk.2.symm
  refine H.kept (far p _ _ H.top (by decide)) (g.block M H.map_lt fun e => ?_) fun k hk => ?_
  · obtain ⟨d, hd⟩ := X.block e.symm
    exact map_ne hown hd rfl
  · rcases H.own.2 with ⟨rfl, _⟩ | ⟨g', cap, cur, rfl, _, hg, _⟩
    · cases hk
    · cases hk
      exact far g' _ _ hg (by decide)
/-- The numbers of the first texts. -/
def GoodN (S : Nat → ByteArray) (L : List ByteArray) (N : List Int) : Prop := ∀ j, j < N.length → ∃ m : Nat, N.getD j 0 = (m : Int) ∧ m < L.length ∧ atS L m = S j
theorem addZ_two {most : Int} {L : List ByteArray} (s : ByteArray) (hl : (L.length : Int) ≠ most) :
    (256 < s.size ∧ addZ most L s = (0, 2, L)) ∨ ∃ (m : Nat) (L' : List ByteArray), addZ most L s = ((m : Int), 0, L') ∧ m < L'.length ∧ atS L' m = s ∧ L.length ≤ L'.length ∧ L'.length ≤ L.length + 1 ∧ ∀ i, i < L.length → atS L' i = atS L i := by
  unfold addZ
  cases hn : numL L s with
  | some j =>
    obtain ⟨h1, h2, _⟩ := numL_lt hn
    exact .inr ⟨j, L, rfl, h1, h2, Nat.le_refl _, by omega, fun _ _ => rfl⟩
  | none =>
    by_cases hz : 256 < s.size
    · exact .inl ⟨hz, if_pos (.inl hz)⟩
    · refine .inr ⟨L.length, L ++ [s], if_neg (by omega), by simp, by simp [atS], by simp, by simp, fun i hi => ?_⟩
      simp [atS, List.getElem?_append_left hi]
theorem GoodN.more {S : Nat → ByteArray} {L L' : List ByteArray} {N : List Int} {m : Nat} (h : GoodN S L N) (hL : L.length ≤ L'.length) (hat : ∀ i, i < L.length → atS L' i = atS L i) (hm : m < L'.length) (he : atS L' m = S N.length) : GoodN S L' (N ++ [(m : Int)]) := by
  intro j hj
  rw [List.length_append, List.length_singleton] at hj
  by_cases e : j < N.length
  · obtain ⟨m', h1, h2, h3⟩ := h j e
    refine ⟨m', ?_, by omega, (hat m' h2).trans h3⟩
    rw [← h1]
    simp [List.getD_eq_getElem?_getD, List.getElem?_append_left e]
  · obtain rfl : j = N.length := by omega
    exact ⟨m, by simp, hm, he⟩
set_option maxRecDepth 100000 in
set_option maxHeartbeats 4000000 in
theorem back_walk23 (a0 : Option Addr) (len0 cap0 : Nat) (S : Nat → ByteArray) (w : World) (h0 : Txs w a0 len0 S) (hS : ∀ j, j < len0 → (S j).size ≤ maxLen) (hl0 : len0 ≤ 9223372036854775807) :
    Calls Try.prog 4 #[.slice a0 len0 cap0] w fun e w' => e = .returned (.bool true) ∧ Below w.heap.size w w' := by
  have C1 : Hid (Calls Try.prog 6 _ _ _) := newD_ok 60 w.heap.size w (by omega) (by omega) (Nat.le_refl _)
  have H0 : Hid (Txs w a0 len0 S) := h0
  have HS : Hid (∀ j, j < len0 → (S j).size ≤ maxLen) := hS
  clear h0 hS
  go_enter Try.func4, Try.ntmps4
  go_wp2_with (first
    | (go_at_call 6
       refine C1.out.mono ?_
       rintro e w1 ⟨p, M, rfl, hD1, hB1⟩
       have HD1 : Hid (Dc w1 w.heap.size p M 60 (.slice none 0 0) []) := hD1
       clear hD1))
  go_loopw [5, 6] (fun nv kv wr => ∃ (k : Nat) (v : Value) (L : List ByteArray) (N : List Int), kv = .int .i64 (k : Int) ∧ k ≤ 50 ∧ k ≤ len0 ∧ Hid (N.length = k ∧ L.length ≤ k ∧ GoodN S L N) ∧ Hid (Nr wr w.heap.size nv N) ∧ Hid (Dc wr w.heap.size p M 60 v L) ∧ Below w.heap.size w wr) (fun _ kv _ => 50 - (intOf kv).toNat)
  case atStart => exact ⟨0, _, [], [], rfl, by omega, by omega, ⟨rfl, Nat.le_refl _, fun j hj => by simp at hj⟩, World.ownsRow_nil _ _ _ _, HD1, hB1⟩
  case round =>
    rename_i nv _ _
    obtain ⟨k, v, L, N, rfl, hk, hk0, HF, HN, HD, hB⟩ := hrel
    clear HD1 hB1 C1
    by_cases hc : (k : Int) < (len0 : Int) ∧ (k : Int) < 50
    · obtain ⟨q1, q2⟩ := hc
      obtain ⟨b0, o0, rfl, hc0⟩ := H0.out (by omega)
      have E0 : Hid (w.cell? ⟨b0, o0 + k, none⟩ = some (.string (S k))) := hc0 k (by omega)
      have HZ : Hid ((S k).size ≤ maxLen) := HS.out k (by omega)
      have f0 := cell_later E0.out hB
      clear hc0
      rcases addZ_two (most := 60) (S k) (L := L) (by have := HF.out.2.1; omega) with ⟨hz, hA⟩ | ⟨m, L', hA, h1, h2, h3, h4, h5⟩
      · have HA : Hid (addZ 60 L (S k) = (0, 2, L)) := hA
        have hz1 : 256 < ((S k).size : Int) := by omega
        clear hA hz
        go_wp2_with (first
          | (go_at_call 9
             refine (addD_any HD.out hB.size (S k) HZ.out).mono ?_
             rintro e w3 t3
             have hB3 : Below w.heap.size w w3 := t3.below HD.out hB.size hB
             obtain ⟨v3, rfl, -, -, -⟩ := t3
             rw [HA.out]
             have g0 := cell_later E0.out hB3)
          | (go_at_call 8; refine (awake23_any _).mono ?_; rintro e w4 ⟨rfl, hB4⟩))
        go_ret
        exact ⟨rfl, hB3.trans (hB4.mono hB3.size)⟩
      · have HA : Hid (addZ 60 L (S k) = ((m : Int), 0, L')) := hA
        have HL : Hid ((m < L'.length ∧ atS L' m = S k) ∧ (L.length ≤ L'.length ∧ L'.length ≤ L.length + 1) ∧ ∀ i, i < L.length → atS L' i = atS L i) := ⟨⟨h1, h2⟩, ⟨h3, h4⟩, h5⟩
        clear hA h1 h2 h3 h4 h5
        go_wp2_with (first
          | (go_at_call 9
             refine (addD_any HD.out hB.size (S k) HZ.out).mono ?_
             rintro e w3 t3
             have hB3 : Below w.heap.size w w3 := t3.below HD.out hB.size hB
             have hN3 := HN.out.added HD.out t3
             obtain ⟨v3, rfl, hD3, -, -⟩ := t3
             rw [HA.out] at hD3 ⊢
             dsimp only at hD3 ⊢
             obtain ⟨x4, w4, hrun4, hN4, hG4⟩ := push_intD hN3 hB3.size (by have := HF.out.1; omega) (m : Int)
             have HR4 : Hid (_ = _) := hrun4
             have hb4 : Below w3.heap.size w3 (w3.alloc (.cells #[.int .i64 (m : Int)] 3)) := (Below.refl _ _).alloc (Nat.le_refl _) _
             have HD4 : Hid (Dc w4 w.heap.size p M 60 v3 L') := (hD3.later hb4).grown_int (hN3.later hb4) hG4
             have HN4 : Hid (Nr w4 w.heap.size x4 (N ++ [(m : Int)])) := hN4
             have hB4 : Below w.heap.size w w4 := (hB3.trans (hb4.mono hB3.size)).grown hG4 (by simp; have := hB3.size; omega) (fun j hj => (World.ownsRow.lt hN3 j hj).1)
             clear hN3 hD3 hrun4 hN4 hG4 hb4)
          | (at_builtin; refine wpList_append_run rfl (.tmp 63) (.tmp 65) 23 rfl _ _ _ rfl rfl HR4.out ?_))
        refine ⟨⟨k + 1, v3, L', N ++ [(m : Int)], by go_num, by omega, by omega, ⟨?_, ?_, ?_⟩, HN4, HD4, hB4⟩, by simp [intOf]; omega⟩
        · rw [List.length_append, List.length_singleton, HF.out.1]
        · have := HF.out.2.1
          have := HL.out.2.1.2
          omega
        · exact HF.out.2.2.more HL.out.2.1.1 HL.out.2.2 HL.out.1.1 (by rw [HF.out.1]; exact HL.out.1.2)
    · go_upto_region 6 with fail
      go_cut [36] (fun s36 wc => s36 = .bool false ∧ wc = wr)
      case first =>
        go_wp2_with fail
        all_goals go_meet
        all_goals (case rel => first | exact ⟨rfl, rfl⟩ | exact ⟨congrArg Value.bool (decide_eq_false (by omega)), rfl⟩)
      case rest =>
        obtain ⟨hu, hw⟩ := hcut
        subst hu hw
        have hL50 : L.length ≤ 50 := by have := HF.out.2.1; omega
        have HX : Hid (Txt1 60 L) := HD.out.txt
        have HP : Hid (putD 65536 [] L = (0, enc 10 L.length ++ txtsB L)) := putD_fits (by have := txtsB_le HX.out.sz; omega)
        have hlB : (enc 10 L.length ++ txtsB L).length ≤ 65536 := by
          have := txtsB_le HX.out.sz
          have := sz_le 10 L.length
          have e : (enc 10 L.length).length = sz 10 L.length := enc_length ..
          rw [List.length_append]
          omega
        have HG : Hid (readD 60 (enc 10 L.length ++ txtsB L) 0 = (0, L, (enc 10 L.length ++ txtsB L).length)) := readD_good HX.out (by omega)
        obtain ⟨l, hl⟩ : ∃ l, enc 10 L.length ++ txtsB L = l := ⟨_, rfl⟩
        rw [hl] at HP HG hlB
        clear hl
        go_wp2_with (first
          | (go_at_call 16
             refine (newWriter_ok 65536 w.heap.size _ (by omega) (by omega) hB.size).mono ?_
             rintro e w3 ⟨rfl, hW3, hB3⟩
             have HD3 : Hid (Dw w3 w.heap.size p M _ _ 60 65536 v (.slice none 0 0) L []) := ⟨HD.out.later hB3, hW3⟩
             have HN3 : Hid (Nr w3 w.heap.size _ N) := HN.out.later hB3
             have hB3' : Below w.heap.size w w3 := hB.trans (hB3.mono hB.size)
             clear hW3 hB3)
          | (go_at_call 18
             have c := putD_any HD3.out hB3'.size
             rw [HP.out] at c
             refine c.mono ?_
             rintro e w4 ⟨rfl, u4, hD4, hT4, -⟩
             dsimp only at hD4 ⊢
             have HD4 : Hid (Dw w4 w.heap.size p M _ _ 60 65536 v u4 L l) := hD4
             have hT4' : Touch _ none w3 w4 := hT4
             have HN4 : Hid (Nr w4 w.heap.size _ N) := HN3.out.touched hT4' HD3.out.wr.hd.hld (by decide)
             have hB4 : Below w.heap.size w w4 := hB3'.trans (hT4'.below hB3'.size HD3.out.wr.hd.low (fun k hk => by cases hk))
             clear c hD4 hT4 hT4')
          | (go_at_call 20
             refine (wdone_any HD4.out.wr).mono ?_
             rintro e w5 ⟨u5, rfl, hown5, hB5⟩
             obtain ⟨a5, c5, rfl, hy5⟩ := isBytes_own hown5 HD4.out.wr.hd.bd
             have HY5 : Hid (IsBytes w5 a5 l.length c5 l) := hy5
             have HD5 : Hid (Dc w5 w.heap.size p M 60 v L) := HD4.out.dc.later hB5
             have HN5 : Hid (Nr w5 w.heap.size _ N) := HN4.out.later hB5
             have hB5' : Below w.heap.size w w5 := hB4.trans (hB5.mono hB4.size)
             clear hown5 hy5 hB5)
          | (go_at_call 21
             refine (newReader_any a5 l.length c5 l w.heap.size _ HY5.out (by omega) hB5'.size).mono ?_
             rintro e w6 ⟨P, h6, x6, rfl, hR6, hB6⟩
             have HR6 : Hid (Rd w6 w.heap.size P h6 x6 l 0) := hR6
             have HD6 : Hid (Dc w6 w.heap.size p M 60 v L) := HD5.out.later hB6
             have HN6 : Hid (Nr w6 w.heap.size _ N) := HN5.out.later hB6
             have hB6' : Below w.heap.size w w6 := hB5'.trans (hB6.mono hB5'.size)
             clear hR6 hB6)
          | (go_at_call 22
             have c := readD_any HR6.out 60
             unfold ReadAns at c
             rw [HG.out] at c
             refine c.mono ?_
             rintro e w7 ⟨hT7, ⟨h0, -⟩ | ⟨-, p7, M7, v7, rfl, hD7⟩⟩
             · exact absurd rfl h0
             have HT7 : Hid (Rd w7 w.heap.size P h6 x6 l l.length) := hT7.1
             have HD7 : Hid (Dc w7 w6.heap.size p7 M7 60 v7 L) := hD7
             have HE7 : Hid (Dc w7 w.heap.size p M 60 v L) := HD6.out.touched hT7.2 HR6.out.top (by decide) (by decide) (fun k hk => by cases hk)
             have HN7 : Hid (Nr w7 w.heap.size _ N) := HN6.out.touched hT7.2 HR6.out.top (by decide)
             have hB7 : Below w.heap.size w w7 := hB6'.trans (hT7.2.below hB6'.size HR6.out.low (fun k hk => by cases hk))
             clear c hT7 hD7)
          | (go_at_call_of 15 (Value.pointer (some ⟨p7, 0, none⟩))
             refine (lenD_any HD7.out).mono ?_
             rintro e w8 ⟨rfl, hB8⟩
             have HT8 : Hid (Rd w8 w.heap.size P h6 x6 l l.length) := HT7.out.later hB8
             have HD8 : Hid (Dc w8 w6.heap.size p7 M7 60 v7 L) := HD7.out.later hB8
             have HE8 : Hid (Dc w8 w.heap.size p M 60 v L) := HE7.out.later hB8
             have HN8 : Hid (Nr w8 w.heap.size _ N) := HN7.out.later hB8
             have hB8' : Below w.heap.size w w8 := hB7.trans (hB8.mono hB7.size)
             clear hB8)
          | (go_at_call_of 15 (Value.pointer (some ⟨p, 0, none⟩))
             refine (lenD_any HE8.out).mono ?_
             rintro e w9 ⟨rfl, hB9⟩
             have HT9 : Hid (Rd w9 w.heap.size P h6 x6 l l.length) := HT8.out.later hB9
             have HD9 : Hid (Dc w9 w6.heap.size p7 M7 60 v7 L) := HD8.out.later hB9
             have HE9 : Hid (Dc w9 w.heap.size p M 60 v L) := HE8.out.later hB9
             have HN9 : Hid (Nr w9 w.heap.size _ N) := HN8.out.later hB9
             have hB9' : Below w.heap.size w w9 := hB8'.trans (hB9.mono hB8'.size)
             have n9 : ((L.length : Int) != (L.length : Int)) = false := by simp
             clear hB9)
          | (go_at_call 23
             have c := rend_any HT9.out
             rw [if_pos rfl] at c
             refine c.mono ?_
             rintro e w10 ⟨rfl, hB10⟩
             have HD10 : Hid (Dc w10 w6.heap.size p7 M7 60 v7 L) := HD9.out.later hB10
             have HE10 : Hid (Dc w10 w.heap.size p M 60 v L) := HE9.out.later hB10
             have HN10 : Hid (Nr w10 w.heap.size _ N) := HN9.out.later hB10
             have hB10' : Below w.heap.size w w10 := hB9'.trans (hB10.mono hB9'.size)
             clear hB10 c))
        obtain ⟨an, cn, rfl, hcn, hNc⟩ := HN10.out.ints
        clear hNc
        have HNL : Hid (N.length = k) := HF.out.1
        go_loopw [14] (fun kv wr => ∃ j : Nat, kv = .int .i64 (j : Int) ∧ j ≤ N.length ∧ Hid (Dc wr w6.heap.size p7 M7 60 v7 L) ∧ Hid (Dc wr w.heap.size p M 60 v L) ∧ Hid (Nr wr w.heap.size (.slice an N.length cn) N) ∧ Below w.heap.size w wr) (fun kv _ => N.length - (intOf kv).toNat)
        case atStart => exact ⟨0, rfl, Nat.zero_le _, HD10, HE10, HN10, hB10'⟩
        case round =>
          obtain ⟨j, rfl, hj, HDj, HEj, HNj, hBj⟩ := hrel
          by_cases hjN : j < N.length
          · obtain ⟨m, g1, g2, g3⟩ := HF.out.2.2 j hjN
            have HM : Hid (N.getD j 0 = (m : Int) ∧ dgetZ L (m : Int) = (S j, 0)) := by
              refine ⟨g1, ?_⟩
              unfold dgetZ
              rw [if_pos (by omega), Int.toNat_natCast, g3]
            obtain ⟨b0, o0, rfl, hc0⟩ := H0.out (by have := HNL.out; omega)
            have E0 : Hid (w.cell? ⟨b0, o0 + j, none⟩ = some (.string (S j))) := hc0 j (by have := HNL.out; omega)
            have HCN : Hid (∀ W, Nr W w.heap.size (.slice an N.length cn) N → ∃ b, an = some ⟨b, 0, none⟩ ∧ W.cell? ⟨b, 0 + j, none⟩ = some (.int .i64 (m : Int))) := by
              intro W hW
              obtain ⟨a', c', e', _, hh⟩ := hW.ints
              injection e' with e1 _ _
              obtain ⟨b, h1, h2⟩ := hh (by omega)
              exact ⟨b, e1.trans h1, by rw [h2 j hjN, g1]⟩
            obtain ⟨bn, rfl, cj⟩ := HCN.out _ HNj.out
            rw [Nat.zero_add] at cj
            have n1 : ((S j).toList == (S j).toList) = true := by simp
            have hjl : (j : Int) < (len0 : Int) := by have := HNL.out; omega
            clear g1 g2 g3 hc0
            go_wp2_with (first
              | (go_at_call_of 11 (Value.pointer (some ⟨p, 0, none⟩))
                 have c := getD_any HEj.out (m : Int)
                 rw [HM.out.2] at c
                 refine c.mono ?_
                 rintro e w11 ⟨rfl, hB11⟩
                 have HD11 : Hid (Dc w11 w6.heap.size p7 M7 60 v7 L) := HDj.out.later hB11
                 have HE11 : Hid (Dc w11 w.heap.size p M 60 v L) := HEj.out.later hB11
                 have HN11 : Hid (Nr w11 w.heap.size _ N) := HNj.out.later hB11
                 have hB11' : Below w.heap.size w w11 := hBj.trans (hB11.mono hBj.size)
                 have ck := cell_later cj hB11
                 clear hB11 c)
              | (go_at_call_of 11 (Value.pointer (some ⟨p7, 0, none⟩))
                 have c := getD_any HD11.out (m : Int)
                 rw [HM.out.2] at c
                 refine c.mono ?_
                 rintro e w12 ⟨rfl, hB12⟩
                 have HD12 : Hid (Dc w12 w6.heap.size p7 M7 60 v7 L) := HD11.out.later hB12
                 have HE12 : Hid (Dc w12 w.heap.size p M 60 v L) := HE11.out.later hB12
                 have HN12 : Hid (Nr w12 w.heap.size _ N) := HN11.out.later hB12
                 have hB12' : Below w.heap.size w w12 := hB11'.trans (hB12.mono hB11'.size)
                 have f12 := cell_later E0.out hB12'
                 clear hB12 c))
            go_roundw
            case rel => exact ⟨j + 1, by go_num, hjN, HD12, HE12, HN12, hB12'⟩
            case measure => simp [intOf]; omega
          · obtain rfl : j = N.length := by omega
            go_wp2_with (first
              | (go_at_call 8; refine (awake23_any _).mono ?_; rintro e w13 ⟨rfl, hB13⟩))
            go_ret
            exact ⟨rfl, hBj.trans (hB13.mono hBj.size)⟩
end Go.Proofs.Ytjnkplmcopihbaa
