/-
  What dict.Put and the document's Put write: how many, each in its order, up to the first error.
-/
import Derived.Test.YtjnkplmcopihbaaDcRef
import Derived.Test.YtjnkplmcopihbaaReader
namespace Go.Proofs.Ytjnkplmcopihbaa
open Go.RowKit Go.Maps Go.WideMaps

/-- A text's bytes. -/
def txtB (s : ByteArray) : List Int := enc 10 s.size ++ bytesS s
/-- Some texts' bytes, one behind the other, up to the first that there is no room for: the error, the bytes. -/
def putsE (most : Int) : List Int → List ByteArray → Int × List Int
  | l, [] => (0, l)
  | l, s :: r => if putE most l (txtB s) = 0 then putsE most (putL most l (txtB s)) r else (putE most l (txtB s), putL most l (txtB s))
/-- P23.2's Put. -/
def putD (most : Int) (l : List Int) (L : List ByteArray) : Int × List Int :=
  if putE most l (enc 10 L.length) = 0 then putsE most (putL most l (enc 10 L.length)) L else (putE most l (enc 10 L.length), putL most l (enc 10 L.length))
/-- A dictionary is no writer: what a writer's call turns. -/
theorem Dc.touched {w w' : World} {B p M h : Nat} {r : Option Nat} {most : Int} {v : Value} {L : List ByteArray} {c : Array Value} {t : TypeId} (H : Dc w B p M most v L) (T : Touch h r w w') (hh : w.heap[h]? = some (.cells c t (0, 0))) (ht : t ≠ 65) (ht2 : t ≠ 9)
    (hr : ∀ k, r = some k → ∃ d, w.heap[k]? = some (.cells d 5 (0, 0))) : Dc w' B p M most v L := by
  obtain ⟨D, hown, _⟩ := H.nums
  have far : ∀ k c2 t2, w.heap[k]? = some (Obj.cells c2 t2 (0, 0)) → t2 ≠ 5 → t2 ≠ t → w'.heap[k]? = w.heap[k]? := fun k c2 t2 hk h1 h2 => by
    refine T.block k (Array.getElem?_eq_some_iff.1 hk).1 (fun e => ?_) (fun e => ?_)
    · subst e
      rw [hh] at hk
      simp at hk
      exact h2 hk.2.symm
    · obtain ⟨d, hd⟩ := hr k e.symm
      rw [hd] at hk
      simp at hk
      exact h1 hk.2.symm
  refine H.kept (far p _ _ H.top (by decide) fun e => ht e.symm) ?_ fun k hk => ?_
  · refine T.block M H.map_lt (fun e => map_ne hown hh e.symm) fun e => ?_
    obtain ⟨d, hd⟩ := hr M e.symm
    exact map_ne hown hd rfl
  · rcases H.own.2 with ⟨rfl, _⟩ | ⟨g, cap, cur, rfl, _, hg, _⟩
    · cases hk
    · cases hk
      exact far g _ _ hg (by decide) fun e => ht2 e.symm
theorem own_u8 {w : World} {B n k : Nat} {v : Value} {xs : List Value} (h : w.ownsRow B 5 1 v n xs) (hk : v.ownBlock = some k) : ∃ d, w.heap[k]? = some (.cells d 5 (0, 0)) := by
  rcases h.2 with ⟨rfl, _⟩ | ⟨g, cap, cur, rfl, _, hg, _⟩
  · cases hk
  · cases hk
    exact ⟨cur, hg⟩
/-- What is touched of the call's own leaves what was there. -/
theorem Wrote.below {w0 w w' : World} {B p h : Nat} {most : Int} {v : Value} {l x : List Int} {e : Ending} (H : Wr w B p h most v l) (hB : B ≤ w.heap.size) (t : Wrote w B p h most v l x e w') (b : Below B w0 w) : Below B w0 w' := by
  obtain ⟨v', _, _, h3, _⟩ := t
  exact b.trans (h3.below hB H.hd.low fun k hk => (H.hd.own.lt k hk).1)
/-- One touch behind another. -/
theorem Touch.more {h : Nat} {u u1 : Value} {w w1 w2 : World} (t : Touch h u.ownBlock w w1) (m : Moved w u u1) (t2 : Touch h u1.ownBlock w1 w2) : Touch h u.ownBlock w w2 := by
  refine ⟨t2.os.trans t.os, t2.tape.trans t.tape, t2.output.trans t.output, Nat.le_trans t.size t2.size, fun k hk h1 h2 => (t2.block k (Nat.lt_of_lt_of_le hk t.size) h1 fun e => ?_).trans (t.block k hk h1 h2)⟩
  rcases m with m | m
  · exact h2 (e.trans m)
  · have := m k e.symm
    omega
theorem Touch.more0 {h : Nat} {w w1 w2 : World} (t : Touch h none w w1) (t2 : Touch h none w1 w2) : Touch h none w w2 :=
  ⟨t2.os.trans t.os, t2.tape.trans t.tape, t2.output.trans t.output, Nat.le_trans t.size t2.size, fun k hk h1 h2 => (t2.block k (Nat.lt_of_lt_of_le hk t.size) h1 h2).trans (t.block k hk h1 h2)⟩
theorem Moved.refl (w : World) (u : Value) : Moved w u u := .inl rfl
theorem Moved.more {u u1 u2 : Value} {w w1 : World} (m : Moved w u u1) (hs : w.heap.size ≤ w1.heap.size) (m2 : Moved w1 u1 u2) : Moved w u u2 := by
  rcases m2 with m2 | m2
  · rcases m with m | m
    · exact .inl (m2.trans m)
    · exact .inr fun k hk => m k (m2 ▸ hk)
  · exact .inr fun k hk => Nat.le_trans hs (m2 k hk)
/-- A dictionary and a writer. -/
structure Dw (w : World) (B p M P h : Nat) (md mw : Int) (v u : Value) (L : List ByteArray) (l : List Int) : Prop where
  dc : Dc w B p M md v L
  wr : Wr w B P h mw u l
theorem Dw.later {w w' : World} {B p M P h : Nat} {md mw : Int} {v u : Value} {L : List ByteArray} {l : List Int} (D : Dw w B p M P h md mw v u L l) (b : Below w.heap.size w w') : Dw w' B p M P h md mw v u L l := ⟨D.dc.later b, D.wr.later b⟩
theorem Dw.wrote {w w' : World} {B p M P h : Nat} {md mw : Int} {v u : Value} {L : List ByteArray} {l x : List Int} {e : Ending} (D : Dw w B p M P h md mw v u L l) (t : Wrote w B P h mw u l x e w') :
    e = .returned (.int .i64 (putE mw l x)) ∧ ∃ u', Dw w' B p M P h md mw v u' L (putL mw l x) ∧ Touch h u.ownBlock w w' ∧ Moved w u u' := by
  obtain ⟨u', h1, h2, h3, h4⟩ := t
  exact ⟨h1, u', ⟨D.dc.touched h3 D.wr.hd.hld (by decide) (by decide) (fun k hk => own_u8 D.wr.hd.own hk), h2⟩, h3, h4⟩
set_option maxRecDepth 100000 in
set_option maxHeartbeats 2000000 in
theorem putD_any {w : World} {B p M P h : Nat} {md mw : Int} {v u : Value} {L : List ByteArray} {l : List Int} (D : Dw w B p M P h md mw v u L l) (hB : B ≤ w.heap.size) :
    Calls Try.prog 18 #[.pointer (some ⟨p, 0, none⟩), .pointer (some ⟨P, 0, none⟩)] w fun e w' =>
      e = .returned (.int .i64 (putD mw l L).1) ∧ ∃ u', Dw w' B p M P h md mw v u' L (putD mw l L).2 ∧ Touch h u.ownBlock w w' ∧ Moved w u u' := by
  have C1 : Hid (Calls Try.prog 25 _ _ _) := madeD_some p M w D.dc.cell1
  have hL : L.length ≤ 4096 := by have := D.dc.txt.fit; have := D.dc.txt.m1; omega
  have hsz := D.dc.txt.sz
  have HD : Hid (Dw w B p M P h md mw v u L l) := D
  have C2 : Hid (Calls Try.prog 15 _ _ _) := lenD_any D.dc
  clear D
  by_cases he : putE mw l (enc 10 L.length) = 0
  · unfold putD
    rw [if_pos he]
    have HE : Hid (putE mw l (enc 10 L.length) = 0) := he
    clear he
    go_enter Try.func18, Try.ntmps18
    go_wp2_with (first
      | (go_at_call 25; refine C1.out.mono ?_; rintro e w1 ⟨rfl, hw1⟩; replace hw1 := hw1.symm; subst hw1)
      | (go_at_call 15; refine C2.out.mono ?_; rintro e w2 ⟨rfl, hB2⟩; have HD2 : Hid (Dw _ _ _ _ _ _ _ _ _ _ _ _) := HD.out.later hB2; have HB2 : Hid (Below w.heap.size w w2) := hB2; clear hB2)
      | (go_at_call 28
         refine (wnum_any HD2.out.wr (Nat.le_trans hB HB2.out.size) L.length (by omega)).mono ?_
         rintro e w3 t3
         obtain ⟨rfl, u3, hD3, hT3, hM3⟩ := HD2.out.wrote t3
         have HT3 : Hid (Touch h u.ownBlock w w3) := Touch.after HB2.out hT3
         have HM3 : Hid (Moved w u u3) := (Moved.refl w u).more HB2.out.size hM3
         rw [HE.out]
         have HD3 : Hid (Dw _ _ _ _ _ _ _ _ _ _ _ _) := hD3
         clear hD3 t3 hT3 hM3)
      | (go_at_call 27
         obtain ⟨a, cap, hv, -, c⟩ := allD_any HD3.out.dc
         have HV : Hid (v = .slice a L.length cap) := hv
         refine c.mono ?_
         rintro e w4 ⟨rfl, hB4⟩
         have HD4 : Hid (Dw _ _ _ _ _ _ _ _ _ _ _ _) := HD3.out.later hB4
         have HT4 : Hid (Touch h u.ownBlock w w4) := HT3.out.then hB4
         clear hv c hB4))
    clear HD3 HD2 HB2 C1 C2 HD
    go_loopw [23] (fun kv wr => ∃ (k : Nat) (u' : Value) (l' : List Int), kv = .int .i64 (k : Int) ∧ k ≤ L.length ∧ Hid (putsE mw l' (L.drop k) = putsE mw (putL mw l (enc 10 L.length)) L) ∧ Hid (Dw wr B p M P h md mw v u' L l') ∧ Hid (Touch h u.ownBlock w wr) ∧ Hid (Moved w u u')) (fun kv _ => L.length - (intOf kv).toNat)
    case atStart => exact ⟨0, _, _, rfl, Nat.zero_le _, rfl, HD4, HT4, HM3⟩
    case round =>
      obtain ⟨k, u5, l5, rfl, hk, HP, HD5, HT5, HM5⟩ := hrel
      by_cases hkL : k < L.length
      · obtain ⟨a', cap', e', hT, -⟩ := own_txs HD5.out.dc.own
        obtain rfl : a = a' := by
          have e2 := HV.out.symm.trans e'
          injection e2
        obtain ⟨b, o, rfl, hc⟩ := hT (by omega)
        have ck := hc k hkL
        have hzk : (atS L k).size ≤ 256 := hsz _ (by simp [atS, hkL])
        have HQ : Hid (putsE mw l5 (L.drop k) = putsE mw l5 (atS L k :: L.drop (k + 1))) := by
          show _ = _
          rw [List.drop_eq_getElem_cons hkL]
          simp [atS, hkL]
        clear hT hc e'
        by_cases he : putE mw l5 (txtB (atS L k)) = 0
        · have HE : Hid (putE mw l5 (txtB (atS L k)) = 0) := he
          clear he
          go_wp2_with (first
            | (go_at_call 29
               refine (wtext_any HD5.out.wr (Nat.le_trans hB HT5.out.size) (atS L k) (by omega)).mono ?_
               rintro e w6 t6
               obtain ⟨rfl, u6, hD6, hT6, hM6⟩ := HD5.out.wrote t6
               have HT6 : Hid (Touch h u.ownBlock w w6) := HT5.out.more HM5.out hT6
               have HM6 : Hid (Moved w u u6) := HM5.out.more HT5.out.size hM6
               rw [show putE mw l5 (enc 10 (atS L k).size ++ bytesS (atS L k)) = 0 from HE.out]
               have HD6 : Hid (Dw _ _ _ _ _ _ _ _ _ _ _ _) := hD6
               clear hD6 t6 hT6 hM6))
          refine ⟨⟨k + 1, _, _, by go_num, hkL, ?_, HD6, HT6, HM6⟩, by simp [intOf]; omega⟩
          show _ = _
          have e := HQ.out.symm.trans HP.out
          rw [putsE, if_pos HE.out] at e
          exact e
        · have HE : Hid (¬ putE mw l5 (txtB (atS L k)) = 0) := he
          have hne : (putE mw l5 (enc 10 (atS L k).size ++ bytesS (atS L k)) != 0) = true := by simpa [txtB] using he
          clear he
          go_wp2_with (first
            | (go_at_call 29
               refine (wtext_any HD5.out.wr (Nat.le_trans hB HT5.out.size) (atS L k) (by omega)).mono ?_
               rintro e w6 t6
               obtain ⟨rfl, u6, hD6, hT6, hM6⟩ := HD5.out.wrote t6
               have HT6 : Hid (Touch h u.ownBlock w w6) := HT5.out.more HM5.out hT6
               have HM6 : Hid (Moved w u u6) := HM5.out.more HT5.out.size hM6
               have HD6 : Hid (Dw _ _ _ _ _ _ _ _ _ _ _ _) := hD6
               clear hD6 t6 hT6 hM6))
          go_ret
          have e := HQ.out.symm.trans HP.out
          rw [putsE, if_neg HE.out] at e
          rw [← e]
          exact ⟨rfl, _, HD6.out, HT6.out, HM6.out⟩
      · obtain rfl : k = L.length := by omega
        go_wp2_with fail
        go_ret
        have e := HP.out
        rw [List.drop_length, putsE] at e
        rw [← e]
        exact ⟨rfl, _, HD5.out, HT5.out, HM5.out⟩
  · unfold putD
    rw [if_neg he]
    have hne : (putE mw l (enc 10 L.length) == 0) = false := by simpa using he
    have hne2 : (putE mw l (enc 10 L.length) != 0) = true := by simpa using he
    clear he
    go_enter Try.func18, Try.ntmps18
    go_wp2_with (first
      | (go_at_call 25; refine C1.out.mono ?_; rintro e w1 ⟨rfl, hw1⟩; replace hw1 := hw1.symm; subst hw1)
      | (go_at_call 15; refine C2.out.mono ?_; rintro e w2 ⟨rfl, hB2⟩; have HD2 : Hid (Dw _ _ _ _ _ _ _ _ _ _ _ _) := HD.out.later hB2; have HB2 : Hid (Below w.heap.size w w2) := hB2; clear hB2)
      | (go_at_call 28
         refine (wnum_any HD2.out.wr (Nat.le_trans hB HB2.out.size) L.length (by omega)).mono ?_
         rintro e w3 t3
         obtain ⟨rfl, u3, hD3, hT3, hM3⟩ := HD2.out.wrote t3
         have HT3 : Hid (Touch h u.ownBlock w w3) := Touch.after HB2.out hT3
         have HM3 : Hid (Moved w u u3) := (Moved.refl w u).more HB2.out.size hM3
         have HD3 : Hid (Dw _ _ _ _ _ _ _ _ _ _ _ _) := hD3
         clear hD3 t3 hT3 hM3))
    go_ret
    exact ⟨rfl, _, HD3.out, HT3.out, HM3.out⟩
/-- The document's dictionary and its writer. -/
structure Rw2 (w : World) (B q Q : Nat) (md mw : Int) (v u : Value) (L : List ByteArray) (l : List Int) : Prop where
  rc : Rc w B q md v L
  rw : Rw w B Q mw u l
theorem Rc.touched {w w' : World} {B q Q : Nat} {most : Int} {v : Value} {L : List ByteArray} {c : Array Value} {t : TypeId} (H : Rc w B q most v L) (T : Touch Q none w w') (hh : w.heap[Q]? = some (.cells c t (0, 0))) (ht : t ≠ 44) (ht2 : t ≠ 9) : Rc w' B q most v L := by
  have far : ∀ k c2 t2, w.heap[k]? = some (Obj.cells c2 t2 (0, 0)) → t2 ≠ t → w'.heap[k]? = w.heap[k]? := fun k c2 t2 hk h2 => by
    refine T.block k (Array.getElem?_eq_some_iff.1 hk).1 (fun e => ?_) (fun e => by cases e)
    subst e
    rw [hh] at hk
    simp at hk
    exact h2 hk.2.symm
  refine H.kept (far q _ _ H.top fun e => ht e.symm) fun k hk => ?_
  rcases H.own.2 with ⟨rfl, _⟩ | ⟨g, cap, cur, rfl, _, hg, _⟩
  · cases hk
  · cases hk
    exact far g _ _ hg fun e => ht2 e.symm
theorem Rw2.wrote {w w' : World} {B q Q : Nat} {md mw : Int} {v u : Value} {L : List ByteArray} {l x : List Int} {e : Ending} (D : Rw2 w B q Q md mw v u L l) (t : RefWrote w B Q mw u l x e w') :
    e = .returned (.int .i64 (putE mw l x)) ∧ ∃ u', Rw2 w' B q Q md mw v u' L (putL mw l x) ∧ Touch Q none w w' ∧ Moved w u u' := by
  obtain ⟨u', h1, h2, h3, h4⟩ := t
  exact ⟨h1, u', ⟨D.rc.touched h3 D.rw.top (by decide) (by decide), h2⟩, h3, h4⟩
theorem RefWrote.below {w0 w w' : World} {B q : Nat} {most : Int} {v : Value} {l x : List Int} {e : Ending} (H : Rw w B q most v l) (hB : B ≤ w.heap.size) (t : RefWrote w B q most v l x e w') (b : Below B w0 w) : Below B w0 w' := by
  obtain ⟨v', _, _, h3, _⟩ := t
  exact b.trans (h3.below hB H.low fun k hk => by cases hk)
set_option maxRecDepth 100000 in
set_option maxHeartbeats 2000000 in
theorem refPutD_any {w : World} {B q Q : Nat} {md mw : Int} {v u : Value} {L : List ByteArray} {l : List Int} (D : Rw2 w B q Q md mw v u L l) (hB : B ≤ w.heap.size) :
    Calls Try.prog 19 #[.pointer (some ⟨q, 0, none⟩), .pointer (some ⟨Q, 0, none⟩)] w fun e w' =>
      e = .returned (.int .i64 (putD mw l L).1) ∧ ∃ u', Rw2 w' B q Q md mw v u' L (putD mw l L).2 ∧ Touch Q none w w' ∧ Moved w u u' := by
  have hL : L.length ≤ 4096 := by have := D.rc.txt.fit; have := D.rc.txt.m1; omega
  have hsz := D.rc.txt.sz
  obtain ⟨a, cap, rfl, -, -, hl⟩ := own_txs D.rc.own
  have c0 := D.rc.cell0
  have HD : Hid (Rw2 w B q Q md mw _ u L l) := D
  clear D
  have HR : Hid ((putE mw l (enc 10 L.length) = 0 → putsE mw (putL mw l (enc 10 L.length)) (L.drop 0) = putD mw l L) ∧ (¬ putE mw l (enc 10 L.length) = 0 → (putE mw l (enc 10 L.length), putL mw l (enc 10 L.length)) = putD mw l L)) := by
    refine ⟨fun h => ?_, fun h => ?_⟩
    · rw [putD, if_pos h]; rfl
    · rw [putD, if_neg h]
  go_enter Try.func19, Try.ntmps19
  go_wp2_with (first
    | (go_at_call 30
       refine (rwnum_any HD.out.rw hB L.length (by omega)).mono ?_
       rintro e w3 t3
       obtain ⟨rfl, u3, hD3, hT3, hM3⟩ := HD.out.wrote t3
       have HT3 : Hid (Touch Q none w w3) := hT3
       have HM3 : Hid (Moved w u u3) := hM3
       have HD3 : Hid (Rw2 _ _ _ _ _ _ _ _ _ _) := hD3
       clear hD3 t3 hT3 hM3))
  go_loopw [5, 6] (fun ev kv wr => ∃ (k : Nat) (E : Int) (u' : Value) (l' : List Int), ev = .int .i64 E ∧ kv = .int .i64 (k : Int) ∧ k ≤ L.length ∧ Hid ((E = 0 → putsE mw l' (L.drop k) = putD mw l L) ∧ (¬ E = 0 → (E, l') = putD mw l L)) ∧ Hid (Rw2 wr B q Q md mw (.slice a L.length cap) u' L l') ∧ Hid (Touch Q none w wr) ∧ Hid (Moved w u u')) (fun _ kv _ => L.length - (intOf kv).toNat)
  case atStart => exact ⟨0, _, _, _, rfl, rfl, Nat.zero_le _, HR, HD3, HT3, HM3⟩
  case round =>
    obtain ⟨k, E, u5, l5, rfl, rfl, hk, HP, HD5, HT5, HM5⟩ := hrel
    have c5 := HD5.out.rc.cell0
    by_cases hkL : k < L.length
    · by_cases hE : E = 0
      · subst hE
        obtain ⟨a', cap', e', hT, -⟩ := own_txs HD5.out.rc.own
        obtain rfl : a = a' := by injection e'
        obtain ⟨b, o, rfl, hc⟩ := hT (by omega)
        have ck := hc k hkL
        have hzk : (atS L k).size ≤ 256 := hsz _ (by simp [atS, hkL])
        have HQ : Hid (putsE mw l5 (L.drop k) = putsE mw l5 (atS L k :: L.drop (k + 1))) := by
          show _ = _
          rw [List.drop_eq_getElem_cons hkL]
          simp [atS, hkL]
        have HP0 : Hid (putsE mw l5 (L.drop k) = putD mw l L) := HP.out.1 rfl
        clear hT hc e' HP
        go_wp2_with (first
          | (go_at_call 31
             refine (rwtext_any HD5.out.rw (Nat.le_trans hB HT5.out.size) (atS L k) (by omega)).mono ?_
             rintro e w6 t6
             obtain ⟨rfl, u6, hD6, hT6, hM6⟩ := HD5.out.wrote t6
             have HT6 : Hid (Touch Q none w w6) := HT5.out.more0 hT6
             have HM6 : Hid (Moved w u u6) := HM5.out.more HT5.out.size hM6
             have HD6 : Hid (Rw2 _ _ _ _ _ _ _ _ _ _) := hD6
             clear hD6 t6 hT6 hM6))
        have e := HQ.out.symm.trans HP0.out
        refine ⟨⟨k + 1, _, _, _, rfl, by go_num, hkL, ⟨fun h => ?_, fun h => ?_⟩, HD6, HT6, HM6⟩, by simp [intOf]; omega⟩
        · rw [putsE, if_pos (show putE mw l5 (txtB (atS L k)) = 0 from h)] at e
          exact e
        · rw [putsE, if_neg (show ¬ putE mw l5 (txtB (atS L k)) = 0 from h)] at e
          exact e
      · have HE : Hid (¬ E = 0) := hE
        have hne : (E == 0) = false := by simpa using hE
        clear hE
        go_wp2_with fail
        go_ret
        have e := HP.out.2 HE.out
        rw [← e]
        exact ⟨rfl, _, HD5.out, HT5.out, HM5.out⟩
    · obtain rfl : k = L.length := by omega
      go_wp2_with fail
      go_ret
      by_cases hE : E = 0
      · have e := HP.out.1 hE
        rw [List.drop_length, putsE] at e
        rw [← e]
        exact ⟨by rw [hE]; rfl, _, HD5.out, HT5.out, HM5.out⟩
      · rw [← HP.out.2 hE]
        exact ⟨rfl, _, HD5.out, HT5.out, HM5.out⟩
end Go.Proofs.Ytjnkplmcopihbaa
