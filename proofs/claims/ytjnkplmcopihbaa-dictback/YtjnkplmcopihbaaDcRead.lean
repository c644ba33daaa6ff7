/-
  What dict.Read answers, of any bytes: as many texts as are told, each read; wire's first error; ErrForm, if a text comes twice.
-/
import Derived.Test.YtjnkplmcopihbaaDcPut
import Derived.Test.YtjnkplmcopihbaaZBack
namespace Go.Proofs.Ytjnkplmcopihbaa
open Go.RowKit Go.Maps Go.WideMaps

/-- Some texts, read one behind the other into a dictionary: the error, the texts, the place behind. -/
def takeZ (most : Int) (l : List Int) : Nat → List ByteArray → Nat → Int × List ByteArray × Nat
  | 0, L, q => (0, L, q)
  | k + 1, L, q => if (textZ l q 256).2.1 = 0 then takeZ most l k (addZ most L (strOf (textZ l q 256).1)).2.2 (textZ l q 256).2.2 else ((textZ l q 256).2.1, L, (textZ l q 256).2.2)
/-- P23.2's Read: the error, the texts, the place behind. -/
def readD (most : Int) (l : List Int) (q : Nat) : Int × List ByteArray × Nat :=
  if most < 0 ∨ 4096 < most then (1, [], q)
  else if (numZ l q most).2.1 = 0 then
    if (takeZ most l (numZ l q most).1.toNat [] (numZ l q most).2.2).1 = 0 ∧ ((takeZ most l (numZ l q most).1.toNat [] (numZ l q most).2.2).2.1.length : Int) < (numZ l q most).1 then (4, [], (takeZ most l (numZ l q most).1.toNat [] (numZ l q most).2.2).2.2)
    else takeZ most l (numZ l q most).1.toNat [] (numZ l q most).2.2
  else ((numZ l q most).2.1, [], (numZ l q most).2.2)
/-- A dictionary and a reader. -/
structure Dr (w : World) (B C p M P h : Nat) (md : Int) (v x : Value) (L : List ByteArray) (l : List Int) (q : Nat) : Prop where
  dc : Dc w B p M md v L
  rd : Rd w C P h x l q
theorem Dr.took {w w' : World} {B C p M P h : Nat} {md : Int} {v x : Value} {L : List ByteArray} {l : List Int} {q r : Nat} (D : Dr w B C p M P h md v x L l q) (t : Took w C P h x l r w') : Dr w' B C p M P h md v x L l r :=
  ⟨D.dc.touched t.2 D.rd.top (by decide) (by decide) (fun k hk => by cases hk), t.1⟩
theorem Rd.kept {w w' : World} {B p h : Nat} {v : Value} {l : List Int} {q : Nat} (H : Rd w B p h v l q) (h1 : w'.heap[p]? = w.heap[p]?) (h2 : w'.heap[h]? = w.heap[h]?) (h3 : ∀ k, v.ownBlock = some k → w'.heap[k]? = w.heap[k]?) : Rd w' B p h v l q :=
  ⟨h1.trans H.top, H.hd.kept h2 h3, H.low, H.fit, H.m1⟩
theorem Dr.added {w w' : World} {B C p M P h : Nat} {md : Int} {v x : Value} {L : List ByteArray} {l : List Int} {q : Nat} {s : ByteArray} {e : Ending} (D : Dr w B C p M P h md v x L l q) (t : Added w B p M md v L s e w') :
    e = .returned (.tuple #[.int .i64 (addZ md L s).1, .int .i64 (addZ md L s).2.1]) ∧ ∃ v', Dr w' B C p M P h md v' x (addZ md L s).2.2 l q := by
  obtain ⟨v', h1, h2, h3, h4⟩ := t
  obtain ⟨E, hown, _⟩ := D.dc.nums
  have far : ∀ k c t, w.heap[k]? = some (Obj.cells c t (0, 0)) → t ≠ 65 → t ≠ 9 → w'.heap[k]? = w.heap[k]? := fun k c t hk n1 n2 => by
    refine h3.block k (Array.getElem?_eq_some_iff.1 hk).1 (fun e => ?_) (map_ne hown hk) fun e => own_top_ne D.dc.own hk n2 e.symm
    subst e
    have := hk.symm.trans D.dc.top
    simp at this
    exact n1 this.2
  refine ⟨h1, v', h2, D.rd.kept (far P _ _ D.rd.top (by decide) (by decide)) (far h _ _ D.rd.hd.hld (by decide) (by decide)) fun k hk => ?_⟩
  obtain ⟨d, hd⟩ := own_u8 D.rd.hd.own hk
  exact far k _ _ hd (by decide) (by decide)
/-- What is new and what is a reader's place: of what was there nothing turns but block P. -/
theorem touch_new {P : Nat} {w w1 w2 : World} {p M : Nat} {r : Option Nat} (t : Touch P none w w1) (t2 : Tch p M r w1 w2) (h1 : w.heap.size ≤ p) (h2 : w.heap.size ≤ M) (h3 : ∀ k, r = some k → w.heap.size ≤ k) : Touch P none w w2 :=
  ⟨t2.os.trans t.os, t2.tape.trans t.tape, t2.output.trans t.output, Nat.le_trans t.size t2.size, fun k hk n1 n2 => (t2.block k (Nat.lt_of_lt_of_le hk t.size) (by omega) (by omega) (fun e => by have := h3 k e.symm; omega)).trans (t.block k hk n1 n2)⟩
/-- A call of Read. -/
def ReadAns (w : World) (C P h : Nat) (most : Int) (x : Value) (l : List Int) (q : Nat) (e : Ending) (w' : World) : Prop :=
  Took w C P h x l (readD most l q).2.2 w' ∧ ((¬ (readD most l q).1 = 0 ∧ e = .returned (.tuple #[.pointer none, .int .i64 (readD most l q).1])) ∨ ((readD most l q).1 = 0 ∧ ∃ p M v, e = .returned (.tuple #[.pointer (some ⟨p, 0, none⟩), .int .i64 0]) ∧ Dc w' w.heap.size p M most v (readD most l q).2.1))
set_option maxRecDepth 100000 in
set_option maxHeartbeats 1000000 in
theorem readD_no {w : World} {C P h : Nat} {x : Value} {l : List Int} {q : Nat} (H : Rd w C P h x l q) (most : Int) (hno : most < 0 ∨ 4096 < most) :
    Calls Try.prog 22 #[.pointer (some ⟨P, 0, none⟩), .int .i64 most] w (ReadAns w C P h most x l q) := by
  have e : readD most l q = (1, [], q) := if_pos hno
  have C1 : Hid (Calls Try.prog 6 _ _ _) := newD_no most w hno
  have HR : Hid (Rd w C P h x l q) := H
  unfold ReadAns
  rw [e]
  clear hno H e
  go_enter Try.func22, Try.ntmps22
  go_wp2_with (go_at_call 6; refine C1.out.mono ?_; rintro e w1 ⟨rfl, hw1⟩; replace hw1 := hw1.symm; subst hw1)
  go_ret2
  exact ⟨took_none HR.out (Below.refl _ _), .inl ⟨by decide, rfl⟩⟩
theorem numZ_bd {l : List Int} (hb : ∀ j : Nat, 0 ≤ l[j]?.getD 0 ∧ l[j]?.getD 0 ≤ 255) (q : Nat) (most : Int) (h : (numZ l q most).2.1 = 0) : 0 ≤ (numZ l q most).1 ∧ (numZ l q most).1 ≤ most := by
  have d := getZ_bd l (q : Int) hb
  unfold numZ at h ⊢
  split at h
  · next he => exact absurd h he
  · split at h
    · cases h
    · next h1 h2 =>
      rw [if_neg h1, if_neg h2]
      exact ⟨d.1, by dsimp only; omega⟩
theorem textZ_len (l : List Int) (q : Nat) (most : Int) : (textZ l q most).1.length ≤ l.length := by
  unfold textZ
  split
  · simp
  · split
    · simp
    · split
      · simp
      · dsimp only
        rw [List.length_take, List.length_drop]
        omega
theorem addZ_len (most : Int) (L : List ByteArray) (s : ByteArray) : (addZ most L s).2.2.length ≤ L.length + 1 := by
  unfold addZ
  split
  · simp
  · split
    · simp
    · simp
set_option maxRecDepth 100000 in
set_option maxHeartbeats 2000000 in
theorem readD_ok {w : World} {C P h : Nat} {x : Value} {l : List Int} {q : Nat} (H : Rd w C P h x l q) (most : Int) (h0 : 0 ≤ most) (h1 : most ≤ 4096) :
    Calls Try.prog 22 #[.pointer (some ⟨P, 0, none⟩), .int .i64 most] w (ReadAns w C P h most x l q) := by
  have C1 : Hid (Calls Try.prog 6 _ _ _) := newD_ok most w.heap.size w h0 h1 (Nat.le_refl _)
  have HR : Hid (Rd w C P h x l q) := H
  have hZ2 := numZ_bd (rd_bd H.hd) q most
  have hm1 := H.m1
  clear H
  have HA : Hid (readD most l q = if (numZ l q most).2.1 = 0 then
    if (takeZ most l (numZ l q most).1.toNat [] (numZ l q most).2.2).1 = 0 ∧ ((takeZ most l (numZ l q most).1.toNat [] (numZ l q most).2.2).2.1.length : Int) < (numZ l q most).1 then (4, [], (takeZ most l (numZ l q most).1.toNat [] (numZ l q most).2.2).2.2)
    else takeZ most l (numZ l q most).1.toNat [] (numZ l q most).2.2
  else ((numZ l q most).2.1, [], (numZ l q most).2.2)) := if_neg (by omega)
  obtain ⟨⟨n, E, r⟩, hZ⟩ : ∃ z, numZ l q most = z := ⟨_, rfl⟩
  have HZ : Hid (numZ l q most = (n, E, r)) := hZ
  rw [hZ] at HA hZ2
  dsimp only at HA hZ2
  clear hZ
  by_cases hE : E = 0
  · subst hE
    obtain ⟨n0, n1⟩ := hZ2 rfl
    obtain ⟨N, rfl⟩ := Int.eq_ofNat_of_zero_le n0
    have HA2 : Hid (readD most l q = if (takeZ most l N [] r).1 = 0 ∧ ((takeZ most l N [] r).2.1.length : Int) < (N : Int) then (4, [], (takeZ most l N [] r).2.2) else takeZ most l N [] r) := by
      have e := HA.out
      rw [if_pos rfl, Int.toNat_natCast] at e
      exact e
    clear HA hZ2 n0
    go_enter Try.func22, Try.ntmps22
    go_wp2_with (first
      | (go_at_call 6
         refine C1.out.mono ?_
         rintro e w1 ⟨p, M, rfl, hD1, hB1⟩
         have HD1 : Hid (Dr w1 w.heap.size C p M P h most (.slice none 0 0) x [] l q) := ⟨hD1, HR.out.later hB1⟩
         have HB1 : Hid (Below w.heap.size w w1) := hB1
         clear hD1 hB1)
      | (go_at_call 36
         have c := rnum_any HD1.out.rd most
         rw [HZ.out] at c
         refine c.mono ?_
         rintro e w2 ⟨rfl, hT2⟩
         dsimp only at hT2 ⊢
         have HD2 : Hid (Dr w2 w.heap.size C p M P h most (.slice none 0 0) x [] l r) := HD1.out.took hT2
         have HT2 : Hid (Touch P none w w2) := Touch.after HB1.out hT2.2
         clear hT2 c))
    go_loopw [30] (fun kv wr => ∃ (k : Nat) (v : Value) (L : List ByteArray) (r' : Nat), kv = .int .u64 (k : Int) ∧ k ≤ N ∧ Hid (takeZ most l (N - k) L r' = takeZ most l N [] r) ∧ Hid (Dr wr w.heap.size C p M P h most v x L l r') ∧ Hid (Touch P none w wr)) (fun kv _ => N - (intOf kv).toNat)
    case atStart => exact ⟨0, _, _, _, rfl, Nat.zero_le _, rfl, HD2, HT2⟩
    case round =>
      obtain ⟨k, v, L, r', rfl, hk, HK, HD, HT⟩ := hrel
      by_cases hkN : k < N
      · have HQ : Hid (takeZ most l (N - k) L r' = takeZ most l (N - (k + 1) + 1) L r') := by
          show _ = _
          rw [show N - (k + 1) + 1 = N - k by omega]
        have hlen := textZ_len l r' 256
        obtain ⟨⟨t, E, r2⟩, hX⟩ : ∃ z, textZ l r' 256 = z := ⟨_, rfl⟩
        have HX : Hid (textZ l r' 256 = (t, E, r2)) := hX
        rw [hX] at hlen
        dsimp only at hlen
        clear hX
        by_cases hE : E = 0
        · subst hE
          have hst : (strOf t).size ≤ maxLen := by rw [strOf_size]; unfold maxLen; omega
          have HS : Hid ((strOf t).size ≤ maxLen) := hst
          clear hst
          go_wp2_with (first
            | (go_at_call 37
               have c := rtext_any HD.out.rd 256 (by omega)
               rw [HX.out] at c
               refine c.mono ?_
               rintro e w3 ⟨rfl, hT3⟩
               dsimp only at hT3 ⊢
               have HD3 : Hid (Dr w3 w.heap.size C p M P h most v x L l r2) := HD.out.took hT3
               have HT3 : Hid (Touch P none w w3) := HT.out.more0 hT3.2
               clear hT3 c)
            | (go_at_call 9
               refine (addD_any HD3.out.dc HT3.out.size (strOf t) HS.out).mono ?_
               rintro e w4 t4
               have HT4 : Hid (Touch P none w w4) := by
                 obtain ⟨_, _, _, h4, _⟩ := t4
                 exact touch_new HT3.out h4 HD3.out.dc.low HD3.out.dc.lowM (fun k hk => (HD3.out.dc.own.lt k hk).1)
               obtain ⟨rfl, v4, hD4⟩ := HD3.out.added t4
               have HD4 : Hid (Dr _ _ _ _ _ _ _ _ _ _ _ _ _) := hD4
               clear hD4 t4))
          refine ⟨⟨k + 1, _, _, _, by go_num, hkN, ?_, HD4, HT4⟩, by simp [intOf]; omega⟩
          show _ = _
          have e := HQ.out.symm.trans HK.out
          rw [takeZ, if_pos (by rw [HX.out]), HX.out] at e
          exact e
        · have HE : Hid (¬ E = 0) := hE
          have hne : (E != 0) = true := by simpa using hE
          clear hE
          go_wp2_with (first
            | (go_at_call 37
               have c := rtext_any HD.out.rd 256 (by omega)
               rw [HX.out] at c
               refine c.mono ?_
               rintro e w3 ⟨rfl, hT3⟩
               dsimp only at hT3 ⊢
               have HD3 : Hid (Dr w3 w.heap.size C p M P h most v x L l r2) := HD.out.took hT3
               have HT3 : Hid (Touch P none w w3) := HT.out.more0 hT3.2
               clear hT3 c))
          go_ret2
          have e := HQ.out.symm.trans HK.out
          rw [takeZ, if_neg (by rw [HX.out]; exact HE.out), HX.out] at e
          dsimp only at e
          have e2 := HA2.out
          rw [← e] at e2
          dsimp only at e2
          rw [if_neg (fun h => HE.out h.1)] at e2
          unfold ReadAns
          rw [e2]
          exact ⟨⟨HD3.out.rd, HT3.out⟩, .inl ⟨HE.out, rfl⟩⟩
      · obtain rfl : k = N := by omega
        by_cases hl : (L.length : Int) < (k : Int)
        · go_wp2_with (first
            | (go_at_call 15
               refine (lenD_any HD.out.dc).mono ?_
               rintro e w3 ⟨rfl, hB3⟩))
          go_ret2
          have e := HK.out
          rw [Nat.sub_self, takeZ] at e
          have e2 := HA2.out
          rw [← e] at e2
          dsimp only at e2
          rw [if_pos ⟨rfl, hl⟩] at e2
          unfold ReadAns
          rw [e2]
          exact ⟨⟨HD.out.rd.later hB3, HT.out.then hB3⟩, .inl ⟨(by show ¬ (4 : Int) = 0; decide), rfl⟩⟩
        · go_wp2_with (first
            | (go_at_call 15
               refine (lenD_any HD.out.dc).mono ?_
               rintro e w3 ⟨rfl, hB3⟩))
          go_ret2
          have e := HK.out
          rw [Nat.sub_self, takeZ] at e
          have e2 := HA2.out
          rw [← e] at e2
          dsimp only at e2
          rw [if_neg (by omega)] at e2
          unfold ReadAns
          rw [e2]
          exact ⟨⟨HD.out.rd.later hB3, HT.out.then hB3⟩, .inr ⟨rfl, _, _, _, rfl, HD.out.dc.later hB3⟩⟩
  · have hne : (E != 0) = true := by simpa using hE
    have HE : Hid (¬ E = 0) := hE
    have HA2 : Hid (readD most l q = (E, [], r)) := by
      have e := HA.out
      rw [if_neg hE] at e
      exact e
    clear HA hZ2 hE
    unfold ReadAns
    rw [HA2.out]
    go_enter Try.func22, Try.ntmps22
    go_wp2_with (first
      | (go_at_call 6
         refine C1.out.mono ?_
         rintro e w1 ⟨p, M, rfl, hD1, hB1⟩
         have HR1 : Hid (Rd w1 C P h x l q) := HR.out.later hB1
         have HB1 : Hid (Below w.heap.size w w1) := hB1
         clear hD1 hB1)
      | (go_at_call 36
         have c := rnum_any HR1.out most
         rw [HZ.out] at c
         refine c.mono ?_
         rintro e w2 ⟨rfl, hT2⟩
         dsimp only at hT2 ⊢
         have HT2 : Hid (Took w C P h x l r w2) := ⟨hT2.1, Touch.after HB1.out hT2.2⟩
         clear hT2 c))
    go_ret2
    exact ⟨HT2.out, .inl ⟨HE.out, rfl⟩⟩
theorem readD_any {w : World} {C P h : Nat} {x : Value} {l : List Int} {q : Nat} (H : Rd w C P h x l q) (most : Int) :
    Calls Try.prog 22 #[.pointer (some ⟨P, 0, none⟩), .int .i64 most] w (ReadAns w C P h most x l q) := by
  by_cases hno : most < 0 ∨ 4096 < most
  · exact readD_no H most hno
  · exact readD_ok H most (by omega) (by omega)
end Go.Proofs.Ytjnkplmcopihbaa
