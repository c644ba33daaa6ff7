/-
  What a wire.Reader that NewReader made answers (P2.2): each call takes what it tells; an error takes nothing.
-/
import Derived.Test.YtjnkplmcopihbaaWriter
namespace Go.Proofs.Ytjnkplmcopihbaa
open Go.RowKit

/-- A reader: block p points to block h, which holds the bytes l, of which 'at_' were taken. -/
structure Rd (w : World) (B p h : Nat) (v : Value) (l : List Int) (q : Nat) : Prop where
  top : w.heap[p]? = some (.cells #[.pointer (some ⟨h, 0, none⟩), .int .i64 (q : Int)] 83 (0, 0))
  hd : Hd w B h v l
  low : B ≤ p
  fit : q ≤ l.length
  m1 : l.length ≤ 140737488355328
theorem Rd.lt {w : World} {B p h : Nat} {v : Value} {l : List Int} {q : Nat} (H : Rd w B p h v l q) : p < w.heap.size := (Array.getElem?_eq_some_iff.1 H.top).1
theorem Rd.cell0 {w : World} {B p h : Nat} {v : Value} {l : List Int} {q : Nat} (H : Rd w B p h v l q) : w.cell? ⟨p, 0, none⟩ = some (.pointer (some ⟨h, 0, none⟩)) := by simp [World.cell?, H.top]
theorem Rd.cell1 {w : World} {B p h : Nat} {v : Value} {l : List Int} {q : Nat} (H : Rd w B p h v l q) : w.cell? ⟨p, 1, none⟩ = some (.int .i64 (q : Int)) := by simp [World.cell?, H.top]
theorem Rd.frozen {w : World} {B p h : Nat} {v : Value} {l : List Int} {q : Nat} (H : Rd w B p h v l q) : w.frozen? ⟨p, 1, none⟩ = false := by simp [World.frozen?, H.top]
theorem Rd.later {w w' : World} {B p h : Nat} {v : Value} {l : List Int} {q : Nat} (H : Rd w B p h v l q) (b : Below w.heap.size w w') : Rd w' B p h v l q :=
  ⟨(b.block p H.lt).trans H.top, H.hd.later b, H.low, H.fit, H.m1⟩
theorem Rd.ne {w : World} {B p h : Nat} {v : Value} {l : List Int} {q : Nat} (H : Rd w B p h v l q) : p ≠ h := by
  intro e
  subst e
  have := H.top.symm.trans H.hd.hld
  simp at this
/-- The place is moved on. -/
theorem Rd.set {w : World} {B p h : Nat} {v : Value} {l : List Int} {q : Nat} (H : Rd w B p h v l q) (r : Nat) (hr : r ≤ l.length) : Rd (w.setCell ⟨p, 1, none⟩ (.int .i64 (r : Int))) B p h v l r := by
  refine ⟨by simp [World.setCell, Array.getElem?_modify, H.top], H.hd.kept ?_ fun k hk => ?_, H.low, hr, H.m1⟩
  · exact Below.heap_setCell _ _ _ _ (fun e => H.ne e.symm)
  · exact Below.heap_setCell _ _ _ _ (fun e => own_apart H.hd.own H.top (by decide) (by rw [hk]; exact congrArg some e))
theorem touch_set (w : World) (p : Nat) (u : Value) : Touch p none w (w.setCell ⟨p, 1, none⟩ u) :=
  ⟨rfl, rfl, rfl, by simp [World.setCell], fun k _ hk _ => Below.heap_setCell _ _ _ _ hk⟩

theorem Touch.then {h : Nat} {r : Option Nat} {w w1 w2 : World} (t : Touch h r w w1) (b : Below w1.heap.size w1 w2) : Touch h r w w2 :=
  ⟨b.os.trans t.os, b.tape.trans t.tape, b.output.trans t.output, Nat.le_trans t.size b.size, fun k hk h1 h2 => (b.block k (Nat.lt_of_lt_of_le hk t.size)).trans (t.block k hk h1 h2)⟩
/-- A call of a reader that leaves it at place r. -/
def Took (w : World) (B p h : Nat) (v : Value) (l : List Int) (r : Nat) (w' : World) : Prop := Rd w' B p h v l r ∧ Touch p none w w'
theorem took_none {w w' : World} {B p h : Nat} {v : Value} {l : List Int} {q : Nat} (H : Rd w B p h v l q) (b : Below w.heap.size w w') : Took w B p h v l q w' := ⟨H.later b, Touch.of b⟩

set_option maxHeartbeats 400000 in
theorem newReader_any (a : Option Addr) (len cap : Nat) (zs : List Int) (B : Nat) (w : World) (h : IsBytes w a len cap zs) (hlen : len ≤ 140737488355328) (hB : B ≤ w.heap.size) :
    Calls Try.prog 21 #[.slice a len cap] w fun e w' => ∃ p q v, e = .returned (.pointer (some ⟨p, 0, none⟩)) ∧ Rd w' B p q v zs 0 ∧ Below w.heap.size w w' := by
  have hl := h.1
  have hbd := mem_bd h.2.2.2.2.1
  have C : Hid (Calls Try.prog 33 _ _ _) := clone_any a len cap zs w h hlen
  clear h
  go_enter Try.func21, Try.ntmps21
  go_wp2_with (go_at_call 33; refine C.out.mono ?_; rintro e w1 ⟨v, rfl, hown1, hB1⟩; obtain ⟨a1, c1, rfl⟩ := own_slice hown1)
  go_ret
  have hs := hB1.size
  refine ⟨_, w1.heap.size, _, rfl, ⟨two_top w1 _ _, ⟨two_low w1 _ _, ?_, hbd, by omega⟩, by omega, Nat.zero_le _, by omega⟩, ?_⟩
  · have ho : ((w1.alloc (.cells #[.slice a1 len c1] 72)).alloc (.cells #[.pointer (some ⟨w1.heap.size, 0, none⟩), .int .i64 0] 83)).ownsRow w.heap.size 5 1 (.slice a1 len c1) len (cellsOf zs) := (hown1.alloc _).alloc _
    rw [hl]
    refine ⟨ho.1, ?_⟩
    rcases ho.2 with hn | ⟨g, cap2, cur, e1, e2, rest⟩
    · exact .inl hn
    · exact .inr ⟨g, cap2, cur, e1, by omega, rest⟩
  · exact (hB1.alloc hs _).alloc (by simp; omega) _

set_option maxHeartbeats 1000000 in
theorem rnumber_any {w : World} {B p h : Nat} {v : Value} {l : List Int} {q : Nat} (H : Rd w B p h v l q) :
    Calls Try.prog 44 #[.pointer (some ⟨p, 0, none⟩)] w fun e w' => e = .returned (.tuple #[.int .u64 (getZ l q).1, .int .i64 (getZ l q).2.1, .int .i64 (getZ l q).2.2]) ∧ Below w.heap.size w w' := by
  obtain ⟨a1, c1, rfl, hy⟩ := H.hd.bytes
  have C1 : Hid (Calls Try.prog 38 _ _ _) := rmade_some p h w H.cell0
  have c2 : ∀ n, Calls Try.prog 48 _ (w.drewN n) _ := fun n => get_any a1 l.length c1 l (q : Int) (w.drewN n) (hy.later (below_drewN w n))
  generalize getZ l (q : Int) = g at c2 ⊢
  obtain ⟨g1, g2, g3⟩ := g
  dsimp only at c2 ⊢
  have C2 : Hid (∀ n, Calls Try.prog 48 _ (w.drewN n) _) := c2
  have c0 := H.cell0
  have c1 := H.cell1
  have c3 := H.hd.cell
  clear H hy c2
  go_enter Try.func44, Try.ntmps44
  go_wp2_with (go_at_call 38; refine C1.out.mono ?_; rintro e w1 ⟨rfl, hw1⟩; replace hw1 := hw1.symm; subst hw1)
  go_quiet (first | (go_at_call 48; exact Calls.quiet_of_same (C2.out _)))
  go_wp2
  go_ret3
  exact ⟨rfl, below_drewN w nq⟩

/-- P2.2's Num: the number, the error, the place behind it. -/
def numZ (l : List Int) (q : Nat) (most : Int) : Int × Int × Nat :=
  if (getZ l q).2.2 ≠ 0 then (0, (getZ l q).2.2, q) else if most < (getZ l q).1 then (0, 4, q) else ((getZ l q).1, 0, (getZ l q).2.1.toNat)
theorem rd_bd {w : World} {B h : Nat} {v : Value} {l : List Int} (H : Hd w B h v l) : ∀ j : Nat, 0 ≤ l[j]?.getD 0 ∧ l[j]?.getD 0 ≤ 255 := by
  obtain ⟨_, _, _, hy⟩ := H.bytes
  exact hy.2.2.2.2.1

set_option maxHeartbeats 1000000 in
theorem rnum_any {w : World} {B p h : Nat} {v : Value} {l : List Int} {q : Nat} (H : Rd w B p h v l q) (most : Int) :
    Calls Try.prog 36 #[.pointer (some ⟨p, 0, none⟩), .int .u64 most] w fun e w' =>
      e = .returned (.tuple #[.int .u64 (numZ l q most).1, .int .i64 (numZ l q most).2.1]) ∧ Took w B p h v l (numZ l q most).2.2 w' := by
  have d := getZ_bd l (q : Int) (rd_bd H.hd)
  have c := rnumber_any H
  unfold numZ
  generalize getZ l (q : Int) = g at c d ⊢
  obtain ⟨n, r, e⟩ := g
  dsimp only at c d ⊢
  obtain ⟨_, _, d2, d3, _, _, _⟩ := d
  obtain ⟨r, rfl⟩ := Int.eq_ofNat_of_zero_le d2
  have C : Hid (Calls Try.prog 44 _ _ _) := c
  have HR : Hid (Rd w B p h v l q) := H
  clear c H
  by_cases he : e = 0
  · subst he
    by_cases hm : most < n
    · simp only [ne_eq, not_true_eq_false, if_false, hm, if_true]
      go_enter Try.func36, Try.ntmps36
      go_wp2_with (go_at_call 44; refine C.out.mono ?_; rintro e w1 ⟨rfl, hB1⟩)
      go_ret2
      exact ⟨rfl, took_none HR.out hB1⟩
    · simp only [ne_eq, not_true_eq_false, if_false, hm, Int.toNat_natCast]
      go_enter Try.func36, Try.ntmps36
      go_wp2_with (go_at_call 44; refine C.out.mono ?_; rintro e w1 ⟨rfl, hB1⟩; have hc1 := (HR.out.later hB1).cell1; have hf1 := (HR.out.later hB1).frozen)
      go_ret2
      exact ⟨rfl, (HR.out.later hB1).set r (by omega), Touch.after hB1 (touch_set _ _ _)⟩
  · have he' : (e != 0) = true := by simpa using he
    simp only [ne_eq, he, not_false_eq_true, if_true]
    go_enter Try.func36, Try.ntmps36
    go_wp2_with (go_at_call 44; refine C.out.mono ?_; rintro e w1 ⟨rfl, hB1⟩)
    go_ret2
    exact ⟨rfl, took_none HR.out hB1⟩

/-- The bytes from i to j, in every world that has drawn since. -/
theorem cut_quiet {w : World} {B h : Nat} {v : Value} {l : List Int} (H : Hd w B h v l) (i j : Nat) (hij : i ≤ j) (hj : j ≤ l.length) :
    ∃ a, IsBytes w a (j - i) (j - i) ((l.drop i).take (j - i)) ∧ ∀ n, Calls Try.prog 34 #[.pointer (some ⟨h, 0, none⟩), .int .i64 (i : Int), .int .i64 (j : Int)] (w.drewN n) fun e w' => e = .returned (.slice a (j - i) (j - i)) ∧ w' = w.drewN n := by
  have hc := H.cell
  have hr : ∀ k : Nat, 0 ≤ ((l.drop i).take (j - i))[k]?.getD 0 ∧ ((l.drop i).take (j - i))[k]?.getD 0 ≤ 255 := by
    intro k
    by_cases hk : k < ((l.drop i).take (j - i)).length
    · rw [List.getElem?_eq_getElem hk]
      exact H.bd _ (List.mem_of_mem_drop (List.mem_of_mem_take (List.getElem_mem hk)))
    · rw [List.getElem?_eq_none (by omega)]; simp
  have hlen : ((l.drop i).take (j - i)).length = j - i := by simp; omega
  rcases H.own.2 with ⟨rfl, h0⟩ | ⟨g, cap, cur, rfl, _, hg, hle, hm, hsz, ht⟩
  · obtain rfl : j = 0 := by omega
    obtain rfl : i = 0 := by omega
    exact ⟨none, ⟨hlen, Nat.le_refl _, Nat.zero_le _, fun _ => rfl, hr, fun h => by omega⟩, fun n => cut_none h (w.drewN n) hc⟩
  · by_cases e : i = j
    · subst e
      rw [Nat.sub_self] at hlen hr ⊢
      exact ⟨_, ⟨hlen, Nat.le_refl _, Nat.zero_le _, (by intro h; cases h), hr, fun h => by omega⟩, fun n => cut_same h g _ cap i (w.drewN n) hc (by omega)⟩
    · refine ⟨_, ⟨hlen, Nat.le_refl _, by omega, (by intro h; cases h), hr, fun _ => ⟨g, i, rfl, fun k hk => ?_⟩⟩, fun n => cut_some h g _ cap i j (w.drewN n) hc (by omega) (by omega)⟩
      have hk1 : i + k < l.length := by omega
      have hk2 : cur.toList[i + k]? = some (.int .u8 l[i + k]) := by
        have : (cur.toList.take (l.length * 1))[i + k]? = some (.int .u8 l[i + k]) := by rw [ht]; simp [cellsOf, hk1]
        rw [List.getElem?_take] at this
        split at this
        · exact this
        · cases this
      simp at hk2
      simp [World.cell?, hg, hk2, hk1, List.getElem?_drop, hk]

/-- P2.2's Text: the bytes, the error, the place behind them. -/
def textZ (l : List Int) (q : Nat) (most : Int) : List Int × Int × Nat :=
  if (getZ l q).2.2 ≠ 0 then ([], (getZ l q).2.2, q)
  else if (l.length : Int) - (getZ l q).2.1 < (getZ l q).1 then ([], 3, q)
  else if most < (getZ l q).1 then ([], 4, q)
  else ((l.drop (getZ l q).2.1.toNat).take (getZ l q).1.toNat, 0, (getZ l q).2.1.toNat + (getZ l q).1.toNat)

set_option maxHeartbeats 1000000 in
theorem rtext_any {w : World} {B p h : Nat} {v : Value} {l : List Int} {q : Nat} (H : Rd w B p h v l q) (most : Int) (hmost : most < 9223372036854775808) :
    Calls Try.prog 37 #[.pointer (some ⟨p, 0, none⟩), .int .i64 most] w fun e w' =>
      e = .returned (.tuple #[.string (strOf (textZ l q most).1), .int .i64 (textZ l q most).2.1]) ∧ Took w B p h v l (textZ l q most).2.2 w' := by
  have d := getZ_bd l (q : Int) (rd_bd H.hd)
  have c := rnumber_any H
  have hm1 := H.m1
  unfold textZ
  generalize getZ l (q : Int) = g at c d ⊢
  obtain ⟨n, r, e⟩ := g
  dsimp only at c d ⊢
  obtain ⟨d0, d1, d2, d3, _, _, _⟩ := d
  obtain ⟨r, rfl⟩ := Int.eq_ofNat_of_zero_le d2
  have C : Hid (Calls Try.prog 44 _ _ _) := c
  have HR : Hid (Rd w B p h v l q) := H
  clear c H
  by_cases he : e = 0
  · subst he
    by_cases hs : (l.length : Int) - (r : Int) < n
    · simp only [ne_eq, not_true_eq_false, if_false, hs, if_true]
      obtain ⟨a1, c1, ev⟩ := own_slice HR.out.hd.own
      go_enter Try.func37, Try.ntmps37
      go_wp2_with (first
        | (go_at_call 44; refine C.out.mono ?_; rintro e w1 ⟨rfl, hB1⟩; have hc0 := (HR.out.later hB1).cell0; have hc2 := (HR.out.later hB1).hd.cell; rw [ev] at hc2)
        | (go_at_call 35; refine (size_held h l.length c1 a1 _ hc2).mono ?_; rintro e w2 ⟨rfl, hw2⟩; replace hw2 := hw2.symm; subst hw2))
      go_ret2
      exact ⟨rfl, took_none HR.out hB1⟩
    · obtain ⟨a1, c1, ev⟩ := own_slice HR.out.hd.own
      obtain ⟨t, ht⟩ : ∃ t : Nat, (l.length : Int) - (r : Int) = (t : Int) := ⟨l.length - r, by omega⟩
      rw [ht] at hs ⊢
      have hs' : n ≤ (t : Int) := by omega
      have HT : Hid (r + t = l.length) := by show _ = _; omega
      clear d3
      by_cases hm : most < n
      · simp only [ne_eq, not_true_eq_false, if_false, hs, hm, if_true]
        clear hs
        by_cases hm0 : most < 0
        · go_enter Try.func37, Try.ntmps37
          go_wp2_with (first
            | (go_at_call 44; refine C.out.mono ?_; rintro e w1 ⟨rfl, hB1⟩; have hc0 := (HR.out.later hB1).cell0; have hc2 := (HR.out.later hB1).hd.cell; rw [ev] at hc2)
            | (go_at_call 35; refine (size_held h l.length c1 a1 _ hc2).mono ?_; rintro e w2 ⟨rfl, hw2⟩; replace hw2 := hw2.symm; subst hw2))
          go_ret2
          exact ⟨rfl, took_none HR.out hB1⟩
        · go_enter Try.func37, Try.ntmps37
          go_wp2_with (first
            | (go_at_call 44; refine C.out.mono ?_; rintro e w1 ⟨rfl, hB1⟩; have hc0 := (HR.out.later hB1).cell0; have hc2 := (HR.out.later hB1).hd.cell; rw [ev] at hc2)
            | (go_at_call 35; refine (size_held h l.length c1 a1 _ hc2).mono ?_; rintro e w2 ⟨rfl, hw2⟩; replace hw2 := hw2.symm; subst hw2))
          go_ret2
          exact ⟨rfl, took_none HR.out hB1⟩
      · simp only [ne_eq, not_true_eq_false, if_false, hs, hm, Int.toNat_natCast]
        clear hs
        have hm2 : 0 ≤ most := by omega
        have hm3 : n ≤ most := by omega
        obtain ⟨j, hj⟩ : ∃ j : Nat, (r : Int) + n = (j : Int) := ⟨r + n.toNat, by omega⟩
        have hj1 : r ≤ j := by omega
        have hj2 : j ≤ l.length := by have := HT.out; omega
        have hj3 : (j : Int) ≤ 140737488355328 := by omega
        have hn4 : n ≤ 140737488355328 := by omega
        have hk1 : n.toNat = j - r := by omega
        have hk2 : r + n.toNat = j := by omega
        rw [hk2, hk1]
        clear hm hk1 hk2
        go_enter Try.func37, Try.ntmps37
        go_wp2_with (first
          | (go_at_call 44
             refine C.out.mono ?_
             rintro e w1 ⟨rfl, hB1⟩
             have hc0 := (HR.out.later hB1).cell0
             have hc2 := (HR.out.later hB1).hd.cell
             rw [ev] at hc2
             have hc1 := (HR.out.later hB1).cell1
             have hf1 := (HR.out.later hB1).frozen)
          | (go_at_call 35; refine (size_held h l.length c1 a1 _ hc2).mono ?_; rintro e w2 ⟨rfl, hw2⟩; replace hw2 := hw2.symm; subst hw2))
        have hRW := (HR.out.later hB1).set j hj2
        have hTW := Touch.after (h := p) (r := none) hB1 (touch_set w1 p (.int .i64 (j : Int)))
        generalize w1.setCell ⟨p, 1, none⟩ (.int .i64 (j : Int)) = W at hRW hTW ⊢
        have HRW : Hid (Rd W B p h v l j) := hRW
        have HTW : Hid (Touch p none w W) := hTW
        have hd0 := hRW.cell0
        have hd1 := hRW.cell1
        obtain ⟨a5, hb5, hcut⟩ := cut_quiet hRW.hd r j hj1 hj2
        have hconv : ∀ n, (convert 53 9 (.slice a5 (j - r) (j - r))).run Try.prog (W.drewN n) = .ok (.string (strOf ((l.drop r).take (j - r)))) (W.drewN n) := fun n => conv_in (hb5.later (below_drewN W n))
        obtain ⟨S, hS⟩ : ∃ S, S = strOf ((l.drop r).take (j - r)) := ⟨_, rfl⟩
        have HS : Hid (S = strOf ((l.drop r).take (j - r))) := hS
        rw [← hS] at hconv
        clear hS
        generalize j - r = y at hconv hcut
        have HC : Hid (∀ n, Calls Try.prog 34 _ (W.drewN n) _) := hcut
        clear hRW hTW hb5 hcut hc0 hc2 hc1 hf1 hB1
        go_quiet (first | (go_at_call 34; exact Calls.quiet_of_same (HC.out _)))
        go_wp2
        go_ret2
        rw [← HS.out]
        exact ⟨rfl, HRW.out.later (below_drewN W nq), HTW.out.then (below_drewN W nq)⟩
  · have he' : (e != 0) = true := by simpa using he
    simp only [ne_eq, he, not_false_eq_true, if_true]
    go_enter Try.func37, Try.ntmps37
    go_wp2_with (go_at_call 44; refine C.out.mono ?_; rintro e w1 ⟨rfl, hB1⟩)
    go_ret2
    exact ⟨rfl, took_none HR.out hB1⟩

theorem take_one (l : List Int) (q : Nat) (h : q < l.length) : (l.drop q).take 1 = [l[q]?.getD 0] := by
  rw [List.drop_eq_getElem_cons h, List.getElem?_eq_getElem h]; rfl
/-- P2.2's Byte. -/
def byteZ (l : List Int) (q : Nat) : Int × Int × Nat := if q = l.length then (0, 3, q) else (l[q]?.getD 0, 0, q + 1)
set_option maxHeartbeats 1000000 in
theorem rend_any {w : World} {B p h : Nat} {v : Value} {l : List Int} {q : Nat} (H : Rd w B p h v l q) :
    Calls Try.prog 23 #[.pointer (some ⟨p, 0, none⟩)] w fun e w' => e = .returned (.int .i64 (if q = l.length then 0 else 4)) ∧ Below w.heap.size w w' := by
  obtain ⟨a1, k1, ev⟩ := own_slice H.hd.own
  have hfit := H.fit
  have C1 : Hid (Calls Try.prog 38 _ _ _) := rmade_some p h w H.cell0
  have C2 : Hid (∀ n, Calls Try.prog 35 #[.pointer (some ⟨h, 0, none⟩)] (w.drewN n) _) := fun n => size_held h l.length k1 a1 (w.drewN n) (by have := H.hd.cell; rw [ev] at this; exact this)
  have c0 := H.cell0
  have c1 := H.cell1
  clear H
  obtain ⟨L, hL⟩ : ∃ L : Int, (l.length : Int) = L := ⟨_, rfl⟩
  obtain ⟨Q, hQ⟩ : ∃ Q : Int, (q : Int) = Q := ⟨_, rfl⟩
  rw [hL] at C2
  rw [hQ] at c1
  by_cases hq : q = l.length
  · rw [if_pos hq]
    have hlt : ¬ Q < L := by omega
    clear hL hQ hq hfit
    go_enter Try.func23, Try.ntmps23
    go_wp2_with (go_at_call 38; refine C1.out.mono ?_; rintro e w1 ⟨rfl, hw1⟩; replace hw1 := hw1.symm; subst hw1)
    go_quiet (first | (go_at_call 35; exact Calls.quiet_of_same (C2.out _)))
    go_wp2
    go_ret
    exact ⟨rfl, below_drewN w nq⟩
  · rw [if_neg hq]
    have hlt : Q < L := by omega
    clear hL hQ hq hfit
    go_enter Try.func23, Try.ntmps23
    go_wp2_with (go_at_call 38; refine C1.out.mono ?_; rintro e w1 ⟨rfl, hw1⟩; replace hw1 := hw1.symm; subst hw1)
    go_quiet (first | (go_at_call 35; exact Calls.quiet_of_same (C2.out _)))
    go_wp2
    go_ret
    exact ⟨rfl, below_drewN w nq⟩
end Go.Proofs.Ytjnkplmcopihbaa
