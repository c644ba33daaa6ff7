/-
  What the document's Writer (haruspexref02) answers: each call puts its bytes behind the others, or answers ErrLong and writes nothing.
-/
import Derived.Test.YtjnkplmcopihbaaWriter
namespace Go.Proofs.Ytjnkplmcopihbaa
open Go.RowKit

/-- The document's writer: block q holds the slice v of the bytes l, and the bound. -/
structure Rw (w : World) (B q : Nat) (most : Int) (v : Value) (l : List Int) : Prop where
  top : w.heap[q]? = some (.cells #[v, .int .i64 most] 56 (0, 0))
  own : w.ownsRow B 5 1 v l.length (cellsOf l)
  bd : ∀ c ∈ l, 0 ≤ c ∧ c ≤ 255
  low : B ≤ q
  fit : (l.length : Int) ≤ most
  m1 : most ≤ 65536
theorem Rw.lt {w : World} {B q : Nat} {most : Int} {v : Value} {l : List Int} (H : Rw w B q most v l) : q < w.heap.size := (Array.getElem?_eq_some_iff.1 H.top).1
theorem Rw.cell0 {w : World} {B q : Nat} {most : Int} {v : Value} {l : List Int} (H : Rw w B q most v l) : w.cell? ⟨q, 0, none⟩ = some v := by simp [World.cell?, H.top]
theorem Rw.cell1 {w : World} {B q : Nat} {most : Int} {v : Value} {l : List Int} (H : Rw w B q most v l) : w.cell? ⟨q, 1, none⟩ = some (.int .i64 most) := by simp [World.cell?, H.top]
theorem Rw.bytes {w : World} {B q : Nat} {most : Int} {v : Value} {l : List Int} (H : Rw w B q most v l) : ∃ a cap, v = .slice a l.length cap ∧ IsBytes w a l.length cap l := isBytes_own H.own H.bd
theorem own_kept {w w' : World} {B n : Nat} {v : Value} {xs : List Value} (h : w.ownsRow B 5 1 v n xs) (hg : ∀ k, v.ownBlock = some k → w'.heap[k]? = w.heap[k]?) : w'.ownsRow B 5 1 v n xs := by
  refine ⟨h.1, ?_⟩
  rcases h.2 with hn | ⟨g, cap, cur, rfl, hb, hgg, rest⟩
  · exact .inl hn
  · exact .inr ⟨g, cap, cur, rfl, hb, (hg g rfl).trans hgg, rest⟩
theorem Rw.kept {w w' : World} {B q : Nat} {most : Int} {v : Value} {l : List Int} (H : Rw w B q most v l) (hq : w'.heap[q]? = w.heap[q]?) (hg : ∀ k, v.ownBlock = some k → w'.heap[k]? = w.heap[k]?) : Rw w' B q most v l :=
  ⟨hq.trans H.top, own_kept H.own hg, H.bd, H.low, H.fit, H.m1⟩
theorem Rw.later {w w' : World} {B q : Nat} {most : Int} {v : Value} {l : List Int} (H : Rw w B q most v l) (b : Below w.heap.size w w') : Rw w' B q most v l :=
  H.kept (b.block q H.lt) fun k hk => b.block k (H.own.lt k hk).2

set_option maxHeartbeats 400000 in
theorem refNewWriter_no (most : Int) (w : World) (h : most < 0 ∨ 65536 < most) : Calls Try.prog 17 #[.int .i64 most] w fun e w' => e = .returned (.tuple #[.pointer none, .int .i64 1]) ∧ w' = w := by
  by_cases h0 : most < 0
  · go_enter Try.func17, Try.ntmps17
    go_wp2
    go_ret2
    exact ⟨rfl, rfl⟩
  · have h1 : (65536 : Int) < most := by omega
    clear h
    go_enter Try.func17, Try.ntmps17
    go_wp2
    go_ret2
    exact ⟨rfl, rfl⟩
set_option maxHeartbeats 400000 in
theorem refNewWriter_ok (most : Int) (B : Nat) (w : World) (h0 : 0 ≤ most) (h1 : most ≤ 65536) (hB : B ≤ w.heap.size) : Calls Try.prog 17 #[.int .i64 most] w fun e w' =>
    e = .returned (.tuple #[.pointer (some ⟨w.heap.size, 0, none⟩), .int .i64 0]) ∧ Rw w' B w.heap.size most (.slice none 0 0) [] ∧ Below w.heap.size w w' := by
  go_enter Try.func17, Try.ntmps17
  go_wp2
  go_ret2
  exact ⟨rfl, ⟨heap_alloc_new w _, World.ownsRow_nil _ _ _ _, by simp, hB, by simpa using h0, h1⟩, (Below.refl _ w).alloc (Nat.le_refl _) _⟩

theorem touch_set0 (w : World) (p : Nat) (u : Value) : Touch p none w (w.setCell ⟨p, 0, none⟩ u) :=
  ⟨rfl, rfl, rfl, by simp [World.setCell], fun k _ hk _ => Below.heap_setCell _ _ _ _ hk⟩
/-- A call of the document's writer that writes x. -/
def RefWrote (w : World) (B q : Nat) (most : Int) (v : Value) (l x : List Int) (e : Ending) (w' : World) : Prop :=
  ∃ v', e = .returned (.int .i64 (putE most l x)) ∧ Rw w' B q most v' (putL most l x) ∧ Touch q none w w' ∧ Moved w v v'
theorem RefWrote.after {w w1 w' : World} {B q : Nat} {most : Int} {v : Value} {l x : List Int} {e : Ending} (b : Below w.heap.size w w1) (t : RefWrote w1 B q most v l x e w') : RefWrote w B q most v l x e w' := by
  obtain ⟨v', h1, h2, h3, h4⟩ := t
  refine ⟨v', h1, h2, Touch.after b h3, ?_⟩
  rcases h4 with h4 | h4
  · exact .inl h4
  · exact .inr fun k hk => Nat.le_trans b.size (h4 k hk)

set_option maxHeartbeats 1000000 in
theorem refPut_long {w : World} {B q : Nat} {most : Int} {v : Value} {l : List Int} (H : Rw w B q most v l) (a : Option Addr) (m c : Nat) (hno : most < (l.length : Int) + m) :
    Calls Try.prog 42 #[.pointer (some ⟨q, 0, none⟩), .slice a m c] w fun e w' => e = .returned (.int .i64 2) ∧ Below w.heap.size w w' := by
  obtain ⟨a1, k1, ev⟩ := own_slice H.own
  have c0 := H.cell0
  rw [ev] at c0
  have c1 := H.cell1
  have hm1 := H.m1
  have hf := H.fit
  clear H
  by_cases hA : most < (m : Int)
  · go_enter Try.func42, Try.ntmps42
    go_wp2_with fail
    go_quiet (fail)
    go_wp2
    go_ret
    exact ⟨rfl, below_drewN w nq⟩
  · have hA' : decide (most < (m : Int)) = false := decide_eq_false hA
    have e2 : IntKind.i64.wrap (most - (m : Int)) = most - (m : Int) := by rw [IntKind.wrap_i64]; omega
    have hC : most - (m : Int) < (l.length : Int) := by omega
    go_enter Try.func42, Try.ntmps42
    go_wp2_with fail
    go_quiet (fail)
    go_wp2
    go_ret
    exact ⟨rfl, below_drewN w nq⟩
set_option maxHeartbeats 1000000 in
theorem refPut_fits {w : World} {B q : Nat} {most : Int} {v : Value} {l : List Int} (H : Rw w B q most v l) (hB : B ≤ w.heap.size) (a : Option Addr) (m c : Nat) (ys : List Int) (hy : IsBytes w a m c ys) (hok : (l.length : Int) + m ≤ most) :
    Calls Try.prog 42 #[.pointer (some ⟨q, 0, none⟩), .slice a m c] w fun e w' => e = .returned (.int .i64 0) ∧ ∃ v', Rw w' B q most v' (l ++ ys) ∧ Touch q none w w' ∧ Moved w v v' := by
  obtain ⟨a1, k1, rfl, hl⟩ := H.bytes
  have c0 := H.cell0
  have c1 := H.cell1
  have hm1 := H.m1
  have hf := H.fit
  have hyl := hy.1
  have hA' : decide (most < (m : Int)) = false := decide_eq_false (by omega)
  have e2 : IntKind.i64.wrap (most - (m : Int)) = most - (m : Int) := by rw [IntKind.wrap_i64]; omega
  have hC : decide (most - (m : Int) < (l.length : Int)) = false := decide_eq_false (by omega)
  have HW : Hid (Rw w B q most _ l) := H
  have HY : Hid (IsBytes w a m c ys) := hy
  have HL : Hid (IsBytes w a1 l.length k1 l) := hl
  clear H hy hl
  go_enter Try.func42, Try.ntmps42
  go_wp2_with fail
  go_quiet (fail)
  have hBn := below_drewN w nq
  generalize w.drewN nq = W at hBn ⊢
  have hHW := HW.out.later hBn
  have hB0 : Below W.heap.size W (W.alloc (.cells #[] 5)) := (Below.refl _ _).alloc (Nat.le_refl _) _
  have hown0 : (W.alloc (.cells #[] 5)).ownsRow W.heap.size 5 1 (.slice (some ⟨W.heap.size, 0, none⟩) 0 0) 0 (cellsOf []) :=
    ⟨rfl, .inr ⟨W.heap.size, 0, #[], rfl, Nat.le_refl _, heap_alloc_new W _, Nat.le_refl _, Nat.zero_le _, rfl, rfl⟩⟩
  obtain ⟨u1, w1, hrun1, hown1, hg1⟩ := append_in hown0 ((HL.out.later hBn).later hB0) (by simp) (by omega)
  simp only [Nat.zero_add, List.nil_append] at hown1
  have hB1 : Below W.heap.size W w1 := hB0.grown hg1 (by simp) (by intro k hk; simp [Value.ownBlock] at hk; omega)
  obtain ⟨u2, w2, hrun2, hown2, hg2⟩ := append_in hown1 ((HY.out.later hBn).later hB1) hB1.size (by omega)
  have hB2 : Below W.heap.size W w2 := hB1.grown hg2 hB1.size (fun k hk => (hown1.lt k hk).1)
  obtain ⟨a2, k2, rfl⟩ := own_slice hown2
  have d0 := hHW.cell0
  have d2 := (hHW.later hB2).cell0
  have d2f : w2.frozen? ⟨q, 0, none⟩ = false := by simp [World.frozen?, (hHW.later hB2).top]
  have R1 : Hid (_ = _) := hrun1
  have R2 : Hid (_ = _) := hrun2
  have O2 : Hid (World.ownsRow _ _ _ _ _ _ _) := hown2
  have HW2 : Hid (Rw w2 B q most _ l) := hHW.later hB2
  have hB3 := hBn.trans (hB2.mono hBn.size)
  have hsz := hBn.size
  have hd0 : (W.alloc (.cells #[] 5)).cell? ⟨q, 0, none⟩ = some (.slice a1 l.length k1) := (hHW.later hB0).cell0
  clear hrun1 hrun2 hown2 hg1 hg2 hown0 hown1 hB0 hB1 hB2 c0 c1 hHW hBn
  go_wp2_with (first
    | (at_builtin; refine wpList_append_run rfl (.tmp 28) (.tmp 32) 53 rfl _ _ _ rfl rfl R1.out ?_)
    | (at_builtin; refine wpList_append_run rfl (.tmp 33) (.tmp 34) 53 rfl _ _ _ rfl rfl R2.out ?_))
  go_ret
  have hne := own_apart O2.out HW2.out.top (by decide)
  refine ⟨rfl, .slice a2 (l.length + m) k2, ⟨by simp [World.setCell, Array.getElem?_modify, HW2.out.top], ?_, ?_, HW.out.low, ?_, HW.out.m1⟩, Touch.after hB3 (touch_set0 _ _ _), .inr fun k hk => ?_⟩
  · rw [List.length_append, hyl]
    have o := own_kept (w' := w2.setCell ⟨q, 0, none⟩ (.slice a2 (l.length + m) k2)) O2.out (fun k hk => Below.heap_setCell _ _ _ _ (fun e => hne (by rw [hk]; exact congrArg some e)))
    refine ⟨o.1, ?_⟩
    rcases o.2 with hn | ⟨g, cap2, cur, x1, x2, rest⟩
    · exact .inl hn
    · exact .inr ⟨g, cap2, cur, x1, by omega, rest⟩
  · intro x hx
    rcases List.mem_append.1 hx with hx | hx
    · exact HW.out.bd x hx
    · exact mem_bd HY.out.2.2.2.2.1 x hx
  · rw [List.length_append, hyl]
    omega
  · exact Nat.le_trans hsz (O2.out.lt k hk).1
theorem rwput_any {w : World} {B q : Nat} {most : Int} {v : Value} {l : List Int} (H : Rw w B q most v l) (hB : B ≤ w.heap.size) (a : Option Addr) (m c : Nat) (ys : List Int) (hy : IsBytes w a m c ys) :
    Calls Try.prog 42 #[.pointer (some ⟨q, 0, none⟩), .slice a m c] w fun e w' => RefWrote w B q most v l ys e w' := by
  have hyl := hy.1
  by_cases hok : (l.length : Int) + m ≤ most
  · refine (refPut_fits H hB a m c ys hy hok).mono ?_
    rintro e w' ⟨rfl, v', h1, h2, h3⟩
    refine ⟨v', ?_, ?_, h2, h3⟩
    · unfold putE; rw [if_pos (by omega)]
    · unfold putL; rw [if_pos (by omega)]; exact h1
  · refine (refPut_long H a m c (by omega)).mono ?_
    rintro e w' ⟨rfl, hb⟩
    refine ⟨v, ?_, ?_, Touch.of hb, .inl rfl⟩
    · unfold putE; rw [if_neg (by omega)]
    · unfold putL; rw [if_neg (by omega)]; exact H.later hb
set_option maxHeartbeats 400000 in
theorem rwnum_any {w : World} {B q : Nat} {most : Int} {v : Value} {l : List Int} (H : Rw w B q most v l) (hB : B ≤ w.heap.size) (n : Nat) (hn : n < 18446744073709551616) :
    Calls Try.prog 30 #[.pointer (some ⟨q, 0, none⟩), .int .u64 n] w fun e w' => RefWrote w B q most v l (enc 10 n) e w' := by
  have hs10 := sz_le 10 n
  have c := refPut_any none 0 0 [] n w (isBytes_nil w) (by omega) hn
  have hbd := enc_bd 10 n
  generalize enc 10 n = x at c hbd ⊢
  generalize sz 10 n = k at c hs10
  simp only [Nat.zero_add, List.nil_append] at c
  have C : Hid (Calls Try.prog 43 _ _ _) := c
  have HW : Hid (Rw w B q most v l) := H
  have HD : Hid (∀ c ∈ x, 0 ≤ c ∧ c ≤ 255) := hbd
  clear H c hbd
  go_enter Try.func30, Try.ntmps30
  go_wp2_with (first
    | (go_at_call 43
       refine C.out.mono ?_
       rintro e w1 ⟨u1, rfl, hown1, hB1⟩
       obtain ⟨a1, c1, rfl, hy⟩ := isBytes_own hown1 HD.out
       have HY : Hid (IsBytes _ _ _ _ _) := hy
       clear hy hown1)
    | (go_at_call 42
       refine (rwput_any (HW.out.later hB1) (Nat.le_trans hB hB1.size) _ _ _ _ HY.out).mono ?_
       rintro e w2 h2
       obtain ⟨v2, rfl, h3⟩ := h2))
  go_ret
  exact RefWrote.after hB1 ⟨v2, rfl, h3⟩
set_option maxHeartbeats 1000000 in
theorem rwtext_any {w : World} {B q : Nat} {most : Int} {v : Value} {l : List Int} (H : Rw w B q most v l) (hB : B ≤ w.heap.size) (s : ByteArray) (hs : s.size ≤ 140737488351232) :
    Calls Try.prog 31 #[.pointer (some ⟨q, 0, none⟩), .string s] w fun e w' => RefWrote w B q most v l (enc 10 s.size ++ bytesS s) e w' := by
  have hs10 := sz_le 10 s.size
  have c := refPut_any none 0 0 [] s.size w (isBytes_nil w) (by omega) (by omega)
  have hbd := enc_bd 10 s.size
  generalize enc 10 s.size = x at c hbd ⊢
  generalize sz 10 s.size = k at c hs10
  simp only [Nat.zero_add, List.nil_append] at c
  have C : Hid (Calls Try.prog 43 _ _ _) := c
  have HW : Hid (Rw w B q most v l) := H
  have HD : Hid (∀ c ∈ x ++ bytesS s, 0 ≤ c ∧ c ≤ 255) := by
    intro y hy
    rcases List.mem_append.1 hy with hy | hy
    · exact hbd y hy
    · exact bytesS_bd s y hy
  clear H c hbd
  go_enter Try.func31, Try.ntmps31
  go_wp2_with (first
    | (go_at_call 43
       refine C.out.mono ?_
       rintro e w1 ⟨u1, rfl, hown1, hB1⟩
       obtain ⟨u2, w2, hrun2, hown2, hg2, -⟩ := append_text s hown1 hB1.size (by omega)
       have hB2 : Below w.heap.size w w2 := hB1.grown hg2 hB1.size (fun k hk => (hown1.lt k hk).1)
       have R2 : Hid (_ = _) := hrun2
       obtain ⟨a1, c1, rfl, hy⟩ := isBytes_own hown2 HD.out
       have HY : Hid (IsBytes _ _ _ _ _) := hy
       clear hy hown1 hrun2 hown2 hg2)
    | (at_builtin; refine wpList_append_run2 rfl (.tmp 9) (.tmp 10) 53 9 rfl _ _ _ rfl rfl R2.out ?_)
    | (go_at_call 42
       refine (rwput_any (HW.out.later hB2) (Nat.le_trans hB hB2.size) _ _ _ _ HY.out).mono ?_
       rintro e w3 h3
       obtain ⟨v3, rfl, h4⟩ := h3))
  go_ret
  exact RefWrote.after hB2 ⟨v3, rfl, h4⟩
end Go.Proofs.Ytjnkplmcopihbaa
