/-
  What a wire.Writer that NewWriter made answers (P2.1): each call puts its bytes behind the others, or answers ErrLong and writes nothing; Done answers all of them, in new memory.
-/
import Derived.Test.YtjnkplmcopihbaaHold
import Derived.Deep.QuietTactic
import Derived.BigQuiet
namespace Go.Proofs.Ytjnkplmcopihbaa
open Go.RowKit

/-- A writer: block p points to block h, which holds the bytes l, and has the bound. -/
structure Wr (w : World) (B p h : Nat) (most : Int) (v : Value) (l : List Int) : Prop where
  top : w.heap[p]? = some (.cells #[.pointer (some ⟨h, 0, none⟩), .int .i64 most] 74 (0, 0))
  hd : Hd w B h v l
  low : B ≤ p
  fit : (l.length : Int) ≤ most
  m1 : most ≤ 65536
theorem Wr.lt {w : World} {B p h : Nat} {most : Int} {v : Value} {l : List Int} (H : Wr w B p h most v l) : p < w.heap.size := (Array.getElem?_eq_some_iff.1 H.top).1
theorem Wr.cell0 {w : World} {B p h : Nat} {most : Int} {v : Value} {l : List Int} (H : Wr w B p h most v l) : w.cell? ⟨p, 0, none⟩ = some (.pointer (some ⟨h, 0, none⟩)) := by simp [World.cell?, H.top]
theorem Wr.cell1 {w : World} {B p h : Nat} {most : Int} {v : Value} {l : List Int} (H : Wr w B p h most v l) : w.cell? ⟨p, 1, none⟩ = some (.int .i64 most) := by simp [World.cell?, H.top]
theorem Wr.later {w w' : World} {B p h : Nat} {most : Int} {v : Value} {l : List Int} (H : Wr w B p h most v l) (b : Below w.heap.size w w') : Wr w' B p h most v l :=
  ⟨(b.block p H.lt).trans H.top, H.hd.later b, H.low, H.fit, H.m1⟩
theorem Wr.ne {w : World} {B p h : Nat} {most : Int} {v : Value} {l : List Int} (H : Wr w B p h most v l) : p ≠ h := by
  intro e
  subst e
  have := H.top.symm.trans H.hd.hld
  simp at this

theorem two_top (w : World) (o1 o2 : Obj) : ((w.alloc o1).alloc o2).heap[w.heap.size + 1]? = some o2 := by
  have e := heap_alloc_new (w.alloc o1) o2
  rwa [show (w.alloc o1).heap.size = w.heap.size + 1 by simp] at e
theorem two_low (w : World) (o1 o2 : Obj) : ((w.alloc o1).alloc o2).heap[w.heap.size]? = some o1 := by
  rw [Below.heap_alloc _ _ _ (by simp)]
  exact heap_alloc_new w o1
theorem below_drewN (w : World) (n : Nat) : Below w.heap.size w (w.drewN n) := ⟨rfl, rfl, rfl, Nat.le_refl _, fun _ _ => rfl⟩

set_option maxHeartbeats 400000 in
theorem newWriter_no (most : Int) (w : World) (h : most < 0 ∨ 65536 < most) : Calls Try.prog 16 #[.int .i64 most] w fun e w' => e = .returned (.tuple #[.pointer none, .int .i64 1]) ∧ w' = w := by
  by_cases h0 : most < 0
  · go_enter Try.func16, Try.ntmps16
    go_wp2
    go_ret2
    exact ⟨rfl, rfl⟩
  · have h1 : (65536 : Int) < most := by omega
    clear h
    go_enter Try.func16, Try.ntmps16
    go_wp2
    go_ret2
    exact ⟨rfl, rfl⟩
set_option maxHeartbeats 400000 in
theorem newWriter_ok (most : Int) (B : Nat) (w : World) (h0 : 0 ≤ most) (h1 : most ≤ 65536) (hB : B ≤ w.heap.size) : Calls Try.prog 16 #[.int .i64 most] w fun e w' =>
    e = .returned (.tuple #[.pointer (some ⟨w.heap.size + 1, 0, none⟩), .int .i64 0]) ∧ Wr w' B (w.heap.size + 1) w.heap.size most (.slice none 0 0) [] ∧ Below w.heap.size w w' := by
  go_enter Try.func16, Try.ntmps16
  go_wp2
  go_ret2
  refine ⟨rfl, ⟨?_, ⟨?_, World.ownsRow_nil _ _ _ _, by simp, hB⟩, by omega, by simpa using h0, h1⟩, ?_⟩
  · exact two_top w _ _
  · exact two_low w _ _
  · exact ((Below.refl _ w).alloc (Nat.le_refl _) _).alloc (by simp) _

set_option maxHeartbeats 1000000 in
theorem write_long {w : World} {B p h : Nat} {most : Int} {v : Value} {l : List Int} (H : Wr w B p h most v l) (a : Option Addr) (m c : Nat) (s : ByteArray)
    (hs : m + s.size ≤ 9223372036854775807) (hno : most - l.length < (m : Int) + s.size) :
    Calls Try.prog 40 #[.pointer (some ⟨p, 0, none⟩), .slice a m c, .string s] w fun e w' => e = .returned (.int .i64 2) ∧ Below w.heap.size w w' := by
  obtain ⟨a1, c1, rfl⟩ := own_slice H.hd.own
  have C1 : Hid (Calls Try.prog 32 _ _ _) := wmade_some p h w H.cell0
  have C2 : Hid (∀ n, Calls Try.prog 35 #[.pointer (some ⟨h, 0, none⟩)] (w.drewN n) _) := fun n => size_held h l.length c1 a1 (w.drewN n) H.hd.cell
  have c0 := H.cell0
  have c1 := H.cell1
  have hl := H.fit
  have hm1 := H.m1
  have e1 : IntKind.i64.wrap ((m : Int) + (s.size : Int)) = (m : Int) + (s.size : Int) := by rw [IntKind.wrap_i64]; omega
  have e2 : IntKind.i64.wrap (most - (l.length : Int)) = most - (l.length : Int) := by rw [IntKind.wrap_i64]; omega
  clear H
  go_enter Try.func40, Try.ntmps40
  go_wp2_with (go_at_call 32; refine C1.out.mono ?_; rintro e w1 ⟨rfl, hw1⟩; replace hw1 := hw1.symm; subst hw1)
  go_quiet (first | (go_at_call 35; exact Calls.quiet_of_same (C2.out _)))
  go_wp2
  go_ret
  exact ⟨rfl, below_drewN w nq⟩
set_option maxHeartbeats 1000000 in
theorem write_fits {w : World} {B p h : Nat} {most : Int} {v : Value} {l : List Int} (H : Wr w B p h most v l) (hB : B ≤ w.heap.size) (a : Option Addr) (m c : Nat) (ys : List Int) (s : ByteArray) (hy : IsBytes w a m c ys)
    (hs : m + s.size ≤ 9223372036854775807) (hok : (m : Int) + s.size ≤ most - l.length) :
    Calls Try.prog 40 #[.pointer (some ⟨p, 0, none⟩), .slice a m c, .string s] w fun e w' =>
      e = .returned (.int .i64 0) ∧ ∃ v', Wr w' B p h most v' (l ++ ys ++ bytesS s) ∧ Touch h v.ownBlock w w' ∧ Moved w v v' := by
  have hl := H.fit
  have hm1 := H.m1
  have C3 : Hid (∀ n, Calls Try.prog 45 _ (w.drewN n) _) := fun n => add_any (w := w.drewN n) (H.hd.later (below_drewN w n)) hB a m c ys s (hy.later (below_drewN w n)) (by omega)
  obtain ⟨a1, c1, rfl⟩ := own_slice H.hd.own
  have C1 : Hid (Calls Try.prog 32 _ _ _) := wmade_some p h w H.cell0
  have C2 : Hid (∀ n, Calls Try.prog 35 #[.pointer (some ⟨h, 0, none⟩)] (w.drewN n) _) := fun n => size_held h l.length c1 a1 (w.drewN n) H.hd.cell
  have c0 := H.cell0
  have c1 := H.cell1
  have e1 : IntKind.i64.wrap ((m : Int) + (s.size : Int)) = (m : Int) + (s.size : Int) := by rw [IntKind.wrap_i64]; omega
  have e2 : IntKind.i64.wrap (most - (l.length : Int)) = most - (l.length : Int) := by rw [IntKind.wrap_i64]; omega
  have hyl := hy.1
  have HW : Hid (Wr w B p h most _ l) := H
  clear H hy
  go_enter Try.func40, Try.ntmps40
  go_wp2_with (go_at_call 32; refine C1.out.mono ?_; rintro e w1 ⟨rfl, hw1⟩; replace hw1 := hw1.symm; subst hw1)
  go_quiet (first | (go_at_call 35; exact Calls.quiet_of_same (C2.out _)))
  go_wp2_with (go_at_call 45; refine (C3.out _).mono ?_; rintro e w2 ⟨rfl, v2, hd2, ht2, hm2⟩)
  go_ret
  refine ⟨rfl, v2, ⟨?_, hd2, HW.out.low, ?_, HW.out.m1⟩, Touch.after (below_drewN w nq) ht2, hm2⟩
  · rw [ht2.block p HW.out.lt HW.out.ne (fun e => own_apart HW.out.hd.own HW.out.top (by decide) e.symm)]
    exact HW.out.top
  · rw [List.length_append, List.length_append, hyl, bytesS_length]
    omega

/-- What a call that writes x answers, and what is held behind it. -/
def putE (most : Int) (l x : List Int) : Int := if (l.length : Int) + x.length ≤ most then 0 else 2
def putL (most : Int) (l x : List Int) : List Int := if (l.length : Int) + x.length ≤ most then l ++ x else l
/-- A call that writes x. -/
def Wrote (w : World) (B p h : Nat) (most : Int) (v : Value) (l x : List Int) (e : Ending) (w' : World) : Prop :=
  ∃ v', e = .returned (.int .i64 (putE most l x)) ∧ Wr w' B p h most v' (putL most l x) ∧ Touch h v.ownBlock w w' ∧ Moved w v v'
theorem write_any {w : World} {B p h : Nat} {most : Int} {v : Value} {l : List Int} (H : Wr w B p h most v l) (hB : B ≤ w.heap.size) (a : Option Addr) (m c : Nat) (ys : List Int) (s : ByteArray) (hy : IsBytes w a m c ys) (hs : m + s.size ≤ 9223372036854775807) :
    Calls Try.prog 40 #[.pointer (some ⟨p, 0, none⟩), .slice a m c, .string s] w (Wrote w B p h most v l (ys ++ bytesS s)) := by
  have hlen : ((ys ++ bytesS s).length : Int) = (m : Int) + s.size := by rw [List.length_append, hy.1, bytesS_length]; simp
  by_cases hok : (m : Int) + s.size ≤ most - l.length
  · refine (write_fits H hB a m c ys s hy hs hok).mono ?_
    rintro e w' ⟨rfl, v', h1, h2, h3⟩
    refine ⟨v', ?_, ?_, h2, h3⟩
    · unfold putE; rw [if_pos (by omega)]
    · unfold putL; rw [if_pos (by omega), ← List.append_assoc]; exact h1
  · refine (write_long H a m c s hs (by omega)).mono ?_
    rintro e w' ⟨rfl, hb⟩
    refine ⟨v, ?_, ?_, Touch.of hb, .inl rfl⟩
    · unfold putE; rw [if_neg (by omega)]
    · unfold putL; rw [if_neg (by omega)]; exact H.later hb
/-- A call that makes memory first, and writes then. -/
theorem Wrote.after {w w1 w' : World} {B p h : Nat} {most : Int} {v : Value} {l x : List Int} {e : Ending} (b : Below w.heap.size w w1) (t : Wrote w1 B p h most v l x e w') : Wrote w B p h most v l x e w' := by
  obtain ⟨v', h1, h2, h3, h4⟩ := t
  refine ⟨v', h1, h2, Touch.after b h3, ?_⟩
  rcases h4 with h4 | h4
  · exact .inl h4
  · exact .inr fun k hk => Nat.le_trans b.size (h4 k hk)

theorem size_nil : (⟨#[]⟩ : ByteArray).size = 0 := rfl
theorem bytesS_nil : bytesS ⟨#[]⟩ = [] := rfl
theorem write_none {w : World} {B p h : Nat} {most : Int} {v : Value} {l : List Int} (H : Wr w B p h most v l) (hB : B ≤ w.heap.size) (a : Option Addr) (m c : Nat) (ys : List Int) (hy : IsBytes w a m c ys) (hs : m ≤ 9223372036854775807) :
    Calls Try.prog 40 #[.pointer (some ⟨p, 0, none⟩), .slice a m c, .string ⟨#[]⟩] w fun e w' => Wrote w B p h most v l ys e w' := by
  have c := write_any H hB a m c ys ⟨#[]⟩ hy (by rw [size_nil, Nat.add_zero]; exact hs)
  rwa [bytesS_nil, List.append_nil] at c
set_option maxHeartbeats 400000 in
theorem wnum_any {w : World} {B p h : Nat} {most : Int} {v : Value} {l : List Int} (H : Wr w B p h most v l) (hB : B ≤ w.heap.size) (n : Nat) (hn : n < 18446744073709551616) :
    Calls Try.prog 28 #[.pointer (some ⟨p, 0, none⟩), .int .u64 n] w fun e w' => Wrote w B p h most v l (enc 10 n) e w' := by
  have hs10 := sz_le 10 n
  have c := put_any none 0 0 [] n w (isBytes_nil w) (by omega) hn
  have hbd := enc_bd 10 n
  generalize enc 10 n = x at c hbd ⊢
  generalize sz 10 n = k at c hs10
  simp only [Nat.zero_add, List.nil_append] at c
  have C : Hid (Calls Try.prog 41 _ _ _) := c
  have HW : Hid (Wr w B p h most v l) := H
  have HD : Hid (∀ c ∈ x, 0 ≤ c ∧ c ≤ 255) := hbd
  clear H c hbd
  go_enter Try.func28, Try.ntmps28
  go_wp2_with (first
    | (go_at_call 41
       refine C.out.mono ?_
       rintro e w1 ⟨rfl, hown1, hB1⟩
       obtain ⟨a1, c1, ea, hy⟩ := isBytes_own hown1 HD.out
       cases ea
       have HY : Hid (IsBytes _ _ _ _ _) := hy
       clear hy hown1)
    | (go_at_call 40
       refine (write_none (HW.out.later hB1) (Nat.le_trans hB hB1.size) _ _ _ _ HY.out (by omega)).mono ?_
       rintro e w2 h2
       obtain ⟨v2, rfl, h3⟩ := h2))
  go_ret
  exact Wrote.after hB1 ⟨v2, rfl, h3⟩
set_option maxHeartbeats 400000 in
theorem wtext_any {w : World} {B p h : Nat} {most : Int} {v : Value} {l : List Int} (H : Wr w B p h most v l) (hB : B ≤ w.heap.size) (s : ByteArray) (hs : s.size ≤ 140737488355328) :
    Calls Try.prog 29 #[.pointer (some ⟨p, 0, none⟩), .string s] w fun e w' => Wrote w B p h most v l (enc 10 s.size ++ bytesS s) e w' := by
  have hs10 := sz_le 10 s.size
  have c := put_any none 0 0 [] s.size w (isBytes_nil w) (by omega) (by omega)
  have hbd := enc_bd 10 s.size
  generalize enc 10 s.size = x at c hbd ⊢
  generalize sz 10 s.size = k at c hs10
  simp only [Nat.zero_add, List.nil_append] at c
  have C : Hid (Calls Try.prog 41 _ _ _) := c
  have HW : Hid (Wr w B p h most v l) := H
  have HD : Hid (∀ c ∈ x, 0 ≤ c ∧ c ≤ 255) := hbd
  clear H c hbd
  go_enter Try.func29, Try.ntmps29
  go_wp2_with (first
    | (go_at_call 41
       refine C.out.mono ?_
       rintro e w1 ⟨rfl, hown1, hB1⟩
       obtain ⟨a1, c1, ea, hy⟩ := isBytes_own hown1 HD.out
       cases ea
       have HY : Hid (IsBytes _ _ _ _ _) := hy
       clear hy hown1)
    | (go_at_call 40
       refine (write_any (HW.out.later hB1) (Nat.le_trans hB hB1.size) _ _ _ _ s HY.out (by omega)).mono ?_
       rintro e w2 h2
       obtain ⟨v2, rfl, h3⟩ := h2))
  go_ret
  exact Wrote.after hB1 ⟨v2, rfl, h3⟩
set_option maxHeartbeats 1000000 in
theorem wdone_any {w : World} {B p h : Nat} {most : Int} {v : Value} {l : List Int} (H : Wr w B p h most v l) :
    Calls Try.prog 20 #[.pointer (some ⟨p, 0, none⟩)] w fun e w' => ∃ u, e = .returned u ∧ w'.ownsRow w.heap.size 5 1 u l.length (cellsOf l) ∧ Below w.heap.size w w' := by
  obtain ⟨a1, c1, rfl⟩ := own_slice H.hd.own
  have C1 : Hid (Calls Try.prog 32 _ _ _) := wmade_some p h w H.cell0
  have c0 := H.cell0
  have hl := H.fit
  have hm1 := H.m1
  have HW : Hid (Wr w B p h most _ l) := H
  clear H
  go_enter Try.func20, Try.ntmps20
  go_wp2_with (go_at_call 32; refine C1.out.mono ?_; rintro e w1 ⟨rfl, hw1⟩; replace hw1 := hw1.symm; subst hw1)
  refine wp_region_noPanic ?_
  refine wp_region_held_drew (S := fun w' => Below w.heap.size w w') (by kernel_rfl) ((Below.refl _ _).drew) (fun hHeld => ?_)
  have hT : Below w.heap.size w w.drew := hHeld
  refine wpAnyH_take (i := 0) (oi := ⟨some 6, Op.move (Operand.tmp 0), 45, _, _, _⟩) (v := ?v0) rfl (by kernel_rfl) (by kernel_rfl) (by kernel_rfl) (fun _ _ _ h => h) (Or.inl ⟨by rfl, ?hy0⟩) hHeld ?rest0
  case hy0 => intro w9 hSw; have c0w := (HW.out.later hSw).cell0; go_simp; (try with_reducible rfl)
  try simp only [Act.put, List.setIfInBounds_toArray, List.set_cons_zero, List.set_cons_succ]
  refine wpAnyH_take (i := 1) (oi := ⟨some 7, Op.nilCheck (Operand.tmp 6), 0, _, _, _⟩) (v := ?v1) rfl (by kernel_rfl) (by kernel_rfl) (by kernel_rfl) (fun _ _ _ h => h) (Or.inl ⟨by rfl, ?hy1⟩) hHeld ?rest1
  case hy1 => intro w9 hSw; have c0w := (HW.out.later hSw).cell0; go_simp; (try with_reducible rfl)
  try simp only [Act.put, List.setIfInBounds_toArray, List.set_cons_zero, List.set_cons_succ]
  refine wpAnyH_take (i := 2) (oi := ⟨some 8, Op.fieldAddr 74 (Operand.tmp 7) 0, 0, _, _, _⟩) (v := ?v2) rfl (by kernel_rfl) (by kernel_rfl) (by kernel_rfl) (fun _ _ _ h => h) (Or.inl ⟨by rfl, ?hy2⟩) hHeld ?rest2
  case hy2 => intro w9 hSw; have c0w := (HW.out.later hSw).cell0; go_simp; (try with_reducible rfl)
  try simp only [Act.put, List.setIfInBounds_toArray, List.set_cons_zero, List.set_cons_succ]
  refine wpAnyH_take (i := 3) (oi := ⟨some 9, Op.load 70 (Operand.tmp 8), 70, _, _, _⟩) (v := ?v3) rfl (by kernel_rfl) (by kernel_rfl) (by kernel_rfl) (fun _ _ _ h => h) (Or.inl ⟨by rfl, ?hy3⟩) hHeld ?rest3
  case hy3 => intro w9 hSw; have c0w := (HW.out.later hSw).cell0; go_simp; (try with_reducible rfl)
  try simp only [Act.put, List.setIfInBounds_toArray, List.set_cons_zero, List.set_cons_succ]
  refine wpAnyH_take (i := 4) (oi := ⟨some 10, Op.move (Operand.tmp 0), 45, _, _, _⟩) (v := ?v4) rfl (by kernel_rfl) (by kernel_rfl) (by kernel_rfl) (fun _ _ _ h => h) (Or.inl ⟨by rfl, ?hy4⟩) hHeld ?rest4
  case hy4 => intro w9 hSw; have c0w := (HW.out.later hSw).cell0; go_simp; (try with_reducible rfl)
  try simp only [Act.put, List.setIfInBounds_toArray, List.set_cons_zero, List.set_cons_succ]
  refine wpAnyH_take (i := 5) (oi := ⟨some 11, Op.nilCheck (Operand.tmp 10), 0, _, _, _⟩) (v := ?v5) rfl (by kernel_rfl) (by kernel_rfl) (by kernel_rfl) (fun _ _ _ h => h) (Or.inl ⟨by rfl, ?hy5⟩) hHeld ?rest5
  case hy5 => intro w9 hSw; have c0w := (HW.out.later hSw).cell0; go_simp; (try with_reducible rfl)
  try simp only [Act.put, List.setIfInBounds_toArray, List.set_cons_zero, List.set_cons_succ]
  refine wpAnyH_take (i := 6) (oi := ⟨some 12, Op.fieldAddr 74 (Operand.tmp 11) 0, 0, _, _, _⟩) (v := ?v6) rfl (by kernel_rfl) (by kernel_rfl) (by kernel_rfl) (fun _ _ _ h => h) (Or.inl ⟨by rfl, ?hy6⟩) hHeld ?rest6
  case hy6 => intro w9 hSw; have c0w := (HW.out.later hSw).cell0; go_simp; (try with_reducible rfl)
  try simp only [Act.put, List.setIfInBounds_toArray, List.set_cons_zero, List.set_cons_succ]
  refine wpAnyH_take (i := 7) (oi := ⟨some 13, Op.load 70 (Operand.tmp 12), 70, _, _, _⟩) (v := ?v7) rfl (by kernel_rfl) (by kernel_rfl) (by kernel_rfl) (fun _ _ _ h => h) (Or.inl ⟨by rfl, ?hy7⟩) hHeld ?rest7
  case hy7 => intro w9 hSw; have c0w := (HW.out.later hSw).cell0; go_simp; (try with_reducible rfl)
  try simp only [Act.put, List.setIfInBounds_toArray, List.set_cons_zero, List.set_cons_succ]
  refine wpAnyH_ready (rs := [8]) (by kernel_rfl) (by simp) ?_
  refine AllReadyH.cons (o := ⟨some 14, Op.call { callee := Callee.value (Operand.func 35), args := #[Operand.tmp 13], argTypes := #[70] }, 3, _, _, _⟩) rfl (fun K hK => ?_) AllReadyH.nil
  go_simp
  refine (size_held h l.length c1 a1 _ (HW.out.hd.later hHeld).cell).mono ?_
  rintro e x8 ⟨rfl, hx8⟩
  replace hx8 := hx8.symm
  subst hx8
  go_wp2_with fail
  refine hK.out _ _ hHeld (fun _ => ?_)
  clear hK K
  try simp only [Act.put, List.setIfInBounds_toArray, List.set_cons_zero, List.set_cons_succ]
  refine wpAnyH_ready (rs := [9]) (by kernel_rfl) (by simp) ?_
  refine AllReadyH.cons (o := ⟨some 15, Op.call { callee := Callee.value (Operand.func 34), args := #[Operand.tmp 9, Operand.const (Value.int IntKind.i64 0), Operand.tmp 14], argTypes := #[70, 3, 3] }, 53, _, _, _⟩) rfl (fun K hK => ?_) AllReadyH.nil
  go_simp
  refine (cut_any (HW.out.hd.later hHeld) 0 l.length (Nat.zero_le _) (Nat.le_refl _)).mono ?_
  rintro e x9 ⟨a9, rfl, hb9, hx9⟩
  replace hx9 := hx9.symm
  subst hx9
  go_wp2_with fail
  refine hK.out _ _ hHeld (fun _ => ?_)
  clear hK K
  try simp only [Act.put, List.setIfInBounds_toArray, List.set_cons_zero, List.set_cons_succ]
  rw [List.drop_zero, Nat.sub_zero, List.take_length] at hb9
  refine wpAnyH_ready (rs := [10]) (by kernel_rfl) (by simp) ?_
  refine AllReadyH.cons (o := ⟨some 16, Op.call { callee := Callee.value (Operand.func 33), args := #[Operand.tmp 15], argTypes := #[53] }, 53, _, _, _⟩) rfl (fun K hK => ?_) AllReadyH.nil
  go_simp
  refine (clone_any _ _ _ _ _ hb9 (by omega)).mono ?_
  rintro e x10 ⟨v10, rfl, ho10, hN10⟩
  go_wp2_with fail
  have hT10 : Below w.heap.size w x10 := hT.trans (hN10.mono hT.size)
  refine hK.out _ _ (hHeld.trans (hN10.mono hHeld.size)) (fun _ => held_up (S' := fun w' => Below x10.heap.size x10 w') (fun w' h' => (hHeld.trans (hN10.mono hHeld.size)).trans (h'.mono (Nat.le_trans hHeld.size hN10.size))) _ _ _ _ ?_)
  clear hK K hHeld hT
  have hT : Below w.heap.size w x10 := hT10
  have hHeld : Below x10.heap.size x10 x10 := Below.refl _ _
  clear hT10 hN10
  try simp only [Act.put, List.setIfInBounds_toArray, List.set_cons_zero, List.set_cons_succ]
  refine wpAnyH_take (i := 11) (oi := ⟨some 2, Op.assign (Operand.tmp 16), 53, _, _, _⟩) (v := ?v11) rfl (by kernel_rfl) (by kernel_rfl) (by kernel_rfl) (fun _ _ _ h => h) (Or.inl ⟨by rfl, ?hy11⟩) hHeld ?rest11
  case hy11 => intro w9 hSw; go_simp; (try with_reducible rfl)
  try simp only [Act.put, List.setIfInBounds_toArray, List.set_cons_zero, List.set_cons_succ]
  refine wpAnyH_done (by kernel_rfl) ?_ _
  refine NoPanic.normal ?_
  go_wp2
  go_ret
  exact ⟨_, rfl, ho10, hT⟩
end Go.Proofs.Ytjnkplmcopihbaa
