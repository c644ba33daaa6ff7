/-
  frame.Wrap, and the document's.
-/
import Derived.Test.YtakjilbbhodiiaaFrameMoreWalk
import Derived.Test.YtakjilbbhodiiaaConcat
namespace Go.Proofs.Ytakjilbbhodiiaa
open Go.RowKit

/-- A sum in four bytes, the lowest first. -/
def le4 (s : Nat) : List Int := [((s % 256 : Nat) : Int), ((s / 256 % 256 : Nat) : Int), ((s / 65536 % 256 : Nat) : Int), ((s / 16777216 % 256 : Nat) : Int)]
theorem le4_bd (s : Nat) : ∀ c ∈ le4 s, 0 ≤ c ∧ c ≤ 255 := by
  intro c hc
  simp only [le4, List.mem_cons, List.not_mem_nil, or_false] at hc
  omega
theorem cells_le4 (s : Nat) (hs : s < 4294967296) : cellsOf (le4 s) = [Value.int .u8 ((s : Int) % 256), .int .u8 ((s : Int) / 256 % 256), .int .u8 ((s : Int) / 65536 % 256), .int .u8 ((s : Int) / 16777216)] := by
  have e : (s : Int) / 16777216 = ((s / 16777216 % 256 : Nat) : Int) := by omega
  rw [e]
  rfl
/-- The frame of bytes. -/
def wrapL (zs : List Int) : List Int := enc 10 zs.length ++ zs ++ le4 (moreN 0 (enc 10 zs.length ++ zs))

set_option maxHeartbeats 400000 in
theorem lowest_any (s : Nat) (w : World) (hs : s < 4294967296) :
    Calls Try.prog 22 #[.int .u32 (s : Int)] w fun e w' => e = .returned (.slice (some ⟨w.heap.size, 0, none⟩) 4 4) ∧ w' = w.alloc (.cells (cellsOf (le4 s)).toArray 5) := by
  go_enter Try.func22, Try.ntmps22
  go_wp2
  go_ret
  refine ⟨rfl, ?_⟩
  have e : (s : Int) / 16777216 = ((s / 16777216 % 256 : Nat) : Int) := by omega
  rw [e]
  rfl

theorem isBytes_own_slice {w : World} {base len cap : Nat} {a : Option Addr} {l : List Int} (h : w.ownsRow base 5 1 (.slice a len cap) len (cellsOf l)) (hb : ∀ c ∈ l, 0 ≤ c ∧ c ≤ 255) : IsBytes w a len cap l := by
  obtain ⟨a', c', e, h'⟩ := isBytes_own h hb
  injection e with e1 _ e3
  subst e1 e3
  exact h'
theorem own_le {w : World} {B B' e size n : Nat} {v : Value} {xs : List Value} (h : w.ownsRow B e size v n xs) (hb : B' ≤ B) : w.ownsRow B' e size v n xs :=
  ⟨h.1, h.2.elim Or.inl (fun ⟨g, cap, cur, hv, hg, r⟩ => Or.inr ⟨g, cap, cur, hv, Nat.le_trans hb hg, r⟩)⟩
/-- Three slices of bytes, one behind the other: the third is four new bytes. -/
theorem concat3 {w : World} {a0 a1 : Option Addr} {len0 cap0 len1 cap1 : Nat} {z0 z1 l : List Int} (h0 : IsBytes w a0 len0 cap0 z0) (h1 : IsBytes w a1 len1 cap1 z1) (hl : l.length = 4) (hlb : ∀ c ∈ l, 0 ≤ c ∧ c ≤ 255) (hb : len0 + len1 ≤ 140737488351232) :
    Calls Try.prog 21 #[.slice (some ⟨w.heap.size + 1, 0, none⟩) 3 3] ((w.alloc (.cells (cellsOf l).toArray 5)).alloc (.cells #[.slice a0 len0 cap0, .slice a1 len1 cap1, .slice (some ⟨w.heap.size, 0, none⟩) 4 4] 22))
      fun e w' => ∃ v, e = .returned v ∧ w'.ownsRow w.heap.size 5 1 v (z0 ++ z1 ++ l).length (cellsOf (z0 ++ z1 ++ l)) ∧ Below w.heap.size w w' := by
  obtain ⟨w5, hw5⟩ : ∃ w5, w.alloc (.cells (cellsOf l).toArray 5) = w5 := ⟨_, rfl⟩
  have hB5 : Below w.heap.size w w5 := by rw [← hw5]; exact (Below.refl _ w).alloc (Nat.le_refl _) _
  have hs5 : w5.heap.size = w.heap.size + 1 := by rw [← hw5]; simp
  have hl5 : IsBytes w5 (some ⟨w.heap.size, 0, none⟩) 4 4 l := by
    have := isBytes_new w (0, 0) l hlb (by unfold maxLen; omega)
    rw [hl] at this
    rw [← hw5]
    exact this
  obtain ⟨cs, hcs⟩ : ∃ cs, #[Value.slice a0 len0 cap0, .slice a1 len1 cap1, .slice (some ⟨w.heap.size, 0, none⟩) 4 4] = cs := ⟨_, rfl⟩
  have hB6 : Below w5.heap.size w5 (w5.alloc (.cells cs 22)) := (Below.refl _ w5).alloc (Nat.le_refl _) _
  have hnew := World.alloc_heap_new w5 (.cells cs 22)
  rw [hw5, hcs, ← hs5]
  have c := concat_any w5.heap.size 3 (fun j => if j = 0 then a0 else if j = 1 then a1 else some ⟨w.heap.size, 0, none⟩) (fun j => if j = 0 then len0 else if j = 1 then len1 else 4) (fun j => if j = 0 then cap0 else if j = 1 then cap1 else 4)
    (fun j => if j = 0 then z0 else if j = 1 then z1 else l) (w5.alloc (.cells cs 22)) ?_ (by omega) ?_ ?_
  · have e : catTo (fun j => if j = 0 then z0 else if j = 1 then z1 else l) 3 = z0 ++ z1 ++ l := by simp [catTo]
    rw [e] at c
    refine c.mono ?_
    rintro e w' ⟨v, rfl, ho, hB⟩
    have hB7 := hB6.trans (hB.mono hB6.size)
    exact ⟨v, rfl, own_le ho (by simp; omega), hB5.trans (hB7.mono hB5.size)⟩
  · intro j hj
    have hcell : ∀ j, (w5.alloc (.cells cs 22)).cell? ⟨w5.heap.size, j, none⟩ = cs[j]? := fun j => by
      unfold World.cell?
      rw [hnew]
      rfl
    rw [hcell]
    have hj' : j = 0 ∨ j = 1 ∨ j = 2 := by omega
    rcases hj' with rfl | rfl | rfl
    · exact ⟨by rw [← hcs]; rfl, (h0.later hB5).later hB6⟩
    · exact ⟨by rw [← hcs]; rfl, (h1.later hB5).later hB6⟩
    · exact ⟨by rw [← hcs]; rfl, hl5.later hB6⟩
  · simp [catTo]; omega
  · have := h0.1
    have := h1.1
    simp [catTo]; omega
set_option maxHeartbeats 1000000 in
set_option maxRecDepth 100000 in
theorem wrap_ok (a : Option Addr) (len cap : Nat) (zs : List Int) (w : World) (hI : IsBytes w a len cap zs) (hl : len ≤ 65536) :
    Calls Try.prog 8 #[.slice a len cap] w fun e w' => ∃ v, e = .returned (.tuple #[v, .int .i64 0]) ∧ w'.ownsRow w.heap.size 5 1 v (wrapL zs).length (cellsOf (wrapL zs)) ∧ Below w.heap.size w w' := by
  have c1 := put_any none 0 0 [] len w (isBytes_nil w) (by omega) (by omega)
  simp only [Nat.zero_add, List.nil_append] at c1
  have C1 : Hid (Calls Try.prog 19 _ _ _) := c1
  have I0 : Hid (IsBytes w a len cap zs) := hI
  have hmn : moreN 0 (enc 10 len ++ zs) = feed (feed 4294967295 (enc 10 len)) zs ^^^ 4294967295 := by
    unfold moreN
    rw [feed_append]
    rfl
  clear c1 hI
  go_enter Try.func8, Try.ntmps8
  go_wp2_with (first
    | (go_at_call 19; refine C1.out.mono ?_; clear C1; rintro e w1 ⟨rfl, ho1, hB1⟩
       have C2 := teller_any 0 w1 (by omega))
    | (go_at_call 20; refine C2.mono ?_; clear C2; rintro e w2 ⟨rfl, hb2, hB2⟩
       have I2 := (isBytes_own_slice ho1 (enc_bd 10 len)).later (hB2.mono (Nat.le_refl _))
       have C3 := told_any w1.heap.size _ _ _ _ _ w2 (by have := sz_le 10 len; omega) I2 (xor_ones_lt 0 (by omega)) hb2
       clear hb2)
    | (go_at_call 30; refine C3.mono ?_; clear C3; rintro e w3 ⟨rfl, hb3, hK3⟩
       have B3 := hB1.trans ((hB2.trans (hK3.below w1.heap.size hB2.size (Nat.le_refl _))).mono hB1.size)
       have C4 := told_any w1.heap.size _ _ _ _ _ w3 (by omega) (I0.out.later B3) (feed_lt _ _ (xor_ones_lt 0 (by omega))) hb3
       clear hb3)
    | (go_at_call 30; refine C4.mono ?_; clear C4; rintro e w4 ⟨rfl, hb4, hK4⟩
       clear hb4
       have B4 : Below w1.heap.size w1 w4 := (hB2.trans (hK3.below w1.heap.size hB2.size (Nat.le_refl _))).trans (hK4.below w1.heap.size (Nat.le_trans hB2.size hK3.size) (Nat.le_refl _))
       have I4 := (isBytes_own_slice ho1 (enc_bd 10 len)).later B4
       have C5 := lowest_any _ w4 (moreN_lt 0 (enc 10 len ++ zs) (by omega))
       have C6 := concat3 I4 (I0.out.later (hB1.trans (B4.mono hB1.size))) (l := le4 (moreN 0 (enc 10 len ++ zs))) rfl (le4_bd _) (by have := sz_le 10 len; omega)
       rw [hmn] at C5 C6)
    | (go_at_call 22; refine C5.mono ?_; clear C5; rintro e w5 ⟨rfl, hw5⟩; subst hw5)
    | (go_at_call 21; refine C6.mono ?_; clear C6; rintro e w6 ⟨v6, rfl, ho6, hB6⟩))
  go_ret2
  rw [← hmn] at ho6
  have k4 := hB1.trans (B4.mono hB1.size)
  refine ⟨v6, rfl, ?_, k4.trans (hB6.mono k4.size)⟩
  have hzl := I0.out.1
  unfold wrapL
  rw [hzl]
  exact own_le ho6 k4.size
set_option maxHeartbeats 400000 in
theorem wrap_long (a : Option Addr) (len cap : Nat) (w : World) (hl : 65536 < len) :
    Calls Try.prog 8 #[.slice a len cap] w fun e w' => e = .returned (.tuple #[.slice none 0 0, .int .i64 2]) ∧ w' = w := by
  have hl' : (65536 : Int) < (len : Int) := by omega
  go_enter Try.func8, Try.ntmps8
  go_wp2
  go_ret2
  exact ⟨rfl, rfl⟩
set_option maxHeartbeats 400000 in
theorem refWrap_long (a : Option Addr) (len cap : Nat) (w : World) (hl : 65536 < len) :
    Calls Try.prog 9 #[.slice a len cap] w fun e w' => e = .returned (.tuple #[.slice none 0 0, .int .i64 2]) ∧ w' = w := by
  have hl' : (65536 : Int) < (len : Int) := by omega
  go_enter Try.func9, Try.ntmps9
  go_wp2
  go_ret2
  exact ⟨rfl, rfl⟩
set_option maxHeartbeats 1000000 in
set_option maxRecDepth 100000 in
theorem refWrap_ok (a : Option Addr) (len cap : Nat) (zs : List Int) (w : World) (hI : IsBytes w a len cap zs) (hl : len ≤ 65536) :
    Calls Try.prog 9 #[.slice a len cap] w fun e w' => ∃ v, e = .returned (.tuple #[v, .int .i64 0]) ∧ w'.ownsRow w.heap.size 5 1 v (wrapL zs).length (cellsOf (wrapL zs)) ∧ Below w.heap.size w w' := by
  have c1 := refPut_any none 0 0 [] len w (isBytes_nil w) (by omega) (by omega)
  simp only [Nat.zero_add, List.nil_append] at c1
  have C1 : Hid (Calls Try.prog 23 _ _ _) := c1
  have I0 : Hid (IsBytes w a len cap zs) := hI
  have hzl := hI.1
  have hsz := sz_le 10 len
  have hbz := mem_bd hI.2.2.2.2.1
  obtain ⟨S, hS⟩ : ∃ S, moreN 0 (enc 10 len ++ zs) = S := ⟨_, rfl⟩
  have hSlt : S < 4294967296 := by rw [← hS]; exact moreN_lt _ _ (by omega)
  clear c1 hI
  go_enter Try.func9, Try.ntmps9
  go_wp2_with (first
    | (go_at_call 23; refine C1.out.mono ?_; clear C1; rintro e w1 ⟨v1, rfl, ho1, hB1⟩
       obtain ⟨v2, w2, r2, o2, g2⟩ := append_in ho1 (I0.out.later hB1) hB1.size (by omega)
       have hB2 : Below w.heap.size w w2 := hB1.grown g2 hB1.size (fun k hk => (ho1.lt k hk).1)
       obtain ⟨a2, cp2, he2, I2⟩ := isBytes_own o2 (bd_append (enc_bd 10 len) hbz)
       subst he2
       have C2 := refSum_any a2 _ cp2 _ w2 I2 (by omega)
       rw [hS] at C2
       have hB3 : Below w2.heap.size w2 (w2.alloc (.cells (cellsOf (le4 S)).toArray 5)) := (Below.refl _ w2).alloc (Nat.le_refl _) _
       obtain ⟨v4, w4, r4, o4, g4⟩ := append_in (own_below o2 hB3) (isBytes_new w2 (0, 0) (le4 S) (le4_bd S) (by rw [show (le4 S).length = 4 from rfl]; unfold maxLen; omega)) (Nat.le_trans hB2.size hB3.size) (by rw [show (le4 S).length = 4 from rfl]; omega)
       have hB4 : Below w.heap.size w w4 := (hB2.trans (hB3.mono hB2.size)).grown g4 (Nat.le_trans hB2.size hB3.size) (fun k hk => (o2.lt k hk).1)
       rw [cells_le4 S hSlt] at r4)
    | (at_builtin; refine wpList_append_run rfl (.tmp 13) (.tmp 14) 22 rfl _ _ _ rfl rfl r2 ?_)
    | (go_at_call 11; refine C2.mono ?_; clear C2; rintro e w3 ⟨rfl, hw3⟩; replace hw3 := hw3.symm; subst hw3)
    | (at_builtin; refine wpList_append_run rfl (.tmp 18) (.tmp 30) 22 rfl _ _ _ rfl rfl r4 ?_))
  go_ret2
  refine ⟨v4, rfl, ?_, hB4⟩
  unfold wrapL
  rw [hzl, hS]
  rw [show (enc 10 len ++ zs ++ le4 S).length = sz 10 len + len + (le4 S).length by rw [List.length_append, List.length_append, enc_length, hzl]]
  exact o4
end Go.Proofs.Ytakjilbbhodiiaa
