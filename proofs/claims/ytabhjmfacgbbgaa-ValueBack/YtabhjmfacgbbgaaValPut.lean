/-
  value.Put (P6.3): a right value's bytes are written, of any other nothing.
-/
import Derived.Test.YtabhjmfacgbbgaaValRight
import Derived.Test.YtabhjmfacgbbgaaArgs
namespace Go.Proofs.Ytabhjmfacgbbgaa
open Go.RowKit

/-- Whatever values lie in memory lie there behind the call. -/
def KeepV (w w' : World) : Prop := ∀ (k : Nat) (c : Array Value) (f : Nat × Nat), w.heap[k]? = some (.cells c 30 f) → w'.heap[k]? = some (.cells c 30 f)
theorem KeepV.trans {a b c : World} (h : KeepV a b) (g : KeepV b c) : KeepV a c := fun k x f e => g k x f (h k x f e)
theorem keepV_below {w w' : World} (b : Below w.heap.size w w') : KeepV w w' := fun k _ _ e => (b.block k (Array.getElem?_eq_some_iff.1 e).1).trans e
theorem keepV_touch {h : Nat} {r : Option Nat} {w w' : World} {c : Array Value} {t : TypeId} {f : Nat × Nat} (T : Touch h r w w') (hh : w.heap[h]? = some (.cells c t f)) (ht : t ≠ 30) (hr : ∀ k x g, w.heap[k]? = some (.cells x 30 g) → r ≠ some k) : KeepV w w' := fun k x g e => by
  rw [T.block k (Array.getElem?_eq_some_iff.1 e).1 ?_ (fun q => hr k x g e q.symm)]
  · exact e
  · intro q
    subst q
    rw [hh] at e
    injection e with e
    injection e with _ e _
    exact ht e
theorem own_keepV {w w' : World} {B size n : Nat} {v : Value} {xs : List Value} (h : w.ownsRow B 30 size v n xs) (hk : KeepV w w') : w'.ownsRow B 30 size v n xs := by
  refine ⟨h.1, ?_⟩
  rcases h.2 with hn | ⟨g, cap, cur, rfl, hb, hg, rest⟩
  · exact .inl hn
  · exact .inr ⟨g, cap, cur, rfl, hb, hk _ _ _ hg, rest⟩

/-- A value in a block of its own. -/
def Box (w : World) (b : Nat) (k n : Int) (s : ByteArray) : Prop := w.heap[b]? = some (valO k n s)
theorem Box.keep {w w' : World} {b : Nat} {k n : Int} {s : ByteArray} (h : Box w b k n s) (hk : KeepV w w') : Box w' b k n s := hk _ _ _ h
theorem Box.new (w : World) (k n : Int) (s : ByteArray) : Box (w.alloc (valO k n s)) w.heap.size k n s := heap_alloc_new w _
theorem Box.cells {w : World} {b : Nat} {k n : Int} {s : ByteArray} (h : Box w b k n s) : w.cell? ⟨b, 0, none⟩ = some (.int .i64 k) ∧ w.cell? ⟨b, 1, none⟩ = some (.int .i64 n) ∧ w.cell? ⟨b, 2, none⟩ = some (.string s) := by
  unfold Box at h
  refine ⟨?_, ?_, ?_⟩ <;> simp [World.cell?, h]

/-- The bytes of a right value. -/
def encV (k n : Int) (s : ByteArray) : List Int :=
  k :: (if k = 1 then [n] else if k = 2 then enc 10 (turnZ n).toNat else if k = 3 then enc 10 s.size ++ bytesS s else [])
theorem encV_len (k n : Int) (s : ByteArray) (h : rightB k n s = true) : (encV k n s).length ≤ 267 := by
  have h1 := sz_le 10 (turnZ n).toNat
  have h2 := sz_le 10 s.size
  unfold rightB at h
  unfold encV
  by_cases k1 : k = 1
  · simp [k1]
  · by_cases k2 : k = 2
    · simp [k2, enc_length]; omega
    · by_cases k3 : k = 3
      · subst k3
        simp at h
        simp [enc_length, bytesS_length]; omega
      · simp [k1, k2, k3]

/-- A call of a writer for whose bytes there is room. -/
theorem Wrote.out {w w' : World} {B p h : Nat} {most : Int} {v : Value} {l x : List Int} {e : Ending} (H : Wr w B p h most v l) (hB : B ≤ w.heap.size) (t : Wrote w B p h most v l x e w') (hf : (l.length : Int) + x.length ≤ most) :
    e = .returned (.int .i64 0) ∧ (∃ v', Wr w' B p h most v' (l ++ x)) ∧ KeepV w w' ∧ Below B w w' := by
  obtain ⟨v', h1, h2, h3, _⟩ := t
  unfold putE at h1
  unfold putL at h2
  rw [if_pos hf] at h1 h2
  refine ⟨h1, ⟨v', h2⟩, keepV_touch h3 H.hd.hld (by decide) (fun k x g e => own_apart H.hd.own e (by decide)), h3.below hB H.hd.low fun k hk => (H.hd.own.lt k hk).1⟩

set_option maxHeartbeats 1000000 in
theorem put_no (p : Option Addr) (k n : Int) (s : ByteArray) (w : World) (hr : rightB k n s = false) : Calls Try.prog 6 #[.pointer p, valV k n s] w fun e w' => e = .returned (.int .i64 1) ∧ Below w.heap.size w w' := by
  have hB1 : Below w.heap.size w (w.alloc (valO k n s)) := (Below.refl _ w).alloc (Nat.le_refl _) _
  have c := right_any k n s (w.alloc (valO k n s))
  rw [hr] at c
  have C : Hid (Calls Try.prog 7 _ _ _) := c
  clear c hr
  go_enter Try.func6, Try.ntmps6
  go_wp2_with (first | (go_at_call 7; refine C.out.mono ?_; rintro e w2 ⟨rfl, hB2⟩))
  go_ret
  exact ⟨rfl, hB1.trans (hB2.mono hB1.size)⟩

set_option maxHeartbeats 2000000 in
theorem put_null {w : World} {B p h : Nat} {most : Int} {v : Value} {l : List Int} (H : Wr w B p h most v l) (hB : B ≤ w.heap.size)   (hf : (l.length : Int) + 1 ≤ most) :
    Calls Try.prog 6 #[.pointer (some ⟨p, 0, none⟩), valV 0 0 ⟨#[]⟩] w fun e w' => e = .returned (.int .i64 0) ∧ (∃ v', Wr w' B p h most v' (l ++ [0])) ∧ KeepV w w' ∧ Below B w w' := by
  have hB1 : Below w.heap.size w (w.alloc (valO 0 0 ⟨#[]⟩)) := (Below.refl _ w).alloc (Nat.le_refl _) _
  have c := right_any 0 0 ⟨#[]⟩ (w.alloc (valO 0 0 ⟨#[]⟩))
  rw [show rightB 0 0 ⟨#[]⟩ = true by decide +kernel] at c
  have C : Hid (Calls Try.prog 7 _ _ _) := c
  have X1 : Hid (Box (w.alloc (valO 0 0 ⟨#[]⟩)) w.heap.size 0 0 ⟨#[]⟩) := Box.new w _ _ _
  have HW : Hid (Wr w B p h most v l) := H
  have HF : Hid ((l.length : Int) + 1 ≤ most) := hf
  clear c H hf
  go_enter Try.func6, Try.ntmps6
  go_wp2_with (first
    | (go_at_call 7
       refine C.out.mono ?_
       clear C
       rintro e w2 ⟨rfl, hB2⟩
       have hB3 := hB1.trans (hB2.mono hB1.size)
       have X2 : Hid (Box w2 w.heap.size 0 0 ⟨#[]⟩) := X1.out.keep (keepV_below hB2)
       have h3 : Hid (B ≤ w2.heap.size) := Nat.le_trans hB hB3.size
       have HW2 : Hid (Wr w2 B p h most v l) := HW.out.later hB3
       clear HW
       obtain ⟨x0, x1, x2⟩ := X2.out.cells)
    | (go_at_call 15
       refine (wbyte_any HW2.out h3.out 0 (by omega) (by omega)).mono ?_
       rintro e w4 t4
       obtain ⟨rfl, hW4, hK4, hB4⟩ := t4.out HW2.out h3.out (by have := HF.out; simp only [List.length_cons, List.length_nil]; omega)
       clear x0 x1 x2 HW2
       obtain ⟨v4, hW4⟩ := hW4
       have HW4 : Hid (Wr w4 B p h most v4 (l ++ [0])) := hW4
       have h4 : Hid (B ≤ w4.heap.size) := Nat.le_trans h3.out hB4.size
       clear hW4
       obtain ⟨x0, x1, x2⟩ := (X2.out.keep hK4).cells))
  go_ret
  exact ⟨rfl, ⟨v4, HW4.out⟩, (keepV_below hB3).trans hK4, (hB3.mono hB).trans hB4⟩
set_option maxHeartbeats 2000000 in
theorem put_bool0 {w : World} {B p h : Nat} {most : Int} {v : Value} {l : List Int} (H : Wr w B p h most v l) (hB : B ≤ w.heap.size)   (hf : (l.length : Int) + 2 ≤ most) :
    Calls Try.prog 6 #[.pointer (some ⟨p, 0, none⟩), valV 1 0 ⟨#[]⟩] w fun e w' => e = .returned (.int .i64 0) ∧ (∃ v', Wr w' B p h most v' (l ++ [1, 0])) ∧ KeepV w w' ∧ Below B w w' := by
  have hB1 : Below w.heap.size w (w.alloc (valO 1 0 ⟨#[]⟩)) := (Below.refl _ w).alloc (Nat.le_refl _) _
  have c := right_any 1 0 ⟨#[]⟩ (w.alloc (valO 1 0 ⟨#[]⟩))
  rw [show rightB 1 0 ⟨#[]⟩ = true by decide +kernel] at c
  have C : Hid (Calls Try.prog 7 _ _ _) := c
  have X1 : Hid (Box (w.alloc (valO 1 0 ⟨#[]⟩)) w.heap.size 1 0 ⟨#[]⟩) := Box.new w _ _ _
  have HW : Hid (Wr w B p h most v l) := H
  have HF : Hid ((l.length : Int) + 2 ≤ most) := hf
  clear c H hf
  go_enter Try.func6, Try.ntmps6
  go_wp2_with (first
    | (go_at_call 7
       refine C.out.mono ?_
       clear C
       rintro e w2 ⟨rfl, hB2⟩
       have hB3 := hB1.trans (hB2.mono hB1.size)
       have X2 : Hid (Box w2 w.heap.size 1 0 ⟨#[]⟩) := X1.out.keep (keepV_below hB2)
       have h3 : Hid (B ≤ w2.heap.size) := Nat.le_trans hB hB3.size
       have HW2 : Hid (Wr w2 B p h most v l) := HW.out.later hB3
       clear HW
       obtain ⟨x0, x1, x2⟩ := X2.out.cells)
    | (go_at_call 15
       refine (wbyte_any HW2.out h3.out 1 (by omega) (by omega)).mono ?_
       rintro e w4 t4
       obtain ⟨rfl, hW4, hK4, hB4⟩ := t4.out HW2.out h3.out (by have := HF.out; simp only [List.length_cons, List.length_nil]; omega)
       clear x0 x1 x2 HW2
       obtain ⟨v4, hW4⟩ := hW4
       have HW4 : Hid (Wr w4 B p h most v4 (l ++ [1])) := hW4
       have h4 : Hid (B ≤ w4.heap.size) := Nat.le_trans h3.out hB4.size
       clear hW4
       obtain ⟨x0, x1, x2⟩ := (X2.out.keep hK4).cells)
    | (go_at_call 15
       refine (wbyte_any HW4.out h4.out 0 (by omega) (by omega)).mono ?_
       rintro e w5 t5
       obtain ⟨rfl, hW5, hK5, hB5⟩ := t5.out HW4.out h4.out (by have := HF.out; simp only [List.length_append, List.length_cons, List.length_nil] at this ⊢; omega)))
  go_ret
  refine ⟨rfl, ?_, ((keepV_below hB3).trans hK4).trans hK5, ((hB3.mono hB).trans hB4).trans hB5⟩
  obtain ⟨v5, hW5⟩ := hW5
  refine ⟨v5, ?_⟩
  simpa using hW5
set_option maxHeartbeats 2000000 in
theorem put_bool1 {w : World} {B p h : Nat} {most : Int} {v : Value} {l : List Int} (H : Wr w B p h most v l) (hB : B ≤ w.heap.size)   (hf : (l.length : Int) + 2 ≤ most) :
    Calls Try.prog 6 #[.pointer (some ⟨p, 0, none⟩), valV 1 1 ⟨#[]⟩] w fun e w' => e = .returned (.int .i64 0) ∧ (∃ v', Wr w' B p h most v' (l ++ [1, 1])) ∧ KeepV w w' ∧ Below B w w' := by
  have hB1 : Below w.heap.size w (w.alloc (valO 1 1 ⟨#[]⟩)) := (Below.refl _ w).alloc (Nat.le_refl _) _
  have c := right_any 1 1 ⟨#[]⟩ (w.alloc (valO 1 1 ⟨#[]⟩))
  rw [show rightB 1 1 ⟨#[]⟩ = true by decide +kernel] at c
  have C : Hid (Calls Try.prog 7 _ _ _) := c
  have X1 : Hid (Box (w.alloc (valO 1 1 ⟨#[]⟩)) w.heap.size 1 1 ⟨#[]⟩) := Box.new w _ _ _
  have HW : Hid (Wr w B p h most v l) := H
  have HF : Hid ((l.length : Int) + 2 ≤ most) := hf
  clear c H hf
  go_enter Try.func6, Try.ntmps6
  go_wp2_with (first
    | (go_at_call 7
       refine C.out.mono ?_
       clear C
       rintro e w2 ⟨rfl, hB2⟩
       have hB3 := hB1.trans (hB2.mono hB1.size)
       have X2 : Hid (Box w2 w.heap.size 1 1 ⟨#[]⟩) := X1.out.keep (keepV_below hB2)
       have h3 : Hid (B ≤ w2.heap.size) := Nat.le_trans hB hB3.size
       have HW2 : Hid (Wr w2 B p h most v l) := HW.out.later hB3
       clear HW
       obtain ⟨x0, x1, x2⟩ := X2.out.cells)
    | (go_at_call 15
       refine (wbyte_any HW2.out h3.out 1 (by omega) (by omega)).mono ?_
       rintro e w4 t4
       obtain ⟨rfl, hW4, hK4, hB4⟩ := t4.out HW2.out h3.out (by have := HF.out; simp only [List.length_cons, List.length_nil]; omega)
       clear x0 x1 x2 HW2
       obtain ⟨v4, hW4⟩ := hW4
       have HW4 : Hid (Wr w4 B p h most v4 (l ++ [1])) := hW4
       have h4 : Hid (B ≤ w4.heap.size) := Nat.le_trans h3.out hB4.size
       clear hW4
       obtain ⟨x0, x1, x2⟩ := (X2.out.keep hK4).cells)
    | (go_at_call 15
       refine (wbyte_any HW4.out h4.out 1 (by omega) (by omega)).mono ?_
       rintro e w5 t5
       obtain ⟨rfl, hW5, hK5, hB5⟩ := t5.out HW4.out h4.out (by have := HF.out; simp only [List.length_append, List.length_cons, List.length_nil] at this ⊢; omega)))
  go_ret
  refine ⟨rfl, ?_, ((keepV_below hB3).trans hK4).trans hK5, ((hB3.mono hB).trans hB4).trans hB5⟩
  obtain ⟨v5, hW5⟩ := hW5
  refine ⟨v5, ?_⟩
  simpa using hW5
set_option maxHeartbeats 2000000 in
theorem put_int {w : World} {B p h : Nat} {most : Int} {v : Value} {l : List Int} (H : Wr w B p h most v l) (hB : B ≤ w.heap.size) (n : Int) (h0 : -9223372036854775808 ≤ n) (h1 : n < 9223372036854775808) (hf : (l.length : Int) + (1 + (enc 10 (turnZ n).toNat).length) ≤ most) :
    Calls Try.prog 6 #[.pointer (some ⟨p, 0, none⟩), valV 2 n ⟨#[]⟩] w fun e w' => e = .returned (.int .i64 0) ∧ (∃ v', Wr w' B p h most v' (l ++ (2 :: enc 10 (turnZ n).toNat))) ∧ KeepV w w' ∧ Below B w w' := by
  have hB1 : Below w.heap.size w (w.alloc (valO 2 n ⟨#[]⟩)) := (Below.refl _ w).alloc (Nat.le_refl _) _
  have c := right_any 2 n ⟨#[]⟩ (w.alloc (valO 2 n ⟨#[]⟩))
  rw [show rightB 2 n ⟨#[]⟩ = true by unfold rightB; exact toList_empty] at c
  have C : Hid (Calls Try.prog 7 _ _ _) := c
  have X1 : Hid (Box (w.alloc (valO 2 n ⟨#[]⟩)) w.heap.size 2 n ⟨#[]⟩) := Box.new w _ _ _
  have HW : Hid (Wr w B p h most v l) := H
  have HF : Hid ((l.length : Int) + (1 + (enc 10 (turnZ n).toNat).length) ≤ most) := hf
  clear c H hf
  go_enter Try.func6, Try.ntmps6
  go_wp2_with (first
    | (go_at_call 7
       refine C.out.mono ?_
       clear C
       rintro e w2 ⟨rfl, hB2⟩
       have hB3 := hB1.trans (hB2.mono hB1.size)
       have X2 : Hid (Box w2 w.heap.size 2 n ⟨#[]⟩) := X1.out.keep (keepV_below hB2)
       have h3 : Hid (B ≤ w2.heap.size) := Nat.le_trans hB hB3.size
       have HW2 : Hid (Wr w2 B p h most v l) := HW.out.later hB3
       clear HW
       obtain ⟨x0, x1, x2⟩ := X2.out.cells)
    | (go_at_call 15
       refine (wbyte_any HW2.out h3.out 2 (by omega) (by omega)).mono ?_
       rintro e w4 t4
       obtain ⟨rfl, hW4, hK4, hB4⟩ := t4.out HW2.out h3.out (by have := HF.out; simp only [List.length_cons, List.length_nil]; omega)
       clear x0 x1 x2 HW2
       obtain ⟨v4, hW4⟩ := hW4
       have HW4 : Hid (Wr w4 B p h most v4 (l ++ [2])) := hW4
       have h4 : Hid (B ≤ w4.heap.size) := Nat.le_trans h3.out hB4.size
       clear hW4
       obtain ⟨x0, x1, x2⟩ := (X2.out.keep hK4).cells)
    | (go_at_call 16
       refine (wint_any HW4.out h4.out n h0 h1).mono ?_
       rintro e w5 t5
       obtain ⟨rfl, hW5, hK5, hB5⟩ := t5.out HW4.out h4.out (by have := HF.out; simp only [List.length_append, List.length_cons, List.length_nil] at this ⊢; omega)))
  go_ret
  refine ⟨rfl, ?_, ((keepV_below hB3).trans hK4).trans hK5, ((hB3.mono hB).trans hB4).trans hB5⟩
  obtain ⟨v5, hW5⟩ := hW5
  refine ⟨v5, ?_⟩
  simpa using hW5
set_option maxHeartbeats 2000000 in
theorem put_text {w : World} {B p h : Nat} {most : Int} {v : Value} {l : List Int} (H : Wr w B p h most v l) (hB : B ≤ w.heap.size) (s : ByteArray) (hs : s.size ≤ 256) (hf : (l.length : Int) + (1 + (enc 10 s.size ++ bytesS s).length) ≤ most) :
    Calls Try.prog 6 #[.pointer (some ⟨p, 0, none⟩), valV 3 0 s] w fun e w' => e = .returned (.int .i64 0) ∧ (∃ v', Wr w' B p h most v' (l ++ (3 :: (enc 10 s.size ++ bytesS s)))) ∧ KeepV w w' ∧ Below B w w' := by
  have hB1 : Below w.heap.size w (w.alloc (valO 3 0 s)) := (Below.refl _ w).alloc (Nat.le_refl _) _
  have c := right_any 3 0 s (w.alloc (valO 3 0 s))
  rw [show rightB 3 0 s = true by unfold rightB; simp [hs]] at c
  have C : Hid (Calls Try.prog 7 _ _ _) := c
  have X1 : Hid (Box (w.alloc (valO 3 0 s)) w.heap.size 3 0 s) := Box.new w _ _ _
  have HW : Hid (Wr w B p h most v l) := H
  have HF : Hid ((l.length : Int) + (1 + (enc 10 s.size ++ bytesS s).length) ≤ most) := hf
  clear c H hf
  go_enter Try.func6, Try.ntmps6
  go_wp2_with (first
    | (go_at_call 7
       refine C.out.mono ?_
       clear C
       rintro e w2 ⟨rfl, hB2⟩
       have hB3 := hB1.trans (hB2.mono hB1.size)
       have X2 : Hid (Box w2 w.heap.size 3 0 s) := X1.out.keep (keepV_below hB2)
       have h3 : Hid (B ≤ w2.heap.size) := Nat.le_trans hB hB3.size
       have HW2 : Hid (Wr w2 B p h most v l) := HW.out.later hB3
       clear HW
       obtain ⟨x0, x1, x2⟩ := X2.out.cells)
    | (go_at_call 15
       refine (wbyte_any HW2.out h3.out 3 (by omega) (by omega)).mono ?_
       rintro e w4 t4
       obtain ⟨rfl, hW4, hK4, hB4⟩ := t4.out HW2.out h3.out (by have := HF.out; simp only [List.length_cons, List.length_nil]; omega)
       clear x0 x1 x2 HW2
       obtain ⟨v4, hW4⟩ := hW4
       have HW4 : Hid (Wr w4 B p h most v4 (l ++ [3])) := hW4
       have h4 : Hid (B ≤ w4.heap.size) := Nat.le_trans h3.out hB4.size
       clear hW4
       obtain ⟨x0, x1, x2⟩ := (X2.out.keep hK4).cells)
    | (go_at_call 17
       refine (wtext_any HW4.out h4.out s (by omega)).mono ?_
       rintro e w5 t5
       obtain ⟨rfl, hW5, hK5, hB5⟩ := t5.out HW4.out h4.out (by have := HF.out; simp only [List.length_append, List.length_cons, List.length_nil] at this ⊢; omega)))
  go_ret
  refine ⟨rfl, ?_, ((keepV_below hB3).trans hK4).trans hK5, ((hB3.mono hB).trans hB4).trans hB5⟩
  obtain ⟨v5, hW5⟩ := hW5
  refine ⟨v5, ?_⟩
  simpa using hW5

/-- Put, of a right value for whose bytes there is room. -/
theorem put_ok {w : World} {B p h : Nat} {most : Int} {v : Value} {l : List Int} (H : Wr w B p h most v l) (hB : B ≤ w.heap.size) (k n : Int) (s : ByteArray) (h0 : -9223372036854775808 ≤ n) (h1 : n < 9223372036854775808) (hr : rightB k n s = true) (hf : (l.length : Int) + (encV k n s).length ≤ most) :
    Calls Try.prog 6 #[.pointer (some ⟨p, 0, none⟩), valV k n s] w fun e w' => e = .returned (.int .i64 0) ∧ (∃ v', Wr w' B p h most v' (l ++ encV k n s)) ∧ KeepV w w' ∧ Below B w w' := by
  unfold rightB at hr
  unfold encV at hf ⊢
  by_cases k0 : k = 0
  · subst k0
    simp only [if_true, Bool.and_eq_true, decide_eq_true_eq] at hr
    obtain ⟨rfl, hs⟩ := hr
    obtain rfl := empty_str hs
    exact put_null H hB (by simpa using hf)
  · rw [if_neg k0] at hr
    by_cases k1 : k = 1
    · subst k1
      simp only [if_true, Bool.and_eq_true, Bool.or_eq_true, decide_eq_true_eq] at hr
      obtain ⟨hn, hs⟩ := hr
      obtain rfl := empty_str hs
      simp only [if_true] at hf ⊢
      rcases hn with rfl | rfl
      · exact put_bool0 H hB (by simpa using hf)
      · exact put_bool1 H hB (by simpa using hf)
    · rw [if_neg k1] at hr hf ⊢
      by_cases k2 : k = 2
      · subst k2
        simp only [if_true] at hr hf ⊢
        obtain rfl := empty_str hr
        exact put_int H hB n h0 h1 (by rw [List.length_cons] at hf; omega)
      · rw [if_neg k2] at hr hf ⊢
        by_cases k3 : k = 3
        · subst k3
          simp only [if_true, Bool.and_eq_true, decide_eq_true_eq] at hr hf ⊢
          obtain ⟨rfl, hs⟩ := hr
          exact put_text H hB s hs (by rw [List.length_cons] at hf; omega)
        · rw [if_neg k3] at hr
          cases hr
end Go.Proofs.Ytabhjmfacgbbgaa
