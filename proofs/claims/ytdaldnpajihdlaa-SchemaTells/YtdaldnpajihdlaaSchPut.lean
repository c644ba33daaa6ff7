/-
  schema.Put (P7.2): of a right schema its bytes, of any other nothing.
-/
import Derived.Test.YtdaldnpajihdlaaSchBook
import Derived.Test.YtdaldnpajihdlaaZBack
namespace Go.Proofs.Ytdaldnpajihdlaa
open Go.RowKit

/-- Whatever lies in memory in blocks of a type lies there behind the call. -/
def Keep (t : TypeId) (w w' : World) : Prop := ∀ (k : Nat) (c : Array Value) (f : Nat × Nat), w.heap[k]? = some (.cells c t f) → w'.heap[k]? = some (.cells c t f)
theorem Keep.trans {t : TypeId} {a b c : World} (h : Keep t a b) (g : Keep t b c) : Keep t a c := fun k x f e => g k x f (h k x f e)
theorem keep_below {t : TypeId} {w w' : World} (b : Below w.heap.size w w') : Keep t w w' := fun k _ _ e => (b.block k (Array.getElem?_eq_some_iff.1 e).1).trans e
theorem keep_touch {t : TypeId} {h : Nat} {r : Option Nat} {w w' : World} {c : Array Value} {t2 : TypeId} {f : Nat × Nat} (T : Touch h r w w') (hh : w.heap[h]? = some (.cells c t2 f)) (ht : t2 ≠ t) (hr : ∀ k x g, w.heap[k]? = some (.cells x t g) → r ≠ some k) : Keep t w w' := fun k x g e => by
  rw [T.block k (Array.getElem?_eq_some_iff.1 e).1 ?_ (fun q => hr k x g e q.symm)]
  · exact e
  · intro q
    subst q
    rw [hh] at e
    injection e with e
    injection e with _ e _
    exact ht e
/-- Two cells in a block of their own. -/
def Box2 (t : TypeId) (w : World) (b : Nat) (x y : Value) : Prop := w.heap[b]? = some (.cells #[x, y] t)
theorem Box2.keep {t : TypeId} {w w' : World} {b : Nat} {x y : Value} (h : Box2 t w b x y) (hk : Keep t w w') : Box2 t w' b x y := hk _ _ _ h
theorem Box2.new (t : TypeId) (w : World) (x y : Value) : Box2 t (w.alloc (.cells #[x, y] t)) w.heap.size x y := heap_alloc_new w _
theorem Box2.cells {t : TypeId} {w : World} {b : Nat} {x y : Value} (h : Box2 t w b x y) : w.cell? ⟨b, 0, none⟩ = some x ∧ w.cell? ⟨b, 1, none⟩ = some y := by
  unfold Box2 at h
  refine ⟨?_, ?_⟩ <;> simp [World.cell?, h]
theorem Box2.frozen {t : TypeId} {w : World} {b : Nat} {x y : Value} (h : Box2 t w b x y) (i : Nat) : w.frozen? ⟨b, i, none⟩ = false := by
  unfold Box2 at h
  simp [World.frozen?, h]
theorem Box2.lt {t : TypeId} {w : World} {b : Nat} {x y : Value} (h : Box2 t w b x y) : b < w.heap.size := (Array.getElem?_eq_some_iff.1 h).1
theorem Box2.set1 {t : TypeId} {w : World} {b : Nat} {x y : Value} (h : Box2 t w b x y) (z : Value) : Box2 t (w.setCell ⟨b, 1, none⟩ z) b x z := by
  unfold Box2 at h ⊢
  simp [World.setCell, Array.getElem?_modify, h]
theorem Box2.set0 {t : TypeId} {w : World} {b : Nat} {x y : Value} (h : Box2 t w b x y) (z : Value) : Box2 t (w.setCell ⟨b, 0, none⟩ z) b z y := by
  unfold Box2 at h ⊢
  simp [World.setCell, Array.getElem?_modify, h]
theorem Box2.other {t : TypeId} {w : World} {b : Nat} {x y : Value} (h : Box2 t w b x y) (a : Addr) (z : Value) (hne : b ≠ a.block) : Box2 t (w.setCell a z) b x y := by
  unfold Box2 at h ⊢
  rw [Below.heap_setCell _ _ _ _ hne, h]

/-- A field's bytes. -/
def encF (s : ByteArray) (k : Int) : List Int := (enc 10 s.size ++ bytesS s) ++ [k]
/-- The first fields' bytes. -/
def encFs (Nm : Nat → ByteArray) (K : Nat → Int) : Nat → List Int
  | 0 => []
  | k + 1 => encFs Nm K k ++ encF (Nm k) (K k)
/-- A schema's bytes. -/
def encS (S : ByteArray) (n : Nat) (Nm : Nat → ByteArray) (K : Nat → Int) : List Int := (enc 10 S.size ++ bytesS S) ++ (enc 10 n ++ encFs Nm K n)
theorem encF_len (s : ByteArray) (k : Int) (h : s.size ≤ 32) : (encF s k).length ≤ 43 := by
  have := sz_le 10 s.size
  simp [encF, enc_length, bytesS_length]; omega
theorem encFs_len (Nm : Nat → ByteArray) (K : Nat → Int) : ∀ n, (∀ j, j < n → (Nm j).size ≤ 32) → (encFs Nm K n).length ≤ 43 * n
  | 0, _ => by simp [encFs]
  | n + 1, h => by
    have h1 := encFs_len Nm K n fun j hj => h j (by omega)
    have h2 := encF_len (Nm n) (K n) (h n (by omega))
    simp only [encFs, List.length_append]; omega
theorem encFs_le (Nm : Nat → ByteArray) (K : Nat → Int) (k : Nat) : ∀ n, k ≤ n → (encFs Nm K k).length ≤ (encFs Nm K n).length
  | 0, h => by obtain rfl : k = 0 := by omega
               exact Nat.le_refl _
  | n + 1, h => by
    by_cases e : k = n + 1
    · subst e; exact Nat.le_refl _
    · have := encFs_le Nm K k n (by omega)
      simp only [encFs, List.length_append]; omega
theorem name_size {s : ByteArray} (h : nameB s = true) : s.size ≤ 32 := by
  unfold nameB fitsB at h
  simp only [Bool.and_eq_true, decide_eq_true_eq] at h
  omega
theorem kind_in {k : Int} (h : kindB k = true) : k = 1 ∨ k = 2 ∨ k = 3 := by
  unfold kindB at h
  simp only [Bool.and_eq_true, decide_eq_true_eq] at h
  omega
theorem right_parts {s : ByteArray} {k : Int} (h : rightF s k = true) : s.size ≤ 32 ∧ (k = 1 ∨ k = 2 ∨ k = 3) := by
  unfold rightF at h
  simp only [Bool.and_eq_true] at h
  exact ⟨name_size h.1, kind_in h.2⟩

/-- A call of a writer for whose bytes there is room. -/
theorem Wrote.out {w w' : World} {B p h : Nat} {most : Int} {v : Value} {l x : List Int} {e : Ending} (H : Wr w B p h most v l) (hB : B ≤ w.heap.size) (t : Wrote w B p h most v l x e w') (hf : (l.length : Int) + x.length ≤ most) :
    e = .returned (.int .i64 0) ∧ (∃ v', Wr w' B p h most v' (l ++ x)) ∧ Keep 25 w w' ∧ Keep 52 w w' ∧ Below B w w' := by
  obtain ⟨v', h1, h2, h3, _⟩ := t
  unfold putE at h1
  unfold putL at h2
  rw [if_pos hf] at h1 h2
  exact ⟨h1, ⟨v', h2⟩, keep_touch h3 H.hd.hld (by decide) (fun k x g e => own_apart H.hd.own e (by decide)), keep_touch h3 H.hd.hld (by decide) (fun k x g e => own_apart H.hd.own e (by decide)), h3.below hB H.hd.low fun k hk => (H.hd.own.lt k hk).1⟩

set_option maxRecDepth 100000 in
set_option maxHeartbeats 4000000 in
theorem putField_1 {w : World} {B p h : Nat} {most : Int} {v : Value} {l : List Int} (H : Wr w B p h most v l) (hB : B ≤ w.heap.size) (s : ByteArray) (hs : s.size ≤ 32) (hf : (l.length : Int) + (encF s 1).length ≤ most) :
    Calls Try.prog 37 #[.pointer (some ⟨p, 0, none⟩), fldV s 1] w fun e w' => e = .returned (.int .i64 0) ∧ (∃ v', Wr w' B p h most v' (l ++ encF s 1)) ∧ Keep 25 w w' ∧ Below B w w' := by
  have hB1 : Below w.heap.size w (w.alloc (fldO s 1)) := (Below.refl _ w).alloc (Nat.le_refl _) _
  have X1 : Hid (Box2 52 (w.alloc (fldO s 1)) w.heap.size (.string s) (.int .i64 1)) := Box2.new _ w _ _
  have HW : Hid (Wr w B p h most v l) := H
  have hB2 : B ≤ (w.alloc (fldO s 1)).heap.size := Nat.le_trans hB hB1.size
  have C1 : Hid (Calls Try.prog 35 _ _ _) := wtext_any (H.later hB1) hB2 s (by omega)
  have HF : Hid ((l.length : Int) + (enc 10 s.size ++ bytesS s).length + 1 ≤ most) := by
    show (l.length : Int) + (enc 10 s.size ++ bytesS s).length + 1 ≤ most
    simp only [encF, List.length_append, List.length_cons, List.length_nil] at hf ⊢
    omega
  clear H hf
  go_enter Try.func37, Try.ntmps37
  go_wp2_with (first
    | (go_at_call 35
       refine C1.out.mono ?_
       clear C1
       rintro e w2 t2
       obtain ⟨rfl, hW2, hK2, hF2, hBl2⟩ := t2.out (HW.out.later hB1) hB2 (by have := HF.out; omega)
       clear t2
       obtain ⟨v2, hW2⟩ := hW2
       have HW2 : Hid (Wr w2 B p h most v2 (l ++ (enc 10 s.size ++ bytesS s))) := hW2
       have h2 : Hid (B ≤ w2.heap.size) := Nat.le_trans hB2 hBl2.size
       clear hW2
       obtain ⟨x0, x1⟩ := (X1.out.keep hF2).cells)
    | (go_at_call 52
       refine (wbyte_any HW2.out h2.out 1 (by omega) (by omega)).mono ?_
       rintro e w3 t3
       obtain ⟨rfl, hW3, hK3, hF3, hBl3⟩ := t3.out HW2.out h2.out (by have := HF.out; simp only [List.length_append, List.length_cons, List.length_nil] at this ⊢; omega)
       clear t3))
  go_ret
  refine ⟨rfl, ?_, ((keep_below hB1).trans hK2).trans hK3, ((hB1.mono hB).trans hBl2).trans hBl3⟩
  obtain ⟨v3, hW3⟩ := hW3
  exact ⟨v3, by rw [List.append_assoc] at hW3; exact hW3⟩
set_option maxRecDepth 100000 in
set_option maxHeartbeats 4000000 in
theorem putField_2 {w : World} {B p h : Nat} {most : Int} {v : Value} {l : List Int} (H : Wr w B p h most v l) (hB : B ≤ w.heap.size) (s : ByteArray) (hs : s.size ≤ 32) (hf : (l.length : Int) + (encF s 2).length ≤ most) :
    Calls Try.prog 37 #[.pointer (some ⟨p, 0, none⟩), fldV s 2] w fun e w' => e = .returned (.int .i64 0) ∧ (∃ v', Wr w' B p h most v' (l ++ encF s 2)) ∧ Keep 25 w w' ∧ Below B w w' := by
  have hB1 : Below w.heap.size w (w.alloc (fldO s 2)) := (Below.refl _ w).alloc (Nat.le_refl _) _
  have X1 : Hid (Box2 52 (w.alloc (fldO s 2)) w.heap.size (.string s) (.int .i64 2)) := Box2.new _ w _ _
  have HW : Hid (Wr w B p h most v l) := H
  have hB2 : B ≤ (w.alloc (fldO s 2)).heap.size := Nat.le_trans hB hB1.size
  have C1 : Hid (Calls Try.prog 35 _ _ _) := wtext_any (H.later hB1) hB2 s (by omega)
  have HF : Hid ((l.length : Int) + (enc 10 s.size ++ bytesS s).length + 1 ≤ most) := by
    show (l.length : Int) + (enc 10 s.size ++ bytesS s).length + 1 ≤ most
    simp only [encF, List.length_append, List.length_cons, List.length_nil] at hf ⊢
    omega
  clear H hf
  go_enter Try.func37, Try.ntmps37
  go_wp2_with (first
    | (go_at_call 35
       refine C1.out.mono ?_
       clear C1
       rintro e w2 t2
       obtain ⟨rfl, hW2, hK2, hF2, hBl2⟩ := t2.out (HW.out.later hB1) hB2 (by have := HF.out; omega)
       clear t2
       obtain ⟨v2, hW2⟩ := hW2
       have HW2 : Hid (Wr w2 B p h most v2 (l ++ (enc 10 s.size ++ bytesS s))) := hW2
       have h2 : Hid (B ≤ w2.heap.size) := Nat.le_trans hB2 hBl2.size
       clear hW2
       obtain ⟨x0, x1⟩ := (X1.out.keep hF2).cells)
    | (go_at_call 52
       refine (wbyte_any HW2.out h2.out 2 (by omega) (by omega)).mono ?_
       rintro e w3 t3
       obtain ⟨rfl, hW3, hK3, hF3, hBl3⟩ := t3.out HW2.out h2.out (by have := HF.out; simp only [List.length_append, List.length_cons, List.length_nil] at this ⊢; omega)
       clear t3))
  go_ret
  refine ⟨rfl, ?_, ((keep_below hB1).trans hK2).trans hK3, ((hB1.mono hB).trans hBl2).trans hBl3⟩
  obtain ⟨v3, hW3⟩ := hW3
  exact ⟨v3, by rw [List.append_assoc] at hW3; exact hW3⟩
set_option maxRecDepth 100000 in
set_option maxHeartbeats 4000000 in
theorem putField_3 {w : World} {B p h : Nat} {most : Int} {v : Value} {l : List Int} (H : Wr w B p h most v l) (hB : B ≤ w.heap.size) (s : ByteArray) (hs : s.size ≤ 32) (hf : (l.length : Int) + (encF s 3).length ≤ most) :
    Calls Try.prog 37 #[.pointer (some ⟨p, 0, none⟩), fldV s 3] w fun e w' => e = .returned (.int .i64 0) ∧ (∃ v', Wr w' B p h most v' (l ++ encF s 3)) ∧ Keep 25 w w' ∧ Below B w w' := by
  have hB1 : Below w.heap.size w (w.alloc (fldO s 3)) := (Below.refl _ w).alloc (Nat.le_refl _) _
  have X1 : Hid (Box2 52 (w.alloc (fldO s 3)) w.heap.size (.string s) (.int .i64 3)) := Box2.new _ w _ _
  have HW : Hid (Wr w B p h most v l) := H
  have hB2 : B ≤ (w.alloc (fldO s 3)).heap.size := Nat.le_trans hB hB1.size
  have C1 : Hid (Calls Try.prog 35 _ _ _) := wtext_any (H.later hB1) hB2 s (by omega)
  have HF : Hid ((l.length : Int) + (enc 10 s.size ++ bytesS s).length + 1 ≤ most) := by
    show (l.length : Int) + (enc 10 s.size ++ bytesS s).length + 1 ≤ most
    simp only [encF, List.length_append, List.length_cons, List.length_nil] at hf ⊢
    omega
  clear H hf
  go_enter Try.func37, Try.ntmps37
  go_wp2_with (first
    | (go_at_call 35
       refine C1.out.mono ?_
       clear C1
       rintro e w2 t2
       obtain ⟨rfl, hW2, hK2, hF2, hBl2⟩ := t2.out (HW.out.later hB1) hB2 (by have := HF.out; omega)
       clear t2
       obtain ⟨v2, hW2⟩ := hW2
       have HW2 : Hid (Wr w2 B p h most v2 (l ++ (enc 10 s.size ++ bytesS s))) := hW2
       have h2 : Hid (B ≤ w2.heap.size) := Nat.le_trans hB2 hBl2.size
       clear hW2
       obtain ⟨x0, x1⟩ := (X1.out.keep hF2).cells)
    | (go_at_call 52
       refine (wbyte_any HW2.out h2.out 3 (by omega) (by omega)).mono ?_
       rintro e w3 t3
       obtain ⟨rfl, hW3, hK3, hF3, hBl3⟩ := t3.out HW2.out h2.out (by have := HF.out; simp only [List.length_append, List.length_cons, List.length_nil] at this ⊢; omega)
       clear t3))
  go_ret
  refine ⟨rfl, ?_, ((keep_below hB1).trans hK2).trans hK3, ((hB1.mono hB).trans hBl2).trans hBl3⟩
  obtain ⟨v3, hW3⟩ := hW3
  exact ⟨v3, by rw [List.append_assoc] at hW3; exact hW3⟩
theorem putField_ok {w : World} {B p h : Nat} {most : Int} {v : Value} {l : List Int} (H : Wr w B p h most v l) (hB : B ≤ w.heap.size) (s : ByteArray) (k : Int) (hr : rightF s k = true) (hf : (l.length : Int) + (encF s k).length ≤ most) :
    Calls Try.prog 37 #[.pointer (some ⟨p, 0, none⟩), fldV s k] w fun e w' => e = .returned (.int .i64 0) ∧ (∃ v', Wr w' B p h most v' (l ++ encF s k)) ∧ Keep 25 w w' ∧ Below B w w' := by
  obtain ⟨h1, h2⟩ := right_parts hr
  rcases h2 with rfl | rfl | rfl
  · exact putField_1 H hB s h1 hf
  · exact putField_2 H hB s h1 hf
  · exact putField_3 H hB s h1 hf
set_option maxRecDepth 100000 in
set_option maxHeartbeats 4000000 in
/-- Put refuses what Check refuses. -/
theorem sput_no (p : Option Addr) (x : Sch) (w : World) (H : Flds w x.a x.l x.fn x.fk) (hc : ¬ x.chk = 0) :
    Calls Try.prog 18 #[.pointer p, schV x.nm x.v] w fun e w' => e = .returned (.int .i64 x.chk) ∧ Below w.heap.size w w' := by
  have hB1 : Below w.heap.size w (w.alloc (schO x.nm x.v)) := (Below.refl _ w).alloc (Nat.le_refl _) _
  have C : Hid (Calls Try.prog 10 #[schV x.nm x.v] _ _) := check_any x.nm x.a x.l x.c x.fn x.fk (w.alloc (schO x.nm x.v)) (H.later hB1)
  rw [show chkZ x.nm x.l x.fn x.fk = x.chk from rfl] at C
  generalize x.chk = y at C hc ⊢
  have hy : (y == 0) = false := by simpa using hc
  clear H
  obtain ⟨S, a, n, cap, fn, fk⟩ := x
  simp only [Sch.v] at *
  go_enter Try.func18, Try.ntmps18
  go_wp2_with (first | (go_at_call 10; refine C.out.mono ?_; rintro e w2 ⟨rfl, hB2⟩))
  go_ret
  exact ⟨rfl, bt hB1 hB2⟩
set_option maxRecDepth 100000 in
set_option maxHeartbeats 4000000 in
/-- Put writes a right schema for whose bytes there is room. -/
theorem sput_ok {w : World} {B p h : Nat} {most : Int} {v : Value} {l : List Int} (H : Wr w B p h most v l) (hB : B ≤ w.heap.size) (S : ByteArray) (a : Option Addr) (n cap : Nat) (Nm : Nat → ByteArray) (K : Nat → Int) (HX : ∀ w', Below B w w' → Flds w' a n Nm K) (hc : chkZ S n Nm K = 0) (hf : (l.length : Int) + (encS S n Nm K).length ≤ most) :
    Calls Try.prog 18 #[.pointer (some ⟨p, 0, none⟩), schV S (.slice a n cap)] w fun e w' => e = .returned (.int .i64 0) ∧ (∃ v', Wr w' B p h most v' (l ++ encS S n Nm K)) ∧ Below B w w' := by
  obtain ⟨hn, hS, hD, hA⟩ := chkZ_ok hc
  have hSz := name_size hS
  have HA : Hid (∀ j, j < n → rightF (Nm j) (K j) = true) := allR_at Nm K n hA
  have hB1 : Below w.heap.size w (w.alloc (schO S (.slice a n cap))) := (Below.refl _ w).alloc (Nat.le_refl _) _
  have hBB : B ≤ (w.alloc (schO S (.slice a n cap))).heap.size := Nat.le_trans hB hB1.size
  have C : Hid (Calls Try.prog 10 _ _ _) := check_any S a n cap Nm K (w.alloc (schO S (.slice a n cap))) (HX _ (hB1.mono hB))
  rw [hc] at C
  have X1 : Hid (Box2 25 (w.alloc (schO S (.slice a n cap))) w.heap.size (.string S) (.slice a n cap)) := Box2.new _ w _ _
  have HW : Hid (Wr w B p h most v l) := H
  have HH : Hid (∀ w', Below B w w' → Flds w' a n Nm K) := HX
  have HF : Hid ((l.length : Int) + (enc 10 S.size ++ bytesS S).length + (enc 10 n).length + (encFs Nm K n).length ≤ most) := by
    show (l.length : Int) + (enc 10 S.size ++ bytesS S).length + (enc 10 n).length + (encFs Nm K n).length ≤ most
    simp only [encS, List.length_append] at hf ⊢
    omega
  clear H HX hc hf hS hD hA
  go_enter Try.func18, Try.ntmps18
  go_wp2_with (first
    | (go_at_call 10
       refine C.out.mono ?_
       clear C
       rintro e w2 ⟨rfl, hB2⟩
       have X2 : Hid (Box2 25 w2 w.heap.size (.string S) (.slice a n cap)) := X1.out.keep (keep_below hB2)
       have HW2 : Hid (Wr w2 B p h most v l) := HW.out.later (bt hB1 hB2)
       have h2 : Hid (B ≤ w2.heap.size) := Nat.le_trans hBB hB2.size
       have L2 : Hid (Below B w w2) := (bt hB1 hB2).mono hB
       clear X1 HW hB1 hB2 hBB
       obtain ⟨x0, x1⟩ := X2.out.cells)
    | (go_at_call 35
       refine (wtext_any HW2.out h2.out S (by omega)).mono ?_
       rintro e w3 t3
       obtain ⟨rfl, hW3, hK3, hF3, hBl3⟩ := t3.out HW2.out h2.out (by have := HF.out; omega)
       clear t3 x0 x1
       obtain ⟨v3, hW3⟩ := hW3
       have HW3 : Hid (Wr w3 B p h most v3 (l ++ (enc 10 S.size ++ bytesS S))) := hW3
       have h3 : Hid (B ≤ w3.heap.size) := Nat.le_trans h2.out hBl3.size
       have L3 : Hid (Below B w w3) := L2.out.trans hBl3
       have X3 : Hid (Box2 25 w3 w.heap.size (.string S) (.slice a n cap)) := X2.out.keep hK3
       clear hW3 HW2 h2 L2 X2 hK3 hF3 hBl3
       obtain ⟨x0, x1⟩ := X3.out.cells)
    | (go_at_call 36
       refine (wnum_any HW3.out h3.out n (by omega)).mono ?_
       rintro e w4 t4
       obtain ⟨rfl, hW4, hK4, hF4, hBl4⟩ := t4.out HW3.out h3.out (by have := HF.out; simp only [List.length_append] at this ⊢; omega)
       clear t4 x0 x1
       obtain ⟨v4, hW4⟩ := hW4
       have HW4 : Hid (Wr w4 B p h most v4 ((l ++ (enc 10 S.size ++ bytesS S)) ++ enc 10 n)) := hW4
       have h4 : Hid (B ≤ w4.heap.size) := Nat.le_trans h3.out hBl4.size
       have L4 : Hid (Below B w w4) := L3.out.trans hBl4
       have X4 : Hid (Box2 25 w4 w.heap.size (.string S) (.slice a n cap)) := X3.out.keep hK4
       clear hW4 HW3 h3 L3 X3 hK4 hF4 hBl4
       obtain ⟨x0, x1⟩ := X4.out.cells))
  go_loopw [35] (fun u wr => ∃ k : Nat, k ≤ n ∧ u = .int .i64 k ∧ Hid (∃ v', Wr wr B p h most v' (((l ++ (enc 10 S.size ++ bytesS S)) ++ enc 10 n) ++ encFs Nm K k)) ∧ Hid (Below B w wr)) (fun u _ => n - (intOf u).toNat)
  case atStart => exact ⟨0, Nat.zero_le _, rfl, ⟨v4, by simpa [encFs] using HW4.out⟩, L4⟩
  case round =>
    clear x0 x1 X4 HW4 h4 L4
    obtain ⟨k, hk, rfl, HV, L5⟩ := hrel
    by_cases hkn : k < n
    · obtain ⟨b, off, rfl, hcc⟩ := HH.out _ L5.out (by omega)
      have f0 := (hcc k hkn).1.1
      have f1 : wr.cell? ⟨b, off + k * 2 + 1, none⟩ = some (.int .i64 (K k)) := (hcc k hkn).1.2
      have hB5 : Below wr.heap.size wr (wr.alloc (fldO (Nm k) (K k))) := (Below.refl _ wr).alloc (Nat.le_refl _) _
      have h5 : B ≤ wr.heap.size := Nat.le_trans hB L5.out.size
      obtain ⟨v5, hW5⟩ := HV.out
      have C5 : Hid (Calls Try.prog 37 _ _ _) := putField_ok (hW5.later hB5) (Nat.le_trans h5 hB5.size) (Nm k) (K k) (HA.out k hkn) (by
        have h1 := HF.out
        have h2 := encFs_le Nm K (k + 1) n (by omega)
        simp only [encFs, List.length_append] at h1 h2 ⊢
        omega)
      clear hcc HV hW5
      go_wp2_with (first | (go_at_call 37; refine C5.out.mono ?_; rintro e w6 ⟨rfl, hW6, hK6, hBl6⟩))
      go_roundw
      case rel =>
        refine ⟨k + 1, by omega, by go_num, ?_, (L5.out.trans (hB5.mono h5)).trans hBl6⟩
        obtain ⟨v6, hW6⟩ := hW6
        exact ⟨v6, by simp only [encFs]; rw [← List.append_assoc]; exact hW6⟩
      case measure => simp [intOf]; omega
    · obtain rfl : k = n := by omega
      go_wp2
      go_ret
      refine ⟨rfl, ?_, L5.out⟩
      obtain ⟨v5, hW5⟩ := HV.out
      exact ⟨v5, by simp only [encS]; simpa only [List.append_assoc] using hW5⟩
end Go.Proofs.Ytdaldnpajihdlaa
