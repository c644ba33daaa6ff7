/-
  value.Get (P6.3): the value of any bytes, wire's first error, or ErrForm.
-/
import Derived.Test.YtabhjmfacgbbgaaValPut
import Derived.Deep.DeepCutAuto
namespace Go.Proofs.Ytabhjmfacgbbgaa
open Go.RowKit

/-- What is answered where there is no value. -/
def noV (e : Int) (q : Nat) : (Int × Int × ByteArray) × Int × Nat := ((0, 0, ⟨#[]⟩), e, q)
/-- P6.3's Get: the value, the error, the place behind. -/
def getV (l : List Int) (q : Nat) : (Int × Int × ByteArray) × Int × Nat :=
  if (byteZ l q).2.1 ≠ 0 then noV (byteZ l q).2.1 (byteZ l q).2.2
  else if (byteZ l q).1 = 0 then noV 0 (byteZ l q).2.2
  else if (byteZ l q).1 = 1 then
    (if (byteZ l (byteZ l q).2.2).2.1 ≠ 0 then noV (byteZ l (byteZ l q).2.2).2.1 (byteZ l (byteZ l q).2.2).2.2
     else if (byteZ l (byteZ l q).2.2).1 = 0 ∨ (byteZ l (byteZ l q).2.2).1 = 1 then ((1, (byteZ l (byteZ l q).2.2).1, ⟨#[]⟩), 0, (byteZ l (byteZ l q).2.2).2.2)
     else noV 4 (byteZ l (byteZ l q).2.2).2.2)
  else if (byteZ l q).1 = 2 then
    (if (numZ l (byteZ l q).2.2 18446744073709551615).2.1 ≠ 0 then noV (numZ l (byteZ l q).2.2 18446744073709551615).2.1 (numZ l (byteZ l q).2.2 18446744073709551615).2.2
     else ((2, backZ (numZ l (byteZ l q).2.2 18446744073709551615).1, ⟨#[]⟩), 0, (numZ l (byteZ l q).2.2 18446744073709551615).2.2))
  else if (byteZ l q).1 = 3 then
    (if (textZ l (byteZ l q).2.2 256).2.1 ≠ 0 then noV (textZ l (byteZ l q).2.2 256).2.1 (textZ l (byteZ l q).2.2 256).2.2
     else ((3, 0, strOf (textZ l (byteZ l q).2.2 256).1), 0, (textZ l (byteZ l q).2.2 256).2.2))
  else noV 4 (byteZ l q).2.2

theorem Touch.on {p : Nat} {w a b : World} (t : Touch p none w a) (hb : Below w.heap.size a b) : Touch p none w b :=
  ⟨hb.os.trans t.os, hb.tape.trans t.tape, hb.output.trans t.output, Nat.le_trans t.size hb.size, fun k hk h1 h2 => (hb.block k hk).trans (t.block k hk h1 h2)⟩
theorem Rd.own_lt {w : World} {B p h : Nat} {v : Value} {l : List Int} {q : Nat} (H : Rd w B p h v l q) : p < w.heap.size ∧ h < w.heap.size ∧ ∀ k, v.ownBlock = some k → k < w.heap.size := ⟨H.lt, H.hd.lt, fun k hk => (H.hd.own.lt k hk).2⟩
/-- What is taken stays taken where only blocks behind turn. -/
theorem Took.on {w a b : World} {B p h : Nat} {v : Value} {l : List Int} {q r : Nat} (H : Rd w B p h v l q) (t : Took w B p h v l r a) (hb : Below w.heap.size a b) : Took w B p h v l r b := by
  obtain ⟨h1, h2, h3⟩ := H.own_lt
  obtain ⟨t1, t2⟩ := t
  exact ⟨⟨(hb.block p h1).trans t1.top, t1.hd.kept (hb.block h h2) (fun k hk => hb.block k (h3 k hk)), t1.low, t1.fit, t1.m1⟩, t2.on hb⟩
theorem Took.keepV {w w' : World} {B p h : Nat} {v : Value} {l : List Int} {q r : Nat} (H : Rd w B p h v l q) (t : Took w B p h v l r w') : KeepV w w' :=
  keepV_touch t.2 H.top (by decide) (fun _ _ _ _ => by simp)
/-- First what was there is kept, then it is taken. -/
theorem Took.after {w a b : World} {B p h : Nat} {v : Value} {l : List Int} {r : Nat} (hb : Below w.heap.size w a) (t : Took a B p h v l r b) : Took w B p h v l r b := ⟨t.1, Touch.after hb t.2⟩
/-- Taken twice. -/
theorem Took.trans {w a b : World} {B p h : Nat} {v : Value} {l : List Int} {r r' : Nat} (t : Took w B p h v l r a) (u : Took a B p h v l r' b) : Took w B p h v l r' b :=
  ⟨u.1, ⟨u.2.os.trans t.2.os, u.2.tape.trans t.2.tape, u.2.output.trans t.2.output, Nat.le_trans t.2.size u.2.size, fun k hk h1 h2 => (u.2.block k (Nat.lt_of_lt_of_le hk t.2.size) h1 h2).trans (t.2.block k hk h1 h2)⟩⟩
theorem Box.frozen {w : World} {b : Nat} {k n : Int} {s : ByteArray} (h : Box w b k n s) (i : Nat) : w.frozen? ⟨b, i, none⟩ = false := by
  unfold Box at h
  simp [World.frozen?, h]
theorem Box.set0 {w : World} {b : Nat} {k n : Int} {s : ByteArray} (h : Box w b k n s) (x : Int) : Box (w.setCell ⟨b, 0, none⟩ (.int .i64 x)) b x n s := by
  unfold Box at h ⊢
  simp [World.setCell, Array.getElem?_modify, h]
theorem Box.set1 {w : World} {b : Nat} {k n : Int} {s : ByteArray} (h : Box w b k n s) (x : Int) : Box (w.setCell ⟨b, 1, none⟩ (.int .i64 x)) b k x s := by
  unfold Box at h ⊢
  simp [World.setCell, Array.getElem?_modify, h]
theorem Box.set2 {w : World} {b : Nat} {k n : Int} {s : ByteArray} (h : Box w b k n s) (x : ByteArray) : Box (w.setCell ⟨b, 2, none⟩ (.string x)) b k n x := by
  unfold Box at h ⊢
  simp [World.setCell, Array.getElem?_modify, h]
theorem Box.other {w : World} {b : Nat} {k n : Int} {s : ByteArray} (h : Box w b k n s) (a : Addr) (x : Value) (hne : b ≠ a.block) : Box (w.setCell a x) b k n s := by
  unfold Box at h ⊢
  rw [Below.heap_setCell _ _ _ _ hne, h]
theorem Box.lt {w : World} {b : Nat} {k n : Int} {s : ByteArray} (h : Box w b k n s) : b < w.heap.size := (Array.getElem?_eq_some_iff.1 h).1

set_option maxHeartbeats 2000000 in
/-- The first byte is missing. -/
theorem get_short {w : World} {B p h : Nat} {v : Value} {l : List Int} {q : Nat} (H : Rd w B p h v l q) (e : Int) (r : Nat) (hz : byteZ l q = (0, e, r)) (he : e ≠ 0) :
    Calls Try.prog 10 #[.pointer (some ⟨p, 0, none⟩)] w fun x w' => x = .returned (.tuple #[valV 0 0 ⟨#[]⟩, .int .i64 e]) ∧ Took w B p h v l r w' := by
  have hB1 : Below w.heap.size w (w.alloc (valO 0 0 ⟨#[]⟩)) := (Below.refl _ w).alloc (Nat.le_refl _) _
  have cc := rbyte_any (H.later hB1)
  rw [hz] at cc
  dsimp only at cc
  have C1 : Hid (Calls Try.prog 26 _ _ _) := cc
  have X1 : Hid (Box (w.alloc (valO 0 0 ⟨#[]⟩)) w.heap.size 0 0 ⟨#[]⟩) := Box.new w _ _ _
  have he' : (e != 0) = true := by simpa using he
  have HR : Hid (Rd w B p h v l q) := H
  clear cc H hz he
  go_enter Try.func10, Try.ntmps10
  go_upto_region 3 with (first
    | (go_at_call 26
       refine C1.out.mono ?_
       rintro x w2 ⟨rfl, t2⟩
       have X2 : Hid (Box w2 w.heap.size 0 0 ⟨#[]⟩) := X1.out.keep (t2.keepV (HR.out.later hB1))
       have T2 : Hid (Took w B p h v l r w2) := Took.after hB1 t2
       clear t2))
  have hB2 : Below w.heap.size w2 (w2.alloc (valO 0 0 ⟨#[]⟩)) := (Below.refl _ w2).alloc T2.out.2.size _
  have XA : Hid (Box (w2.alloc (valO 0 0 ⟨#[]⟩)) w.heap.size 0 0 ⟨#[]⟩) := X2.out.keep (keepV_below ((Below.refl _ w2).alloc (Nat.le_refl _) _))
  have XB : Hid (Box (w2.alloc (valO 0 0 ⟨#[]⟩)) w2.heap.size 0 0 ⟨#[]⟩) := Box.new w2 _ _ _
  have TK : Hid (Took w B p h v l r (w2.alloc (valO 0 0 ⟨#[]⟩))) := T2.out.on HR.out hB2
  obtain ⟨a, ha⟩ : ∃ a, a = w.heap.size := ⟨_, rfl⟩
  have hab : ¬ a = w2.heap.size := by have := X2.out.lt; omega
  have hba : ¬ w2.heap.size = a := by omega
  have HL : Hid (w.heap.size ≤ a ∧ w.heap.size ≤ w2.heap.size) := ⟨by omega, T2.out.2.size⟩
  rw [← ha] at XA
  simp only [← ha]
  clear X2 T2 hB2 X1 hB1 ha C1
  generalize w2.heap.size = b at XB hab hba HL ⊢
  generalize w2.alloc (valO 0 0 ⟨#[]⟩) = W at XA XB TK ⊢
  obtain ⟨x0, x1, x2⟩ := XA.out.cells
  obtain ⟨y0, y1, y2⟩ := XB.out.cells
  have g0 := XA.out.frozen 0
  have g1 := XA.out.frozen 1
  have g2 := XA.out.frozen 2
  have f1 := XB.out.frozen 1
  have f2 := XB.out.frozen 2
  go_wp2
  exact bodyPost_ret (v := .tuple #[valV 0 0 ⟨#[]⟩, .int .i64 e]) (by simp [results, Try.results10, go_sem, x0, x1, x2]) rfl ⟨rfl, TK.out.on HR.out ((((Below.refl _ W).setCell HL.out.1 _).setCell HL.out.1 _).setCell HL.out.1 _)⟩
set_option maxHeartbeats 2000000 in
/-- Null. -/
theorem get_null {w : World} {B p h : Nat} {v : Value} {l : List Int} {q : Nat} (H : Rd w B p h v l q) (r : Nat) (hz : byteZ l q = (0, 0, r)) (hr : rightB 0 0 ⟨#[]⟩ = true) :
    Calls Try.prog 10 #[.pointer (some ⟨p, 0, none⟩)] w fun x w' => x = .returned (.tuple #[valV 0 0 ⟨#[]⟩, .int .i64 0]) ∧ Took w B p h v l r w' := by
  have hB1 : Below w.heap.size w (w.alloc (valO 0 0 ⟨#[]⟩)) := (Below.refl _ w).alloc (Nat.le_refl _) _
  have cc := rbyte_any (H.later hB1)
  rw [hz] at cc
  dsimp only at cc
  have C1 : Hid (Calls Try.prog 26 _ _ _) := cc
  have X1 : Hid (Box (w.alloc (valO 0 0 ⟨#[]⟩)) w.heap.size 0 0 ⟨#[]⟩) := Box.new w _ _ _
  have HRt : Hid (_ = _) := hr
  have HR : Hid (Rd w B p h v l q) := H
  clear cc H hz hr
  go_enter Try.func10, Try.ntmps10
  go_upto_region 3 with (first
    | (go_at_call 26
       refine C1.out.mono ?_
       rintro x w2 ⟨rfl, t2⟩
       have X2 : Hid (Box w2 w.heap.size 0 0 ⟨#[]⟩) := X1.out.keep (t2.keepV (HR.out.later hB1))
       have T2 : Hid (Took w B p h v l r w2) := Took.after hB1 t2
       clear t2))
  have hB2 : Below w.heap.size w2 (w2.alloc (valO 0 0 ⟨#[]⟩)) := (Below.refl _ w2).alloc T2.out.2.size _
  have XA : Hid (Box (w2.alloc (valO 0 0 ⟨#[]⟩)) w.heap.size 0 0 ⟨#[]⟩) := X2.out.keep (keepV_below ((Below.refl _ w2).alloc (Nat.le_refl _) _))
  have XB : Hid (Box (w2.alloc (valO 0 0 ⟨#[]⟩)) w2.heap.size 0 0 ⟨#[]⟩) := Box.new w2 _ _ _
  have TK : Hid (Took w B p h v l r (w2.alloc (valO 0 0 ⟨#[]⟩))) := T2.out.on HR.out hB2
  obtain ⟨a, ha⟩ : ∃ a, a = w.heap.size := ⟨_, rfl⟩
  have hab : ¬ a = w2.heap.size := by have := X2.out.lt; omega
  have hba : ¬ w2.heap.size = a := by omega
  have HL : Hid (w.heap.size ≤ a ∧ w.heap.size ≤ w2.heap.size) := ⟨by omega, T2.out.2.size⟩
  rw [← ha] at XA
  simp only [← ha]
  clear X2 T2 hB2 X1 hB1 ha C1
  generalize w2.heap.size = b at XB hab hba HL ⊢
  generalize w2.alloc (valO 0 0 ⟨#[]⟩) = W at XA XB TK ⊢
  obtain ⟨x0, x1, x2⟩ := XA.out.cells
  obtain ⟨y0, y1, y2⟩ := XB.out.cells
  have g0 := XA.out.frozen 0
  have g1 := XA.out.frozen 1
  have g2 := XA.out.frozen 2
  have f1 := XB.out.frozen 1
  have f2 := XB.out.frozen 2
  go_wp2_with (first
    | (go_at_call 7
       have c5 := right_any 0 0 ⟨#[]⟩ W
       rw [HRt.out] at c5
       refine c5.mono ?_
       clear c5 x0 x1 x2 y0 y1 y2 g0 g1 g2 f1 f2
       rintro x w6 ⟨rfl, hB6⟩
       have XA6 : Hid (Box w6 a 0 0 ⟨#[]⟩) := XA.out.keep (keepV_below hB6)
       have XB6 : Hid (Box w6 b 0 0 ⟨#[]⟩) := XB.out.keep (keepV_below hB6)
       have TK6 : Hid (Took w B p h v l r w6) := TK.out.on HR.out (hB6.mono TK.out.2.size)
       clear hB6
       obtain ⟨x0, x1, x2⟩ := XA6.out.cells
       obtain ⟨y0, y1, y2⟩ := XB6.out.cells
       have g0 := XA6.out.frozen 0
       have g1 := XA6.out.frozen 1
       have g2 := XA6.out.frozen 2
       have f1 := XB6.out.frozen 1
       have f2 := XB6.out.frozen 2))
  exact bodyPost_ret (v := .tuple #[valV 0 0 ⟨#[]⟩, .int .i64 0]) (by simp [results, Try.results10, go_sem, x0, x1, x2]) rfl ⟨rfl, TK6.out.on HR.out ((((Below.refl _ w6).setCell HL.out.1 _).setCell HL.out.1 _).setCell HL.out.1 _)⟩
set_option maxHeartbeats 2000000 in
/-- A K that is none. -/
theorem get_other {w : World} {B p h : Nat} {v : Value} {l : List Int} {q : Nat} (H : Rd w B p h v l q) (c : Int) (r : Nat) (hz : byteZ l q = (c, 0, r)) (d0 : (c == 1) = false) (d1 : (c == 2) = false) (d2 : (c == 3) = false) (hw : wrap64 c = c) (hr : rightB c 0 ⟨#[]⟩ = false) :
    Calls Try.prog 10 #[.pointer (some ⟨p, 0, none⟩)] w fun x w' => x = .returned (.tuple #[valV 0 0 ⟨#[]⟩, .int .i64 4]) ∧ Took w B p h v l r w' := by
  have hB1 : Below w.heap.size w (w.alloc (valO 0 0 ⟨#[]⟩)) := (Below.refl _ w).alloc (Nat.le_refl _) _
  have cc := rbyte_any (H.later hB1)
  rw [hz] at cc
  dsimp only at cc
  have C1 : Hid (Calls Try.prog 26 _ _ _) := cc
  have X1 : Hid (Box (w.alloc (valO 0 0 ⟨#[]⟩)) w.heap.size 0 0 ⟨#[]⟩) := Box.new w _ _ _
  have HRt : Hid (_ = _) := hr
  have HR : Hid (Rd w B p h v l q) := H
  clear cc H hz hr
  go_enter Try.func10, Try.ntmps10
  go_upto_region 3 with (first
    | (go_at_call 26
       refine C1.out.mono ?_
       rintro x w2 ⟨rfl, t2⟩
       have X2 : Hid (Box w2 w.heap.size 0 0 ⟨#[]⟩) := X1.out.keep (t2.keepV (HR.out.later hB1))
       have T2 : Hid (Took w B p h v l r w2) := Took.after hB1 t2
       clear t2))
  have hB2 : Below w.heap.size w2 (w2.alloc (valO c 0 ⟨#[]⟩)) := (Below.refl _ w2).alloc T2.out.2.size _
  have XA : Hid (Box (w2.alloc (valO c 0 ⟨#[]⟩)) w.heap.size 0 0 ⟨#[]⟩) := X2.out.keep (keepV_below ((Below.refl _ w2).alloc (Nat.le_refl _) _))
  have XB : Hid (Box (w2.alloc (valO c 0 ⟨#[]⟩)) w2.heap.size c 0 ⟨#[]⟩) := Box.new w2 _ _ _
  have TK : Hid (Took w B p h v l r (w2.alloc (valO c 0 ⟨#[]⟩))) := T2.out.on HR.out hB2
  obtain ⟨a, ha⟩ : ∃ a, a = w.heap.size := ⟨_, rfl⟩
  have hab : ¬ a = w2.heap.size := by have := X2.out.lt; omega
  have hba : ¬ w2.heap.size = a := by omega
  have HL : Hid (w.heap.size ≤ a ∧ w.heap.size ≤ w2.heap.size) := ⟨by omega, T2.out.2.size⟩
  rw [← ha] at XA
  simp only [← ha]
  clear X2 T2 hB2 X1 hB1 ha C1
  generalize w2.heap.size = b at XB hab hba HL ⊢
  generalize w2.alloc (valO c 0 ⟨#[]⟩) = W at XA XB TK ⊢
  obtain ⟨x0, x1, x2⟩ := XA.out.cells
  obtain ⟨y0, y1, y2⟩ := XB.out.cells
  have g0 := XA.out.frozen 0
  have g1 := XA.out.frozen 1
  have g2 := XA.out.frozen 2
  have f1 := XB.out.frozen 1
  have f2 := XB.out.frozen 2
  go_wp2_with (first
    | (go_at_call 7
       have c5 := right_any c 0 ⟨#[]⟩ W
       rw [HRt.out] at c5
       refine c5.mono ?_
       clear c5 x0 x1 x2 y0 y1 y2 g0 g1 g2 f1 f2
       rintro x w6 ⟨rfl, hB6⟩
       have XA6 : Hid (Box w6 a 0 0 ⟨#[]⟩) := XA.out.keep (keepV_below hB6)
       have XB6 : Hid (Box w6 b c 0 ⟨#[]⟩) := XB.out.keep (keepV_below hB6)
       have TK6 : Hid (Took w B p h v l r w6) := TK.out.on HR.out (hB6.mono TK.out.2.size)
       clear hB6
       obtain ⟨x0, x1, x2⟩ := XA6.out.cells
       obtain ⟨y0, y1, y2⟩ := XB6.out.cells
       have g0 := XA6.out.frozen 0
       have g1 := XA6.out.frozen 1
       have g2 := XA6.out.frozen 2
       have f1 := XB6.out.frozen 1
       have f2 := XB6.out.frozen 2))
  exact bodyPost_ret (v := .tuple #[valV 0 0 ⟨#[]⟩, .int .i64 4]) (by simp [results, Try.results10, go_sem, x0, x1, x2]) rfl ⟨rfl, TK6.out.on HR.out ((((Below.refl _ w6).setCell HL.out.1 _).setCell HL.out.1 _).setCell HL.out.1 _)⟩
set_option maxHeartbeats 2000000 in
/-- A bool's byte is missing. -/
theorem get_bool_short {w : World} {B p h : Nat} {v : Value} {l : List Int} {q : Nat} (H : Rd w B p h v l q) (r : Nat) (n : Int) (e : Int) (r2 : Nat) (hz : byteZ l q = (1, 0, r)) (hz2 : byteZ l r = (n, e, r2)) (hw : wrap64 n = n) (he : e ≠ 0) :
    Calls Try.prog 10 #[.pointer (some ⟨p, 0, none⟩)] w fun x w' => x = .returned (.tuple #[valV 0 0 ⟨#[]⟩, .int .i64 e]) ∧ Took w B p h v l r2 w' := by
  have hB1 : Below w.heap.size w (w.alloc (valO 0 0 ⟨#[]⟩)) := (Below.refl _ w).alloc (Nat.le_refl _) _
  have cc := rbyte_any (H.later hB1)
  rw [hz] at cc
  dsimp only at cc
  have C1 : Hid (Calls Try.prog 26 _ _ _) := cc
  have X1 : Hid (Box (w.alloc (valO 0 0 ⟨#[]⟩)) w.heap.size 0 0 ⟨#[]⟩) := Box.new w _ _ _
  have he' : (e != 0) = true := by simpa using he
  have HZ2 : Hid (_ = _) := hz2
  have HR : Hid (Rd w B p h v l q) := H
  clear cc H hz he hz2
  go_enter Try.func10, Try.ntmps10
  go_upto_region 3 with (first
    | (go_at_call 26
       refine C1.out.mono ?_
       rintro x w2 ⟨rfl, t2⟩
       have X2 : Hid (Box w2 w.heap.size 0 0 ⟨#[]⟩) := X1.out.keep (t2.keepV (HR.out.later hB1))
       have T2 : Hid (Took w B p h v l r w2) := Took.after hB1 t2
       clear t2))
  have hB2 : Below w.heap.size w2 (w2.alloc (valO 1 0 ⟨#[]⟩)) := (Below.refl _ w2).alloc T2.out.2.size _
  have XA : Hid (Box (w2.alloc (valO 1 0 ⟨#[]⟩)) w.heap.size 0 0 ⟨#[]⟩) := X2.out.keep (keepV_below ((Below.refl _ w2).alloc (Nat.le_refl _) _))
  have XB : Hid (Box (w2.alloc (valO 1 0 ⟨#[]⟩)) w2.heap.size 1 0 ⟨#[]⟩) := Box.new w2 _ _ _
  have TK : Hid (Took w B p h v l r (w2.alloc (valO 1 0 ⟨#[]⟩))) := T2.out.on HR.out hB2
  obtain ⟨a, ha⟩ : ∃ a, a = w.heap.size := ⟨_, rfl⟩
  have hab : ¬ a = w2.heap.size := by have := X2.out.lt; omega
  have hba : ¬ w2.heap.size = a := by omega
  have HL : Hid (w.heap.size ≤ a ∧ w.heap.size ≤ w2.heap.size) := ⟨by omega, T2.out.2.size⟩
  rw [← ha] at XA
  simp only [← ha]
  clear X2 T2 hB2 X1 hB1 ha C1
  generalize w2.heap.size = b at XB hab hba HL ⊢
  generalize w2.alloc (valO 1 0 ⟨#[]⟩) = W at XA XB TK ⊢
  obtain ⟨x0, x1, x2⟩ := XA.out.cells
  obtain ⟨y0, y1, y2⟩ := XB.out.cells
  have g0 := XA.out.frozen 0
  have g1 := XA.out.frozen 1
  have g2 := XA.out.frozen 2
  have f1 := XB.out.frozen 1
  have f2 := XB.out.frozen 2
  go_wp2_with (first
    | (go_at_call 26
       have c2 := rbyte_any TK.out.1
       rw [HZ2.out] at c2
       dsimp only at c2
       refine c2.mono ?_
       clear c2 x0 x1 x2 y0 y1 y2 g0 g1 g2 f1 f2
       rintro x w4 ⟨rfl, t4⟩
       have K4 := t4.keepV TK.out.1
       have XA4 : Hid (Box w4 a 0 0 ⟨#[]⟩) := XA.out.keep K4
       have XB4 : Hid (Box w4 b 1 0 ⟨#[]⟩) := XB.out.keep K4
       have TK4 : Hid (Took w B p h v l r2 w4) := TK.out.trans t4
       clear t4 K4
       obtain ⟨x0, x1, x2⟩ := XA4.out.cells
       obtain ⟨y0, y1, y2⟩ := XB4.out.cells
       have g0 := XA4.out.frozen 0
       have g1 := XA4.out.frozen 1
       have g2 := XA4.out.frozen 2
       have f1 := XB4.out.frozen 1
       have f2 := XB4.out.frozen 2))
  exact bodyPost_ret (v := .tuple #[valV 0 0 ⟨#[]⟩, .int .i64 e]) (by simp [results, Try.results10, go_sem, x0, x1, x2]) rfl ⟨rfl, TK4.out.on HR.out (((((Below.refl _ w4).setCell HL.out.2 _).setCell HL.out.1 _).setCell HL.out.1 _).setCell HL.out.1 _)⟩
set_option maxHeartbeats 2000000 in
/-- A bool. -/
theorem get_bool {w : World} {B p h : Nat} {v : Value} {l : List Int} {q : Nat} (H : Rd w B p h v l q) (r : Nat) (n : Int) (r2 : Nat) (hz : byteZ l q = (1, 0, r)) (hz2 : byteZ l r = (n, 0, r2)) (hw : wrap64 n = n) (hr : rightB 1 n ⟨#[]⟩ = true) :
    Calls Try.prog 10 #[.pointer (some ⟨p, 0, none⟩)] w fun x w' => x = .returned (.tuple #[valV 1 n ⟨#[]⟩, .int .i64 0]) ∧ Took w B p h v l r2 w' := by
  have hB1 : Below w.heap.size w (w.alloc (valO 0 0 ⟨#[]⟩)) := (Below.refl _ w).alloc (Nat.le_refl _) _
  have cc := rbyte_any (H.later hB1)
  rw [hz] at cc
  dsimp only at cc
  have C1 : Hid (Calls Try.prog 26 _ _ _) := cc
  have X1 : Hid (Box (w.alloc (valO 0 0 ⟨#[]⟩)) w.heap.size 0 0 ⟨#[]⟩) := Box.new w _ _ _
  have HZ2 : Hid (_ = _) := hz2
  have HRt : Hid (_ = _) := hr
  have HR : Hid (Rd w B p h v l q) := H
  clear cc H hz hz2 hr
  go_enter Try.func10, Try.ntmps10
  go_upto_region 3 with (first
    | (go_at_call 26
       refine C1.out.mono ?_
       rintro x w2 ⟨rfl, t2⟩
       have X2 : Hid (Box w2 w.heap.size 0 0 ⟨#[]⟩) := X1.out.keep (t2.keepV (HR.out.later hB1))
       have T2 : Hid (Took w B p h v l r w2) := Took.after hB1 t2
       clear t2))
  have hB2 : Below w.heap.size w2 (w2.alloc (valO 1 0 ⟨#[]⟩)) := (Below.refl _ w2).alloc T2.out.2.size _
  have XA : Hid (Box (w2.alloc (valO 1 0 ⟨#[]⟩)) w.heap.size 0 0 ⟨#[]⟩) := X2.out.keep (keepV_below ((Below.refl _ w2).alloc (Nat.le_refl _) _))
  have XB : Hid (Box (w2.alloc (valO 1 0 ⟨#[]⟩)) w2.heap.size 1 0 ⟨#[]⟩) := Box.new w2 _ _ _
  have TK : Hid (Took w B p h v l r (w2.alloc (valO 1 0 ⟨#[]⟩))) := T2.out.on HR.out hB2
  obtain ⟨a, ha⟩ : ∃ a, a = w.heap.size := ⟨_, rfl⟩
  have hab : ¬ a = w2.heap.size := by have := X2.out.lt; omega
  have hba : ¬ w2.heap.size = a := by omega
  have HL : Hid (w.heap.size ≤ a ∧ w.heap.size ≤ w2.heap.size) := ⟨by omega, T2.out.2.size⟩
  rw [← ha] at XA
  simp only [← ha]
  clear X2 T2 hB2 X1 hB1 ha C1
  generalize w2.heap.size = b at XB hab hba HL ⊢
  generalize w2.alloc (valO 1 0 ⟨#[]⟩) = W at XA XB TK ⊢
  obtain ⟨x0, x1, x2⟩ := XA.out.cells
  obtain ⟨y0, y1, y2⟩ := XB.out.cells
  have g0 := XA.out.frozen 0
  have g1 := XA.out.frozen 1
  have g2 := XA.out.frozen 2
  have f1 := XB.out.frozen 1
  have f2 := XB.out.frozen 2
  go_wp2_with (first
    | (go_at_call 26
       have c2 := rbyte_any TK.out.1
       rw [HZ2.out] at c2
       dsimp only at c2
       refine c2.mono ?_
       clear c2 x0 x1 x2 y0 y1 y2 g0 g1 g2 f1 f2
       rintro x w4 ⟨rfl, t4⟩
       have K4 := t4.keepV TK.out.1
       have XA4 : Hid (Box w4 a 0 0 ⟨#[]⟩) := XA.out.keep K4
       have XB4 : Hid (Box w4 b 1 0 ⟨#[]⟩) := XB.out.keep K4
       have TK4 : Hid (Took w B p h v l r2 w4) := TK.out.trans t4
       clear t4 K4
       obtain ⟨x0, x1, x2⟩ := XA4.out.cells
       obtain ⟨y0, y1, y2⟩ := XB4.out.cells
       have g0 := XA4.out.frozen 0
       have g1 := XA4.out.frozen 1
       have g2 := XA4.out.frozen 2
       have f1 := XB4.out.frozen 1
       have f2 := XB4.out.frozen 2)
    | (go_at_call 7
       have XB5 := XB4.out.set1 n
       have XA5 := XA4.out.other ⟨b, 1, none⟩ (.int .i64 n) hab
       have TK5 := TK4.out.on HR.out ((Below.refl _ w4).setCell (p := ⟨b, 1, none⟩) HL.out.2 (.int .i64 n))
       generalize w4.setCell ⟨b, 1, none⟩ (.int .i64 n) = W5 at XA5 XB5 TK5 ⊢
       have c5 := right_any 1 n ⟨#[]⟩ W5
       rw [HRt.out] at c5
       refine c5.mono ?_
       clear c5 x0 x1 x2 y0 y1 y2 g0 g1 g2 f1 f2
       rintro x w6 ⟨rfl, hB6⟩
       have XA6 : Hid (Box w6 a 0 0 ⟨#[]⟩) := XA5.keep (keepV_below hB6)
       have XB6 : Hid (Box w6 b 1 n ⟨#[]⟩) := XB5.keep (keepV_below hB6)
       have TK6 : Hid (Took w B p h v l r2 w6) := TK5.on HR.out (hB6.mono TK5.2.size)
       clear XA5 XB5 TK5 hB6
       obtain ⟨x0, x1, x2⟩ := XA6.out.cells
       obtain ⟨y0, y1, y2⟩ := XB6.out.cells
       have g0 := XA6.out.frozen 0
       have g1 := XA6.out.frozen 1
       have g2 := XA6.out.frozen 2
       have f1 := XB6.out.frozen 1
       have f2 := XB6.out.frozen 2))
  exact bodyPost_ret (v := .tuple #[valV 1 n ⟨#[]⟩, .int .i64 0]) (by simp [results, Try.results10, go_sem, x0, x1, x2]) rfl ⟨rfl, TK6.out.on HR.out ((((Below.refl _ w6).setCell HL.out.1 _).setCell HL.out.1 _).setCell HL.out.1 _)⟩
set_option maxHeartbeats 2000000 in
/-- A bool's byte that is none. -/
theorem get_bool_no {w : World} {B p h : Nat} {v : Value} {l : List Int} {q : Nat} (H : Rd w B p h v l q) (r : Nat) (n : Int) (r2 : Nat) (hz : byteZ l q = (1, 0, r)) (hz2 : byteZ l r = (n, 0, r2)) (hw : wrap64 n = n) (hr : rightB 1 n ⟨#[]⟩ = false) :
    Calls Try.prog 10 #[.pointer (some ⟨p, 0, none⟩)] w fun x w' => x = .returned (.tuple #[valV 0 0 ⟨#[]⟩, .int .i64 4]) ∧ Took w B p h v l r2 w' := by
  have hB1 : Below w.heap.size w (w.alloc (valO 0 0 ⟨#[]⟩)) := (Below.refl _ w).alloc (Nat.le_refl _) _
  have cc := rbyte_any (H.later hB1)
  rw [hz] at cc
  dsimp only at cc
  have C1 : Hid (Calls Try.prog 26 _ _ _) := cc
  have X1 : Hid (Box (w.alloc (valO 0 0 ⟨#[]⟩)) w.heap.size 0 0 ⟨#[]⟩) := Box.new w _ _ _
  have HZ2 : Hid (_ = _) := hz2
  have HRt : Hid (_ = _) := hr
  have HR : Hid (Rd w B p h v l q) := H
  clear cc H hz hz2 hr
  go_enter Try.func10, Try.ntmps10
  go_upto_region 3 with (first
    | (go_at_call 26
       refine C1.out.mono ?_
       rintro x w2 ⟨rfl, t2⟩
       have X2 : Hid (Box w2 w.heap.size 0 0 ⟨#[]⟩) := X1.out.keep (t2.keepV (HR.out.later hB1))
       have T2 : Hid (Took w B p h v l r w2) := Took.after hB1 t2
       clear t2))
  have hB2 : Below w.heap.size w2 (w2.alloc (valO 1 0 ⟨#[]⟩)) := (Below.refl _ w2).alloc T2.out.2.size _
  have XA : Hid (Box (w2.alloc (valO 1 0 ⟨#[]⟩)) w.heap.size 0 0 ⟨#[]⟩) := X2.out.keep (keepV_below ((Below.refl _ w2).alloc (Nat.le_refl _) _))
  have XB : Hid (Box (w2.alloc (valO 1 0 ⟨#[]⟩)) w2.heap.size 1 0 ⟨#[]⟩) := Box.new w2 _ _ _
  have TK : Hid (Took w B p h v l r (w2.alloc (valO 1 0 ⟨#[]⟩))) := T2.out.on HR.out hB2
  obtain ⟨a, ha⟩ : ∃ a, a = w.heap.size := ⟨_, rfl⟩
  have hab : ¬ a = w2.heap.size := by have := X2.out.lt; omega
  have hba : ¬ w2.heap.size = a := by omega
  have HL : Hid (w.heap.size ≤ a ∧ w.heap.size ≤ w2.heap.size) := ⟨by omega, T2.out.2.size⟩
  rw [← ha] at XA
  simp only [← ha]
  clear X2 T2 hB2 X1 hB1 ha C1
  generalize w2.heap.size = b at XB hab hba HL ⊢
  generalize w2.alloc (valO 1 0 ⟨#[]⟩) = W at XA XB TK ⊢
  obtain ⟨x0, x1, x2⟩ := XA.out.cells
  obtain ⟨y0, y1, y2⟩ := XB.out.cells
  have g0 := XA.out.frozen 0
  have g1 := XA.out.frozen 1
  have g2 := XA.out.frozen 2
  have f1 := XB.out.frozen 1
  have f2 := XB.out.frozen 2
  go_wp2_with (first
    | (go_at_call 26
       have c2 := rbyte_any TK.out.1
       rw [HZ2.out] at c2
       dsimp only at c2
       refine c2.mono ?_
       clear c2 x0 x1 x2 y0 y1 y2 g0 g1 g2 f1 f2
       rintro x w4 ⟨rfl, t4⟩
       have K4 := t4.keepV TK.out.1
       have XA4 : Hid (Box w4 a 0 0 ⟨#[]⟩) := XA.out.keep K4
       have XB4 : Hid (Box w4 b 1 0 ⟨#[]⟩) := XB.out.keep K4
       have TK4 : Hid (Took w B p h v l r2 w4) := TK.out.trans t4
       clear t4 K4
       obtain ⟨x0, x1, x2⟩ := XA4.out.cells
       obtain ⟨y0, y1, y2⟩ := XB4.out.cells
       have g0 := XA4.out.frozen 0
       have g1 := XA4.out.frozen 1
       have g2 := XA4.out.frozen 2
       have f1 := XB4.out.frozen 1
       have f2 := XB4.out.frozen 2)
    | (go_at_call 7
       have XB5 := XB4.out.set1 n
       have XA5 := XA4.out.other ⟨b, 1, none⟩ (.int .i64 n) hab
       have TK5 := TK4.out.on HR.out ((Below.refl _ w4).setCell (p := ⟨b, 1, none⟩) HL.out.2 (.int .i64 n))
       generalize w4.setCell ⟨b, 1, none⟩ (.int .i64 n) = W5 at XA5 XB5 TK5 ⊢
       have c5 := right_any 1 n ⟨#[]⟩ W5
       rw [HRt.out] at c5
       refine c5.mono ?_
       clear c5 x0 x1 x2 y0 y1 y2 g0 g1 g2 f1 f2
       rintro x w6 ⟨rfl, hB6⟩
       have XA6 : Hid (Box w6 a 0 0 ⟨#[]⟩) := XA5.keep (keepV_below hB6)
       have XB6 : Hid (Box w6 b 1 n ⟨#[]⟩) := XB5.keep (keepV_below hB6)
       have TK6 : Hid (Took w B p h v l r2 w6) := TK5.on HR.out (hB6.mono TK5.2.size)
       clear XA5 XB5 TK5 hB6
       obtain ⟨x0, x1, x2⟩ := XA6.out.cells
       obtain ⟨y0, y1, y2⟩ := XB6.out.cells
       have g0 := XA6.out.frozen 0
       have g1 := XA6.out.frozen 1
       have g2 := XA6.out.frozen 2
       have f1 := XB6.out.frozen 1
       have f2 := XB6.out.frozen 2))
  exact bodyPost_ret (v := .tuple #[valV 0 0 ⟨#[]⟩, .int .i64 4]) (by simp [results, Try.results10, go_sem, x0, x1, x2]) rfl ⟨rfl, TK6.out.on HR.out ((((Below.refl _ w6).setCell HL.out.1 _).setCell HL.out.1 _).setCell HL.out.1 _)⟩
set_option maxHeartbeats 2000000 in
/-- No number. -/
theorem get_int_no {w : World} {B p h : Nat} {v : Value} {l : List Int} {q : Nat} (H : Rd w B p h v l q) (r : Nat) (m n : Int) (e : Int) (r2 : Nat) (hz : byteZ l q = (2, 0, r)) (hz2 : numZ l r 18446744073709551615 = (m, e, r2)) (hn : backZ m = n) (he : e ≠ 0) :
    Calls Try.prog 10 #[.pointer (some ⟨p, 0, none⟩)] w fun x w' => x = .returned (.tuple #[valV 0 0 ⟨#[]⟩, .int .i64 e]) ∧ Took w B p h v l r2 w' := by
  have hB1 : Below w.heap.size w (w.alloc (valO 0 0 ⟨#[]⟩)) := (Below.refl _ w).alloc (Nat.le_refl _) _
  have cc := rbyte_any (H.later hB1)
  rw [hz] at cc
  dsimp only at cc
  have C1 : Hid (Calls Try.prog 26 _ _ _) := cc
  have X1 : Hid (Box (w.alloc (valO 0 0 ⟨#[]⟩)) w.heap.size 0 0 ⟨#[]⟩) := Box.new w _ _ _
  have he' : (e != 0) = true := by simpa using he
  have HZ2 : Hid (_ = _) := hz2
  have HN : Hid (_ = _) := hn
  have HR : Hid (Rd w B p h v l q) := H
  clear cc H hz he hz2 hn
  go_enter Try.func10, Try.ntmps10
  go_upto_region 3 with (first
    | (go_at_call 26
       refine C1.out.mono ?_
       rintro x w2 ⟨rfl, t2⟩
       have X2 : Hid (Box w2 w.heap.size 0 0 ⟨#[]⟩) := X1.out.keep (t2.keepV (HR.out.later hB1))
       have T2 : Hid (Took w B p h v l r w2) := Took.after hB1 t2
       clear t2))
  have hB2 : Below w.heap.size w2 (w2.alloc (valO 2 0 ⟨#[]⟩)) := (Below.refl _ w2).alloc T2.out.2.size _
  have XA : Hid (Box (w2.alloc (valO 2 0 ⟨#[]⟩)) w.heap.size 0 0 ⟨#[]⟩) := X2.out.keep (keepV_below ((Below.refl _ w2).alloc (Nat.le_refl _) _))
  have XB : Hid (Box (w2.alloc (valO 2 0 ⟨#[]⟩)) w2.heap.size 2 0 ⟨#[]⟩) := Box.new w2 _ _ _
  have TK : Hid (Took w B p h v l r (w2.alloc (valO 2 0 ⟨#[]⟩))) := T2.out.on HR.out hB2
  obtain ⟨a, ha⟩ : ∃ a, a = w.heap.size := ⟨_, rfl⟩
  have hab : ¬ a = w2.heap.size := by have := X2.out.lt; omega
  have hba : ¬ w2.heap.size = a := by omega
  have HL : Hid (w.heap.size ≤ a ∧ w.heap.size ≤ w2.heap.size) := ⟨by omega, T2.out.2.size⟩
  rw [← ha] at XA
  simp only [← ha]
  clear X2 T2 hB2 X1 hB1 ha C1
  generalize w2.heap.size = b at XB hab hba HL ⊢
  generalize w2.alloc (valO 2 0 ⟨#[]⟩) = W at XA XB TK ⊢
  obtain ⟨x0, x1, x2⟩ := XA.out.cells
  obtain ⟨y0, y1, y2⟩ := XB.out.cells
  have g0 := XA.out.frozen 0
  have g1 := XA.out.frozen 1
  have g2 := XA.out.frozen 2
  have f1 := XB.out.frozen 1
  have f2 := XB.out.frozen 2
  go_wp2_with (first
    | (go_at_call 27
       have c2 := rint_any TK.out.1
       rw [HZ2.out] at c2
       dsimp only at c2
       rw [HN.out] at c2
       refine c2.mono ?_
       clear c2 x0 x1 x2 y0 y1 y2 g0 g1 g2 f1 f2
       rintro x w4 ⟨rfl, t4⟩
       have K4 := t4.keepV TK.out.1
       have XA4 : Hid (Box w4 a 0 0 ⟨#[]⟩) := XA.out.keep K4
       have XB4 : Hid (Box w4 b 2 0 ⟨#[]⟩) := XB.out.keep K4
       have TK4 : Hid (Took w B p h v l r2 w4) := TK.out.trans t4
       clear t4 K4
       obtain ⟨x0, x1, x2⟩ := XA4.out.cells
       obtain ⟨y0, y1, y2⟩ := XB4.out.cells
       have g0 := XA4.out.frozen 0
       have g1 := XA4.out.frozen 1
       have g2 := XA4.out.frozen 2
       have f1 := XB4.out.frozen 1
       have f2 := XB4.out.frozen 2))
  exact bodyPost_ret (v := .tuple #[valV 0 0 ⟨#[]⟩, .int .i64 e]) (by simp [results, Try.results10, go_sem, x0, x1, x2]) rfl ⟨rfl, TK4.out.on HR.out (((((Below.refl _ w4).setCell HL.out.2 _).setCell HL.out.1 _).setCell HL.out.1 _).setCell HL.out.1 _)⟩
set_option maxHeartbeats 2000000 in
/-- A number. -/
theorem get_int {w : World} {B p h : Nat} {v : Value} {l : List Int} {q : Nat} (H : Rd w B p h v l q) (r : Nat) (m n : Int) (r2 : Nat) (hz : byteZ l q = (2, 0, r)) (hz2 : numZ l r 18446744073709551615 = (m, 0, r2)) (hn : backZ m = n) (hr : rightB 2 n ⟨#[]⟩ = true) :
    Calls Try.prog 10 #[.pointer (some ⟨p, 0, none⟩)] w fun x w' => x = .returned (.tuple #[valV 2 n ⟨#[]⟩, .int .i64 0]) ∧ Took w B p h v l r2 w' := by
  have hB1 : Below w.heap.size w (w.alloc (valO 0 0 ⟨#[]⟩)) := (Below.refl _ w).alloc (Nat.le_refl _) _
  have cc := rbyte_any (H.later hB1)
  rw [hz] at cc
  dsimp only at cc
  have C1 : Hid (Calls Try.prog 26 _ _ _) := cc
  have X1 : Hid (Box (w.alloc (valO 0 0 ⟨#[]⟩)) w.heap.size 0 0 ⟨#[]⟩) := Box.new w _ _ _
  have HZ2 : Hid (_ = _) := hz2
  have HN : Hid (_ = _) := hn
  have HRt : Hid (_ = _) := hr
  have HR : Hid (Rd w B p h v l q) := H
  clear cc H hz hz2 hn hr
  go_enter Try.func10, Try.ntmps10
  go_upto_region 3 with (first
    | (go_at_call 26
       refine C1.out.mono ?_
       rintro x w2 ⟨rfl, t2⟩
       have X2 : Hid (Box w2 w.heap.size 0 0 ⟨#[]⟩) := X1.out.keep (t2.keepV (HR.out.later hB1))
       have T2 : Hid (Took w B p h v l r w2) := Took.after hB1 t2
       clear t2))
  have hB2 : Below w.heap.size w2 (w2.alloc (valO 2 0 ⟨#[]⟩)) := (Below.refl _ w2).alloc T2.out.2.size _
  have XA : Hid (Box (w2.alloc (valO 2 0 ⟨#[]⟩)) w.heap.size 0 0 ⟨#[]⟩) := X2.out.keep (keepV_below ((Below.refl _ w2).alloc (Nat.le_refl _) _))
  have XB : Hid (Box (w2.alloc (valO 2 0 ⟨#[]⟩)) w2.heap.size 2 0 ⟨#[]⟩) := Box.new w2 _ _ _
  have TK : Hid (Took w B p h v l r (w2.alloc (valO 2 0 ⟨#[]⟩))) := T2.out.on HR.out hB2
  obtain ⟨a, ha⟩ : ∃ a, a = w.heap.size := ⟨_, rfl⟩
  have hab : ¬ a = w2.heap.size := by have := X2.out.lt; omega
  have hba : ¬ w2.heap.size = a := by omega
  have HL : Hid (w.heap.size ≤ a ∧ w.heap.size ≤ w2.heap.size) := ⟨by omega, T2.out.2.size⟩
  rw [← ha] at XA
  simp only [← ha]
  clear X2 T2 hB2 X1 hB1 ha C1
  generalize w2.heap.size = b at XB hab hba HL ⊢
  generalize w2.alloc (valO 2 0 ⟨#[]⟩) = W at XA XB TK ⊢
  obtain ⟨x0, x1, x2⟩ := XA.out.cells
  obtain ⟨y0, y1, y2⟩ := XB.out.cells
  have g0 := XA.out.frozen 0
  have g1 := XA.out.frozen 1
  have g2 := XA.out.frozen 2
  have f1 := XB.out.frozen 1
  have f2 := XB.out.frozen 2
  go_wp2_with (first
    | (go_at_call 27
       have c2 := rint_any TK.out.1
       rw [HZ2.out] at c2
       dsimp only at c2
       rw [HN.out] at c2
       refine c2.mono ?_
       clear c2 x0 x1 x2 y0 y1 y2 g0 g1 g2 f1 f2
       rintro x w4 ⟨rfl, t4⟩
       have K4 := t4.keepV TK.out.1
       have XA4 : Hid (Box w4 a 0 0 ⟨#[]⟩) := XA.out.keep K4
       have XB4 : Hid (Box w4 b 2 0 ⟨#[]⟩) := XB.out.keep K4
       have TK4 : Hid (Took w B p h v l r2 w4) := TK.out.trans t4
       clear t4 K4
       obtain ⟨x0, x1, x2⟩ := XA4.out.cells
       obtain ⟨y0, y1, y2⟩ := XB4.out.cells
       have g0 := XA4.out.frozen 0
       have g1 := XA4.out.frozen 1
       have g2 := XA4.out.frozen 2
       have f1 := XB4.out.frozen 1
       have f2 := XB4.out.frozen 2)
    | (go_at_call 7
       have XB5 := XB4.out.set1 n
       have XA5 := XA4.out.other ⟨b, 1, none⟩ (.int .i64 n) hab
       have TK5 := TK4.out.on HR.out ((Below.refl _ w4).setCell (p := ⟨b, 1, none⟩) HL.out.2 (.int .i64 n))
       generalize w4.setCell ⟨b, 1, none⟩ (.int .i64 n) = W5 at XA5 XB5 TK5 ⊢
       have c5 := right_any 2 n ⟨#[]⟩ W5
       rw [HRt.out] at c5
       refine c5.mono ?_
       clear c5 x0 x1 x2 y0 y1 y2 g0 g1 g2 f1 f2
       rintro x w6 ⟨rfl, hB6⟩
       have XA6 : Hid (Box w6 a 0 0 ⟨#[]⟩) := XA5.keep (keepV_below hB6)
       have XB6 : Hid (Box w6 b 2 n ⟨#[]⟩) := XB5.keep (keepV_below hB6)
       have TK6 : Hid (Took w B p h v l r2 w6) := TK5.on HR.out (hB6.mono TK5.2.size)
       clear XA5 XB5 TK5 hB6
       obtain ⟨x0, x1, x2⟩ := XA6.out.cells
       obtain ⟨y0, y1, y2⟩ := XB6.out.cells
       have g0 := XA6.out.frozen 0
       have g1 := XA6.out.frozen 1
       have g2 := XA6.out.frozen 2
       have f1 := XB6.out.frozen 1
       have f2 := XB6.out.frozen 2))
  exact bodyPost_ret (v := .tuple #[valV 2 n ⟨#[]⟩, .int .i64 0]) (by simp [results, Try.results10, go_sem, x0, x1, x2]) rfl ⟨rfl, TK6.out.on HR.out ((((Below.refl _ w6).setCell HL.out.1 _).setCell HL.out.1 _).setCell HL.out.1 _)⟩
set_option maxHeartbeats 2000000 in
/-- No text. -/
theorem get_text_no {w : World} {B p h : Nat} {v : Value} {l : List Int} {q : Nat} (H : Rd w B p h v l q) (r : Nat) (t : List Int) (s : ByteArray) (e : Int) (r2 : Nat) (hz : byteZ l q = (3, 0, r)) (hz2 : textZ l r 256 = (t, e, r2)) (hn : strOf t = s) (he : e ≠ 0) :
    Calls Try.prog 10 #[.pointer (some ⟨p, 0, none⟩)] w fun x w' => x = .returned (.tuple #[valV 0 0 ⟨#[]⟩, .int .i64 e]) ∧ Took w B p h v l r2 w' := by
  have hB1 : Below w.heap.size w (w.alloc (valO 0 0 ⟨#[]⟩)) := (Below.refl _ w).alloc (Nat.le_refl _) _
  have cc := rbyte_any (H.later hB1)
  rw [hz] at cc
  dsimp only at cc
  have C1 : Hid (Calls Try.prog 26 _ _ _) := cc
  have X1 : Hid (Box (w.alloc (valO 0 0 ⟨#[]⟩)) w.heap.size 0 0 ⟨#[]⟩) := Box.new w _ _ _
  have he' : (e != 0) = true := by simpa using he
  have HZ2 : Hid (_ = _) := hz2
  have HN : Hid (_ = _) := hn
  have HR : Hid (Rd w B p h v l q) := H
  clear cc H hz he hz2 hn
  go_enter Try.func10, Try.ntmps10
  go_upto_region 3 with (first
    | (go_at_call 26
       refine C1.out.mono ?_
       rintro x w2 ⟨rfl, t2⟩
       have X2 : Hid (Box w2 w.heap.size 0 0 ⟨#[]⟩) := X1.out.keep (t2.keepV (HR.out.later hB1))
       have T2 : Hid (Took w B p h v l r w2) := Took.after hB1 t2
       clear t2))
  have hB2 : Below w.heap.size w2 (w2.alloc (valO 3 0 ⟨#[]⟩)) := (Below.refl _ w2).alloc T2.out.2.size _
  have XA : Hid (Box (w2.alloc (valO 3 0 ⟨#[]⟩)) w.heap.size 0 0 ⟨#[]⟩) := X2.out.keep (keepV_below ((Below.refl _ w2).alloc (Nat.le_refl _) _))
  have XB : Hid (Box (w2.alloc (valO 3 0 ⟨#[]⟩)) w2.heap.size 3 0 ⟨#[]⟩) := Box.new w2 _ _ _
  have TK : Hid (Took w B p h v l r (w2.alloc (valO 3 0 ⟨#[]⟩))) := T2.out.on HR.out hB2
  obtain ⟨a, ha⟩ : ∃ a, a = w.heap.size := ⟨_, rfl⟩
  have hab : ¬ a = w2.heap.size := by have := X2.out.lt; omega
  have hba : ¬ w2.heap.size = a := by omega
  have HL : Hid (w.heap.size ≤ a ∧ w.heap.size ≤ w2.heap.size) := ⟨by omega, T2.out.2.size⟩
  rw [← ha] at XA
  simp only [← ha]
  clear X2 T2 hB2 X1 hB1 ha C1
  generalize w2.heap.size = b at XB hab hba HL ⊢
  generalize w2.alloc (valO 3 0 ⟨#[]⟩) = W at XA XB TK ⊢
  obtain ⟨x0, x1, x2⟩ := XA.out.cells
  obtain ⟨y0, y1, y2⟩ := XB.out.cells
  have g0 := XA.out.frozen 0
  have g1 := XA.out.frozen 1
  have g2 := XA.out.frozen 2
  have f1 := XB.out.frozen 1
  have f2 := XB.out.frozen 2
  go_wp2_with (first
    | (go_at_call 28
       have c2 := rtext_any TK.out.1 256 (by omega)
       rw [HZ2.out] at c2
       dsimp only at c2
       rw [HN.out] at c2
       refine c2.mono ?_
       clear c2 x0 x1 x2 y0 y1 y2 g0 g1 g2 f1 f2
       rintro x w4 ⟨rfl, t4⟩
       have K4 := t4.keepV TK.out.1
       have XA4 : Hid (Box w4 a 0 0 ⟨#[]⟩) := XA.out.keep K4
       have XB4 : Hid (Box w4 b 3 0 ⟨#[]⟩) := XB.out.keep K4
       have TK4 : Hid (Took w B p h v l r2 w4) := TK.out.trans t4
       clear t4 K4
       obtain ⟨x0, x1, x2⟩ := XA4.out.cells
       obtain ⟨y0, y1, y2⟩ := XB4.out.cells
       have g0 := XA4.out.frozen 0
       have g1 := XA4.out.frozen 1
       have g2 := XA4.out.frozen 2
       have f1 := XB4.out.frozen 1
       have f2 := XB4.out.frozen 2))
  exact bodyPost_ret (v := .tuple #[valV 0 0 ⟨#[]⟩, .int .i64 e]) (by simp [results, Try.results10, go_sem, x0, x1, x2]) rfl ⟨rfl, TK4.out.on HR.out (((((Below.refl _ w4).setCell HL.out.2 _).setCell HL.out.1 _).setCell HL.out.1 _).setCell HL.out.1 _)⟩
set_option maxHeartbeats 2000000 in
/-- A text. -/
theorem get_text {w : World} {B p h : Nat} {v : Value} {l : List Int} {q : Nat} (H : Rd w B p h v l q) (r : Nat) (t : List Int) (s : ByteArray) (r2 : Nat) (hz : byteZ l q = (3, 0, r)) (hz2 : textZ l r 256 = (t, 0, r2)) (hn : strOf t = s) (hr : rightB 3 0 s = true) :
    Calls Try.prog 10 #[.pointer (some ⟨p, 0, none⟩)] w fun x w' => x = .returned (.tuple #[valV 3 0 s, .int .i64 0]) ∧ Took w B p h v l r2 w' := by
  have hB1 : Below w.heap.size w (w.alloc (valO 0 0 ⟨#[]⟩)) := (Below.refl _ w).alloc (Nat.le_refl _) _
  have cc := rbyte_any (H.later hB1)
  rw [hz] at cc
  dsimp only at cc
  have C1 : Hid (Calls Try.prog 26 _ _ _) := cc
  have X1 : Hid (Box (w.alloc (valO 0 0 ⟨#[]⟩)) w.heap.size 0 0 ⟨#[]⟩) := Box.new w _ _ _
  have HZ2 : Hid (_ = _) := hz2
  have HN : Hid (_ = _) := hn
  have HRt : Hid (_ = _) := hr
  have HR : Hid (Rd w B p h v l q) := H
  clear cc H hz hz2 hn hr
  go_enter Try.func10, Try.ntmps10
  go_upto_region 3 with (first
    | (go_at_call 26
       refine C1.out.mono ?_
       rintro x w2 ⟨rfl, t2⟩
       have X2 : Hid (Box w2 w.heap.size 0 0 ⟨#[]⟩) := X1.out.keep (t2.keepV (HR.out.later hB1))
       have T2 : Hid (Took w B p h v l r w2) := Took.after hB1 t2
       clear t2))
  have hB2 : Below w.heap.size w2 (w2.alloc (valO 3 0 ⟨#[]⟩)) := (Below.refl _ w2).alloc T2.out.2.size _
  have XA : Hid (Box (w2.alloc (valO 3 0 ⟨#[]⟩)) w.heap.size 0 0 ⟨#[]⟩) := X2.out.keep (keepV_below ((Below.refl _ w2).alloc (Nat.le_refl _) _))
  have XB : Hid (Box (w2.alloc (valO 3 0 ⟨#[]⟩)) w2.heap.size 3 0 ⟨#[]⟩) := Box.new w2 _ _ _
  have TK : Hid (Took w B p h v l r (w2.alloc (valO 3 0 ⟨#[]⟩))) := T2.out.on HR.out hB2
  obtain ⟨a, ha⟩ : ∃ a, a = w.heap.size := ⟨_, rfl⟩
  have hab : ¬ a = w2.heap.size := by have := X2.out.lt; omega
  have hba : ¬ w2.heap.size = a := by omega
  have HL : Hid (w.heap.size ≤ a ∧ w.heap.size ≤ w2.heap.size) := ⟨by omega, T2.out.2.size⟩
  rw [← ha] at XA
  simp only [← ha]
  clear X2 T2 hB2 X1 hB1 ha C1
  generalize w2.heap.size = b at XB hab hba HL ⊢
  generalize w2.alloc (valO 3 0 ⟨#[]⟩) = W at XA XB TK ⊢
  obtain ⟨x0, x1, x2⟩ := XA.out.cells
  obtain ⟨y0, y1, y2⟩ := XB.out.cells
  have g0 := XA.out.frozen 0
  have g1 := XA.out.frozen 1
  have g2 := XA.out.frozen 2
  have f1 := XB.out.frozen 1
  have f2 := XB.out.frozen 2
  go_wp2_with (first
    | (go_at_call 28
       have c2 := rtext_any TK.out.1 256 (by omega)
       rw [HZ2.out] at c2
       dsimp only at c2
       rw [HN.out] at c2
       refine c2.mono ?_
       clear c2 x0 x1 x2 y0 y1 y2 g0 g1 g2 f1 f2
       rintro x w4 ⟨rfl, t4⟩
       have K4 := t4.keepV TK.out.1
       have XA4 : Hid (Box w4 a 0 0 ⟨#[]⟩) := XA.out.keep K4
       have XB4 : Hid (Box w4 b 3 0 ⟨#[]⟩) := XB.out.keep K4
       have TK4 : Hid (Took w B p h v l r2 w4) := TK.out.trans t4
       clear t4 K4
       obtain ⟨x0, x1, x2⟩ := XA4.out.cells
       obtain ⟨y0, y1, y2⟩ := XB4.out.cells
       have g0 := XA4.out.frozen 0
       have g1 := XA4.out.frozen 1
       have g2 := XA4.out.frozen 2
       have f1 := XB4.out.frozen 1
       have f2 := XB4.out.frozen 2)
    | (go_at_call 7
       have XB5 := XB4.out.set2 s
       have XA5 := XA4.out.other ⟨b, 2, none⟩ (.string s) hab
       have TK5 := TK4.out.on HR.out ((Below.refl _ w4).setCell (p := ⟨b, 2, none⟩) HL.out.2 (.string s))
       generalize w4.setCell ⟨b, 2, none⟩ (.string s) = W5 at XA5 XB5 TK5 ⊢
       have c5 := right_any 3 0 s W5
       rw [HRt.out] at c5
       refine c5.mono ?_
       clear c5 x0 x1 x2 y0 y1 y2 g0 g1 g2 f1 f2
       rintro x w6 ⟨rfl, hB6⟩
       have XA6 : Hid (Box w6 a 0 0 ⟨#[]⟩) := XA5.keep (keepV_below hB6)
       have XB6 : Hid (Box w6 b 3 0 s) := XB5.keep (keepV_below hB6)
       have TK6 : Hid (Took w B p h v l r2 w6) := TK5.on HR.out (hB6.mono TK5.2.size)
       clear XA5 XB5 TK5 hB6
       obtain ⟨x0, x1, x2⟩ := XA6.out.cells
       obtain ⟨y0, y1, y2⟩ := XB6.out.cells
       have g0 := XA6.out.frozen 0
       have g1 := XA6.out.frozen 1
       have g2 := XA6.out.frozen 2
       have f1 := XB6.out.frozen 1
       have f2 := XB6.out.frozen 2))
  exact bodyPost_ret (v := .tuple #[valV 3 0 s, .int .i64 0]) (by simp [results, Try.results10, go_sem, x0, x1, x2]) rfl ⟨rfl, TK6.out.on HR.out ((((Below.refl _ w6).setCell HL.out.1 _).setCell HL.out.1 _).setCell HL.out.1 _)⟩
end Go.Proofs.Ytabhjmfacgbbgaa
