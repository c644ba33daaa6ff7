/-
  schema.takenField and schema.taken (P7.2): a schema as it comes.
-/
import Derived.Test.YtdaldnpajihdlaaSchPut
import Derived.Deep.DeepCutAuto
namespace Go.Proofs.Ytdaldnpajihdlaa
open Go.RowKit

theorem Touch.on {p : Nat} {w a b : World} (t : Touch p none w a) (hb : Below w.heap.size a b) : Touch p none w b :=
  ⟨hb.os.trans t.os, hb.tape.trans t.tape, hb.output.trans t.output, Nat.le_trans t.size hb.size, fun k hk h1 h2 => (hb.block k hk).trans (t.block k hk h1 h2)⟩
theorem Rd.own_lt {w : World} {B p h : Nat} {v : Value} {l : List Int} {q : Nat} (H : Rd w B p h v l q) : p < w.heap.size ∧ h < w.heap.size ∧ ∀ k, v.ownBlock = some k → k < w.heap.size := ⟨H.lt, H.hd.lt, fun k hk => (H.hd.own.lt k hk).2⟩
/-- What is taken stays taken where only blocks behind turn. -/
theorem Took.on {w a b : World} {B p h : Nat} {v : Value} {l : List Int} {q r : Nat} (H : Rd w B p h v l q) (t : Took w B p h v l r a) (hb : Below w.heap.size a b) : Took w B p h v l r b := by
  obtain ⟨h1, h2, h3⟩ := H.own_lt
  obtain ⟨t1, t2⟩ := t
  exact ⟨⟨(hb.block p h1).trans t1.top, t1.hd.kept (hb.block h h2) (fun k hk => hb.block k (h3 k hk)), t1.low, t1.fit, t1.m1⟩, t2.on hb⟩
theorem Took.keep {t : TypeId} {w w' : World} {B p h : Nat} {v : Value} {l : List Int} {q r : Nat} (H : Rd w B p h v l q) (T : Took w B p h v l r w') (ht : 73 ≠ t) : Keep t w w' :=
  keep_touch T.2 H.top ht (fun _ _ _ _ => by simp)
/-- First what was there is kept, then it is taken. -/
theorem Took.after {w a b : World} {B p h : Nat} {v : Value} {l : List Int} {r : Nat} (hb : Below w.heap.size w a) (t : Took a B p h v l r b) : Took w B p h v l r b := ⟨t.1, Touch.after hb t.2⟩
/-- Taken twice. -/
theorem Took.trans {w a b : World} {B p h : Nat} {v : Value} {l : List Int} {r r' : Nat} (t : Took w B p h v l r a) (u : Took a B p h v l r' b) : Took w B p h v l r' b :=
  ⟨u.1, ⟨u.2.os.trans t.2.os, u.2.tape.trans t.2.tape, u.2.output.trans t.2.output, Nat.le_trans t.2.size u.2.size, fun k hk h1 h2 => (u.2.block k (Nat.lt_of_lt_of_le hk t.2.size) h1 h2).trans (t.2.block k hk h1 h2)⟩⟩
theorem wrap_byte (c : Int) (h0 : 0 ≤ c) (h1 : c ≤ 255) : wrap64 c = c := by unfold wrap64; omega
theorem byteZ_bd (l : List Int) (q : Nat) (h : ∀ j : Nat, 0 ≤ l[j]?.getD 0 ∧ l[j]?.getD 0 ≤ 255) : 0 ≤ (byteZ l q).1 ∧ (byteZ l q).1 ≤ 255 := by
  unfold byteZ
  split
  · simp
  · have := h q
    simp; omega

/-- A field as it comes: name and kind, the error, the place behind. -/
def fldZ (l : List Int) (q : Nat) : (ByteArray × Int) × Int × Nat :=
  if (textZ l q 32).2.1 = 0 then ((strOf (textZ l q 32).1, (byteZ l (textZ l q 32).2.2).1), (byteZ l (textZ l q 32).2.2).2.1, (byteZ l (textZ l q 32).2.2).2.2)
  else ((⟨#[]⟩, 0), (textZ l q 32).2.1, (textZ l q 32).2.2)

set_option maxRecDepth 100000 in
set_option maxHeartbeats 4000000 in
theorem takenField_no {w : World} {B p h : Nat} {v : Value} {l : List Int} {q : Nat} (H : Rd w B p h v l q) (t : List Int) (s : ByteArray) (e : Int) (r : Nat) (hz : textZ l q 32 = (t, e, r)) (hs : strOf t = s) (he : e ≠ 0) :
    Calls Try.prog 55 #[.pointer (some ⟨p, 0, none⟩)] w fun x w' => x = .returned (.tuple #[fldV ⟨#[]⟩ 0, .int .i64 e]) ∧ Took w B p h v l r w' := by
  have hB1 : Below w.heap.size w (w.alloc (fldO ⟨#[]⟩ 0)) := (Below.refl _ w).alloc (Nat.le_refl _) _
  have cc := rtext_any (H.later hB1) 32 (by omega)
  rw [hz] at cc
  dsimp only at cc
  rw [hs] at cc
  have he' : (e != 0) = true := by simpa using he
  clear he
  have C1 : Hid (Calls Try.prog 53 _ _ _) := cc
  have X1 : Hid (Box2 52 (w.alloc (fldO ⟨#[]⟩ 0)) w.heap.size (.string ⟨#[]⟩) (.int .i64 0)) := Box2.new _ w _ _
  have HR : Hid (Rd w B p h v l q) := H
  clear cc H hz hs
  go_enter Try.func55, Try.ntmps55
  go_upto_region 2 with (first
    | (go_at_call 53
       refine C1.out.mono ?_
       rintro x w2 ⟨rfl, t2⟩
       have X2 : Hid (Box2 52 w2 w.heap.size (.string ⟨#[]⟩) (.int .i64 0)) := X1.out.keep (t2.keep (HR.out.later hB1) (by decide))
       have T2 : Hid (Took w B p h v l r w2) := Took.after hB1 t2
       clear t2))
  obtain ⟨a, ha⟩ : ∃ a, a = w.heap.size := ⟨_, rfl⟩
  have HL : Hid (w.heap.size ≤ a) := by show w.heap.size ≤ a; omega
  rw [← ha] at X2
  simp only [← ha]
  clear X1 hB1 ha C1
  obtain ⟨x0, x1⟩ := X2.out.cells
  have g0 := X2.out.frozen 0
  have g1 := X2.out.frozen 1
  go_wp2
  exact bodyPost_ret (v := .tuple #[fldV ⟨#[]⟩ 0, .int .i64 e]) (by simp [results, Try.results55, go_sem, x0, x1]) rfl ⟨rfl, T2.out.on HR.out (((Below.refl _ w2).setCell HL.out _).setCell HL.out _)⟩
set_option maxRecDepth 100000 in
set_option maxHeartbeats 4000000 in
theorem takenField_ok {w : World} {B p h : Nat} {v : Value} {l : List Int} {q : Nat} (H : Rd w B p h v l q) (t : List Int) (s : ByteArray) (r : Nat) (c e2 : Int) (r2 : Nat) (hz : textZ l q 32 = (t, 0, r)) (hs : strOf t = s) (hz2 : byteZ l r = (c, e2, r2)) (hc : wrap64 c = c) :
    Calls Try.prog 55 #[.pointer (some ⟨p, 0, none⟩)] w fun x w' => x = .returned (.tuple #[fldV s c, .int .i64 e2]) ∧ Took w B p h v l r2 w' := by
  have hB1 : Below w.heap.size w (w.alloc (fldO ⟨#[]⟩ 0)) := (Below.refl _ w).alloc (Nat.le_refl _) _
  have cc := rtext_any (H.later hB1) 32 (by omega)
  rw [hz] at cc
  dsimp only at cc
  rw [hs] at cc
  have HZ2 : Hid (_ = _) := hz2
  clear hz2
  have C1 : Hid (Calls Try.prog 53 _ _ _) := cc
  have X1 : Hid (Box2 52 (w.alloc (fldO ⟨#[]⟩ 0)) w.heap.size (.string ⟨#[]⟩) (.int .i64 0)) := Box2.new _ w _ _
  have HR : Hid (Rd w B p h v l q) := H
  clear cc H hz hs
  go_enter Try.func55, Try.ntmps55
  go_upto_region 2 with (first
    | (go_at_call 53
       refine C1.out.mono ?_
       rintro x w2 ⟨rfl, t2⟩
       have X2 : Hid (Box2 52 w2 w.heap.size (.string ⟨#[]⟩) (.int .i64 0)) := X1.out.keep (t2.keep (HR.out.later hB1) (by decide))
       have T2 : Hid (Took w B p h v l r w2) := Took.after hB1 t2
       clear t2))
  obtain ⟨a, ha⟩ : ∃ a, a = w.heap.size := ⟨_, rfl⟩
  have HL : Hid (w.heap.size ≤ a) := by show w.heap.size ≤ a; omega
  rw [← ha] at X2
  simp only [← ha]
  clear X1 hB1 ha C1
  obtain ⟨x0, x1⟩ := X2.out.cells
  have g0 := X2.out.frozen 0
  have g1 := X2.out.frozen 1
  go_wp2_with (first
    | (go_at_call 62
       have c2 := rbyte_any T2.out.1
       rw [HZ2.out] at c2
       dsimp only at c2
       refine c2.mono ?_
       clear c2 x0 x1 g0 g1
       rintro x w4 ⟨rfl, t4⟩
       have X4 : Hid (Box2 52 w4 a (.string ⟨#[]⟩) (.int .i64 0)) := X2.out.keep (t4.keep T2.out.1 (by decide))
       have T4 : Hid (Took w B p h v l r2 w4) := T2.out.trans t4
       clear t4
       obtain ⟨x0, x1⟩ := X4.out.cells
       have g0 := X4.out.frozen 0
       have g1 := X4.out.frozen 1))
  exact bodyPost_ret (v := .tuple #[fldV s c, .int .i64 e2]) (by simp [results, Try.results55, go_sem, x0, x1]) rfl ⟨rfl, T4.out.on HR.out (((Below.refl _ w4).setCell HL.out _).setCell HL.out _)⟩
theorem takenField_any {w : World} {B p h : Nat} {v : Value} {l : List Int} {q : Nat} (H : Rd w B p h v l q) :
    Calls Try.prog 55 #[.pointer (some ⟨p, 0, none⟩)] w fun x w' => x = .returned (.tuple #[fldV (fldZ l q).1.1 (fldZ l q).1.2, .int .i64 (fldZ l q).2.1]) ∧ Took w B p h v l (fldZ l q).2.2 w' := by
  unfold fldZ
  obtain ⟨t, e, r, hz⟩ : ∃ t e r, textZ l q 32 = (t, e, r) := ⟨_, _, _, rfl⟩
  rw [hz]
  dsimp only
  by_cases he : e = 0
  · subst he
    rw [if_pos rfl]
    obtain ⟨b0, b1⟩ := byteZ_bd l r (rd_bd H.hd)
    exact takenField_ok H t _ r _ _ _ hz rfl rfl (wrap_byte _ b0 b1)
  · rw [if_neg he]
    exact takenField_no H t _ e r hz rfl he
end Go.Proofs.Ytdaldnpajihdlaa
