/-
  schema.Get (P7.2): the schema of any bytes, wire's first error, or ErrForm.
-/
import Derived.Test.YtdaldnpajihdlaaSchTaken
namespace Go.Proofs.Ytdaldnpajihdlaa
open Go.RowKit

theorem fldsZ_nil (l : List Int) (q : Nat) : ∀ k, (fldsZ l q k).2.1 ≠ 0 → (fldsZ l q k).1 = []
  | 0, h => by simp [fldsZ] at h
  | k + 1, h => by
    simp only [fldsZ] at h ⊢
    split at h
    · rename_i h1
      rw [if_pos h1]
      split at h
      · contradiction
      · rename_i h2
        rw [if_neg h2]
    · rename_i h1
      rw [if_neg h1]
      exact fldsZ_nil l q k h1
/-- taken, at any place of any bytes. -/
theorem taken_any {w : World} {B p h : Nat} {v : Value} {l : List Int} {q : Nat} (H : Rd w B p h v l q) :
    Calls Try.prog 42 #[.pointer (some ⟨p, 0, none⟩)] w (TakenAns w B p h v l (takenZ l q).1.1 (takenZ l q).1.2 (takenZ l q).2.1 (takenZ l q).2.2) := by
  have bd := rd_bd H.hd
  unfold takenZ
  obtain ⟨t, e, r, hz⟩ : ∃ t e r, textZ l q 32 = (t, e, r) := ⟨_, _, _, rfl⟩
  rw [hz]
  dsimp only
  by_cases he : e = 0
  · subst he
    rw [if_pos rfl]
    have hb := numZ_enc l r 16 bd
    obtain ⟨m, e2, r2, hz2⟩ : ∃ m e2 r2, numZ l r 16 = (m, e2, r2) := ⟨_, _, _, rfl⟩
    rw [hz2] at hb ⊢
    dsimp only at hb ⊢
    by_cases he2 : e2 = 0
    · subst he2
      rw [if_pos rfl]
      obtain ⟨b0, _, b1, _⟩ := hb rfl
      obtain ⟨n, rfl⟩ := Int.eq_ofNat_of_zero_le b0
      rw [Int.toNat_natCast]
      have c := taken_flds H t _ r n r2 hz rfl hz2 (by omega) _ _ _ _ rfl rfl
      by_cases he3 : (fldsZ l r2 n).2.1 = 0
      · rw [if_pos he3] at c ⊢
        rw [he3] at c
        exact c
      · rw [if_neg he3] at c ⊢
        rw [fldsZ_nil l r2 n he3] at c
        exact c
    · rw [if_neg he2]
      exact taken_num H t _ r m e2 r2 hz rfl hz2 he2
  · rw [if_neg he]
    exact taken_text H t _ e r hz rfl he
theorem fldZ_size (l : List Int) (q : Nat) (bd : ∀ j : Nat, 0 ≤ l[j]?.getD 0 ∧ l[j]?.getD 0 ≤ 255) : (fldZ l q).1.1.size ≤ 32 := by
  unfold fldZ
  split
  · rename_i h
    have := (textZ_enc l q 32 bd h).1
    simp only [size_strOf]
    omega
  · exact Nat.zero_le _
theorem fldsZ_sizes (l : List Int) (q : Nat) (bd : ∀ j : Nat, 0 ≤ l[j]?.getD 0 ∧ l[j]?.getD 0 ≤ 255) : ∀ k, ∀ x ∈ (fldsZ l q k).1, x.1.size ≤ 32
  | 0, x, hx => by simp [fldsZ] at hx
  | k + 1, x, hx => by
    simp only [fldsZ] at hx
    split at hx
    · split at hx
      · rcases List.mem_append.1 hx with hx | hx
        · exact fldsZ_sizes l q bd k x hx
        · simp at hx
          subst hx
          exact fldZ_size _ _ bd
      · simp at hx
    · exact fldsZ_sizes l q bd k x hx
theorem takenZ_sizes (l : List Int) (q : Nat) (bd : ∀ j : Nat, 0 ≤ l[j]?.getD 0 ∧ l[j]?.getD 0 ≤ 255) : ∀ x ∈ (takenZ l q).1.2, x.1.size ≤ 32 := by
  intro x hx
  unfold takenZ at hx
  split at hx
  · split at hx
    · split at hx
      · exact fldsZ_sizes l _ bd _ x hx
      · simp at hx
    · simp at hx
  · simp at hx
theorem own_mono {w : World} {B B' n size : Nat} {v : Value} {t : TypeId} {xs : List Value} (h : w.ownsRow B t size v n xs) (hb : B' ≤ B) : w.ownsRow B' t size v n xs := by
  refine ⟨h.1, ?_⟩
  rcases h.2 with hn | ⟨g, cap, cur, e1, e2, rest⟩
  · exact .inl hn
  · exact .inr ⟨g, cap, cur, e1, Nat.le_trans hb e2, rest⟩
/-- Check's answer of what came. -/
def chkL (S : ByteArray) (P : List (ByteArray × Int)) : Int := chkZ S P.length (nmOf P) (kdOf P)

set_option maxRecDepth 100000 in
set_option maxHeartbeats 4000000 in
theorem sget_err {w : World} {B p h : Nat} {v : Value} {l : List Int} {q : Nat} (H : Rd w B p h v l q) (S : ByteArray) (P : List (ByteArray × Int)) (e : Int) (r : Nat) (hz : takenZ l q = ((S, P), e, r)) (he : e ≠ 0) :
    Calls Try.prog 21 #[.pointer (some ⟨p, 0, none⟩)] w (TakenAns w B p h v l ⟨#[]⟩ [] e r) := by
  have hB1 : Below w.heap.size w (w.alloc (schO ⟨#[]⟩ (.slice none 0 0))) := (Below.refl _ w).alloc (Nat.le_refl _) _
  have cc := taken_any (H.later hB1)
  rw [hz] at cc
  dsimp only at cc
  have C1 : Hid (Calls Try.prog 42 _ _ _) := cc
  have X1 : Hid (Box2 25 (w.alloc (schO ⟨#[]⟩ (.slice none 0 0))) w.heap.size (.string ⟨#[]⟩) (.slice none 0 0)) := Box2.new _ w _ _
  have HR : Hid (Rd w B p h v l q) := H
  have he' : (e != 0) = true := by simpa using he
  clear cc H hz he
  go_enter Try.func21, Try.ntmps21
  go_upto_region 2 with (first
    | (go_at_call 42
       refine C1.out.mono ?_
       rintro x w2 ⟨u, rfl, t2, o2⟩
       obtain ⟨a2, c2, rfl⟩ := own_form o2))
  have hB3 : Below w2.heap.size w2 (w2.alloc (schO S (.slice a2 P.length c2))) := (Below.refl _ w2).alloc (Nat.le_refl _) _
  have T2 := Took.after hB1 t2
  have hs2 : w.heap.size ≤ w2.heap.size := T2.2.size
  have XA : Hid (Box2 25 (w2.alloc (schO S (.slice a2 P.length c2))) w.heap.size (.string ⟨#[]⟩) (.slice none 0 0)) := (X1.out.keep (t2.keep (HR.out.later hB1) (by decide))).keep (keep_below hB3)
  have XB : Hid (Box2 25 (w2.alloc (schO S (.slice a2 P.length c2))) w2.heap.size (.string S) (.slice a2 P.length c2)) := Box2.new _ w2 _ _
  have O3 : Hid ((w2.alloc (schO S (.slice a2 P.length c2))).ownsRow w.heap.size 52 2 (.slice a2 P.length c2) P.length (cellsF P)) := own_keep (own_mono o2 hB1.size) (keep_below hB3)
  have TK : Hid (Took w B p h v l r (w2.alloc (schO S (.slice a2 P.length c2)))) := T2.on HR.out (hB3.mono hs2)
  obtain ⟨a, ha⟩ : ∃ a, a = w.heap.size := ⟨_, rfl⟩
  have HL : Hid (a = w.heap.size) := ha
  have hab : ¬ a = w2.heap.size := by
    have := (X1.out.keep (t2.keep (HR.out.later hB1) (by decide))).lt
    omega
  rw [← ha] at XA
  simp only [← ha]
  clear X1 hB1 C1 t2 o2 T2 hs2 hB3 ha
  generalize w2.heap.size = b at XB hab ⊢
  have hba : ¬ b = a := fun e => hab e.symm
  generalize w2.alloc (schO S (.slice a2 P.length c2)) = W at XA XB O3 TK ⊢
  obtain ⟨x0, x1⟩ := XA.out.cells
  obtain ⟨y0, y1⟩ := XB.out.cells
  have g0 := XA.out.frozen 0
  have g1 := XA.out.frozen 1
  go_wp2
  refine bodyPost_ret (v := .tuple #[schV ⟨#[]⟩ (.slice none 0 0), .int .i64 e]) (by simp [results, Try.results21, go_sem, x0, x1]) rfl ⟨(.slice none 0 0), rfl, TK.out.on HR.out (((Below.refl _ W).setCell (Nat.le_of_eq HL.out.symm) _).setCell (Nat.le_of_eq HL.out.symm) _), World.ownsRow_nil _ _ _ _⟩
set_option maxRecDepth 100000 in
set_option maxHeartbeats 4000000 in
theorem sget_form {w : World} {B p h : Nat} {v : Value} {l : List Int} {q : Nat} (H : Rd w B p h v l q) (S : ByteArray) (P : List (ByteArray × Int)) (r : Nat) (hz : takenZ l q = ((S, P), 0, r)) (y : Int) (hy : chkL S P = y) (hy0 : y ≠ 0) :
    Calls Try.prog 21 #[.pointer (some ⟨p, 0, none⟩)] w (TakenAns w B p h v l ⟨#[]⟩ [] 4 r) := by
  have hB1 : Below w.heap.size w (w.alloc (schO ⟨#[]⟩ (.slice none 0 0))) := (Below.refl _ w).alloc (Nat.le_refl _) _
  have cc := taken_any (H.later hB1)
  rw [hz] at cc
  dsimp only at cc
  have C1 : Hid (Calls Try.prog 42 _ _ _) := cc
  have X1 : Hid (Box2 25 (w.alloc (schO ⟨#[]⟩ (.slice none 0 0))) w.heap.size (.string ⟨#[]⟩) (.slice none 0 0)) := Box2.new _ w _ _
  have HR : Hid (Rd w B p h v l q) := H
  have HY : Hid (chkL S P = y) := hy
  have HSZ : Hid (∀ x ∈ P, x.1.size ≤ maxLen) := by
    intro x hx
    have := takenZ_sizes l q (rd_bd H.hd) x (by rw [hz]; exact hx)
    unfold maxLen
    omega
  have hy1 : (y != 0) = true := by simpa using hy0
  clear hy0
  clear cc H hz hy
  go_enter Try.func21, Try.ntmps21
  go_upto_region 2 with (first
    | (go_at_call 42
       refine C1.out.mono ?_
       rintro x w2 ⟨u, rfl, t2, o2⟩
       obtain ⟨a2, c2, rfl⟩ := own_form o2))
  have hB3 : Below w2.heap.size w2 (w2.alloc (schO S (.slice a2 P.length c2))) := (Below.refl _ w2).alloc (Nat.le_refl _) _
  have T2 := Took.after hB1 t2
  have hs2 : w.heap.size ≤ w2.heap.size := T2.2.size
  have XA : Hid (Box2 25 (w2.alloc (schO S (.slice a2 P.length c2))) w.heap.size (.string ⟨#[]⟩) (.slice none 0 0)) := (X1.out.keep (t2.keep (HR.out.later hB1) (by decide))).keep (keep_below hB3)
  have XB : Hid (Box2 25 (w2.alloc (schO S (.slice a2 P.length c2))) w2.heap.size (.string S) (.slice a2 P.length c2)) := Box2.new _ w2 _ _
  have O3 : Hid ((w2.alloc (schO S (.slice a2 P.length c2))).ownsRow w.heap.size 52 2 (.slice a2 P.length c2) P.length (cellsF P)) := own_keep (own_mono o2 hB1.size) (keep_below hB3)
  have TK : Hid (Took w B p h v l r (w2.alloc (schO S (.slice a2 P.length c2)))) := T2.on HR.out (hB3.mono hs2)
  obtain ⟨a, ha⟩ : ∃ a, a = w.heap.size := ⟨_, rfl⟩
  have HL : Hid (a = w.heap.size) := ha
  have hab : ¬ a = w2.heap.size := by
    have := (X1.out.keep (t2.keep (HR.out.later hB1) (by decide))).lt
    omega
  rw [← ha] at XA
  simp only [← ha]
  clear X1 hB1 C1 t2 o2 T2 hs2 hB3 ha
  generalize w2.heap.size = b at XB hab ⊢
  have hba : ¬ b = a := fun e => hab e.symm
  generalize w2.alloc (schO S (.slice a2 P.length c2)) = W at XA XB O3 TK ⊢
  obtain ⟨x0, x1⟩ := XA.out.cells
  obtain ⟨y0, y1⟩ := XB.out.cells
  have g0 := XA.out.frozen 0
  have g1 := XA.out.frozen 1
  go_wp2_with (first
    | (go_at_call 10
       obtain ⟨a3, c3, e3, hfl⟩ := rowF_flds O3.out rfl HSZ.out
       injection e3 with e4 _ e5
       subst e4 e5
       have cc := check_any S a2 P.length c2 (nmOf P) (kdOf P) W hfl
       rw [show chkZ S P.length (nmOf P) (kdOf P) = y from HY.out] at cc
       refine cc.mono ?_
       clear cc hfl x0 x1 y0 y1 g0 g1
       rintro x w4 ⟨rfl, hB4⟩
       have XA4 : Hid (Box2 25 w4 a (.string ⟨#[]⟩) (.slice none 0 0)) := XA.out.keep (keep_below hB4)
       have XB4 : Hid (Box2 25 w4 b (.string S) (.slice a2 P.length c2)) := XB.out.keep (keep_below hB4)
       have O4 : Hid (w4.ownsRow w.heap.size 52 2 (.slice a2 P.length c2) P.length (cellsF P)) := own_keep O3.out (keep_below hB4)
       have T4 : Hid (Took w B p h v l r w4) := TK.out.on HR.out (hB4.mono TK.out.2.size)
       clear XA XB O3 TK hB4
       obtain ⟨x0, x1⟩ := XA4.out.cells
       obtain ⟨y0, y1⟩ := XB4.out.cells
       have g0 := XA4.out.frozen 0
       have g1 := XA4.out.frozen 1))
  refine bodyPost_ret (v := .tuple #[schV ⟨#[]⟩ (.slice none 0 0), .int .i64 4]) (by simp [results, Try.results21, go_sem, x0, x1]) rfl ⟨(.slice none 0 0), rfl, T4.out.on HR.out (((Below.refl _ w4).setCell (Nat.le_of_eq HL.out.symm) _).setCell (Nat.le_of_eq HL.out.symm) _), World.ownsRow_nil _ _ _ _⟩
set_option maxRecDepth 100000 in
set_option maxHeartbeats 4000000 in
theorem sget_ok {w : World} {B p h : Nat} {v : Value} {l : List Int} {q : Nat} (H : Rd w B p h v l q) (S : ByteArray) (P : List (ByteArray × Int)) (r : Nat) (hz : takenZ l q = ((S, P), 0, r)) (hy : chkL S P = 0) :
    Calls Try.prog 21 #[.pointer (some ⟨p, 0, none⟩)] w (TakenAns w B p h v l S P 0 r) := by
  have hB1 : Below w.heap.size w (w.alloc (schO ⟨#[]⟩ (.slice none 0 0))) := (Below.refl _ w).alloc (Nat.le_refl _) _
  have cc := taken_any (H.later hB1)
  rw [hz] at cc
  dsimp only at cc
  have C1 : Hid (Calls Try.prog 42 _ _ _) := cc
  have X1 : Hid (Box2 25 (w.alloc (schO ⟨#[]⟩ (.slice none 0 0))) w.heap.size (.string ⟨#[]⟩) (.slice none 0 0)) := Box2.new _ w _ _
  have HR : Hid (Rd w B p h v l q) := H
  have HY : Hid (chkL S P = 0) := hy
  have HSZ : Hid (∀ x ∈ P, x.1.size ≤ maxLen) := by
    intro x hx
    have := takenZ_sizes l q (rd_bd H.hd) x (by rw [hz]; exact hx)
    unfold maxLen
    omega
  clear cc H hz hy
  go_enter Try.func21, Try.ntmps21
  go_upto_region 2 with (first
    | (go_at_call 42
       refine C1.out.mono ?_
       rintro x w2 ⟨u, rfl, t2, o2⟩
       obtain ⟨a2, c2, rfl⟩ := own_form o2))
  have hB3 : Below w2.heap.size w2 (w2.alloc (schO S (.slice a2 P.length c2))) := (Below.refl _ w2).alloc (Nat.le_refl _) _
  have T2 := Took.after hB1 t2
  have hs2 : w.heap.size ≤ w2.heap.size := T2.2.size
  have XA : Hid (Box2 25 (w2.alloc (schO S (.slice a2 P.length c2))) w.heap.size (.string ⟨#[]⟩) (.slice none 0 0)) := (X1.out.keep (t2.keep (HR.out.later hB1) (by decide))).keep (keep_below hB3)
  have XB : Hid (Box2 25 (w2.alloc (schO S (.slice a2 P.length c2))) w2.heap.size (.string S) (.slice a2 P.length c2)) := Box2.new _ w2 _ _
  have O3 : Hid ((w2.alloc (schO S (.slice a2 P.length c2))).ownsRow w.heap.size 52 2 (.slice a2 P.length c2) P.length (cellsF P)) := own_keep (own_mono o2 hB1.size) (keep_below hB3)
  have TK : Hid (Took w B p h v l r (w2.alloc (schO S (.slice a2 P.length c2)))) := T2.on HR.out (hB3.mono hs2)
  obtain ⟨a, ha⟩ : ∃ a, a = w.heap.size := ⟨_, rfl⟩
  have HL : Hid (a = w.heap.size) := ha
  have hab : ¬ a = w2.heap.size := by
    have := (X1.out.keep (t2.keep (HR.out.later hB1) (by decide))).lt
    omega
  rw [← ha] at XA
  simp only [← ha]
  clear X1 hB1 C1 t2 o2 T2 hs2 hB3 ha
  generalize w2.heap.size = b at XB hab ⊢
  have hba : ¬ b = a := fun e => hab e.symm
  generalize w2.alloc (schO S (.slice a2 P.length c2)) = W at XA XB O3 TK ⊢
  obtain ⟨x0, x1⟩ := XA.out.cells
  obtain ⟨y0, y1⟩ := XB.out.cells
  have g0 := XA.out.frozen 0
  have g1 := XA.out.frozen 1
  go_wp2_with (first
    | (go_at_call 10
       obtain ⟨a3, c3, e3, hfl⟩ := rowF_flds O3.out rfl HSZ.out
       injection e3 with e4 _ e5
       subst e4 e5
       have cc := check_any S a2 P.length c2 (nmOf P) (kdOf P) W hfl
       rw [show chkZ S P.length (nmOf P) (kdOf P) = 0 from HY.out] at cc
       refine cc.mono ?_
       clear cc hfl x0 x1 y0 y1 g0 g1
       rintro x w4 ⟨rfl, hB4⟩
       have XA4 : Hid (Box2 25 w4 a (.string ⟨#[]⟩) (.slice none 0 0)) := XA.out.keep (keep_below hB4)
       have XB4 : Hid (Box2 25 w4 b (.string S) (.slice a2 P.length c2)) := XB.out.keep (keep_below hB4)
       have O4 : Hid (w4.ownsRow w.heap.size 52 2 (.slice a2 P.length c2) P.length (cellsF P)) := own_keep O3.out (keep_below hB4)
       have T4 : Hid (Took w B p h v l r w4) := TK.out.on HR.out (hB4.mono TK.out.2.size)
       clear XA XB O3 TK hB4
       obtain ⟨x0, x1⟩ := XA4.out.cells
       obtain ⟨y0, y1⟩ := XB4.out.cells
       have g0 := XA4.out.frozen 0
       have g1 := XA4.out.frozen 1))
  have A2 : Box2 25 (w4.setCell ⟨a, 0, none⟩ (.string S)) a (.string S) (.slice none 0 0) := XA4.out.set0 _
  refine bodyPost_ret (v := .tuple #[schV S (.slice a2 P.length c2), .int .i64 0]) (by simp [results, Try.results21, go_sem, x0, x1]) rfl ⟨(.slice a2 P.length c2), rfl, T4.out.on HR.out (((Below.refl _ w4).setCell (Nat.le_of_eq HL.out.symm) _).setCell (Nat.le_of_eq HL.out.symm) _), own_keep (own_keep O4.out (keep_set XA4.out (by decide) 0 _)) (keep_set A2 (by decide) 1 _)⟩
/-- P7.2's Get: name and fields, the error, the place behind. -/
def getS (l : List Int) (q : Nat) : (ByteArray × List (ByteArray × Int)) × Int × Nat :=
  if (takenZ l q).2.1 = 0 then
    (if chkL (takenZ l q).1.1 (takenZ l q).1.2 = 0 then ((takenZ l q).1, 0, (takenZ l q).2.2) else ((⟨#[]⟩, []), 4, (takenZ l q).2.2))
  else ((⟨#[]⟩, []), (takenZ l q).2.1, (takenZ l q).2.2)
theorem sget_any {w : World} {B p h : Nat} {v : Value} {l : List Int} {q : Nat} (H : Rd w B p h v l q) :
    Calls Try.prog 21 #[.pointer (some ⟨p, 0, none⟩)] w (TakenAns w B p h v l (getS l q).1.1 (getS l q).1.2 (getS l q).2.1 (getS l q).2.2) := by
  unfold getS
  obtain ⟨S, P, e, r, hz⟩ : ∃ S P e r, takenZ l q = ((S, P), e, r) := ⟨_, _, _, _, rfl⟩
  rw [hz]
  dsimp only
  by_cases he : e = 0
  · subst he
    rw [if_pos rfl]
    by_cases hy : chkL S P = 0
    · rw [if_pos hy]
      exact sget_ok H S P r hz hy
    · rw [if_neg hy]
      exact sget_form H S P r hz _ rfl hy
  · rw [if_neg he]
    exact sget_err H S P e r hz he
end Go.Proofs.Ytdaldnpajihdlaa
