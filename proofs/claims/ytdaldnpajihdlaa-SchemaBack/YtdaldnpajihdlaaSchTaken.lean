/-
  schema.taken (P7.2): a schema as it comes, its fields in a row that the call makes.
-/
import Derived.Test.YtdaldnpajihdlaaSchTakenF
namespace Go.Proofs.Ytdaldnpajihdlaa
open Go.RowKit

/-- The cells of fields in a row. -/
def cellsF (P : List (ByteArray × Int)) : List Value := P.flatMap fun x => [.string x.1, .int .i64 x.2]
theorem cellsF_length (P : List (ByteArray × Int)) : (cellsF P).length = P.length * 2 := by
  induction P with
  | nil => rfl
  | cons x P ih => simp only [cellsF, List.flatMap_cons, List.length_append, List.length_cons, List.length_nil] at ih ⊢; omega
theorem cellsF_get (P : List (ByteArray × Int)) : ∀ j (h : j < P.length), (cellsF P)[j * 2]? = some (.string P[j].1) ∧ (cellsF P)[j * 2 + 1]? = some (.int .i64 P[j].2) := by
  induction P with
  | nil => intro j h; simp at h
  | cons x P ih =>
    intro j h
    cases j with
    | zero => simp [cellsF]
    | succ j =>
      have := ih j (by simpa using h)
      simp only [cellsF, List.flatMap_cons, List.cons_append, List.nil_append] at this ⊢
      rw [show (j + 1) * 2 = j * 2 + 1 + 1 by omega]
      simpa using this
theorem infoF : (Try.prog.info? 52).map (fun i => (i.zero, i.size, i.bytes)) = some (some (.agg #[.string ByteArray.empty, .int .i64 0]), 2, 24) := by kernel_rfl
/-- One more field in a row. -/
theorem snocF {w : World} {B n : Nat} {v : Value} {P : List (ByteArray × Int)} (ho : w.ownsRow B 52 2 v n (cellsF P)) (hB : B ≤ w.heap.size) (hn : n ≤ 1048576) (s : ByteArray) (k : Int) :
    ∃ v' w', (Builtin.append_ #[23, 23] 23 #[v, .slice (some ⟨w.heap.size, 0, none⟩) 1 1]).run Try.prog (w.alloc (fldO s k)) = .ok v' w' ∧ w'.ownsRow B 52 2 v' (n + 1) (cellsF (P ++ [(s, k)])) ∧ (w.alloc (fldO s k)).grownBy w' v.ownBlock := by
  obtain ⟨i0, hi, hz0, hz1, hz2⟩ := info_parts infoF
  have hB0 : Below w.heap.size w (w.alloc (fldO s k)) := (Below.refl _ _).alloc (Nat.le_refl _) _
  have hx := (Box2.new 52 w (.string s) (.int .i64 k)).cells
  obtain ⟨v', w', r, o, g, _⟩ := run_append_own (P := Try.prog) (w.alloc (fldO s k)) B 23 23 52 i0 _ 2 24 Try.underlying23 hi hz0 hz1 hz2 rfl (by omega) v n (cellsF P) (own_below ho hB0) ⟨w.heap.size, 0, none⟩ 1 1 [.string s, .int .i64 k] rfl
    (fun j x hj => by
      have hj0 : j < 2 := (List.getElem?_eq_some_iff.1 hj).1
      have e : (⟨w.heap.size, 0, none⟩ : Addr).add j = ⟨w.heap.size, j, none⟩ := by unfold Addr.add; split <;> simp_all
      rw [e]
      match j, hj0 with
      | 0, _ => simp at hj; subst hj; exact hx.1
      | 1, _ => simp at hj; subst hj; exact hx.2)
    (fun x hx => by
      simp at hx
      rcases hx with rfl | rfl <;> rfl) (by unfold maxLen; omega) (by omega) (Nat.le_trans hB hB0.size)
  refine ⟨v', w', r, ?_, g⟩
  rw [show cellsF (P ++ [(s, k)]) = cellsF P ++ [.string s, .int .i64 k] by simp [cellsF]]
  exact o
/-- Fields' names and kinds, by index. -/
def nmOf (P : List (ByteArray × Int)) (j : Nat) : ByteArray := (P[j]?.getD (⟨#[]⟩, 0)).1
def kdOf (P : List (ByteArray × Int)) (j : Nat) : Int := (P[j]?.getD (⟨#[]⟩, 0)).2
/-- A row of fields that the call owns, as fields by index. -/
theorem rowF_flds {w : World} {B n : Nat} {v : Value} {P : List (ByteArray × Int)} (ho : w.ownsRow B 52 2 v n (cellsF P)) (hn : n = P.length) (hsz : ∀ x ∈ P, x.1.size ≤ maxLen) : ∃ a cap, v = .slice a n cap ∧ Flds w a n (nmOf P) (kdOf P) := by
  rcases ho.2 with ⟨rfl, rfl⟩ | ⟨g, cap, cur, rfl, _, hg, hle, hm, hs, ht⟩
  · exact ⟨_, _, rfl, fun h => by omega⟩
  · refine ⟨_, _, rfl, fun _ => ⟨g, 0, rfl, fun j hj => ?_⟩⟩
    have hj' : j < P.length := by omega
    obtain ⟨e0, e1⟩ := cellsF_get P j hj'
    have get : ∀ i u, (cellsF P)[i]? = some u → w.cell? ⟨g, i, none⟩ = some u := fun i u e => by
      rw [← ht, List.getElem?_take] at e
      split at e
      · simp at e
        simp [World.cell?, hg, e]
      · cases e
    have h1 : P[j]? = some P[j] := List.getElem?_eq_getElem hj'
    have q0 : nmOf P j = P[j].1 := by simp [nmOf, h1]
    have q1 : kdOf P j = P[j].2 := by simp [kdOf, h1]
    dsimp only
    rw [q0, q1, Nat.zero_add]
    exact ⟨⟨get _ _ e0, get _ _ e1⟩, hsz _ (List.getElem_mem hj')⟩
theorem own_keep {t : TypeId} {w w' : World} {B size n : Nat} {v : Value} {xs : List Value} (h : w.ownsRow B t size v n xs) (hk : Keep t w w') : w'.ownsRow B t size v n xs := by
  refine ⟨h.1, ?_⟩
  rcases h.2 with hn | ⟨g, cap, cur, rfl, hb, hg, rest⟩
  · exact .inl hn
  · exact .inr ⟨g, cap, cur, rfl, hb, hk _ _ _ hg, rest⟩
theorem keep_set {t t2 : TypeId} {w : World} {b : Nat} {c : Array Value} {f : Nat × Nat} (hb : w.heap[b]? = some (.cells c t2 f)) (ht : t2 ≠ t) (i : Nat) (z : Value) : Keep t w (w.setCell ⟨b, i, none⟩ z) := fun k x g e => by
  rw [Below.heap_setCell _ _ _ _ ?_, e]
  intro q
  simp only at q
  subst q
  rw [hb] at e
  injection e with e
  injection e with _ e _
  exact ht e
theorem own_apart2 {w : World} {B n k size : Nat} {v : Value} {xs : List Value} {c : Array Value} {e t : TypeId} {f : Nat × Nat} (h : w.ownsRow B t size v n xs) (hk : w.heap[k]? = some (.cells c e f)) (he : t ≠ e) : v.ownBlock ≠ some k := by
  intro hv
  rcases h.2 with ⟨rfl, _⟩ | ⟨g, cap, cur, rfl, _, hg, _⟩
  · simp [Value.ownBlock] at hv
  · simp [Value.ownBlock] at hv
    subst hv
    rw [hk] at hg
    injection hg with hg
    injection hg with _ hg _
    exact he hg.symm
theorem own_form {w : World} {B n size : Nat} {v : Value} {t : TypeId} {xs : List Value} (ho : w.ownsRow B t size v n xs) : ∃ a cap, v = .slice a n cap := by
  rcases ho.2 with ⟨rfl, rfl⟩ | ⟨g, cap, cur, rfl, _⟩
  · exact ⟨_, _, rfl⟩
  · exact ⟨_, _, rfl⟩
theorem keep_grown {t t2 : TypeId} {w w' : World} {B size n : Nat} {v : Value} {xs : List Value} (ho : w.ownsRow B t2 size v n xs) (g : w.grownBy w' v.ownBlock) (ht : t2 ≠ t) : Keep t w w' := fun k x f e => by
  rw [g.block k (Array.getElem?_eq_some_iff.1 e).1 ?_, e]
  intro q
  exact own_apart2 ho e ht q.symm

/-- Some fields as they come: the fields, the error, the place behind. -/
def fldsZ (l : List Int) (q : Nat) : Nat → List (ByteArray × Int) × Int × Nat
  | 0 => ([], 0, q)
  | k + 1 =>
    if (fldsZ l q k).2.1 = 0 then
      (if (fldZ l (fldsZ l q k).2.2).2.1 = 0 then ((fldsZ l q k).1 ++ [(fldZ l (fldsZ l q k).2.2).1], 0, (fldZ l (fldsZ l q k).2.2).2.2)
       else ([], (fldZ l (fldsZ l q k).2.2).2.1, (fldZ l (fldsZ l q k).2.2).2.2))
    else fldsZ l q k
theorem fldsZ_len (l : List Int) (q : Nat) : ∀ k, (fldsZ l q k).2.1 = 0 → (fldsZ l q k).1.length = k
  | 0, _ => rfl
  | k + 1, h => by
    simp only [fldsZ] at h ⊢
    split at h
    · rename_i h1
      rw [if_pos h1]
      have := fldsZ_len l q k h1
      split at h
      · rename_i h2
        rw [if_pos h2]
        simp [this]
      · contradiction
    · contradiction
theorem fldsZ_stop (l : List Int) (q k : Nat) (h : (fldsZ l q k).2.1 ≠ 0) : ∀ n, k ≤ n → fldsZ l q n = fldsZ l q k
  | 0, hn => by obtain rfl : k = 0 := by omega
                rfl
  | n + 1, hn => by
    by_cases e : k = n + 1
    · subst e; rfl
    · have := fldsZ_stop l q k h n (by omega)
      simp only [fldsZ]
      rw [this, if_neg h]
/-- A schema as it comes: name and fields, the error, the place behind. -/
def takenZ (l : List Int) (q : Nat) : (ByteArray × List (ByteArray × Int)) × Int × Nat :=
  if (textZ l q 32).2.1 = 0 then
    (if (numZ l (textZ l q 32).2.2 16).2.1 = 0 then
      (if (fldsZ l (numZ l (textZ l q 32).2.2 16).2.2 (numZ l (textZ l q 32).2.2 16).1.toNat).2.1 = 0 then
        ((strOf (textZ l q 32).1, (fldsZ l (numZ l (textZ l q 32).2.2 16).2.2 (numZ l (textZ l q 32).2.2 16).1.toNat).1), 0, (fldsZ l (numZ l (textZ l q 32).2.2 16).2.2 (numZ l (textZ l q 32).2.2 16).1.toNat).2.2)
       else ((⟨#[]⟩, []), (fldsZ l (numZ l (textZ l q 32).2.2 16).2.2 (numZ l (textZ l q 32).2.2 16).1.toNat).2.1, (fldsZ l (numZ l (textZ l q 32).2.2 16).2.2 (numZ l (textZ l q 32).2.2 16).1.toNat).2.2))
     else ((⟨#[]⟩, []), (numZ l (textZ l q 32).2.2 16).2.1, (numZ l (textZ l q 32).2.2 16).2.2))
  else ((⟨#[]⟩, []), (textZ l q 32).2.1, (textZ l q 32).2.2)
/-- What taken answers. -/
def TakenAns (w : World) (B p h : Nat) (v : Value) (l : List Int) (S : ByteArray) (P : List (ByteArray × Int)) (e : Int) (r : Nat) (x : Ending) (w' : World) : Prop :=
  ∃ u, x = .returned (.tuple #[schV S u, .int .i64 e]) ∧ Took w B p h v l r w' ∧ w'.ownsRow w.heap.size 52 2 u P.length (cellsF P)

set_option maxRecDepth 100000 in
set_option maxHeartbeats 4000000 in
theorem taken_text {w : World} {B p h : Nat} {v : Value} {l : List Int} {q : Nat} (H : Rd w B p h v l q) (t : List Int) (s : ByteArray) (e : Int) (r : Nat) (hz : textZ l q 32 = (t, e, r)) (hs : strOf t = s) (he : e ≠ 0) :
    Calls Try.prog 42 #[.pointer (some ⟨p, 0, none⟩)] w (TakenAns w B p h v l ⟨#[]⟩ [] e r) := by
  have hB1 : Below w.heap.size w (w.alloc (schO ⟨#[]⟩ (.slice none 0 0))) := (Below.refl _ w).alloc (Nat.le_refl _) _
  have cc := rtext_any (H.later hB1) 32 (by omega)
  rw [hz] at cc
  dsimp only at cc
  rw [hs] at cc
  have C1 : Hid (Calls Try.prog 53 _ _ _) := cc
  have X1 : Hid (Box2 25 (w.alloc (schO ⟨#[]⟩ (.slice none 0 0))) w.heap.size (.string ⟨#[]⟩) (.slice none 0 0)) := Box2.new _ w _ _
  have HR : Hid (Rd w B p h v l q) := H
  have he' : (e != 0) = true := by simpa using he
  clear cc H hz hs he
  go_enter Try.func42, Try.ntmps42
  go_upto_region 2 with (first
    | (go_at_call 53
       refine C1.out.mono ?_
       rintro x w2 ⟨rfl, t2⟩
       have X2 : Hid (Box2 25 w2 w.heap.size (.string ⟨#[]⟩) (.slice none 0 0)) := X1.out.keep (t2.keep (HR.out.later hB1) (by decide))
       have T2 : Hid (Took w B p h v l r w2) := Took.after hB1 t2
       clear t2))
  obtain ⟨a, ha⟩ : ∃ a, a = w.heap.size := ⟨_, rfl⟩
  have HL : Hid (a = w.heap.size) := ha
  rw [← ha] at X2
  simp only [← ha]
  clear X1 hB1 ha C1
  obtain ⟨x0, x1⟩ := X2.out.cells
  have g0 := X2.out.frozen 0
  have g1 := X2.out.frozen 1
  go_wp2
  refine bodyPost_ret (v := .tuple #[schV ⟨#[]⟩ (.slice none 0 0), .int .i64 e]) (by simp [results, Try.results42, go_sem, x0, x1]) rfl ⟨.slice none 0 0, rfl, T2.out.on HR.out (((Below.refl _ w2).setCell (Nat.le_of_eq HL.out.symm) _).setCell (Nat.le_of_eq HL.out.symm) _), World.ownsRow_nil _ _ _ _⟩
set_option maxRecDepth 100000 in
set_option maxHeartbeats 4000000 in
theorem taken_num {w : World} {B p h : Nat} {v : Value} {l : List Int} {q : Nat} (H : Rd w B p h v l q) (t : List Int) (s : ByteArray) (r : Nat) (m e2 : Int) (r2 : Nat) (hz : textZ l q 32 = (t, 0, r)) (hs : strOf t = s) (hz2 : numZ l r 16 = (m, e2, r2)) (he : e2 ≠ 0) :
    Calls Try.prog 42 #[.pointer (some ⟨p, 0, none⟩)] w (TakenAns w B p h v l ⟨#[]⟩ [] e2 r2) := by
  have hB1 : Below w.heap.size w (w.alloc (schO ⟨#[]⟩ (.slice none 0 0))) := (Below.refl _ w).alloc (Nat.le_refl _) _
  have cc := rtext_any (H.later hB1) 32 (by omega)
  rw [hz] at cc
  dsimp only at cc
  rw [hs] at cc
  have C1 : Hid (Calls Try.prog 53 _ _ _) := cc
  have X1 : Hid (Box2 25 (w.alloc (schO ⟨#[]⟩ (.slice none 0 0))) w.heap.size (.string ⟨#[]⟩) (.slice none 0 0)) := Box2.new _ w _ _
  have HR : Hid (Rd w B p h v l q) := H
  have he' : (e2 != 0) = true := by simpa using he
  have HZ2 : Hid (_ = _) := hz2
  clear cc H hz hs he hz2
  go_enter Try.func42, Try.ntmps42
  go_upto_region 2 with (first
    | (go_at_call 53
       refine C1.out.mono ?_
       rintro x w2 ⟨rfl, t2⟩
       have X2 : Hid (Box2 25 w2 w.heap.size (.string ⟨#[]⟩) (.slice none 0 0)) := X1.out.keep (t2.keep (HR.out.later hB1) (by decide))
       have T2 : Hid (Took w B p h v l r w2) := Took.after hB1 t2
       clear t2))
  obtain ⟨a, ha⟩ : ∃ a, a = w.heap.size := ⟨_, rfl⟩
  have HL : Hid (a = w.heap.size) := ha
  rw [← ha] at X2
  simp only [← ha]
  clear X1 hB1 ha C1
  obtain ⟨x0, x1⟩ := X2.out.cells
  have g0 := X2.out.frozen 0
  have g1 := X2.out.frozen 1
  go_wp2_with (first
    | (go_at_call 54
       have c2 := rnum_any T2.out.1 16
       rw [HZ2.out] at c2
       dsimp only at c2
       refine c2.mono ?_
       clear c2 x0 x1 g0 g1
       rintro x w4 ⟨rfl, t4⟩
       have X4 : Hid (Box2 25 w4 a (.string ⟨#[]⟩) (.slice none 0 0)) := X2.out.keep (t4.keep T2.out.1 (by decide))
       have T4 : Hid (Took w B p h v l r2 w4) := T2.out.trans t4
       clear t4 X2 T2
       obtain ⟨x0, x1⟩ := X4.out.cells
       have g0 := X4.out.frozen 0
       have g1 := X4.out.frozen 1))
  refine bodyPost_ret (v := .tuple #[schV ⟨#[]⟩ (.slice none 0 0), .int .i64 e2]) (by simp [results, Try.results42, go_sem, x0, x1]) rfl ⟨.slice none 0 0, rfl, T4.out.on HR.out (((Below.refl _ w4).setCell (Nat.le_of_eq HL.out.symm) _).setCell (Nat.le_of_eq HL.out.symm) _), World.ownsRow_nil _ _ _ _⟩
set_option maxRecDepth 100000 in
set_option maxHeartbeats 4000000 in
theorem taken_flds {w : World} {B p h : Nat} {v : Value} {l : List Int} {q : Nat} (H : Rd w B p h v l q) (t : List Int) (s : ByteArray) (r : Nat) (n : Nat) (r2 : Nat) (hz : textZ l q 32 = (t, 0, r)) (hs : strOf t = s) (hz2 : numZ l r 16 = ((n : Int), 0, r2)) (hn : n ≤ 16) (S : ByteArray) (P : List (ByteArray × Int)) (e : Int) (r3 : Nat) (hf : fldsZ l r2 n = (P, e, r3)) (hS : S = if e = 0 then s else ⟨#[]⟩) :
    Calls Try.prog 42 #[.pointer (some ⟨p, 0, none⟩)] w (TakenAns w B p h v l S P e r3) := by
  have hB1 : Below w.heap.size w (w.alloc (schO ⟨#[]⟩ (.slice none 0 0))) := (Below.refl _ w).alloc (Nat.le_refl _) _
  have cc := rtext_any (H.later hB1) 32 (by omega)
  rw [hz] at cc
  dsimp only at cc
  rw [hs] at cc
  have C1 : Hid (Calls Try.prog 53 _ _ _) := cc
  have X1 : Hid (Box2 25 (w.alloc (schO ⟨#[]⟩ (.slice none 0 0))) w.heap.size (.string ⟨#[]⟩) (.slice none 0 0)) := Box2.new _ w _ _
  have HR : Hid (Rd w B p h v l q) := H
  have HZ2 : Hid (_ = _) := hz2
  have HFZ : Hid (fldsZ l r2 n = (P, e, r3)) := hf
  have HS : Hid (S = if e = 0 then s else ⟨#[]⟩) := hS
  clear cc H hz hs hz2 hf hS
  go_enter Try.func42, Try.ntmps42
  go_upto_region 2 with (first
    | (go_at_call 53
       refine C1.out.mono ?_
       rintro x w2 ⟨rfl, t2⟩
       have X2 : Hid (Box2 25 w2 w.heap.size (.string ⟨#[]⟩) (.slice none 0 0)) := X1.out.keep (t2.keep (HR.out.later hB1) (by decide))
       have T2 : Hid (Took w B p h v l r w2) := Took.after hB1 t2
       clear t2))
  obtain ⟨a, ha⟩ : ∃ a, a = w.heap.size := ⟨_, rfl⟩
  have HL : Hid (a = w.heap.size) := ha
  rw [← ha] at X2
  simp only [← ha]
  clear X1 hB1 ha C1
  obtain ⟨x0, x1⟩ := X2.out.cells
  have g0 := X2.out.frozen 0
  have g1 := X2.out.frozen 1
  go_upto_region 8 with (first
    | (go_at_call 54
       have c2 := rnum_any T2.out.1 16
       rw [HZ2.out] at c2
       dsimp only at c2
       refine c2.mono ?_
       clear c2 x0 x1 g0 g1
       rintro x w4 ⟨rfl, t4⟩
       have X4 : Hid (Box2 25 w4 a (.string ⟨#[]⟩) (.slice none 0 0)) := X2.out.keep (t4.keep T2.out.1 (by decide))
       have T4 : Hid (Took w B p h v l r2 w4) := T2.out.trans t4
       clear t4 X2 T2
       obtain ⟨x0, x1⟩ := X4.out.cells
       have g0 := X4.out.frozen 0
       have g1 := X4.out.frozen 1))
  clear x0 x1 g0 g1 HZ2
  have hB5 : Below w.heap.size w4 (w4.alloc (schO s (.slice none 0 0))) := (Below.refl _ w4).alloc T4.out.2.size _
  have XA : Hid (Box2 25 (w4.alloc (schO s (.slice none 0 0))) a (.string ⟨#[]⟩) (.slice none 0 0)) := X4.out.keep (keep_below ((Below.refl _ w4).alloc (Nat.le_refl _) _))
  have XB : Hid (Box2 25 (w4.alloc (schO s (.slice none 0 0))) w4.heap.size (.string s) (.slice none 0 0)) := Box2.new _ w4 _ _
  have TK : Hid (Took w B p h v l r2 (w4.alloc (schO s (.slice none 0 0)))) := T4.out.on HR.out hB5
  have hab : ¬ a = w4.heap.size := by have := X4.out.lt; omega
  have HB : Hid (w.heap.size ≤ w4.heap.size) := T4.out.2.size
  clear X4 T4 hB5
  generalize w4.heap.size = b at XB hab HB ⊢
  have hba : ¬ b = a := fun e => hab e.symm
  generalize w4.alloc (schO s (.slice none 0 0)) = W at XA XB TK ⊢
  go_wp2_with fail
  go_loopw [31] (fun u wr => ∃ k : Nat, k ≤ n ∧ u = .int .u64 k ∧ Hid (∃ P1 q1 a1 c1, fldsZ l r2 k = (P1, 0, q1) ∧ Took w B p h v l q1 wr ∧ Box2 25 wr b (.string s) (.slice a1 k c1) ∧ wr.ownsRow w.heap.size 52 2 (.slice a1 k c1) k (cellsF P1) ∧ Box2 25 wr a (.string ⟨#[]⟩) (.slice none 0 0))) (fun u _ => n - (intOf u).toNat)
  case atStart => exact ⟨0, Nat.zero_le _, rfl, [], r2, none, 0, rfl, TK.out, XB.out, World.ownsRow_nil _ _ _ _, XA.out⟩
  case round =>
    clear XA XB TK
    obtain ⟨k, hk, rfl, HV⟩ := hrel
    obtain ⟨P1, q1, a1, c1, hf1, hT1, hX1, hO1, hA1⟩ := HV.out
    clear HV
    have HF1 : Hid (fldsZ l r2 k = (P1, 0, q1)) := hf1
    have T1 : Hid (Took w B p h v l q1 wr) := hT1
    have X1 : Hid (Box2 25 wr b (.string s) (.slice a1 k c1)) := hX1
    have O1 : Hid (wr.ownsRow w.heap.size 52 2 (.slice a1 k c1) k (cellsF P1)) := hO1
    have A1 : Hid (Box2 25 wr a (.string ⟨#[]⟩) (.slice none 0 0)) := hA1
    clear hf1 hT1 hX1 hO1 hA1
    by_cases hkn : k < n
    · obtain ⟨fs, fk, e3, q3, hz3⟩ : ∃ fs fk e3 q3, fldZ l q1 = ((fs, fk), e3, q3) := ⟨_, _, _, _, rfl⟩
      have cc := takenField_any T1.out.1
      rw [hz3] at cc
      dsimp only at cc
      have C3 : Hid (Calls Try.prog 55 _ wr _) := cc
      have HZ3 : Hid (fldZ l q1 = ((fs, fk), e3, q3)) := hz3
      clear cc hz3
      by_cases he3 : e3 = 0
      · subst he3
        go_upto_region 11 with (first
          | (go_at_call 55
             refine C3.out.mono ?_
             rintro x w5 ⟨rfl, t5⟩))
        have hB6 : Below w5.heap.size w5 (w5.alloc (fldO fs fk)) := (Below.refl _ w5).alloc (Nat.le_refl _) _
        have hs5 : w.heap.size ≤ w5.heap.size := Nat.le_trans T1.out.2.size t5.2.size
        have X6 : Hid (Box2 25 (w5.alloc (fldO fs fk)) b (.string s) (.slice a1 k c1)) := (X1.out.keep (t5.keep T1.out.1 (by decide))).keep (keep_below hB6)
        have A6 : Hid (Box2 25 (w5.alloc (fldO fs fk)) a (.string ⟨#[]⟩) (.slice none 0 0)) := (A1.out.keep (t5.keep T1.out.1 (by decide))).keep (keep_below hB6)
        have O6 : Hid ((w5.alloc (fldO fs fk)).ownsRow w.heap.size 52 2 (.slice a1 k c1) k (cellsF P1)) := own_keep (own_keep O1.out (t5.keep T1.out.1 (by decide))) (keep_below hB6)
        have T6 : Hid (Took w B p h v l q3 (w5.alloc (fldO fs fk))) := (T1.out.trans t5).on HR.out (hB6.mono hs5)
        have F6 : Hid (Box2 52 (w5.alloc (fldO fs fk)) w5.heap.size (.string fs) (.int .i64 fk)) := Box2.new _ w5 _ _
        clear X1 A1 O1 T1 C3 t5 hB6 hs5
        generalize w5.heap.size = b5 at F6 ⊢
        generalize w5.alloc (fldO fs fk) = W6 at X6 A6 O6 T6 F6 ⊢
        obtain ⟨v7, w7, run7, own7, g7⟩ := snocF O6.out T6.out.2.size (by omega) fs fk
        obtain ⟨a7, c7, rfl⟩ := own_form own7
        have hB7 : Below W6.heap.size W6 (W6.alloc (fldO fs fk)) := (Below.refl _ W6).alloc (Nat.le_refl _) _
        have K7 : Keep 25 W6 w7 := (keep_below hB7).trans (keep_grown (own_keep O6.out (keep_below hB7)) g7 (by decide))
        have X7 : Hid (Box2 25 w7 b (.string s) (.slice a1 k c1)) := X6.out.keep K7
        have A7 : Hid (Box2 25 w7 a (.string ⟨#[]⟩) (.slice none 0 0)) := A6.out.keep K7
        have L7 : Hid (Below w.heap.size W6 w7) := (hB7.mono T6.out.2.size).trans ((Below.refl _ _).grown g7 (Nat.le_trans T6.out.2.size hB7.size) (fun j hj => (O6.out.lt j hj).1))
        have O7 : Hid (w7.ownsRow w.heap.size 52 2 (.slice a7 (k + 1) c7) (k + 1) (cellsF (P1 ++ [(fs, fk)]))) := own7
        have R7 : Hid (_ = _) := run7
        clear own7 run7 g7 K7 hB7
        obtain ⟨x0, x1⟩ := X6.out.cells
        obtain ⟨y0, y1⟩ := F6.out.cells
        go_wp2_with (first
          | (at_builtin
             refine wpList_append_run rfl (.tmp 43) (.tmp 45) 23 rfl _ _ _ rfl rfl R7.out ?_
             clear x0 x1 y0 y1
             obtain ⟨x0, x1⟩ := X7.out.cells
             have g1 := X7.out.frozen 1))
        go_roundw
        case rel =>
          refine ⟨k + 1, by omega, by go_num, ?_⟩
          refine ⟨P1 ++ [(fs, fk)], q3, a7, c7, ?_, (T6.out.on HR.out L7.out).on HR.out ((Below.refl _ w7).setCell HB.out _), X7.out.set1 _, own_keep O7.out (keep_set X7.out (by decide) 1 _), A7.out.other _ _ hab⟩
          simp only [fldsZ]
          rw [HF1.out]
          dsimp only
          rw [if_pos rfl, HZ3.out]
          rfl
        case measure => simp [intOf]; omega
      · have he' : (e3 != 0) = true := by simpa using he3
        have HE : Hid (e = e3 ∧ r3 = q3 ∧ P = [] ∧ S = ⟨#[]⟩) := by
          have h1 : fldsZ l r2 (k + 1) = ([], e3, q3) := by
            simp only [fldsZ]
            rw [HF1.out]
            dsimp only
            rw [if_pos rfl, HZ3.out]
            dsimp only
            rw [if_neg he3]
          have h2 := fldsZ_stop l r2 (k + 1) (by rw [h1]; exact he3) n (by omega)
          rw [HFZ.out, h1] at h2
          injection h2 with h3 h4
          injection h4 with h4 h5
          subst h3 h4 h5
          exact ⟨rfl, rfl, rfl, by rw [HS.out, if_neg he3]⟩
        clear he3
        go_upto_region 11 with (first
          | (go_at_call 55
             refine C3.out.mono ?_
             rintro x w5 ⟨rfl, t5⟩))
        have hB6 : Below w5.heap.size w5 (w5.alloc (fldO fs fk)) := (Below.refl _ w5).alloc (Nat.le_refl _) _
        have hs5 : w.heap.size ≤ w5.heap.size := Nat.le_trans T1.out.2.size t5.2.size
        have A6 : Hid (Box2 25 (w5.alloc (fldO fs fk)) a (.string ⟨#[]⟩) (.slice none 0 0)) := (A1.out.keep (t5.keep T1.out.1 (by decide))).keep (keep_below hB6)
        have T6 : Hid (Took w B p h v l q3 (w5.alloc (fldO fs fk))) := (T1.out.trans t5).on HR.out (hB6.mono hs5)
        clear X1 A1 O1 T1 C3 t5 hB6 hs5
        generalize w5.heap.size = b5
        generalize w5.alloc (fldO fs fk) = W6 at A6 T6 ⊢
        obtain ⟨x0, x1⟩ := A6.out.cells
        have g0 := A6.out.frozen 0
        have g1 := A6.out.frozen 1
        go_wp2
        try rw [Exit.noGoto_ret]
        refine bodyPost_ret (v := .tuple #[schV ⟨#[]⟩ (.slice none 0 0), .int .i64 e3]) (by simp [results, Try.results42, go_sem, x0, x1]) rfl ?_
        obtain ⟨rfl, rfl, rfl, rfl⟩ := HE.out
        exact ⟨.slice none 0 0, rfl, T6.out.on HR.out (((Below.refl _ W6).setCell (Nat.le_of_eq HL.out.symm) _).setCell (Nat.le_of_eq HL.out.symm) _), World.ownsRow_nil _ _ _ _⟩
    · obtain rfl : k = n := by omega
      obtain ⟨x0, x1⟩ := X1.out.cells
      obtain ⟨y0, y1⟩ := A1.out.cells
      have g0 := A1.out.frozen 0
      have g1 := A1.out.frozen 1
      go_wp2
      refine bodyPost_ret (v := .tuple #[schV s (.slice a1 k c1), .int .i64 0]) (by simp [results, Try.results42, go_sem, y0, y1]) rfl ?_
      have h2 := HF1.out.symm.trans HFZ.out
      injection h2 with h3 h4
      injection h4 with h4 h5
      have hS := HS.out
      subst h3 h4 h5
      rw [if_pos rfl] at hS
      subst hS
      have hl : P1.length = k := by have := fldsZ_len l r2 k (by rw [HF1.out]); rwa [HF1.out] at this
      refine ⟨.slice a1 k c1, rfl, T1.out.on HR.out (((Below.refl _ wr).setCell (Nat.le_of_eq HL.out.symm) _).setCell (Nat.le_of_eq HL.out.symm) _), ?_⟩
      rw [hl]
      have A2 : Box2 25 (wr.setCell ⟨a, 0, none⟩ (.string S)) a (.string S) (.slice none 0 0) := A1.out.set0 _
      exact own_keep (own_keep O1.out (keep_set A1.out (by decide) 0 _)) (keep_set A2 (by decide) 1 _)
end Go.Proofs.Ytdaldnpajihdlaa
