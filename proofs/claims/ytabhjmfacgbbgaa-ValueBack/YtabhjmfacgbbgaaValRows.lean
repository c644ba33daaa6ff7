/-
  Values in rows that the call owns, one more; the bytes of many values.
-/
import Derived.Test.YtabhjmfacgbbgaaValGetAny
import Derived.Test.YtabhjmfacgbbgaaValArgs
namespace Go.Proofs.Ytabhjmfacgbbgaa
open Go.RowKit

/-- The cells of values in a row. -/
def cellsV (P : List (Int × Int × ByteArray)) : List Value := P.flatMap fun x => [.int .i64 x.1, .int .i64 x.2.1, .string x.2.2]
theorem cellsV_length (P : List (Int × Int × ByteArray)) : (cellsV P).length = P.length * 3 := by
  induction P with
  | nil => rfl
  | cons x P ih => simp only [cellsV, List.flatMap_cons, List.length_append, List.length_cons, List.length_nil] at ih ⊢; omega
theorem cellsV_get (P : List (Int × Int × ByteArray)) : ∀ j (h : j < P.length), (cellsV P)[j * 3]? = some (.int .i64 P[j].1) ∧ (cellsV P)[j * 3 + 1]? = some (.int .i64 P[j].2.1) ∧ (cellsV P)[j * 3 + 2]? = some (.string P[j].2.2) := by
  induction P with
  | nil => intro j h; simp at h
  | cons x P ih =>
    intro j h
    cases j with
    | zero => simp [cellsV]
    | succ j =>
      have := ih j (by simpa using h)
      simp only [cellsV, List.flatMap_cons, List.cons_append, List.nil_append] at this ⊢
      rw [show (j + 1) * 3 = j * 3 + 1 + 1 + 1 by omega]
      simpa using this
theorem infoV : (Try.prog.info? 30).map (fun i => (i.zero, i.size, i.bytes)) = some (some (.agg #[.int .i64 0, .int .i64 0, .string ByteArray.empty]), 3, 32) := by kernel_rfl
/-- One more value in a row. -/
theorem snocV {w : World} {B n : Nat} {v : Value} {P : List (Int × Int × ByteArray)} (ho : w.ownsRow B 30 3 v n (cellsV P)) (hB : B ≤ w.heap.size) (hn : n ≤ 1048576) (k m : Int) (s : ByteArray) :
    ∃ v' w', (Builtin.append_ #[22, 22] 22 #[v, .slice (some ⟨w.heap.size, 0, none⟩) 1 1]).run Try.prog (w.alloc (valO k m s)) = .ok v' w' ∧ w'.ownsRow B 30 3 v' (n + 1) (cellsV (P ++ [(k, m, s)])) ∧ (w.alloc (valO k m s)).grownBy w' v.ownBlock := by
  obtain ⟨i0, hi, hz0, hz1, hz2⟩ := info_parts infoV
  have hB0 : Below w.heap.size w (w.alloc (valO k m s)) := (Below.refl _ _).alloc (Nat.le_refl _) _
  have hx := (Box.new w k m s).cells
  obtain ⟨v', w', r, o, g, _⟩ := run_append_own (P := Try.prog) (w.alloc (valO k m s)) B 22 22 30 i0 _ 3 32 Try.underlying22 hi hz0 hz1 hz2 rfl (by omega) v n (cellsV P) (own_below ho hB0) ⟨w.heap.size, 0, none⟩ 1 1 [.int .i64 k, .int .i64 m, .string s] rfl
    (fun j x hj => by
      have hj0 : j < 3 := (List.getElem?_eq_some_iff.1 hj).1
      have e : (⟨w.heap.size, 0, none⟩ : Addr).add j = ⟨w.heap.size, j, none⟩ := by unfold Addr.add; split <;> simp_all
      rw [e]
      match j, hj0 with
      | 0, _ => simp at hj; subst hj; exact hx.1
      | 1, _ => simp at hj; subst hj; exact hx.2.1
      | 2, _ => simp at hj; subst hj; exact hx.2.2)
    (fun x hx => by
      simp at hx
      rcases hx with rfl | rfl | rfl <;> rfl) (by unfold maxLen; omega) (by omega) (Nat.le_trans hB hB0.size)
  refine ⟨v', w', r, ?_, g⟩
  rw [show cellsV (P ++ [(k, m, s)]) = cellsV P ++ [.int .i64 k, .int .i64 m, .string s] by simp [cellsV]]
  exact o
/-- A row of values, by index. -/
theorem rowV_get {w : World} {B n : Nat} {v : Value} {P : List (Int × Int × ByteArray)} (ho : w.ownsRow B 30 3 v n (cellsV P)) (hn : n = P.length) (j : Nat) (hj : j < P.length) :
    ∃ g cap, v = .slice (some ⟨g, 0, none⟩) n cap ∧ n ≤ cap ∧ cap ≤ maxLen ∧ w.cell? ⟨g, j * 3, none⟩ = some (.int .i64 P[j].1) ∧ w.cell? ⟨g, j * 3 + 1, none⟩ = some (.int .i64 P[j].2.1) ∧ w.cell? ⟨g, j * 3 + 2, none⟩ = some (.string P[j].2.2) := by
  rcases ho.2 with ⟨_, h0⟩ | ⟨g, cap, cur, rfl, _, hg, hle, hm, hsz, ht⟩
  · omega
  · obtain ⟨e0, e1, e2⟩ := cellsV_get P j hj
    have get : ∀ i u, (cellsV P)[i]? = some u → w.cell? ⟨g, i, none⟩ = some u := fun i u e => by
      rw [← ht, List.getElem?_take] at e
      split at e
      · simp at e
        simp [World.cell?, hg, e]
      · cases e
    exact ⟨g, cap, rfl, hle, hm, get _ _ e0, get _ _ e1, get _ _ e2⟩
theorem rowV_form {w : World} {B n size : Nat} {v : Value} {t : TypeId} {xs : List Value} (ho : w.ownsRow B t size v n xs) : ∃ a cap, v = .slice a n cap := by
  rcases ho.2 with ⟨rfl, rfl⟩ | ⟨g, cap, cur, rfl, _⟩
  · exact ⟨_, _, rfl⟩
  · exact ⟨_, _, rfl⟩
/-- A writer where a row of values grew. -/
theorem Wr.grownV {w w' : World} {B p h n : Nat} {most : Int} {v u : Value} {l : List Int} {xs : List Value} (H : Wr w B p h most v l) (ho : w.ownsRow B 30 3 u n xs) (g : w.grownBy w' u.ownBlock) : Wr w' B p h most v l := by
  have ne : ∀ k c t f, w.heap[k]? = some (.cells c t f) → t ≠ 30 → some k ≠ u.ownBlock := by
    intro k c t f hk ht he
    rcases ho.2 with ⟨rfl, _⟩ | ⟨g', cap, cur, rfl, _, hg, _⟩
    · simp [Value.ownBlock] at he
    · simp [Value.ownBlock] at he
      subst he
      rw [hk] at hg
      injection hg with hg
      injection hg with _ hg _
      exact ht hg
  refine ⟨(g.block p H.lt (ne _ _ _ _ H.top (by decide))).trans H.top, H.hd.kept (g.block h H.hd.lt (ne _ _ _ _ H.hd.hld (by decide))) fun k hk => ?_, H.low, H.fit, H.m1⟩
  rcases H.hd.own.2 with ⟨rfl, _⟩ | ⟨g', cap, cur, rfl, _, hg, _⟩
  · simp [Value.ownBlock] at hk
  · simp [Value.ownBlock] at hk
    subst hk
    exact g.block _ (Array.getElem?_eq_some_iff.1 hg).1 (ne _ _ _ _ hg (by decide))

/-- The bytes of many values. -/
def encs (P : List (Int × Int × ByteArray)) : List Int := P.flatMap fun x => encV x.1 x.2.1 x.2.2
/-- Of the first values those that are right. -/
def rightsTo (K N : Nat → Int) (S : Nat → ByteArray) : Nat → List (Int × Int × ByteArray)
  | 0 => []
  | k + 1 => rightsTo K N S k ++ (if rightB (K k) (N k) (S k) then [(K k, N k, S k)] else [])
/-- A value that can be put. -/
def GoodV (x : Int × Int × ByteArray) : Prop := rightB x.1 x.2.1 x.2.2 = true ∧ -9223372036854775808 ≤ x.2.1 ∧ x.2.1 < 9223372036854775808
theorem encs_length (P : List (Int × Int × ByteArray)) (h : ∀ x ∈ P, GoodV x) : (encs P).length ≤ 267 * P.length := by
  induction P with
  | nil => simp [encs]
  | cons x P ih =>
    have h1 := encV_len _ _ _ (h x (by simp)).1
    have h2 := ih fun y hy => h y (by simp [hy])
    simp only [encs, List.flatMap_cons, List.length_append, List.length_cons] at h2 ⊢
    omega
theorem rights_good (K N : Nat → Int) (S : Nat → ByteArray) (k : Nat) (h : ∀ j, j < k → -9223372036854775808 ≤ N j ∧ N j < 9223372036854775808) : (rightsTo K N S k).length ≤ k ∧ ∀ x ∈ rightsTo K N S k, GoodV x := by
  induction k with
  | zero => exact ⟨Nat.le_refl _, fun x hx => by simp [rightsTo] at hx⟩
  | succ k ih =>
    obtain ⟨i1, i2⟩ := ih fun j hj => h j (by omega)
    simp only [rightsTo]
    split
    · rename_i hr
      refine ⟨by simp; omega, fun x hx => ?_⟩
      rcases List.mem_append.1 hx with hx | hx
      · exact i2 x hx
      · simp at hx
        subst hx
        exact ⟨hr, h k (by omega)⟩
    · exact ⟨by simp; omega, fun x hx => i2 x (by simpa using hx)⟩
theorem encs_append (a b : List (Int × Int × ByteArray)) : encs (a ++ b) = encs a ++ encs b := by simp [encs]
theorem encs_cons (x : Int × Int × ByteArray) (b : List (Int × Int × ByteArray)) : encs (x :: b) = encV x.1 x.2.1 x.2.2 ++ encs b := by simp [encs]
/-- The j-th of them is read behind those ahead. -/
theorem encs_read (P : List (Int × Int × ByteArray)) (h : ∀ x ∈ P, GoodV x) (j : Nat) (hj : j < P.length) : getV (encs P) (encs (P.take j)).length = (P[j], 0, (encs (P.take (j + 1))).length) := by
  have e : encs P = encs (P.take j) ++ (encV P[j].1 P[j].2.1 P[j].2.2 ++ encs (P.drop (j + 1))) := by
    conv => lhs; rw [← List.take_append_drop j P, List.drop_eq_getElem_cons hj]
    rw [encs_append, encs_cons]
  obtain ⟨g1, g2, g3⟩ := h P[j] (List.getElem_mem hj)
  rw [e, getV_put _ _ _ _ _ g2 g3 g1]
  have e2 : encs (P.take (j + 1)) = encs (P.take j) ++ encV P[j].1 P[j].2.1 P[j].2.2 := by
    rw [List.take_add_one, List.getElem?_eq_getElem hj, encs_append]
    congr 1
    simp [encs]
  rw [e2, List.length_append]
end Go.Proofs.Ytabhjmfacgbbgaa
