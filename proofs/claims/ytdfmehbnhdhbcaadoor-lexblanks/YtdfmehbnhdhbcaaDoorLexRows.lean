/-
  Tokens in rows that the call owns.
-/
import Derived.Test.YtdfmehbnhdhbcaaDoorLexMath
import Derived.Test.YtdfmehbnhdhbcaaDoorTxt
namespace Go.Proofs.YtdfmehbnhdhbcaaDoor
open Go.RowKit

/-- The cells of tokens in a row. -/
def cellsT (P : List Tk) : List Value := P.flatMap fun x => [.int .i64 x.k, .string x.s, .int .i64 (x.p : Int)]
theorem cellsT_length (P : List Tk) : (cellsT P).length = P.length * 3 := by
  induction P with
  | nil => rfl
  | cons x P ih => simp only [cellsT, List.flatMap_cons, List.length_append, List.length_cons, List.length_nil] at ih ⊢; omega
theorem cellsT_get (P : List Tk) : ∀ j (h : j < P.length), (cellsT P)[j * 3]? = some (.int .i64 P[j].k) ∧ (cellsT P)[j * 3 + 1]? = some (.string P[j].s) ∧ (cellsT P)[j * 3 + 2]? = some (.int .i64 (P[j].p : Int)) := by
  induction P with
  | nil => intro j h; simp at h
  | cons x P ih =>
    intro j h
    cases j with
    | zero => simp [cellsT]
    | succ j =>
      have := ih j (by simpa using h)
      simp only [cellsT, List.flatMap_cons, List.cons_append, List.nil_append] at this ⊢
      rw [show (j + 1) * 3 = j * 3 + 1 + 1 + 1 by omega]
      simpa using this
theorem infoT : (Tryd.prog.info? 29).map (fun i => (i.zero, i.size, i.bytes)) = some (some (.agg #[.int .i64 0, .string ByteArray.empty, .int .i64 0]), 3, 32) := by kernel_rfl
/-- One more token in a row. -/
theorem snocT {w : World} {B n : Nat} {v : Value} {P : List Tk} (ho : w.ownsRow B 29 3 v n (cellsT P)) (hB : B ≤ w.heap.size) (hn : n ≤ 1048576) (k : Int) (s : ByteArray) (p : Nat) :
    ∃ v' w', (Builtin.append_ #[22, 22] 22 #[v, .slice (some ⟨w.heap.size, 0, none⟩) 1 1]).run Tryd.prog (w.alloc (.cells #[.int .i64 k, .string s, .int .i64 (p : Int)] 29)) = .ok v' w' ∧ w'.ownsRow B 29 3 v' (n + 1) (cellsT (P ++ [⟨k, s, p⟩])) ∧ Below B w w' := by
  obtain ⟨i0, hi, hz0, hz1, hz2⟩ := info_parts infoT
  have hB0 : Below w.heap.size w (w.alloc (.cells #[.int .i64 k, .string s, .int .i64 (p : Int)] 29)) := (Below.refl _ _).alloc (Nat.le_refl _) _
  have hcell : ∀ j, (w.alloc (.cells #[.int .i64 k, .string s, .int .i64 (p : Int)] 29)).cell? ⟨w.heap.size, j, none⟩ = (#[.int .i64 k, .string s, .int .i64 (p : Int)] : Array Value)[j]? := fun j => by simp
  obtain ⟨v', w', r, o, g, _⟩ := run_append_own (P := Tryd.prog) (w.alloc (.cells #[.int .i64 k, .string s, .int .i64 (p : Int)] 29)) B 22 22 29 i0 _ 3 32 Tryd.underlying22 hi hz0 hz1 hz2 rfl (by omega) v n (cellsT P) (own_below ho hB0) ⟨w.heap.size, 0, none⟩ 1 1 [.int .i64 k, .string s, .int .i64 (p : Int)] rfl
    (fun j x hj => by
      rw [addr_add, Nat.zero_add, hcell]
      simpa using hj)
    (fun x hx => by
      simp at hx
      rcases hx with rfl | rfl | rfl <;> rfl) (by unfold maxLen; omega) (by omega) (Nat.le_trans hB hB0.size)
  refine ⟨v', w', r, ?_, ((Below.refl B w).alloc hB _).grown g (by simp; omega) (fun k hk => (ho.lt k hk).1)⟩
  rw [show cellsT (P ++ [⟨k, s, p⟩]) = cellsT P ++ [.int .i64 k, .string s, .int .i64 (p : Int)] by simp [cellsT]]
  exact o
/-- A row of tokens, by index. -/
theorem rowT_get {w : World} {B n : Nat} {v : Value} {P : List Tk} (ho : w.ownsRow B 29 3 v n (cellsT P)) (hn : n = P.length) :
    ∃ a cap, v = .slice a n cap ∧ n ≤ cap ∧ cap ≤ maxLen ∧ (0 < n → ∃ g, a = some ⟨g, 0, none⟩ ∧ ∀ j (hj : j < P.length), w.cell? ⟨g, j * 3, none⟩ = some (.int .i64 P[j].k) ∧ w.cell? ⟨g, j * 3 + 1, none⟩ = some (.string P[j].s) ∧ w.cell? ⟨g, j * 3 + 2, none⟩ = some (.int .i64 (P[j].p : Int))) := by
  rcases ho.2 with ⟨rfl, h0⟩ | ⟨g, cap, cur, rfl, _, hg, hle, hm, hsz, ht⟩
  · exact ⟨none, 0, by rw [h0], by omega, by unfold maxLen; omega, fun h => by omega⟩
  · refine ⟨_, cap, rfl, hle, hm, fun _ => ⟨g, rfl, fun j hj => ?_⟩⟩
    obtain ⟨e0, e1, e2⟩ := cellsT_get P j hj
    have get : ∀ i u, (cellsT P)[i]? = some u → w.cell? ⟨g, i, none⟩ = some u := fun i u e => by
      rw [← ht, List.getElem?_take] at e
      split at e
      · simp at e
        simp [World.cell?, hg, e]
      · cases e
    exact ⟨get _ _ e0, get _ _ e1, get _ _ e2⟩
theorem rowT_form {w : World} {B n size : Nat} {v : Value} {t : TypeId} {xs : List Value} (ho : w.ownsRow B t size v n xs) : ∃ a cap, v = .slice a n cap := by
  rcases ho.2 with ⟨rfl, rfl⟩ | ⟨g, cap, cur, rfl, _⟩
  · exact ⟨_, _, rfl⟩
  · exact ⟨_, _, rfl⟩
end Go.Proofs.YtdfmehbnhdhbcaaDoor
