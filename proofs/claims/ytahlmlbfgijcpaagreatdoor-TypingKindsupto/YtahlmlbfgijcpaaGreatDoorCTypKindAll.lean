/-
  typing's kind of any right condition.
-/
import Derived.Test.YtahlmlbfgijcpaaGreatDoorCTypKindR
namespace Go.Proofs.YtahlmlbfgijcpaaGreatDoor
open Go.RowKit

theorem X.n_lt (x : X) : x.n < x.size := by
  have key : ∀ n, n ≤ sumN (fun i => (x.c i).size) n := by
    intro n
    induction n with
    | zero => exact Nat.le_refl _
    | succ n ih =>
      have := (x.c n).size_pos
      simp only [sumN]
      omega
  have := key x.n
  rw [x.size_eq]
  omega
theorem name_max {s : ByteArray} (h : nameB s = true) : s.size ≤ maxLen := by
  unfold nameB fitsB at h
  simp at h
  unfold maxLen
  omega
theorem kindT_any (nv : Value) (N T : Addr) (L : ByteArray → ByteArray → Option Int) : ∀ (x : X) (w : World), IsX w x → TreeR x → x.size ≤ 1048576 → Sens w N T → (∀ d, Below w.heap.size w d → FieldC nv N L d) → KindC nv N T x (kindE L x).1 (kindE L x).2 w := by
  refine X.ind fun x ih w hX hR hsz hS HF => ?_
  obtain ⟨hr, hp⟩ := (treeR_eq x).1 hR
  have hn : x.n ≤ 1048576 := by have := x.n_lt; omega
  have HK : ∀ i, i < x.n → ∀ d, Below w.heap.size w d → KindC nv N T (x.c i) (kindE L (x.c i)).1 (kindE L (x.c i)).2 d := fun i hi d hd => by
    obtain ⟨_, _, _, _, hx⟩ := hX.part hi
    exact ih i hi d (hx.later hd) (hp i hi) (by have := x.size_part i hi; omega) (hS.later hd) fun d' h' => HF d' (bt hd h')
  have rest : 3 ≤ x.k → x.k ≤ 17 → (x.k = 9 ∨ x.k = 10 → x.n = 2) → KindC nv N T x (kindE L x).1 (kindE L x).2 w := by
    intro h3 h17 h2
    rcases errs_or (fun i => (kindE L (x.c i)).2) x.n with ⟨he, h0⟩ | ⟨i, hi, hne, he, h0⟩
    · have HP := fun d (hd : Below w.heap.size w d) => parts_ok nv N T x (fun i => (kindE L (x.c i)).1) (fun i => (kindE L (x.c i)).2) d (hX.later hd) hn (fun i hi d' h' => HK i hi d' (bt hd h')) h0
      rw [kindE_parts h3 he]
      have fin : ∀ (q : Bool) (o : Int), KindC nv N T x (if q = true then o else 0) (if q = true then 0 else 5) w → KindC nv N T x (if q = true then (o, (0 : Int)) else (0, 5)).1 (if q = true then (o, (0 : Int)) else (0, 5)).2 w := fun q o h => by cases q <;> exact h
      refine fin _ _ ?_
      by_cases hA : x.k ≤ 8
      · rw [show outK x.k = 2 by simp [outK]; omega, show fineK x.k x.n (fun i => (kindE L (x.c i)).1) = allB (fun i => (kindE L (x.c i)).1) 2 x.n by rw [fineK, if_pos ⟨h3, hA⟩]]
        exact kind_A nv N T x _ w hS (by omega) hn HP
      · have ho : outK x.k = 1 := by rw [outK, if_neg (by omega)]
        rw [ho]
        by_cases hB : x.k ≤ 10
        · rw [show fineK x.k x.n (fun i => (kindE L (x.c i)).1) = (decide ((kindE L (x.c 0)).1 = (kindE L (x.c 1)).1) || (decide ((kindE L (x.c 0)).1 = 0) || decide ((kindE L (x.c 1)).1 = 0))) by rw [fineK, if_neg (by omega), if_pos (by omega)]]
          exact kind_B nv N T x _ w hS (by omega) (h2 (by omega)) hn HP
        · by_cases hC : x.k ≤ 14
          · rw [show fineK x.k x.n (fun i => (kindE L (x.c i)).1) = (allB (fun i => (kindE L (x.c i)).1) 2 x.n || allB (fun i => (kindE L (x.c i)).1) 3 x.n) by rw [fineK, if_neg (by omega), if_neg (by omega), if_pos (by omega)]]
            exact kind_C nv N T x _ w hS (by omega) hn HP
          · rw [show fineK x.k x.n (fun i => (kindE L (x.c i)).1) = allB (fun i => (kindE L (x.c i)).1) 1 x.n by rw [fineK, if_neg (by omega), if_neg (by omega), if_neg (by omega)]]
            exact kind_D nv N T x _ w hS (by omega) hn HP
    · rw [kindE_err h3 (by show ¬ lexN _ _ = 0; rw [he]; exact hne)]
      show KindC nv N T x 0 (lexN _ _) w
      rw [he]
      exact kind_err nv N T x _ w h3 hne fun d hd => parts_err nv N T x (fun i => (kindE L (x.c i)).1) (fun i => (kindE L (x.c i)).2) i d (hX.later hd) hn (fun i hi d' h' => HK i hi d' (bt hd h')) hi hne h0
  rcases hr.2.2 with ⟨hk, hn0, _⟩ | ⟨hk, hn0, hnm, _⟩ | ⟨hk, hn0⟩ | ⟨h4, h14, hn0⟩ | ⟨hk, _, _⟩
  · rw [kindE_const hk hn0]
    exact kind_const nv N T x w hk
  · rw [kindE_field hk hn0]
    refine (kind_field nv N T L x w hk (name_max hnm) HF).mono ?_
    rintro e w' ⟨rfl, hB⟩
    cases L x.s x.f with
    | none => exact ⟨_, rfl, .inr (.inl ⟨rfl, .base N, rfl, rfl⟩), hB⟩
    | some q => exact ⟨_, rfl, .inl ⟨rfl, rfl⟩, hB⟩
  · exact rest (by omega) (by omega) (by omega)
  · exact rest (by omega) (by omega) (fun _ => hn0)
  · exact rest (by omega) (by omega) (by omega)
end Go.Proofs.YtahlmlbfgijcpaaGreatDoor
