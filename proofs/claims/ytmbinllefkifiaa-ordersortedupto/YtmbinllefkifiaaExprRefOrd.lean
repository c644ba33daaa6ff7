/-
  The document's Order and Same (haruspexref09), and its Order of values.
-/
import Derived.Test.YtmbinllefkifiaaExprSame
namespace Go.Proofs.Ytmbinllefkifiaa
open Go.RowKit

set_option maxHeartbeats 1000000 in
theorem refNumber_any (a b : Int) (w : World) : Calls Try.prog 26 #[.int .i64 a, .int .i64 b] w fun e w' => e = .returned (.int .i64 (cmpI a b)) ∧ w' = w := by
  rcases cmpI_cases a b with ⟨h, h1⟩ | ⟨h, h1⟩ | ⟨h, h1⟩
  · rw [h]
    have h2 : (a == b) = false := by simp; omega
    go_enter Try.func26, Try.ntmps26
    go_wp2
    go_ret
    exact ⟨rfl, rfl⟩
  · rw [h]
    have h2 : (a == b) = true := by simpa using h1
    go_enter Try.func26, Try.ntmps26
    go_wp2
    go_ret
    exact ⟨rfl, rfl⟩
  · rw [h]
    have h2 : (a == b) = false := by simp; omega
    have h3 : ¬ a < b := by omega
    go_enter Try.func26, Try.ntmps26
    go_wp2
    go_ret
    exact ⟨rfl, rfl⟩
theorem less_not {s t : ByteArray} (h : Op.bytesLess t.toList s.toList = true) : Op.bytesLess s.toList t.toList = false := by
  cases e : Op.bytesLess s.toList t.toList with
  | false => rfl
  | true => have := less_trans _ _ _ h e; rw [less_irrefl] at this; cases this
set_option maxHeartbeats 1000000 in
theorem refCompare_any (a b : ByteArray) (w : World) : Calls Try.prog 71 #[.string a, .string b] w fun e w' => e = .returned (.int .i64 (cmpS a b)) ∧ w' = w := by
  rcases cmpS_cases a b with ⟨h, h1, h2⟩ | ⟨h, h1⟩ | ⟨h, h1, h2⟩
  · rw [h]
    have h3 : (a.toList == b.toList) = false := by simpa using h2
    clear h2
    go_enter Try.func71, Try.ntmps71
    go_wp2
    go_ret
    exact ⟨rfl, rfl⟩
  · rw [h]
    have h3 : (a.toList == b.toList) = true := by simpa using h1
    clear h1
    go_enter Try.func71, Try.ntmps71
    go_wp2
    go_ret
    exact ⟨rfl, rfl⟩
  · rw [h]
    have h3 : (a.toList == b.toList) = false := by simpa using h2
    have h4 := less_not h1
    clear h2 h1
    go_enter Try.func71, Try.ntmps71
    go_wp2
    go_ret
    exact ⟨rfl, rfl⟩
theorem two_vals (w : World) (o p : Obj) : Below w.heap.size w ((w.alloc o).alloc p) := ((Below.refl _ w).alloc (Nat.le_refl _) _).alloc (by simp) _
set_option maxRecDepth 100000 in
set_option maxHeartbeats 2000000 in
theorem refV_k1 (k n : Int) (s : ByteArray) (k' n' : Int) (s' : ByteArray) (w : World) (hk : k < k') :
    Calls Try.prog 70 #[valV k n s, valV k' n' s'] w fun e w' => e = .returned (.int .i64 (-1)) ∧ Below w.heap.size w w' := by
  have e1 : (k == k') = false := by simp; omega
  go_enter Try.func70, Try.ntmps70
  go_wp2
  go_ret
  exact ⟨rfl, two_vals _ _ _⟩
set_option maxRecDepth 100000 in
set_option maxHeartbeats 2000000 in
theorem refV_k2 (k n : Int) (s : ByteArray) (k' n' : Int) (s' : ByteArray) (w : World) (hk : k' < k) :
    Calls Try.prog 70 #[valV k n s, valV k' n' s'] w fun e w' => e = .returned (.int .i64 (1)) ∧ Below w.heap.size w w' := by
  have e1 : (k == k') = false := by simp; omega
  have e2 : ¬ k < k' := by omega
  clear hk
  go_enter Try.func70, Try.ntmps70
  go_wp2
  go_ret
  exact ⟨rfl, two_vals _ _ _⟩
set_option maxRecDepth 100000 in
set_option maxHeartbeats 2000000 in
theorem refV_n1 (k n : Int) (s : ByteArray) (k' n' : Int) (s' : ByteArray) (w : World) (hk : k = k') (hn : n < n') :
    Calls Try.prog 70 #[valV k n s, valV k' n' s'] w fun e w' => e = .returned (.int .i64 (-1)) ∧ Below w.heap.size w w' := by
  subst hk
  have e3 : (n == n') = false := by simp; omega
  go_enter Try.func70, Try.ntmps70
  go_wp2
  go_ret
  exact ⟨rfl, two_vals _ _ _⟩
set_option maxRecDepth 100000 in
set_option maxHeartbeats 2000000 in
theorem refV_n2 (k n : Int) (s : ByteArray) (k' n' : Int) (s' : ByteArray) (w : World) (hk : k = k') (hn : n' < n) :
    Calls Try.prog 70 #[valV k n s, valV k' n' s'] w fun e w' => e = .returned (.int .i64 (1)) ∧ Below w.heap.size w w' := by
  subst hk
  have e3 : (n == n') = false := by simp; omega
  have e4 : ¬ n < n' := by omega
  clear hn
  go_enter Try.func70, Try.ntmps70
  go_wp2
  go_ret
  exact ⟨rfl, two_vals _ _ _⟩
set_option maxRecDepth 100000 in
set_option maxHeartbeats 2000000 in
theorem refV_s1 (k n : Int) (s : ByteArray) (k' n' : Int) (s' : ByteArray) (w : World) (hk : k = k') (hn : n = n') (hs : cmpS s s' = -1) :
    Calls Try.prog 70 #[valV k n s, valV k' n' s'] w fun e w' => e = .returned (.int .i64 (-1)) ∧ Below w.heap.size w w' := by
  subst hk
  subst hn
  rcases cmpS_cases s s' with ⟨h, h1, h2⟩ | ⟨h, h1⟩ | ⟨h, h1, h2⟩ <;> first | omega | skip
  have e5 : (s.toList == s'.toList) = false := by simpa using h2
  clear h2 hs h
  go_enter Try.func70, Try.ntmps70
  go_wp2
  go_ret
  exact ⟨rfl, two_vals _ _ _⟩
set_option maxRecDepth 100000 in
set_option maxHeartbeats 2000000 in
theorem refV_s0 (k n : Int) (s : ByteArray) (k' n' : Int) (s' : ByteArray) (w : World) (hk : k = k') (hn : n = n') (hs : cmpS s s' = 0) :
    Calls Try.prog 70 #[valV k n s, valV k' n' s'] w fun e w' => e = .returned (.int .i64 (0)) ∧ Below w.heap.size w w' := by
  subst hk
  subst hn
  rcases cmpS_cases s s' with ⟨h, h1, h2⟩ | ⟨h, h1⟩ | ⟨h, h1, h2⟩ <;> first | omega | skip
  have e5 : (s.toList == s'.toList) = true := by simpa using h1
  clear h1 hs h
  go_enter Try.func70, Try.ntmps70
  go_wp2
  go_ret
  exact ⟨rfl, two_vals _ _ _⟩
set_option maxRecDepth 100000 in
set_option maxHeartbeats 2000000 in
theorem refV_s2 (k n : Int) (s : ByteArray) (k' n' : Int) (s' : ByteArray) (w : World) (hk : k = k') (hn : n = n') (hs : cmpS s s' = 1) :
    Calls Try.prog 70 #[valV k n s, valV k' n' s'] w fun e w' => e = .returned (.int .i64 (1)) ∧ Below w.heap.size w w' := by
  subst hk
  subst hn
  rcases cmpS_cases s s' with ⟨h, h1, h2⟩ | ⟨h, h1⟩ | ⟨h, h1, h2⟩ <;> first | omega | skip
  have e5 : (s.toList == s'.toList) = false := by simpa using h2
  have e6 := less_not h1
  clear h2 hs h h1
  go_enter Try.func70, Try.ntmps70
  go_wp2
  go_ret
  exact ⟨rfl, two_vals _ _ _⟩
theorem refV_any (k n : Int) (s : ByteArray) (k' n' : Int) (s' : ByteArray) (w : World) :
    Calls Try.prog 70 #[valV k n s, valV k' n' s'] w fun e w' => e = .returned (.int .i64 (ordZ k n s k' n' s')) ∧ Below w.heap.size w w' := by
  have e : ordZ k n s k' n' s' = orI (cmpI k k') (orI (cmpI n n') (cmpS s s')) := ordV_eq ⟨k, n, s⟩ ⟨k', n', s'⟩
  rw [e]
  unfold orI
  rcases cmpI_cases k k' with ⟨h, h1⟩ | ⟨h, h1⟩ | ⟨h, h1⟩
  · rw [h, if_neg (by omega)]; exact refV_k1 k n s k' n' s' w h1
  · rw [h, if_pos rfl]
    rcases cmpI_cases n n' with ⟨g, g1⟩ | ⟨g, g1⟩ | ⟨g, g1⟩
    · rw [g, if_neg (by omega)]; exact refV_n1 k n s k' n' s' w h1 g1
    · rw [g, if_pos rfl]
      rcases cmpS_cases s s' with ⟨f, -⟩ | ⟨f, -⟩ | ⟨f, -⟩
      · rw [f]; exact refV_s1 k n s k' n' s' w h1 g1 f
      · rw [f]; exact refV_s0 k n s k' n' s' w h1 g1 f
      · rw [f]; exact refV_s2 k n s k' n' s' w h1 g1 f
    · rw [g, if_neg (by omega)]; exact refV_n2 k n s k' n' s' w h1 g1
  · rw [h, if_neg (by omega)]; exact refV_k2 k n s k' n' s' w h1
end Go.Proofs.Ytmbinllefkifiaa
