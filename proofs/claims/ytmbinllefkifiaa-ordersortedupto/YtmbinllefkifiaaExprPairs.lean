/-
  expr.pairs and expr.Order.
-/
import Derived.Test.YtmbinllefkifiaaExprLight
import Derived.Test.YtmbinllefkifiaaExprAlone
namespace Go.Proofs.Ytmbinllefkifiaa
open Go.RowKit Go.Shelf
attribute [local go_sem] Oper.semAt_some

abbrev downP (By Bd : Nat) : Value := .func (.func 87) #[] #[.pointer (some ⟨By, 0, none⟩), .pointer (some ⟨Bd, 0, none⟩)]

set_option maxRecDepth 100000 in
set_option maxHeartbeats 4000000 in
theorem downTwo_any {ι : Type} (l By Bd : Nat) (kids : ι → Nat) (kid : ι → Nat → ι) (rank : ι → Nat)
    (Pre : ι → Nat → Nat → Nat → Nat → World → Prop) (Mid : ι → Nat → Nat → Nat → Nat → World → Option Addr → Nat → Option Addr → Nat → Nat → World → Prop) (Post Stop : ι → Nat → Nat → Nat → Nat → World → World → Prop)
    (hrank : ∀ v i, i < kids v → rank (kid v i) < rank v)
    (hP : ∀ v b o b' o' W, Pre v b o b' o' W → W.cell? ⟨By, 0, none⟩ = some (.func (.yield l) #[] #[]))
    (hY : ∀ v b o b' o' W, Pre v b o b' o' W → YieldAt Fence.wide 0 Try.prog l #[.pointer (some ⟨b, o, none⟩), .pointer (some ⟨b', o', none⟩)] W fun e W' =>
      (e = .returned (.bool true) ∧ ∃ a cap a' cap', Mid v b o b' o' W a cap a' cap' 0 W'.drew) ∨ (e = .returned (.bool false) ∧ Stop v b o b' o' W W'))
    (hL : ∀ v b o b' o' W a cap a' cap' i Wi, Mid v b o b' o' W a cap a' cap' i Wi → kids v ≤ 9223372036854775807 ∧ Wi.cell? ⟨b, o + 6, none⟩ = some (.slice a (kids v) cap) ∧ Wi.cell? ⟨b', o' + 6, none⟩ = some (.slice a' (kids v) cap') ∧ Wi.cell? ⟨Bd, 0, none⟩ = some (downP By Bd))
    (hC : ∀ v b o b' o' W a cap a' cap' i Wi, Mid v b o b' o' W a cap a' cap' i Wi → i < kids v → ∃ c p c' p', a = some ⟨c, p, none⟩ ∧ a' = some ⟨c', p', none⟩ ∧ Pre (kid v i) c (p + i * 7) c' (p' + i * 7) Wi.drew ∧
      (∀ W', Post (kid v i) c (p + i * 7) c' (p' + i * 7) Wi.drew W' → Mid v b o b' o' W a cap a' cap' (i + 1) W') ∧ (∀ W', Stop (kid v i) c (p + i * 7) c' (p' + i * 7) Wi.drew W' → Stop v b o b' o' W W'))
    (hE : ∀ v b o b' o' W a cap a' cap' Wi, Mid v b o b' o' W a cap a' cap' (kids v) Wi → Post v b o b' o' W Wi) :
    ∀ (r : Nat) (v : ι), rank v < r → ∀ (n b o b' o' : Nat) (W : World), Pre v b o b' o' W →
      CallsIn Fence.wide n Try.prog 87 #[.pointer (some ⟨b, o, none⟩), .pointer (some ⟨b', o', none⟩), .pointer (some ⟨By, 0, none⟩), .pointer (some ⟨Bd, 0, none⟩)] W fun e W' =>
        (e = .returned (.bool true) ∧ Post v b o b' o' W W') ∨ (e = .returned (.bool false) ∧ Stop v b o b' o' W W') := by
  intro r
  induction r with
  | zero => intro v h; omega
  | succ r ih =>
    intro v hv n b o b' o' W hpre
    have hdd : ∀ k : Nat, (Fence.wide.depth.isSome = true → 1 ≤ k) := fun k h => by cases h
    have hby := hP v b o b' o' W hpre
    obtain ⟨fn, tmps, assign, body, hy, hR⟩ := yield_wide (n - 1) (hY v b o b' o' W hpre)
    refine callsIn_of_wp Try.func87 rfl trivial ?_ rfl
    simp only [Try.ntmps87, List.size_toArray, List.length_cons, List.length_nil, Nat.reduceAdd, Nat.reduceSub, Array.replicate_succ, Array.replicate_zero, List.push_toArray, List.append_toArray, List.nil_append, List.cons_append]
    gi_wp2_with (first
      | ((try refine ⟨hdd _, ?_⟩); refine hR.mono ?_; clear hR; rintro e W1 (⟨rfl, a, cap, a', cap', hm⟩ | ⟨rfl, hs⟩)))
    · obtain ⟨hn1, hc6, hc6', hcd⟩ := hL v b o b' o' W a cap a' cap' 0 W1.drew hm
      have hm1 : min (kids v : Int) (kids v : Int) = kids v := by omega
      have d6 : W1.cell? ⟨b, o + 6, none⟩ = some (.slice a (kids v) cap) := hc6
      have d6' : W1.cell? ⟨b', o' + 6, none⟩ = some (.slice a' (kids v) cap') := hc6'
      gi_region
      all_goals gi_wp2
      gi_loopw [24] (fun u wr => ∃ i : Nat, i ≤ kids v ∧ u = .int .i64 i ∧ Mid v b o b' o' W a cap a' cap' i wr) (fun u _ => kids v - (intOf u).toNat)
      case atStart => exact ⟨0, Nat.zero_le _, rfl, hm⟩
      case round =>
        obtain ⟨i, hi, rfl, hmi⟩ := hrel
        obtain ⟨-, hc6i, hc6i', hcdi⟩ := hL v b o b' o' W a cap a' cap' i wr hmi
        by_cases hin : i < kids v
        · obtain ⟨c, p, c', p', rfl, rfl, hp', hpost, hstop⟩ := hC v b o b' o' W a cap a' cap' i wr hmi hin
          have ihc := (ih (kid v i) (by have := hrank v i hin; omega) (n - 1) c (p + i * 7) c' (p' + i * 7) wr.drew hp').mono (R' := fun e W2 => ∃ r, e = .returned (.bool r) ∧ ((r = true ∧ Mid v b o b' o' W (some ⟨c, p, none⟩) cap (some ⟨c', p', none⟩) cap' (i + 1) W2) ∨ (r = false ∧ Stop v b o b' o' W W2)))
            (fun e W2 h => h.elim (fun h => ⟨true, h.1, .inl ⟨rfl, hpost W2 h.2⟩⟩) (fun h => ⟨false, h.1, .inr ⟨rfl, hstop W2 h.2⟩⟩))
          clear ih hpost hstop
          have HQ : Hid (i < kids v) := hin
          gi_wp2
          gi_region_with ((refine ⟨trivial, hdd _, ?_⟩; gi_at_call 87; refine ihc.mono ?_; clear ihc; rintro e W2 ⟨r, rfl, hj⟩))
          all_goals (rcases hj with ⟨rfl, hj⟩ | ⟨rfl, hj⟩)
          all_goals gi_wp2
          all_goals first
            | (go_ret; exact .inr ⟨rfl, hj⟩)
            | exact ⟨⟨i + 1, HQ.out, by simp, hj⟩, by have := HQ.out; simp [intOf]; omega⟩
        · have hin' : i = kids v := by omega
          subst hin'
          gi_wp2
          go_ret
          exact .inl ⟨rfl, hE _ _ _ _ _ _ _ _ _ _ _ hmi⟩
    · gi_wp2
      go_ret
      exact .inr ⟨rfl, hs⟩

set_option maxRecDepth 100000 in
set_option maxHeartbeats 1000000 in
theorem pairs_in (n : Nat) (p q : Option Addr) (w : World) :
    CallsIn Fence.wide n Try.prog 65 #[.pointer p, .pointer q] w fun e w' => e = .returned (.func (.func 86) #[] #[.pointer (some ⟨w.heap.size, 0, none⟩), .pointer (some ⟨w.heap.size + 1, 0, none⟩)]) ∧ w' = (w.alloc (.cells #[.pointer p] 82)).alloc (.cells #[.pointer q] 82) := by
  refine callsIn_of_wp Try.func65 rfl trivial ?_ rfl
  simp only [Try.ntmps65, List.size_toArray, List.length_cons, List.length_nil, Nat.reduceAdd, Nat.reduceSub, Array.replicate_succ, Array.replicate_zero, List.push_toArray, List.append_toArray, List.nil_append, List.cons_append]
  gi_wp2
  go_ret
  exact ⟨rfl, rfl⟩

set_option maxRecDepth 100000 in
set_option maxHeartbeats 2000000 in
theorem pairs1_in (n l Bp b o Bq b' o' : Nat) (W : World) (R : Ending → World → Prop) (hBp : W.cell? ⟨Bp, 0, none⟩ = some (.pointer (some ⟨b, o, none⟩))) (hBq : W.cell? ⟨Bq, 0, none⟩ = some (.pointer (some ⟨b', o', none⟩)))
    (hdown : ∀ W2, Boxed W2 W.heap.size 105 (.func (.yield l) #[] #[]) → Boxed W2 (W.heap.size + 1) 105 (downP W.heap.size (W.heap.size + 1)) → Below W.heap.size W W2 → W2.heap.size = W.heap.size + 2 →
      CallsIn Fence.wide (n - 1) Try.prog 87 #[.pointer (some ⟨b, o, none⟩), .pointer (some ⟨b', o', none⟩), .pointer (some ⟨W.heap.size, 0, none⟩), .pointer (some ⟨W.heap.size + 1, 0, none⟩)] W2 fun e W' => ∃ r, e = .returned (.bool r) ∧ R (.returned (.bool r)) W') :
    CallsIn Fence.wide n Try.prog 86 #[.func (.yield l) #[] #[], .pointer (some ⟨Bp, 0, none⟩), .pointer (some ⟨Bq, 0, none⟩)] W fun e W' => (∃ v, e = .returned v) ∧ ∃ r, R (.returned (.bool r)) W' := by
  have hdd : ∀ k : Nat, (Fence.wide.depth.isSome = true → 1 ≤ k) := fun k h => by cases h
  have h1 : Boxed (W.alloc (.cells #[.func (.yield l) #[] #[]] 105)) W.heap.size 105 (.func (.yield l) #[] #[]) := Boxed.new _ _ _
  have hlt : Bp < W.heap.size := by
    obtain ⟨ob, ho, -⟩ := cells_of_cell hBp
    exact (Array.getElem?_eq_some_iff.1 ho).1
  have hlt' : Bq < W.heap.size := by
    obtain ⟨ob, ho, -⟩ := cells_of_cell hBq
    exact (Array.getElem?_eq_some_iff.1 ho).1
  obtain ⟨A, hA⟩ : ∃ A, (W.alloc (.cells #[.func (.yield l) #[] #[]] 105)).alloc (.cells #[.nilFunc] 105) = A := ⟨_, rfl⟩
  have b1 : Boxed A W.heap.size 105 (.func (.yield l) #[] #[]) := hA ▸ h1.alloc _
  have b2 : Boxed A (W.heap.size + 1) 105 .nilFunc := by
    have := Boxed.new (W.alloc (.cells #[.func (.yield l) #[] #[]] 105)) 105 .nilFunc
    rw [World.size_alloc, hA] at this
    exact this
  have hB : Below W.heap.size W A := by rw [← hA]; exact ((Below.refl _ W).alloc (Nat.le_refl _) _).alloc (by simp) _
  have hsz : A.heap.size = W.heap.size + 2 := by rw [← hA]; simp
  have c2 := b2.cell
  have f2 := b2.frozen
  have b3 := b2.set (downP W.heap.size (W.heap.size + 1))
  have b4 := b1.other (show W.heap.size ≠ W.heap.size + 1 by omega) (downP W.heap.size (W.heap.size + 1))
  have hB3 : Below W.heap.size W (A.setCell ⟨W.heap.size + 1, 0, none⟩ (downP W.heap.size (W.heap.size + 1))) := hB.setCell (p := ⟨W.heap.size + 1, 0, none⟩) (by simp) _
  have c3 := b3.cell
  have cp := (hB3.cell (p := ⟨Bp, 0, none⟩) hlt).trans hBp
  have cq := (hB3.cell (p := ⟨Bq, 0, none⟩) hlt').trans hBq
  have hd := hdown _ b4 b3 hB3 (by rw [World.size_setCell]; exact hsz)
  clear hdown
  refine callsIn_of_wp Try.func86 rfl trivial ?_ rfl
  simp only [Try.ntmps86, List.size_toArray, List.length_cons, List.length_nil, Nat.reduceAdd, Nat.reduceSub, Array.replicate_succ, Array.replicate_zero, List.push_toArray, List.append_toArray, List.nil_append, List.cons_append]
  gi_wp2_with (refine ⟨trivial, hdd _, ?_⟩; gi_at_call 87; refine hd.mono ?_; rintro e W3 ⟨r, rfl, hr⟩)
  go_end0
  exact ⟨⟨_, rfl⟩, _, hr⟩

end Go.Proofs.Ytmbinllefkifiaa
