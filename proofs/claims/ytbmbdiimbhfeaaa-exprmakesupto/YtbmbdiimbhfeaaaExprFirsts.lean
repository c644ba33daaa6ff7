/-
  expr.firsts: each name's first place.
-/
import Derived.Test.YtbmbdiimbhfeaaaExprBack
import Derived.Maps.OwnSet
import Derived.Maps.OwnIn
import Derived.Maps.Views
namespace Go.Proofs.Ytbmbdiimbhfeaaa
open Go.RowKit Go.Shelf Go.Maps Go.WideMaps
attribute [local go_sem] Oper.semAt_some

theorem str_law : Keyed Try.prog 9 := string_keyed Try.underlying9
/-- A name as a key. -/
abbrev keyS (s : ByteArray) : Lit := .string s.data.toList
theorem keyS_ne {s t : ByteArray} (h : ¬ s = t) : keyS s ≠ keyS t := by
  intro e
  injection e with e
  exact h (ByteArray.ext (Array.ext' e))
abbrev zeroI : DataW Unit := .lit (.int .i64 0)
/-- What the map tells of the names from the i-th on: each one's first place. -/
structure Firsts (S : Nat → ByteArray) (n i : Nat) (D : DataW Unit) : Prop where
  hit : ∀ j, i ≤ j → j < n → (∀ j', i ≤ j' → j' < j → S j' ≠ S j) → Maps.has D (keyS (S j)) = true ∧ D.atKey (keyS (S j)) zeroI = .lit (.int .i64 j)
  miss : ∀ s, (∀ j, i ≤ j → j < n → S j ≠ s) → Maps.has D (keyS s) = false
theorem firsts_none (S : Nat → ByteArray) (n : Nat) : Firsts S n n (.map []) := ⟨fun j h1 h2 => by omega, fun _ _ => rfl⟩
theorem Firsts.more {S : Nat → ByteArray} {n i : Nat} {D : DataW Unit} (h : Firsts S n (i + 1) D) (hm : IsMap D) (hi : i < n) : Firsts S n i (D.put (keyS (S i)) (.lit (.int .i64 i))) := by
  refine ⟨fun j h1 h2 h3 => ?_, fun s hs => ?_⟩
  · by_cases e : j = i
    · subst e
      exact ⟨has_put_same hm (by simp [WideAt.IsKeyLit]) _, atKey_put_same hm (by simp [WideAt.IsKeyLit]) _ _⟩
    · have hne : S i ≠ S j := h3 i (Nat.le_refl _) (by omega)
      obtain ⟨q1, q2⟩ := h.hit j (by omega) h2 fun j' h4 h5 => h3 j' (by omega) h5
      rw [has_put_other (keyS_ne fun q => hne q.symm), atKey_put_other (keyS_ne fun q => hne q.symm)]
      exact ⟨q1, q2⟩
  · have hne : S i ≠ s := hs i (Nat.le_refl _) hi
    rw [has_put_other (keyS_ne fun q => hne q.symm)]
    exact h.miss s fun j h1 h2 => hs j (by omega) h2
theorem ownsMap_ag {B : Nat} {W A : World} (h : Ag B W A) {b n : Nat} {D : DataW Unit} (hb : b < B) (ho : W.ownsMap Try.prog 9 (plainElem (H := Unit) Try.prog 3) b n D) : A.ownsMap Try.prog 9 (plainElem (H := Unit) Try.prog 3) b n D := by
  obtain ⟨es, clock, h1, h2⟩ := ho
  exact ⟨es, clock, (h.low b hb).trans h1, h2⟩
theorem ownsMap_below {B : Nat} {W A : World} (h : Below B W A) {b n : Nat} {D : DataW Unit} (hb : b < B) (ho : W.ownsMap Try.prog 9 (plainElem (H := Unit) Try.prog 3) b n D) : A.ownsMap Try.prog 9 (plainElem (H := Unit) Try.prog 3) b n D := by
  obtain ⟨es, clock, h1, h2⟩ := ho
  exact ⟨es, clock, (h.block b hb).trans h1, h2⟩
set_option maxRecDepth 100000 in
set_option maxHeartbeats 4000000 in
theorem firsts_in (n : Nat) (a : Option Addr) (m cap : Nat) (S : Nat → ByteArray) (w : World) (hx : Txs w a m S) (hm : m ≤ 1048576) (hs : ∀ j, j < m → (S j).size ≤ maxLen) :
    CallsIn Fence.wide n Try.prog 37 #[.slice a m cap] w fun e w' => e = .returned (.map (some w.heap.size)) ∧ (∃ D, w'.ownsMap Try.prog 9 (plainElem (H := Unit) Try.prog 3) w.heap.size m D ∧ Firsts S m 0 D) ∧ Below w.heap.size w w' := by
  have hdd : ∀ k : Nat, (Fence.wide.depth.isSome = true → 1 ≤ k) := fun k h => by cases h
  have hmm := @run_makeMap Try.prog
  refine callsIn_of_wp_marks Try.func37 rfl trivial ?_ rfl
  simp only [Try.ntmps37, List.size_toArray, List.length_cons, List.length_nil, Nat.reduceAdd, Nat.reduceSub, Array.replicate_succ, Array.replicate_zero, List.push_toArray, List.append_toArray, List.nil_append, List.cons_append]
  gi_wp2_with (refine ⟨trivial, hdd _, ?_⟩; gi_at_call 58; refine (backward_in _ _ _ _ _).mono ?_; rintro e w' ⟨rfl, rfl⟩)
  obtain ⟨A, hA⟩ : ∃ A, (((w.alloc (.map #[] 0)).alloc (.cells #[.map (some w.heap.size)] 59)).alloc (.cells #[.slice a m cap] 35)) = A := ⟨_, rfl⟩
  have hsz : A.heap.size = w.heap.size + 3 := by rw [← hA]; simp
  have hB : Below w.heap.size w A := by rw [← hA]; exact (((Below.refl _ w).alloc (Nat.le_refl _) _).alloc (by simp) _).alloc (by simp; omega) _
  have hbm : Boxed A (w.heap.size + 1) 59 (.map (some w.heap.size)) := by
    have := (Boxed.new (w.alloc (.map #[] 0)) 59 (.map (some w.heap.size))).alloc (.cells #[.slice a m cap] 35)
    rw [World.size_alloc, hA] at this
    exact this
  have hbs : Boxed A (w.heap.size + 1 + 1) 35 (.slice a m cap) := by
    have := Boxed.new ((w.alloc (.map #[] 0)).alloc (.cells #[.map (some w.heap.size)] 59)) 35 (.slice a m cap)
    rw [World.size_alloc, World.size_alloc, hA] at this
    exact this
  have hown : A.ownsMap Try.prog 9 (plainElem (H := Unit) Try.prog 3) w.heap.size 0 (.map []) := by
    rw [← hA]
    exact ((World.ownsMap_made w _ _ _).alloc _).alloc _
  rw [hA]
  refine back_fold (w.heap.size + 1 + 1) a m cap S (fun k W => (∃ D, W.ownsMap Try.prog 9 (plainElem (H := Unit) Try.prog 3) w.heap.size (m - k) D ∧ Hid (Firsts S m k D)) ∧ Boxed W (w.heap.size + 1) 59 (.map (some w.heap.size)) ∧ Below w.heap.size w W)
    rfl rfl hbs (hx.later hB) hm ?_ ?_
    (fun k => { tmps := #[.slice a m cap, undef, .map none, .pointer (some ⟨w.heap.size + 1, 0, none⟩), .int .i64 k, .string (S k), .map (some w.heap.size), .slice a m cap, .func (.func 82) #[] #[.pointer (some ⟨w.heap.size + 1 + 1, 0, none⟩)], .int .i64 k, .string (S k), undef, undef, undef, undef], defers := [] }) ?_ ?_ ?_
  · rintro k W B hag ⟨⟨D, h1, h2⟩, h3, h4⟩
    exact ⟨⟨D, ownsMap_ag hag (by omega) h1, h2⟩, hag.boxed h3, hag.below (by omega) h4⟩
  · exact fun W h => ⟨⟨_, (ownsMap_below h (by omega) hown).mono (Nat.zero_le _), firsts_none S m⟩, Boxed.kept_of hbm h (by omega), hB.trans (h.mono (by omega))⟩
  · intro l k W K hK
    gi_wp2
    first | exact hK | simpa using hK
  · rintro l k W hk ⟨⟨D, h1, h2⟩, h3, h4⟩ hs2
    have c1 := h3.cell
    have HS : Hid ((S k).size ≤ maxLen) := hs k hk
    have hkey : keyOf Try.prog 9 (.string (S k)) = some (keyS (S k)) := keyOf_string_mk Try.underlying9 HS.out
    gi_wp2_with (first
      | (gi_at_mapUpdate; refine wpListIn_mapUpdate_own _ rfl _ _ _ 59 rfl 9 3 str_law Try.underlying59 (plainElem (H := Unit) Try.prog 3) w.heap.size (m - (k + 1)) _ rfl h1 (by unfold maxLen; omega) _ _ _ rfl rfl hkey _ [] (plainElem_int Try.underlying3 (WalkArith.wf_i64 (by omega))) ?_; intro w1 hown1 hgrow1)
      | gi_in)
    have hmap : ∀ (k' : Nat) (o : Obj), o.isCells = true → W.heap[k']? = some o → w1.heap[k']? = some o := fun k' o ho e => by
      refine (hgrow1.block k' (Array.getElem?_eq_some_iff.1 e).1 fun q => ?_).trans e
      injection q with q
      subst q
      obtain ⟨es, clock, e1, _⟩ := h1
      rw [e1] at e
      cases e
      cases ho
    refine ⟨⟨hgrow1.size, fun k' o hk' ho _ => (hgrow1.block k' (Array.getElem?_eq_some_iff.1 ho).1 fun q => ?_).trans ho⟩, fun k' o _ ho e => hmap k' o ho e, ⟨_, hown1.mono (by omega), h2.out.more h1.isMap hk⟩, hmap _ _ rfl h3, h4.grown hgrow1 h4.size (fun j hj => by cases hj; exact Nat.le_refl _)⟩
    injection q with q
    omega
  · rintro D W hD ⟨⟨E, h1, h2⟩, h3, h4⟩ hK
    have c1 := h3.cell
    gi_wp2
    refine ⟨by simp, .inl ⟨_, _, rfl, run_takeDeferred hK, ?_⟩⟩
    have hbk := belowK_b (w := A) (n₀ := A.heap.size) (Nat.le_refl _) W D _ (.deferred none) hD hK rfl rfl
    exact ⟨_, results_tmp rfl _ _ _, rfl, ⟨E, (ownsMap_below hbk (by omega) h1).mono (by omega), h2.out⟩, h4.trans (hbk.mono (by omega))⟩
theorem firsts_any (a : Option Addr) (m cap : Nat) (S : Nat → ByteArray) (w : World) (hx : Txs w a m S) (hm : m ≤ 1048576) (hs : ∀ j, j < m → (S j).size ≤ maxLen) :
    Calls Try.prog 37 #[.slice a m cap] w fun e w' => e = .returned (.map (some w.heap.size)) ∧ (∃ D, w'.ownsMap Try.prog 9 (plainElem (H := Unit) Try.prog 3) w.heap.size m D ∧ Firsts S m 0 D) ∧ Below w.heap.size w w' :=
  (callsIn_wide (n := 3)).1 (firsts_in 3 a m cap S w hx hm hs)
end Go.Proofs.Ytbmbdiimbhfeaaa
