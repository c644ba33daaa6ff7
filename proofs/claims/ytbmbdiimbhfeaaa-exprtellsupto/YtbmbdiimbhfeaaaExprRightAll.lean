/-
  expr.right at any node.
-/
import Derived.Test.YtbmbdiimbhfeaaaExprRightPartsA
import Derived.Test.YtbmbdiimbhfeaaaExprRightPartsB
import Derived.Test.YtbmbdiimbhfeaaaExprRightPartsC
import Derived.Test.YtbmbdiimbhfeaaaExprRightPartsD
import Derived.Test.YtbmbdiimbhfeaaaExprRightMany
namespace Go.Proofs.Ytbmbdiimbhfeaaa
open Go.RowKit

theorem ret_iff {w : World} {f : Nat} {args : Array Value} {r : Bool} {P : Prop} (h : Calls Try.prog f args w fun e w' => e = .returned (.bool r) ∧ Below w.heap.size w w') (hr : r = true ↔ P) :
    Calls Try.prog f args w fun e w' => ∃ r, e = .returned (.bool r) ∧ (r = true ↔ P) ∧ Below w.heap.size w w' :=
  h.mono fun _ _ ⟨h1, h2⟩ => ⟨r, h1, hr, h2⟩
theorem rightX_any (b o : Nat) (y : X) (w : World) (hN : Node w b o y) (hY : IsX w y) :
    Calls Try.prog 27 #[.pointer (some ⟨b, o, none⟩)] w fun e w' => ∃ r, e = .returned (.bool r) ∧ (r = true ↔ NodeR y) ∧ Below w.heap.size w w' := by
  by_cases h1 : y.k = 1
  · have e : ownC y = X.mk 1 y.v ⟨#[]⟩ ⟨#[]⟩ none 0 0 (fun _ => .nil) := by unfold ownC; rw [h1]
    cases hr : rightB y.v.k y.v.n y.v.s with
    | true => exact ret_iff (right_C_true b o y w hN h1 hr) (by rw [nodeR_C y h1, e, hr]; simp)
    | false => exact ret_iff (right_C_false b o y w hN h1 hr) (by rw [nodeR_C y h1, hr]; simp)
  by_cases h2 : y.k = 2
  · have e : ownF y = X.mk 2 val0 y.s y.f none 0 0 (fun _ => .nil) := by unfold ownF; rw [h2]
    cases hs : nameB y.s with
    | false => exact ret_iff (right_F_false b o y w hN h2 hs) (by rw [nodeR_F y h2, hs]; simp)
    | true =>
      cases hf : nameB y.f with
      | false => exact ret_iff (right_F_tfalse b o y w hN h2 hs hf) (by rw [nodeR_F y h2, hf]; simp)
      | true => exact ret_iff (right_F_ttrue b o y w hN h2 hs hf) (by rw [nodeR_F y h2, e, hs, hf]; simp)
  have e : ∀ k : Int, y.k = k → ownP y = X.mk k val0 ⟨#[]⟩ ⟨#[]⟩ y.a y.n y.cap y.c := fun k hk => by unfold ownP; rw [hk]
  by_cases h3 : y.k = 3
  · by_cases hn : y.n = 1
    · exact ret_iff (right_3_t b o y w hN h3 hn) (by rw [nodeR_one y (by omega), e _ h3]; simp [hn])
    · exact ret_iff (right_3_f b o y w hN h3 hn) (by rw [nodeR_one y (by omega)]; simp [hn])
  by_cases h15 : y.k = 15
  · by_cases hn : y.n = 1
    · exact ret_iff (right_15_t b o y w hN h15 hn) (by rw [nodeR_one y (by omega), e _ h15]; simp [hn])
    · exact ret_iff (right_15_f b o y w hN h15 hn) (by rw [nodeR_one y (by omega)]; simp [hn])
  by_cases h4 : y.k = 4
  · by_cases hn : y.n = 2
    · exact ret_iff (right_4_t b o y w hN h4 hn) (by rw [nodeR_two y (by omega), e _ h4]; simp [hn])
    · exact ret_iff (right_4_f b o y w hN h4 hn) (by rw [nodeR_two y (by omega)]; simp [hn])
  by_cases h5 : y.k = 5
  · by_cases hn : y.n = 2
    · exact ret_iff (right_5_t b o y w hN h5 hn) (by rw [nodeR_two y (by omega), e _ h5]; simp [hn])
    · exact ret_iff (right_5_f b o y w hN h5 hn) (by rw [nodeR_two y (by omega)]; simp [hn])
  by_cases h6 : y.k = 6
  · by_cases hn : y.n = 2
    · exact ret_iff (right_6_t b o y w hN h6 hn) (by rw [nodeR_two y (by omega), e _ h6]; simp [hn])
    · exact ret_iff (right_6_f b o y w hN h6 hn) (by rw [nodeR_two y (by omega)]; simp [hn])
  by_cases h7 : y.k = 7
  · by_cases hn : y.n = 2
    · exact ret_iff (right_7_t b o y w hN h7 hn) (by rw [nodeR_two y (by omega), e _ h7]; simp [hn])
    · exact ret_iff (right_7_f b o y w hN h7 hn) (by rw [nodeR_two y (by omega)]; simp [hn])
  by_cases h8 : y.k = 8
  · by_cases hn : y.n = 2
    · exact ret_iff (right_8_t b o y w hN h8 hn) (by rw [nodeR_two y (by omega), e _ h8]; simp [hn])
    · exact ret_iff (right_8_f b o y w hN h8 hn) (by rw [nodeR_two y (by omega)]; simp [hn])
  by_cases h9 : y.k = 9
  · by_cases hn : y.n = 2
    · exact ret_iff (right_9_t b o y w hN h9 hn) (by rw [nodeR_two y (by omega), e _ h9]; simp [hn])
    · exact ret_iff (right_9_f b o y w hN h9 hn) (by rw [nodeR_two y (by omega)]; simp [hn])
  by_cases h10 : y.k = 10
  · by_cases hn : y.n = 2
    · exact ret_iff (right_10_t b o y w hN h10 hn) (by rw [nodeR_two y (by omega), e _ h10]; simp [hn])
    · exact ret_iff (right_10_f b o y w hN h10 hn) (by rw [nodeR_two y (by omega)]; simp [hn])
  by_cases h11 : y.k = 11
  · by_cases hn : y.n = 2
    · exact ret_iff (right_11_t b o y w hN h11 hn) (by rw [nodeR_two y (by omega), e _ h11]; simp [hn])
    · exact ret_iff (right_11_f b o y w hN h11 hn) (by rw [nodeR_two y (by omega)]; simp [hn])
  by_cases h12 : y.k = 12
  · by_cases hn : y.n = 2
    · exact ret_iff (right_12_t b o y w hN h12 hn) (by rw [nodeR_two y (by omega), e _ h12]; simp [hn])
    · exact ret_iff (right_12_f b o y w hN h12 hn) (by rw [nodeR_two y (by omega)]; simp [hn])
  by_cases h13 : y.k = 13
  · by_cases hn : y.n = 2
    · exact ret_iff (right_13_t b o y w hN h13 hn) (by rw [nodeR_two y (by omega), e _ h13]; simp [hn])
    · exact ret_iff (right_13_f b o y w hN h13 hn) (by rw [nodeR_two y (by omega)]; simp [hn])
  by_cases h14 : y.k = 14
  · by_cases hn : y.n = 2
    · exact ret_iff (right_14_t b o y w hN h14 hn) (by rw [nodeR_two y (by omega), e _ h14]; simp [hn])
    · exact ret_iff (right_14_f b o y w hN h14 hn) (by rw [nodeR_two y (by omega)]; simp [hn])
  by_cases h16 : y.k = 16
  · by_cases hn : 2 ≤ y.n
    · by_cases hx : ∃ i, i < y.n ∧ (y.c i).k = y.k
      · refine ret_iff (right_16_true b o y w hN hY h16 hn hx) ⟨fun h => (by cases h), fun h => ?_⟩
        obtain ⟨i, hi, he⟩ := hx
        exact absurd he (((nodeR_many y (by omega)).1 h).1.2 i hi)
      · refine ret_iff (right_16_false b o y w hN hY h16 hn hx) ?_
        rw [nodeR_many y (by omega), e _ h16]
        constructor
        · intro h
          exact ⟨⟨hn, fun i hi he => hx ⟨i, hi, he⟩⟩, by simpa using h⟩
        · intro h
          simpa using h.2
    · exact ret_iff (right_16_few b o y w hN h16 hn) ⟨fun h => (by cases h), fun h => absurd ((nodeR_many y (by omega)).1 h).1.1 hn⟩
  by_cases h17 : y.k = 17
  · by_cases hn : 2 ≤ y.n
    · by_cases hx : ∃ i, i < y.n ∧ (y.c i).k = y.k
      · refine ret_iff (right_17_true b o y w hN hY h17 hn hx) ⟨fun h => (by cases h), fun h => ?_⟩
        obtain ⟨i, hi, he⟩ := hx
        exact absurd he (((nodeR_many y (by omega)).1 h).1.2 i hi)
      · refine ret_iff (right_17_false b o y w hN hY h17 hn hx) ?_
        rw [nodeR_many y (by omega), e _ h17]
        constructor
        · intro h
          exact ⟨⟨hn, fun i hi he => hx ⟨i, hi, he⟩⟩, by simpa using h⟩
        · intro h
          simpa using h.2
    · exact ret_iff (right_17_few b o y w hN h17 hn) ⟨fun h => (by cases h), fun h => absurd ((nodeR_many y (by omega)).1 h).1.1 hn⟩
  have hk : ¬ (1 ≤ y.k ∧ y.k ≤ 17) := by omega
  exact ret_iff (right_kind b o y w hN hk) ⟨fun h => (by cases h), fun h => absurd h (nodeR_none y hk)⟩
end Go.Proofs.Ytbmbdiimbhfeaaa
