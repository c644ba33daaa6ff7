/-
  Plain facts on sums of numbers, of no program.
-/
import Derived.WalkKit
namespace Go.Proofs.Ytddeneaenhoegaa

/-- The sum of all. -/
def tot : List Int → Int
  | [] => 0
  | x :: l => x + tot l
theorem tot_append (a b : List Int) : tot (a ++ b) = tot a + tot b := by
  induction a with
  | nil => simp [tot]
  | cons x a ih => simp only [List.cons_append, tot, ih]; omega
theorem tot_bd (l : List Int) (h : ∀ c ∈ l, -9223372036854775808 ≤ c ∧ c < 9223372036854775808) : -9223372036854775808 * (l.length : Int) ≤ tot l ∧ tot l ≤ 9223372036854775808 * (l.length : Int) := by
  induction l with
  | nil => simp [tot]
  | cons x l ih =>
    have h1 := ih (fun c hc => h c (List.mem_cons_of_mem _ hc))
    have h2 := h x List.mem_cons_self
    simp only [tot, List.length_cons]
    omega
theorem tot_take (l : List Int) (k : Nat) (hk : k < l.length) : tot (l.take (k + 1)) = tot (l.take k) + l[k]?.getD 0 := by
  rw [List.take_add_one, tot_append]
  simp [hk, tot]
/-- One taken out. -/
theorem tot_out (l : List Int) (k : Nat) (hk : k < l.length) : tot (l.take k ++ l.drop (k + 1)) + l[k]?.getD 0 = tot l := by
  have e2 : tot l = tot (l.take k) + tot (l.drop k) := by rw [← tot_append, List.take_append_drop]
  rw [e2, List.drop_eq_getElem_cons hk, tot_append]
  simp only [tot, hk, List.getElem?_eq_getElem, Option.getD_some]
  omega
theorem tot_up (l : List Int) (h : ∀ c ∈ l, 0 ≤ c) : 0 ≤ tot l := by
  induction l with
  | nil => simp [tot]
  | cons x l ih =>
    have h1 := ih (fun c hc => h c (List.mem_cons_of_mem _ hc))
    have h2 := h x List.mem_cons_self
    simp only [tot]; omega
theorem tot_down (l : List Int) (h : ∀ c ∈ l, c ≤ 0) : tot l ≤ 0 := by
  induction l with
  | nil => simp [tot]
  | cons x l ih =>
    have h1 := ih (fun c hc => h c (List.mem_cons_of_mem _ hc))
    have h2 := h x List.mem_cons_self
    simp only [tot]; omega
theorem mem_out (l : List Int) (k : Nat) (c : Int) (h : c ∈ l.take k ++ l.drop (k + 1)) : c ∈ l := by
  rcases List.mem_append.1 h with h | h
  · exact List.mem_of_mem_take h
  · exact List.mem_of_mem_drop h

/-- P4.1's answer: the sum, the error. -/
def sumZ (l : List Int) : Int × Int := if -9223372036854775808 ≤ tot l ∧ tot l < 9223372036854775808 then (tot l, 0) else (0, 10)
def addZ (a b : Int) : Int × Int := if -9223372036854775808 ≤ a + b ∧ a + b < 9223372036854775808 then (a + b, 0) else (0, 10)

/-- The upper half of a number that is written with twice its bits. -/
def aboveZ (n : Int) : Int := if n < 0 then 18446744073709551615 else 0
/-- One step of the sum with twice the bits. -/
theorem step_low (T n low : Int) (hl : low = T % 18446744073709551616) : (low + n % 18446744073709551616 + 0) % 18446744073709551616 = (T + n) % 18446744073709551616 := by omega
theorem step_high (T n low high c : Int) (h0 : -9223372036854775808 ≤ n) (h1 : n < 9223372036854775808) (hl : low = T % 18446744073709551616) (hh : high = T / 18446744073709551616 % 18446744073709551616)
    (hc : c = (low + n % 18446744073709551616 + 0) / 18446744073709551616) : (high + (aboveZ n + c) % 18446744073709551616) % 18446744073709551616 = (T + n) / 18446744073709551616 % 18446744073709551616 := by
  unfold aboveZ
  split <;> omega
/-- The end of it. -/
theorem step_end (T : Int) (h0 : -9223372036854775808 * 300 ≤ T) (h1 : T ≤ 9223372036854775808 * 300) (n : Int) (hn : n = (T % 18446744073709551616 + 9223372036854775808) % 18446744073709551616 - 9223372036854775808) :
    (T / 18446744073709551616 % 18446744073709551616 = aboveZ n) ↔ (-9223372036854775808 ≤ T ∧ T < 9223372036854775808) := by
  unfold aboveZ
  split <;> omega

/-- x may be taken next: it is of the other sign. -/
def Opp (s x : Int) : Prop := 0 < s ∧ x < 0 ∨ s ≤ 0 ∧ 0 < x
/-- Where the next one goes beyond and none is of the other sign, all go beyond. -/
theorem beyond (s : Int) (l : List Int) (k : Nat) (hk : k < l.length) (hs0 : -9223372036854775808 ≤ s) (hs1 : s < 9223372036854775808) (hb : ∀ c ∈ l, -9223372036854775808 ≤ c ∧ c < 9223372036854775808)
    (ho : Opp s (l[k]?.getD 0) ∨ ∀ c ∈ l, ¬ Opp s c) (hx : ¬ (-9223372036854775808 ≤ s + l[k]?.getD 0 ∧ s + l[k]?.getD 0 < 9223372036854775808)) : ¬ (-9223372036854775808 ≤ s + tot l ∧ s + tot l < 9223372036854775808) := by
  have hm : l[k]?.getD 0 ∈ l := by simp [hk]
  have hbk := hb _ hm
  have e := tot_out l k hk
  generalize l[k]?.getD 0 = x at *
  rcases ho with ho | ho
  · unfold Opp at ho
    omega
  · by_cases hs : 0 < s
    · have hu := tot_up (l.take k ++ l.drop (k + 1)) (fun c hc => by have := ho c (mem_out l k c hc); unfold Opp at this; omega)
      have := ho x hm
      unfold Opp at this
      omega
    · have hu := tot_down (l.take k ++ l.drop (k + 1)) (fun c hc => by have := ho c (mem_out l k c hc); unfold Opp at this; omega)
      have := ho x hm
      unfold Opp at this
      omega
end Go.Proofs.Ytddeneaenhoegaa
