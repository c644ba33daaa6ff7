/-
  What is written and read call by call (P2.4): plain facts on the bytes of the calls, one behind the other.
-/
import Derived.Test.YtabflledggocoaaWireAwake
namespace Go.Proofs.Ytabflledggocoaa
open Go.RowKit

theorem strOf_eq (l : List Int) : ∀ r : ByteArray, l.foldl (fun r n => r.push (UInt8.ofNat n.toNat)) r = ⟨r.data ++ (l.map fun n => UInt8.ofNat n.toNat).toArray⟩ := by
  induction l with
  | nil => intro r; cases r; simp
  | cons x l ih => intro r; rw [List.foldl_cons, ih]; cases r; simp [ByteArray.push]
/-- The string of a string's bytes is the string. -/
theorem strOf_bytes (s : ByteArray) : strOf (bytesS s) = s := by
  rw [strOf, strOf_eq]
  cases s with
  | mk d =>
    congr 1
    apply Array.ext'
    simp only [bytesS, List.map_map, ByteArray.empty, ByteArray.emptyWithCapacity, Array.toList_append]
    have e : ((fun n : Int => UInt8.ofNat n.toNat) ∘ fun b : UInt8 => (b.toNat : Int)) = id := by
      funext b
      simp
    rw [e, List.map_id]
    rfl

/-- A number that was put, behind 'pre', is got. -/
theorem numZ_put (pre : List Int) (n : Nat) (r : List Int) (most : Int) (h : n < 18446744073709551616) (hm : (n : Int) ≤ most) :
    numZ (pre ++ (enc 10 n ++ r)) pre.length most = ((n : Int), 0, pre.length + sz 10 n) := by
  unfold numZ
  rw [getZ_put pre n r h]
  simp only [ne_eq, not_true_eq_false, if_false, if_neg (show ¬ most < (n : Int) by omega), Int.toNat_natCast]
theorem textZ_put (pre : List Int) (s : ByteArray) (r : List Int) (most : Int) (h : s.size < 18446744073709551616) (hm : (s.size : Int) ≤ most) :
    textZ (pre ++ ((enc 10 s.size ++ bytesS s) ++ r)) pre.length most = (bytesS s, 0, pre.length + sz 10 s.size + s.size) := by
  unfold textZ
  rw [List.append_assoc, getZ_put pre s.size (bytesS s ++ r) h]
  have hl : ((pre ++ (enc 10 s.size ++ (bytesS s ++ r))).length : Int) = pre.length + sz 10 s.size + s.size + r.length := by
    simp only [List.length_append, enc_length, bytesS_length]
    omega
  have hd : (pre ++ (enc 10 s.size ++ (bytesS s ++ r))).drop (pre.length + sz 10 s.size) = bytesS s ++ r := by
    rw [← List.append_assoc, show pre.length + sz 10 s.size = (pre ++ enc 10 s.size).length by rw [List.length_append, enc_length], List.drop_left]
  have ht : (bytesS s ++ r).take s.size = bytesS s := by
    rw [← bytesS_length s, List.take_left]
  simp only [ne_eq, not_true_eq_false, if_false, hl, Int.toNat_natCast]
  rw [if_neg (by omega), if_neg (by omega), hd, ht]
theorem byteZ_put (pre : List Int) (c : Int) (r : List Int) : byteZ (pre ++ (c :: r)) pre.length = (c, 0, pre.length + 1) := by
  unfold byteZ
  rw [if_neg (by simp)]
  simp

/-- The bytes of the calls of round k; and of all rounds below k. -/
def recOf (n : Nat → Nat) (z : Nat → Int) (S : Nat → ByteArray) (k : Nat) : List Int :=
  enc 10 (n k) ++ (enc 10 (turnZ (z k)).toNat ++ ((enc 10 (S k).size ++ bytesS (S k)) ++ [(k : Int)]))
def recs (n : Nat → Nat) (z : Nat → Int) (S : Nat → ByteArray) : Nat → List Int
  | 0 => []
  | k + 1 => recs n z S k ++ recOf n z S k
theorem recOf_length (n : Nat → Nat) (z : Nat → Int) (S : Nat → ByteArray) (k : Nat) : (recOf n z S k).length = sz 10 (n k) + sz 10 (turnZ (z k)).toNat + sz 10 (S k).size + (S k).size + 1 := by
  simp only [recOf, List.length_append, enc_length, bytesS_length, List.length_cons, List.length_nil]
  omega
theorem recs_length (n : Nat → Nat) (z : Nat → Int) (S : Nat → ByteArray) (k : Nat) (h : ∀ j, j < k → (S j).size ≤ 1000) : (recs n z S k).length ≤ 1031 * k := by
  induction k with
  | zero => simp [recs]
  | succ k ih =>
    have i1 := ih fun j hj => h j (by omega)
    have i2 := h k (by omega)
    have i3 := recOf_length n z S k
    have h1 := sz_le 10 (n k)
    have h2 := sz_le 10 (turnZ (z k)).toNat
    have h3 := sz_le 10 (S k).size
    simp only [recs, List.length_append]
    omega
/-- What is behind round j's. -/
theorem recs_split (n : Nat → Nat) (z : Nat → Int) (S : Nat → ByteArray) (j k : Nat) (h : j < k) : ∃ r, recs n z S k = recs n z S j ++ (recOf n z S j ++ r) := by
  induction k with
  | zero => omega
  | succ k ih =>
    by_cases e : j = k
    · subst e
      exact ⟨[], by simp [recs]⟩
    · obtain ⟨r, hr⟩ := ih (by omega)
      exact ⟨r ++ recOf n z S k, by simp [recs, hr]⟩
/-- What is read of round j's. -/
theorem recs_read (n : Nat → Nat) (z : Nat → Int) (S : Nat → ByteArray) (j k : Nat) (h : j < k) (hn : n j < 18446744073709551616) (hz0 : -9223372036854775808 ≤ z j) (hz1 : z j < 9223372036854775808) (hs : (S j).size ≤ 1000) :
    ∃ p1 p2 p3, numZ (recs n z S k) (recs n z S j).length (n j : Nat) = (((n j : Nat) : Int), 0, p1) ∧ numZ (recs n z S k) p1 18446744073709551615 = (turnZ (z j), 0, p2) ∧
      textZ (recs n z S k) p2 ((S j).size : Nat) = (bytesS (S j), 0, p3) ∧ byteZ (recs n z S k) p3 = ((j : Int), 0, (recs n z S (j + 1)).length) := by
  obtain ⟨r, hr⟩ := recs_split n z S j k h
  have ht := turn_bd (z j) hz0 hz1
  obtain ⟨t, et⟩ := Int.eq_ofNat_of_zero_le ht.1
  have hrec : recOf n z S j = enc 10 (n j) ++ (enc 10 t ++ ((enc 10 (S j).size ++ bytesS (S j)) ++ [(j : Int)])) := by
    unfold recOf; rw [et, Int.toNat_natCast]
  have hl := recOf_length n z S j
  rw [et, Int.toNat_natCast] at hl
  have hq0 : (recs n z S (j + 1)).length = (recs n z S j).length + (recOf n z S j).length := by rw [recs, List.length_append]
  rw [hl] at hq0
  generalize recs n z S j = P at hr hq0 ⊢
  refine ⟨P.length + sz 10 (n j), P.length + sz 10 (n j) + sz 10 t, P.length + sz 10 (n j) + sz 10 t + sz 10 (S j).size + (S j).size, ?_, ?_, ?_, ?_⟩
  · rw [hr, hrec, List.append_assoc]
    exact numZ_put P (n j) _ _ hn (Int.le_refl _)
  · have e := numZ_put (P ++ enc 10 (n j)) t ((((enc 10 (S j).size ++ bytesS (S j)) ++ [(j : Int)])) ++ r) 18446744073709551615 (by omega) (by omega)
    rw [List.length_append, enc_length] at e
    rw [hr, hrec, et, ← e]
    simp only [List.append_assoc]
  · have e := textZ_put (P ++ enc 10 (n j) ++ enc 10 t) (S j) ([(j : Int)] ++ r) ((S j).size : Nat) (by omega) (Int.le_refl _)
    rw [List.length_append, List.length_append, enc_length, enc_length] at e
    rw [hr, hrec, ← e]
    simp only [List.append_assoc]
  · have e := byteZ_put (P ++ enc 10 (n j) ++ enc 10 t ++ (enc 10 (S j).size ++ bytesS (S j))) (j : Int) r
    simp only [List.length_append, enc_length, bytesS_length] at e
    have hq : (recs n z S (j + 1)).length = P.length + sz 10 (n j) + sz 10 t + (sz 10 (S j).size + (S j).size) + 1 := by omega
    rw [hr, hrec, hq, ← e]
    simp only [List.append_assoc, List.cons_append, List.nil_append, Nat.add_assoc]
end Go.Proofs.Ytabflledggocoaa
