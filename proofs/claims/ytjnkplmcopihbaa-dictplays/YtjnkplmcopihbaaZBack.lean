/-
  Bytes and texts, and what a reader's answers ('numZ', 'textZ', 'byteZ') say of bytes that were written, and of the bytes that they were read from. Of no function.
-/
import Derived.Test.YtjnkplmcopihbaaReader
namespace Go.Proofs.Ytjnkplmcopihbaa
open Go.RowKit

theorem foldl_push (l : List Int) : ∀ r : ByteArray, l.foldl (fun r n => r.push (UInt8.ofNat n.toNat)) r = ⟨r.data ++ (l.map fun n => UInt8.ofNat n.toNat).toArray⟩ := by
  induction l with
  | nil => intro r; simp
  | cons x l ih => intro r; rw [List.foldl_cons, ih]; simp [ByteArray.push]
theorem strOf_data (l : List Int) : (strOf l).data.toList = l.map fun n => UInt8.ofNat n.toNat := by
  rw [strOf, foldl_push]
  have he0 : ByteArray.empty.data = #[] := rfl
  rw [he0]; simp
theorem bytesS_strOf (l : List Int) (h : ∀ c ∈ l, 0 ≤ c ∧ c ≤ 255) : bytesS (strOf l) = l := by
  rw [bytesS, strOf_data, List.map_map]
  conv => rhs; rw [← List.map_id l]
  refine List.map_congr_left fun c hc => ?_
  have := h c hc
  simp
  omega
theorem strOf_bytesS (s : ByteArray) : strOf (bytesS s) = s := by
  apply ByteArray.ext
  apply Array.ext'
  rw [strOf_data, bytesS, List.map_map]
  conv => rhs; rw [← List.map_id s.data.toList]
  refine List.map_congr_left fun c hc => ?_
  simp
theorem size_strOf (l : List Int) : (strOf l).size = l.length := by
  have h := congrArg List.length (strOf_data l)
  rw [List.length_map, Array.length_toList] at h
  exact h

/-- A number that was put, behind 'pre', is got. -/
theorem numZ_put (pre : List Int) (n : Nat) (r : List Int) (most : Int) (h : n < 18446744073709551616) (hm : (n : Int) ≤ most) :
    numZ (pre ++ (enc 10 n ++ r)) pre.length most = ((n : Int), 0, pre.length + sz 10 n) := by
  unfold numZ
  rw [getZ_put pre n r h]
  simp only [ne_eq, not_true_eq_false, if_false, if_neg (show ¬ most < (n : Int) by omega), Int.toNat_natCast]
theorem textZ_put (pre : List Int) (s : ByteArray) (r : List Int) (most : Int) (h : s.size < 18446744073709551616) (hm : (s.size : Int) ≤ most) :
    textZ (pre ++ ((enc 10 s.size ++ bytesS s) ++ r)) pre.length most = (bytesS s, 0, pre.length + sz 10 s.size + s.size) := by
  unfold textZ
  rw [List.append_assoc, getZ_put pre s.size (bytesS s ++ r) h]
  have hl : ((pre ++ (enc 10 s.size ++ (bytesS s ++ r))).length : Int) = pre.length + sz 10 s.size + s.size + r.length := by
    simp only [List.length_append, enc_length, bytesS_length]
    omega
  have hd : (pre ++ (enc 10 s.size ++ (bytesS s ++ r))).drop (pre.length + sz 10 s.size) = bytesS s ++ r := by
    rw [← List.append_assoc, show pre.length + sz 10 s.size = (pre ++ enc 10 s.size).length by rw [List.length_append, enc_length], List.drop_left]
  have ht : (bytesS s ++ r).take s.size = bytesS s := by
    rw [← bytesS_length s, List.take_left]
  simp only [ne_eq, not_true_eq_false, if_false, hl, Int.toNat_natCast]
  rw [if_neg (by omega), if_neg (by omega), hd, ht]
theorem byteZ_put (pre : List Int) (c : Int) (r : List Int) : byteZ (pre ++ (c :: r)) pre.length = (c, 0, pre.length + 1) := by
  unfold byteZ
  rw [if_neg (by simp)]
  simp

/-- A place at which a number stands: the number's bytes. -/
theorem get_enc (zs : List Int) (q : Nat) (hz : ∀ c ∈ zs, 0 ≤ c ∧ c ≤ 255) (h : (getZ zs q).2.2 = 0) :
    (q : Int) ≤ (getZ zs q).2.1 ∧ (zs.drop q).take ((getZ zs q).2.1.toNat - q) = enc 10 (getZ zs q).1.toNat := by
  unfold getZ at h ⊢
  split at h
  · simp at h
  · rename_i hp
    rw [if_neg hp]
    dsimp only at h ⊢
    rw [Int.toNat_natCast] at h ⊢
    obtain ⟨m, e1, _, e3, _⟩ := enc_dec (zs.drop q) 0 0 (by omega) (fun c hc => hz c (List.mem_of_mem_drop hc)) (by exact_mod_cast h)
    refine ⟨by omega, ?_⟩
    rw [show ((q : Int) + ((dec 0 0 (zs.drop q)).2.1 : Int)).toNat - q = (dec 0 0 (zs.drop q)).2.1 - 0 by omega, e3, e1]
    simp
/-- What Num read. -/
theorem numZ_enc (zs : List Int) (q : Nat) (most : Int) (hb : ∀ j : Nat, 0 ≤ zs[j]?.getD 0 ∧ zs[j]?.getD 0 ≤ 255) (h : (numZ zs q most).2.1 = 0) :
    0 ≤ (numZ zs q most).1 ∧ (numZ zs q most).1 < 18446744073709551616 ∧ (numZ zs q most).1 ≤ most ∧ q ≤ (numZ zs q most).2.2 ∧ (numZ zs q most).2.2 ≤ zs.length ∧ (zs.drop q).take ((numZ zs q most).2.2 - q) = enc 10 (numZ zs q most).1.toNat := by
  have bd := getZ_bd zs q hb
  unfold numZ at h ⊢
  split at h
  · rename_i h1; simp at h; exact absurd h h1
  · rename_i h1
    rw [if_neg h1]
    split at h
    · simp at h
    · rename_i h2
      rw [if_neg h2]
      dsimp only
      obtain ⟨g1, g2⟩ := get_enc zs q (mem_bd hb) (by omega)
      exact ⟨by omega, by omega, by omega, by omega, by omega, g2⟩
/-- What Text read. -/
theorem textZ_enc (zs : List Int) (q : Nat) (most : Int) (hb : ∀ j : Nat, 0 ≤ zs[j]?.getD 0 ∧ zs[j]?.getD 0 ≤ 255) (h : (textZ zs q most).2.1 = 0) :
    ((textZ zs q most).1.length : Int) ≤ most ∧ (∀ c ∈ (textZ zs q most).1, 0 ≤ c ∧ c ≤ 255) ∧ q ≤ (textZ zs q most).2.2 ∧ (textZ zs q most).2.2 ≤ zs.length ∧ (zs.drop q).take ((textZ zs q most).2.2 - q) = enc 10 (textZ zs q most).1.length ++ (textZ zs q most).1 := by
  have bd := getZ_bd zs q hb
  unfold textZ at h ⊢
  split at h
  · rename_i h1; simp at h; exact absurd h h1
  · rename_i h1
    rw [if_neg h1]
    split at h
    · simp at h
    · rename_i h2
      rw [if_neg h2]
      split at h
      · simp at h
      · rename_i h3
        rw [if_neg h3]
        dsimp only
        obtain ⟨g1, g2⟩ := get_enc zs q (mem_bd hb) (by omega)
        obtain ⟨f, hf⟩ := Int.eq_ofNat_of_zero_le bd.2.2.1
        obtain ⟨n, hn⟩ := Int.eq_ofNat_of_zero_le bd.1
        rw [hf, hn] at h2 g2
        rw [hf] at g1
        rw [hn] at h3
        rw [hf, hn]
        simp only [Int.toNat_natCast] at g2 ⊢
        have hl : ((zs.drop f).take n).length = n := by simp only [List.length_take, List.length_drop]; omega
        rw [hl]
        refine ⟨by omega, fun c hc => mem_bd hb c (List.mem_of_mem_drop (List.mem_of_mem_take hc)), by omega, by omega, ?_⟩
        rw [show f + n - q = (f - q) + n by omega, List.take_add, g2, List.drop_drop, show q + (f - q) = f by omega]
/-- What Byte read. -/
theorem byteZ_enc (zs : List Int) (q : Nat) (hq : q ≤ zs.length) (h : (byteZ zs q).2.1 = 0) : (byteZ zs q).2.2 = q + 1 ∧ q + 1 ≤ zs.length ∧ (zs.drop q).take 1 = [(byteZ zs q).1] := by
  unfold byteZ at h ⊢
  split at h
  · simp at h
  · rename_i h1
    rw [if_neg h1]
    exact ⟨rfl, by omega, take_one zs q (by omega)⟩
end Go.Proofs.Ytjnkplmcopihbaa
