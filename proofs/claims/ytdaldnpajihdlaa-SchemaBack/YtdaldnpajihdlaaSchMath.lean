/-
  There and back (P7.3), of no program but for the names: a schema's bytes are read as it was; what is read is written as the same bytes.
-/
import Derived.Test.YtdaldnpajihdlaaSchGet
namespace Go.Proofs.Ytdaldnpajihdlaa
open Go.RowKit

theorem fldZ_put (pre : List Int) (s : ByteArray) (k : Int) (r : List Int) (h : s.size ≤ 32) : fldZ (pre ++ (encF s k ++ r)) pre.length = ((s, k), 0, pre.length + (encF s k).length) := by
  have e1 : pre ++ (encF s k ++ r) = pre ++ ((enc 10 s.size ++ bytesS s) ++ (k :: r)) := by simp [encF]
  have t1 := textZ_put pre s (k :: r) 32 (by omega) (by omega)
  have e2 : pre ++ ((enc 10 s.size ++ bytesS s) ++ (k :: r)) = (pre ++ (enc 10 s.size ++ bytesS s)) ++ (k :: r) := by simp
  have hl : (pre ++ (enc 10 s.size ++ bytesS s)).length = pre.length + sz 10 s.size + s.size := by simp only [List.length_append, enc_length, bytesS_length]; omega
  have t2 := byteZ_put (pre ++ (enc 10 s.size ++ bytesS s)) k r
  rw [hl] at t2
  unfold fldZ
  rw [e1, t1]
  dsimp only
  rw [if_pos rfl, e2, t2, strOf_bytesS]
  simp only [encF, List.length_append, enc_length, bytesS_length, List.length_cons, List.length_nil]
  congr 2
  omega
theorem encFs_split (Nm : Nat → ByteArray) (K : Nat → Int) (k : Nat) : ∀ n, k < n → ∃ r, encFs Nm K n = encFs Nm K k ++ (encF (Nm k) (K k) ++ r)
  | 0, h => by omega
  | n + 1, h => by
    by_cases e : k = n
    · subst e
      exact ⟨[], by simp [encFs]⟩
    · obtain ⟨r, hr⟩ := encFs_split Nm K k n (by omega)
      exact ⟨r ++ encF (Nm n) (K n), by simp only [encFs, hr, List.append_assoc]⟩
/-- The first fields, as a list. -/
def listOf (Nm : Nat → ByteArray) (K : Nat → Int) : Nat → List (ByteArray × Int)
  | 0 => []
  | k + 1 => listOf Nm K k ++ [(Nm k, K k)]
theorem listOf_length (Nm : Nat → ByteArray) (K : Nat → Int) : ∀ k, (listOf Nm K k).length = k
  | 0 => rfl
  | k + 1 => by simp [listOf, listOf_length Nm K k]
theorem listOf_get (Nm : Nat → ByteArray) (K : Nat → Int) : ∀ n j, j < n → (listOf Nm K n)[j]? = some (Nm j, K j)
  | 0, j, h => by omega
  | n + 1, j, h => by
    simp only [listOf]
    by_cases e : j = n
    · subst e
      rw [List.getElem?_append_right (by rw [listOf_length]; exact Nat.le_refl _), listOf_length]
      simp
    · rw [List.getElem?_append_left (by rw [listOf_length]; omega)]
      exact listOf_get Nm K n j (by omega)
theorem nmOf_list (Nm : Nat → ByteArray) (K : Nat → Int) (n j : Nat) (h : j < n) : nmOf (listOf Nm K n) j = Nm j ∧ kdOf (listOf Nm K n) j = K j := by
  simp [nmOf, kdOf, listOf_get Nm K n j h]
theorem fldsZ_put (pre : List Int) (Nm : Nat → ByteArray) (K : Nat → Int) (n : Nat) (h : ∀ j, j < n → (Nm j).size ≤ 32) : ∀ k, k ≤ n → fldsZ (pre ++ encFs Nm K n) pre.length k = (listOf Nm K k, 0, pre.length + (encFs Nm K k).length)
  | 0, _ => by simp [fldsZ, listOf, encFs]
  | k + 1, hk => by
    have ih := fldsZ_put pre Nm K n h k (by omega)
    obtain ⟨r, hr⟩ := encFs_split Nm K k n (by omega)
    have e1 : pre ++ encFs Nm K n = (pre ++ encFs Nm K k) ++ (encF (Nm k) (K k) ++ r) := by rw [hr]; simp
    have t1 := fldZ_put (pre ++ encFs Nm K k) (Nm k) (K k) r (h k (by omega))
    rw [← e1, List.length_append] at t1
    simp only [fldsZ]
    rw [ih]
    dsimp only
    rw [if_pos rfl, t1]
    dsimp only
    rw [if_pos rfl]
    simp only [listOf, encFs, List.length_append]
    congr 2
    omega
theorem takenZ_put (S : ByteArray) (n : Nat) (Nm : Nat → ByteArray) (K : Nat → Int) (hS : S.size ≤ 32) (hn : n ≤ 16) (h : ∀ j, j < n → (Nm j).size ≤ 32) : takenZ (encS S n Nm K) 0 = ((S, listOf Nm K n), 0, (encS S n Nm K).length) := by
  have t1 := textZ_put [] S (enc 10 n ++ encFs Nm K n) 32 (by omega) (by omega)
  simp only [List.nil_append, List.length_nil, Nat.zero_add] at t1
  have hl : (enc 10 S.size ++ bytesS S).length = sz 10 S.size + S.size := by simp only [List.length_append, enc_length, bytesS_length]
  have t2 := numZ_put (enc 10 S.size ++ bytesS S) n (encFs Nm K n) 16 (by omega) (by omega)
  rw [hl] at t2
  have e3 : (enc 10 S.size ++ bytesS S) ++ (enc 10 n ++ encFs Nm K n) = ((enc 10 S.size ++ bytesS S) ++ enc 10 n) ++ encFs Nm K n := by simp
  have hl3 : ((enc 10 S.size ++ bytesS S) ++ enc 10 n).length = sz 10 S.size + S.size + sz 10 n := by simp only [List.length_append, enc_length, bytesS_length]
  have t3 := fldsZ_put ((enc 10 S.size ++ bytesS S) ++ enc 10 n) Nm K n h n (Nat.le_refl _)
  rw [hl3, ← e3] at t3
  unfold takenZ
  rw [show encS S n Nm K = (enc 10 S.size ++ bytesS S) ++ (enc 10 n ++ encFs Nm K n) from rfl, t1]
  dsimp only
  rw [if_pos rfl, t2]
  dsimp only
  rw [if_pos rfl, Int.toNat_natCast, t3]
  dsimp only
  rw [if_pos rfl, strOf_bytesS]
  simp only [List.length_append, enc_length, bytesS_length]
  congr 2
  omega
theorem seen_congr {Nm Nm' : Nat → ByteArray} (s : ByteArray) : ∀ n, (∀ j, j < n → Nm j = Nm' j) → seenB Nm s n = seenB Nm' s n
  | 0, _ => rfl
  | n + 1, h => by simp only [seenB]; rw [seen_congr s n fun j hj => h j (by omega), h n (by omega)]
theorem dup_congr {Nm Nm' : Nat → ByteArray} : ∀ n, (∀ j, j < n → Nm j = Nm' j) → dupB Nm n = dupB Nm' n
  | 0, _ => rfl
  | n + 1, h => by simp only [dupB]; rw [dup_congr n fun j hj => h j (by omega), h n (by omega), seen_congr (Nm' n) n fun j hj => h j (by omega)]
theorem allR_congr {Nm Nm' : Nat → ByteArray} {K K' : Nat → Int} : ∀ n, (∀ j, j < n → Nm j = Nm' j ∧ K j = K' j) → allR Nm K n = allR Nm' K' n
  | 0, _ => rfl
  | n + 1, h => by simp only [allR]; rw [allR_congr n fun j hj => h j (by omega), (h n (by omega)).1, (h n (by omega)).2]
theorem chk_congr {Nm Nm' : Nat → ByteArray} {K K' : Nat → Int} (S : ByteArray) (n : Nat) (h : ∀ j, j < n → Nm j = Nm' j ∧ K j = K' j) : chkZ S n Nm K = chkZ S n Nm' K' := by
  unfold chkZ
  rw [dup_congr n fun j hj => (h j hj).1, allR_congr n h]
theorem encFs_congr {Nm Nm' : Nat → ByteArray} {K K' : Nat → Int} : ∀ n, (∀ j, j < n → Nm j = Nm' j ∧ K j = K' j) → encFs Nm K n = encFs Nm' K' n
  | 0, _ => rfl
  | n + 1, h => by simp only [encFs]; rw [encFs_congr n fun j hj => h j (by omega), (h n (by omega)).1, (h n (by omega)).2]
/-- Get undoes Put. -/
theorem getS_put (S : ByteArray) (n : Nat) (Nm : Nat → ByteArray) (K : Nat → Int) (hc : chkZ S n Nm K = 0) : getS (encS S n Nm K) 0 = ((S, listOf Nm K n), 0, (encS S n Nm K).length) := by
  obtain ⟨hn, hS, _, hA⟩ := chkZ_ok hc
  have t := takenZ_put S n Nm K (name_size hS) hn (fun j hj => (right_parts (allR_at Nm K n hA j hj)).1)
  have c : chkL S (listOf Nm K n) = 0 := by
    unfold chkL
    rw [listOf_length, ← hc]
    exact chk_congr S n fun j hj => nmOf_list Nm K n j hj
  unfold getS
  rw [t]
  dsimp only
  rw [if_pos rfl, if_pos c]

theorem take_on (zs : List Int) (q r s : Nat) (h1 : q ≤ r) (h2 : r ≤ s) (a b : List Int) (ha : (zs.drop q).take (r - q) = a) (hb : (zs.drop r).take (s - r) = b) : (zs.drop q).take (s - q) = a ++ b := by
  rw [show s - q = (r - q) + (s - r) by omega, List.take_add, ha, List.drop_drop, show q + (r - q) = r by omega, hb]
theorem fldZ_enc (zs : List Int) (q : Nat) (hb : ∀ j : Nat, 0 ≤ zs[j]?.getD 0 ∧ zs[j]?.getD 0 ≤ 255) (h : (fldZ zs q).2.1 = 0) :
    q ≤ (fldZ zs q).2.2 ∧ (fldZ zs q).2.2 ≤ zs.length ∧ (zs.drop q).take ((fldZ zs q).2.2 - q) = encF (fldZ zs q).1.1 (fldZ zs q).1.2 := by
  unfold fldZ at h ⊢
  split at h
  · rename_i h1
    rw [if_pos h1]
    dsimp only at h ⊢
    obtain ⟨_, t1, t2, t3, t4⟩ := textZ_enc zs q 32 hb h1
    obtain ⟨u1, u2, u3⟩ := byteZ_enc zs (textZ zs q 32).2.2 t3 h
    rw [u1]
    refine ⟨by omega, u2, ?_⟩
    have u4 : (zs.drop (textZ zs q 32).2.2).take ((textZ zs q 32).2.2 + 1 - (textZ zs q 32).2.2) = [(byteZ zs (textZ zs q 32).2.2).1] := by
      rw [show (textZ zs q 32).2.2 + 1 - (textZ zs q 32).2.2 = 1 by omega]
      exact u3
    rw [take_on zs q (textZ zs q 32).2.2 _ t2 (by omega) _ _ t4 u4]
    unfold encF
    rw [size_strOf, bytesS_strOf _ t1]
  · rename_i h1
    exact absurd h h1
theorem fldsZ_enc (zs : List Int) (q : Nat) (hq : q ≤ zs.length) (hb : ∀ j : Nat, 0 ≤ zs[j]?.getD 0 ∧ zs[j]?.getD 0 ≤ 255) : ∀ k, (fldsZ zs q k).2.1 = 0 →
    q ≤ (fldsZ zs q k).2.2 ∧ (fldsZ zs q k).2.2 ≤ zs.length ∧ (zs.drop q).take ((fldsZ zs q k).2.2 - q) = encFs (nmOf (fldsZ zs q k).1) (kdOf (fldsZ zs q k).1) k
  | 0, _ => by simp [fldsZ, encFs, hq]
  | k + 1, h => by
    simp only [fldsZ] at h ⊢
    split at h
    · rename_i h1
      rw [if_pos h1]
      obtain ⟨i1, i2, i3⟩ := fldsZ_enc zs q hq hb k h1
      have il := fldsZ_len zs q k h1
      split at h
      · rename_i h2
        rw [if_pos h2]
        obtain ⟨f1, f2, f3⟩ := fldZ_enc zs _ hb h2
        dsimp only
        refine ⟨by omega, f2, ?_⟩
        rw [take_on zs q _ _ i1 f1 _ _ i3 f3]
        generalize (fldsZ zs q k).1 = P at il
        generalize (fldZ zs (fldsZ zs q k).2.2).1 = x
        simp only [encFs]
        have a1 : ∀ j, j < k → nmOf P j = nmOf (P ++ [x]) j ∧ kdOf P j = kdOf (P ++ [x]) j := fun j hj => by
          simp only [nmOf, kdOf]
          rw [List.getElem?_append_left (by omega)]
          exact ⟨rfl, rfl⟩
        have a2 : nmOf (P ++ [x]) k = x.1 ∧ kdOf (P ++ [x]) k = x.2 := by
          simp only [nmOf, kdOf]
          rw [List.getElem?_append_right (by omega), il, Nat.sub_self]
          exact ⟨rfl, rfl⟩
        rw [encFs_congr k a1, a2.1, a2.2]
      · contradiction
    · rename_i h1
      exact absurd h h1
theorem takenZ_enc (zs : List Int) (q : Nat) (hb : ∀ j : Nat, 0 ≤ zs[j]?.getD 0 ∧ zs[j]?.getD 0 ≤ 255) (h : (takenZ zs q).2.1 = 0) :
    q ≤ (takenZ zs q).2.2 ∧ (takenZ zs q).2.2 ≤ zs.length ∧ (zs.drop q).take ((takenZ zs q).2.2 - q) = encS (takenZ zs q).1.1 (takenZ zs q).1.2.length (nmOf (takenZ zs q).1.2) (kdOf (takenZ zs q).1.2) := by
  unfold takenZ at h ⊢
  split at h
  · rename_i h1
    rw [if_pos h1]
    obtain ⟨_, t1, t2, t3, t4⟩ := textZ_enc zs q 32 hb h1
    split at h
    · rename_i h2
      rw [if_pos h2]
      obtain ⟨n1, _, _, n4, n5, n6⟩ := numZ_enc zs _ 16 hb h2
      split at h
      · rename_i h3
        rw [if_pos h3]
        obtain ⟨f1, f2, f3⟩ := fldsZ_enc zs _ n5 hb _ h3
        have fl := fldsZ_len zs _ _ h3
        dsimp only
        refine ⟨by omega, f2, ?_⟩
        rw [take_on zs q _ _ t2 (by omega) _ _ t4 (take_on zs _ _ _ n4 f1 _ _ n6 f3), fl]
        unfold encS
        rw [size_strOf, bytesS_strOf _ t1]
      · rename_i h3
        exact absurd h h3
    · rename_i h2
      exact absurd h h2
  · rename_i h1
    exact absurd h h1
/-- What is read is right, and is written as the same bytes. -/
theorem getS_enc (zs : List Int) (hb : ∀ j : Nat, 0 ≤ zs[j]?.getD 0 ∧ zs[j]?.getD 0 ≤ 255) (h : (getS zs 0).2.1 = 0) :
    chkL (getS zs 0).1.1 (getS zs 0).1.2 = 0 ∧ (getS zs 0).2.2 ≤ zs.length ∧ zs.take (getS zs 0).2.2 = encS (getS zs 0).1.1 (getS zs 0).1.2.length (nmOf (getS zs 0).1.2) (kdOf (getS zs 0).1.2) ∧ ∀ x ∈ (getS zs 0).1.2, x.1.size ≤ 32 := by
  unfold getS at h ⊢
  split at h
  · rename_i h1
    rw [if_pos h1]
    split at h
    · rename_i h2
      rw [if_pos h2]
      obtain ⟨t1, t2, t3⟩ := takenZ_enc zs 0 hb h1
      exact ⟨h2, t2, by simpa using t3, takenZ_sizes zs 0 hb⟩
    · simp at h
  · rename_i h1
    exact absurd h h1
/-- Where there is an error there is no schema. -/
theorem getS_none (zs : List Int) (q : Nat) (h : (getS zs q).2.1 ≠ 0) : (getS zs q).1 = (⟨#[]⟩, []) := by
  unfold getS at h ⊢
  split
  · rename_i h1
    rw [if_pos h1] at h
    split
    · rename_i h2
      rw [if_pos h2] at h
      exact absurd rfl h
    · rfl
  · rfl
theorem encS_len (S : ByteArray) (n : Nat) (Nm : Nat → ByteArray) (K : Nat → Int) (hc : chkZ S n Nm K = 0) : (encS S n Nm K).length ≤ 65536 := by
  obtain ⟨hn, hS, _, hA⟩ := chkZ_ok hc
  have h1 := encFs_len Nm K n fun j hj => (right_parts (allR_at Nm K n hA j hj)).1
  have h2 := name_size hS
  have h3 := sz_le 10 S.size
  have h4 := sz_le 10 n
  simp only [encS, List.length_append, enc_length, bytesS_length]
  omega
end Go.Proofs.Ytdaldnpajihdlaa
