/-
  value.Get by one answer, 'getV'; there and back, and back and there (P6.4).
-/
import Derived.Test.YtabhjmfacgbbgaaValGet
import Derived.Test.YtabhjmfacgbbgaaZBack
namespace Go.Proofs.Ytabhjmfacgbbgaa
open Go.RowKit

theorem wrap_byte (c : Int) (h0 : 0 ≤ c) (h1 : c ≤ 255) : wrap64 c = c := by unfold wrap64; omega
theorem byteZ_bd (l : List Int) (q : Nat) (h : ∀ j : Nat, 0 ≤ l[j]?.getD 0 ∧ l[j]?.getD 0 ≤ 255) : 0 ≤ (byteZ l q).1 ∧ (byteZ l q).1 ≤ 255 ∧ ((byteZ l q).2.1 ≠ 0 → (byteZ l q).1 = 0) := by
  unfold byteZ
  split
  · simp
  · have := h q
    simp; omega
theorem textZ_len (l : List Int) (q : Nat) (most : Int) (h : (textZ l q most).2.1 = 0) : ((textZ l q most).1.length : Int) ≤ most ∨ most < 0 := by
  unfold textZ at h ⊢
  split at h
  · rename_i h1; simp at h; exact absurd h h1
  · rename_i h1
    rw [if_neg h1]
    split at h
    · simp at h
    · rename_i h2
      rw [if_neg h2]
      split at h
      · simp at h
      · rename_i h3
        rw [if_neg h3]
        simp only [List.length_take, List.length_drop]
        omega
/-- Get, at any place of any bytes. -/
theorem vget_any {w : World} {B p h : Nat} {v : Value} {l : List Int} {q : Nat} (H : Rd w B p h v l q) :
    Calls Try.prog 10 #[.pointer (some ⟨p, 0, none⟩)] w fun x w' => x = .returned (.tuple #[valV (getV l q).1.1 (getV l q).1.2.1 (getV l q).1.2.2, .int .i64 (getV l q).2.1]) ∧ Took w B p h v l (getV l q).2.2 w' := by
  have bd := rd_bd H.hd
  obtain ⟨b0, b1, b2⟩ := byteZ_bd l q bd
  obtain ⟨c, e, r, hz⟩ : ∃ c e r, byteZ l q = (c, e, r) := ⟨_, _, _, rfl⟩
  unfold getV
  rw [hz] at b0 b1 b2 ⊢
  dsimp only at b0 b1 b2 ⊢
  by_cases he : e = 0
  · subst he
    rw [if_neg (by simp)]
    by_cases c0 : c = 0
    · subst c0
      rw [if_pos rfl]
      exact get_null H r hz (by decide +kernel)
    · rw [if_neg c0]
      by_cases c1 : c = 1
      · subst c1
        rw [if_pos rfl]
        obtain ⟨n0, n1, n2⟩ := byteZ_bd l r bd
        obtain ⟨n, e2, r2, hz2⟩ : ∃ n e r2, byteZ l r = (n, e, r2) := ⟨_, _, _, rfl⟩
        rw [hz2] at n0 n1 n2 ⊢
        dsimp only at n0 n1 n2 ⊢
        by_cases he2 : e2 = 0
        · subst he2
          rw [if_neg (by simp)]
          by_cases hn : n = 0 ∨ n = 1
          · rw [if_pos hn]
            refine get_bool H r n r2 hz hz2 (wrap_byte n n0 n1) ?_
            rcases hn with rfl | rfl <;> decide +kernel
          · rw [if_neg hn]
            refine get_bool_no H r n r2 hz hz2 (wrap_byte n n0 n1) ?_
            simp only [not_or] at hn
            simp [rightB, hn.1, hn.2]
        · rw [if_pos he2]
          exact get_bool_short H r n e2 r2 hz hz2 (wrap_byte n n0 n1) he2
      · rw [if_neg c1]
        by_cases c2 : c = 2
        · subst c2
          rw [if_pos rfl]
          obtain ⟨m, e2, r2, hz2⟩ : ∃ m e r2, numZ l r 18446744073709551615 = (m, e, r2) := ⟨_, _, _, rfl⟩
          rw [hz2]
          dsimp only
          by_cases he2 : e2 = 0
          · subst he2
            rw [if_neg (by simp)]
            exact get_int H r m _ r2 hz hz2 rfl (by unfold rightB; exact toList_empty)
          · rw [if_pos he2]
            exact get_int_no H r m _ e2 r2 hz hz2 rfl he2
        · rw [if_neg c2]
          by_cases c3 : c = 3
          · subst c3
            rw [if_pos rfl]
            have tl := textZ_len l r 256
            obtain ⟨t, e2, r2, hz2⟩ : ∃ t e r2, textZ l r 256 = (t, e, r2) := ⟨_, _, _, rfl⟩
            rw [hz2] at tl ⊢
            dsimp only at tl ⊢
            by_cases he2 : e2 = 0
            · subst he2
              rw [if_neg (by simp)]
              refine get_text H r t _ r2 hz hz2 rfl ?_
              have hs : (strOf t).size ≤ 256 := by rw [size_strOf]; have := tl rfl; omega
              simp [rightB, hs]
            · rw [if_pos he2]
              exact get_text_no H r t _ e2 r2 hz hz2 rfl he2
          · rw [if_neg c3]
            refine get_other H c r hz (by simpa using c1) (by simpa using c2) (by simpa using c3) (wrap_byte c b0 b1) ?_
            simp [rightB, c0, c1, c2, c3]
  · rw [if_pos he]
    obtain rfl := b2 he
    exact get_short H e r hz he

/-- Get undoes Put. -/
theorem getV_put (pre r : List Int) (k n : Int) (s : ByteArray) (h0 : -9223372036854775808 ≤ n) (h1 : n < 9223372036854775808) (hr : rightB k n s = true) :
    getV (pre ++ (encV k n s ++ r)) pre.length = ((k, n, s), 0, pre.length + (encV k n s).length) := by
  unfold rightB at hr
  by_cases k0 : k = 0
  · subst k0
    simp only [if_true, Bool.and_eq_true, decide_eq_true_eq] at hr
    obtain ⟨rfl, hs⟩ := hr
    obtain rfl := empty_str hs
    have ev : encV 0 0 ⟨#[]⟩ = [0] := by simp [encV]
    rw [ev]
    unfold getV
    rw [List.cons_append, byteZ_put]
    simp [noV]
  · rw [if_neg k0] at hr
    by_cases k1 : k = 1
    · subst k1
      simp only [if_true, Bool.and_eq_true, Bool.or_eq_true, decide_eq_true_eq] at hr
      obtain ⟨hn, hs⟩ := hr
      obtain rfl := empty_str hs
      have ev : encV 1 n ⟨#[]⟩ = [1, n] := by simp [encV]
      have e := byteZ_put (pre ++ [1]) n r
      rw [List.append_assoc, List.length_append] at e
      simp only [List.length_cons, List.length_nil, Nat.zero_add, List.cons_append, List.nil_append] at e
      rw [ev]
      unfold getV
      simp only [List.cons_append, List.nil_append]
      rw [byteZ_put]
      dsimp only
      rw [if_neg (by decide), if_neg (by decide), if_pos rfl, e]
      dsimp only
      rw [if_neg (by decide), if_pos hn]
      rfl
    · rw [if_neg k1] at hr
      by_cases k2 : k = 2
      · subst k2
        simp only [if_true] at hr
        obtain rfl := empty_str hr
        have ht := turn_bd n h0 h1
        obtain ⟨t, et⟩ := Int.eq_ofNat_of_zero_le ht.1
        have ev : encV 2 n ⟨#[]⟩ = 2 :: enc 10 t := by simp [encV, et]
        have e := numZ_put (pre ++ [2]) t r 18446744073709551615 (by omega) (by omega)
        rw [List.append_assoc, List.length_append] at e
        simp only [List.length_cons, List.length_nil, Nat.zero_add, List.cons_append, List.nil_append] at e
        rw [ev]
        unfold getV
        simp only [List.cons_append]
        rw [byteZ_put]
        dsimp only
        rw [if_neg (by decide), if_neg (by decide), if_neg (by decide), if_pos rfl, e]
        dsimp only
        rw [if_neg (by decide), ← et, back_turn, List.length_cons, enc_length]
        congr 2
        omega
      · rw [if_neg k2] at hr
        by_cases k3 : k = 3
        · subst k3
          simp only [if_true, Bool.and_eq_true, decide_eq_true_eq] at hr
          obtain ⟨rfl, hs⟩ := hr
          have ev : encV 3 0 s = 3 :: (enc 10 s.size ++ bytesS s) := by simp [encV]
          have e := textZ_put (pre ++ [3]) s r 256 (by omega) (by omega)
          rw [List.append_assoc, List.length_append] at e
          simp only [List.length_cons, List.length_nil, Nat.zero_add, List.cons_append, List.nil_append] at e
          rw [ev]
          unfold getV
          simp only [List.cons_append]
          rw [byteZ_put]
          dsimp only
          rw [if_neg (by decide), if_neg (by decide), if_neg (by decide), if_neg (by decide), if_pos rfl, e]
          dsimp only
          rw [if_neg (by decide), strOf_bytesS, List.length_cons, List.length_append, enc_length, bytesS_length]
          congr 2
          omega
        · rw [if_neg k3] at hr
          cases hr
/-- What is not got is a zero value. -/
theorem getV_none (l : List Int) (q : Nat) (h : (getV l q).2.1 ≠ 0) : (getV l q).1 = (0, 0, ⟨#[]⟩) := by
  unfold getV at h ⊢
  split
  · rfl
  · rename_i h1
    rw [if_neg h1] at h
    split
    · rfl
    · rename_i h2
      rw [if_neg h2] at h
      split
      · rename_i h3
        rw [if_pos h3] at h
        split
        · rfl
        · rename_i h4
          rw [if_neg h4] at h
          split
          · rename_i h5
            rw [if_pos h5] at h
            simp at h
          · rfl
      · rename_i h3
        rw [if_neg h3] at h
        split
        · rename_i h4
          rw [if_pos h4] at h
          split
          · rfl
          · rename_i h5
            rw [if_neg h5] at h
            simp at h
        · rename_i h4
          rw [if_neg h4] at h
          split
          · rename_i h5
            rw [if_pos h5] at h
            split
            · rfl
            · rename_i h6
              rw [if_neg h6] at h
              simp at h
          · rfl
/-- What is got is right, and put as the bytes that it was got from. -/
theorem getV_enc (l : List Int) (hb : ∀ j : Nat, 0 ≤ l[j]?.getD 0 ∧ l[j]?.getD 0 ≤ 255) (h : (getV l 0).2.1 = 0) :
    rightB (getV l 0).1.1 (getV l 0).1.2.1 (getV l 0).1.2.2 = true ∧ -9223372036854775808 ≤ (getV l 0).1.2.1 ∧ (getV l 0).1.2.1 < 9223372036854775808 ∧ (getV l 0).2.2 ≤ l.length ∧ l.take (getV l 0).2.2 = encV (getV l 0).1.1 (getV l 0).1.2.1 (getV l 0).1.2.2 := by
  have b0 := byteZ_enc l 0 (Nat.zero_le _)
  unfold getV at h ⊢
  split at h
  · rename_i h1; simp [noV] at h; exact absurd h h1
  · rename_i h1
    rw [if_neg h1]
    obtain ⟨r0, r1, r2⟩ := b0 (by omega)
    rw [List.drop_zero] at r2
    simp only [Nat.zero_add] at r0 r1
    rw [r0] at h ⊢
    have rest : ∀ m, 1 ≤ m → l.take m = (byteZ l 0).1 :: (l.drop 1).take (m - 1) := fun m hm => by
      conv => lhs; rw [show m = 1 + (m - 1) by omega, List.take_add, r2]
      rfl
    split at h
    · rename_i h2
      rw [if_pos h2]
      refine ⟨by decide +kernel, by simp [noV], by simp [noV], r1, ?_⟩
      show l.take 1 = _
      rw [r2, h2]
      simp [noV, encV]
    · rename_i h2
      rw [if_neg h2]
      split at h
      · rename_i h3
        rw [if_pos h3]
        have b1 := byteZ_enc l 1 r1
        split at h
        · rename_i h4; simp [noV] at h; exact absurd h h4
        · rename_i h4
          rw [if_neg h4]
          obtain ⟨s0, s1, s2⟩ := b1 (by omega)
          split at h
          · rename_i h5
            rw [if_pos h5]
            dsimp only
            refine ⟨?_, by omega, by omega, by omega, ?_⟩
            · rcases h5 with h5 | h5 <;> rw [h5] <;> decide +kernel
            · rw [s0, rest _ (by omega), h3, s2]
              simp [encV]
          · simp [noV] at h
      · rename_i h3
        rw [if_neg h3]
        split at h
        · rename_i h4
          rw [if_pos h4]
          have b1 := numZ_enc l 1 18446744073709551615 hb
          split at h
          · rename_i h5; simp [noV] at h; exact absurd h h5
          · rename_i h5
            rw [if_neg h5]
            dsimp only
            obtain ⟨s0, s1, _, s2, s3, s4⟩ := b1 (by omega)
            obtain ⟨t0, t1⟩ := back_bd _ s0 s1
            refine ⟨by unfold rightB; exact toList_empty, t0, t1, s3, ?_⟩
            rw [rest _ s2, h4, s4]
            simp [encV, turn_back _ s0]
        · rename_i h4
          rw [if_neg h4]
          split at h
          · rename_i h5
            rw [if_pos h5]
            have b1 := textZ_enc l 1 256 hb
            split at h
            · rename_i h6; simp [noV] at h; exact absurd h h6
            · rename_i h6
              rw [if_neg h6]
              dsimp only
              obtain ⟨s0, s1, s2, s3, s4⟩ := b1 (by omega)
              have hs : (strOf (textZ l 1 256).1).size ≤ 256 := by rw [size_strOf]; omega
              refine ⟨by simp [rightB, hs], by omega, by omega, s3, ?_⟩
              rw [rest _ s2, h5, s4]
              simp [encV, size_strOf, bytesS_strOf _ s1]
          · simp [noV] at h
end Go.Proofs.Ytabhjmfacgbbgaa
