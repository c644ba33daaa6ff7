/-
  What Put writes, Read reads (P23.4): plain facts on bytes.
-/
import Derived.Test.YtjnkplmcopihbaaDcRead
namespace Go.Proofs.Ytjnkplmcopihbaa
open Go.RowKit

/-- The bytes of some texts, one behind the other. -/
def txtsB : List ByteArray → List Int
  | [] => []
  | s :: r => txtB s ++ txtsB r
theorem txtB_length (s : ByteArray) : (txtB s).length = sz 10 s.size + s.size := by rw [txtB, List.length_append, enc_length, bytesS_length]
theorem txtsB_le {L : List ByteArray} (h : ∀ s ∈ L, s.size ≤ 256) : (txtsB L).length ≤ 266 * L.length := by
  induction L with
  | nil => simp [txtsB]
  | cons s r ih =>
    have h1 := ih fun t ht => h t (List.mem_cons_of_mem _ ht)
    have h2 := h s (by simp)
    have h3 := sz_le 10 s.size
    rw [txtsB, List.length_append, txtB_length, List.length_cons]
    omega
theorem putsE_fits (most : Int) : ∀ (L : List ByteArray) (l : List Int), (l.length : Int) + (txtsB L).length ≤ most → putsE most l L = (0, l ++ txtsB L)
  | [], l, _ => by simp [putsE, txtsB]
  | s :: r, l, h => by
    rw [txtsB, List.length_append] at h
    have h1 : putE most l (txtB s) = 0 := by unfold putE; rw [if_pos (by omega)]
    have h2 : putL most l (txtB s) = l ++ txtB s := by unfold putL; rw [if_pos (by omega)]
    rw [putsE, if_pos h1, h2, putsE_fits most r (l ++ txtB s) (by rw [List.length_append]; omega), txtsB, List.append_assoc]
theorem putD_fits {most : Int} {L : List ByteArray} (h : (10 : Int) + (txtsB L).length ≤ most) : putD most [] L = (0, enc 10 L.length ++ txtsB L) := by
  have h0 := sz_le 10 L.length
  have h1 : (enc 10 L.length).length = sz 10 L.length := enc_length ..
  have e1 : putE most [] (enc 10 L.length) = 0 := by unfold putE; rw [if_pos (by simp; omega)]
  have e2 : putL most [] (enc 10 L.length) = enc 10 L.length := by unfold putL; rw [if_pos (by simp; omega), List.nil_append]
  rw [putD, if_pos e1, e2, putsE_fits _ _ _ (by omega)]
theorem addZ_new {most : Int} {L : List ByteArray} {s : ByteArray} (hs : s ∉ L) (hz : s.size ≤ 256) (hl : (L.length : Int) ≠ most) : addZ most L s = ((L.length : Int), 0, L ++ [s]) := by
  unfold addZ
  rw [numL_none.2 hs]
  dsimp only
  rw [if_neg (by omega)]
theorem takeZ_good (most : Int) : ∀ (R : List ByteArray) (pre : List Int) (L : List ByteArray), (L ++ R).Nodup → (∀ s ∈ R, s.size ≤ 256) → ((L ++ R).length : Int) ≤ most → takeZ most (pre ++ txtsB R) R.length L pre.length = (0, L ++ R, (pre ++ txtsB R).length)
  | [], pre, L, _, _, _ => by simp [takeZ, txtsB]
  | s :: r, pre, L, hn, hz, hl => by
    have hzs := hz s (by simp)
    have e := textZ_put pre s (txtsB r) 256 (by omega) (by omega)
    have e' : textZ (pre ++ txtsB (s :: r)) pre.length 256 = (bytesS s, 0, pre.length + sz 10 s.size + s.size) := e
    have hs : s ∉ L := fun h => by
      rw [List.nodup_append] at hn
      exact hn.2.2 s h s (by simp) rfl
    have hl' : (L.length : Int) ≠ most := by
      rw [List.length_append, List.length_cons] at hl
      omega
    rw [List.length_cons, takeZ, e', if_pos rfl]
    dsimp only
    rw [strOf_bytesS, addZ_new hs hzs hl']
    dsimp only
    have ih := takeZ_good most r (pre ++ txtB s) (L ++ [s]) (by simpa using hn) (fun t ht => hz t (List.mem_cons_of_mem _ ht)) (by simpa using hl)
    rw [List.length_append, txtB_length, ← Nat.add_assoc] at ih
    rw [txtsB, ← List.append_assoc, ih]
    simp
theorem readD_good {most : Int} {L : List ByteArray} (h : Txt1 most L) (h0 : 0 ≤ most) : readD most (enc 10 L.length ++ txtsB L) 0 = (0, L, (enc 10 L.length ++ txtsB L).length) := by
  have hm := h.m1
  have hf := h.fit
  have e := numZ_put [] L.length (txtsB L) most (by omega) hf
  rw [List.nil_append, List.length_nil, Nat.zero_add] at e
  have e2 := takeZ_good most L (enc 10 L.length) [] (by simpa using h.nd) h.sz (by simpa using hf)
  rw [List.nil_append, enc_length] at e2
  rw [readD, if_neg (by omega), e]
  dsimp only
  rw [if_pos rfl, Int.toNat_natCast, e2]
  dsimp only
  rw [if_neg (by omega)]
end Go.Proofs.Ytjnkplmcopihbaa
