/-
  Names, folded texts: of no program (but for what a rune is in the model).
-/
import Derived.Test.YtjclelmbpmlioaaTxt
import Derived.Lib.SpaceUEq
namespace Go.Proofs.Ytjclelmbpmlioaa
open Go.RowKit

def smallB (c : Int) : Bool := decide (97 ≤ c ∧ c ≤ 122)
def largeB (c : Int) : Bool := decide (65 ≤ c ∧ c ≤ 90)
def laterB (c : Int) : Bool := decide (48 ≤ c ∧ c ≤ 57 ∨ c = 95)
def digitB (c : Int) : Bool := decide (48 ≤ c ∧ c ≤ 57)
def signB (c : Int) : Bool := smallB c || laterB c
def foldC (c : Int) : Int := if largeB c then c + 32 else c
def fitsB (s : ByteArray) : Bool := decide (1 ≤ s.size ∧ s.size ≤ 32)
/-- May a byte stand at a place of a name? -/
def okB (c : Int) (j : Nat) : Bool := smallB c || (laterB c && decide (j ≠ 0))
def nameB (s : ByteArray) : Bool := decide (∀ j, j < s.size → okB (byteAt s j) j = true) && fitsB s
def upperB (s : ByteArray) : Bool := decide (∀ j, j < s.size → largeB (byteAt s j) = true) && fitsB s
def foldS (s : ByteArray) : ByteArray := strOf ((bytesS s).map foldC)

theorem nameB_all {s : ByteArray} (h : ∀ j, j < s.size → okB (byteAt s j) j = true) : nameB s = fitsB s := by
  unfold nameB; rw [decide_eq_true h]; simp
theorem nameB_not {s : ByteArray} (j : Nat) (hj : j < s.size) (h : okB (byteAt s j) j = false) : nameB s = false := by
  unfold nameB; rw [decide_eq_false (fun k => by rw [k j hj] at h; cases h)]; simp
theorem upperB_all {s : ByteArray} (h : ∀ j, j < s.size → largeB (byteAt s j) = true) : upperB s = fitsB s := by
  unfold upperB; rw [decide_eq_true h]; simp
theorem upperB_not {s : ByteArray} (j : Nat) (hj : j < s.size) (h : largeB (byteAt s j) = false) : upperB s = false := by
  unfold upperB; rw [decide_eq_false (fun k => by rw [k j hj] at h; cases h)]; simp

theorem foldC_bd (c : Int) (h : 0 ≤ c ∧ c ≤ 255) : 0 ≤ foldC c ∧ foldC c ≤ 255 := by
  unfold foldC largeB; simp only [decide_eq_true_eq]; split <;> omega
theorem foldC_fold (c : Int) : foldC (foldC c) = foldC c := by
  unfold foldC largeB; simp only [decide_eq_true_eq]; repeat' split
  all_goals omega
theorem bytesS_fold (s : ByteArray) : bytesS (foldS s) = (bytesS s).map foldC := by
  refine bytesS_strOf _ fun c hc => ?_
  obtain ⟨d, hd, rfl⟩ := List.mem_map.1 hc
  exact foldC_bd d (bytesS_bd s d hd)
theorem fold_size (s : ByteArray) : (foldS s).size = s.size := by
  rw [← bytesS_length, bytesS_fold, List.length_map, bytesS_length]
theorem fold_fold (s : ByteArray) : foldS (foldS s) = foldS s := by
  show strOf ((bytesS (foldS s)).map foldC) = strOf ((bytesS s).map foldC)
  rw [bytesS_fold, List.map_map]
  congr 1
  exact List.map_congr_left fun c _ => foldC_fold c
theorem fold_at (s : ByteArray) (j : Nat) (hj : j < s.size) : byteAt (foldS s) j = foldC (byteAt s j) := by
  have h : j < (bytesS s).length := by rw [bytesS_length]; exact hj
  simp [byteAt, bytesS_fold, h]
theorem upper_fold (s : ByteArray) (h : upperB s = true) : nameB (foldS s) = true ∧ nameB s = false := by
  unfold upperB at h
  simp only [Bool.and_eq_true, decide_eq_true_eq] at h
  obtain ⟨h1, h2⟩ := h
  have hf : fitsB (foldS s) = true := by unfold fitsB at h2 ⊢; rw [fold_size]; exact h2
  constructor
  · rw [nameB_all, hf]
    intro j hj
    rw [fold_size] at hj
    rw [fold_at s j hj]
    have := h1 j hj
    unfold okB foldC
    rw [this, if_pos rfl]
    unfold largeB at this
    simp only [decide_eq_true_eq] at this
    have hs : smallB (byteAt s j + 32) = true := by unfold smallB; simp only [decide_eq_true_eq]; omega
    rw [hs]; rfl
  · unfold fitsB at h2
    simp only [decide_eq_true_eq] at h2
    have h0 := h1 0 (by omega)
    refine nameB_not 0 (by omega) ?_
    unfold largeB at h0
    simp only [decide_eq_true_eq] at h0
    have hs : smallB (byteAt s 0) = false := by unfold smallB; simp only [decide_eq_false_iff_not]; omega
    unfold okB
    rw [hs]; simp
theorem name_fold (s : ByteArray) (h : nameB s = true) : foldS s = s := by
  unfold nameB at h
  simp only [Bool.and_eq_true, decide_eq_true_eq] at h
  conv => rhs; rw [← strOf_bytesS s]
  unfold foldS
  congr 1
  conv => rhs; rw [← List.map_id (bytesS s)]
  refine List.map_congr_left fun c hc => ?_
  obtain ⟨j, hj, rfl⟩ := List.getElem_of_mem hc
  have hj' : j < s.size := by rw [← bytesS_length]; exact hj
  have hk := h.1 j hj'
  have e : byteAt s j = (bytesS s)[j] := by simp [byteAt, hj]
  rw [← e]
  have hl : largeB (byteAt s j) = false := by
    unfold okB smallB laterB at hk
    simp only [Bool.or_eq_true, Bool.and_eq_true, decide_eq_true_eq] at hk
    unfold largeB; simp only [decide_eq_false_iff_not]
    omega
  unfold foldC
  rw [hl]; rfl

/-! ### Runes -/
theorem get!_at (s : ByteArray) (k : Nat) (h : k < s.size) : s.get! k = s[k]'h := by
  have := get_at s k h
  rwa [Nat.add_zero] at this
/-- A rune that is no byte below 128 goes over bytes none of which is below 128, and ends within the text. -/
theorem rune_over (s : ByteArray) (p : Nat) (h : p < s.size) (ha : 128 ≤ byteAt s p) :
    128 ≤ (Utf8.decode s p).1 ∧ 1 ≤ (Utf8.decode s p).2 ∧ p + (Utf8.decode s p).2 ≤ s.size ∧ ∀ j, p ≤ j → j < p + (Utf8.decode s p).2 → 128 ≤ byteAt s j := by
  have hh := decode_high s p h (by have := byteAt_get s p h; omega)
  have hd := Lib.decodeN_conts (s.size - p) (s.get! p).toNat (s.get! (p + 1)).toNat (s.get! (p + 2)).toNat (s.get! (p + 3)).toNat
  rw [← Lib.decode_at] at hd
  obtain ⟨d1, d2, d3, d4⟩ := hd
  refine ⟨hh.1, hh.2, by omega, fun j h1 h2 => ?_⟩
  have key : ∀ k, p + k < s.size → (s.get! (p + k)).toNat / 64 = 2 → 128 ≤ byteAt s (p + k) := by
    intro k hk hq
    rw [get!_at s _ hk] at hq
    have := byteAt_get s _ hk
    omega
  obtain ⟨k, rfl⟩ := Nat.exists_eq_add_of_le h1
  match k, h2 with
  | 0, _ => exact ha
  | 1, h2 => exact key 1 (by omega) (d1 (by omega)).1
  | 2, h2 => exact key 2 (by omega) (d2 (by omega)).1
  | 3, h2 => exact key 3 (by omega) (d3 (by omega)).1
  | k + 4, h2 => omega
theorem rune_byte (s : ByteArray) (p : Nat) (h : p < s.size) (ha : byteAt s p < 128) : Utf8.decode s p = ((byteAt s p).toNat, 1) := by
  have e := byteAt_get s p h
  rw [decode_ascii s p h (by omega)]
  congr 1
  omega
theorem awake_name : nameB ⟨#[97, 49, 95]⟩ = true := by decide
end Go.Proofs.Ytjclelmbpmlioaa
