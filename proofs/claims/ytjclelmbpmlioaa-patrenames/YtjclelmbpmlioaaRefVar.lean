/-
  The document's Name of conditions: a name's new name.
-/
import Derived.Test.YtjclelmbpmlioaaFirstsMap
import Derived.Test.YtjclelmbpmlioaaTxs
import Derived.Deep.DeepCutAuto
namespace Go.Proofs.Ytjclelmbpmlioaa
open Go.RowKit

theorem nameX_one (v w s : ByteArray) : nameX (fun _ => v) (fun _ => w) 1 s = if v = s then w else s := by
  unfold nameX
  simp only [fstS]
  by_cases h : v = s
  · simp [h]
  · simp [h]
theorem bytes_eq {a b : ByteArray} (h : a.toList = b.toList) : a = b := by
  rw [ByteArray.toList_eq, ByteArray.toList_eq] at h
  exact ByteArray.ext (Array.ext' h)
theorem fstS_of {S : Nat → ByteArray} {s : ByteArray} {n j : Nat} (h1 : j < n) (h2 : S j = s) (h3 : ∀ j', j' < j → S j' ≠ s) : fstS S s n = some j := by
  cases e : fstS S s n with
  | none => exact absurd h2 (fstS_none e j h1)
  | some q =>
    obtain ⟨q1, q2, q3⟩ := fstS_some e
    by_cases h : q < j
    · exact absurd q2 (h3 q h)
    · by_cases h' : j < q
      · exact absurd h2 (q3 j h')
      · rw [show q = j by omega]
theorem fstS_nil {S : Nat → ByteArray} {s : ByteArray} {n : Nat} (h : ∀ j, j < n → S j ≠ s) : fstS S s n = none := by
  cases e : fstS S s n with
  | none => rfl
  | some q =>
    obtain ⟨q1, q2, _⟩ := fstS_some e
    exact absurd q2 (h q q1)
theorem name_none {S T : Nat → ByteArray} {s : ByteArray} {m m' : Nat} (h : ∀ j, j < m → S j ≠ s) : nameX S T (min m m') s = s := by
  unfold nameX
  rw [fstS_nil fun j hj => h j (by omega)]
theorem name_hit {S T : Nat → ByteArray} {s : ByteArray} {m m' p : Nat} (h1 : p < m) (h2 : S p = s) (h3 : ∀ j, j < p → S j ≠ s) (h4 : p < m') : nameX S T (min m m') s = T p := by
  unfold nameX
  rw [fstS_of (by omega) h2 h3]
theorem name_past {S T : Nat → ByteArray} {s : ByteArray} {m m' p : Nat} (h3 : ∀ j, j < p → S j ≠ s) (h4 : ¬ p < m') : nameX S T (min m m') s = s := by
  unfold nameX
  rw [fstS_nil fun j hj => h3 j (by omega)]
set_option maxRecDepth 100000 in
set_option maxHeartbeats 4000000 in
theorem refVar_wide (s : ByteArray) (a a' : Option Addr) (m m' cap cap' : Nat) (S T : Nat → ByteArray) (w : World) (hS : Txs w a m S) (hT : Txs w a' m' T) (hm : m ≤ 9223372036854775807) (hm' : m' ≤ 9223372036854775807) :
    Calls Try.prog 26 #[.string s, .slice a m cap, .slice a' m' cap'] w fun e w' => e = .returned (.string (nameX S T (min m m') s)) ∧ w' = w := by
  have HS : Hid (Txs w a m S) := hS
  have HT : Hid (Txs w a' m' T) := hT
  obtain ⟨r, hr⟩ : ∃ r, r = nameX S T (min m m') s := ⟨_, rfl⟩
  rw [← hr]
  clear hS hT
  cases hf : fstS S s m with
  | none =>
    have hno := fstS_none hf
    have HN : Hid (∀ j, j < m → S j ≠ s) := hno
    have HR : Hid (r = s) := hr.trans (name_none hno)
    clear hf hr hno
    go_enter Try.func26, Try.ntmps26
    go_wp2
    go_loopw [7] (fun i wr => ∃ k : Nat, k ≤ m ∧ i = .int .i64 k ∧ wr = w) (fun i _ => m - (intOf i).toNat)
    case atStart => exact ⟨0, Nat.zero_le _, rfl, rfl⟩
    case round =>
      obtain ⟨k, hk, rfl, hwr⟩ := hrel
      subst hwr
      by_cases hlt : k < m
      · have HLT : Hid (k < m) := hlt
        obtain ⟨b, o, rfl, hc⟩ := HS.out (by omega)
        have ck := hc k hlt
        have hne : ((S k).toList == s.toList) = false := by
          rw [beq_eq_false_iff_ne]
          exact fun q => HN.out k hlt (bytes_eq q)
        clear hc hlt
        go_wp2
        go_roundw
        case rel => exact ⟨k + 1, HLT.out, by go_num, by first | trivial | rfl⟩
        case measure => have := HLT.out; simp [intOf]; omega
      · obtain rfl : k = m := by omega
        go_wp2
        go_ret
        exact ⟨by rw [HR.out]; rfl, rfl⟩
  | some p =>
    obtain ⟨h1, h2, h3⟩ := fstS_some hf
    have HN : Hid (∀ j, j < p → S j ≠ s) := h3
    have HP : Hid (p < m) := h1
    have HE : Hid (S p = s) := h2
    have HR1 : Hid (p < m' → r = T p) := fun h => hr.trans (name_hit h1 h2 h3 h)
    have HR2 : Hid (¬ p < m' → r = s) := fun h => hr.trans (name_past h3 h)
    clear hf hr h1 h2 h3
    go_enter Try.func26, Try.ntmps26
    go_wp2
    go_loopw [7] (fun i wr => ∃ k : Nat, k ≤ p ∧ i = .int .i64 k ∧ wr = w) (fun i _ => p - (intOf i).toNat)
    case atStart => exact ⟨0, Nat.zero_le _, rfl, rfl⟩
    case round =>
      obtain ⟨k, hk, rfl, hwr⟩ := hrel
      subst hwr
      have hlt : k < m := by have := HP.out; omega
      obtain ⟨b, o, rfl, hc⟩ := HS.out (by omega)
      have ck := hc k hlt
      clear hc
      by_cases hkp : k = p
      · have HKP : Hid (k = p) := hkp
        have hne : ((S k).toList == s.toList) = true := by rw [hkp, HE.out]; simp
        by_cases hpm : k < m'
        · obtain ⟨b', o', rfl, hc'⟩ := HT.out (by omega)
          have ck' := hc' k hpm
          have HR : Hid (r = T k) := by show r = T k; rw [hkp] at hpm ⊢; exact HR1.out hpm
          clear hc' hkp
          go_wp2
          go_ret
          exact ⟨by rw [HR.out]; rfl, rfl⟩
        · have HR : Hid (r = s) := HR2.out (by rw [← hkp]; exact hpm)
          clear hkp
          go_wp2
          go_ret
          exact ⟨by rw [HR.out]; rfl, rfl⟩
      · have HKP : Hid (¬ k = p) := hkp
        have hne : ((S k).toList == s.toList) = false := by
          rw [beq_eq_false_iff_ne]
          exact fun q => HN.out k (by omega) (bytes_eq q)
        clear hkp
        go_wp2
        go_roundw
        case rel => exact ⟨k + 1, by have := HKP.out; omega, by go_num, by first | trivial | rfl⟩
        case measure => have := HKP.out; simp [intOf]; omega
theorem refVar_any (s : ByteArray) (a a' : Option Addr) (m m' cap cap' : Nat) (S T : Nat → ByteArray) (w : World) (hS : Txs w a m S) (hT : Txs w a' m' T) (hm : m ≤ 1048576) (hm' : m' ≤ 1048576) :
    Calls Try.prog 26 #[.string s, .slice a m cap, .slice a' m' cap'] w fun e w' => e = .returned (.string (nameX S T (min m m') s)) ∧ w' = w := refVar_wide s a a' m m' cap cap' S T w hS hT (by omega) (by omega)
end Go.Proofs.Ytjclelmbpmlioaa
