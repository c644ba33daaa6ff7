/-
  What the document's Put, PutInt and Size make: a new row that holds the slice's bytes and behind them the number's; as many bytes as 'sz' says.
-/
import Derived.Test.YtjnkplmcopihbaaApp
namespace Go.Proofs.Ytjnkplmcopihbaa
open Go.RowKit

theorem isBytes_one (w : World) (c : Int) (h0 : 0 ≤ c) (h1 : c ≤ 255) : IsBytes (w.alloc (.cells #[.int .u8 c] 5)) (some ⟨w.heap.size, 0, none⟩) 1 1 [c] := by
  refine ⟨rfl, Nat.le_refl _, by unfold maxLen; omega, (by intro h; cases h), ?_, fun _ => ⟨w.heap.size, 0, rfl, ?_⟩⟩
  · intro j
    cases j with
    | zero => simpa using ⟨h0, h1⟩
    | succ j => simp
  · intro j hj
    obtain rfl : j = 0 := by omega
    simp

set_option maxHeartbeats 1000000 in
theorem refPut_any (a : Option Addr) (len cap : Nat) (zs : List Int) (n : Nat) (w : World) (h : IsBytes w a len cap zs) (hreach : cap ≤ 140737488351232) (hn : n < 18446744073709551616) :
    Calls Try.prog 43 #[.slice a len cap, .int .u64 n] w fun e w' =>
      ∃ v, e = .returned v ∧ w'.ownsRow w.heap.size 5 1 v (len + sz 10 n) (cellsOf (zs ++ enc 10 n)) ∧ Below w.heap.size w w' := by
  have hl := h.1
  have hcap := h.2.1
  have hs10 := sz_le 10 n
  have he := enc_length 10 n
  obtain ⟨s, hs⟩ : ∃ s, s = sz 10 n := ⟨_, rfl⟩
  rw [← hs] at hs10 he ⊢
  clear hs
  have hB0 : Below w.heap.size w (w.alloc (.cells #[] 5)) := (Below.refl _ _).alloc (Nat.le_refl _) _
  have hown0 : (w.alloc (.cells #[] 5)).ownsRow w.heap.size 5 1 (.slice (some ⟨w.heap.size, 0, none⟩) 0 0) 0 (cellsOf []) :=
    ⟨rfl, .inr ⟨w.heap.size, 0, #[], rfl, Nat.le_refl _, heap_alloc_new w _, Nat.le_refl _, Nat.zero_le _, rfl, rfl⟩⟩
  obtain ⟨v1, w1, hrun1, hown1, hg1⟩ := append_in hown0 (h.later hB0) (by simp) (by omega)
  simp only [Nat.zero_add, List.nil_append] at hown1
  have hB1 : Below w.heap.size w w1 := hB0.grown hg1 (by simp) (by intro k hk; simp [Value.ownBlock] at hk; omega)
  have HE : Hid ((enc 10 n).length = s) := he
  have HR1 : Hid (_ = _) := hrun1
  clear he h hown0 hB0 hg1 hrun1
  go_enter Try.func43, Try.ntmps43
  go_wp2_with (first | (at_builtin; refine wpList_append_run rfl (.tmp 6) (.tmp 7) 53 rfl _ _ _ rfl rfl HR1.out ?_))
  go_loopw [1, 5] (fun nv out wr => ∃ (f m : Nat) (pre : List Int), nv = .int .u64 m ∧ m < 128 ^ (f + 1) ∧ m ≤ n ∧ Hid (pre ++ enc (f + 1) m = enc 10 n) ∧
    wr.ownsRow w.heap.size 5 1 out (len + pre.length) (cellsOf (zs ++ pre)) ∧ Below w.heap.size w wr) (fun nv _ _ => (intOf nv).toNat)
  case atStart => exact ⟨9, n, [], rfl, Nat.lt_of_lt_of_le hn (by decide), Nat.le_refl _, rfl, by simpa using hown1, hB1⟩
  case round =>
    obtain ⟨f, m, pre, rfl, hf, hmn, HP, hown, hB⟩ := hrel
    have hpl : pre.length + sz (f + 1) m = s := by
      have h1 := congrArg List.length HP.out
      rw [List.length_append, enc_length, HE.out] at h1
      exact h1
    have hsp := sz_pos f m
    have hsz := hB.size
    by_cases hm : m < 128
    · have hm' : ¬ (128 : Int) ≤ (m : Int) := by omega
      have hs1 : sz (f + 1) m = 1 := by simp [sz, hm]
      have HP2 : Hid (zs ++ pre ++ [(m : Int)] = zs ++ enc 10 n) := by show _ = _; rw [← HP.out, enc_last f m hm, List.append_assoc]
      obtain ⟨v2, w2, hrun2, hown2, hg2⟩ := append_in (hown.alloc (.cells #[.int .u8 (m : Int)] 5)) (isBytes_one _ (m : Int) (by omega) (by omega)) (by simp; omega) (by omega)
      have HR2 : Hid (_ = _) := hrun2
      clear hrun2
      go_wp2_with (first | (at_builtin; refine wpList_append_run rfl (.tmp 20) (.tmp 23) 53 rfl _ _ _ rfl rfl HR2.out ?_))
      go_ret
      have hq : len + pre.length + 1 = len + s := by omega
      rw [hq, HP2.out] at hown2
      refine ⟨_, rfl, hown2, (hB.alloc hsz _).grown hg2 (by simp; omega) ?_⟩
      intro k hk
      exact (hown.lt k hk).1
    · have hm' : (128 : Int) ≤ (m : Int) := by omega
      obtain ⟨f', rfl, hf'⟩ := pow_drop f m hf (by omega)
      have HP2 : Hid (pre ++ [((m % 128 + 128 : Nat) : Int)] ++ enc (f' + 1) (m / 128) = enc 10 n) := by show _ = _; rw [← HP.out, enc_more (f' + 1) m (by omega)]; simp
      have hs1 : sz (f' + 1 + 1) m = 1 + sz (f' + 1) (m / 128) := by rw [show sz (f' + 1 + 1) m = if m < 128 then 1 else 1 + sz (f' + 1) (m / 128) from rfl, if_neg hm]
      obtain ⟨c, hcm⟩ : ∃ c : Int, c = ((m % 128 + 128 : Nat) : Int) := ⟨_, rfl⟩
      have hcm' : (m : Int) % 128 + 128 = c := by omega
      rw [← hcm] at HP2
      have hc0 : 0 ≤ c := by omega
      have hc1 : c ≤ 255 := by omega
      obtain ⟨v2, w2, hrun2, hown2, hg2⟩ := append_in (hown.alloc (.cells #[.int .u8 c] 5)) (isBytes_one _ c hc0 hc1) (by simp; omega) (by omega)
      have HR2 : Hid (_ = _) := hrun2
      clear hrun2 hcm
      go_wp2_with (first | (at_builtin; refine wpList_append_run rfl (.tmp 11) (.tmp 16) 53 rfl _ _ _ rfl rfl HR2.out ?_))
      have hq : len + pre.length + 1 = len + (pre ++ [c]).length := by simp; omega
      rw [hq, List.append_assoc] at hown2
      have hB2 : Below w.heap.size w w2 := (hB.alloc hsz _).grown hg2 (by simp; omega) (fun k hk => (hown.lt k hk).1)
      go_roundw
      case rel => exact ⟨f', m / 128, pre ++ [c], by go_num, hf', by omega, HP2, hown2, hB2⟩
      case measure => simp [intOf]; omega

end Go.Proofs.Ytjnkplmcopihbaa
