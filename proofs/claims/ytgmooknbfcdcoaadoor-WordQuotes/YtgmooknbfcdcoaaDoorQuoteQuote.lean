/-
  word.Quote: any text, quoted.
-/
import Derived.Test.YtgmooknbfcdcoaaDoorQuoteWritten
namespace Go.Proofs.YtgmooknbfcdcoaaDoor
open Go.RowKit

theorem written_any {w : World} {base L : Nat} {v : Value} {l : List Int} (c : Int) (h0 : 0 ≤ c) (h1 : c ≤ 255) (hT : Tabs w) (hown : w.ownsRow base 5 1 v L (cellsOf l)) (hb : base ≤ w.heap.size) (h2 : 2 ≤ base) (hbd : L + 4 ≤ 140737488355328) :
    Calls Tryd.prog 11 #[v, .int .u8 c] w fun e w' => ∃ v', e = .returned v' ∧ w'.ownsRow base 5 1 v' (L + (signL c).length) (cellsOf (l ++ signL c)) ∧ Below base w w' := by
  cases hp : plainB c with
  | true => exact written_plain c h0 h1 hp hT hown hb hbd
  | false => exact written_coded c h0 h1 hp hT hown hb h2 hbd

/-- What is quoted of the first k bytes. -/
def upTo (s : ByteArray) (k : Nat) : List Int := 39 :: bodyL ((bytesS s).take k)
theorem upTo_succ (s : ByteArray) (k : Nat) (hk : k < s.size) : upTo s (k + 1) = upTo s k ++ signL (byteAt s k) := by
  have h : k < (bytesS s).length := by rw [bytesS_length]; exact hk
  have e : byteAt s k = (bytesS s)[k] := by simp [byteAt, h]
  unfold upTo
  rw [List.take_succ_eq_append_getElem h, bodyL_snoc, e]; rfl
theorem upTo_len (s : ByteArray) (k : Nat) : (upTo s k).length ≤ 4 * k + 1 := by
  have := bodyL_len ((bytesS s).take k)
  have h2 : ((bytesS s).take k).length ≤ k := by simp; omega
  unfold upTo
  rw [List.length_cons]
  omega
theorem upTo_all (s : ByteArray) (k : Nat) (hk : s.size ≤ k) : upTo s k ++ [39] = quoteL (bytesS s) := by
  unfold upTo quoteL
  rw [List.take_of_length_le (by rw [bytesS_length]; exact hk)]; rfl

set_option maxHeartbeats 400000 in
theorem quote_long (s : ByteArray) (w : World) (h : 256 < s.size) : Calls Tryd.prog 6 #[.string s] w fun e w' => e = .returned (.tuple #[.string ⟨#[]⟩, .int .i64 2]) ∧ w' = w := by
  have h' : (256 : Int) < (s.size : Int) := by omega
  go_enter Tryd.func6, Tryd.ntmps6
  go_wp2
  go_ret2
  exact ⟨rfl, rfl⟩

set_option maxRecDepth 100000 in
set_option maxHeartbeats 1000000 in
theorem quote_ok (s : ByteArray) (w : World) (hT : Tabs w) (h : s.size ≤ 256) :
    Calls Tryd.prog 6 #[.string s] w fun e w' => e = .returned (.tuple #[.string (strOf (quoteL (bytesS s))), .int .i64 0]) ∧ Below w.heap.size w w' := by
  have h' : ¬ (256 : Int) < (s.size : Int) := by omega
  have HT : Hid (Tabs w) := hT
  have h2 := hT.two
  have HO : Hid ((w.alloc (.cells #[.int .u8 39] 5)).ownsRow w.heap.size 5 1 (.slice (some ⟨w.heap.size, 0, none⟩) 1 1) 1 (cellsOf (upTo s 0))) :=
    ⟨rfl, .inr ⟨w.heap.size, 1, #[.int .u8 39], rfl, Nat.le_refl _, heap_alloc_new w _, Nat.le_refl _, by unfold maxLen; omega, rfl, rfl⟩⟩
  clear hT
  go_enter Tryd.func6, Tryd.ntmps6
  go_wp2
  go_loopw [4, 12] (fun b i wr => ∃ k : Nat, i = .int .i64 k ∧ k ≤ s.size ∧ Hid (wr.ownsRow w.heap.size 5 1 b (upTo s k).length (cellsOf (upTo s k)) ∧ Below w.heap.size w wr)) (fun _ i _ => s.size - (intOf i).toNat)
  case atStart => exact ⟨0, rfl, Nat.zero_le _, HO.out, (Below.refl _ _).alloc (Nat.le_refl _) _⟩
  case round =>
    obtain ⟨k, rfl, hk, HR⟩ := hrel
    have hlen := upTo_len s k
    by_cases hlt : k < s.size
    · have hlt' : (k : Int) < (s.size : Int) := by omega
      have hidx := at_str s k hlt
      have hbd := byteAt_bd s k
      have C := written_any (byteAt s k) hbd.1 hbd.2 (HT.out.later HR.out.2 h2) HR.out.1 HR.out.2.size h2 (by omega)
      have HC : Hid (Calls Tryd.prog 11 _ _ _) := C
      clear C
      go_wp2_with (first | (go_at_call 11; refine HC.out.mono ?_; clear HC; rintro e w1 ⟨v1, rfl, ho1, hB1⟩))
      go_roundw
      case rel => exact ⟨k + 1, by go_num, by omega, by rw [upTo_succ s k hlt, List.length_append]; exact ho1, HR.out.2.trans hB1⟩
      case measure => simp [intOf]; omega
    · have hge : ¬ (k : Int) < (s.size : Int) := by omega
      obtain ⟨v3, w3, hr3, ho3, hB3⟩ := append_lit HR.out.1 HR.out.2.size [39] (by simp) (by simp) (by simp; omega)
      rw [upTo_all s k (by omega)] at ho3
      have hcv := conv_own ho3
      have HA : Hid (_ = _) := hr3
      have HB : Hid (Below w.heap.size w w3) := HR.out.2.trans hB3
      clear hr3 ho3
      go_wp2_with (first | (at_builtin; refine wpList_append_run rfl (.tmp 21) (.tmp 22) 34 rfl _ _ _ rfl rfl HA.out ?_))
      go_ret2
      exact ⟨rfl, HB.out⟩
end Go.Proofs.YtgmooknbfcdcoaaDoor
