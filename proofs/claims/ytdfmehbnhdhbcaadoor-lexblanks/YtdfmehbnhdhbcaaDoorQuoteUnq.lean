/-
  word.Unquote: any text, unquoted.
-/
import Derived.Test.YtdfmehbnhdhbcaaDoorQuoteSign
import Derived.Test.YtdfmehbnhdhbcaaDoorQuoteWritten
namespace Go.Proofs.YtdfmehbnhdhbcaaDoor
open Go.RowKit

theorem own_slice {w : World} {B e n : Nat} {v : Value} {xs : List Value} (h : w.ownsRow B e 1 v n xs) : ∃ a cap, v = .slice a n cap := by
  rcases h.2 with ⟨rfl, rfl⟩ | ⟨g, cap, cur, rfl, _⟩
  · exact ⟨_, _, rfl⟩
  · exact ⟨_, _, rfl⟩
theorem tup_unq {R : List Int × Nat × Int} {a : ByteArray} {n e : Int} (h1 : a = strOf R.1) (h2 : n = (R.2.1 : Int)) (h3 : e = R.2.2) :
    Ending.returned (.tuple #[.string a, .int .i64 n, .int .i64 e]) = .returned (.tuple #[.string (strOf R.1), .int .i64 (R.2.1 : Int), .int .i64 R.2.2]) := by rw [h1, h2, h3]
theorem ne_nil (s : ByteArray) (h : 0 < s.size) : (s.toList == ([] : List UInt8)) = false := by
  rw [ByteArray.toList_eq]
  have : s.data.toList ≠ [] := fun e => by
    have := congrArg List.length e
    simp at this
    have hz : s.size = 0 := by rw [show s.size = s.data.size from rfl, this]; rfl
    omega
  simpa using this
theorem eq_nil (s : ByteArray) (h : s.size = 0) : s = ⟨#[]⟩ := by
  apply ByteArray.ext
  apply Array.eq_empty_of_size_eq_zero
  exact h

set_option maxRecDepth 100000 in
set_option maxHeartbeats 2000000 in
theorem unquote_any (s : ByteArray) (w : World) (hT : Tabs w) (hs : s.size ≤ 140737488355328) :
    Calls Tryd.prog 20 #[.string s] w fun e w' =>
      e = .returned (.tuple #[.string (strOf (unquoteR (bytesS s)).1), .int .i64 ((unquoteR (bytesS s)).2.1 : Int), .int .i64 (unquoteR (bytesS s)).2.2]) ∧ Below w.heap.size w w' := by
  obtain ⟨R, hR⟩ : ∃ R, R = unquoteR (bytesS s) := ⟨_, rfl⟩
  rw [← hR]
  have HR : Hid (R = unquoteR (bytesS s)) := hR
  clear hR
  by_cases h0 : s.size = 0
  · have e := eq_nil s h0
    subst e
    clear hT
    go_enter Tryd.func20, Tryd.ntmps20
    go_wp2
    go_ret3
    exact ⟨tup_unq (by rw [HR.out]; rfl) (by rw [HR.out]; rfl) (by rw [HR.out]; rfl), Below.refl _ _⟩
  · have hne := ne_nil s (by omega)
    have i0 : ∀ w', (Instr.index 9 (.string s) (.int .i64 0)).run Tryd.prog w' = .ok (.int .u8 (byteAt s 0)) w' := fun w' => at_str s 0 (by omega) w'
    have hd0 := drop_at s 0 (by omega)
    rw [List.drop_zero] at hd0
    rw [hd0, unquoteR_cons] at HR
    clear hd0
    generalize hc0 : byteAt s 0 = c0 at i0 HR
    clear hc0
    by_cases h39 : c0 = 39
    · rw [if_pos h39] at HR
      subst h39
      have HT : Hid (Tabs w) := hT
      have h2 := hT.two
      clear hT
      go_enter Tryd.func20, Tryd.ntmps20
      go_wp2
      go_loopw [5, 6] (fun b at_ wr => ∃ (i f : Nat) (acc : List Int), at_ = .int .i64 i ∧ i ≤ s.size ∧ 1 ≤ i ∧ acc.length + 1 ≤ i ∧
        Hid (((bytesS s).drop i).length < f ∧ R = unqR f i acc ((bytesS s).drop i) ∧ wr.ownsRow w.heap.size 5 1 b acc.length (cellsOf acc) ∧ Below w.heap.size w wr)) (fun _ at_ _ => s.size - (intOf at_).toNat)
      case atStart => exact ⟨1, _, [], rfl, by omega, by omega, by simp, Nat.lt_succ_self _, HR.out, World.ownsRow_nil _ _ _ _, Below.refl _ _⟩
      case round =>
        obtain ⟨i, f, acc, rfl, hi, hi1, hacc, HU⟩ := hrel
        obtain ⟨f, rfl⟩ : ∃ f', f = f' + 1 := ⟨f - 1, by have := HU.out.1; omega⟩
        by_cases hlt : i < s.size
        · have hlt' : (i : Int) < (s.size : Int) := by omega
          have ii := at_str s i hlt
          have hbd := byteAt_bd s i
          have HE : Hid (R = unqR (f + 1) i acc (byteAt s i :: (bytesS s).drop (i + 1))) := by show _ = _; rw [← drop_at s i hlt]; exact HU.out.2.1
          have HL : Hid (((bytesS s).drop i).length < f + 1) := HU.out.1
          have C := sign_any s i wr (HT.out.later HU.out.2.2.2 h2) hlt hs
          have hpl := sign_place i ((bytesS s).drop i)
          have hb : ∀ x ∈ (bytesS s).drop i, 0 ≤ x ∧ x ≤ 255 := fun x hx => bytesS_bd s x (List.mem_of_mem_drop hx)
          have hone := fun hne hok => sign_one i (byteAt s i) ((bytesS s).drop (i + 1)) hne hok (by rw [← drop_at s i hlt]; exact hb)
          rw [← drop_at s i hlt] at hone
          have hlen : ((bytesS s).drop i).length = s.size - i := by rw [List.length_drop, bytesS_length]
          by_cases hq : byteAt s i = 39
          · rw [unqR_cons, if_pos hq] at HE
            rw [hq] at ii
            clear hone hpl C hb
            obtain ⟨a5, c5, e5⟩ := own_slice HU.out.2.2.1
            subst e5
            have hcv := conv_own HU.out.2.2.1
            have hne2 : ¬ (i : Int) = (s.size : Int) := by omega
            have hne2b : ((i : Int) == (s.size : Int)) = false := by simp [hne2]
            by_cases hlong : 256 < acc.length
            · have hlong' : (256 : Int) < (acc.length : Int) := by omega
              rw [if_pos hlong] at HE
              go_wp2
              try rw [Exit.noGoto_ret]
              go_ret3
              exact ⟨tup_unq (by rw [HE.out]; rfl) (by rw [HE.out]; rfl) (by rw [HE.out]), HU.out.2.2.2⟩
            · have hlong' : ¬ (256 : Int) < (acc.length : Int) := by omega
              rw [if_neg hlong] at HE
              go_wp2
              go_ret3
              exact ⟨tup_unq (by rw [HE.out]) (by rw [HE.out]; show _ = ((i + 1 : Nat) : Int); omega) (by rw [HE.out]), HU.out.2.2.2⟩
          · rw [unqR_cons, if_neg hq, ← drop_at s i hlt] at HE
            replace hone := hone hq
            have hqb : (byteAt s i == (39 : Int)) = false := by simp [hq]
            generalize hS : signR i ((bytesS s).drop i) = S at C hpl hone HE
            obtain ⟨c, m, ok⟩ := S
            dsimp only at C hpl hone HE
            have HC : Hid (Calls Tryd.prog 29 _ _ _) := C
            generalize byteAt s i = cc at ii hq hqb hbd
            clear C hS hb
            cases ok with
            | false =>
              rw [if_neg (by simp)] at HE
              clear hone
              go_wp2_with (first | (go_at_call 29; refine HC.out.mono ?_; clear HC; rintro e w1 ⟨rfl, hB1⟩))
              try rw [Exit.noGoto_ret]
              go_ret3
              have hb := HU.out.2.2.2
              exact ⟨tup_unq (by rw [HE.out]; rfl) (by rw [HE.out]) (by rw [HE.out]), hb.trans (hB1.mono hb.size)⟩
            | true =>
              rw [if_pos rfl] at HE
              obtain ⟨k, hk, hk1, hk2, _, hc0, hc1⟩ := hone rfl
              subst hk
              rw [Nat.add_sub_cancel_left, List.drop_drop] at HE
              clear hpl
              go_wp2_with (first
                | (go_at_call 29; refine HC.out.mono ?_; clear HC; rintro e w1 ⟨rfl, hB1⟩
                   have hb := HU.out.2.2.2
                   have hB := hb.trans (hB1.mono hb.size)
                   obtain ⟨v3, w3, hr3, ho3, hB3⟩ := append_lit (own_below HU.out.2.2.1 hB1) hB.size [c] (by simp; omega) (by simp) (by simp; omega)
                   have HA : Hid (_ = _) := hr3
                   clear hr3 hb)
                | (at_builtin; refine wpList_append_run rfl (.tmp 37) (.tmp 39) 33 rfl _ _ _ rfl rfl HA.out ?_))
              have hl := HL.out
              go_roundw
              case rel => exact ⟨i + k, f, acc ++ [c], by go_num, by omega, by omega, by simp; omega, by rw [List.length_drop, bytesS_length]; omega, HE.out, by rw [List.length_append]; exact ho3, hB.trans hB3⟩
              case measure => simp [intOf]; omega
        · obtain rfl : i = s.size := by omega
          have hge : ¬ (s.size : Int) < (s.size : Int) := by omega
          have HE := HU.out.2.1
          rw [drop_none s s.size (by omega), unqR_nil] at HE
          have HE' : Hid (R = ([], s.size, 4)) := HE
          clear HE
          go_wp2
          try rw [Exit.noGoto_ret]
          go_ret3
          exact ⟨tup_unq (by rw [HE'.out]; rfl) (by rw [HE'.out]) (by rw [HE'.out]), HU.out.2.2.2⟩
    · rw [if_neg h39] at HR
      have h39b : (c0 == (39 : Int)) = false := by simp [h39]
      clear hT
      go_enter Tryd.func20, Tryd.ntmps20
      go_wp2
      go_ret3
      exact ⟨tup_unq (by rw [HR.out]; rfl) (by rw [HR.out]; rfl) (by rw [HR.out]), Below.refl _ _⟩
end Go.Proofs.YtdfmehbnhdhbcaaDoor
