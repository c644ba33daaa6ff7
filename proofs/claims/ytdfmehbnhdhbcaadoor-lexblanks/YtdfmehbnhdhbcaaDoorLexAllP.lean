/-
  lex.All: all tokens of a text.
-/
import Derived.Test.YtdfmehbnhdhbcaaDoorLexFirst
import Derived.Test.YtdfmehbnhdhbcaaDoorLexRows
namespace Go.Proofs.YtdfmehbnhdhbcaaDoor
open Go.RowKit

/-- What All answers: the tokens in a row of its own, the place, the error. -/
def AllR (Z : List Tk × Nat × Int) (w : World) (e : Ending) (w' : World) : Prop :=
  ∃ v, e = .returned (.tuple #[v, .int .i64 (Z.2.1 : Int), .int .i64 Z.2.2]) ∧ w'.ownsRow w.heap.size 29 3 v Z.1.length (cellsT Z.1) ∧ Below w.heap.size w w'
theorem slice_from (s : ByteArray) (i : Nat) (h : i ≤ s.size) (w : World) : (Instr.slice 9 (.string s) (some (.int .i64 (i : Int))) none none).run Tryd.prog w = .ok (.string (s.extract i s.size)) w := by
  rw [run_slice_string_from_if w 9 s .i64 (i : Int) Tryd.underlying9, if_pos ⟨by omega, by omega⟩, Int.toNat_natCast]
theorem size_drop (s : ByteArray) (i : Nat) : (s.extract i s.size).size = s.size - i := by
  rw [← bytesS_length, bytes_drop, List.length_drop, bytesS_length]
theorem size_alloc (w : World) (o : Obj) : (w.alloc o).heap.size = w.heap.size + 1 := by simp
theorem glue_bad (acc l : List Tk) (i : Nat) (e : Int) (h : ¬ e = 0) : glueT acc (l, i, e) = ([], i, e) := if_neg h
theorem glue_good (acc l : List Tk) (i : Nat) : glueT acc (l, i, 0) = (acc ++ l, i, 0) := if_pos rfl

set_option maxHeartbeats 400000 in
theorem all_long (s : ByteArray) (w : World) (h : 8192 < s.size) : Calls Tryd.prog 6 #[.string s] w (AllR (allZ s) w) := by
  have e : allZ s = ([], 0, 2) := if_pos h
  rw [e]
  have h' : (8192 : Int) < (s.size : Int) := by omega
  go_enter Tryd.func6, Tryd.ntmps6
  go_wp2
  exact bodyPost_ret (v := .tuple #[.slice none 0 0, .int .i64 0, .int .i64 2]) (by simp [results, Tryd.results6, go_sem]) rfl ⟨_, rfl, World.ownsRow_nil _ _ _ _, Below.refl _ _⟩
set_option maxRecDepth 100000 in
set_option maxHeartbeats 4000000 in
theorem all_short (s : ByteArray) (w : World) (hT : LexT w) (h : s.size ≤ 8192) : Calls Tryd.prog 6 #[.string s] w (AllR (allZ s) w) := by
  have hZ := allZ_small s h
  unfold allR at hZ
  rw [Nat.zero_add] at hZ
  obtain ⟨Z, hZ'⟩ : ∃ Z, Z = allZ s := ⟨_, rfl⟩
  rw [← hZ'] at hZ ⊢
  have hT1 := tok_err (s.size + 1) (spanN blankB (bytesS s)) ((bytesS s).drop (spanN blankB (bytesS s))) (by rw [List.length_drop, bytesS_length]; omega) (fun x hx => bytesS_bd s x (List.mem_of_mem_drop hx))
  have hg := glue_nil _ hT1.1
  have hsp := spanN_le blankB (bytesS s)
  rw [bytesS_length] at hsp
  have HC : Hid (∀ w', Calls Tryd.prog 9 #[.string s, .func (.func 10) #[] #[]] w' _) := fun w' => len_blank s w'
  generalize spanN blankB (bytesS s) = b0 at hZ hg hsp HC
  rw [← hg] at hZ
  have HZ : Hid (Z = glueT [] (tokR (s.size + 1) b0 ((bytesS s).drop b0))) := hZ
  have HT : Hid (LexT w) := hT
  have h' : ¬ (8192 : Int) < (s.size : Int) := by omega
  clear hT hT1 hg hZ hZ'
  go_enter Tryd.func6, Tryd.ntmps6
  go_wp2_with (first | (go_at_call 9; refine (HC.out _).mono ?_; clear HC; rintro e w1 ⟨rfl, hB1⟩))
  have H1 : Hid (Below w.heap.size w w1) := hB1
  clear hB1
  go_loopw [5, 6] (fun l at_ wr => ∃ (i f : Nat) (acc : List Tk), at_ = .int .i64 i ∧ i ≤ s.size ∧ acc.length ≤ i ∧
    Hid (s.size - i < f ∧ Z = glueT acc (tokR f i ((bytesS s).drop i)) ∧ wr.ownsRow w.heap.size 29 3 l acc.length (cellsT acc) ∧ Below w.heap.size w wr)) (fun _ at_ _ => s.size - (intOf at_).toNat)
  case atStart => exact ⟨b0, _, [], rfl, hsp, by simp, by omega, HZ.out, World.ownsRow_nil _ _ _ _, H1.out⟩
  case round =>
    clear HZ H1
    obtain ⟨i, f, acc, rfl, hi, hacc, HU⟩ := hrel
    obtain ⟨f, rfl⟩ : ∃ f', f = f' + 1 := ⟨f - 1, by have := HU.out.1; omega⟩
    have HW : Hid (Below w.heap.size w wr) := HU.out.2.2.2
    have HO : Hid (wr.ownsRow w.heap.size 29 3 u5 acc.length (cellsT acc)) := HU.out.2.2.1
    have HF : Hid (s.size - i < f + 1) := HU.out.1
    by_cases hlt : i < s.size
    · have hlt' : (i : Int) < (s.size : Int) := by omega
      have hsl := slice_from s i hi
      have hf := first_any (s.extract i s.size) wr (HT.out.later HW.out) (by rw [size_drop]; omega) (by rw [size_drop]; omega)
      rw [bytes_drop] at hf
      have hE := HU.out.2.1
      rw [drop_at s i hlt, tokR_cons, ← drop_at s i hlt] at hE
      have hO := oneR_ok (byteAt s i) ((bytesS s).drop (i + 1)) (by rw [← drop_at s i hlt]; exact fun x hx => bytesS_bd s x (List.mem_of_mem_drop hx))
      rw [← drop_at s i hlt] at hO
      have hfar := hO.far
      have hpos := hO.pos
      rw [List.length_drop, bytesS_length] at hfar
      generalize s.extract i s.size = t at hsl hf
      generalize oneR ((bytesS s).drop i) = R at hf hE hfar hpos
      obtain ⟨k, S, n, e⟩ := R
      unfold tokV at hf
      dsimp only at hf hE hfar hpos
      rw [List.drop_drop] at hE
      have HC : Hid (Calls Tryd.prog 11 _ _ _) := hf
      clear hf hO HU
      by_cases he : e = 0
      · subst he
        rw [if_pos rfl, glue_cons] at hE
        unfold allR at hE
        rw [List.drop_drop] at hE
        replace hpos := hpos rfl
        have hsl2 := slice_from s (i + n) (by omega)
        have hl2 := len_blank (s.extract (i + n) s.size)
        rw [bytes_drop] at hl2
        have hsp2 := spanN_le blankB ((bytesS s).drop (i + n))
        rw [List.length_drop, bytesS_length] at hsp2
        generalize s.extract (i + n) s.size = t2 at hsl2 hl2
        generalize spanN blankB ((bytesS s).drop (i + n)) = b2 at hl2 hE hsp2
        generalize strOf S = y at HC hE
        have HL : Hid (∀ w', Calls Tryd.prog 9 #[.string t2, .func (.func 10) #[] #[]] w' _) := fun w' => hl2 w'
        have HE : Hid (Z = glueT (acc ++ [⟨k, y, i⟩]) (tokR f (i + n + b2) ((bytesS s).drop (i + n + b2)))) := hE
        clear hl2 hE
        rw [Int.natCast_add] at hsl2
        go_wp2_with (first
          | (go_at_call 11; refine HC.out.mono ?_; clear HC; rintro e w1 ⟨rfl, hB1⟩
             have O1 := own_below HO.out hB1
             have K1 := HW.out.trans (hB1.mono HW.out.size)
             have K2 := K1.alloc K1.size (.cells #[.int .i64 k, .string y, .int .i64 (i : Int)] 29)
             obtain ⟨v3, w3, r3, o3, g3⟩ := snocT (own_below O1 (below_alloc w1 (.cells #[.int .i64 k, .string y, .int .i64 (i : Int)] 29))) K2.size (by omega) k y i
             have K3 := K2.trans g3
             rw [size_alloc] at r3
             have HA : Hid (_ = _) := r3
             have O3 : Hid (w3.ownsRow w.heap.size 29 3 v3 (acc.length + 1) (cellsT (acc ++ [⟨k, y, i⟩]))) := o3
             clear r3 o3 g3 O1 K1 K2)
          | (at_builtin; refine wpList_append_run rfl (.tmp 35) (.tmp 37) 22 rfl _ _ _ rfl rfl HA.out ?_)
          | (go_at_call 9; refine (HL.out _).mono ?_; clear HL; rintro e w4 ⟨rfl, hB4⟩))
        go_roundw
        case rel =>
          have := HF.out
          exact ⟨i + n + b2, f, acc ++ [⟨k, y, i⟩], by go_num, by omega, by simp; omega, by omega, HE.out, by rw [List.length_append]; exact own_below O3.out hB4, K3.trans (hB4.mono K3.size)⟩
        case measure => simp [intOf]; omega
      · rw [if_neg he, glue_bad _ _ _ _ he] at hE
        have HE : Hid (Z = ([], i + n, e)) := hE
        have heb : (e == (0 : Int)) = false := by simp [he]
        clear hE hpos
        generalize strOf S = y at HC
        go_wp2_with (first
          | (go_at_call 11; refine HC.out.mono ?_; clear HC; rintro e w1 ⟨rfl, hB1⟩
             have K1 := HW.out.trans (hB1.mono HW.out.size)))
        try rw [Exit.noGoto_ret]
        refine bodyPost_ret (v := .tuple #[.slice none 0 0, .int .i64 (i + n : Nat), .int .i64 e]) (by simp [results, Tryd.results6, go_sem]) rfl ?_
        rw [HE.out]
        exact ⟨_, rfl, World.ownsRow_nil _ _ _ _, K1.alloc K1.size _⟩
    · obtain rfl : i = s.size := by omega
      have hge : ¬ (s.size : Int) < (s.size : Int) := by omega
      have HE := HU.out.2.1
      rw [drop_none s s.size (by omega), tokR_nil, glue_good] at HE
      have HE' : Hid (Z = (acc ++ [⟨6, ⟨#[]⟩, s.size⟩], s.size, 0)) := HE
      obtain ⟨v3, w3, r3, o3, g3⟩ := snocT HO.out HW.out.size (by omega) 6 ⟨#[]⟩ s.size
      have HA : Hid (_ = _) := r3
      have K3 := HW.out.trans g3
      clear HE r3 g3 HU
      go_wp2_with (first
        | (at_builtin; refine wpList_append_run rfl (.tmp 48) (.tmp 51) 22 rfl _ _ _ rfl rfl HA.out ?_))
      refine bodyPost_ret (v := .tuple #[v3, .int .i64 (s.size : Int), .int .i64 0]) (by simp [results, Tryd.results6, go_sem]) rfl ?_
      rw [HE'.out]
      exact ⟨_, rfl, by rw [List.length_append]; exact o3, K3⟩
theorem all_lex (s : ByteArray) (w : World) (hT : LexT w) : Calls Tryd.prog 6 #[.string s] w (AllR (allZ s) w) := by
  by_cases h : 8192 < s.size
  · exact all_long s w h
  · exact all_short s w hT (by omega)
end Go.Proofs.YtdfmehbnhdhbcaaDoor
