/-
  The document's All of layer 17.
-/
import Derived.Test.YtdfmehbnhdhbcaaDoorLexRefOne
import Derived.Test.YtdfmehbnhdhbcaaDoorLexAllP
namespace Go.Proofs.YtdfmehbnhdhbcaaDoor
open Go.RowKit

set_option maxHeartbeats 400000 in
theorem rall_long (s : ByteArray) (w : World) (h : 8192 < s.size) : Calls Tryd.prog 7 #[.string s] w (AllR (allZ s) w) := by
  have e : allZ s = ([], 0, 2) := if_pos h
  rw [e]
  have h' : (8192 : Int) < (s.size : Int) := by omega
  go_enter Tryd.func7, Tryd.ntmps7
  go_wp2
  exact bodyPost_ret (v := .tuple #[.slice none 0 0, .int .i64 0, .int .i64 2]) (by simp [results, Tryd.results7, go_sem]) rfl ⟨_, rfl, World.ownsRow_nil _ _ _ _, Below.refl _ _⟩
set_option maxRecDepth 100000 in
set_option maxHeartbeats 4000000 in
theorem rall_short (s : ByteArray) (w : World) (h : s.size ≤ 8192) : Calls Tryd.prog 7 #[.string s] w (AllR (allZ s) w) := by
  have hZ := glue_nil _ (allZ_err s).1
  obtain ⟨Z, hZ'⟩ : ∃ Z, Z = allZ s := ⟨_, rfl⟩
  rw [allZ_small s h] at hZ hZ'
  rw [allZ_small s h, ← hZ']
  rw [← hZ] at hZ'
  have HZ : Hid (Z = glueT [] (allR (s.size + 1) 0 ((bytesS s).drop 0))) := hZ'
  have h' : ¬ (8192 : Int) < (s.size : Int) := by omega
  clear hZ hZ'
  go_enter Tryd.func7, Tryd.ntmps7
  go_wp2
  go_loopw [5, 6] (fun l at_ wr => ∃ (i f : Nat) (acc : List Tk), at_ = .int .i64 i ∧ i ≤ s.size ∧ acc.length ≤ i ∧
    Hid (s.size - i < f ∧ Z = glueT acc (allR f i ((bytesS s).drop i)) ∧ wr.ownsRow w.heap.size 29 3 l acc.length (cellsT acc) ∧ Below w.heap.size w wr)) (fun _ at_ _ => s.size - (intOf at_).toNat)
  case atStart => exact ⟨0, _, [], rfl, Nat.zero_le _, by simp, by omega, HZ.out, World.ownsRow_nil _ _ _ _, Below.refl _ _⟩
  case round =>
    clear HZ
    obtain ⟨i, f, acc, rfl, hi, hacc, HU⟩ := hrel
    obtain ⟨f, rfl⟩ : ∃ f', f = f' + 1 := ⟨f - 1, by have := HU.out.1; omega⟩
    have HW : Hid (Below w.heap.size w wr) := HU.out.2.2.2
    have HO : Hid (wr.ownsRow w.heap.size 29 3 u5 acc.length (cellsT acc)) := HU.out.2.2.1
    have HF : Hid (s.size - i < f + 1) := HU.out.1
    by_cases hlt : i < s.size
    · have hlt' : (i : Int) < (s.size : Int) := by omega
      have hii := at_str s i hlt
      have hE := HU.out.2.1
      have hdr := drop_at s i hlt
      have hO := oneR_ok (byteAt s i) ((bytesS s).drop (i + 1)) (by rw [← hdr]; exact fun x hx => bytesS_bd s x (List.mem_of_mem_drop hx))
      rw [← hdr] at hO
      cases hbl : blankB (byteAt s i) with
      | true =>
        rw [hdr, allR_blank _ _ _ _ hbl] at hE
        have HE : Hid (Z = glueT acc (allR (f + 1) (i + 1) ((bytesS s).drop (i + 1)))) := hE
        have HS : Hid (∀ w', Calls Tryd.prog 12 #[.int .u8 (byteAt s i)] w' fun e w'' => e = .returned (.bool true) ∧ w'' = w') := fun w' => by have := rblank_any (byteAt s i) w'; rwa [hbl] at this
        generalize byteAt s i = c at hii HS
        clear hE hO hdr hbl HU
        go_wp2_with (first | (go_at_call 12; refine (HS.out _).mono ?_; rintro e w1 ⟨rfl, hw1⟩; replace hw1 := hw1.symm; subst hw1))
        go_roundw
        case rel =>
          have := HF.out
          exact ⟨i + 1, f + 1, acc, by go_num, by omega, by omega, by omega, HE.out, HO.out, HW.out⟩
        case measure => simp [intOf]; omega
      | false =>
        rw [hdr, allR_not _ _ _ _ hbl, tokR_cons, ← hdr] at hE
        have HS : Hid (∀ w', Calls Tryd.prog 12 #[.int .u8 (byteAt s i)] w' fun e w'' => e = .returned (.bool false) ∧ w'' = w') := fun w' => by have := rblank_any (byteAt s i) w'; rwa [hbl] at this
        have hf := rone_any s i wr hlt h
        have hfar := hO.far
        have hpos := hO.pos
        rw [List.length_drop, bytesS_length] at hfar
        clear hO hdr hbl HU
        generalize byteAt s i = c at hii HS
        generalize oneR ((bytesS s).drop i) = R at hf hE hfar hpos
        obtain ⟨k, S, n, e⟩ := R
        dsimp only at hE hfar hpos
        rw [List.drop_drop] at hE
        by_cases he : e = 0
        · subst he
          rw [refT_ok rfl rfl] at hf
          rw [if_pos rfl, glue_cons] at hE
          replace hpos := hpos rfl
          generalize strOf S = y at hf hE
          have HC : Hid (Calls Tryd.prog 13 _ _ _) := hf
          have HE : Hid (Z = glueT (acc ++ [⟨k, y, i⟩]) (allR f (i + n) ((bytesS s).drop (i + n)))) := hE
          clear hf hE
          go_wp2_with (first
            | (go_at_call 12; refine (HS.out _).mono ?_; rintro e w1 ⟨rfl, hw1⟩; replace hw1 := hw1.symm; subst hw1)
            | (go_at_call 13; refine HC.out.mono ?_; clear HC; rintro e w1 ⟨rfl, hB1⟩
               have O1 := own_below HO.out hB1
               have K1 := HW.out.trans (hB1.mono HW.out.size)
               have K2 := K1.alloc K1.size (.cells #[.int .i64 k, .string y, .int .i64 (i : Int)] 29)
               obtain ⟨v3, w3, r3, o3, g3⟩ := snocT (own_below O1 (below_alloc w1 (.cells #[.int .i64 k, .string y, .int .i64 (i : Int)] 29))) K2.size (by omega) k y i
               have K3 := K2.trans g3
               rw [size_alloc] at r3
               have HA : Hid (_ = _) := r3
               have O3 : Hid (w3.ownsRow w.heap.size 29 3 v3 (acc.length + 1) (cellsT (acc ++ [⟨k, y, i⟩]))) := o3
               clear r3 o3 g3 O1 K1 K2)
            | (at_builtin; refine wpList_append_run rfl (.tmp 34) (.tmp 36) 22 rfl _ _ _ rfl rfl HA.out ?_))
          go_roundw
          case rel =>
            have := HF.out
            exact ⟨i + n, f, acc ++ [⟨k, y, i⟩], by go_num, by omega, by simp; omega, by omega, HE.out, by rw [List.length_append]; exact O3.out, K3⟩
          case measure => simp [intOf]; omega
        · rw [refT_no rfl he] at hf
          rw [if_neg he, glue_bad _ _ _ _ he] at hE
          have HC : Hid (Calls Tryd.prog 13 _ _ _) := hf
          have HE : Hid (Z = ([], i + n, e)) := hE
          have heb : (e == (0 : Int)) = false := by simp [he]
          clear hE hpos hf
          go_wp2_with (first
            | (go_at_call 12; refine (HS.out _).mono ?_; rintro e w1 ⟨rfl, hw1⟩; replace hw1 := hw1.symm; subst hw1)
            | (go_at_call 13; refine HC.out.mono ?_; clear HC; rintro e w1 ⟨rfl, hB1⟩
               have K1 := HW.out.trans (hB1.mono HW.out.size)))
          try rw [Exit.noGoto_ret]
          refine bodyPost_ret (v := .tuple #[.slice none 0 0, .int .i64 (i + n : Nat), .int .i64 e]) (by simp [results, Tryd.results7, go_sem]) rfl ?_
          rw [HE.out]
          exact ⟨_, rfl, World.ownsRow_nil _ _ _ _, K1.alloc K1.size _⟩
    · obtain rfl : i = s.size := by omega
      have hge : ¬ (s.size : Int) < (s.size : Int) := by omega
      have HE := HU.out.2.1
      rw [drop_none s s.size (by omega), allR_nil, tokR_nil, glue_good] at HE
      have HE' : Hid (Z = (acc ++ [⟨6, ⟨#[]⟩, s.size⟩], s.size, 0)) := HE
      obtain ⟨v3, w3, r3, o3, g3⟩ := snocT HO.out HW.out.size (by omega) 6 ⟨#[]⟩ s.size
      have HA : Hid (_ = _) := r3
      have K3 := HW.out.trans g3
      clear HE r3 g3 HU
      go_wp2_with (first
        | (at_builtin; refine wpList_append_run rfl (.tmp 39) (.tmp 43) 22 rfl _ _ _ rfl rfl HA.out ?_))
      refine bodyPost_ret (v := .tuple #[v3, .int .i64 (s.size : Int), .int .i64 0]) (by simp [results, Tryd.results7, go_sem]) rfl ?_
      rw [HE'.out]
      exact ⟨_, rfl, by rw [List.length_append]; exact o3, K3⟩
theorem rall_any (s : ByteArray) (w : World) : Calls Tryd.prog 7 #[.string s] w (AllR (allZ s) w) := by
  by_cases h : 8192 < s.size
  · exact rall_long s w h
  · exact rall_short s w (by omega)
end Go.Proofs.YtdfmehbnhdhbcaaDoor
