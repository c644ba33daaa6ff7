/-
  The document's Into and Vars.
-/
import Derived.Test.YtbmbdiimbhfeaaaExprInto
import Derived.Deep.DeepCutAuto
namespace Go.Proofs.Ytbmbdiimbhfeaaa
open Go.RowKit

theorem cmp_facts (s a : ByteArray) : (cmpS s a < 0 ∧ Op.bytesLess s.toList a.toList = true ∧ (s.toList == a.toList) = false) ∨ (cmpS s a = 0 ∧ Op.bytesLess s.toList a.toList = false ∧ (s.toList == a.toList) = true) ∨ (0 < cmpS s a ∧ Op.bytesLess s.toList a.toList = false ∧ (s.toList == a.toList) = false) := by
  rcases cmpS_cases s a with ⟨h, h1, h2⟩ | ⟨h, h1⟩ | ⟨h, h1, h2⟩
  · exact .inl ⟨by omega, h1, by simpa using h2⟩
  · refine .inr (.inl ⟨h, ?_, by simpa using h1⟩)
    rw [h1, less_irrefl]
  · exact .inr (.inr ⟨by omega, less_not h1, by simpa using h2⟩)
/-- How far Into has come: nothing that is not less than s yet; or it is in. -/
def IntoAt (S : Nat → ByteArray) (s : ByteArray) (k : Nat) (o : List ByteArray) (dn : Bool) : Prop :=
  (dn = false ∧ o = lstS S k ∧ ∀ b ∈ lstS S k, 0 < cmpS s b) ∨ (dn = true ∧ o = intoL s (lstS S k) ∧ ∃ b ∈ lstS S k, ¬ 0 < cmpS s b)
theorem IntoAt.len {S : Nat → ByteArray} {s : ByteArray} {k : Nat} {o : List ByteArray} {dn : Bool} (h : IntoAt S s k o dn) : o.length ≤ k + 1 := by
  have hi : ∀ l : List ByteArray, (intoL s l).length ≤ l.length + 1 := by
    intro l
    induction l with
    | nil => simp [intoL]
    | cons a l ih =>
      simp only [intoL]
      split
      · simp
      · split
        · simp
        · simp; omega
  rcases h with ⟨-, rfl, -⟩ | ⟨-, rfl, -⟩
  · rw [lstS_len]; omega
  · have := hi (lstS S k); rw [lstS_len] at this; exact this
set_option maxRecDepth 100000 in
set_option maxHeartbeats 8000000 in
theorem into_any (a : Option Addr) (n cap : Nat) (S : Nat → ByteArray) (s : ByteArray) (w : World) (hT : Txs w a n S) (hn : n ≤ 1048576) :
    Calls Try.prog 36 #[.slice a n cap, .string s] w fun e w' => ∃ v, e = .returned v ∧ w'.ownsRow w.heap.size 9 1 v (intoL s (lstS S n)).length (cellsS (intoL s (lstS S n))) ∧ Below w.heap.size w w' := by
  have HT : Hid (Txs w a n S) := hT
  clear hT
  go_enter Try.func36, Try.ntmps36
  go_wp2
  go_loopw [5, 6, 7] (fun u d i wr => ∃ (k : Nat) (o : List ByteArray) (dn : Bool), k ≤ n ∧ i = .int .i64 k ∧ d = .bool dn ∧ Hid (IntoAt S s k o dn) ∧ Hid (wr.ownsRow w.heap.size 9 1 u o.length (cellsS o)) ∧ Below w.heap.size w wr) (fun _ _ i _ => n - (intOf i).toNat)
  case atStart => exact ⟨0, [], false, Nat.zero_le _, rfl, rfl, .inl ⟨rfl, rfl, by simp [lstS]⟩, World.ownsRow_nil _ _ _ _, Below.refl _ _⟩
  case round =>
    obtain ⟨k, o, dn, hk, rfl, rfl, HI, HO, hB⟩ := hrel
    have hlen := HI.out.len
    by_cases hkn : k < n
    · obtain ⟨b, off, rfl, hc⟩ := (HT.out.later hB) (by omega)
      have c := hc k hkn
      have HK : Hid (k < n) := hkn
      clear hc
      obtain ⟨v1, w1, r1, o1, b1⟩ := push_str HO.out hB.size (by omega) (S k)
      have HB : Hid (Below w.heap.size w w1) := hB.trans b1
      have c' := (Txs.later (w := w) (fun _ => HT.out (by omega)) hB) (by omega)
      clear c'
      cases dn with
      | true =>
        have HI2 : Hid (IntoAt S s (k + 1) (o ++ [S k]) true) := by
          rcases HI.out with ⟨h, -⟩ | ⟨-, rfl, hh⟩
          · cases h
          · exact .inr ⟨rfl, by rw [lstS, into_hit hh], by obtain ⟨q, h1, h2⟩ := hh; exact ⟨q, by simp [lstS, h1], h2⟩⟩
        have HO2 : Hid (w1.ownsRow w.heap.size 9 1 v1 (o ++ [S k]).length (cellsS (o ++ [S k]))) := by show World.ownsRow _ _ _ _ _ _ _; rw [List.length_append]; exact o1
        clear o1 b1 hB
        go_wp2_with (first | (at_builtin; refine wpList_append_run rfl (.tmp 34) (.tmp 39) 35 rfl _ _ _ rfl rfl r1 ?_))
        go_roundw
        case rel => exact ⟨k + 1, o ++ [S k], true, HK.out, by go_num, rfl, HI2, HO2, HB.out⟩
        case measure => have := HK.out; simp [intOf]; omega
      | false =>
        rcases cmp_facts s (S k) with ⟨hs, s1, s2⟩ | ⟨hs, s1, s2⟩ | ⟨hs, s1, s2⟩
        · obtain ⟨v2, w2, r2, o2, b2⟩ := push_str HO.out hB.size (by omega) s
          obtain ⟨v3, w3, r3, o3, b3⟩ := push_str o2 (hB.trans b2).size (by omega) (S k)
          have HB3 : Hid (Below w.heap.size w w3) := (hB.trans b2).trans b3
          have HI2 : Hid (IntoAt S s (k + 1) (o ++ [s] ++ [S k]) true) := by
            rcases HI.out with ⟨-, rfl, hh⟩ | ⟨h, -⟩
            · exact .inr ⟨rfl, by rw [lstS, into_less hs hh], S k, by simp [lstS], by omega⟩
            · cases h
          have HO2 : Hid (w3.ownsRow w.heap.size 9 1 v3 (o ++ [s] ++ [S k]).length (cellsS (o ++ [s] ++ [S k]))) := by show World.ownsRow _ _ _ _ _ _ _; rw [List.length_append, List.length_append]; exact o3
          obtain ⟨b', off', e', hc2⟩ := (HT.out.later (hB.trans b2)) (by omega)
          injection e' with e'
          injection e' with e1 e2
          subst e1 e2
          have cc := hc2 k HK.out
          clear o1 b1 hB r1 o2 b2 o3 b3 hc2 hs
          go_wp2_with (first
            | (at_builtin; refine wpList_append_run rfl (.tmp 30) (.tmp 32) 35 rfl _ _ _ rfl rfl r2 ?_)
            | (at_builtin; refine wpList_append_run rfl (.tmp 34) (.tmp 39) 35 rfl _ _ _ rfl rfl r3 ?_))
          go_roundw
          case rel => exact ⟨k + 1, o ++ [s] ++ [S k], true, HK.out, by go_num, rfl, HI2, HO2, HB3.out⟩
          case measure => have := HK.out; simp [intOf]; omega
        · have HI2 : Hid (IntoAt S s (k + 1) (o ++ [S k]) true) := by
            rcases HI.out with ⟨-, rfl, hh⟩ | ⟨h, -⟩
            · exact .inr ⟨rfl, by rw [lstS, into_same hs hh], S k, by simp [lstS], by omega⟩
            · cases h
          have HO2 : Hid (w1.ownsRow w.heap.size 9 1 v1 (o ++ [S k]).length (cellsS (o ++ [S k]))) := by show World.ownsRow _ _ _ _ _ _ _; rw [List.length_append]; exact o1
          clear o1 b1 hB hs
          go_wp2_with (first | (at_builtin; refine wpList_append_run rfl (.tmp 34) (.tmp 39) 35 rfl _ _ _ rfl rfl r1 ?_))
          go_roundw
          case rel => exact ⟨k + 1, o ++ [S k], true, HK.out, by go_num, rfl, HI2, HO2, HB.out⟩
          case measure => have := HK.out; simp [intOf]; omega
        · have HI2 : Hid (IntoAt S s (k + 1) (o ++ [S k]) false) := by
            rcases HI.out with ⟨-, rfl, hh⟩ | ⟨h, -⟩
            · refine .inl ⟨rfl, rfl, fun b hb => ?_⟩
              rw [lstS, List.mem_append, List.mem_singleton] at hb
              rcases hb with hb | rfl
              · exact hh b hb
              · exact hs
            · cases h
          have HO2 : Hid (w1.ownsRow w.heap.size 9 1 v1 (o ++ [S k]).length (cellsS (o ++ [S k]))) := by show World.ownsRow _ _ _ _ _ _ _; rw [List.length_append]; exact o1
          clear o1 b1 hB hs
          go_wp2_with (first | (at_builtin; refine wpList_append_run rfl (.tmp 34) (.tmp 39) 35 rfl _ _ _ rfl rfl r1 ?_))
          go_roundw
          case rel => exact ⟨k + 1, o ++ [S k], false, HK.out, by go_num, rfl, HI2, HO2, HB.out⟩
          case measure => have := HK.out; simp [intOf]; omega
    · obtain rfl : k = n := by omega
      cases dn with
      | true =>
        have e : intoL s (lstS S k) = o := by
          rcases HI.out with ⟨h, -⟩ | ⟨-, rfl, -⟩
          · cases h
          · rfl
        go_wp2
        go_ret
        exact ⟨_, rfl, by rw [e]; exact HO.out, hB⟩
      | false =>
        obtain ⟨v1, w1, r1, o1, b1⟩ := push_str HO.out hB.size (by omega) s
        have HB : Hid (Below w.heap.size w w1) := hB.trans b1
        have e : intoL s (lstS S k) = o ++ [s] := by
          rcases HI.out with ⟨-, rfl, hh⟩ | ⟨h, -⟩
          · exact into_none hh
          · cases h
        have HO2 : Hid (w1.ownsRow w.heap.size 9 1 v1 (intoL s (lstS S k)).length (cellsS (intoL s (lstS S k)))) := by show World.ownsRow _ _ _ _ _ _ _; rw [e, List.length_append]; exact o1
        clear o1 b1 hB e
        go_wp2_with (first | (at_builtin; refine wpList_append_run rfl (.tmp 43) (.tmp 45) 35 rfl _ _ _ rfl rfl r1 ?_))
        go_ret
        exact ⟨_, rfl, HO2.out, HB.out⟩
end Go.Proofs.Ytbmbdiimbhfeaaa
