/-
  The document's Sort (haruspexref15).
-/
import Derived.Test.YtcdehohmgfocdaaSBrief
import Derived.Test.YtcdehohmgfocdaaSOrdEach
import Derived.Test.YtcdehohmgfocdaaSOrdRows
import Derived.Deep.DeepCutAuto
namespace Go.Proofs.Ytcdehohmgfocdaa
open Go.RowKit

theorem take_on {α : Type} {L : List α} {i : Nat} {x : α} (h : L[i]? = some x) : L.take (i + 1) = L.take i ++ [x] := by rw [List.take_add_one, h]; rfl
/-- Where the next is set: behind it all that is greater, ahead of it what is not. -/
theorem st_step {c : Pt → Pt → Int} (h3 : Ord3 c) {L O : List Pt} {i k : Nat} {x : Pt} (hx : L[i]? = some x) (hs : St c (L.take i) O) (h1 : ∀ (j : Nat) (y : Pt), k ≤ j → O[j]? = some y → c x y < 0) (h2 : ∀ (j : Nat) (y : Pt), k = j + 1 → O[j]? = some y → ¬ c x y < 0) (hk : k ≤ O.length) : St c (L.take (i + 1)) (insL O k x) := by
  rw [take_on hx]
  refine hs.ins h3 x k (fun e he => ?_) ?_
  · obtain ⟨j, hj⟩ := List.mem_iff_getElem?.1 he
    rw [List.getElem?_drop] at hj
    exact h1 (k + j) e (by omega) hj
  · cases k with
    | zero => intro e he; simp at he
    | succ j =>
      have hj : j < O.length := by omega
      exact srt_take h3 hs.srt (List.getElem?_eq_getElem hj) (h2 j _ rfl (List.getElem?_eq_getElem hj))
set_option maxRecDepth 100000 in
set_option maxHeartbeats 16000000 in
theorem refSortO_any (a : Option Addr) (n cap : Nat) (L : List Pt) (w : World) (hL : L.length = n) (hR : 0 < n → ∃ b o, a = some ⟨b, o, none⟩ ∧ RwP w b o L) (hn : n ≤ 1759218604390) (hI : ∀ x ∈ L, IsP w x) :
    Calls Try.prog 10 #[.slice a n cap] w fun e w' => ∃ v r, e = .returned v ∧ Hid (w'.ownsRow w.heap.size 27 6 v n (rowLP r) ∧ St formP L r) ∧ Below w.heap.size w w' := by
  have HR : Hid (0 < n → ∃ b o, a = some ⟨b, o, none⟩ ∧ RwP w b o L) := hR
  have HI : Hid (∀ x ∈ L, IsP w x) := hI
  have HLL : Hid (L.length = n) := hL
  clear hR hI hL
  go_enter Try.func10, Try.ntmps10
  go_wp2
  go_loopw [3, 4] (fun u v wr => ∃ (i : Nat) (O : List Pt), i ≤ n ∧ v = .int .i64 i ∧ Hid (wr.ownsRow w.heap.size 27 6 u i (rowLP O) ∧ St formP (L.take i) O) ∧ (i = 0 → u = .slice none 0 0) ∧ Below w.heap.size w wr) (fun _ v _ => n - (intOf v).toNat)
  case atStart => exact ⟨0, [], Nat.zero_le _, rfl, ⟨World.ownsRow_nil _ _ _ _, ⟨List.Pairwise.nil, List.Perm.refl _, fun _ => rfl⟩⟩, fun _ => rfl, Below.refl _ _⟩
  case round =>
    obtain ⟨i, O, hi, rfl, HOS, hnil, hB⟩ := hrel
    by_cases hin : i < n
    · obtain ⟨b, o, rfl, hr⟩ := HR.out (by omega)
      have hil : i < L.length := by have := HLL.out; omega
      obtain ⟨x, hx⟩ : ∃ x, L[i]? = some x := ⟨_, List.getElem?_eq_getElem hil⟩
      have N1w : Hid (NodeP w b (o + i * 6) x) := hr i x hx
      have IX : Hid (IsP w x) := HI.out x (List.mem_of_getElem? hx)
      have HX : Hid (L[i]? = some x) := hx
      have HIN : Hid (i < n) := hin
      have HS : Hid (St formP (L.take i) O) := HOS.out.2
      have HIO : Hid (∀ (j : Nat) (y : Pt), O[j]? = some y → IsP w y) := fun j y hy => HI.out y (List.mem_of_mem_take (HS.out.perm.mem_iff.1 (List.mem_of_getElem? hy)))
      have HOL : Hid (O.length = i) := HS.out.perm.length_eq.trans (by rw [List.length_take]; omega)
      by_cases i0 : i = 0
      · obtain rfl := hnil i0
        subst i0
        have eO : Hid (O = []) := List.length_eq_zero_iff.1 HOL.out
        have HO : Hid (wr.ownsRow w.heap.size 27 6 (.slice none 0 0) 0 (rowLP O)) := HOS.out.1
        have N1v : Hid (NodeP w b o x) := by have := N1w.out; rwa [Nat.zero_mul, Nat.add_zero] at this
        clear N1w
        have N1w := N1v
        clear HOS hnil hx hr hil
        obtain ⟨capo, hcapo⟩ : ∃ c : Nat, c = 0 := ⟨0, rfl⟩
        obtain ⟨g, hg⟩ : ∃ c : Nat, c = 0 := ⟨0, rfl⟩
        clear hcapo hg
        go_wp2
        go_loopw [5] (fun u wz => u = .int .i64 0 ∧ Hid (wz.ownsRow w.heap.size 27 6 (.slice none 0 0) 0 (rowLP O)) ∧ Below w.heap.size w wz) (fun _ _ => 0)
        case atStart => exact ⟨rfl, HO, hB⟩
        case round =>
          clear HO
          obtain ⟨rfl, HO, hB⟩ := hrel
          go_wp2_with fail
          refine wp_region_noPanic ?_
          refine wp_region_held_drew (S := fun w' => Below wr.heap.size wr w') (by kernel_rfl) ((Below.refl _ _).drew) (fun hHeld => ?_)
          have hT : Below wr.heap.size wr wr.drew := hHeld
          obtain ⟨d, hd⟩ : ∃ d, d = wr.drew := ⟨_, rfl⟩
          rw [← hd] at hHeld hT ⊢
          clear hd
          refine wpAnyH_take (i := 0) (oi := ⟨some 15, .move (.tmp 5), 3, _, _, _⟩) (v := ?v0a) rfl (by kernel_rfl) (by kernel_rfl) (by kernel_rfl) (fun _ _ _ h => h) (Or.inl ⟨by rfl, ?hy0a⟩) hHeld ?rest0a
          case hy0a => intro w9 hSw; go_simp; (try with_reducible rfl)
          try simp only [Act.put, s_put, s_0, s_1]
          refine wpAnyH_take (i := 1) (oi := ⟨some 16, .binOp BinOp.gtr 3 (.tmp 15) (.const (Value.int IntKind.i64 0)) 3, 4, _, _, _⟩) (v := ?v1a) rfl (by kernel_rfl) (by kernel_rfl) (by kernel_rfl) (fun _ _ _ h => h) (Or.inl ⟨by rfl, ?hy1a⟩) hHeld ?rest1a
          case hy1a => intro w9 hSw; go_simp; (try with_reducible rfl)
          try simp only [Act.put, s_put, s_0, s_1]
          refine wpAnyH_take (i := 2) (oi := ⟨some 17, .move (.tmp 16), 4, _, _, _⟩) (v := ?v2a) rfl (by kernel_rfl) (by kernel_rfl) (by kernel_rfl) (fun _ _ _ h => h) (Or.inl ⟨by rfl, ?hy2a⟩) hHeld ?rest2a
          case hy2a => intro w9 hSw; go_simp; (try with_reducible rfl)
          try simp only [Act.put, s_put, s_0, s_1]
          refine wpAnyH_take (i := 3) (oi := ⟨some 18, .move (.tmp 0), 22, _, _, _⟩) (v := undef) rfl (by kernel_rfl) (by kernel_rfl) (by kernel_rfl) (fun _ _ _ h => h) (Or.inr ⟨by rfl, rfl⟩) hHeld ?rest3a
          try simp only [Act.put, s_put, s_0, s_1]
          refine wpAnyH_take (i := 4) (oi := ⟨some 19, .move (.tmp 4), 3, _, _, _⟩) (v := undef) rfl (by kernel_rfl) (by kernel_rfl) (by kernel_rfl) (fun _ _ _ h => h) (Or.inr ⟨by rfl, rfl⟩) hHeld ?rest4a
          try simp only [Act.put, s_put, s_0, s_1]
          refine wpAnyH_take (i := 5) (oi := ⟨some 20, .indexAddr 22 (.tmp 18) (.tmp 19), 0, _, _, _⟩) (v := undef) rfl (by kernel_rfl) (by kernel_rfl) (by kernel_rfl) (fun _ _ _ h => h) (Or.inr ⟨by rfl, rfl⟩) hHeld ?rest5a
          try simp only [Act.put, s_put, s_0, s_1]
          refine wpAnyH_take (i := 6) (oi := ⟨some 21, .load 27 (.tmp 20), 27, _, _, _⟩) (v := undef) rfl (by kernel_rfl) (by kernel_rfl) (by kernel_rfl) (fun _ _ _ h => h) (Or.inr ⟨by rfl, rfl⟩) hHeld ?rest6a
          try simp only [Act.put, s_put, s_0, s_1]
          refine wpAnyH_take (i := 7) (oi := ⟨some 22, .move (.tmp 3), 22, _, _, _⟩) (v := undef) rfl (by kernel_rfl) (by kernel_rfl) (by kernel_rfl) (fun _ _ _ h => h) (Or.inr ⟨by rfl, rfl⟩) hHeld ?rest7a
          try simp only [Act.put, s_put, s_0, s_1]
          refine wpAnyH_take (i := 8) (oi := ⟨some 23, .move (.tmp 5), 3, _, _, _⟩) (v := undef) rfl (by kernel_rfl) (by kernel_rfl) (by kernel_rfl) (fun _ _ _ h => h) (Or.inr ⟨by rfl, rfl⟩) hHeld ?rest8a
          try simp only [Act.put, s_put, s_0, s_1]
          refine wpAnyH_take (i := 9) (oi := ⟨some 24, .binOp BinOp.sub 3 (.tmp 23) (.const (Value.int IntKind.i64 1)) 3, 3, _, _, _⟩) (v := undef) rfl (by kernel_rfl) (by kernel_rfl) (by kernel_rfl) (fun _ _ _ h => h) (Or.inr ⟨by rfl, rfl⟩) hHeld ?rest9a
          try simp only [Act.put, s_put, s_0, s_1]
          refine wpAnyH_take (i := 10) (oi := ⟨some 25, .indexAddr 22 (.tmp 22) (.tmp 24), 0, _, _, _⟩) (v := undef) rfl (by kernel_rfl) (by kernel_rfl) (by kernel_rfl) (fun _ _ _ h => h) (Or.inr ⟨by rfl, rfl⟩) hHeld ?rest10a
          try simp only [Act.put, s_put, s_0, s_1]
          refine wpAnyH_take (i := 11) (oi := ⟨some 26, .load 27 (.tmp 25), 27, _, _, _⟩) (v := undef) rfl (by kernel_rfl) (by kernel_rfl) (by kernel_rfl) (fun _ _ _ h => h) (Or.inr ⟨by rfl, rfl⟩) hHeld ?rest11a
          try simp only [Act.put, s_put, s_0, s_1]
          refine wpAnyH_take (i := 12) (oi := ⟨some 27, .call { callee := .value (.func 25), args := #[.tmp 21, .tmp 26], argTypes := #[27, 27] }, 3, _, _, _⟩) (v := undef) rfl (by kernel_rfl) (by kernel_rfl) (by kernel_rfl) (fun _ _ _ h => h) (Or.inr ⟨by rfl, rfl⟩) hHeld ?rest12a
          try simp only [Act.put, s_put, s_0, s_1]
          refine wpAnyH_take (i := 13) (oi := ⟨some 28, .binOp BinOp.lss 3 (.tmp 27) (.const (Value.int IntKind.i64 0)) 3, 4, _, _, _⟩) (v := undef) rfl (by kernel_rfl) (by kernel_rfl) (by kernel_rfl) (fun _ _ _ h => h) (Or.inr ⟨by rfl, rfl⟩) hHeld ?rest13a
          try simp only [Act.put, s_put, s_0, s_1]
          refine wpAnyH_take (i := 14) (oi := ⟨some 29, .pick (.tmp 17) (.tmp 28) (.const (Value.bool false)), 4, _, _, _⟩) (v := ?v14a) rfl (by kernel_rfl) (by kernel_rfl) (by kernel_rfl) (fun _ _ _ h => h) (Or.inl ⟨by rfl, ?hy14a⟩) hHeld ?rest14a
          case hy14a => intro w9 hSw; go_simp; (try with_reducible rfl)
          try simp only [Act.put, s_put, s_0, s_1]
          refine wpAnyH_done (by kernel_rfl) ?_ _
          refine NoPanic.normal ?_
          have hB' : Below w.heap.size w d := hB.trans (hT.mono hB.size)
          have HO' : Hid (d.ownsRow w.heap.size 27 6 (.slice none 0 0) 0 (rowLP O)) := own_laterS HO.out hT
          clear hB HO hT hHeld
          have hB := hB'
          have HO := HO'
          clear hB' HO'
          generalize d = wr at *
          have hO := HO.out
          obtain ⟨v8, w8, v9, w9, v10, w10, run8, run9, run10, own10, hB8, hB10⟩ := insP (w := wr) (g := g) (cap := 0) (HS.out.perm.length_eq.trans (by rw [List.length_take]; have := HLL.out; have := HIN.out; omega)) (by rw [eO.out]; exact fun i x hx => by simp at hx) (Nat.le_refl 0) (by have := HIN.out; omega) (Nat.zero_le _) x none (.inr ⟨rfl, rfl, rfl⟩)
          have HF : Hid (w10.ownsRow w.heap.size 27 6 v10 (0 + 1) (rowLP (insL O 0 x)) ∧ St formP (L.take (0 + 1)) (insL O 0 x)) := ⟨own_low15 own10 hB.size, st_step form3 HX.out HS.out (fun j y _ hy => by rw [eO.out] at hy; simp at hy) (fun j y h _ => by omega) (Nat.zero_le _)⟩
          have HB10 : Hid (Below w.heap.size w w10) := hB.trans (hB10.mono hB.size)
          obtain ⟨d0, d1, d2, d3, d4, d5⟩ := N1w.out.later (hB.trans (hB8.mono hB.size))
          have R8 : Hid (_ = _) := run8
          have R9 : Hid (_ = _) := run9
          have R10 : Hid ((Builtin.append_ #[22, 22] 22 #[v9, .slice none 0 0]).run Try.prog w9 = .ok v10 w10) := by show _ = _; simpa using run10
          clear run8 run9 run10 own10 hB8 hB10 hO
          go_wp2_with (first
            | (at_builtin; refine wpList_append_run rfl (.tmp 44) (.tmp 47) 22 rfl _ _ _ rfl rfl R10.out ?_)
            | (at_builtin; refine wpList_append_run rfl (.tmp 37) (.tmp 42) 22 rfl _ _ _ rfl rfl R9.out ?_)
            | (at_builtin; refine wpList_append_run rfl (.tmp 32) (.tmp 35) 22 rfl _ _ _ rfl rfl R8.out ?_))
          go_roundw
          case rel => exact ⟨0 + 1, _, HIN.out, by go_num, HF, fun e => by omega, HB10.out⟩
          case measure => have := HIN.out; simp [intOf]; omega
      · obtain ⟨g, capo, rfl, hic, hcm, _, _, hro⟩ := ownLP HOS.out.1 HOL.out (by omega)
        have HO : Hid (wr.ownsRow w.heap.size 27 6 (.slice (some ⟨g, 0, none⟩) i capo) i (rowLP O)) := HOS.out.1
        have hcm' : capo ≤ 9223372036854775807 := by unfold maxLen at hcm; omega
        clear HOS hnil hx hr hil hro hcm
        go_wp2
        go_loopw [5] (fun u wz => ∃ k : Nat, k ≤ i ∧ u = .int .i64 k ∧ Hid (∀ (j : Nat) (y : Pt), k ≤ j → O[j]? = some y → formP x y < 0) ∧ Hid (wz.ownsRow w.heap.size 27 6 (.slice (some ⟨g, 0, none⟩) i capo) i (rowLP O)) ∧ Below w.heap.size w wz) (fun u _ => (intOf u).toNat)
        case atStart => exact ⟨i, Nat.le_refl _, rfl, fun j y hj hy => by have := (List.getElem?_eq_some_iff.1 hy).1; have := HOL.out; omega, HO, hB⟩
        case round =>
          clear HO
          obtain ⟨k, hk, rfl, HG, HO, hB⟩ := hrel
          cases k with
          | zero =>
            · go_wp2_with fail
              refine wp_region_noPanic ?_
              refine wp_region_held_drew (S := fun w' => Below wr.heap.size wr w') (by kernel_rfl) ((Below.refl _ _).drew) (fun hHeld => ?_)
              have hT : Below wr.heap.size wr wr.drew := hHeld
              obtain ⟨d, hd⟩ : ∃ d, d = wr.drew := ⟨_, rfl⟩
              rw [← hd] at hHeld hT ⊢
              clear hd
              refine wpAnyH_take (i := 0) (oi := ⟨some 15, .move (.tmp 5), 3, _, _, _⟩) (v := ?v0b) rfl (by kernel_rfl) (by kernel_rfl) (by kernel_rfl) (fun _ _ _ h => h) (Or.inl ⟨by rfl, ?hy0b⟩) hHeld ?rest0b
              case hy0b => intro w9 hSw; go_simp; (try with_reducible rfl)
              try simp only [Act.put, s_put, s_0, s_1]
              refine wpAnyH_take (i := 1) (oi := ⟨some 16, .binOp BinOp.gtr 3 (.tmp 15) (.const (Value.int IntKind.i64 0)) 3, 4, _, _, _⟩) (v := ?v1b) rfl (by kernel_rfl) (by kernel_rfl) (by kernel_rfl) (fun _ _ _ h => h) (Or.inl ⟨by rfl, ?hy1b⟩) hHeld ?rest1b
              case hy1b => intro w9 hSw; go_simp; (try with_reducible rfl)
              try simp only [Act.put, s_put, s_0, s_1]
              refine wpAnyH_take (i := 2) (oi := ⟨some 17, .move (.tmp 16), 4, _, _, _⟩) (v := ?v2b) rfl (by kernel_rfl) (by kernel_rfl) (by kernel_rfl) (fun _ _ _ h => h) (Or.inl ⟨by rfl, ?hy2b⟩) hHeld ?rest2b
              case hy2b => intro w9 hSw; go_simp; (try with_reducible rfl)
              try simp only [Act.put, s_put, s_0, s_1]
              refine wpAnyH_take (i := 3) (oi := ⟨some 18, .move (.tmp 0), 22, _, _, _⟩) (v := undef) rfl (by kernel_rfl) (by kernel_rfl) (by kernel_rfl) (fun _ _ _ h => h) (Or.inr ⟨by rfl, rfl⟩) hHeld ?rest3b
              try simp only [Act.put, s_put, s_0, s_1]
              refine wpAnyH_take (i := 4) (oi := ⟨some 19, .move (.tmp 4), 3, _, _, _⟩) (v := undef) rfl (by kernel_rfl) (by kernel_rfl) (by kernel_rfl) (fun _ _ _ h => h) (Or.inr ⟨by rfl, rfl⟩) hHeld ?rest4b
              try simp only [Act.put, s_put, s_0, s_1]
              refine wpAnyH_take (i := 5) (oi := ⟨some 20, .indexAddr 22 (.tmp 18) (.tmp 19), 0, _, _, _⟩) (v := undef) rfl (by kernel_rfl) (by kernel_rfl) (by kernel_rfl) (fun _ _ _ h => h) (Or.inr ⟨by rfl, rfl⟩) hHeld ?rest5b
              try simp only [Act.put, s_put, s_0, s_1]
              refine wpAnyH_take (i := 6) (oi := ⟨some 21, .load 27 (.tmp 20), 27, _, _, _⟩) (v := undef) rfl (by kernel_rfl) (by kernel_rfl) (by kernel_rfl) (fun _ _ _ h => h) (Or.inr ⟨by rfl, rfl⟩) hHeld ?rest6b
              try simp only [Act.put, s_put, s_0, s_1]
              refine wpAnyH_take (i := 7) (oi := ⟨some 22, .move (.tmp 3), 22, _, _, _⟩) (v := undef) rfl (by kernel_rfl) (by kernel_rfl) (by kernel_rfl) (fun _ _ _ h => h) (Or.inr ⟨by rfl, rfl⟩) hHeld ?rest7b
              try simp only [Act.put, s_put, s_0, s_1]
              refine wpAnyH_take (i := 8) (oi := ⟨some 23, .move (.tmp 5), 3, _, _, _⟩) (v := undef) rfl (by kernel_rfl) (by kernel_rfl) (by kernel_rfl) (fun _ _ _ h => h) (Or.inr ⟨by rfl, rfl⟩) hHeld ?rest8b
              try simp only [Act.put, s_put, s_0, s_1]
              refine wpAnyH_take (i := 9) (oi := ⟨some 24, .binOp BinOp.sub 3 (.tmp 23) (.const (Value.int IntKind.i64 1)) 3, 3, _, _, _⟩) (v := undef) rfl (by kernel_rfl) (by kernel_rfl) (by kernel_rfl) (fun _ _ _ h => h) (Or.inr ⟨by rfl, rfl⟩) hHeld ?rest9b
              try simp only [Act.put, s_put, s_0, s_1]
              refine wpAnyH_take (i := 10) (oi := ⟨some 25, .indexAddr 22 (.tmp 22) (.tmp 24), 0, _, _, _⟩) (v := undef) rfl (by kernel_rfl) (by kernel_rfl) (by kernel_rfl) (fun _ _ _ h => h) (Or.inr ⟨by rfl, rfl⟩) hHeld ?rest10b
              try simp only [Act.put, s_put, s_0, s_1]
              refine wpAnyH_take (i := 11) (oi := ⟨some 26, .load 27 (.tmp 25), 27, _, _, _⟩) (v := undef) rfl (by kernel_rfl) (by kernel_rfl) (by kernel_rfl) (fun _ _ _ h => h) (Or.inr ⟨by rfl, rfl⟩) hHeld ?rest11b
              try simp only [Act.put, s_put, s_0, s_1]
              refine wpAnyH_take (i := 12) (oi := ⟨some 27, .call { callee := .value (.func 25), args := #[.tmp 21, .tmp 26], argTypes := #[27, 27] }, 3, _, _, _⟩) (v := undef) rfl (by kernel_rfl) (by kernel_rfl) (by kernel_rfl) (fun _ _ _ h => h) (Or.inr ⟨by rfl, rfl⟩) hHeld ?rest12b
              try simp only [Act.put, s_put, s_0, s_1]
              refine wpAnyH_take (i := 13) (oi := ⟨some 28, .binOp BinOp.lss 3 (.tmp 27) (.const (Value.int IntKind.i64 0)) 3, 4, _, _, _⟩) (v := undef) rfl (by kernel_rfl) (by kernel_rfl) (by kernel_rfl) (fun _ _ _ h => h) (Or.inr ⟨by rfl, rfl⟩) hHeld ?rest13b
              try simp only [Act.put, s_put, s_0, s_1]
              refine wpAnyH_take (i := 14) (oi := ⟨some 29, .pick (.tmp 17) (.tmp 28) (.const (Value.bool false)), 4, _, _, _⟩) (v := ?v14b) rfl (by kernel_rfl) (by kernel_rfl) (by kernel_rfl) (fun _ _ _ h => h) (Or.inl ⟨by rfl, ?hy14b⟩) hHeld ?rest14b
              case hy14b => intro w9 hSw; go_simp; (try with_reducible rfl)
              try simp only [Act.put, s_put, s_0, s_1]
              refine wpAnyH_done (by kernel_rfl) ?_ _
              refine NoPanic.normal ?_
              have hB' : Below w.heap.size w d := hB.trans (hT.mono hB.size)
              have HO' : Hid (d.ownsRow w.heap.size 27 6 (.slice (some ⟨g, 0, none⟩) i capo) i (rowLP O)) := own_laterS HO.out hT
              obtain ⟨g9, c9, e9, _, _, _, _, hro⟩ := ownLP HO'.out HOL.out (by have := HOL.out; omega)
              cases e9
              have HRO : Hid (RwP d g 0 O) := hro
              clear hB HO hT hHeld hro
              have hB := hB'
              have HO := HO'
              clear hB' HO'
              generalize d = wr at *
              have hO := HO.out
              obtain ⟨v8, w8, v9, w9, v10, w10, run8, run9, run10, own10, hB8, hB10⟩ := insP (w := wr) (g := g) (cap := capo) (HS.out.perm.length_eq.trans (by rw [List.length_take]; have := HLL.out; have := HIN.out; omega)) HRO.out (Nat.zero_le _) (by have := HIN.out; omega) hic x (some ⟨g, 0, none⟩) (.inl rfl)
              have HF : Hid (w10.ownsRow w.heap.size 27 6 v10 (i + 1) (rowLP (insL O 0 x)) ∧ St formP (L.take (i + 1)) (insL O 0 x)) := ⟨own_low15 own10 hB.size, st_step form3 HX.out HS.out HG.out (fun j y h _ => by omega) (Nat.zero_le _)⟩
              have HB10 : Hid (Below w.heap.size w w10) := hB.trans (hB10.mono hB.size)
              obtain ⟨d0, d1, d2, d3, d4, d5⟩ := N1w.out.later (hB.trans (hB8.mono hB.size))
              have R8 : Hid (_ = _) := run8
              have R9 : Hid (_ = _) := run9
              have R10 : Hid ((Builtin.append_ #[22, 22] 22 #[v9, .slice (some ⟨g, 0, none⟩) i capo]).run Try.prog w9 = .ok v10 w10) := by show _ = _; simpa using run10
              clear run8 run9 run10 own10 hB8 hB10 hO
              go_wp2_with (first
                | (at_builtin; refine wpList_append_run rfl (.tmp 44) (.tmp 47) 22 rfl _ _ _ rfl rfl R10.out ?_)
                | (at_builtin; refine wpList_append_run rfl (.tmp 37) (.tmp 42) 22 rfl _ _ _ rfl rfl R9.out ?_)
                | (at_builtin; refine wpList_append_run rfl (.tmp 32) (.tmp 35) 22 rfl _ _ _ rfl rfl R8.out ?_))
              go_roundw
              case rel => exact ⟨i + 1, _, HIN.out, by go_num, HF, fun e => by omega, HB10.out⟩
              case measure => have := HIN.out; simp [intOf]; omega
          | succ j =>
            · obtain ⟨y, hy⟩ : ∃ y, O[j]? = some y := ⟨_, List.getElem?_eq_getElem (by have := HOL.out; omega)⟩
              obtain ⟨g', capo', e', _, _, _, _, hro⟩ := ownLP HO.out HOL.out (by omega)
              cases e'
              have N1 : Hid (NodeP wr b (o + i * 6) x) := N1w.out.later hB
              have N2 : Hid (NodeP wr g (j * 6) y) := by have := hro j y hy; rwa [Nat.zero_add] at this
              obtain ⟨q, hq⟩ : ∃ q, q = formP x y := ⟨_, rfl⟩
              have HQ : Hid (q = formP x y) := hq
              have CF : Hid (∀ d, Below wr.heap.size wr d → Calls Try.prog 25 #[x.val, y.val] d fun e w' => e = .returned (.int .i64 q) ∧ Below d.heap.size d w') := fun d hd => by
                rw [hq]
                exact refForm_any x y d (IX.out.later (hB.trans (hd.mono hB.size))) ((HIO.out j y hy).later (hB.trans (hd.mono hB.size)))
              have hj0 : (0 : Int) < (j : Int) + 1 := by omega
              have hji : j < i := by omega
              have HY : Hid (O[j]? = some y) := hy
              clear hro hq hy
              by_cases hq0 : q < 0
              · go_wp2_with fail
                refine wp_region_noPanic ?_
                refine wp_region_held_drew (S := fun w' => Below wr.heap.size wr w') (by kernel_rfl) ((Below.refl _ _).drew) (fun hHeld => ?_)
                have hT : Below wr.heap.size wr wr.drew := hHeld
                obtain ⟨d, hd⟩ : ∃ d, d = wr.drew := ⟨_, rfl⟩
                rw [← hd] at hHeld hT ⊢
                clear hd
                refine wpAnyH_take (i := 0) (oi := ⟨some 15, .move (.tmp 5), 3, _, _, _⟩) (v := ?v0c) rfl (by kernel_rfl) (by kernel_rfl) (by kernel_rfl) (fun _ _ _ h => h) (Or.inl ⟨by rfl, ?hy0c⟩) hHeld ?rest0c
                case hy0c => intro w9 hSw; go_simp; (try with_reducible rfl)
                try simp only [Act.put, s_put, s_0, s_1]
                refine wpAnyH_take (i := 1) (oi := ⟨some 16, .binOp BinOp.gtr 3 (.tmp 15) (.const (Value.int IntKind.i64 0)) 3, 4, _, _, _⟩) (v := ?v1c) rfl (by kernel_rfl) (by kernel_rfl) (by kernel_rfl) (fun _ _ _ h => h) (Or.inl ⟨by rfl, ?hy1c⟩) hHeld ?rest1c
                case hy1c => intro w9 hSw; go_simp; (try with_reducible rfl)
                try simp only [Act.put, s_put, s_0, s_1]
                refine wpAnyH_take (i := 2) (oi := ⟨some 17, .move (.tmp 16), 4, _, _, _⟩) (v := ?v2c) rfl (by kernel_rfl) (by kernel_rfl) (by kernel_rfl) (fun _ _ _ h => h) (Or.inl ⟨by rfl, ?hy2c⟩) hHeld ?rest2c
                case hy2c => intro w9 hSw; go_simp; (try with_reducible rfl)
                try simp only [Act.put, s_put, s_0, s_1]
                refine wpAnyH_take (i := 3) (oi := ⟨some 18, .move (.tmp 0), 22, _, _, _⟩) (v := ?v3c) rfl (by kernel_rfl) (by kernel_rfl) (by kernel_rfl) (fun _ _ _ h => h) (Or.inl ⟨by rfl, ?hy3c⟩) hHeld ?rest3c
                case hy3c => intro w9 hSw; go_simp; (try with_reducible rfl)
                try simp only [Act.put, s_put, s_0, s_1]
                refine wpAnyH_take (i := 4) (oi := ⟨some 19, .move (.tmp 4), 3, _, _, _⟩) (v := ?v4c) rfl (by kernel_rfl) (by kernel_rfl) (by kernel_rfl) (fun _ _ _ h => h) (Or.inl ⟨by rfl, ?hy4c⟩) hHeld ?rest4c
                case hy4c => intro w9 hSw; go_simp; (try with_reducible rfl)
                try simp only [Act.put, s_put, s_0, s_1]
                refine wpAnyH_take (i := 5) (oi := ⟨some 20, .indexAddr 22 (.tmp 18) (.tmp 19), 0, _, _, _⟩) (v := ?v5c) rfl (by kernel_rfl) (by kernel_rfl) (by kernel_rfl) (fun _ _ _ h => h) (Or.inl ⟨by rfl, ?hy5c⟩) hHeld ?rest5c
                case hy5c => intro w9 hSw; go_simp; (try with_reducible rfl)
                try simp only [Act.put, s_put, s_0, s_1]
                refine wpAnyH_take (i := 6) (oi := ⟨some 21, .load 27 (.tmp 20), 27, _, _, _⟩) (v := ?v6c) rfl (by kernel_rfl) (by kernel_rfl) (by kernel_rfl) (fun _ _ _ h => h) (Or.inl ⟨by rfl, ?hy6c⟩) hHeld ?rest6c
                case hy6c => intro w9 hSw; obtain ⟨d0, d1, d2, d3, d4, d5⟩ := N1.out.later hSw; go_simp; (try with_reducible rfl)
                try simp only [Act.put, s_put, s_0, s_1]
                refine wpAnyH_take (i := 7) (oi := ⟨some 22, .move (.tmp 3), 22, _, _, _⟩) (v := ?v7c) rfl (by kernel_rfl) (by kernel_rfl) (by kernel_rfl) (fun _ _ _ h => h) (Or.inl ⟨by rfl, ?hy7c⟩) hHeld ?rest7c
                case hy7c => intro w9 hSw; go_simp; (try with_reducible rfl)
                try simp only [Act.put, s_put, s_0, s_1]
                refine wpAnyH_take (i := 8) (oi := ⟨some 23, .move (.tmp 5), 3, _, _, _⟩) (v := ?v8c) rfl (by kernel_rfl) (by kernel_rfl) (by kernel_rfl) (fun _ _ _ h => h) (Or.inl ⟨by rfl, ?hy8c⟩) hHeld ?rest8c
                case hy8c => intro w9 hSw; go_simp; (try with_reducible rfl)
                try simp only [Act.put, s_put, s_0, s_1]
                refine wpAnyH_take (i := 9) (oi := ⟨some 24, .binOp BinOp.sub 3 (.tmp 23) (.const (Value.int IntKind.i64 1)) 3, 3, _, _, _⟩) (v := .int .i64 (j : Int)) rfl (by kernel_rfl) (by kernel_rfl) (by kernel_rfl) (fun _ _ _ h => h) (Or.inl ⟨by rfl, ?hy9c⟩) hHeld ?rest9c
                case hy9c => intro w9 hSw; go_simp; try (rw [IntKind.wrap_i64]; omega)
                try simp only [Act.put, s_put, s_0, s_1]
                refine wpAnyH_take (i := 10) (oi := ⟨some 25, .indexAddr 22 (.tmp 22) (.tmp 24), 0, _, _, _⟩) (v := ?v10c) rfl (by kernel_rfl) (by kernel_rfl) (by kernel_rfl) (fun _ _ _ h => h) (Or.inl ⟨by rfl, ?hy10c⟩) hHeld ?rest10c
                case hy10c => intro w9 hSw; go_simp; (try with_reducible rfl)
                try simp only [Act.put, s_put, s_0, s_1]
                refine wpAnyH_take (i := 11) (oi := ⟨some 26, .load 27 (.tmp 25), 27, _, _, _⟩) (v := ?v11c) rfl (by kernel_rfl) (by kernel_rfl) (by kernel_rfl) (fun _ _ _ h => h) (Or.inl ⟨by rfl, ?hy11c⟩) hHeld ?rest11c
                case hy11c => intro w9 hSw; obtain ⟨d0, d1, d2, d3, d4, d5⟩ := N2.out.later hSw; go_simp; (try with_reducible rfl)
                try simp only [Act.put, s_put, s_0, s_1]
                refine wpAnyH_ready (rs := [12]) (by kernel_rfl) (by simp) ?_
                refine AllReadyH.cons (o := ⟨some 27, .call { callee := .value (.func 25), args := #[.tmp 21, .tmp 26], argTypes := #[27, 27] }, 3, _, _, _⟩) rfl (fun K hK => ?_) AllReadyH.nil
                go_simp
                refine (CF.out _ hT).mono ?_
                rintro e x12 ⟨rfl, hN12⟩
                go_wp2_with fail
                have hT12 : Below wr.heap.size wr x12 := hT.trans (hN12.mono hT.size)
                refine hK.out _ _ (hHeld.trans (hN12.mono hHeld.size)) (fun _ => held_up (S' := fun w' => Below x12.heap.size x12 w') (fun w' h' => (hHeld.trans (hN12.mono hHeld.size)).trans (h'.mono (Nat.le_trans hHeld.size hN12.size))) _ _ _ _ ?_)
                clear hK K hHeld hT
                have hT : Below wr.heap.size wr x12 := hT12
                have hHeld : Below x12.heap.size x12 x12 := Below.refl _ _
                clear hT12 hN12
                try simp only [Act.put, s_put, s_0, s_1]
                refine wpAnyH_take (i := 13) (oi := ⟨some 28, .binOp BinOp.lss 3 (.tmp 27) (.const (Value.int IntKind.i64 0)) 3, 4, _, _, _⟩) (v := .bool true) rfl (by kernel_rfl) (by kernel_rfl) (by kernel_rfl) (fun _ _ _ h => h) (Or.inl ⟨by rfl, ?hy13c⟩) hHeld ?rest13c
                case hy13c => intro w9 hSw; go_simp; try omega
                try simp only [Act.put, s_put, s_0, s_1]
                refine wpAnyH_take (i := 14) (oi := ⟨some 29, .pick (.tmp 17) (.tmp 28) (.const (Value.bool false)), 4, _, _, _⟩) (v := ?v14c) rfl (by kernel_rfl) (by kernel_rfl) (by kernel_rfl) (fun _ _ _ h => h) (Or.inl ⟨by rfl, ?hy14c⟩) hHeld ?rest14c
                case hy14c => intro w9 hSw; go_simp; (try with_reducible rfl)
                try simp only [Act.put, s_put, s_0, s_1]
                refine wpAnyH_done (by kernel_rfl) ?_ _
                refine NoPanic.normal ?_
                go_wp2
                go_roundw
                case rel =>
                  refine ⟨j, by omega, by go_num, fun m z hm hz => ?_, own_laterS HO.out hT, hB.trans (hT.mono hB.size)⟩
                  by_cases e : m = j
                  · subst e
                    have := HY.out.symm.trans hz
                    cases this
                    rw [← HQ.out]
                    exact hq0
                  · exact HG.out m z (by omega) hz
                case measure => simp [intOf]
              · go_wp2_with fail
                refine wp_region_noPanic ?_
                refine wp_region_held_drew (S := fun w' => Below wr.heap.size wr w') (by kernel_rfl) ((Below.refl _ _).drew) (fun hHeld => ?_)
                have hT : Below wr.heap.size wr wr.drew := hHeld
                obtain ⟨d, hd⟩ : ∃ d, d = wr.drew := ⟨_, rfl⟩
                rw [← hd] at hHeld hT ⊢
                clear hd
                refine wpAnyH_take (i := 0) (oi := ⟨some 15, .move (.tmp 5), 3, _, _, _⟩) (v := ?v0d) rfl (by kernel_rfl) (by kernel_rfl) (by kernel_rfl) (fun _ _ _ h => h) (Or.inl ⟨by rfl, ?hy0d⟩) hHeld ?rest0d
                case hy0d => intro w9 hSw; go_simp; (try with_reducible rfl)
                try simp only [Act.put, s_put, s_0, s_1]
                refine wpAnyH_take (i := 1) (oi := ⟨some 16, .binOp BinOp.gtr 3 (.tmp 15) (.const (Value.int IntKind.i64 0)) 3, 4, _, _, _⟩) (v := ?v1d) rfl (by kernel_rfl) (by kernel_rfl) (by kernel_rfl) (fun _ _ _ h => h) (Or.inl ⟨by rfl, ?hy1d⟩) hHeld ?rest1d
                case hy1d => intro w9 hSw; go_simp; (try with_reducible rfl)
                try simp only [Act.put, s_put, s_0, s_1]
                refine wpAnyH_take (i := 2) (oi := ⟨some 17, .move (.tmp 16), 4, _, _, _⟩) (v := ?v2d) rfl (by kernel_rfl) (by kernel_rfl) (by kernel_rfl) (fun _ _ _ h => h) (Or.inl ⟨by rfl, ?hy2d⟩) hHeld ?rest2d
                case hy2d => intro w9 hSw; go_simp; (try with_reducible rfl)
                try simp only [Act.put, s_put, s_0, s_1]
                refine wpAnyH_take (i := 3) (oi := ⟨some 18, .move (.tmp 0), 22, _, _, _⟩) (v := ?v3d) rfl (by kernel_rfl) (by kernel_rfl) (by kernel_rfl) (fun _ _ _ h => h) (Or.inl ⟨by rfl, ?hy3d⟩) hHeld ?rest3d
                case hy3d => intro w9 hSw; go_simp; (try with_reducible rfl)
                try simp only [Act.put, s_put, s_0, s_1]
                refine wpAnyH_take (i := 4) (oi := ⟨some 19, .move (.tmp 4), 3, _, _, _⟩) (v := ?v4d) rfl (by kernel_rfl) (by kernel_rfl) (by kernel_rfl) (fun _ _ _ h => h) (Or.inl ⟨by rfl, ?hy4d⟩) hHeld ?rest4d
                case hy4d => intro w9 hSw; go_simp; (try with_reducible rfl)
                try simp only [Act.put, s_put, s_0, s_1]
                refine wpAnyH_take (i := 5) (oi := ⟨some 20, .indexAddr 22 (.tmp 18) (.tmp 19), 0, _, _, _⟩) (v := ?v5d) rfl (by kernel_rfl) (by kernel_rfl) (by kernel_rfl) (fun _ _ _ h => h) (Or.inl ⟨by rfl, ?hy5d⟩) hHeld ?rest5d
                case hy5d => intro w9 hSw; go_simp; (try with_reducible rfl)
                try simp only [Act.put, s_put, s_0, s_1]
                refine wpAnyH_take (i := 6) (oi := ⟨some 21, .load 27 (.tmp 20), 27, _, _, _⟩) (v := ?v6d) rfl (by kernel_rfl) (by kernel_rfl) (by kernel_rfl) (fun _ _ _ h => h) (Or.inl ⟨by rfl, ?hy6d⟩) hHeld ?rest6d
                case hy6d => intro w9 hSw; obtain ⟨d0, d1, d2, d3, d4, d5⟩ := N1.out.later hSw; go_simp; (try with_reducible rfl)
                try simp only [Act.put, s_put, s_0, s_1]
                refine wpAnyH_take (i := 7) (oi := ⟨some 22, .move (.tmp 3), 22, _, _, _⟩) (v := ?v7d) rfl (by kernel_rfl) (by kernel_rfl) (by kernel_rfl) (fun _ _ _ h => h) (Or.inl ⟨by rfl, ?hy7d⟩) hHeld ?rest7d
                case hy7d => intro w9 hSw; go_simp; (try with_reducible rfl)
                try simp only [Act.put, s_put, s_0, s_1]
                refine wpAnyH_take (i := 8) (oi := ⟨some 23, .move (.tmp 5), 3, _, _, _⟩) (v := ?v8d) rfl (by kernel_rfl) (by kernel_rfl) (by kernel_rfl) (fun _ _ _ h => h) (Or.inl ⟨by rfl, ?hy8d⟩) hHeld ?rest8d
                case hy8d => intro w9 hSw; go_simp; (try with_reducible rfl)
                try simp only [Act.put, s_put, s_0, s_1]
                refine wpAnyH_take (i := 9) (oi := ⟨some 24, .binOp BinOp.sub 3 (.tmp 23) (.const (Value.int IntKind.i64 1)) 3, 3, _, _, _⟩) (v := .int .i64 (j : Int)) rfl (by kernel_rfl) (by kernel_rfl) (by kernel_rfl) (fun _ _ _ h => h) (Or.inl ⟨by rfl, ?hy9d⟩) hHeld ?rest9d
                case hy9d => intro w9 hSw; go_simp; try (rw [IntKind.wrap_i64]; omega)
                try simp only [Act.put, s_put, s_0, s_1]
                refine wpAnyH_take (i := 10) (oi := ⟨some 25, .indexAddr 22 (.tmp 22) (.tmp 24), 0, _, _, _⟩) (v := ?v10d) rfl (by kernel_rfl) (by kernel_rfl) (by kernel_rfl) (fun _ _ _ h => h) (Or.inl ⟨by rfl, ?hy10d⟩) hHeld ?rest10d
                case hy10d => intro w9 hSw; go_simp; (try with_reducible rfl)
                try simp only [Act.put, s_put, s_0, s_1]
                refine wpAnyH_take (i := 11) (oi := ⟨some 26, .load 27 (.tmp 25), 27, _, _, _⟩) (v := ?v11d) rfl (by kernel_rfl) (by kernel_rfl) (by kernel_rfl) (fun _ _ _ h => h) (Or.inl ⟨by rfl, ?hy11d⟩) hHeld ?rest11d
                case hy11d => intro w9 hSw; obtain ⟨d0, d1, d2, d3, d4, d5⟩ := N2.out.later hSw; go_simp; (try with_reducible rfl)
                try simp only [Act.put, s_put, s_0, s_1]
                refine wpAnyH_ready (rs := [12]) (by kernel_rfl) (by simp) ?_
                refine AllReadyH.cons (o := ⟨some 27, .call { callee := .value (.func 25), args := #[.tmp 21, .tmp 26], argTypes := #[27, 27] }, 3, _, _, _⟩) rfl (fun K hK => ?_) AllReadyH.nil
                go_simp
                refine (CF.out _ hT).mono ?_
                rintro e x12 ⟨rfl, hN12⟩
                go_wp2_with fail
                have hT12 : Below wr.heap.size wr x12 := hT.trans (hN12.mono hT.size)
                refine hK.out _ _ (hHeld.trans (hN12.mono hHeld.size)) (fun _ => held_up (S' := fun w' => Below x12.heap.size x12 w') (fun w' h' => (hHeld.trans (hN12.mono hHeld.size)).trans (h'.mono (Nat.le_trans hHeld.size hN12.size))) _ _ _ _ ?_)
                clear hK K hHeld hT
                have hT : Below wr.heap.size wr x12 := hT12
                have hHeld : Below x12.heap.size x12 x12 := Below.refl _ _
                clear hT12 hN12
                try simp only [Act.put, s_put, s_0, s_1]
                refine wpAnyH_take (i := 13) (oi := ⟨some 28, .binOp BinOp.lss 3 (.tmp 27) (.const (Value.int IntKind.i64 0)) 3, 4, _, _, _⟩) (v := .bool false) rfl (by kernel_rfl) (by kernel_rfl) (by kernel_rfl) (fun _ _ _ h => h) (Or.inl ⟨by rfl, ?hy13d⟩) hHeld ?rest13d
                case hy13d => intro w9 hSw; go_simp; try omega
                try simp only [Act.put, s_put, s_0, s_1]
                refine wpAnyH_take (i := 14) (oi := ⟨some 29, .pick (.tmp 17) (.tmp 28) (.const (Value.bool false)), 4, _, _, _⟩) (v := ?v14d) rfl (by kernel_rfl) (by kernel_rfl) (by kernel_rfl) (fun _ _ _ h => h) (Or.inl ⟨by rfl, ?hy14d⟩) hHeld ?rest14d
                case hy14d => intro w9 hSw; go_simp; (try with_reducible rfl)
                try simp only [Act.put, s_put, s_0, s_1]
                refine wpAnyH_done (by kernel_rfl) ?_ _
                refine NoPanic.normal ?_
                have hB' : Below w.heap.size w x12 := hB.trans (hT.mono hB.size)
                have HO' : Hid (x12.ownsRow w.heap.size 27 6 (.slice (some ⟨g, 0, none⟩) i capo) i (rowLP O)) := own_laterS HO.out hT
                obtain ⟨g9, c9, e9, _, _, _, _, hro⟩ := ownLP HO'.out HOL.out (by have := HOL.out; omega)
                cases e9
                have HRO : Hid (RwP x12 g 0 O) := hro
                clear hB HO hT hHeld hro
                have hB := hB'
                have HO := HO'
                clear hB' HO'
                generalize x12 = wr at *
                by_cases hcj : capo = j + 1
                · obtain rfl : i = j + 1 := by omega
                  subst hcj
                  have hO := HO.out
                  obtain ⟨v8, w8, v9, w9, v10, w10, run8, run9, run10, own10, hB8, hB10⟩ := insP (w := wr) (g := g) (cap := j + 1) (HS.out.perm.length_eq.trans (by rw [List.length_take]; have := HLL.out; have := HIN.out; omega)) HRO.out hk (by have := HIN.out; omega) hic x (some ⟨g, 0, none⟩) (.inl rfl)
                  have HF : Hid (w10.ownsRow w.heap.size 27 6 v10 (j + 1 + 1) (rowLP (insL O (j + 1) x)) ∧ St formP (L.take (j + 1 + 1)) (insL O (j + 1) x)) := ⟨own_low15 own10 hB.size, st_step form3 HX.out HS.out HG.out (fun j2 y2 h2 hy2 => by obtain rfl : j = j2 := (by omega); have := HY.out.symm.trans hy2; cases this; rw [← HQ.out]; omega) (by have := HOL.out; omega)⟩
                  have HB10 : Hid (Below w.heap.size w w10) := hB.trans (hB10.mono hB.size)
                  obtain ⟨d0, d1, d2, d3, d4, d5⟩ := N1w.out.later (hB.trans (hB8.mono hB.size))
                  have R8 : Hid (_ = _) := run8
                  have R9 : Hid (_ = _) := run9
                  have R10 : Hid ((Builtin.append_ #[22, 22] 22 #[v9, .slice (some ⟨g, 0, none⟩) 0 0]).run Try.prog w9 = .ok v10 w10) := by show _ = _; simpa using run10
                  clear run8 run9 run10 own10 hB8 hB10 hO
                  go_wp2_with (first
                    | (at_builtin; refine wpList_append_run rfl (.tmp 44) (.tmp 47) 22 rfl _ _ _ rfl rfl R10.out ?_)
                    | (at_builtin; refine wpList_append_run rfl (.tmp 37) (.tmp 42) 22 rfl _ _ _ rfl rfl R9.out ?_)
                    | (at_builtin; refine wpList_append_run rfl (.tmp 32) (.tmp 35) 22 rfl _ _ _ rfl rfl R8.out ?_))
                  go_roundw
                  case rel => exact ⟨j + 1 + 1, _, HIN.out, by go_num, HF, fun e => by omega, HB10.out⟩
                  case measure => have := HIN.out; simp [intOf]; omega
                · have hO := HO.out
                  obtain ⟨v8, w8, v9, w9, v10, w10, run8, run9, run10, own10, hB8, hB10⟩ := insP (w := wr) (g := g) (cap := capo) (HS.out.perm.length_eq.trans (by rw [List.length_take]; have := HLL.out; have := HIN.out; omega)) HRO.out hk (by have := HIN.out; omega) hic x (some ⟨g, 0, none⟩) (.inl rfl)
                  have HF : Hid (w10.ownsRow w.heap.size 27 6 v10 (i + 1) (rowLP (insL O (j + 1) x)) ∧ St formP (L.take (i + 1)) (insL O (j + 1) x)) := ⟨own_low15 own10 hB.size, st_step form3 HX.out HS.out HG.out (fun j2 y2 h2 hy2 => by obtain rfl : j = j2 := (by omega); have := HY.out.symm.trans hy2; cases this; rw [← HQ.out]; omega) (by have := HOL.out; omega)⟩
                  have HB10 : Hid (Below w.heap.size w w10) := hB.trans (hB10.mono hB.size)
                  obtain ⟨d0, d1, d2, d3, d4, d5⟩ := N1w.out.later (hB.trans (hB8.mono hB.size))
                  have R8 : Hid (_ = _) := run8
                  have R9 : Hid (_ = _) := run9
                  have R10 : Hid ((Builtin.append_ #[22, 22] 22 #[v9, .slice (some ⟨g, (j + 1) * 6, none⟩) (i - (j + 1)) (capo - (j + 1))]).run Try.prog w9 = .ok v10 w10) := by show _ = _; simpa [hcj] using run10
                  clear run8 run9 run10 own10 hB8 hB10 hO
                  go_wp2_with (first
                    | (at_builtin; refine wpList_append_run rfl (.tmp 44) (.tmp 47) 22 rfl _ _ _ rfl rfl R10.out ?_)
                    | (at_builtin; refine wpList_append_run rfl (.tmp 37) (.tmp 42) 22 rfl _ _ _ rfl rfl R9.out ?_)
                    | (at_builtin; refine wpList_append_run rfl (.tmp 32) (.tmp 35) 22 rfl _ _ _ rfl rfl R8.out ?_))
                  go_roundw
                  case rel => exact ⟨i + 1, _, HIN.out, by go_num, HF, fun e => by omega, HB10.out⟩
                  case measure => have := HIN.out; simp [intOf]; omega
    · obtain rfl : i = n := by omega
      go_wp2
      go_ret
      exact ⟨_, O, rfl, ⟨HOS.out.1, by have := HOS.out.2; rwa [List.take_of_length_le (by have := HLL.out; omega)] at this⟩, hB⟩
end Go.Proofs.Ytcdehohmgfocdaa
