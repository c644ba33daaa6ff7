/-
  OrderSorted's walk: sorted patterns are as many, rise, and each of the others is there; sorted again they are as they are.
  Lists of patterns that came in.
  Lists of patterns that came in, of any size within the form's own reach.
-/
import Derived.Test.YtcdehohmgfocdaaTBrief
import Derived.Test.YtcdehohmgfocdaaTOrdForm
import Derived.Test.YtcdehohmgfocdaaTPatCopied
import Derived.Test.YtcdehohmgfocdaaTTrees
namespace Go.Proofs.Ytcdehohmgfocdaa
open Go.RowKit

/-- Is one of the first so? -/
def orN (f : Nat → Bool) : Nat → Bool
  | 0 => false
  | n + 1 => orN f n || f n
theorem orN_true {f : Nat → Bool} : ∀ {n : Nat}, orN f n = true ↔ ∃ i, i < n ∧ f i = true
  | 0 => by simp [orN]
  | n + 1 => by
    simp only [orN, Bool.or_eq_true, orN_true]
    constructor
    · rintro (⟨i, hi, h⟩ | h)
      · exact ⟨i, by omega, h⟩
      · exact ⟨n, by omega, h⟩
    · rintro ⟨i, hi, h⟩
      by_cases e : i = n
      · exact .inr (e ▸ h)
      · exact .inl ⟨i, by omega, h⟩
/-- A row by index as a list. -/
abbrev lstP (c : Nat → Pt) (n : Nat) : List Pt := (List.range n).map c
theorem lstP_len (c : Nat → Pt) (n : Nat) : (lstP c n).length = n := by simp
theorem lstP_get {c : Nat → Pt} {n i : Nat} (h : i < n) : (lstP c n)[i]? = some (c i) := by simp [h]
theorem lstP_getD {c : Nat → Pt} {n i : Nat} (h : i < n) : (lstP c n).getD i .nil = c i := by simp [h]
theorem lstP_mem {c : Nat → Pt} {n : Nat} {x : Pt} : x ∈ lstP c n ↔ ∃ i, i < n ∧ c i = x := by simp
theorem Ps.row {w : World} {a : Option Addr} {n : Nat} {c : Nat → Pt} (h : Ps w a n c) : 0 < (lstP c n).length → ∃ b o, a = some ⟨b, o, none⟩ ∧ RwP w b o (lstP c n) := fun h0 => by
  rw [lstP_len] at h0
  obtain ⟨b, o, rfl, _⟩ := h 0 h0
  refine ⟨b, o, rfl, fun i x hx => ?_⟩
  have hi : i < n := by have := (List.getElem?_eq_some_iff.1 hx).1; rwa [lstP_len] at this
  rw [lstP_get hi] at hx
  cases hx
  obtain ⟨b', o', e, h1, _⟩ := h i hi
  cases e
  exact h1
theorem GrownP.ps {B n : Nat} {w : World} {a : Option Addr} {cap : Nat} {c : Nat → Pt} (h : GrownP B w (.slice a n cap) n c) : Ps w a n c := fun i hi => by
  obtain ⟨a', cap', e, h1, h2, h3⟩ := ownP_nodes h.1
  cases e
  obtain ⟨g, e, _, _, _, hn⟩ := h3 (by omega)
  exact ⟨g, 0, e, by rw [Nat.zero_add]; exact hn i hi, (h.2 i hi).1⟩
/-- What Sort answers, by index: it rises, what was there is there. -/
theorem sort_facts {L r : List Pt} {c : Nat → Pt} {n : Nat} (hs : St formP L r) (hn : L.length = n) (hc : ∀ i, i < n → Sm (c i) (r.getD i .nil)) :
    (∀ i j, i < j → j < n → formP (c i) (c j) ≤ 0) ∧ (∀ x ∈ L, ∃ k, k < n ∧ sameP (c k) x = true) ∧ (∀ i, i < n → ∃ x ∈ L, Sm (c i) x) := by
  have hl := hs.perm.length_eq
  have get : ∀ i, i < n → r[i]? = some (r.getD i .nil) := fun i hi => by simp [show i < r.length by omega]
  refine ⟨fun i j hij hj => ?_, fun x hx => ?_, fun i hi => ⟨r.getD i .nil, ?_, hc i hi⟩⟩
  · have h1 := hc i (by omega)
    have h2 := hc j hj
    rw [ord_left form3 tri_form (form_sm h1), ord_right form3 tri_form (form_sm h2)]
    have := List.pairwise_iff_getElem.1 hs.srt i j (by omega) (by omega) hij
    simpa [show i < r.length by omega, show j < r.length by omega] using this
  · obtain ⟨k, hk⟩ := List.mem_iff_getElem?.1 (hs.perm.mem_iff.2 hx)
    have hkl := (List.getElem?_eq_some_iff.1 hk).1
    refine ⟨k, by omega, ?_⟩
    have := hc k (by omega)
    rw [List.getD_eq_getElem?_getD, hk] at this
    exact this
  · rw [← hs.perm.mem_iff]
    exact List.mem_iff_getElem?.2 ⟨i, get i hi⟩
theorem sort_again {n : Nat} {c c' : Nat → Pt} {r : List Pt} (h1 : ∀ i j, i < j → j < n → formP (c i) (c j) ≤ 0) (hs : St formP (lstP c n) r) (hc : ∀ i, i < n → Sm (c' i) (r.getD i .nil)) : ∀ i, i < n → sameP (c i) (c' i) = true := by
  have hp : Srt formP (lstP c n) := List.pairwise_iff_getElem.2 fun i j hi hj hij => by simpa using h1 i j hij (by simpa using hj)
  have e : r = lstP c n := hs.uniq form3 (St.refl hp)
  subst e
  intro i hi
  have := hc i hi
  rw [lstP_getD hi] at this
  exact this.symm
set_option maxRecDepth 100000 in
set_option maxHeartbeats 2000000 in
theorem orderSorted_no (a : Option Addr) (n cap : Nat) (D : Nat → Pt) (w : World) (hP : Ps w a n D) (hn : n ≤ 1759218604390) (hl : litB D n = false) :
    Calls Try.prog 5 #[.slice a n cap] w fun e w' => e = .returned (.bool true) ∧ Below w.heap.size w w' := by
  have L1 : Hid (Calls Try.prog 6 #[.slice a n cap] w fun e w' => e = .returned (.bool false) ∧ Below w.heap.size w w') := by
    have := lightW_any a n cap D w (by omega) hP
    rw [hl] at this
    exact this
  have W1 : Hid (∀ d, Calls Try.prog 8 #[] d fun e w' => e = .returned (.bool true) ∧ Below d.heap.size d w') := fun d => awake15_any d
  clear hP hl
  go_enter Try.func5, Try.ntmps5
  go_wp2_with (first
    | (go_at_call 6; refine L1.out.mono ?_; clear L1; rintro e w1 ⟨rfl, hB1⟩)
    | (go_at_call 8; refine (W1.out _).mono ?_; clear W1; rintro e w2 ⟨rfl, hB2⟩))
  go_ret
  exact ⟨rfl, hB1.trans (hB2.mono hB1.size)⟩
set_option maxRecDepth 100000 in
set_option maxHeartbeats 16000000 in
theorem orderSorted_yes (a : Option Addr) (n cap : Nat) (D : Nat → Pt) (w : World) (hP : Ps w a n D) (hn : n ≤ 1759218604390) (hcap : n ≤ cap) (hm : cap ≤ 9223372036854775807) (hs : ∀ i, i < n → WdP (D i)) (hl : litB D n = true) :
    Calls Try.prog 5 #[.slice a n cap] w fun e w' => e = .returned (.bool true) ∧ Below w.heap.size w w' := by
  have L1 : Hid (Calls Try.prog 6 #[.slice a n cap] w fun e w' => e = .returned (.bool true) ∧ Below w.heap.size w w') := by
    have := lightW_any a n cap D w (by omega) hP
    rw [hl] at this
    exact this
  have W1 : Hid (∀ d, Calls Try.prog 8 #[] d fun e w' => e = .returned (.bool true) ∧ Below d.heap.size d w') := fun d => awake15_any d
  have K1 : Hid (∀ d, Below w.heap.size w d → Calls Try.prog 9 #[.slice a n cap] d fun e w' => ∃ (a' : Option Addr) (cap' : Nat) (c : Nat → Pt), e = .returned (.slice a' n cap') ∧ Hid (Ps w' a' n c ∧ (∀ i j, i < j → j < n → formP (c i) (c j) ≤ 0) ∧ (∀ i, i < n → ∃ k, k < n ∧ sameP (c k) (D i) = true) ∧ (∀ i, i < n → WdP (c i)) ∧ n ≤ cap' ∧ cap' ≤ 9223372036854775807) ∧ Below d.heap.size d w') := fun d hd => by
    have hk := sortO_any a cap (lstP D n) d (hP.later hd).row (fun x hx => by
      obtain ⟨i, hi, rfl⟩ := lstP_mem.1 hx
      obtain ⟨_, _, _, _, h2⟩ := (hP.later hd) i hi
      exact ⟨h2, hs i hi⟩) (by rw [lstP_len]; exact hcap) hm (by rw [lstP_len]; exact hn)
    unfold SortAns at hk
    rw [lstP_len] at hk
    refine hk.mono ?_
    rintro e w' ⟨a', cap', c, r, rfl, h, hB⟩
    obtain ⟨g1, g2, g3, g4, g5⟩ := h.out
    obtain ⟨f1, f2, f3⟩ := sort_facts g2 (lstP_len D n) g3
    refine ⟨a', cap', c, rfl, ⟨g1.ps, f1, fun i hi => f2 _ (lstP_mem.2 ⟨i, hi, rfl⟩), fun i hi => ?_, g4, by unfold maxLen at g5; omega⟩, hB⟩
    obtain ⟨x, hx, hsm⟩ := f3 i hi
    obtain ⟨j, hj, rfl⟩ := lstP_mem.1 hx
    exact wd_sm hsm (hs j hj)
  have K2 : Hid (∀ (d : World) (a' : Option Addr) (cap' : Nat) (c : Nat → Pt), Hid (Ps d a' n c ∧ (∀ i j, i < j → j < n → formP (c i) (c j) ≤ 0) ∧ (∀ i, i < n → ∃ k, k < n ∧ sameP (c k) (D i) = true) ∧ (∀ i, i < n → WdP (c i)) ∧ n ≤ cap' ∧ cap' ≤ 9223372036854775807) →
      Calls Try.prog 9 #[.slice a' n cap'] d fun e w' => ∃ (a2 : Option Addr) (cap2 : Nat) (c2 : Nat → Pt), e = .returned (.slice a2 n cap2) ∧ Hid (Ps w' a2 n c2 ∧ ∀ i, i < n → sameP (c i) (c2 i) = true) ∧ Below d.heap.size d w') := fun d a' cap' c h => by
    obtain ⟨h1, h2, h3, h4, h5, h6⟩ := h.out
    have hk := sortO_any a' cap' (lstP c n) d h1.row (fun x hx => by
      obtain ⟨i, hi, rfl⟩ := lstP_mem.1 hx
      obtain ⟨_, _, _, _, q2⟩ := h1 i hi
      exact ⟨q2, h4 i hi⟩) (by rw [lstP_len]; exact h5) h6 (by rw [lstP_len]; exact hn)
    unfold SortAns at hk
    rw [lstP_len] at hk
    refine hk.mono ?_
    rintro e w' ⟨a2, cap2, c2, r, rfl, q, hB⟩
    obtain ⟨g1, g2, g3, g4, g5⟩ := q.out
    exact ⟨a2, cap2, c2, rfl, ⟨g1.ps, sort_again h2 g2 g3⟩, hB⟩
  have HP : Hid (Ps w a n D) := hP
  clear hP hl hs hm hcap
  go_enter Try.func5, Try.ntmps5
  go_upto_region 7 with (first
    | (go_at_call 6; refine L1.out.mono ?_; clear L1; rintro e w1 ⟨rfl, hB1⟩)
    | (go_at_call 9; refine (K2.out _ _ _ c2 h2).mono ?_; clear K2; rintro e w3 ⟨a3, cap3, c3, rfl, h3, hB3⟩)
    | (go_at_call 9; refine (K1.out _ hB1).mono ?_; clear K1; rintro e w2 ⟨a2, cap2, c2, rfl, h2, hB2⟩))
  have HW : Hid (Below w.heap.size w w3) := (hB1.trans (hB2.mono hB1.size)).trans (hB3.mono (Nat.le_trans hB1.size hB2.size))
  have P1 : Hid (Ps w3 a n D) := HP.out.later HW.out
  have P2 : Hid (Ps w3 a2 n c2) := h2.out.1.later hB3
  have P3 : Hid (Ps w3 a3 n c3) := h3.out.1
  have F1 : Hid (∀ i, i + 1 < n → formP (c2 i) (c2 (i + 1)) ≤ 0) := fun i hi => h2.out.2.1 i (i + 1) (by omega) hi
  have F2 : Hid (∀ i, i < n → sameP (c2 i) (c3 i) = true) := h3.out.2
  have F3 : Hid (∀ i, i < n → orN (fun k => sameP (c2 k) (D i)) n = true) := fun i hi => orN_true.2 (h2.out.2.2.1 i hi)
  clear h2 h3 hB1 hB2 hB3 HP
  generalize w3 = W at *
  go_wp2
  go_loopw [5] (fun u wr => ∃ k : Nat, k ≤ n ∧ u = .int .i64 k ∧ Below W.heap.size W wr) (fun u _ => n - (intOf u).toNat)
  case atStart => exact ⟨0, Nat.zero_le _, rfl, Below.refl _ _⟩
  case round =>
    obtain ⟨k, hk, rfl, hB⟩ := hrel
    have HB : Hid (Below W.heap.size W wr) := hB
    by_cases hkn : k < n
    · obtain ⟨b2, o2, rfl, n2, i2⟩ := (P2.out.later hB) k hkn
      obtain ⟨b3, o3, rfl, n3, i3⟩ := (P3.out.later hB) k hkn
      have N1 : Hid (NodeP wr b2 (o2 + k * 6) (c2 k)) := n2
      have N2 : Hid (NodeP wr b3 (o3 + k * 6) (c3 k)) := n3
      have HK : Hid (k < n) := hkn
      have CS : Hid (∀ d, Below wr.heap.size wr d → Calls Try.prog 15 #[(c2 k).val, (c3 k).val] d fun e w' => e = .returned (.bool true) ∧ Below d.heap.size d w') := fun d hd => by
        have := refSameP_any (c2 k) (c3 k) d (i2.later hd) (i3.later hd)
        rw [F2.out k hkn] at this
        exact this
      clear n2 n3 i3 hB
      cases k with
      | zero =>
        · have N1' : Hid (NodeP wr b2 o2 (c2 0)) := by have := N1.out; rwa [Nat.zero_mul, Nat.add_zero] at this
          have N2' : Hid (NodeP wr b3 o3 (c3 0)) := by have := N2.out; rwa [Nat.zero_mul, Nat.add_zero] at this
          clear i2 N1 N2
          have N1 := N1'
          have N2 := N2'
          go_wp2_with fail
          refine wp_region_noPanic ?_
          refine wp_region_held_drew (S := fun w' => Below wr.heap.size wr w') (by kernel_rfl) ((Below.refl _ _).drew) (fun hHeld => ?_)
          have hT : Below wr.heap.size wr wr.drew := hHeld
          obtain ⟨d, hd⟩ : ∃ d, d = wr.drew := ⟨_, rfl⟩
          rw [← hd] at hHeld hT ⊢
          clear hd
          refine wpAnyH_take (i := 0) (oi := ⟨some 41, .move (.tmp 5), 3, _, _, _⟩) (v := ?v0a) rfl (by kernel_rfl) (by kernel_rfl) (by kernel_rfl) (fun _ _ _ h => h) (Or.inl ⟨by rfl, ?hy0a⟩) hHeld ?rest0a
          case hy0a => intro w9 hSw; go_simp; (try with_reducible rfl)
          try simp only [Act.put, s_put, s_0, s_1]
          refine wpAnyH_take (i := 1) (oi := ⟨some 42, .binOp BinOp.gtr 3 (.tmp 41) (.const (Value.int IntKind.i64 0)) 3, 4, _, _, _⟩) (v := ?v1a) rfl (by kernel_rfl) (by kernel_rfl) (by kernel_rfl) (fun _ _ _ h => h) (Or.inl ⟨by rfl, ?hy1a⟩) hHeld ?rest1a
          case hy1a => intro w9 hSw; go_simp; (try with_reducible rfl)
          try simp only [Act.put, s_put, s_0, s_1]
          refine wpAnyH_take (i := 2) (oi := ⟨some 43, .move (.tmp 42), 4, _, _, _⟩) (v := ?v2a) rfl (by kernel_rfl) (by kernel_rfl) (by kernel_rfl) (fun _ _ _ h => h) (Or.inl ⟨by rfl, ?hy2a⟩) hHeld ?rest2a
          case hy2a => intro w9 hSw; go_simp; (try with_reducible rfl)
          try simp only [Act.put, s_put, s_0, s_1]
          refine wpAnyH_take (i := 3) (oi := ⟨some 44, .move (.tmp 3), 22, _, _, _⟩) (v := undef) rfl (by kernel_rfl) (by kernel_rfl) (by kernel_rfl) (fun _ _ _ h => h) (Or.inr ⟨by rfl, rfl⟩) hHeld ?rest3a
          try simp only [Act.put, s_put, s_0, s_1]
          refine wpAnyH_take (i := 4) (oi := ⟨some 45, .move (.tmp 5), 3, _, _, _⟩) (v := undef) rfl (by kernel_rfl) (by kernel_rfl) (by kernel_rfl) (fun _ _ _ h => h) (Or.inr ⟨by rfl, rfl⟩) hHeld ?rest4a
          try simp only [Act.put, s_put, s_0, s_1]
          refine wpAnyH_take (i := 5) (oi := ⟨some 46, .binOp BinOp.sub 3 (.tmp 45) (.const (Value.int IntKind.i64 1)) 3, 3, _, _, _⟩) (v := undef) rfl (by kernel_rfl) (by kernel_rfl) (by kernel_rfl) (fun _ _ _ h => h) (Or.inr ⟨by rfl, rfl⟩) hHeld ?rest5a
          try simp only [Act.put, s_put, s_0, s_1]
          refine wpAnyH_take (i := 6) (oi := ⟨some 47, .indexAddr 22 (.tmp 44) (.tmp 46), 0, _, _, _⟩) (v := undef) rfl (by kernel_rfl) (by kernel_rfl) (by kernel_rfl) (fun _ _ _ h => h) (Or.inr ⟨by rfl, rfl⟩) hHeld ?rest6a
          try simp only [Act.put, s_put, s_0, s_1]
          refine wpAnyH_take (i := 7) (oi := ⟨some 48, .load 27 (.tmp 47), 27, _, _, _⟩) (v := undef) rfl (by kernel_rfl) (by kernel_rfl) (by kernel_rfl) (fun _ _ _ h => h) (Or.inr ⟨by rfl, rfl⟩) hHeld ?rest7a
          try simp only [Act.put, s_put, s_0, s_1]
          refine wpAnyH_take (i := 8) (oi := ⟨some 49, .move (.tmp 3), 22, _, _, _⟩) (v := undef) rfl (by kernel_rfl) (by kernel_rfl) (by kernel_rfl) (fun _ _ _ h => h) (Or.inr ⟨by rfl, rfl⟩) hHeld ?rest8a
          try simp only [Act.put, s_put, s_0, s_1]
          refine wpAnyH_take (i := 9) (oi := ⟨some 50, .move (.tmp 5), 3, _, _, _⟩) (v := undef) rfl (by kernel_rfl) (by kernel_rfl) (by kernel_rfl) (fun _ _ _ h => h) (Or.inr ⟨by rfl, rfl⟩) hHeld ?rest9a
          try simp only [Act.put, s_put, s_0, s_1]
          refine wpAnyH_take (i := 10) (oi := ⟨some 51, .indexAddr 22 (.tmp 49) (.tmp 50), 0, _, _, _⟩) (v := undef) rfl (by kernel_rfl) (by kernel_rfl) (by kernel_rfl) (fun _ _ _ h => h) (Or.inr ⟨by rfl, rfl⟩) hHeld ?rest10a
          try simp only [Act.put, s_put, s_0, s_1]
          refine wpAnyH_take (i := 11) (oi := ⟨some 52, .load 27 (.tmp 51), 27, _, _, _⟩) (v := undef) rfl (by kernel_rfl) (by kernel_rfl) (by kernel_rfl) (fun _ _ _ h => h) (Or.inr ⟨by rfl, rfl⟩) hHeld ?rest11a
          try simp only [Act.put, s_put, s_0, s_1]
          refine wpAnyH_take (i := 12) (oi := ⟨some 53, .call { callee := .value (.func 19), args := #[.tmp 48, .tmp 52], argTypes := #[27, 27] }, 3, _, _, _⟩) (v := undef) rfl (by kernel_rfl) (by kernel_rfl) (by kernel_rfl) (fun _ _ _ h => h) (Or.inr ⟨by rfl, rfl⟩) hHeld ?rest12a
          try simp only [Act.put, s_put, s_0, s_1]
          refine wpAnyH_take (i := 13) (oi := ⟨some 54, .binOp BinOp.gtr 3 (.tmp 53) (.const (Value.int IntKind.i64 0)) 3, 4, _, _, _⟩) (v := undef) rfl (by kernel_rfl) (by kernel_rfl) (by kernel_rfl) (fun _ _ _ h => h) (Or.inr ⟨by rfl, rfl⟩) hHeld ?rest13a
          try simp only [Act.put, s_put, s_0, s_1]
          refine wpAnyH_take (i := 14) (oi := ⟨some 55, .pick (.tmp 43) (.tmp 54) (.const (Value.bool false)), 4, _, _, _⟩) (v := ?v14a) rfl (by kernel_rfl) (by kernel_rfl) (by kernel_rfl) (fun _ _ _ h => h) (Or.inl ⟨by rfl, ?hy14a⟩) hHeld ?rest14a
          case hy14a => intro w9 hSw; go_simp; (try with_reducible rfl)
          try simp only [Act.put, s_put, s_0, s_1]
          refine wpAnyH_take (i := 15) (oi := ⟨some 56, .move (.tmp 55), 4, _, _, _⟩) (v := ?v15a) rfl (by kernel_rfl) (by kernel_rfl) (by kernel_rfl) (fun _ _ _ h => h) (Or.inl ⟨by rfl, ?hy15a⟩) hHeld ?rest15a
          case hy15a => intro w9 hSw; go_simp; (try with_reducible rfl)
          try simp only [Act.put, s_put, s_0, s_1]
          refine wpAnyH_take (i := 16) (oi := ⟨some 57, .move (.tmp 3), 22, _, _, _⟩) (v := ?v16a) rfl (by kernel_rfl) (by kernel_rfl) (by kernel_rfl) (fun _ _ _ h => h) (Or.inl ⟨by rfl, ?hy16a⟩) hHeld ?rest16a
          case hy16a => intro w9 hSw; go_simp; (try with_reducible rfl)
          try simp only [Act.put, s_put, s_0, s_1]
          refine wpAnyH_take (i := 17) (oi := ⟨some 58, .move (.tmp 5), 3, _, _, _⟩) (v := ?v17a) rfl (by kernel_rfl) (by kernel_rfl) (by kernel_rfl) (fun _ _ _ h => h) (Or.inl ⟨by rfl, ?hy17a⟩) hHeld ?rest17a
          case hy17a => intro w9 hSw; go_simp; (try with_reducible rfl)
          try simp only [Act.put, s_put, s_0, s_1]
          refine wpAnyH_take (i := 18) (oi := ⟨some 59, .indexAddr 22 (.tmp 57) (.tmp 58), 0, _, _, _⟩) (v := ?v18a) rfl (by kernel_rfl) (by kernel_rfl) (by kernel_rfl) (fun _ _ _ h => h) (Or.inl ⟨by rfl, ?hy18a⟩) hHeld ?rest18a
          case hy18a => intro w9 hSw; go_simp; (try with_reducible rfl)
          try simp only [Act.put, s_put, s_0, s_1]
          refine wpAnyH_take (i := 19) (oi := ⟨some 60, .load 27 (.tmp 59), 27, _, _, _⟩) (v := ?v19a) rfl (by kernel_rfl) (by kernel_rfl) (by kernel_rfl) (fun _ _ _ h => h) (Or.inl ⟨by rfl, ?hy19a⟩) hHeld ?rest19a
          case hy19a => intro w9 hSw; obtain ⟨d0, d1, d2, d3, d4, d5⟩ := N1.out.later hSw; go_simp; (try with_reducible rfl)
          try simp only [Act.put, s_put, s_0, s_1]
          refine wpAnyH_take (i := 20) (oi := ⟨some 61, .move (.tmp 4), 22, _, _, _⟩) (v := ?v20a) rfl (by kernel_rfl) (by kernel_rfl) (by kernel_rfl) (fun _ _ _ h => h) (Or.inl ⟨by rfl, ?hy20a⟩) hHeld ?rest20a
          case hy20a => intro w9 hSw; go_simp; (try with_reducible rfl)
          try simp only [Act.put, s_put, s_0, s_1]
          refine wpAnyH_take (i := 21) (oi := ⟨some 62, .move (.tmp 5), 3, _, _, _⟩) (v := ?v21a) rfl (by kernel_rfl) (by kernel_rfl) (by kernel_rfl) (fun _ _ _ h => h) (Or.inl ⟨by rfl, ?hy21a⟩) hHeld ?rest21a
          case hy21a => intro w9 hSw; go_simp; (try with_reducible rfl)
          try simp only [Act.put, s_put, s_0, s_1]
          refine wpAnyH_take (i := 22) (oi := ⟨some 63, .indexAddr 22 (.tmp 61) (.tmp 62), 0, _, _, _⟩) (v := ?v22a) rfl (by kernel_rfl) (by kernel_rfl) (by kernel_rfl) (fun _ _ _ h => h) (Or.inl ⟨by rfl, ?hy22a⟩) hHeld ?rest22a
          case hy22a => intro w9 hSw; go_simp; (try with_reducible rfl)
          try simp only [Act.put, s_put, s_0, s_1]
          refine wpAnyH_take (i := 23) (oi := ⟨some 64, .load 27 (.tmp 63), 27, _, _, _⟩) (v := ?v23a) rfl (by kernel_rfl) (by kernel_rfl) (by kernel_rfl) (fun _ _ _ h => h) (Or.inl ⟨by rfl, ?hy23a⟩) hHeld ?rest23a
          case hy23a => intro w9 hSw; obtain ⟨d0, d1, d2, d3, d4, d5⟩ := N2.out.later hSw; go_simp; (try with_reducible rfl)
          try simp only [Act.put, s_put, s_0, s_1]
          refine wpAnyH_ready (rs := [24]) (by kernel_rfl) (by simp) ?_
          refine AllReadyH.cons (o := ⟨some 65, .call { callee := .value (.func 15), args := #[.tmp 60, .tmp 64], argTypes := #[27, 27] }, 4, _, _, _⟩) rfl (fun K hK => ?_) AllReadyH.nil
          go_simp
          refine (CS.out _ hT).mono ?_
          rintro e x24 ⟨rfl, hN24⟩
          go_wp2_with fail
          have hT24 : Below wr.heap.size wr x24 := hT.trans (hN24.mono hT.size)
          refine hK.out _ _ (hHeld.trans (hN24.mono hHeld.size)) (fun _ => held_up (S' := fun w' => Below x24.heap.size x24 w') (fun w' h' => (hHeld.trans (hN24.mono hHeld.size)).trans (h'.mono (Nat.le_trans hHeld.size hN24.size))) _ _ _ _ ?_)
          clear hK K hHeld hT
          have hT : Below wr.heap.size wr x24 := hT24
          have hHeld : Below x24.heap.size x24 x24 := Below.refl _ _
          clear hT24 hN24
          try simp only [Act.put, s_put, s_0, s_1]
          refine wpAnyH_take (i := 25) (oi := ⟨some 66, .unOp UnOp.not 4 (.tmp 65), 4, _, _, _⟩) (v := ?v25a) rfl (by kernel_rfl) (by kernel_rfl) (by kernel_rfl) (fun _ _ _ h => h) (Or.inl ⟨by rfl, ?hy25a⟩) hHeld ?rest25a
          case hy25a => intro w9 hSw; go_simp; (try with_reducible rfl)
          try simp only [Act.put, s_put, s_0, s_1]
          refine wpAnyH_take (i := 26) (oi := ⟨some 67, .pick (.tmp 56) (.const (Value.bool true)) (.tmp 66), 4, _, _, _⟩) (v := ?v26a) rfl (by kernel_rfl) (by kernel_rfl) (by kernel_rfl) (fun _ _ _ h => h) (Or.inl ⟨by rfl, ?hy26a⟩) hHeld ?rest26a
          case hy26a => intro w9 hSw; go_simp; (try with_reducible rfl)
          try simp only [Act.put, s_put, s_0, s_1]
          refine wpAnyH_done (by kernel_rfl) ?_ _
          refine NoPanic.normal ?_
          go_wp2
          go_roundw
          case rel => exact ⟨0 + 1, HK.out, by go_num, HB.out.trans (hT.mono HB.out.size)⟩
          case measure => have := HK.out; simp [intOf]; omega
      | succ j =>
        · obtain ⟨b0, o0, e0, n0, i0⟩ := (P2.out.later HB.out) j (by omega)
          cases e0
          have N0 : Hid (NodeP wr b2 (o2 + j * 6) (c2 j)) := n0
          obtain ⟨q, hq⟩ : ∃ q, q = formP (c2 j) (c2 (j + 1)) := ⟨_, rfl⟩
          have hq0 : ¬ 0 < q := by have := F1.out j hkn; omega
          have CF : Hid (∀ d, Below wr.heap.size wr d → Calls Try.prog 19 #[(c2 j).val, (c2 (j + 1)).val] d fun e w' => e = .returned (.int .i64 q) ∧ Below d.heap.size d w') := fun d hd => by
            rw [hq]
            exact formP_any _ _ d (i0.later hd) (i2.later hd)
          have hjn : j < n := by omega
          have hj0 : (0 : Int) ≤ (j : Int) + 1 := by omega
          clear n0 i0 i2 hq
          go_wp2_with fail
          refine wp_region_noPanic ?_
          refine wp_region_held_drew (S := fun w' => Below wr.heap.size wr w') (by kernel_rfl) ((Below.refl _ _).drew) (fun hHeld => ?_)
          have hT : Below wr.heap.size wr wr.drew := hHeld
          obtain ⟨d, hd⟩ : ∃ d, d = wr.drew := ⟨_, rfl⟩
          rw [← hd] at hHeld hT ⊢
          clear hd
          refine wpAnyH_take (i := 0) (oi := ⟨some 41, .move (.tmp 5), 3, _, _, _⟩) (v := ?v0b) rfl (by kernel_rfl) (by kernel_rfl) (by kernel_rfl) (fun _ _ _ h => h) (Or.inl ⟨by rfl, ?hy0b⟩) hHeld ?rest0b
          case hy0b => intro w9 hSw; go_simp; (try with_reducible rfl)
          try simp only [Act.put, s_put, s_0, s_1]
          refine wpAnyH_take (i := 1) (oi := ⟨some 42, .binOp BinOp.gtr 3 (.tmp 41) (.const (Value.int IntKind.i64 0)) 3, 4, _, _, _⟩) (v := ?v1b) rfl (by kernel_rfl) (by kernel_rfl) (by kernel_rfl) (fun _ _ _ h => h) (Or.inl ⟨by rfl, ?hy1b⟩) hHeld ?rest1b
          case hy1b => intro w9 hSw; go_simp; (try with_reducible rfl)
          try simp only [Act.put, s_put, s_0, s_1]
          refine wpAnyH_take (i := 2) (oi := ⟨some 43, .move (.tmp 42), 4, _, _, _⟩) (v := ?v2b) rfl (by kernel_rfl) (by kernel_rfl) (by kernel_rfl) (fun _ _ _ h => h) (Or.inl ⟨by rfl, ?hy2b⟩) hHeld ?rest2b
          case hy2b => intro w9 hSw; go_simp; (try with_reducible rfl)
          try simp only [Act.put, s_put, s_0, s_1]
          refine wpAnyH_take (i := 3) (oi := ⟨some 44, .move (.tmp 3), 22, _, _, _⟩) (v := ?v3b) rfl (by kernel_rfl) (by kernel_rfl) (by kernel_rfl) (fun _ _ _ h => h) (Or.inl ⟨by rfl, ?hy3b⟩) hHeld ?rest3b
          case hy3b => intro w9 hSw; go_simp; (try with_reducible rfl)
          try simp only [Act.put, s_put, s_0, s_1]
          refine wpAnyH_take (i := 4) (oi := ⟨some 45, .move (.tmp 5), 3, _, _, _⟩) (v := ?v4b) rfl (by kernel_rfl) (by kernel_rfl) (by kernel_rfl) (fun _ _ _ h => h) (Or.inl ⟨by rfl, ?hy4b⟩) hHeld ?rest4b
          case hy4b => intro w9 hSw; go_simp; (try with_reducible rfl)
          try simp only [Act.put, s_put, s_0, s_1]
          refine wpAnyH_take (i := 5) (oi := ⟨some 46, .binOp BinOp.sub 3 (.tmp 45) (.const (Value.int IntKind.i64 1)) 3, 3, _, _, _⟩) (v := .int .i64 (j : Int)) rfl (by kernel_rfl) (by kernel_rfl) (by kernel_rfl) (fun _ _ _ h => h) (Or.inl ⟨by rfl, ?hy5b⟩) hHeld ?rest5b
          case hy5b => intro w9 hSw; go_simp; try (rw [IntKind.wrap_i64]; omega)
          try simp only [Act.put, s_put, s_0, s_1]
          refine wpAnyH_take (i := 6) (oi := ⟨some 47, .indexAddr 22 (.tmp 44) (.tmp 46), 0, _, _, _⟩) (v := ?v6b) rfl (by kernel_rfl) (by kernel_rfl) (by kernel_rfl) (fun _ _ _ h => h) (Or.inl ⟨by rfl, ?hy6b⟩) hHeld ?rest6b
          case hy6b => intro w9 hSw; go_simp; (try with_reducible rfl)
          try simp only [Act.put, s_put, s_0, s_1]
          refine wpAnyH_take (i := 7) (oi := ⟨some 48, .load 27 (.tmp 47), 27, _, _, _⟩) (v := ?v7b) rfl (by kernel_rfl) (by kernel_rfl) (by kernel_rfl) (fun _ _ _ h => h) (Or.inl ⟨by rfl, ?hy7b⟩) hHeld ?rest7b
          case hy7b => intro w9 hSw; obtain ⟨d0, d1, d2, d3, d4, d5⟩ := N0.out.later hSw; go_simp; (try with_reducible rfl)
          try simp only [Act.put, s_put, s_0, s_1]
          refine wpAnyH_take (i := 8) (oi := ⟨some 49, .move (.tmp 3), 22, _, _, _⟩) (v := ?v8b) rfl (by kernel_rfl) (by kernel_rfl) (by kernel_rfl) (fun _ _ _ h => h) (Or.inl ⟨by rfl, ?hy8b⟩) hHeld ?rest8b
          case hy8b => intro w9 hSw; go_simp; (try with_reducible rfl)
          try simp only [Act.put, s_put, s_0, s_1]
          refine wpAnyH_take (i := 9) (oi := ⟨some 50, .move (.tmp 5), 3, _, _, _⟩) (v := ?v9b) rfl (by kernel_rfl) (by kernel_rfl) (by kernel_rfl) (fun _ _ _ h => h) (Or.inl ⟨by rfl, ?hy9b⟩) hHeld ?rest9b
          case hy9b => intro w9 hSw; go_simp; (try with_reducible rfl)
          try simp only [Act.put, s_put, s_0, s_1]
          refine wpAnyH_take (i := 10) (oi := ⟨some 51, .indexAddr 22 (.tmp 49) (.tmp 50), 0, _, _, _⟩) (v := ?v10b) rfl (by kernel_rfl) (by kernel_rfl) (by kernel_rfl) (fun _ _ _ h => h) (Or.inl ⟨by rfl, ?hy10b⟩) hHeld ?rest10b
          case hy10b => intro w9 hSw; go_simp; (try with_reducible rfl)
          try simp only [Act.put, s_put, s_0, s_1]
          refine wpAnyH_take (i := 11) (oi := ⟨some 52, .load 27 (.tmp 51), 27, _, _, _⟩) (v := ?v11b) rfl (by kernel_rfl) (by kernel_rfl) (by kernel_rfl) (fun _ _ _ h => h) (Or.inl ⟨by rfl, ?hy11b⟩) hHeld ?rest11b
          case hy11b => intro w9 hSw; obtain ⟨d0, d1, d2, d3, d4, d5⟩ := N1.out.later hSw; go_simp; (try with_reducible rfl)
          try simp only [Act.put, s_put, s_0, s_1]
          refine wpAnyH_ready (rs := [12]) (by kernel_rfl) (by simp) ?_
          refine AllReadyH.cons (o := ⟨some 53, .call { callee := .value (.func 19), args := #[.tmp 48, .tmp 52], argTypes := #[27, 27] }, 3, _, _, _⟩) rfl (fun K hK => ?_) AllReadyH.nil
          go_simp
          refine (CF.out _ hT).mono ?_
          rintro e x12 ⟨rfl, hN12⟩
          go_wp2_with fail
          have hT12 : Below wr.heap.size wr x12 := hT.trans (hN12.mono hT.size)
          refine hK.out _ _ (hHeld.trans (hN12.mono hHeld.size)) (fun _ => held_up (S' := fun w' => Below x12.heap.size x12 w') (fun w' h' => (hHeld.trans (hN12.mono hHeld.size)).trans (h'.mono (Nat.le_trans hHeld.size hN12.size))) _ _ _ _ ?_)
          clear hK K hHeld hT
          have hT : Below wr.heap.size wr x12 := hT12
          have hHeld : Below x12.heap.size x12 x12 := Below.refl _ _
          clear hT12 hN12
          try simp only [Act.put, s_put, s_0, s_1]
          refine wpAnyH_take (i := 13) (oi := ⟨some 54, .binOp BinOp.gtr 3 (.tmp 53) (.const (Value.int IntKind.i64 0)) 3, 4, _, _, _⟩) (v := .bool false) rfl (by kernel_rfl) (by kernel_rfl) (by kernel_rfl) (fun _ _ _ h => h) (Or.inl ⟨by rfl, ?hy13b⟩) hHeld ?rest13b
          case hy13b => intro w9 hSw; go_simp; try omega
          try simp only [Act.put, s_put, s_0, s_1]
          refine wpAnyH_take (i := 14) (oi := ⟨some 55, .pick (.tmp 43) (.tmp 54) (.const (Value.bool false)), 4, _, _, _⟩) (v := ?v14b) rfl (by kernel_rfl) (by kernel_rfl) (by kernel_rfl) (fun _ _ _ h => h) (Or.inl ⟨by rfl, ?hy14b⟩) hHeld ?rest14b
          case hy14b => intro w9 hSw; go_simp; (try with_reducible rfl)
          try simp only [Act.put, s_put, s_0, s_1]
          refine wpAnyH_take (i := 15) (oi := ⟨some 56, .move (.tmp 55), 4, _, _, _⟩) (v := ?v15b) rfl (by kernel_rfl) (by kernel_rfl) (by kernel_rfl) (fun _ _ _ h => h) (Or.inl ⟨by rfl, ?hy15b⟩) hHeld ?rest15b
          case hy15b => intro w9 hSw; go_simp; (try with_reducible rfl)
          try simp only [Act.put, s_put, s_0, s_1]
          refine wpAnyH_take (i := 16) (oi := ⟨some 57, .move (.tmp 3), 22, _, _, _⟩) (v := ?v16b) rfl (by kernel_rfl) (by kernel_rfl) (by kernel_rfl) (fun _ _ _ h => h) (Or.inl ⟨by rfl, ?hy16b⟩) hHeld ?rest16b
          case hy16b => intro w9 hSw; go_simp; (try with_reducible rfl)
          try simp only [Act.put, s_put, s_0, s_1]
          refine wpAnyH_take (i := 17) (oi := ⟨some 58, .move (.tmp 5), 3, _, _, _⟩) (v := ?v17b) rfl (by kernel_rfl) (by kernel_rfl) (by kernel_rfl) (fun _ _ _ h => h) (Or.inl ⟨by rfl, ?hy17b⟩) hHeld ?rest17b
          case hy17b => intro w9 hSw; go_simp; (try with_reducible rfl)
          try simp only [Act.put, s_put, s_0, s_1]
          refine wpAnyH_take (i := 18) (oi := ⟨some 59, .indexAddr 22 (.tmp 57) (.tmp 58), 0, _, _, _⟩) (v := ?v18b) rfl (by kernel_rfl) (by kernel_rfl) (by kernel_rfl) (fun _ _ _ h => h) (Or.inl ⟨by rfl, ?hy18b⟩) hHeld ?rest18b
          case hy18b => intro w9 hSw; go_simp; (try with_reducible rfl)
          try simp only [Act.put, s_put, s_0, s_1]
          refine wpAnyH_take (i := 19) (oi := ⟨some 60, .load 27 (.tmp 59), 27, _, _, _⟩) (v := ?v19b) rfl (by kernel_rfl) (by kernel_rfl) (by kernel_rfl) (fun _ _ _ h => h) (Or.inl ⟨by rfl, ?hy19b⟩) hHeld ?rest19b
          case hy19b => intro w9 hSw; obtain ⟨d0, d1, d2, d3, d4, d5⟩ := N1.out.later (hT.trans (hSw.mono hT.size)); go_simp; (try with_reducible rfl)
          try simp only [Act.put, s_put, s_0, s_1]
          refine wpAnyH_take (i := 20) (oi := ⟨some 61, .move (.tmp 4), 22, _, _, _⟩) (v := ?v20b) rfl (by kernel_rfl) (by kernel_rfl) (by kernel_rfl) (fun _ _ _ h => h) (Or.inl ⟨by rfl, ?hy20b⟩) hHeld ?rest20b
          case hy20b => intro w9 hSw; go_simp; (try with_reducible rfl)
          try simp only [Act.put, s_put, s_0, s_1]
          refine wpAnyH_take (i := 21) (oi := ⟨some 62, .move (.tmp 5), 3, _, _, _⟩) (v := ?v21b) rfl (by kernel_rfl) (by kernel_rfl) (by kernel_rfl) (fun _ _ _ h => h) (Or.inl ⟨by rfl, ?hy21b⟩) hHeld ?rest21b
          case hy21b => intro w9 hSw; go_simp; (try with_reducible rfl)
          try simp only [Act.put, s_put, s_0, s_1]
          refine wpAnyH_take (i := 22) (oi := ⟨some 63, .indexAddr 22 (.tmp 61) (.tmp 62), 0, _, _, _⟩) (v := ?v22b) rfl (by kernel_rfl) (by kernel_rfl) (by kernel_rfl) (fun _ _ _ h => h) (Or.inl ⟨by rfl, ?hy22b⟩) hHeld ?rest22b
          case hy22b => intro w9 hSw; go_simp; (try with_reducible rfl)
          try simp only [Act.put, s_put, s_0, s_1]
          refine wpAnyH_take (i := 23) (oi := ⟨some 64, .load 27 (.tmp 63), 27, _, _, _⟩) (v := ?v23b) rfl (by kernel_rfl) (by kernel_rfl) (by kernel_rfl) (fun _ _ _ h => h) (Or.inl ⟨by rfl, ?hy23b⟩) hHeld ?rest23b
          case hy23b => intro w9 hSw; obtain ⟨d0, d1, d2, d3, d4, d5⟩ := N2.out.later (hT.trans (hSw.mono hT.size)); go_simp; (try with_reducible rfl)
          try simp only [Act.put, s_put, s_0, s_1]
          refine wpAnyH_ready (rs := [24]) (by kernel_rfl) (by simp) ?_
          refine AllReadyH.cons (o := ⟨some 65, .call { callee := .value (.func 15), args := #[.tmp 60, .tmp 64], argTypes := #[27, 27] }, 4, _, _, _⟩) rfl (fun K hK => ?_) AllReadyH.nil
          go_simp
          refine (CS.out _ hT).mono ?_
          rintro e x24 ⟨rfl, hN24⟩
          go_wp2_with fail
          have hT24 : Below wr.heap.size wr x24 := hT.trans (hN24.mono hT.size)
          refine hK.out _ _ (hHeld.trans (hN24.mono hHeld.size)) (fun _ => held_up (S' := fun w' => Below x24.heap.size x24 w') (fun w' h' => (hHeld.trans (hN24.mono hHeld.size)).trans (h'.mono (Nat.le_trans hHeld.size hN24.size))) _ _ _ _ ?_)
          clear hK K hHeld hT
          have hT : Below wr.heap.size wr x24 := hT24
          have hHeld : Below x24.heap.size x24 x24 := Below.refl _ _
          clear hT24 hN24
          try simp only [Act.put, s_put, s_0, s_1]
          refine wpAnyH_take (i := 25) (oi := ⟨some 66, .unOp UnOp.not 4 (.tmp 65), 4, _, _, _⟩) (v := ?v25b) rfl (by kernel_rfl) (by kernel_rfl) (by kernel_rfl) (fun _ _ _ h => h) (Or.inl ⟨by rfl, ?hy25b⟩) hHeld ?rest25b
          case hy25b => intro w9 hSw; go_simp; (try with_reducible rfl)
          try simp only [Act.put, s_put, s_0, s_1]
          refine wpAnyH_take (i := 26) (oi := ⟨some 67, .pick (.tmp 56) (.const (Value.bool true)) (.tmp 66), 4, _, _, _⟩) (v := ?v26b) rfl (by kernel_rfl) (by kernel_rfl) (by kernel_rfl) (fun _ _ _ h => h) (Or.inl ⟨by rfl, ?hy26b⟩) hHeld ?rest26b
          case hy26b => intro w9 hSw; go_simp; (try with_reducible rfl)
          try simp only [Act.put, s_put, s_0, s_1]
          refine wpAnyH_done (by kernel_rfl) ?_ _
          refine NoPanic.normal ?_
          go_wp2
          go_roundw
          case rel => exact ⟨j + 1 + 1, HK.out, by go_num, HB.out.trans (hT.mono HB.out.size)⟩
          case measure => have := HK.out; simp [intOf]; omega
    · obtain rfl : k = n := by omega
      clear hB
      go_wp2
      go_loopw [6] (fun u wr => ∃ i : Nat, i ≤ k ∧ u = .int .i64 i ∧ Below W.heap.size W wr) (fun u _ => k - (intOf u).toNat)
      case atStart => exact ⟨0, Nat.zero_le _, rfl, HB.out⟩
      case round =>
        obtain ⟨i, hi, rfl, hBi⟩ := hrel
        by_cases hin : i < k
        · have HI : Hid (i < k) := hin
          go_wp2
          go_loopw [7, 8] (fun v u wr => ∃ j : Nat, j ≤ k ∧ v = .bool (orN (fun k => sameP (c2 k) (D i)) j) ∧ u = .int .i64 j ∧ Below W.heap.size W wr) (fun _ u _ => k - (intOf u).toNat)
          case atStart => exact ⟨0, Nat.zero_le _, rfl, rfl, hBi⟩
          case round =>
            obtain ⟨j, hj, rfl, rfl, hBj⟩ := hrel
            have HBj : Hid (Below W.heap.size W wr) := hBj
            by_cases hjk : j < k
            · obtain ⟨b2, o2, rfl, n2, i2⟩ := (P2.out.later hBj) j hjk
              obtain ⟨b3, o3, rfl, n3, i3⟩ := (P1.out.later hBj) i hin
              have N1 : Hid (NodeP wr b2 (o2 + j * 6) (c2 j)) := n2
              have N2 : Hid (NodeP wr b3 (o3 + i * 6) (D i)) := n3
              have HJ : Hid (j < k) := hjk
              obtain ⟨p, hp⟩ : ∃ p, p = orN (fun k => sameP (c2 k) (D i)) j := ⟨_, rfl⟩
              have HE : Hid (orN (fun k => sameP (c2 k) (D i)) (j + 1) = (p || sameP (c2 j) (D i))) := by show _ = _; rw [hp]; rfl
              rw [← hp]
              obtain ⟨q, hq⟩ : ∃ q, q = sameP (c2 j) (D i) := ⟨_, rfl⟩
              rw [← hq] at HE
              have CS : Hid (∀ d, Below wr.heap.size wr d → Calls Try.prog 15 #[(c2 j).val, (D i).val] d fun e w' => e = .returned (.bool q) ∧ Below d.heap.size d w') := fun d hd => by
                rw [hq]
                exact refSameP_any _ _ d (i2.later hd) (i3.later hd)
              clear n2 n3 i2 i3 hp hq hBj
              cases p
              · go_wp2_with fail
                refine wp_region_noPanic ?_
                refine wp_region_held_drew (S := fun w' => Below wr.heap.size wr w') (by kernel_rfl) ((Below.refl _ _).drew) (fun hHeld => ?_)
                have hT : Below wr.heap.size wr wr.drew := hHeld
                obtain ⟨d, hd⟩ : ∃ d, d = wr.drew := ⟨_, rfl⟩
                rw [← hd] at hHeld hT ⊢
                clear hd
                refine wpAnyH_take (i := 0) (oi := ⟨some 80, .move (.tmp 7), 4, _, _, _⟩) (v := ?v0c) rfl (by kernel_rfl) (by kernel_rfl) (by kernel_rfl) (fun _ _ _ h => h) (Or.inl ⟨by rfl, ?hy0c⟩) hHeld ?rest0c
                case hy0c => intro w9 hSw; go_simp; (try with_reducible rfl)
                try simp only [Act.put, s_put, s_0, s_1]
                refine wpAnyH_take (i := 1) (oi := ⟨some 81, .move (.tmp 80), 4, _, _, _⟩) (v := ?v1c) rfl (by kernel_rfl) (by kernel_rfl) (by kernel_rfl) (fun _ _ _ h => h) (Or.inl ⟨by rfl, ?hy1c⟩) hHeld ?rest1c
                case hy1c => intro w9 hSw; go_simp; (try with_reducible rfl)
                try simp only [Act.put, s_put, s_0, s_1]
                refine wpAnyH_take (i := 2) (oi := ⟨some 82, .move (.tmp 3), 22, _, _, _⟩) (v := ?v2c) rfl (by kernel_rfl) (by kernel_rfl) (by kernel_rfl) (fun _ _ _ h => h) (Or.inl ⟨by rfl, ?hy2c⟩) hHeld ?rest2c
                case hy2c => intro w9 hSw; go_simp; (try with_reducible rfl)
                try simp only [Act.put, s_put, s_0, s_1]
                refine wpAnyH_take (i := 3) (oi := ⟨some 83, .move (.tmp 8), 3, _, _, _⟩) (v := ?v3c) rfl (by kernel_rfl) (by kernel_rfl) (by kernel_rfl) (fun _ _ _ h => h) (Or.inl ⟨by rfl, ?hy3c⟩) hHeld ?rest3c
                case hy3c => intro w9 hSw; go_simp; (try with_reducible rfl)
                try simp only [Act.put, s_put, s_0, s_1]
                refine wpAnyH_take (i := 4) (oi := ⟨some 84, .indexAddr 22 (.tmp 82) (.tmp 83), 0, _, _, _⟩) (v := ?v4c) rfl (by kernel_rfl) (by kernel_rfl) (by kernel_rfl) (fun _ _ _ h => h) (Or.inl ⟨by rfl, ?hy4c⟩) hHeld ?rest4c
                case hy4c => intro w9 hSw; go_simp; (try with_reducible rfl)
                try simp only [Act.put, s_put, s_0, s_1]
                refine wpAnyH_take (i := 5) (oi := ⟨some 85, .load 27 (.tmp 84), 27, _, _, _⟩) (v := ?v5c) rfl (by kernel_rfl) (by kernel_rfl) (by kernel_rfl) (fun _ _ _ h => h) (Or.inl ⟨by rfl, ?hy5c⟩) hHeld ?rest5c
                case hy5c => intro w9 hSw; obtain ⟨d0, d1, d2, d3, d4, d5⟩ := N1.out.later hSw; go_simp; (try with_reducible rfl)
                try simp only [Act.put, s_put, s_0, s_1]
                refine wpAnyH_take (i := 6) (oi := ⟨some 86, .move (.tmp 0), 22, _, _, _⟩) (v := ?v6c) rfl (by kernel_rfl) (by kernel_rfl) (by kernel_rfl) (fun _ _ _ h => h) (Or.inl ⟨by rfl, ?hy6c⟩) hHeld ?rest6c
                case hy6c => intro w9 hSw; go_simp; (try with_reducible rfl)
                try simp only [Act.put, s_put, s_0, s_1]
                refine wpAnyH_take (i := 7) (oi := ⟨some 87, .move (.tmp 6), 3, _, _, _⟩) (v := ?v7c) rfl (by kernel_rfl) (by kernel_rfl) (by kernel_rfl) (fun _ _ _ h => h) (Or.inl ⟨by rfl, ?hy7c⟩) hHeld ?rest7c
                case hy7c => intro w9 hSw; go_simp; (try with_reducible rfl)
                try simp only [Act.put, s_put, s_0, s_1]
                refine wpAnyH_take (i := 8) (oi := ⟨some 88, .indexAddr 22 (.tmp 86) (.tmp 87), 0, _, _, _⟩) (v := ?v8c) rfl (by kernel_rfl) (by kernel_rfl) (by kernel_rfl) (fun _ _ _ h => h) (Or.inl ⟨by rfl, ?hy8c⟩) hHeld ?rest8c
                case hy8c => intro w9 hSw; go_simp; (try with_reducible rfl)
                try simp only [Act.put, s_put, s_0, s_1]
                refine wpAnyH_take (i := 9) (oi := ⟨some 89, .load 27 (.tmp 88), 27, _, _, _⟩) (v := ?v9c) rfl (by kernel_rfl) (by kernel_rfl) (by kernel_rfl) (fun _ _ _ h => h) (Or.inl ⟨by rfl, ?hy9c⟩) hHeld ?rest9c
                case hy9c => intro w9 hSw; obtain ⟨d0, d1, d2, d3, d4, d5⟩ := N2.out.later hSw; go_simp; (try with_reducible rfl)
                try simp only [Act.put, s_put, s_0, s_1]
                refine wpAnyH_ready (rs := [10]) (by kernel_rfl) (by simp) ?_
                refine AllReadyH.cons (o := ⟨some 90, .call { callee := .value (.func 15), args := #[.tmp 85, .tmp 89], argTypes := #[27, 27] }, 4, _, _, _⟩) rfl (fun K hK => ?_) AllReadyH.nil
                go_simp
                refine (CS.out _ hT).mono ?_
                rintro e x10 ⟨rfl, hN10⟩
                go_wp2_with fail
                have hT10 : Below wr.heap.size wr x10 := hT.trans (hN10.mono hT.size)
                refine hK.out _ _ (hHeld.trans (hN10.mono hHeld.size)) (fun _ => held_up (S' := fun w' => Below x10.heap.size x10 w') (fun w' h' => (hHeld.trans (hN10.mono hHeld.size)).trans (h'.mono (Nat.le_trans hHeld.size hN10.size))) _ _ _ _ ?_)
                clear hK K hHeld hT
                have hT : Below wr.heap.size wr x10 := hT10
                have hHeld : Below x10.heap.size x10 x10 := Below.refl _ _
                clear hT10 hN10
                try simp only [Act.put, s_put, s_0, s_1]
                refine wpAnyH_take (i := 11) (oi := ⟨some 91, .pick (.tmp 81) (.const (Value.bool true)) (.tmp 90), 4, _, _, _⟩) (v := ?v11c) rfl (by kernel_rfl) (by kernel_rfl) (by kernel_rfl) (fun _ _ _ h => h) (Or.inl ⟨by rfl, ?hy11c⟩) hHeld ?rest11c
                case hy11c => intro w9 hSw; go_simp; (try with_reducible rfl)
                try simp only [Act.put, s_put, s_0, s_1]
                refine wpAnyH_take (i := 12) (oi := ⟨some 7, .assign (.tmp 91), 4, _, _, _⟩) (v := ?v12c) rfl (by kernel_rfl) (by kernel_rfl) (by kernel_rfl) (fun _ _ _ h => h) (Or.inl ⟨by rfl, ?hy12c⟩) hHeld ?rest12c
                case hy12c => intro w9 hSw; go_simp; (try with_reducible rfl)
                try simp only [Act.put, s_put, s_0, s_1]
                refine wpAnyH_done (by kernel_rfl) ?_ _
                refine NoPanic.normal ?_
                go_wp2
                go_roundw
                case rel => exact ⟨j + 1, HJ.out, by rw [HE.out]; rfl, by go_num, HBj.out.trans (hT.mono HBj.out.size)⟩
                case measure => have := HJ.out; simp [intOf]; omega
              · go_wp2_with fail
                refine wp_region_noPanic ?_
                refine wp_region_held_drew (S := fun w' => Below wr.heap.size wr w') (by kernel_rfl) ((Below.refl _ _).drew) (fun hHeld => ?_)
                have hT : Below wr.heap.size wr wr.drew := hHeld
                obtain ⟨d, hd⟩ : ∃ d, d = wr.drew := ⟨_, rfl⟩
                rw [← hd] at hHeld hT ⊢
                clear hd
                refine wpAnyH_take (i := 0) (oi := ⟨some 80, .move (.tmp 7), 4, _, _, _⟩) (v := ?v0d) rfl (by kernel_rfl) (by kernel_rfl) (by kernel_rfl) (fun _ _ _ h => h) (Or.inl ⟨by rfl, ?hy0d⟩) hHeld ?rest0d
                case hy0d => intro w9 hSw; go_simp; (try with_reducible rfl)
                try simp only [Act.put, s_put, s_0, s_1]
                refine wpAnyH_take (i := 1) (oi := ⟨some 81, .move (.tmp 80), 4, _, _, _⟩) (v := ?v1d) rfl (by kernel_rfl) (by kernel_rfl) (by kernel_rfl) (fun _ _ _ h => h) (Or.inl ⟨by rfl, ?hy1d⟩) hHeld ?rest1d
                case hy1d => intro w9 hSw; go_simp; (try with_reducible rfl)
                try simp only [Act.put, s_put, s_0, s_1]
                refine wpAnyH_take (i := 2) (oi := ⟨some 82, .move (.tmp 3), 22, _, _, _⟩) (v := undef) rfl (by kernel_rfl) (by kernel_rfl) (by kernel_rfl) (fun _ _ _ h => h) (Or.inr ⟨by rfl, rfl⟩) hHeld ?rest2d
                try simp only [Act.put, s_put, s_0, s_1]
                refine wpAnyH_take (i := 3) (oi := ⟨some 83, .move (.tmp 8), 3, _, _, _⟩) (v := undef) rfl (by kernel_rfl) (by kernel_rfl) (by kernel_rfl) (fun _ _ _ h => h) (Or.inr ⟨by rfl, rfl⟩) hHeld ?rest3d
                try simp only [Act.put, s_put, s_0, s_1]
                refine wpAnyH_take (i := 4) (oi := ⟨some 84, .indexAddr 22 (.tmp 82) (.tmp 83), 0, _, _, _⟩) (v := undef) rfl (by kernel_rfl) (by kernel_rfl) (by kernel_rfl) (fun _ _ _ h => h) (Or.inr ⟨by rfl, rfl⟩) hHeld ?rest4d
                try simp only [Act.put, s_put, s_0, s_1]
                refine wpAnyH_take (i := 5) (oi := ⟨some 85, .load 27 (.tmp 84), 27, _, _, _⟩) (v := undef) rfl (by kernel_rfl) (by kernel_rfl) (by kernel_rfl) (fun _ _ _ h => h) (Or.inr ⟨by rfl, rfl⟩) hHeld ?rest5d
                try simp only [Act.put, s_put, s_0, s_1]
                refine wpAnyH_take (i := 6) (oi := ⟨some 86, .move (.tmp 0), 22, _, _, _⟩) (v := undef) rfl (by kernel_rfl) (by kernel_rfl) (by kernel_rfl) (fun _ _ _ h => h) (Or.inr ⟨by rfl, rfl⟩) hHeld ?rest6d
                try simp only [Act.put, s_put, s_0, s_1]
                refine wpAnyH_take (i := 7) (oi := ⟨some 87, .move (.tmp 6), 3, _, _, _⟩) (v := undef) rfl (by kernel_rfl) (by kernel_rfl) (by kernel_rfl) (fun _ _ _ h => h) (Or.inr ⟨by rfl, rfl⟩) hHeld ?rest7d
                try simp only [Act.put, s_put, s_0, s_1]
                refine wpAnyH_take (i := 8) (oi := ⟨some 88, .indexAddr 22 (.tmp 86) (.tmp 87), 0, _, _, _⟩) (v := undef) rfl (by kernel_rfl) (by kernel_rfl) (by kernel_rfl) (fun _ _ _ h => h) (Or.inr ⟨by rfl, rfl⟩) hHeld ?rest8d
                try simp only [Act.put, s_put, s_0, s_1]
                refine wpAnyH_take (i := 9) (oi := ⟨some 89, .load 27 (.tmp 88), 27, _, _, _⟩) (v := undef) rfl (by kernel_rfl) (by kernel_rfl) (by kernel_rfl) (fun _ _ _ h => h) (Or.inr ⟨by rfl, rfl⟩) hHeld ?rest9d
                try simp only [Act.put, s_put, s_0, s_1]
                refine wpAnyH_take (i := 10) (oi := ⟨some 90, .call { callee := .value (.func 15), args := #[.tmp 85, .tmp 89], argTypes := #[27, 27] }, 4, _, _, _⟩) (v := undef) rfl (by kernel_rfl) (by kernel_rfl) (by kernel_rfl) (fun _ _ _ h => h) (Or.inr ⟨by rfl, rfl⟩) hHeld ?rest10d
                try simp only [Act.put, s_put, s_0, s_1]
                refine wpAnyH_take (i := 11) (oi := ⟨some 91, .pick (.tmp 81) (.const (Value.bool true)) (.tmp 90), 4, _, _, _⟩) (v := ?v11d) rfl (by kernel_rfl) (by kernel_rfl) (by kernel_rfl) (fun _ _ _ h => h) (Or.inl ⟨by rfl, ?hy11d⟩) hHeld ?rest11d
                case hy11d => intro w9 hSw; go_simp; (try with_reducible rfl)
                try simp only [Act.put, s_put, s_0, s_1]
                refine wpAnyH_take (i := 12) (oi := ⟨some 7, .assign (.tmp 91), 4, _, _, _⟩) (v := ?v12d) rfl (by kernel_rfl) (by kernel_rfl) (by kernel_rfl) (fun _ _ _ h => h) (Or.inl ⟨by rfl, ?hy12d⟩) hHeld ?rest12d
                case hy12d => intro w9 hSw; go_simp; (try with_reducible rfl)
                try simp only [Act.put, s_put, s_0, s_1]
                refine wpAnyH_done (by kernel_rfl) ?_ _
                refine NoPanic.normal ?_
                go_wp2
                go_roundw
                case rel => exact ⟨j + 1, HJ.out, by rw [HE.out]; rfl, by go_num, HBj.out.trans (hT.mono HBj.out.size)⟩
                case measure => have := HJ.out; simp [intOf]; omega
            · obtain rfl : j = k := by omega
              rw [F3.out i hin]
              go_wp2
              go_roundw
              case rel => exact ⟨i + 1, HI.out, by go_num, HBj.out⟩
              case measure => have := HI.out; simp [intOf]; omega
        · obtain rfl : i = k := by omega
          go_wp2_with (go_at_call 8; refine (W1.out _).mono ?_; clear W1; rintro e w2 ⟨rfl, hB2⟩)
          go_ret
          exact ⟨rfl, HW.out.trans ((hBi.trans (hB2.mono hBi.size)).mono HW.out.size)⟩
theorem orderSorted_walk (a : Option Addr) (n cap : Nat) (D : Nat → Pt) (w : World) (hP : Ps w a n D) (hn : n ≤ 1759218604390) (hcap : n ≤ cap) (hm : cap ≤ 9223372036854775807) (hs : ∀ i, i < n → WdP (D i)) :
    Calls Try.prog 5 #[.slice a n cap] w fun e w' => e = .returned (.bool true) ∧ Below w.heap.size w w' := by
  cases hl : litB D n with
  | false => exact orderSorted_no a n cap D w hP hn hl
  | true => exact orderSorted_yes a n cap D w hP hn hcap hm hs hl
theorem IsP.ps {w : World} {k : Int} {s t : ByteArray} {lo hi : Int} {a : Option Addr} {n cap : Nat} {c : Nat → Pt} (h : IsP w (.mk k s t lo hi a n cap c)) : Ps w a n c := h.2.2
theorem orderSorted_all (a : Option Addr) (n cap : Nat) (D : Nat → Pt) (w : World) (h : IsP w (.mk 0 ⟨#[]⟩ ⟨#[]⟩ 0 0 a n cap D)) (hs : WdP (.mk 0 ⟨#[]⟩ ⟨#[]⟩ 0 0 a n cap D)) :
    Calls Try.prog 5 #[.slice a n cap] w fun e w' => e = .returned (.bool true) ∧ Below w.heap.size w w' := orderSorted_walk a n cap D w h.ps hs.1 h.1 h.2.1 hs.2
end Go.Proofs.Ytcdehohmgfocdaa
namespace Go.Proofs.Ytcdehohmgfocdaa
open Go.RowKit Go.ChangeShapes Go.WideShapes

section
variable {H : Type} {enc : TypeId × Value → H} {w : World} {base : Nat} {spare : Nat → Bool} {held : Bool}
/-- Patterns that came in: as the parts of one. -/
abbrev Pt.all (a : Option Addr) (n cap : Nat) (c : Nat → Pt) : Pt := .mk 0 ⟨#[]⟩ ⟨#[]⟩ 0 0 a n cap c
end
end Go.Proofs.Ytcdehohmgfocdaa
namespace Go.Proofs.Ytcdehohmgfocdaa
open Go.RowKit Go.ChangeShapes Go.WideShapes

section
variable {H : Type} {enc : TypeId × Value → H} {w : World} {base : Nat} {spare : Nat → Bool} {held : Bool}
set_option maxRecDepth 100000 in
theorem open_psw {a : Option Addr} {len cap : Nat} {d : DataW H} {p : List MemPlace} (h : DataW.Trod enc Try.prog w base spare held 22 (.slice a len cap) d p) (hw5 : ∀ n ∈ d.weights Try.prog 22, n ≤ 140737488351232) :
    ∃ c : Nat → Pt, IsP w (Pt.all a len cap c) ∧ WdP (Pt.all a len cap c) ∧ POk (Pt.all a len cap c) := by
  obtain ⟨fuel, hf⟩ := h
  rcases Deep.open_slice Try.underlying22 hf with ⟨e4, _⟩ | ⟨a', len', cap', mm, nn, D, Pl, e4, _, hl4, hcm, hmm, hdp, hx⟩
  · have e' : [Value.slice a len cap] = [.slice none 0 0] := e4
    injection e' with e' _
    injection e' with e1 e2 e3
    subst e1 e2 e3
    exact ⟨fun _ => .nil, ⟨by omega, by omega, fun i hi => by omega⟩, ⟨by omega, fun i hi => by omega⟩, Nat.zero_le _, Nat.zero_le _, fun i hi => by omega⟩
  · cases hdp
    have e' : [Value.slice a len cap] = [.slice (some a') len' cap'] := e4
    injection e' with e' _
    injection e' with e1 e2 e3
    subst e1 e2 e3
    have hlm : len ≤ mm := by rw [hmm]; split <;> omega
    have hwr : len ≤ 1759218604390 := by
      have := hw5 _ (by simp only [DataW.weights, Try.underlying22]; exact List.mem_cons_self ..)
      rw [bytes_p] at this
      simp at this
      omega
    have hwe : ∀ i, i < len → ∀ n ∈ (D i).weights Try.prog 27, n ≤ 140737488351232 := fun i hi n hn => hw5 n (by
      simp only [DataW.weights, Try.underlying22, List.mem_cons, List.mem_append]
      exact .inr (.inl (mem_weightsAll (List.mem_map.2 ⟨i, List.mem_range.2 hi, rfl⟩) hn)))
    have each : ∀ i, i < len → ∃ q : Pt, w.cell? (a'.add (i * 6)) = some (.int .i64 q.k) ∧ w.cell? (a'.add (i * 6 + 1)) = some (.string q.s) ∧ w.cell? (a'.add (i * 6 + 2)) = some (.string q.t) ∧ w.cell? (a'.add (i * 6 + 3)) = some (.int .i64 q.lo) ∧
        w.cell? (a'.add (i * 6 + 4)) = some (.int .i64 q.hi) ∧ w.cell? (a'.add (i * 6 + 5)) = some (.slice q.a q.n q.cap) ∧ IsP w q ∧ WdP q ∧ POk q := by
      intro i hi
      obtain ⟨cs', h1, h2⟩ := hx i (by omega)
      rw [cells_p] at h1
      obtain ⟨_, hlen, hcell⟩ := World.cells?_some h1
      obtain ⟨q, rfl, hq, hqs, hqo⟩ := trod_pw _ _ _ _ h2 (hwe i hi) (Nat.le_refl _)
      have d0 := hcell 0 (by omega)
      have d1 := hcell 1 (by omega)
      have d2 := hcell 2 (by omega)
      have d3 := hcell 3 (by omega)
      have d4 := hcell 4 (by omega)
      have d5 := hcell 5 (by omega)
      rw [Deep.add_add] at d0 d1 d2 d3 d4 d5
      exact ⟨q, by simpa using d0, by simpa using d1, by simpa using d2, by simpa using d3, by simpa using d4, by simpa using d5, hq, hqs, hqo⟩
    have : Inhabited Pt := ⟨.nil⟩
    obtain ⟨q, hq⟩ := Deep.choose_lt each
    refine ⟨q, ⟨hl4, by unfold maxLen at hcm; omega, fun i hi => ?_⟩, ⟨hwr, fun i hi => (hq i hi).2.2.2.2.2.2.2.1⟩, Nat.zero_le _, Nat.zero_le _, fun i hi => (hq i hi).2.2.2.2.2.2.2.2⟩
    obtain ⟨b, off, spot⟩ := a'
    obtain ⟨d0, d1, d2, d3, d4, d5, hi1, hi2, -⟩ := hq i hi
    have hspot : spot = none := by simpa [Addr.add] using World.cell?_spot (hq 0 (by omega)).1
    subst hspot
    rw [add_none] at d0 d1 d2 d3 d4 d5
    refine ⟨b, off, rfl, ⟨?_, ?_, ?_, ?_, ?_, ?_⟩, hi1⟩
    · exact d0
    · rw [Nat.add_assoc]; exact d1
    · rw [Nat.add_assoc]; exact d2
    · rw [Nat.add_assoc]; exact d3
    · rw [Nat.add_assoc]; exact d4
    · rw [Nat.add_assoc]; exact d5
end
end Go.Proofs.Ytcdehohmgfocdaa
