/-
  The document's right and Check of conditions.
-/
import Derived.Test.YtinnhaojmnmliaaGreatFExprRefRightPA
import Derived.Test.YtinnhaojmnmliaaGreatFExprRefRightPB
import Derived.Test.YtinnhaojmnmliaaGreatFExprRefRightPC
import Derived.Test.YtinnhaojmnmliaaGreatFExprRefRightPD
import Derived.Test.YtinnhaojmnmliaaGreatFExprRightMany
import Derived.Test.YtinnhaojmnmliaaGreatFVarsMath
namespace Go.Proofs.YtinnhaojmnmliaaGreat
open Go.RowKit

theorem ret_no {w : World} {f : Nat} {args : Array Value} {P : Prop} (h : Calls Tryz.prog f args w fun e w' => e = .returned (.bool false) ∧ Below w.heap.size w w') (hr : ¬ P) :
    Calls Tryz.prog f args w fun e w' => ∃ r, e = .returned (.bool r) ∧ (r = true ↔ P) ∧ Below w.heap.size w w' := ret_iff h ⟨fun h => (by cases h), fun h => absurd h hr⟩
theorem leaf_tree {x : X} (hn : x.n = 0) : TreeR x ↔ NodeR x := by
  rw [treeR_eq]
  exact ⟨fun h => h.1, fun h => ⟨h, fun i hi => by omega⟩⟩
theorem refRightX_any : ∀ (x : X) (w : World), IsX w x → XOk x → Calls Tryz.prog 67 #[x.val] w fun e w' => ∃ r, e = .returned (.bool r) ∧ (r = true ↔ TreeR x) ∧ Below w.heap.size w w' := by
  refine X.ind fun x ih w hX ok => ?_
  have HI : Hid (∀ i, i < x.n → ∀ w, IsX w (x.c i) → Calls Tryz.prog 67 #[(x.c i).val] w fun e w' => ∃ r, e = .returned (.bool r) ∧ (r = true ↔ TreeR (x.c i)) ∧ Below w.heap.size w w') := fun i hi w h => ih i hi w h (((xOk_eq x).1 ok).2.2 i hi)
  have nt : ∀ {P : Prop}, (TreeR x → P) → ¬ P → ¬ TreeR x := fun h g t => g (h t)
  have nr : TreeR x → NodeR x := fun h => ((treeR_eq x).1 h).1
  by_cases h1 : x.k = 1
  · by_cases hs : x.s = ⟨#[]⟩
    · by_cases hf : x.f = ⟨#[]⟩
      · by_cases hn : x.n = 0
        · refine ret_iff (refR_1 x w h1 ⟨hs, hf⟩ hn) ?_
          rw [leaf_tree hn]
          constructor
          · intro h
            exact ⟨fun e => absurd h1 e, fun _ => ⟨hs, hf⟩, .inl ⟨h1, hn, h⟩⟩
          · rintro ⟨-, -, h⟩
            rcases h with h | h | h | h | h
            · exact h.2.2
            all_goals omega
        · refine ret_no (refR_1n x w h1 ⟨hs, hf⟩ hn) fun h => ?_
          obtain ⟨-, -, h⟩ := nr h
          rcases h with h | h | h | h | h <;> omega
      · exact ret_no (refR_1f x w h1 hs hf) fun h => hf ((nr h).2.1 (by omega)).2
    · exact ret_no (refR_1s x w h1 hs) fun h => hs ((nr h).2.1 (by omega)).1
  by_cases hv' : ¬ x.v = val0
  · have hv := hv'
    have hno : ¬ TreeR x := fun h => hv ((nr h).1 h1)
    by_cases hk : x.v.k = 0
    · by_cases hn : x.v.n = 0
      · by_cases hs : x.v.s = ⟨#[]⟩
        · exact absurd (by cases hx : x.v; rw [hx] at hk hn hs; simp only at hk hn hs; rw [hk, hn, hs]; rfl) hv
        · exact ret_no (refR_vc x w h1 hk hn hs) hno
      · exact ret_no (refR_vb x w h1 hk hn) hno
    · exact ret_no (refR_va x w h1 hk) hno
  have hv : x.v = val0 := Classical.not_not.1 hv'
  by_cases h2 : x.k = 2
  · by_cases hn : x.n = 0
    · cases hs : nameB x.s with
      | false =>
        refine ret_no (refR_2_false x w h2 hv hn ok hs) fun h => ?_
        obtain ⟨-, -, h⟩ := nr h
        rcases h with h | h | h | h | h
        · omega
        · rw [hs] at h; exact absurd h.2.2.1 (by simp)
        all_goals omega
      | true =>
        cases hf : nameB x.f with
        | false =>
          refine ret_no (refR_2_truefalse x w h2 hv hn ok hs hf) fun h => ?_
          obtain ⟨-, -, h⟩ := nr h
          rcases h with h | h | h | h | h
          · omega
          · rw [hf] at h; exact absurd h.2.2.2 (by simp)
          all_goals omega
        | true => exact ret_iff (refR_2_truetrue x w h2 hv hn ok hs hf) ⟨fun _ => (leaf_tree hn).2 ⟨fun _ => hv, fun e => absurd h2 e, .inr (.inl ⟨h2, hn, hs, hf⟩)⟩, fun _ => rfl⟩
    · refine ret_no (refR_2n x w h2 hv hn) fun h => ?_
      obtain ⟨-, -, h⟩ := nr h
      rcases h with h | h | h | h | h <;> omega
  by_cases hs' : ¬ x.s = ⟨#[]⟩
  · have hs := hs'
    exact ret_no (refR_ns x w h1 h2 hv hs) fun h => hs ((nr h).2.1 h2).1
  have hs : x.s = ⟨#[]⟩ := Classical.not_not.1 hs'
  by_cases hf' : ¬ x.f = ⟨#[]⟩
  · have hf := hf'
    exact ret_no (refR_nf x w h1 h2 hv hs hf) fun h => hf ((nr h).2.1 h2).2
  have hf : x.f = ⟨#[]⟩ := Classical.not_not.1 hf'
  have no : (∀ h : NodeR x, False) → ¬ TreeR x := fun h t => h (nr t)
  by_cases h3 : x.k = 3
  · by_cases hn : x.n = 1
    · exact refR_3 x w hX HI h3 hv ⟨hs, hf⟩ hn
    · exact ret_no (refR_3n x w h3 hv ⟨hs, hf⟩ hn) (no fun ⟨_, _, h⟩ => by rcases h with h | h | h | h | h <;> omega)
  by_cases h15 : x.k = 15
  · by_cases hn : x.n = 1
    · exact refR_15 x w hX HI h15 hv ⟨hs, hf⟩ hn
    · exact ret_no (refR_15n x w h15 hv ⟨hs, hf⟩ hn) (no fun ⟨_, _, h⟩ => by rcases h with h | h | h | h | h <;> omega)
  by_cases h4 : 4 ≤ x.k ∧ x.k ≤ 14
  · by_cases hn : x.n = 2
    · exact refR_4 x w hX HI h4 hv ⟨hs, hf⟩ hn
    · exact ret_no (refR_4n x w h4 hv ⟨hs, hf⟩ hn) (no fun ⟨_, _, h⟩ => by rcases h with h | h | h | h | h <;> omega)
  by_cases h16 : x.k = 16
  · by_cases hn : 2 ≤ x.n
    · exact refR_16 x w hX HI h16 hv ⟨hs, hf⟩ hn
    · exact ret_no (refR_16n x w h16 hv ⟨hs, hf⟩ hn) (no fun ⟨_, _, h⟩ => by rcases h with h | h | h | h | h <;> omega)
  by_cases h17 : x.k = 17
  · by_cases hn : 2 ≤ x.n
    · exact refR_17 x w hX HI h17 hv ⟨hs, hf⟩ hn
    · exact ret_no (refR_17n x w h17 hv ⟨hs, hf⟩ hn) (no fun ⟨_, _, h⟩ => by rcases h with h | h | h | h | h <;> omega)
  by_cases hlo : x.k < 1
  · exact ret_no (refR_lo x w hlo hv ⟨hs, hf⟩) (no fun ⟨_, _, h⟩ => by rcases h with h | h | h | h | h <;> omega)
  · exact ret_no (refR_hi x w (by omega) hv ⟨hs, hf⟩) (no fun ⟨_, _, h⟩ => by rcases h with h | h | h | h | h <;> omega)
theorem szZ_small : ∀ x : X, x.size ≤ 1048576 → szZ x = x.size := by
  refine X.ind fun x ih h => ?_
  have : ∀ m, m ≤ x.n → accZ (fun i => szZ (x.c i)) m = 1 + sumN (fun i => (x.c i).size) m := by
    intro m
    induction m with
    | zero => intro _; rfl
    | succ m ihm =>
      intro hm
      have hp := x.size_part m (by omega)
      have hq := sumN_part (f := fun i => (x.c i).size) (show m < x.n by omega)
      have hz := x.size_eq
      simp only [accZ, sumN]
      rw [ihm (by omega), ih m (by omega) (by omega), wrap64]
      omega
  rw [szZ_eq, this x.n (Nat.le_refl _), x.size_eq]
  omega
set_option maxRecDepth 100000 in
set_option maxHeartbeats 1000000 in
theorem refCheckX_any (x : X) (w : World) (hX : IsX w x) (ok : XOk x) (hsm : x.size ≤ 1048576) : Calls Tryz.prog 33 #[x.val] w fun e w' => ∃ r : Int, e = .returned (.int .i64 r) ∧ ChkX x r ∧ Below w.heap.size w w' := by
  obtain ⟨A, hA, hB, hs, hn⟩ := one_box x w
  have HB : Hid (Below w.heap.size w A) := hB
  have HN : Hid (Node A w.heap.size 0 x) := hn
  obtain ⟨a0, a1, a2, a3, a4, a5, a6⟩ := hn.at0
  have hz : Calls Tryz.prog 19 #[x.val] A fun e w' => e = .returned (.int .i64 (x.size : Int)) ∧ Below A.heap.size A w' := by have := refSize_any x A (hX.later hB); rwa [szZ_small x hsm] at this
  have HR : Hid (∀ d, Below A.heap.size A d → Calls Tryz.prog 67 #[x.val] d fun e w' => ∃ r, e = .returned (.bool r) ∧ (r = true ↔ TreeR x) ∧ Below d.heap.size d w') := fun d h => refRightX_any x d ((hX.later hB).later h) ok
  obtain ⟨m, hm⟩ : ∃ m, m = x.size := ⟨_, rfl⟩
  rw [← hm] at hz
  have HM : Hid (m = x.size) := hm
  clear hB hn hX ok hsm hm
  by_cases h100 : 100 < m
  · have h' : (100 : Int) < (m : Int) := by omega
    have H100 : Hid (100 < m) := h100
    clear h100
    go_enter Tryz.func33, Tryz.ntmps33
    go_wp2_with (go_at_call 19; refine hz.mono ?_; rintro e w2 ⟨rfl, hB2⟩)
    go_ret
    exact ⟨2, rfl, .inl ⟨by rw [← HM.out]; exact H100.out, rfl⟩, HB.out.trans (hB2.mono (by omega))⟩
  · have h' : ¬ (100 : Int) < (m : Int) := by omega
    have H100 : Hid (x.size ≤ 100) := by show x.size ≤ 100; rw [← HM.out]; omega
    clear h100
    go_enter Tryz.func33, Tryz.ntmps33
    go_wp2_with (first
      | (go_at_call 19; refine hz.mono ?_; rintro e w2 ⟨rfl, hB2⟩; obtain ⟨b0, b1, b2, b3, b4, b5, b6⟩ := (HN.out.later hB2).at0)
      | (go_at_call 67; refine (HR.out _ hB2).mono ?_; rintro e w3 ⟨r, rfl, hr, hB3⟩; have HRR : Hid (r = true ↔ TreeR x) := hr; clear hr; cases r))
    · go_ret
      exact ⟨1, rfl, .inr (.inr ⟨H100.out, fun h => (by have := HRR.out.2 h; cases this), rfl⟩), HB.out.trans ((hB2.trans (hB3.mono hB2.size)).mono (by omega))⟩
    · go_ret
      exact ⟨0, rfl, .inr (.inl ⟨H100.out, HRR.out.1 (by first | rfl | trivial), rfl⟩), HB.out.trans ((hB2.trans (hB3.mono hB2.size)).mono (by omega))⟩
end Go.Proofs.YtinnhaojmnmliaaGreat
