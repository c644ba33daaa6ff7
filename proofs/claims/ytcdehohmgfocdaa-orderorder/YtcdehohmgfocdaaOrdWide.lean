/-
  The document's Size of a pattern, as the machine counts; haruspexlaw15's light at any size.
-/
import Derived.Test.YtcdehohmgfocdaaOrdLaw0
namespace Go.Proofs.Ytcdehohmgfocdaa
open Go.RowKit

def szP : Pt → Int
  | .nil => 1
  | .mk _ _ _ _ _ _ n _ c => accZ (fun i => szP (c i)) n
theorem szP_eq (x : Pt) : szP x = accZ (fun i => szP (x.c i)) x.n := by cases x <;> rfl
set_option maxRecDepth 100000 in
set_option maxHeartbeats 4000000 in
theorem refSizeP_wide : ∀ (x : Pt) (w : World), IsP w x → Calls Try.prog 20 #[x.val] w fun e w' => e = .returned (.int .i64 (szP x)) ∧ Below w.heap.size w w' := by
  refine Pt.ind fun x ih w hX => ?_
  obtain ⟨r, hr⟩ : ∃ r, r = szP x := ⟨_, rfl⟩
  have HR : Hid (r = accZ (fun i => szP (x.c i)) x.n) := by show r = _; rw [hr, szP_eq]
  rw [← hr]
  have HI : Hid (∀ i, i < x.n → ∀ w, IsP w (x.c i) → Calls Try.prog 20 #[(x.c i).val] w fun e w' => e = .returned (.int .i64 (szP (x.c i))) ∧ Below w.heap.size w w') := ih
  have HX : Hid (IsP w x) := hX
  have hlen := hX.len
  obtain ⟨A, hA, hB0, hs, hN⟩ := boxP_one x w
  have HB : Hid (Below w.heap.size w A) := hB0
  have HN : Hid (NodeP A w.heap.size 0 x) := hN
  clear ih hX hr hB0 hN
  go_enter Try.func20, Try.ntmps20
  go_wp2_with fail
  go_loopw [3, 4] (fun u v wr => ∃ k : Nat, k ≤ x.n ∧ u = .int .i64 (accZ (fun i => szP (x.c i)) k) ∧ v = .int .i64 k ∧ Below A.heap.size A wr) (fun _ v _ => x.n - (intOf v).toNat)
  case atStart => exact ⟨0, Nat.zero_le _, rfl, rfl, Below.refl _ _⟩
  case round =>
    obtain ⟨k, hk, rfl, rfl, hB⟩ := hrel
    obtain ⟨-, -, -, -, -, c6⟩ := (nodeP_on HN.out (hB.mono (by omega))).at0
    have hw := HB.out.trans (hB.mono (by omega))
    by_cases hkn : k < x.n
    · obtain ⟨b, o, ea, hn, hx⟩ := (HX.out.later hw).part hkn
      rw [ea] at c6
      obtain ⟨d0, d1, d2, d3, d4, d5⟩ := hn
      have hc := HI.out k hkn wr hx
      have HK : Hid (k < x.n) := hkn
      have HQ : Hid (Below w.heap.size w wr) := hw
      clear hx hw
      go_wp2_with (go_at_call 20; refine hc.mono ?_; rintro e w2 ⟨rfl, hB2⟩)
      exact ⟨⟨k + 1, HK.out, rfl, by simp, hB.trans (hB2.mono hB.size)⟩, by have := HK.out; simp [intOf]; omega⟩
    · have hk' : k = x.n := by omega
      subst hk'
      go_wp2
      go_ret
      exact ⟨ret_int HR.out.symm, hw⟩
/-- What light has counted. -/
def litZ (c : Nat → Pt) : Nat → Int
  | 0 => 0
  | n + 1 => wrap64 (litZ c n + szP (c n))
/-- Are they small enough, as the machine counts? -/
def litB (c : Nat → Pt) (n : Nat) : Bool := decide (∀ k, k < n + 1 → litZ c k ≤ 600)
theorem litB_no {c : Nat → Pt} {n k : Nat} (hk : k ≤ n) (h : ¬ litZ c k ≤ 600) : litB c n = false := decide_eq_false fun h' => h (h' k (by omega))
theorem litB_end {c : Nat → Pt} {n : Nat} (h : ∀ k, k < n → litZ c k ≤ 600) : litB c n = decide (litZ c n ≤ 600) := by
  refine decide_eq_decide.2 ⟨fun h' => h' n (by omega), fun h' k hk => ?_⟩
  by_cases e : k = n
  · rw [e]; exact h'
  · exact h k (by omega)
set_option maxRecDepth 100000 in
set_option maxHeartbeats 4000000 in
theorem lightW_any (a : Option Addr) (n cap : Nat) (c : Nat → Pt) (w : World) (hn : n ≤ 9223372036854775807) (hP : Ps w a n c) :
    Calls Try.prog 6 #[.slice a n cap] w fun e w' => e = .returned (.bool (litB c n)) ∧ Below w.heap.size w w' := by
  obtain ⟨r, hr⟩ : ∃ r, r = litB c n := ⟨_, rfl⟩
  rw [← hr]
  have HR : Hid (r = litB c n) := hr
  have HP : Hid (Ps w a n c) := hP
  have HC : Hid (∀ i, i < n → ∀ d, Below w.heap.size w d → Calls Try.prog 20 #[(c i).val] d fun e w' => e = .returned (.int .i64 (szP (c i))) ∧ Below d.heap.size d w') := fun i hi d hd => by
    obtain ⟨_, _, _, _, h2⟩ := (hP.later hd) i hi
    exact refSizeP_wide (c i) d h2
  clear hP hr
  go_enter Try.func6, Try.ntmps6
  go_wp2
  go_loopw [3, 4] (fun u v wr => ∃ k : Nat, k ≤ n ∧ u = .int .i64 (litZ c k) ∧ v = .int .i64 k ∧ Hid (∀ j, j < k → litZ c j ≤ 600) ∧ Below w.heap.size w wr) (fun _ v _ => n - (intOf v).toNat)
  case atStart => exact ⟨0, Nat.zero_le _, rfl, rfl, fun j hj => absurd hj (Nat.not_lt_zero _), Below.refl _ _⟩
  case round =>
    obtain ⟨k, hk, rfl, rfl, HL, hB⟩ := hrel
    by_cases hkn : k < n
    · by_cases h6 : litZ c k ≤ 600
      · obtain ⟨b, o, rfl, hn1, _⟩ := (HP.out.later hB) k hkn
        obtain ⟨d0, d1, d2, d3, d4, d5⟩ := hn1
        have hc := HC.out k hkn wr hB
        have HK : Hid (k < n) := hkn
        have HL2 : Hid (∀ j, j < k + 1 → litZ c j ≤ 600) := fun j hj => by
          by_cases e : j = k
          · rw [e]; exact h6
          · exact HL.out j (by omega)
        have HE : Hid (litZ c (k + 1) = wrap64 (litZ c k + szP (c k))) := rfl
        generalize litZ c k = p at h6 HE ⊢
        generalize szP (c k) = q at hc HE
        clear HL
        go_wp2_with (go_at_call 20; refine hc.mono ?_; rintro e w2 ⟨rfl, hB2⟩)
        exact ⟨⟨k + 1, HK.out, by rw [HE.out], by simp, HL2, hB.trans (hB2.mono hB.size)⟩, by have := HK.out; simp [intOf]; omega⟩
      · have HR' : Hid (r = false) := by
          show r = false
          rw [HR.out]
          exact litB_no hk h6
        clear HR
        generalize litZ c k = p at h6 ⊢
        have h7 : decide (p ≤ 600) = false := decide_eq_false h6
        clear HL h6
        go_wp2
        go_ret
        exact ⟨ret_bool (by rw [HR'.out, ← h7]), hB⟩
    · obtain rfl : k = n := by omega
      have HR' : Hid (r = decide (litZ c k ≤ 600)) := by
        show r = _
        rw [HR.out]
        exact litB_end HL.out
      clear HR
      generalize litZ c k = p at HR' ⊢
      clear HL
      go_wp2
      go_ret
      exact ⟨ret_bool HR'.out.symm, hB⟩
end Go.Proofs.Ytcdehohmgfocdaa
