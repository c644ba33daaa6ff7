/-
  The document's Size, light and awake.
-/
import Derived.Test.YtmbinllefkifiaaExprSize
namespace Go.Proofs.Ytmbinllefkifiaa
open Go.RowKit Go.Shelf

def szZ : X → Int
  | .nil => 1
  | .mk _ _ _ _ _ n _ c => accZ (fun i => szZ (c i)) n
theorem szZ_eq (x : X) : szZ x = accZ (fun i => szZ (x.c i)) x.n := by cases x <;> rfl
theorem Node.at0 {w : World} {B : Nat} {x : X} (h : Node w B 0 x) : w.cell? ⟨B, 0, none⟩ = some (.int .i64 x.k) ∧ w.cell? ⟨B, 1, none⟩ = some (.int .i64 x.v.k) ∧ w.cell? ⟨B, 2, none⟩ = some (.int .i64 x.v.n) ∧ w.cell? ⟨B, 3, none⟩ = some (.string x.v.s) ∧
    w.cell? ⟨B, 4, none⟩ = some (.string x.s) ∧ w.cell? ⟨B, 5, none⟩ = some (.string x.f) ∧ w.cell? ⟨B, 6, none⟩ = some (.slice x.a x.n x.cap) := by
  have := h
  simp only [Node, Nat.zero_add] at this
  exact this
/-- The box that holds a condition stays. -/
theorem node_on {w A W : World} {x : X} (hn : Node A w.heap.size 0 x) (hB : Below (w.heap.size + 1) A W) : Node W w.heap.size 0 x := hn.below hB (by omega)

set_option maxRecDepth 100000 in
set_option maxHeartbeats 4000000 in
theorem refSize_any : ∀ (x : X) (w : World), IsX w x → Calls Try.prog 30 #[x.val] w fun e w' => e = .returned (.int .i64 (szZ x)) ∧ Below w.heap.size w w' := by
  refine X.ind fun x ih w hX => ?_
  obtain ⟨r, hr⟩ : ∃ r, r = szZ x := ⟨_, rfl⟩
  have HR : Hid (r = accZ (fun i => szZ (x.c i)) x.n) := by show r = _; rw [hr, szZ_eq]
  rw [← hr]
  have HI : Hid (∀ i, i < x.n → ∀ w, IsX w (x.c i) → Calls Try.prog 30 #[(x.c i).val] w fun e w' => e = .returned (.int .i64 (szZ (x.c i))) ∧ Below w.heap.size w w') := ih
  have HX : Hid (IsX w x) := hX
  have hlen := hX.len
  obtain ⟨A, hA⟩ : ∃ A, w.alloc (.cells x.cells 40) = A := ⟨_, rfl⟩
  have HB : Hid (Below w.heap.size w A) := by show Below _ _ _; rw [← hA]; exact (Below.refl _ w).alloc (Nat.le_refl _) _
  have HN : Hid (Node A w.heap.size 0 x) := by show Node _ _ _ _; rw [← hA]; exact node_new w _ x
  have hs : A.heap.size = w.heap.size + 1 := by rw [← hA]; simp
  clear ih hX hr
  go_enter Try.func30, Try.ntmps30
  go_wp2_with fail
  go_loopw [3, 4] (fun u v wr => ∃ k : Nat, k ≤ x.n ∧ u = .int .i64 (accZ (fun i => szZ (x.c i)) k) ∧ v = .int .i64 k ∧ Below A.heap.size A wr) (fun _ v _ => x.n - (intOf v).toNat)
  case atStart => exact ⟨0, Nat.zero_le _, rfl, rfl, Below.refl _ _⟩
  case round =>
    obtain ⟨k, hk, rfl, rfl, hB⟩ := hrel
    obtain ⟨-, -, -, -, -, -, c6⟩ := (node_on HN.out (hB.mono (by omega))).at0
    have hw := HB.out.trans (hB.mono (by omega))
    by_cases hkn : k < x.n
    · obtain ⟨b, o, ea, hn, hx⟩ := (HX.out.later hw).part hkn
      rw [ea] at c6
      obtain ⟨d0, d1, d2, d3, d4, d5, d6⟩ := hn
      have hc := HI.out k hkn wr hx
      have HK : Hid (k < x.n) := hkn
      have HQ : Hid (Below w.heap.size w wr) := hw
      clear hx hw
      go_wp2_with (go_at_call 30; refine hc.mono ?_; rintro e w2 ⟨rfl, hB2⟩)
      exact ⟨⟨k + 1, HK.out, rfl, by simp, hB.trans (hB2.mono hB.size)⟩, by have := HK.out; simp [intOf]; omega⟩
    · have hk' : k = x.n := by omega
      subst hk'
      go_wp2
      go_ret
      exact ⟨ret_int HR.out.symm, hw⟩
/-- The two nodes that awake asks. -/
def leaf1 : X := .mk 1 val0 ⟨#[]⟩ ⟨#[]⟩ none 0 0 (fun _ => .nil)
def two2 (B : Nat) : X := .mk 15 val0 ⟨#[]⟩ ⟨#[]⟩ (some ⟨B, 0, none⟩) 1 1 (fun _ => leaf1)
end Go.Proofs.Ytmbinllefkifiaa
