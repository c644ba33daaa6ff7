/-
  pat.Tail and the document's.
-/
import Derived.Test.YtjclelmbpmlioaaPatRefAt
namespace Go.Proofs.Ytjclelmbpmlioaa
open Go.RowKit

/-- The PNot at the end, if there is one. -/
def HasTail (x : Pt) (q : Nat) : Prop := x.k = 2 ∧ x.n = q + 1 ∧ (x.c q).k = 6
theorem noTail {x : Pt} (h : ∀ q, ¬ HasTail x q) : ¬ x.k = 2 ∨ (x.k = 2 ∧ x.n = 0) ∨ (x.k = 2 ∧ ∃ q, x.n = q + 1 ∧ ¬ (x.c q).k = 6) := by
  by_cases h1 : x.k = 2
  · by_cases h2 : x.n = 0
    · exact .inr (.inl ⟨h1, h2⟩)
    · exact .inr (.inr ⟨h1, x.n - 1, by omega, fun h3 => h (x.n - 1) ⟨h1, by omega, h3⟩⟩)
  · exact .inl h1
theorem HasTail.one {x : Pt} {p q : Nat} (h : HasTail x p) (g : HasTail x q) : p = q := by have := h.2.1; have := g.2.1; omega
set_option maxRecDepth 100000 in
set_option maxHeartbeats 4000000 in
theorem tail_yes (x : Pt) (q : Nat) (w : World) (hX : IsP w x) (hsm : x.size ≤ 1048576) (h : HasTail x q) : Calls Try.prog 14 #[x.val] w fun e w' => ∃ y : Pt, e = .returned (.tuple #[y.val, .bool true]) ∧ PA w' y ∧ Sm y (x.c q) ∧ (∀ k, inP k y → w.heap.size ≤ k) ∧ Below w.heap.size w w' := by
  obtain ⟨A, hA, hB, hs, hn, hr⟩ := boxP_res x w
  obtain ⟨a0, a1, a2, a3, a4, a5⟩ := hn.at0
  have HB : Hid (Below w.heap.size w A) := hB
  have HR : Hid (A.heap[w.heap.size + 1]? = some (.cells zeroP 24 (0, 0))) := hr
  obtain ⟨h1, h2, h3⟩ := h
  have hlen := hX.len
  obtain ⟨b, o, ea, hm, hx⟩ := (hX.later hB).part (show q < x.n by omega)
  have hx0 : IsP w (x.c q) := by obtain ⟨_, _, _, _, h⟩ := hX.part (show q < x.n by omega); exact h
  have HX0 : Hid (IsP w (x.c q)) := hx0
  have hc := copiedP_any (x.c q) A hx (by have := x.size_part q (by omega); omega)
  rw [ea] at a5
  have hq : ((x.n : Nat) : Int) - 1 = (q : Int) := by omega
  have hlt : q < x.n := by omega
  have hpos : 0 < x.n := by omega
  have hnz : (((x.n : Nat) : Int) == 0) = false := by simp; omega
  obtain ⟨d0, d1, d2, d3, d4, d5⟩ := hm
  have t1 : (x.k == 2) = true := by simp [h1]
  have t3 : ((x.c q).k == 6) = true := by simp [h3]
  obtain ⟨⟨g0, g1, g2, g3, g4, g5⟩, f0, f1, f2, f3, f4, f5⟩ := zero_cells HR.out
  clear hB hn hr hX hx hx0 h1 h2 h3 ea g0 g1 g2 g3 g4 g5 f0 f1 f2 f3 f4 f5
  go_enter Try.func14, Try.ntmps14
  go_wp2_with (go_at_call 24; refine hc.mono ?_; clear hc; rintro e w2 ⟨y, rfl, hPA, hSm, hin, hB2⟩; have hr2 := (hB2.block (w.heap.size + 1) (by omega)).trans HR.out; obtain ⟨⟨g0, g1, g2, g3, g4, g5⟩, f0, f1, f2, f3, f4, f5⟩ := zero_cells hr2)
  have hblk : (set6 w2 (w.heap.size + 1) y).heap[w.heap.size + 1]? = some (.cells y.cells 24 (0, 0)) := heap_set6 (z := .nil) hr2
  refine bodyPost_ret (results_row_tmp rfl _ _ (w.heap.size + 1) 24 _ (0, 0) _ rfl hblk Try.underlying24 rfl (by kernel_rfl)) rfl ?_
  exact ⟨y, rfl, hPA.kept (T := fun k => k ≠ w.heap.size + 1) (fun k o hk _ e => (heap_set6_other hk).trans e) (fun k hk => by have := hin k hk; omega), hSm, fun k hk => by have := hin k hk; omega, below_set6 (HB.out.trans (hB2.mono (by omega))) (by omega)⟩
set_option maxRecDepth 100000 in
set_option maxHeartbeats 4000000 in
theorem tail_no (x : Pt) (w : World) (hX : IsP w x) (h : ∀ q, ¬ HasTail x q) : Calls Try.prog 14 #[x.val] w fun e w' => e = .returned (.tuple #[.agg zeroP, .bool false]) ∧ Below w.heap.size w w' := by
  obtain ⟨A, hA, hB, hs, hn, hr⟩ := boxP_res x w
  obtain ⟨a0, a1, a2, a3, a4, a5⟩ := hn.at0
  have HB : Hid (Below w.heap.size w A) := hB
  have HR : Hid (A.heap[w.heap.size + 1]? = some (.cells zeroP 24 (0, 0))) := hr
  have hlen := hX.len
  have HX : Hid (IsP A x) := hX.later hB
  obtain ⟨⟨g0, g1, g2, g3, g4, g5⟩, f0, f1, f2, f3, f4, f5⟩ := zero_cells HR.out
  have HBL : Hid ((set6 A (w.heap.size + 1) .nil).heap[w.heap.size + 1]? = some (.cells zeroP 24 (0, 0))) := heap_set6 (z := .nil) HR.out
  have HBE : Hid (Below w.heap.size w (set6 A (w.heap.size + 1) .nil)) := below_set6 HB.out (by omega)
  clear hB hn hr hX hs
  rcases noTail h with h1 | ⟨h1, h2⟩ | ⟨h1, q, h2, h3⟩
  · have t1 : (x.k == 2) = false := by simp [h1]
    clear h h1
    go_enter Try.func14, Try.ntmps14
    go_wp2
    refine bodyPost_ret (results_row_tmp rfl _ _ (w.heap.size + 1) 24 _ (0, 0) _ rfl HBL.out Try.underlying24 rfl (by kernel_rfl)) rfl ?_
    exact ⟨rfl, HBE.out⟩
  · have t1 : (x.k == 2) = true := by simp [h1]
    rw [h2] at a5
    clear h h1 h2
    go_enter Try.func14, Try.ntmps14
    go_wp2
    refine bodyPost_ret (results_row_tmp rfl _ _ (w.heap.size + 1) 24 _ (0, 0) _ rfl HBL.out Try.underlying24 rfl (by kernel_rfl)) rfl ?_
    exact ⟨rfl, HBE.out⟩
  · have t1 : (x.k == 2) = true := by simp [h1]
    have t3 : ((x.c q).k == 6) = false := by simp [h3]
    obtain ⟨b, o, ea, hm, -⟩ := HX.out.part (show q < x.n by omega)
    rw [ea] at a5
    have hq : ((x.n : Nat) : Int) - 1 = (q : Int) := by omega
    have hlt : q < x.n := by omega
    have hpos : 0 < x.n := by omega
    have hnz : (((x.n : Nat) : Int) == 0) = false := by simp; omega
    obtain ⟨d0, d1, d2, d3, d4, d5⟩ := hm
    clear h h1 h2 h3 ea
    go_enter Try.func14, Try.ntmps14
    go_upto_region 4 with (fail)
    clear d0 d1 d2 d3 d4 d5 a0 a1 a2 a3 a4 a5 hq hlt hpos hnz t1 t3
    go_wp2
    refine bodyPost_ret (results_row_tmp rfl _ _ (w.heap.size + 1) 24 _ (0, 0) _ rfl HBL.out Try.underlying24 rfl (by kernel_rfl)) rfl ?_
    exact ⟨rfl, HBE.out⟩
end Go.Proofs.Ytjclelmbpmlioaa
