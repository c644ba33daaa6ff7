/-
  Patterns that came in, of any size within the form's own reach.
-/
import Derived.Test.YtjclelmbpmlioaaJPatCopied
import Derived.Test.YtjclelmbpmlioaaJTxt
import Derived.SizedLaws
namespace Go.Proofs.Ytjclelmbpmlioaa
open Go.RowKit Go.ChangeShapes Go.WideShapes

section
variable {H : Type} {enc : TypeId × Value → H} {w : World} {base : Nat} {spare : Nat → Bool} {held : Bool}
theorem bytes_p : Try.prog.bytesOf 24 = 80 := by kernel_rfl
/-- What comes in at a place, by the form's own reach. -/
theorem weigh {ts : List TypeId} {ds : List (DataW H)} {t : TypeId} {d : DataW H} {j : Nat} (hsz : (DataW.weightsEach Try.prog ts ds).all (· ≤ reachBytes) = true) (ht : ts[j]? = some t) (hd : ds[j]? = some d) : ∀ n ∈ d.weights Try.prog t, n ≤ 140737488351232 := fun n hn => by
  have := List.all_eq_true.1 hsz n (DataW.weights_mem_each ht hd n hn)
  exact of_decide_eq_true this
set_option maxRecDepth 100000 in
/-- A pattern's cells, read: as a tree, its rows within the form's own reach. -/
theorem trod_pw : ∀ (m fuel : Nat) (cs : List Value) (x : DataW H × List MemPlace), DataW.trod enc Try.prog w base spare held fuel 24 cs = some x → (∀ n ∈ x.1.weights Try.prog 24, n ≤ 140737488351232) → Rows.uptoBulk x.1 ≤ m →
    ∃ q : Pt, cs = [.int .i64 q.k, .string q.s, .string q.t, .int .i64 q.lo, .int .i64 q.hi, .slice q.a q.n q.cap] ∧ IsP w q ∧ WdP q ∧ POk q := by
  intro m
  induction m with
  | zero =>
    intro fuel cs x h hwt hm
    obtain ⟨f0, f1, f2, f3, f4, f5, hu, -⟩ := pat_under
    obtain ⟨xs, n, rfl, rfl, -⟩ := DataW.trod_struct hu h
    simp [Rows.uptoBulk] at hm
  | succ m ih =>
    intro fuel cs x h hwt hm
    obtain ⟨f0, f1, f2, f3, f4, f5, hu, o0, o1, o2, o3, o4, o5, t0, t1, t2, t3, t4, t5⟩ := pat_under
    obtain ⟨xs, n, rfl, rfl, hl, hlen, hf⟩ := DataW.trod_struct hu h
    rw [cells_p] at hl
    match xs, hlen, cs, hl with
    | [y0, y1, y2, y3, y4, y5], _, [c0, c1, c2, c3, c4, c5], _ =>
      have hb : Rows.uptoBulk y5.1 + 1 ≤ Rows.uptoBulk (DataW.agg (H := H) ([y0, y1, y2, y3, y4, y5].map (·.1))) := by
        simp only [List.map_cons, List.map_nil, Rows.uptoBulk, Rows.uptoBulkAll]
        omega
      have hw5 : ∀ n ∈ y5.1.weights Try.prog 22, n ≤ 140737488351232 := fun n hn => hwt n (by
        have h1 : n ∈ y5.1.weights Try.prog f5.type := by rw [t5]; exact hn
        simp only [DataW.weights, hu, List.map_cons, List.map_nil, DataW.weightsEach, List.mem_append]
        exact .inr (.inr (.inr (.inr (.inr (.inl h1))))))
      dsimp only at hm ⊢
      clear h hwt
      generalize Rows.uptoBulk (DataW.agg (H := H) ([y0, y1, y2, y3, y4, y5].map (·.1))) = M at hb hm ⊢
      have g0 := hf 0 f0 rfl
      have g1 := hf 1 f1 rfl
      have g2 := hf 2 f2 rfl
      have g3 := hf 3 f3 rfl
      have g4 := hf 4 f4 rfl
      have g5 := hf 5 f5 rfl
      rw [o0, t0, cells_i] at g0
      rw [o1, t1, cells_s] at g1
      rw [o2, t2, cells_s] at g2
      rw [o3, t3, cells_i] at g3
      rw [o4, t4, cells_i] at g4
      rw [o5, t5, cells_pl] at g5
      simp at g0 g1 g2 g3 g4 g5
      obtain ⟨k, e0, rfl, w0⟩ := DataW.trod_int Try.underlying3 g0
      obtain ⟨s, e1, rfl, w2⟩ := DataW.trod_string Try.underlying9 g1
      obtain ⟨t, e2, rfl, w3⟩ := DataW.trod_string Try.underlying9 g2
      obtain ⟨lo, e3, rfl, _⟩ := DataW.trod_int Try.underlying3 g3
      obtain ⟨hi, e5, rfl, _⟩ := DataW.trod_int Try.underlying3 g4
      simp at e0 e1 e2 e3 e5
      subst e0 e1 e2 e3 e5
      rcases Deep.open_slice Try.underlying22 g5 with ⟨e4, _⟩ | ⟨a, len, cap, mm, nn, D, Pl, e4, _, hl4, hcm, hmm, rfl, hx⟩
      · simp at e4
        subst e4
        exact ⟨.mk k s t lo hi none 0 0 (fun _ => .nil), rfl, ⟨by omega, by omega, fun i hi => by omega⟩, ⟨by omega, fun i hi => by omega⟩, w2, w3, fun i hi => by omega⟩
      · simp at e4
        subst e4
        have hlm : len ≤ mm := by rw [hmm]; split <;> omega
        have hB : sumN (fun i => Rows.uptoBulk (D i)) len + 1 ≤ Rows.uptoBulk (DataW.slice (H := H) ((List.range len).map D) ((List.range (mm - len)).map fun j => D (len + j))) := by
          simp only [Rows.uptoBulk, bulk_range]
          omega
        simp only at hb hw5
        have hwr : len ≤ 1759218604390 := by
          have := hw5 _ (by simp only [DataW.weights, Try.underlying22]; exact List.mem_cons_self ..)
          rw [bytes_p] at this
          simp at this
          omega
        have hwe : ∀ i, i < len → ∀ n ∈ (D i).weights Try.prog 24, n ≤ 140737488351232 := fun i hi n hn => hw5 n (by
          simp only [DataW.weights, Try.underlying22, List.mem_cons, List.mem_append]
          exact .inr (.inl (mem_weightsAll (List.mem_map.2 ⟨i, List.mem_range.2 hi, rfl⟩) hn)))
        have each : ∀ i, i < len → ∃ q : Pt, w.cell? (a.add (i * 6)) = some (.int .i64 q.k) ∧ w.cell? (a.add (i * 6 + 1)) = some (.string q.s) ∧ w.cell? (a.add (i * 6 + 2)) = some (.string q.t) ∧ w.cell? (a.add (i * 6 + 3)) = some (.int .i64 q.lo) ∧
            w.cell? (a.add (i * 6 + 4)) = some (.int .i64 q.hi) ∧ w.cell? (a.add (i * 6 + 5)) = some (.slice q.a q.n q.cap) ∧ IsP w q ∧ WdP q ∧ POk q := by
          intro i hi
          obtain ⟨cs', h1, h2⟩ := hx i (by omega)
          rw [cells_p] at h1
          obtain ⟨_, hlen, hcell⟩ := World.cells?_some h1
          have hle := sumN_le (f := fun i => Rows.uptoBulk (D i)) hi
          obtain ⟨q, rfl, hq, hqs, hqo⟩ := ih _ _ _ h2 (hwe i hi) (by simp only; omega)
          have d0 := hcell 0 (by omega)
          have d1 := hcell 1 (by omega)
          have d2 := hcell 2 (by omega)
          have d3 := hcell 3 (by omega)
          have d4 := hcell 4 (by omega)
          have d5 := hcell 5 (by omega)
          rw [Deep.add_add] at d0 d1 d2 d3 d4 d5
          exact ⟨q, by simpa using d0, by simpa using d1, by simpa using d2, by simpa using d3, by simpa using d4, by simpa using d5, hq, hqs, hqo⟩
        have : Inhabited Pt := ⟨.nil⟩
        obtain ⟨q, hq⟩ := Deep.choose_lt each
        refine ⟨.mk k s t lo hi (some a) len cap q, rfl, ⟨hl4, by unfold maxLen at hcm; omega, fun i hi => ?_⟩, ⟨hwr, fun i hi => (hq i hi).2.2.2.2.2.2.2.1⟩, w2, w3, fun i hi => (hq i hi).2.2.2.2.2.2.2.2⟩
        · obtain ⟨b, off, spot⟩ := a
          obtain ⟨d0, d1, d2, d3, d4, d5, hi1, hi2, -⟩ := hq i hi
          have hspot : spot = none := by simpa [Addr.add] using World.cell?_spot (hq 0 (by omega)).1
          subst hspot
          rw [add_none] at d0 d1 d2 d3 d4 d5
          refine ⟨b, off, rfl, ⟨?_, ?_, ?_, ?_, ?_, ?_⟩, hi1⟩
          · exact d0
          · rw [Nat.add_assoc]; exact d1
          · rw [Nat.add_assoc]; exact d2
          · rw [Nat.add_assoc]; exact d3
          · rw [Nat.add_assoc]; exact d4
          · rw [Nat.add_assoc]; exact d5
end
end Go.Proofs.Ytjclelmbpmlioaa
