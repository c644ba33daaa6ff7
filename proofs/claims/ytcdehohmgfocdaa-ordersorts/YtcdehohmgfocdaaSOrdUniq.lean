/-
  order.Unique: its closures, order.each of places, slices.Sort of numbers, the whole.
  The document's Unique (haruspexref15).
-/
import Derived.Test.YtcdehohmgfocdaaSBrief
import Derived.Test.YtcdehohmgfocdaaSOrdEach
import Derived.Test.YtcdehohmgfocdaaSOrdMergeI
import Derived.Test.YtcdehohmgfocdaaSOrdCpI
import Derived.Test.YtcdehohmgfocdaaSShelf
import Derived.Test.YtcdehohmgfocdaaSOrdRows
import Derived.Lib.OwnBridge
import Derived.Sort.OwnSortedInts
namespace Go.Proofs.Ytcdehohmgfocdaa
open Go.RowKit Go.Shelf Go.Sort

theorem GrownP.ps15 {B n : Nat} {w : World} {a : Option Addr} {cap : Nat} {c : Nat → Pt} (h : GrownP B w (.slice a n cap) n c) : Ps w a n c := fun i hi => by
  obtain ⟨a', cap', e, h1, h2, h3⟩ := ownP_nodes h.1
  cases e
  obtain ⟨g, e, _, _, _, hn⟩ := h3 (by omega)
  exact ⟨g, 0, e, by rw [Nat.zero_add]; exact hn i hi, (h.2 i hi).1⟩
set_option maxRecDepth 100000 in
set_option maxHeartbeats 4000000 in
theorem unique1_any (D : Nat → Pt) (a : Option Addr) (n cap Bl : Nat) (i j : Nat) (w : World) (hb : w.cell? ⟨Bl, 0, none⟩ = some (.slice a n cap)) (hP : Ps w a n D) (hi : i < n) (hj : j < n) (_ : n ≤ 1759218604390) :
    Calls Try.prog 27 #[.int .i64 i, .int .i64 j, .pointer (some ⟨Bl, 0, none⟩)] w fun e w' => e = .returned (.int .i64 (wholeP (D i) (D j))) ∧ Below w.heap.size w w' := by
  obtain ⟨b, o, rfl, n1, i1⟩ := hP i hi
  obtain ⟨b2, o2, e2, n2, i2⟩ := hP j hj
  cases e2
  have HBx : Hid (w.cell? ⟨Bl, 0, none⟩ = some (.slice (some ⟨b, o, none⟩) n cap)) := hb
  have N1 : Hid (NodeP w b (o + i * 6) (D i)) := n1
  have N2 : Hid (NodeP w b (o + j * 6) (D j)) := n2
  have CC : Hid (∀ d, Below w.heap.size w d → Calls Try.prog 17 #[(D i).val, (D j).val] d fun e w' => e = .returned (.int .i64 (wholeP (D i) (D j))) ∧ Below d.heap.size d w') := fun d hd => wholeP_any (D i) (D j) d (i1.later hd) (i2.later hd)
  clear hP n1 n2 i1 i2 hb
  go_enter Try.func27, Try.ntmps27
  go_wp2_with fail
  refine wp_region_noPanic ?_
  refine wp_region_held_drew (S := fun w' => Below w.heap.size w w') (by kernel_rfl) ((Below.refl _ _).drew) (fun hHeld => ?_)
  have hT : Below w.heap.size w w.drew := hHeld
  obtain ⟨d, hd⟩ : ∃ d, d = w.drew := ⟨_, rfl⟩
  rw [← hd] at hHeld hT ⊢
  clear hd
  refine wpAnyH_take (i := 0) (oi := ⟨some 6, .load 22 (.tmp 2), 22, _, _, _⟩) (v := ?v0) rfl (by kernel_rfl) (by kernel_rfl) (by kernel_rfl) (fun _ _ _ h => h) (Or.inl ⟨by rfl, ?hy0⟩) hHeld ?rest0
  case hy0 => intro w9 hSw; have c0 := cell_later HBx.out hSw; go_simp; (try with_reducible rfl)
  try simp only [Act.put, s_put, s_0, s_1]
  refine wpAnyH_take (i := 1) (oi := ⟨some 7, .move (.tmp 0), 3, _, _, _⟩) (v := ?v1) rfl (by kernel_rfl) (by kernel_rfl) (by kernel_rfl) (fun _ _ _ h => h) (Or.inl ⟨by rfl, ?hy1⟩) hHeld ?rest1
  case hy1 => intro w9 hSw; go_simp; (try with_reducible rfl)
  try simp only [Act.put, s_put, s_0, s_1]
  refine wpAnyH_take (i := 2) (oi := ⟨some 8, .indexAddr 22 (.tmp 6) (.tmp 7), 0, _, _, _⟩) (v := ?v2) rfl (by kernel_rfl) (by kernel_rfl) (by kernel_rfl) (fun _ _ _ h => h) (Or.inl ⟨by rfl, ?hy2⟩) hHeld ?rest2
  case hy2 => intro w9 hSw; go_simp; (try with_reducible rfl)
  try simp only [Act.put, s_put, s_0, s_1]
  refine wpAnyH_take (i := 3) (oi := ⟨some 9, .load 27 (.tmp 8), 27, _, _, _⟩) (v := ?v3) rfl (by kernel_rfl) (by kernel_rfl) (by kernel_rfl) (fun _ _ _ h => h) (Or.inl ⟨by rfl, ?hy3⟩) hHeld ?rest3
  case hy3 => intro w9 hSw; obtain ⟨d0, d1, d2, d3, d4, d5⟩ := N1.out.later hSw; go_simp; (try with_reducible rfl)
  try simp only [Act.put, s_put, s_0, s_1]
  refine wpAnyH_take (i := 4) (oi := ⟨some 10, .load 22 (.tmp 2), 22, _, _, _⟩) (v := ?v4) rfl (by kernel_rfl) (by kernel_rfl) (by kernel_rfl) (fun _ _ _ h => h) (Or.inl ⟨by rfl, ?hy4⟩) hHeld ?rest4
  case hy4 => intro w9 hSw; have c0 := cell_later HBx.out hSw; go_simp; (try with_reducible rfl)
  try simp only [Act.put, s_put, s_0, s_1]
  refine wpAnyH_take (i := 5) (oi := ⟨some 11, .move (.tmp 1), 3, _, _, _⟩) (v := ?v5) rfl (by kernel_rfl) (by kernel_rfl) (by kernel_rfl) (fun _ _ _ h => h) (Or.inl ⟨by rfl, ?hy5⟩) hHeld ?rest5
  case hy5 => intro w9 hSw; go_simp; (try with_reducible rfl)
  try simp only [Act.put, s_put, s_0, s_1]
  refine wpAnyH_take (i := 6) (oi := ⟨some 12, .indexAddr 22 (.tmp 10) (.tmp 11), 0, _, _, _⟩) (v := ?v6) rfl (by kernel_rfl) (by kernel_rfl) (by kernel_rfl) (fun _ _ _ h => h) (Or.inl ⟨by rfl, ?hy6⟩) hHeld ?rest6
  case hy6 => intro w9 hSw; go_simp; (try with_reducible rfl)
  try simp only [Act.put, s_put, s_0, s_1]
  refine wpAnyH_take (i := 7) (oi := ⟨some 13, .load 27 (.tmp 12), 27, _, _, _⟩) (v := ?v7) rfl (by kernel_rfl) (by kernel_rfl) (by kernel_rfl) (fun _ _ _ h => h) (Or.inl ⟨by rfl, ?hy7⟩) hHeld ?rest7
  case hy7 => intro w9 hSw; obtain ⟨d0, d1, d2, d3, d4, d5⟩ := N2.out.later hSw; go_simp; (try with_reducible rfl)
  try simp only [Act.put, s_put, s_0, s_1]
  refine wpAnyH_ready (rs := [8]) (by kernel_rfl) (by simp) ?_
  refine AllReadyH.cons (o := ⟨some 14, .call { callee := .value (.func 17), args := #[.tmp 9, .tmp 13], argTypes := #[27, 27] }, 3, _, _, _⟩) rfl (fun K hK => ?_) AllReadyH.nil
  go_simp
  refine (CC.out _ hT).mono ?_
  rintro e x8 ⟨rfl, hN8⟩
  go_wp2_with fail
  have hT8 : Below w.heap.size w x8 := hT.trans (hN8.mono hT.size)
  refine hK.out _ _ (hHeld.trans (hN8.mono hHeld.size)) (fun _ => held_up (S' := fun w' => Below x8.heap.size x8 w') (fun w' h' => (hHeld.trans (hN8.mono hHeld.size)).trans (h'.mono (Nat.le_trans hHeld.size hN8.size))) _ _ _ _ ?_)
  clear hK K hHeld hT
  have hT : Below w.heap.size w x8 := hT8
  have hHeld : Below x8.heap.size x8 x8 := Below.refl _ _
  clear hT8 hN8
  try simp only [Act.put, s_put, s_0, s_1]
  refine wpAnyH_take (i := 9) (oi := ⟨some 5, .assign (.tmp 14), 3, _, _, _⟩) (v := ?v9) rfl (by kernel_rfl) (by kernel_rfl) (by kernel_rfl) (fun _ _ _ h => h) (Or.inl ⟨by rfl, ?hy9⟩) hHeld ?rest9
  case hy9 => intro w9 hSw; go_simp; (try with_reducible rfl)
  try simp only [Act.put, s_put, s_0, s_1]
  refine wpAnyH_done (by kernel_rfl) ?_ _
  refine NoPanic.normal ?_
  go_wp2
  go_ret
  exact ⟨rfl, hT⟩
set_option maxRecDepth 100000 in
set_option maxHeartbeats 4000000 in
theorem unique2_any (D : Nat → Pt) (a : Option Addr) (n cap Bl : Nat) (i j : Nat) (w : World) (hb : w.cell? ⟨Bl, 0, none⟩ = some (.slice a n cap)) (hP : Ps w a n D) (hi : i < n) (hj : j < n) (_ : n ≤ 1759218604390) :
    Calls Try.prog 29 #[.int .i64 i, .int .i64 j, .pointer (some ⟨Bl, 0, none⟩)] w fun e w' => e = .returned (.bool (sameP (D i) (D j))) ∧ Below w.heap.size w w' := by
  obtain ⟨b, o, rfl, n1, i1⟩ := hP i hi
  obtain ⟨b2, o2, e2, n2, i2⟩ := hP j hj
  cases e2
  have HBx : Hid (w.cell? ⟨Bl, 0, none⟩ = some (.slice (some ⟨b, o, none⟩) n cap)) := hb
  have N1 : Hid (NodeP w b (o + i * 6) (D i)) := n1
  have N2 : Hid (NodeP w b (o + j * 6) (D j)) := n2
  have CC : Hid (∀ d, Below w.heap.size w d → Calls Try.prog 30 #[(D i).val, (D j).val] d fun e w' => e = .returned (.bool (sameP (D i) (D j))) ∧ Below d.heap.size d w') := fun d hd => samePat_any (D i) (D j) d (i1.later hd) (i2.later hd)
  clear hP n1 n2 i1 i2 hb
  go_enter Try.func29, Try.ntmps29
  go_wp2_with fail
  refine wp_region_noPanic ?_
  refine wp_region_held_drew (S := fun w' => Below w.heap.size w w') (by kernel_rfl) ((Below.refl _ _).drew) (fun hHeld => ?_)
  have hT : Below w.heap.size w w.drew := hHeld
  obtain ⟨d, hd⟩ : ∃ d, d = w.drew := ⟨_, rfl⟩
  rw [← hd] at hHeld hT ⊢
  clear hd
  refine wpAnyH_take (i := 0) (oi := ⟨some 6, .load 22 (.tmp 2), 22, _, _, _⟩) (v := ?v0) rfl (by kernel_rfl) (by kernel_rfl) (by kernel_rfl) (fun _ _ _ h => h) (Or.inl ⟨by rfl, ?hy0⟩) hHeld ?rest0
  case hy0 => intro w9 hSw; have c0 := cell_later HBx.out hSw; go_simp; (try with_reducible rfl)
  try simp only [Act.put, s_put, s_0, s_1]
  refine wpAnyH_take (i := 1) (oi := ⟨some 7, .move (.tmp 0), 3, _, _, _⟩) (v := ?v1) rfl (by kernel_rfl) (by kernel_rfl) (by kernel_rfl) (fun _ _ _ h => h) (Or.inl ⟨by rfl, ?hy1⟩) hHeld ?rest1
  case hy1 => intro w9 hSw; go_simp; (try with_reducible rfl)
  try simp only [Act.put, s_put, s_0, s_1]
  refine wpAnyH_take (i := 2) (oi := ⟨some 8, .indexAddr 22 (.tmp 6) (.tmp 7), 0, _, _, _⟩) (v := ?v2) rfl (by kernel_rfl) (by kernel_rfl) (by kernel_rfl) (fun _ _ _ h => h) (Or.inl ⟨by rfl, ?hy2⟩) hHeld ?rest2
  case hy2 => intro w9 hSw; go_simp; (try with_reducible rfl)
  try simp only [Act.put, s_put, s_0, s_1]
  refine wpAnyH_take (i := 3) (oi := ⟨some 9, .load 27 (.tmp 8), 27, _, _, _⟩) (v := ?v3) rfl (by kernel_rfl) (by kernel_rfl) (by kernel_rfl) (fun _ _ _ h => h) (Or.inl ⟨by rfl, ?hy3⟩) hHeld ?rest3
  case hy3 => intro w9 hSw; obtain ⟨d0, d1, d2, d3, d4, d5⟩ := N1.out.later hSw; go_simp; (try with_reducible rfl)
  try simp only [Act.put, s_put, s_0, s_1]
  refine wpAnyH_take (i := 4) (oi := ⟨some 10, .load 22 (.tmp 2), 22, _, _, _⟩) (v := ?v4) rfl (by kernel_rfl) (by kernel_rfl) (by kernel_rfl) (fun _ _ _ h => h) (Or.inl ⟨by rfl, ?hy4⟩) hHeld ?rest4
  case hy4 => intro w9 hSw; have c0 := cell_later HBx.out hSw; go_simp; (try with_reducible rfl)
  try simp only [Act.put, s_put, s_0, s_1]
  refine wpAnyH_take (i := 5) (oi := ⟨some 11, .move (.tmp 1), 3, _, _, _⟩) (v := ?v5) rfl (by kernel_rfl) (by kernel_rfl) (by kernel_rfl) (fun _ _ _ h => h) (Or.inl ⟨by rfl, ?hy5⟩) hHeld ?rest5
  case hy5 => intro w9 hSw; go_simp; (try with_reducible rfl)
  try simp only [Act.put, s_put, s_0, s_1]
  refine wpAnyH_take (i := 6) (oi := ⟨some 12, .indexAddr 22 (.tmp 10) (.tmp 11), 0, _, _, _⟩) (v := ?v6) rfl (by kernel_rfl) (by kernel_rfl) (by kernel_rfl) (fun _ _ _ h => h) (Or.inl ⟨by rfl, ?hy6⟩) hHeld ?rest6
  case hy6 => intro w9 hSw; go_simp; (try with_reducible rfl)
  try simp only [Act.put, s_put, s_0, s_1]
  refine wpAnyH_take (i := 7) (oi := ⟨some 13, .load 27 (.tmp 12), 27, _, _, _⟩) (v := ?v7) rfl (by kernel_rfl) (by kernel_rfl) (by kernel_rfl) (fun _ _ _ h => h) (Or.inl ⟨by rfl, ?hy7⟩) hHeld ?rest7
  case hy7 => intro w9 hSw; obtain ⟨d0, d1, d2, d3, d4, d5⟩ := N2.out.later hSw; go_simp; (try with_reducible rfl)
  try simp only [Act.put, s_put, s_0, s_1]
  refine wpAnyH_ready (rs := [8]) (by kernel_rfl) (by simp) ?_
  refine AllReadyH.cons (o := ⟨some 14, .call { callee := .value (.func 30), args := #[.tmp 9, .tmp 13], argTypes := #[27, 27] }, 4, _, _, _⟩) rfl (fun K hK => ?_) AllReadyH.nil
  go_simp
  refine (CC.out _ hT).mono ?_
  rintro e x8 ⟨rfl, hN8⟩
  go_wp2_with fail
  have hT8 : Below w.heap.size w x8 := hT.trans (hN8.mono hT.size)
  refine hK.out _ _ (hHeld.trans (hN8.mono hHeld.size)) (fun _ => held_up (S' := fun w' => Below x8.heap.size x8 w') (fun w' h' => (hHeld.trans (hN8.mono hHeld.size)).trans (h'.mono (Nat.le_trans hHeld.size hN8.size))) _ _ _ _ ?_)
  clear hK K hHeld hT
  have hT : Below w.heap.size w x8 := hT8
  have hHeld : Below x8.heap.size x8 x8 := Below.refl _ _
  clear hT8 hN8
  try simp only [Act.put, s_put, s_0, s_1]
  refine wpAnyH_take (i := 9) (oi := ⟨some 5, .assign (.tmp 14), 4, _, _, _⟩) (v := ?v9) rfl (by kernel_rfl) (by kernel_rfl) (by kernel_rfl) (fun _ _ _ h => h) (Or.inl ⟨by rfl, ?hy9⟩) hHeld ?rest9
  case hy9 => intro w9 hSw; go_simp; (try with_reducible rfl)
  try simp only [Act.put, s_put, s_0, s_1]
  refine wpAnyH_done (by kernel_rfl) ?_ _
  refine NoPanic.normal ?_
  go_wp2
  go_ret
  exact ⟨rfl, hT⟩
set_option maxRecDepth 100000 in
set_option maxHeartbeats 4000000 in
theorem unique3_any (D : Nat → Pt) (a : Option Addr) (n cap Bl : Nat) (i : Nat) (w : World) (hb : w.cell? ⟨Bl, 0, none⟩ = some (.slice a n cap)) (hP : Ps w a n D) (hi : i < n) (hs : WdP (D i)) :
    Calls Try.prog 33 #[.int .i64 i, .pointer (some ⟨Bl, 0, none⟩)] w (NewP (D i) w) := by
  obtain ⟨b, o, rfl, n1, i1⟩ := hP i hi
  obtain ⟨A, hA⟩ : ∃ A, w.alloc (.cells zeroP 27) = A := ⟨_, rfl⟩
  have hBA : Below w.heap.size w A := by rw [← hA]; exact (Below.refl _ _).alloc (Nat.le_refl _) _
  have hk : A.heap[w.heap.size]? = some (.cells zeroP 27 (0, 0)) := by rw [← hA]; exact alloc_new w _
  have hAs : A.heap.size = w.heap.size + 1 := by rw [← hA]; simp
  have c0 := cell_later hb hBA
  obtain ⟨d0, d1, d2, d3, d4, d5⟩ := n1.later hBA
  have hc : Hid (Calls Try.prog 24 #[(D i).val] A (NewP (D i) A)) := copiedO_any (D i) A (i1.later hBA) hs
  have HK : Hid (A.heap[w.heap.size]? = some (.cells zeroP 27 (0, 0))) := hk
  have HB : Hid (Below w.heap.size w A) := hBA
  have HS : Hid (A.heap.size = w.heap.size + 1) := hAs
  clear hP n1 i1 hBA hk hAs hb
  unfold NewP at hc ⊢
  go_enter Try.func33, Try.ntmps33
  go_wp2_with (go_at_call 24; refine hc.out.mono ?_; clear hc; rintro e w2 ⟨q, rfl, hq, hB2⟩; have k1 := (hB2.block w.heap.size (by have := HS.out; omega)).trans HK.out; obtain ⟨e0, e1, e2, e3, e4, e5⟩ := (nodeP_box (x := .nil) k1).at0; obtain ⟨g0, g1, g2, g3, g4, g5⟩ := frozen_box k1)
  have hblk : (set6 w2 w.heap.size q).heap[w.heap.size]? = some (.cells q.cells 27 (0, 0)) := heap_set6 (z := .nil) k1
  refine bodyPost_ret (results_cell_row rfl _ _ w.heap.size 27 _ (0, 0) _ rfl hblk Try.underlying27 rfl (by kernel_rfl)) rfl ?_
  have hs := HS.out
  have hBw : Below w.heap.size w w2 := HB.out.trans (hB2.mono HB.out.size)
  exact ⟨q, rfl, ⟨isP_other (T := fun k => w.heap.size + 1 ≤ k) hq.out.1 (fun k hk => by have := hq.out.2.2 k hk; omega) (fun k hk => heap_set6_other (by omega)), hq.out.2.1, fun k hk => by have := hq.out.2.2 k hk; omega⟩, below_set6 hBw (Nat.le_refl _)⟩
set_option maxRecDepth 100000 in
set_option maxHeartbeats 8000000 in
theorem eachIP_any (a : Option Addr) (n cap : Nat) (D : Nat → Int) (w : World) (Bl : Nat) (E : Nat → Pt) (hn : n ≤ 1759218604390) (hR : ∀ i, i < n → ∃ b o, a = some ⟨b, o, none⟩ ∧ NodeI w b (o + i) (D i))
    (hC : ∀ i, i < n → ∀ d, Below w.heap.size w d → Calls Try.prog 33 #[.int .i64 (D i), .pointer (some ⟨Bl, 0, none⟩)] d (NewP (E i) d)) :
    Calls Try.prog 32 #[.slice a n cap, .func (.func 33) #[] #[.pointer (some ⟨Bl, 0, none⟩)]] w fun e w' => ∃ (a' : Option Addr) (cap' : Nat) (c : Nat → Pt), e = .returned (.slice a' n cap') ∧ Hid (GrownP w.heap.size w' (.slice a' n cap') n c ∧ ∀ i, i < n → Sm (c i) (E i)) ∧ Below w.heap.size w w' := by
  have HR : Hid (∀ i, i < n → ∃ b o, a = some ⟨b, o, none⟩ ∧ NodeI w b (o + i) (D i)) := hR
  have HC : Hid (∀ i, i < n → ∀ d, Below w.heap.size w d → Calls Try.prog 33 #[.int .i64 (D i), .pointer (some ⟨Bl, 0, none⟩)] d (NewP (E i) d)) := hC
  clear hR hC
  go_enter Try.func32, Try.ntmps32
  go_wp2
  go_loopw [5, 10] (fun u v wr => ∃ (k : Nat) (a' : Option Addr) (cap' : Nat) (c : Nat → Pt), k ≤ n ∧ u = .slice a' k cap' ∧ v = .int .i64 k ∧ Hid (GrownP w.heap.size wr (.slice a' k cap') k c ∧ ∀ i, i < k → Sm (c i) (E i)) ∧ Below w.heap.size w wr) (fun _ v _ => n - (intOf v).toNat)
  case atStart => exact ⟨0, none, 0, fun _ => .nil, Nat.zero_le _, rfl, rfl, ⟨grownP_nil _ _ _, fun i hi => absurd hi (Nat.not_lt_zero _)⟩, Below.refl _ _⟩
  case round =>
    obtain ⟨k, a', cap', c, hk, rfl, rfl, HG, hB⟩ := hrel
    by_cases hkn : k < n
    · obtain ⟨b, o, rfl, hn1⟩ := HR.out k hkn
      obtain ⟨A, hA⟩ : ∃ A, A = wr := ⟨_, rfl⟩
      have hBA : Below wr.heap.size wr A := by rw [hA]; exact Below.refl _ _
      have d0 := NodeI.at (hn1.later hB)
      subst hA
      have HK : Hid (k < n) := hkn
      have HB0 : Hid (Below w.heap.size w A) := hB.trans (hBA.mono hB.size)
      have HG2 : Hid (GrownP w.heap.size A (.slice a' k cap') k c) := HG.out.1.later hBA
      have hc : Hid (Calls Try.prog 33 #[.int .i64 (D k), .pointer (some ⟨Bl, 0, none⟩)] A (NewP (E k) A)) := HC.out k hkn A HB0.out
      have HLT : Hid (∀ q, (Value.slice a' k cap').ownBlock = some q → q < A.heap.size) := fun q e => (HG2.out.1.lt q e).2
      have hk6 : Hid (k ≤ 1759218604390) := by show k ≤ _; omega
      clear hn1 hBA
      go_wp2_with (first
        | (go_at_call 33; refine hc.out.mono ?_; clear hc; rintro e w2 ⟨q, rfl, hq, hB2⟩; obtain ⟨a3, cap3, w3, run3, G3, hB3, -⟩ := (HG2.out.later hB2).push (HB0.out.trans (hB2.mono HB0.out.size)).size hk6.out q hq.out.1 (fun z hz => ⟨Nat.le_trans HB0.out.size (hq.out.2.2 z hz), fun e => by have := HLT.out z e; have := hq.out.2.2 z hz; omega⟩); have R3 : Hid (_ = _) := run3; have HG3 : Hid (GrownP _ _ _ _ _) := G3; have HB3 : Hid (Below w.heap.size w w3) := (HB0.out.trans (hB2.mono HB0.out.size)).trans hB3; clear run3 G3 hB3)
        | (at_builtin; refine wpList_append_run rfl (.tmp 14) (.tmp 18) 22 rfl _ _ _ rfl rfl R3.out ?_))
      go_roundw
      case rel =>
        refine ⟨k + 1, a3, cap3, _, HK.out, rfl, by go_num, ⟨HG3.out, fun i hi => ?_⟩, HB3.out⟩
        by_cases e : i = k
        · subst e
          rw [updP_same]
          exact hq.out.2.1
        · rw [updP_other e]
          exact HG.out.2 i (by omega)
      case measure => have := HK.out; simp [intOf]; omega
    · obtain rfl : k = n := by omega
      go_wp2
      go_ret
      exact ⟨a', cap', c, rfl, HG, hB⟩
theorem sortInts_any (B n : Nat) (v : Value) (L : List Int) (w : World) (hO : w.ownsRow B 3 1 v n (rowLI L)) (hB : B ≤ w.heap.size) (hl : L.length = n) (hn : n ≤ 1759218604390) :
    Calls Try.prog 31 #[v] w fun e w' => e = .returned (.tuple #[]) ∧ Hid (w'.ownsRow B 3 1 v n (rowLI (L.mergeSort fun x y => decide (x ≤ y)))) ∧ Below B w w' := by
  by_cases hv : v = .slice none 0 0
  · subst hv
    obtain rfl : n = 0 := by
      rcases hO.2 with ⟨_, e⟩ | ⟨g, cap, cur, e, _⟩
      · exact e
      · cases e
    have hL : L = [] := List.length_eq_zero_iff.1 hl
    subst hL
    have s1 : Calls Try.prog 31 #[.slice none 0 0] w fun e w' => e = .returned (.tuple #[]) ∧ w' = w := Any.slices_Sort_int_none Try.lays189 none 0 w
    refine s1.mono ?_
    rintro e w' ⟨rfl, rfl⟩
    exact ⟨rfl, by show World.ownsRow _ _ _ _ _ _ _; rw [List.mergeSort_nil]; exact hO, Below.refl _ _⟩
  · have hO' := hO
    rw [rowLI_map] at hO'
    obtain ⟨g, cap, rfl, hg, hgl, hnc, hcm, hzl, hH⟩ := Lib.holds_of_ownsRow hO' hv
    have s1 : Calls Try.prog 31 #[.slice (some ⟨g, 0, none⟩) n cap] w fun e w' => e = .returned (.tuple #[]) ∧ ∃ m os, w' = grow (putRow (Value.int .i64) (Sort.ahead w m) g 0 (L.mergeSort fun x y => decide (x ≤ y)).toArray) os := by
      have := Any.slices_Sort_int Try.lays189 g 0 cap L w hH hgl (by omega)
      rw [hl] at this
      exact this
    refine s1.mono ?_
    rintro e w' ⟨rfl, m, os, rfl⟩
    have hcur : ∃ cur, w.heap[g]? = some (.cells cur 3 (0, 0)) ∧ cur.size = cap * 1 := by
      rcases hO.2 with ⟨e, _⟩ | ⟨g2, c2, cur, e, _, hc, _, _, hs, _⟩
      · cases e
      · injection e with e1 _ e3
        injection e1 with e1
        injection e1 with e1
        subst e1 e3
        exact ⟨cur, hc, hs⟩
    obtain ⟨cur, hc, hcs⟩ := hcur
    refine ⟨rfl, ?_, (Below.refl B w).grown (grownBy_sortedI _) hB fun k e => by injection e with e; omega⟩
    have := ownsRow_sortedI (w := w) (n := m) (os := os) (e := 3) (ss := L) (ts := L.mergeSort fun x y => decide (x ≤ y)) (by rw [List.length_mergeSort]) hg hc (by omega) hcm hcs
    rw [hl, ← rowLI_map] at this
    exact this
/-- Unique's answer. -/
def UniqAns (D : Nat → Pt) (n : Nat) (d : World) (e : Ending) (w' : World) : Prop := ∃ (a' : Option Addr) (cap' : Nat) (c : Nat → Pt), e = .returned (.slice a' (firstsL D n).length cap') ∧ Hid (Ps w' a' (firstsL D n).length c ∧ ∀ i, i < (firstsL D n).length → Sm (c i) (D ((firstsL D n).getD i 0))) ∧ Below d.heap.size d w'
theorem made_ints (n : Nat) : (madeCells (Value.int .i64 0).cells (n * 1)).toList = rowLI (List.replicate n 0) := by
  rw [rowLI_map, List.map_replicate, Nat.mul_one]
  exact toList_madeCells_one _ n
theorem set_places {n k : Nat} (h : k < n) : ((placesL k ++ List.replicate (n - k) 0).set k (k : Int)) = placesL (k + 1) ++ List.replicate (n - (k + 1)) 0 := by
  have hl : (placesL k).length = k := by simp [placesL]
  rw [List.set_append_right _ _ (by omega), hl, Nat.sub_self, show n - k = n - (k + 1) + 1 by omega, List.replicate_succ, List.set_cons_zero]
  simp [placesL, List.range_succ]
set_option maxRecDepth 100000 in
set_option maxHeartbeats 8000000 in
theorem unique_any (a : Option Addr) (n cap : Nat) (D : Nat → Pt) (w : World) (hP : Ps w a n D) (hn : n ≤ 1759218604390) (hs : ∀ i, i < n → WdP (D i)) : Calls Try.prog 11 #[.slice a n cap] w (UniqAns D n w) := by
  obtain ⟨A, hA⟩ : ∃ A, w.alloc (.cells #[.slice a n cap] 22) = A := ⟨_, rfl⟩
  have hBA : Below w.heap.size w A := by rw [← hA]; exact (Below.refl _ _).alloc (Nat.le_refl _) _
  have hAs : A.heap.size = w.heap.size + 1 := by rw [← hA]; simp
  have c0 : A.cell? ⟨w.heap.size, 0, none⟩ = some (.slice a n cap) := by rw [← hA]; simp
  have HBX : Hid (∀ d, Below A.heap.size A d → d.cell? ⟨w.heap.size, 0, none⟩ = some (.slice a n cap)) := fun d hd => cell_later c0 hd
  have HP : Hid (∀ d, Below A.heap.size A d → Ps d a n D) := fun d hd => (hP.later hBA).later hd
  have HS : Hid (∀ i, i < n → WdP (D i)) := hs
  have HB : Hid (Below w.heap.size w A) := hBA
  obtain ⟨i0, hi, hz0, hz1, hz2⟩ := info_parts infoI15
  have H1 : Hid (∀ (v : Value) (d : World), d.ownsRow A.heap.size 3 1 v n (rowLI (placesL n)) → Below A.heap.size A d → Calls Try.prog 26 #[v, .func (.func 27) #[] #[.pointer (some ⟨w.heap.size, 0, none⟩)]] d fun e w' => ∃ v2 r, e = .returned v2 ∧ Hid (w'.ownsRow d.heap.size 3 1 v2 n (rowLI r) ∧ St (cD D) (placesL n) r) ∧ Below d.heap.size d w') := fun v d ho hd => by
    have hv : ∃ a cap, v = .slice a n cap ∧ (0 < n → ∃ b o, a = some ⟨b, o, none⟩ ∧ RwI d b o (placesL n)) ∧ n ≤ cap ∧ cap ≤ 9223372036854775807 := by
      by_cases h0 : 0 < n
      · obtain ⟨g, cap, rfl, q1, q2, _, _, hg⟩ := ownLI ho h0
        exact ⟨_, cap, rfl, fun _ => ⟨g, 0, rfl, hg⟩, q1, by unfold maxLen at q2; omega⟩
      · obtain rfl : n = 0 := by omega
        rcases ho.2 with ⟨rfl, _⟩ | ⟨g, cap, _, rfl, _, _, _, q2, _⟩
        · exact ⟨none, 0, rfl, fun h => absurd h h0, Nat.le_refl _, Nat.zero_le _⟩
        · exact ⟨_, cap, rfl, fun h => absurd h h0, Nat.zero_le _, by unfold maxLen at q2; omega⟩
    obtain ⟨a2, cap2, rfl, hrow, q1, q2⟩ := hv
    refine sortedI_any (cD D) (cD3 D) w.heap.size n a2 cap2 (placesL n) d (by simp [placesL]) hrow q1 q2 hn fun x hx y hy W hW => ?_
    obtain ⟨i, hi, rfl⟩ := placesL_mem.1 hx
    obtain ⟨j, hj, rfl⟩ := placesL_mem.1 hy
    have hAW := hd.trans (hW.mono hd.size)
    exact unique1_any D a n cap w.heap.size i j W (HBX.out W hAW) (HP.out W hAW) hi hj hn
  have H2 : Hid (∀ (B : Nat) (v : Value) (r : List Int) (d : World), Hid (d.ownsRow B 3 1 v n (rowLI r) ∧ St (cD D) (placesL n) r) → A.heap.size ≤ B → B ≤ d.heap.size → Below A.heap.size A d → Calls Try.prog 28 #[v, .func (.func 29) #[] #[.pointer (some ⟨w.heap.size, 0, none⟩)]] d fun e w' => ∃ v2, e = .returned v2 ∧ Hid (w'.ownsRow B 3 1 v2 (compactL (eD D) r).length (rowLI (compactL (eD D) r)) ∧ St (cD D) (placesL n) r) ∧ Below B d w') := fun B v r d hr hB1 hB2 hd => by
    have hl : r.length = n := hr.out.2.perm.length_eq.trans (by simp [placesL])
    by_cases h2 : n < 2
    · have hv : ∃ a cap, v = .slice a n cap := by
        rcases hr.out.1.2 with ⟨rfl, rfl⟩ | ⟨g, cap, _, rfl, _⟩
        · exact ⟨none, 0, rfl⟩
        · exact ⟨_, cap, rfl⟩
      obtain ⟨a2, cap2, rfl⟩ := hv
      refine (compactI_less (eD D) w.heap.size a2 n cap2 d h2).mono ?_
      rintro e w' ⟨rfl, rfl⟩
      rw [compact_less (eD D) (by omega), hl]
      exact ⟨_, rfl, hr, Below.refl _ _⟩
    · obtain ⟨g, cap2, rfl, _, _, _, _, _⟩ := ownLI hr.out.1 (by omega)
      refine (compactI_more (eD D) w.heap.size B g n cap2 r d hl hr.out.1 h2 hn fun x hx y hy W hW => ?_).mono ?_
      · obtain ⟨i, hi, rfl⟩ := placesL_mem.1 (hr.out.2.perm.mem_iff.1 hx)
        obtain ⟨j, hj, rfl⟩ := placesL_mem.1 (hr.out.2.perm.mem_iff.1 hy)
        have hAW : Below A.heap.size A W := hd.trans (hW.mono hB1)
        exact unique2_any D a n cap w.heap.size i j W (HBX.out W hAW) (HP.out W hAW) hi hj hn
      · rintro e w' ⟨m, rfl, h, hB⟩
        obtain ⟨rfl, h3⟩ := h.out
        exact ⟨_, rfl, ⟨h3, hr.out.2⟩, hB⟩
  have H3 : Hid (∀ (B : Nat) (v : Value) (r : List Int) (d : World), Hid (d.ownsRow B 3 1 v (compactL (eD D) r).length (rowLI (compactL (eD D) r)) ∧ St (cD D) (placesL n) r) → B ≤ d.heap.size → Calls Try.prog 31 #[v] d fun e w' => e = .returned (.tuple #[]) ∧ Hid (w'.ownsRow B 3 1 v (firstsL D n).length (rowLI ((firstsL D n).map fun (i : Nat) => (i : Int)))) ∧ Below B d w') := fun B v r d hr hB => by
    have hlen := uniq_len hr.out.2
    have := sortInts_any B (compactL (eD D) r).length v _ d hr.out.1 hB rfl (by rw [hlen]; have := firstsL_le D n; omega)
    rw [uniq_sorted hr.out.2, hlen] at this
    exact this
  have H4 : Hid (∀ (B : Nat) (v : Value) (d : World), Hid (d.ownsRow B 3 1 v (firstsL D n).length (rowLI ((firstsL D n).map fun (i : Nat) => (i : Int)))) → Below A.heap.size A d → Calls Try.prog 32 #[v, .func (.func 33) #[] #[.pointer (some ⟨w.heap.size, 0, none⟩)]] d fun e w' => ∃ (a' : Option Addr) (cap' : Nat) (c : Nat → Pt), e = .returned (.slice a' (firstsL D n).length cap') ∧ Hid (GrownP d.heap.size w' (.slice a' (firstsL D n).length cap') (firstsL D n).length c ∧ ∀ i, i < (firstsL D n).length → Sm (c i) (D ((firstsL D n).getD i 0))) ∧ Below d.heap.size d w') := fun B v d ho hd => by
    have hle := firstsL_le D n
    have hv : ∃ a cap, v = .slice a (firstsL D n).length cap ∧ ∀ i, i < (firstsL D n).length → ∃ b o, a = some ⟨b, o, none⟩ ∧ NodeI d b (o + i) (((firstsL D n).getD i 0 : Nat) : Int) := by
      by_cases h0 : 0 < (firstsL D n).length
      · obtain ⟨g, cap, rfl, _, _, _, _, hg⟩ := ownLI ho.out h0
        refine ⟨_, cap, rfl, fun i hi => ⟨g, 0, rfl, ?_⟩⟩
        have := hg i _ (by simp [hi]; rfl)
        rw [Nat.mul_one] at this
        simpa [hi] using this
      · have h0' : (firstsL D n).length = 0 := by omega
        have hO := ho.out
        rw [h0'] at hO ⊢
        rcases hO.2 with ⟨rfl, _⟩ | ⟨g, cap, _, rfl, _⟩
        · exact ⟨none, 0, rfl, fun i hi => absurd hi (Nat.not_lt_zero _)⟩
        · exact ⟨_, cap, rfl, fun i hi => absurd hi (Nat.not_lt_zero _)⟩
    obtain ⟨a2, cap2, rfl, hrow⟩ := hv
    refine eachIP_any a2 (firstsL D n).length cap2 (fun i => (((firstsL D n).getD i 0 : Nat) : Int)) d w.heap.size (fun i => D ((firstsL D n).getD i 0)) (by omega) hrow fun i hi W hW => ?_
    have hm : (firstsL D n).getD i 0 ∈ firstsL D n := by rw [List.getD_eq_getElem?_getD, List.getElem?_eq_getElem hi]; exact List.getElem_mem _
    have hin := (firstsL_mem.1 hm).1
    have hAW := hd.trans (hW.mono hd.size)
    exact unique3_any D a n cap w.heap.size _ W (HBX.out W hAW) (HP.out W hAW) hin (HS.out _ hin)
  have HAS : Hid (A.heap.size = w.heap.size + 1) := hAs
  clear hP hs hBA hAs
  unfold UniqAns
  generalize hm : (firstsL D n).length = m at H3 H4 ⊢
  clear hm
  go_enter Try.func11, Try.ntmps11
  go_wp2_with (first
    | (at_make; refine wpList_make_full _ rfl _ _ 50 rfl A.heap.size 3 i0 _ 1 Try.underlying50 hi hz0 hz1 .i64 .i64 _ _ n rfl rfl (by simp) (by simp) (by rw [hz2]; omega) (by unfold maxLen; omega) (Nat.le_refl _) ?_; intro w1 own1 grow1; have hB1 : Below A.heap.size A w1 := (Below.refl _ _).grown grow1 (Nat.le_refl _) (fun k e => by cases e); rw [made_ints] at own1))
  obtain ⟨g, hg⟩ : ∃ g, g = A.heap.size := ⟨_, rfl⟩
  have HG : Hid (g = A.heap.size) := hg
  rw [← hg] at own1 ⊢
  have own1' : Hid (w1.ownsRow A.heap.size 3 1 (.slice (some ⟨g, 0, none⟩) n n) n (rowLI (placesL 0 ++ List.replicate (n - 0) 0))) := by have e : placesL 0 ++ List.replicate (n - 0) (0 : Int) = List.replicate n 0 := rfl; rw [e, ← hg]; exact own1
  clear own1 hg
  go_loopw [10] (fun u wr => ∃ k : Nat, k ≤ n ∧ u = .int .i64 k ∧ Hid (wr.ownsRow A.heap.size 3 1 (.slice (some ⟨g, 0, none⟩) n n) n (rowLI (placesL k ++ List.replicate (n - k) 0))) ∧ Below A.heap.size A wr) (fun u _ => n - (intOf u).toNat)
  case atStart => exact ⟨0, Nat.zero_le _, rfl, own1', hB1⟩
  case round =>
    clear own1'
    obtain ⟨k, hk, rfl, HO, hB⟩ := hrel
    by_cases hkn : k < n
    · have HK : Hid (k < n) := hkn
      have hlen : (placesL k ++ List.replicate (n - k) (0 : Int)).length = n := by simp [placesL]; omega
      have f0 := HO.out.frozenAt k
      obtain ⟨z, hz⟩ : ∃ z, wr.cell? ⟨g, k, none⟩ = some z := by
        rw [HO.out.cellAt k (by omega)]
        exact ⟨_, List.getElem?_eq_getElem (by rw [rowLI_len, hlen]; omega)⟩
      obtain ⟨V, hV, OV, BV⟩ := own_setI HO.out hlen hkn (k : Int) (by have := HG.out; omega)
      rw [set_places hkn] at OV
      have HOV : Hid (V.ownsRow A.heap.size 3 1 (.slice (some ⟨g, 0, none⟩) n n) n (rowLI (placesL (k + 1) ++ List.replicate (n - (k + 1)) 0))) := OV
      have HBV : Hid (Below A.heap.size A V) := hB.trans BV
      clear OV BV hB HO hlen
      go_wp2
      go_roundw
      case rel => first | exact ⟨k + 1, HK.out, by go_num, HOV, HBV.out⟩ | exact ⟨k + 1, HK.out, by go_num, hV ▸ HOV, hV ▸ HBV.out⟩
      case measure => have := HK.out; simp [intOf]; omega
    · obtain rfl : k = n := by omega
      have HO' : Hid (wr.ownsRow A.heap.size 3 1 (.slice (some ⟨g, 0, none⟩) k k) k (rowLI (placesL k))) := by have := HO.out; rw [Nat.sub_self, List.replicate_zero, List.append_nil] at this; exact this
      clear HO
      go_wp2_with (first
        | (go_at_call 26; refine (H1.out _ _ HO'.out hB).mono ?_; rintro e w2 ⟨v2, r2, rfl, h2, hB2⟩; have hA2 := hB.trans (hB2.mono hB.size); have h2' : Hid (w2.ownsRow A.heap.size 3 1 v2 k (rowLI r2) ∧ St (cD D) (placesL k) r2) := ⟨own_low15 h2.out.1 hB.size, h2.out.2⟩)
        | (go_at_call 28; refine (H2.out A.heap.size _ r2 _ h2' (Nat.le_refl _) hA2.size hA2).mono ?_; rintro e w3 ⟨v3, rfl, h3, hB3⟩; have hA3 := hA2.trans hB3)
        | (go_at_call 31; refine (H3.out A.heap.size _ r2 _ h3 hA3.size).mono ?_; rintro e w4 ⟨rfl, h4, hB4⟩; have hA4 := hA3.trans hB4)
        | (go_at_call 32; refine (H4.out A.heap.size _ _ h4 hA4).mono ?_; rintro e w5 ⟨a5, cap5, c5, rfl, h5, hB5⟩))
      go_ret
      exact ⟨a5, cap5, c5, rfl, ⟨h5.out.1.ps15, h5.out.2⟩, HB.out.trans ((hA4.trans (hB5.mono hA4.size)).mono HB.out.size)⟩
end Go.Proofs.Ytcdehohmgfocdaa
namespace Go.Proofs.Ytcdehohmgfocdaa
open Go.RowKit

/-- Is one of the first of the row the same? -/
def anyP (K : List Pt) (x : Pt) (j : Nat) : Bool := (K.take j).any fun y => sameP y x
theorem anyP_succ {K : List Pt} {x y : Pt} {j : Nat} (h : K[j]? = some y) : anyP K x (j + 1) = (anyP K x j || sameP y x) := by
  unfold anyP
  rw [List.take_add_one, h, List.any_append]
  simp
theorem anyP_all (D : Nat → Pt) (i : Nat) : anyP ((firstsL D i).map D) (D i) ((firstsL D i).map D).length = hadP D i := by
  rw [anyP, List.take_length, List.any_map, hadP_kept]
  rfl
set_option maxRecDepth 100000 in
set_option maxHeartbeats 8000000 in
theorem refUnique_any (a : Option Addr) (n cap : Nat) (D : Nat → Pt) (w : World) (hP : Ps w a n D) (hn : n ≤ 1759218604390) :
    Calls Try.prog 12 #[.slice a n cap] w fun e w' => ∃ v, e = .returned v ∧ Hid (w'.ownsRow w.heap.size 27 6 v (firstsL D n).length (rowLP ((firstsL D n).map D))) ∧ Below w.heap.size w w' := by
  have HP : Hid (Ps w a n D) := hP
  clear hP
  go_enter Try.func12, Try.ntmps12
  go_wp2
  go_loopw [3, 4] (fun u v wr => ∃ i : Nat, i ≤ n ∧ v = .int .i64 i ∧ Hid (wr.ownsRow w.heap.size 27 6 u (firstsL D i).length (rowLP ((firstsL D i).map D))) ∧ Below w.heap.size w wr) (fun _ v _ => n - (intOf v).toNat)
  case atStart => exact ⟨0, Nat.zero_le _, rfl, World.ownsRow_nil _ _ _ _, Below.refl _ _⟩
  case round =>
    obtain ⟨i, hi, rfl, HO, hB⟩ := hrel
    by_cases hin : i < n
    · obtain ⟨b, o, rfl, n1, i1⟩ := HP.out i hin
      have N1w : Hid (NodeP w b (o + i * 6) (D i)) := n1
      have IX : Hid (IsP w (D i)) := i1
      have HIN : Hid (i < n) := hin
      have hmn : (firstsL D i).length ≤ 1759218604389 := by have := firstsL_le D i; omega
      obtain ⟨K, hK⟩ : ∃ K, K = (firstsL D i).map D := ⟨_, rfl⟩
      obtain ⟨m, hm⟩ : ∃ m, m = (firstsL D i).length := ⟨_, rfl⟩
      have HK : Hid (K = (firstsL D i).map D ∧ m = (firstsL D i).length ∧ K.length = m) := ⟨hK, hm, by rw [hK, hm, List.length_map]⟩
      have IK : Hid (∀ y ∈ K, IsP w y) := fun y hy => by
        rw [hK] at hy
        obtain ⟨k, hk, rfl⟩ := List.mem_map.1 hy
        obtain ⟨_, _, _, _, h2⟩ := HP.out k (by have := (firstsL_mem.1 hk).1; omega)
        exact h2
      rw [← hK, ← hm] at HO
      rw [← hm] at hmn
      clear hK hm n1 i1
      obtain ⟨ao, capo, rfl⟩ : ∃ ao capo, u3 = .slice ao m capo := by
        rcases HO.out.2 with ⟨e, e0⟩ | ⟨g, c, _, e, _⟩
        · exact ⟨none, 0, by rw [e, e0]⟩
        · exact ⟨_, c, e⟩
      go_wp2
      go_loopw [5, 6] (fun u v wr => ∃ j : Nat, j ≤ m ∧ u = .bool (anyP K (D i) j) ∧ v = .int .i64 j ∧ Hid (wr.ownsRow w.heap.size 27 6 (.slice ao m capo) m (rowLP K)) ∧ Below w.heap.size w wr) (fun _ v _ => m - (intOf v).toNat)
      case atStart => exact ⟨0, Nat.zero_le _, rfl, rfl, HO, hB⟩
      case round =>
        clear HO hB
        obtain ⟨j, hj, rfl, rfl, HO, hB⟩ := hrel
        by_cases hjm : j < m
        · obtain ⟨y, hy⟩ : ∃ y, K[j]? = some y := ⟨_, List.getElem?_eq_getElem (by have := HK.out.2.2; omega)⟩
          obtain ⟨g, c9, e9, _, _, _, _, hr⟩ := ownLP HO.out HK.out.2.2 (by omega)
          cases e9
          have N1 : Hid (NodeP wr b (o + i * 6) (D i)) := N1w.out.later hB
          have N2 : Hid (NodeP wr g (j * 6) y) := by have := hr j y hy; rwa [Nat.zero_add] at this
          have HJ : Hid (j < m) := hjm
          obtain ⟨p, hp⟩ : ∃ p, p = anyP K (D i) j := ⟨_, rfl⟩
          obtain ⟨q, hq⟩ : ∃ q, q = sameP y (D i) := ⟨_, rfl⟩
          have HE : Hid (anyP K (D i) (j + 1) = (p || q)) := by show _ = _; rw [anyP_succ hy, hp, hq]
          rw [← hp]
          have CS : Hid (∀ d, Below wr.heap.size wr d → Calls Try.prog 15 #[y.val, (D i).val] d fun e w' => e = .returned (.bool q) ∧ Below d.heap.size d w') := fun d hd => by
            rw [hq]
            exact refSameP_any _ _ d ((IK.out y (List.mem_of_getElem? hy)).later (hB.trans (hd.mono hB.size))) (IX.out.later (hB.trans (hd.mono hB.size)))
          clear hr hp hq hy
          cases p
          · go_wp2_with fail
            refine wp_region_noPanic ?_
            refine wp_region_held_drew (S := fun w' => Below wr.heap.size wr w') (by kernel_rfl) ((Below.refl _ _).drew) (fun hHeld => ?_)
            have hT : Below wr.heap.size wr wr.drew := hHeld
            obtain ⟨d, hd⟩ : ∃ d, d = wr.drew := ⟨_, rfl⟩
            rw [← hd] at hHeld hT ⊢
            clear hd
            refine wpAnyH_take (i := 0) (oi := ⟨some 19, .move (.tmp 5), 4, _, _, _⟩) (v := ?v0a) rfl (by kernel_rfl) (by kernel_rfl) (by kernel_rfl) (fun _ _ _ h => h) (Or.inl ⟨by rfl, ?hy0a⟩) hHeld ?rest0a
            case hy0a => intro w9 hSw; go_simp; (try with_reducible rfl)
            try simp only [Act.put, s_put, s_0, s_1]
            refine wpAnyH_take (i := 1) (oi := ⟨some 20, .move (.tmp 19), 4, _, _, _⟩) (v := ?v1a) rfl (by kernel_rfl) (by kernel_rfl) (by kernel_rfl) (fun _ _ _ h => h) (Or.inl ⟨by rfl, ?hy1a⟩) hHeld ?rest1a
            case hy1a => intro w9 hSw; go_simp; (try with_reducible rfl)
            try simp only [Act.put, s_put, s_0, s_1]
            refine wpAnyH_take (i := 2) (oi := ⟨some 21, .move (.tmp 3), 22, _, _, _⟩) (v := ?v2a) rfl (by kernel_rfl) (by kernel_rfl) (by kernel_rfl) (fun _ _ _ h => h) (Or.inl ⟨by rfl, ?hy2a⟩) hHeld ?rest2a
            case hy2a => intro w9 hSw; go_simp; (try with_reducible rfl)
            try simp only [Act.put, s_put, s_0, s_1]
            refine wpAnyH_take (i := 3) (oi := ⟨some 22, .move (.tmp 6), 3, _, _, _⟩) (v := ?v3a) rfl (by kernel_rfl) (by kernel_rfl) (by kernel_rfl) (fun _ _ _ h => h) (Or.inl ⟨by rfl, ?hy3a⟩) hHeld ?rest3a
            case hy3a => intro w9 hSw; go_simp; (try with_reducible rfl)
            try simp only [Act.put, s_put, s_0, s_1]
            refine wpAnyH_take (i := 4) (oi := ⟨some 23, .indexAddr 22 (.tmp 21) (.tmp 22), 0, _, _, _⟩) (v := ?v4a) rfl (by kernel_rfl) (by kernel_rfl) (by kernel_rfl) (fun _ _ _ h => h) (Or.inl ⟨by rfl, ?hy4a⟩) hHeld ?rest4a
            case hy4a => intro w9 hSw; go_simp; (try with_reducible rfl)
            try simp only [Act.put, s_put, s_0, s_1]
            refine wpAnyH_take (i := 5) (oi := ⟨some 24, .load 27 (.tmp 23), 27, _, _, _⟩) (v := ?v5a) rfl (by kernel_rfl) (by kernel_rfl) (by kernel_rfl) (fun _ _ _ h => h) (Or.inl ⟨by rfl, ?hy5a⟩) hHeld ?rest5a
            case hy5a => intro w9 hSw; obtain ⟨d0, d1, d2, d3, d4, d5⟩ := N2.out.later hSw; go_simp; (try with_reducible rfl)
            try simp only [Act.put, s_put, s_0, s_1]
            refine wpAnyH_take (i := 6) (oi := ⟨some 25, .move (.tmp 0), 22, _, _, _⟩) (v := ?v6a) rfl (by kernel_rfl) (by kernel_rfl) (by kernel_rfl) (fun _ _ _ h => h) (Or.inl ⟨by rfl, ?hy6a⟩) hHeld ?rest6a
            case hy6a => intro w9 hSw; go_simp; (try with_reducible rfl)
            try simp only [Act.put, s_put, s_0, s_1]
            refine wpAnyH_take (i := 7) (oi := ⟨some 26, .move (.tmp 4), 3, _, _, _⟩) (v := ?v7a) rfl (by kernel_rfl) (by kernel_rfl) (by kernel_rfl) (fun _ _ _ h => h) (Or.inl ⟨by rfl, ?hy7a⟩) hHeld ?rest7a
            case hy7a => intro w9 hSw; go_simp; (try with_reducible rfl)
            try simp only [Act.put, s_put, s_0, s_1]
            refine wpAnyH_take (i := 8) (oi := ⟨some 27, .indexAddr 22 (.tmp 25) (.tmp 26), 0, _, _, _⟩) (v := ?v8a) rfl (by kernel_rfl) (by kernel_rfl) (by kernel_rfl) (fun _ _ _ h => h) (Or.inl ⟨by rfl, ?hy8a⟩) hHeld ?rest8a
            case hy8a => intro w9 hSw; go_simp; (try with_reducible rfl)
            try simp only [Act.put, s_put, s_0, s_1]
            refine wpAnyH_take (i := 9) (oi := ⟨some 28, .load 27 (.tmp 27), 27, _, _, _⟩) (v := ?v9a) rfl (by kernel_rfl) (by kernel_rfl) (by kernel_rfl) (fun _ _ _ h => h) (Or.inl ⟨by rfl, ?hy9a⟩) hHeld ?rest9a
            case hy9a => intro w9 hSw; obtain ⟨d0, d1, d2, d3, d4, d5⟩ := N1.out.later hSw; go_simp; (try with_reducible rfl)
            try simp only [Act.put, s_put, s_0, s_1]
            refine wpAnyH_ready (rs := [10]) (by kernel_rfl) (by simp) ?_
            refine AllReadyH.cons (o := ⟨some 29, .call { callee := .value (.func 15), args := #[.tmp 24, .tmp 28], argTypes := #[27, 27] }, 4, _, _, _⟩) rfl (fun K hK => ?_) AllReadyH.nil
            go_simp
            refine (CS.out _ hT).mono ?_
            rintro e x10 ⟨rfl, hN10⟩
            go_wp2_with fail
            have hT10 : Below wr.heap.size wr x10 := hT.trans (hN10.mono hT.size)
            refine hK.out _ _ (hHeld.trans (hN10.mono hHeld.size)) (fun _ => held_up (S' := fun w' => Below x10.heap.size x10 w') (fun w' h' => (hHeld.trans (hN10.mono hHeld.size)).trans (h'.mono (Nat.le_trans hHeld.size hN10.size))) _ _ _ _ ?_)
            clear hK K hHeld hT
            have hT : Below wr.heap.size wr x10 := hT10
            have hHeld : Below x10.heap.size x10 x10 := Below.refl _ _
            clear hT10 hN10
            try simp only [Act.put, s_put, s_0, s_1]
            refine wpAnyH_take (i := 11) (oi := ⟨some 30, .pick (.tmp 20) (.const (Value.bool true)) (.tmp 29), 4, _, _, _⟩) (v := ?v11a) rfl (by kernel_rfl) (by kernel_rfl) (by kernel_rfl) (fun _ _ _ h => h) (Or.inl ⟨by rfl, ?hy11a⟩) hHeld ?rest11a
            case hy11a => intro w9 hSw; go_simp; (try with_reducible rfl)
            try simp only [Act.put, s_put, s_0, s_1]
            refine wpAnyH_take (i := 12) (oi := ⟨some 5, .assign (.tmp 30), 4, _, _, _⟩) (v := ?v12a) rfl (by kernel_rfl) (by kernel_rfl) (by kernel_rfl) (fun _ _ _ h => h) (Or.inl ⟨by rfl, ?hy12a⟩) hHeld ?rest12a
            case hy12a => intro w9 hSw; go_simp; (try with_reducible rfl)
            try simp only [Act.put, s_put, s_0, s_1]
            refine wpAnyH_done (by kernel_rfl) ?_ _
            refine NoPanic.normal ?_
            go_wp2
            go_roundw
            case rel => exact ⟨j + 1, HJ.out, by rw [HE.out]; rfl, by go_num, own_laterS HO.out hT, hB.trans (hT.mono hB.size)⟩
            case measure => have := HJ.out; simp [intOf]; omega
          · go_wp2_with fail
            refine wp_region_noPanic ?_
            refine wp_region_held_drew (S := fun w' => Below wr.heap.size wr w') (by kernel_rfl) ((Below.refl _ _).drew) (fun hHeld => ?_)
            have hT : Below wr.heap.size wr wr.drew := hHeld
            obtain ⟨d, hd⟩ : ∃ d, d = wr.drew := ⟨_, rfl⟩
            rw [← hd] at hHeld hT ⊢
            clear hd
            refine wpAnyH_take (i := 0) (oi := ⟨some 19, .move (.tmp 5), 4, _, _, _⟩) (v := ?v0b) rfl (by kernel_rfl) (by kernel_rfl) (by kernel_rfl) (fun _ _ _ h => h) (Or.inl ⟨by rfl, ?hy0b⟩) hHeld ?rest0b
            case hy0b => intro w9 hSw; go_simp; (try with_reducible rfl)
            try simp only [Act.put, s_put, s_0, s_1]
            refine wpAnyH_take (i := 1) (oi := ⟨some 20, .move (.tmp 19), 4, _, _, _⟩) (v := ?v1b) rfl (by kernel_rfl) (by kernel_rfl) (by kernel_rfl) (fun _ _ _ h => h) (Or.inl ⟨by rfl, ?hy1b⟩) hHeld ?rest1b
            case hy1b => intro w9 hSw; go_simp; (try with_reducible rfl)
            try simp only [Act.put, s_put, s_0, s_1]
            refine wpAnyH_take (i := 2) (oi := ⟨some 21, .move (.tmp 3), 22, _, _, _⟩) (v := undef) rfl (by kernel_rfl) (by kernel_rfl) (by kernel_rfl) (fun _ _ _ h => h) (Or.inr ⟨by rfl, rfl⟩) hHeld ?rest2b
            try simp only [Act.put, s_put, s_0, s_1]
            refine wpAnyH_take (i := 3) (oi := ⟨some 22, .move (.tmp 6), 3, _, _, _⟩) (v := undef) rfl (by kernel_rfl) (by kernel_rfl) (by kernel_rfl) (fun _ _ _ h => h) (Or.inr ⟨by rfl, rfl⟩) hHeld ?rest3b
            try simp only [Act.put, s_put, s_0, s_1]
            refine wpAnyH_take (i := 4) (oi := ⟨some 23, .indexAddr 22 (.tmp 21) (.tmp 22), 0, _, _, _⟩) (v := undef) rfl (by kernel_rfl) (by kernel_rfl) (by kernel_rfl) (fun _ _ _ h => h) (Or.inr ⟨by rfl, rfl⟩) hHeld ?rest4b
            try simp only [Act.put, s_put, s_0, s_1]
            refine wpAnyH_take (i := 5) (oi := ⟨some 24, .load 27 (.tmp 23), 27, _, _, _⟩) (v := undef) rfl (by kernel_rfl) (by kernel_rfl) (by kernel_rfl) (fun _ _ _ h => h) (Or.inr ⟨by rfl, rfl⟩) hHeld ?rest5b
            try simp only [Act.put, s_put, s_0, s_1]
            refine wpAnyH_take (i := 6) (oi := ⟨some 25, .move (.tmp 0), 22, _, _, _⟩) (v := undef) rfl (by kernel_rfl) (by kernel_rfl) (by kernel_rfl) (fun _ _ _ h => h) (Or.inr ⟨by rfl, rfl⟩) hHeld ?rest6b
            try simp only [Act.put, s_put, s_0, s_1]
            refine wpAnyH_take (i := 7) (oi := ⟨some 26, .move (.tmp 4), 3, _, _, _⟩) (v := undef) rfl (by kernel_rfl) (by kernel_rfl) (by kernel_rfl) (fun _ _ _ h => h) (Or.inr ⟨by rfl, rfl⟩) hHeld ?rest7b
            try simp only [Act.put, s_put, s_0, s_1]
            refine wpAnyH_take (i := 8) (oi := ⟨some 27, .indexAddr 22 (.tmp 25) (.tmp 26), 0, _, _, _⟩) (v := undef) rfl (by kernel_rfl) (by kernel_rfl) (by kernel_rfl) (fun _ _ _ h => h) (Or.inr ⟨by rfl, rfl⟩) hHeld ?rest8b
            try simp only [Act.put, s_put, s_0, s_1]
            refine wpAnyH_take (i := 9) (oi := ⟨some 28, .load 27 (.tmp 27), 27, _, _, _⟩) (v := undef) rfl (by kernel_rfl) (by kernel_rfl) (by kernel_rfl) (fun _ _ _ h => h) (Or.inr ⟨by rfl, rfl⟩) hHeld ?rest9b
            try simp only [Act.put, s_put, s_0, s_1]
            refine wpAnyH_take (i := 10) (oi := ⟨some 29, .call { callee := .value (.func 15), args := #[.tmp 24, .tmp 28], argTypes := #[27, 27] }, 4, _, _, _⟩) (v := undef) rfl (by kernel_rfl) (by kernel_rfl) (by kernel_rfl) (fun _ _ _ h => h) (Or.inr ⟨by rfl, rfl⟩) hHeld ?rest10b
            try simp only [Act.put, s_put, s_0, s_1]
            refine wpAnyH_take (i := 11) (oi := ⟨some 30, .pick (.tmp 20) (.const (Value.bool true)) (.tmp 29), 4, _, _, _⟩) (v := ?v11b) rfl (by kernel_rfl) (by kernel_rfl) (by kernel_rfl) (fun _ _ _ h => h) (Or.inl ⟨by rfl, ?hy11b⟩) hHeld ?rest11b
            case hy11b => intro w9 hSw; go_simp; (try with_reducible rfl)
            try simp only [Act.put, s_put, s_0, s_1]
            refine wpAnyH_take (i := 12) (oi := ⟨some 5, .assign (.tmp 30), 4, _, _, _⟩) (v := ?v12b) rfl (by kernel_rfl) (by kernel_rfl) (by kernel_rfl) (fun _ _ _ h => h) (Or.inl ⟨by rfl, ?hy12b⟩) hHeld ?rest12b
            case hy12b => intro w9 hSw; go_simp; (try with_reducible rfl)
            try simp only [Act.put, s_put, s_0, s_1]
            refine wpAnyH_done (by kernel_rfl) ?_ _
            refine NoPanic.normal ?_
            go_wp2
            go_roundw
            case rel => exact ⟨j + 1, HJ.out, by rw [HE.out]; rfl, by go_num, own_laterS HO.out hT, hB.trans (hT.mono hB.size)⟩
            case measure => have := HJ.out; simp [intOf]; omega
        · obtain rfl : j = m := by omega
          obtain ⟨p, hp⟩ : ∃ p, p = anyP K (D i) j := ⟨_, rfl⟩
          have HH : Hid (p = hadP D i) := by show p = _; rw [hp, ← anyP_all, ← HK.out.1, HK.out.2.2]
          have HFS : Hid (firstsL D (i + 1) = firstsL D i ++ (if hadP D i = true then [] else [i])) := firstsL_succ D i
          rw [← hp]
          clear hp
          cases p
          · obtain ⟨v8, w8, run8, own8, b8⟩ := push1P HO.out hB.size (by omega) (D i)
            have R8 : Hid (_ = _) := run8
            have HO8 : Hid (w8.ownsRow w.heap.size 27 6 v8 (firstsL D (i + 1)).length (rowLP ((firstsL D (i + 1)).map D))) := by
              show World.ownsRow _ _ _ _ _ _ _
              rw [HFS.out, if_neg (by rw [← HH.out]; exact Bool.false_ne_true), List.map_append, rowLP_app, ← HK.out.1, List.length_append, ← HK.out.2.1]
              exact own8
            have HB8 : Hid (Below w.heap.size w w8) := hB.trans b8
            obtain ⟨d0, d1, d2, d3, d4, d5⟩ := N1w.out.later hB
            clear run8 own8 b8 HO
            go_wp2_with (first | (at_builtin; refine wpList_append_run rfl (.tmp 33) (.tmp 38) 22 rfl _ _ _ rfl rfl R8.out ?_))
            go_roundw
            case rel => exact ⟨i + 1, HIN.out, by go_num, HO8, HB8.out⟩
            case measure => have := HIN.out; simp [intOf]; omega
          · have HO8 : Hid (wr.ownsRow w.heap.size 27 6 (.slice ao j capo) (firstsL D (i + 1)).length (rowLP ((firstsL D (i + 1)).map D))) := by
              show World.ownsRow _ _ _ _ _ _ _
              rw [HFS.out, if_pos HH.out.symm, List.append_nil, ← HK.out.1, ← HK.out.2.1]
              exact HO.out
            clear HO
            go_wp2
            go_roundw
            case rel => exact ⟨i + 1, HIN.out, by go_num, HO8, hB⟩
            case measure => have := HIN.out; simp [intOf]; omega
    · obtain rfl : i = n := by omega
      go_wp2
      go_ret
      exact ⟨_, rfl, HO, hB⟩
end Go.Proofs.Ytcdehohmgfocdaa
