/-
  slices.CompactFunc, of numbers.
  Those that are not the same as one ahead: by places, sorted by all and compacted; plain facts, of no function.
-/
import Derived.Test.YtcdehohmgfocdaaSBrief
import Derived.Test.YtcdehohmgfocdaaSOrdMergeI
import Derived.Test.YtcdehohmgfocdaaSOrdMath
namespace Go.Proofs.Ytcdehohmgfocdaa
open Go.RowKit

theorem own_setI {w : World} {B g n cap K : Nat} {M : List Int} (h : w.ownsRow B 3 1 (.slice (some ⟨g, 0, none⟩) n cap) n (rowLI M)) (_ : M.length = n) (_ : K < n) (x : Int) (hb : B ≤ g) :
    ∃ V, w.setCell ⟨g, K, none⟩ (.int .i64 x) = V ∧ V.ownsRow B 3 1 (.slice (some ⟨g, 0, none⟩) n cap) n (rowLI (M.set K x)) ∧ Below B w V := by
  refine ⟨_, rfl, ?_, (Below.refl B w).setCell (p := ⟨g, K, none⟩) hb _⟩
  have := (h.stored K (.int .i64 x)).1
  rwa [rowLI_map, ← List.map_set, ← rowLI_map] at this
theorem zeroCpI : ∀ w, (zeroValue 3).run Try.prog w = .ok (.int .i64 0) w := fun _ => by kernel_rfl
theorem rwOfI {w : World} {B g n cap : Nat} {M : List Int} (h : w.ownsRow B 3 1 (.slice (some ⟨g, 0, none⟩) n cap) n (rowLI M)) (_ : M.length = n) (h0 : 0 < n) : RwI w g 0 M ∧ n ≤ cap ∧ cap ≤ maxLen ∧ B ≤ g := by
  obtain ⟨g', cap', e, h1, h2, h3, _, h5⟩ := ownLI h h0
  cases e
  exact ⟨h5, h1, h2, h3⟩
theorem rowLI_len (M : List Int) : (rowLI M).length = M.length * 1 := by
  induction M with
  | nil => rfl
  | cons x M ih => simp only [rowLI, List.flatMap_cons, List.length_append, List.length_cons] at ih ⊢; rw [ih]; simp; omega
theorem rowLI_take (M : List Int) (K : Nat) : (rowLI M).take (K * 1) = rowLI (M.take K) := by
  by_cases h : K ≤ M.length
  · have e : rowLI M = rowLI (M.take K) ++ rowLI (M.drop K) := by rw [← rowLI_app, List.take_append_drop]
    have hl : (rowLI (M.take K)).length = K * 1 := by rw [rowLI_len, List.length_take, Nat.min_eq_left h]
    rw [e, List.take_append_of_le_length (by omega), List.take_of_length_le (by omega)]
  · rw [List.take_of_length_le (by rw [rowLI_len]; omega), List.take_of_length_le (by omega)]
set_option maxRecDepth 100000 in
set_option maxHeartbeats 2000000 in
theorem compactI_less (_ : Int → Int → Bool) (Bl : Nat) (a : Option Addr) (n cap : Nat) (w : World) (h2 : n < 2) :
    Calls Try.prog 28 #[.slice a n cap, .func (.func 29) #[] #[.pointer (some ⟨Bl, 0, none⟩)]] w fun e w' => e = .returned (.slice a n cap) ∧ w' = w := by
  have h2' : ((n : Nat) : Int) < 2 := by omega
  clear h2
  go_enter Try.func28, Try.ntmps28
  go_wp2
  go_ret
  exact ⟨rfl, rfl⟩
set_option maxRecDepth 100000 in
set_option maxHeartbeats 8000000 in
theorem compactI_more (eq : Int → Int → Bool) (Bl : Nat) (B g n cap : Nat) (L : List Int) (w : World) (hl : L.length = n) (hO : w.ownsRow B 3 1 (.slice (some ⟨g, 0, none⟩) n cap) n (rowLI L)) (h2 : ¬ n < 2) (hn : n ≤ 1759218604390)
    (hC : ∀ x ∈ L, ∀ y ∈ L, ∀ d, Below B w d → Calls Try.prog 29 #[.int .i64 x, .int .i64 y, .pointer (some ⟨Bl, 0, none⟩)] d fun e w' => e = .returned (.bool (eq x y)) ∧ Below d.heap.size d w') :
    Calls Try.prog 28 #[.slice (some ⟨g, 0, none⟩) n cap, .func (.func 29) #[] #[.pointer (some ⟨Bl, 0, none⟩)]] w fun e w' => ∃ m, e = .returned (.slice (some ⟨g, 0, none⟩) m cap) ∧ Hid (m = (compactL eq L).length ∧ w'.ownsRow B 3 1 (.slice (some ⟨g, 0, none⟩) m cap) m (rowLI (compactL eq L))) ∧ Below B w w' := by
  have HL : Hid (L.length = n) := hl
  have HC : Hid (∀ x ∈ L, ∀ y ∈ L, ∀ d, Below B w d → Calls Try.prog 29 #[.int .i64 x, .int .i64 y, .pointer (some ⟨Bl, 0, none⟩)] d fun e w' => e = .returned (.bool (eq x y)) ∧ Below d.heap.size d w') := hC
  have HO : Hid (w.ownsRow B 3 1 (.slice (some ⟨g, 0, none⟩) n cap) n (rowLI L)) := hO
  obtain ⟨-, hcap, hcm, hBg⟩ := rwOfI hO hl (by omega)
  have hBw : Hid (B ≤ w.heap.size) := by show B ≤ _; have := hO.lt g rfl; omega
  have hcm' : cap ≤ 9223372036854775807 := by unfold maxLen at hcm; omega
  have h2' : ¬ ((n : Nat) : Int) < 2 := by omega
  clear hl hC hO hcm
  go_enter Try.func28, Try.ntmps28
  go_wp2
  go_loopw [5] (fun u wr => ∃ j : Nat, j + 1 ≤ n ∧ u = .int .i64 ((j + 1 : Nat) : Int) ∧ Hid (compactL eq (L.take (j + 1)) = L.take (j + 1)) ∧ Hid (wr.ownsRow B 3 1 (.slice (some ⟨g, 0, none⟩) n cap) n (rowLI L)) ∧ Below B w wr) (fun u _ => n - (intOf u).toNat)
  case atStart => exact ⟨0, by omega, rfl, compact_one eq L, HO, Below.refl _ _⟩
  case round =>
    clear HO
    obtain ⟨j, hj, rfl, HJ, HO, hB⟩ := hrel
    by_cases hjn : j + 1 < n
    · have hLL := HL.out
      obtain ⟨x, hx⟩ : ∃ x, L[j + 1]? = some x := ⟨_, List.getElem?_eq_getElem (by omega)⟩
      obtain ⟨y, hy⟩ : ∃ y, L[j]? = some y := ⟨_, List.getElem?_eq_getElem (by omega)⟩
      obtain ⟨hr, -⟩ := rwOfI HO.out HL.out (by omega)
      have N1 : Hid (NodeI wr g (j + 1) x) := by have := hr (j + 1) x hx; rwa [Nat.mul_one, Nat.zero_add] at this
      have N2 : Hid (NodeI wr g (j) y) := by have := hr j y hy; rwa [Nat.mul_one, Nat.zero_add] at this
      have HX : Hid (L[j + 1]? = some x ∧ L[j]? = some y) := ⟨hx, hy⟩
      have HJN : Hid (j + 1 < n) := hjn
      obtain ⟨q, hq⟩ : ∃ q, q = eq x y := ⟨_, rfl⟩
      have HQ : Hid (q = eq x y) := hq
      have CE : Hid (∀ d, Below wr.heap.size wr d → Calls Try.prog 29 #[.int .i64 x, .int .i64 y, .pointer (some ⟨Bl, 0, none⟩)] d fun e w' => e = .returned (.bool q) ∧ Below d.heap.size d w') := fun d hd => by
        rw [hq]
        exact HC.out x (List.mem_of_getElem? hx) y (List.mem_of_getElem? hy) d (hB.trans (hd.mono (Nat.le_trans hBw.out hB.size)))
      have hj0 : (0 : Int) ≤ (j : Int) + 1 := by omega
      have hji : j < n := by omega
      have hjI : (j : Int) + 1 < (n : Int) := by omega
      clear hr hq hx hy hLL
      cases q
      · · go_wp2_with fail
          refine wp_region_noPanic ?_
          refine wp_region_held_drew (S := fun w' => Below wr.heap.size wr w') (by kernel_rfl) ((Below.refl _ _).drew) (fun hHeld => ?_)
          have hT : Below wr.heap.size wr wr.drew := hHeld
          obtain ⟨d, hd⟩ : ∃ d, d = wr.drew := ⟨_, rfl⟩
          rw [← hd] at hHeld hT ⊢
          clear hd
          refine wpAnyH_take (i := 0) (oi := ⟨some 18, .move (.tmp 1), 54, _, _, _⟩) (v := ?v0a) rfl (by kernel_rfl) (by kernel_rfl) (by kernel_rfl) (fun _ _ _ h => h) (Or.inl ⟨by rfl, ?hy0a⟩) hHeld ?rest0a
          case hy0a => intro w9 hSw; go_simp; (try with_reducible rfl)
          try simp only [Act.put, s_put, s_0, s_1]
          refine wpAnyH_take (i := 1) (oi := ⟨some 19, .move (.tmp 0), 50, _, _, _⟩) (v := ?v1a) rfl (by kernel_rfl) (by kernel_rfl) (by kernel_rfl) (fun _ _ _ h => h) (Or.inl ⟨by rfl, ?hy1a⟩) hHeld ?rest1a
          case hy1a => intro w9 hSw; go_simp; (try with_reducible rfl)
          try simp only [Act.put, s_put, s_0, s_1]
          refine wpAnyH_take (i := 2) (oi := ⟨some 20, .move (.tmp 5), 3, _, _, _⟩) (v := ?v2a) rfl (by kernel_rfl) (by kernel_rfl) (by kernel_rfl) (fun _ _ _ h => h) (Or.inl ⟨by rfl, ?hy2a⟩) hHeld ?rest2a
          case hy2a => intro w9 hSw; go_simp; (try with_reducible rfl)
          try simp only [Act.put, s_put, s_0, s_1]
          refine wpAnyH_take (i := 3) (oi := ⟨some 21, .indexAddr 50 (.tmp 19) (.tmp 20), 0, _, _, _⟩) (v := ?v3a) rfl (by kernel_rfl) (by kernel_rfl) (by kernel_rfl) (fun _ _ _ h => h) (Or.inl ⟨by rfl, ?hy3a⟩) hHeld ?rest3a
          case hy3a => intro w9 hSw; go_simp; (try with_reducible rfl)
          try simp only [Act.put, s_put, s_0, s_1]
          refine wpAnyH_take (i := 4) (oi := ⟨some 22, .load 3 (.tmp 21), 3, _, _, _⟩) (v := ?v4a) rfl (by kernel_rfl) (by kernel_rfl) (by kernel_rfl) (fun _ _ _ h => h) (Or.inl ⟨by rfl, ?hy4a⟩) hHeld ?rest4a
          case hy4a => intro w9 hSw; have d0 := NodeI.at (N1.out.later hSw); go_simp; (try with_reducible rfl)
          try simp only [Act.put, s_put, s_0, s_1]
          refine wpAnyH_take (i := 5) (oi := ⟨some 23, .move (.tmp 0), 50, _, _, _⟩) (v := ?v5a) rfl (by kernel_rfl) (by kernel_rfl) (by kernel_rfl) (fun _ _ _ h => h) (Or.inl ⟨by rfl, ?hy5a⟩) hHeld ?rest5a
          case hy5a => intro w9 hSw; go_simp; (try with_reducible rfl)
          try simp only [Act.put, s_put, s_0, s_1]
          refine wpAnyH_take (i := 6) (oi := ⟨some 24, .move (.tmp 5), 3, _, _, _⟩) (v := ?v6a) rfl (by kernel_rfl) (by kernel_rfl) (by kernel_rfl) (fun _ _ _ h => h) (Or.inl ⟨by rfl, ?hy6a⟩) hHeld ?rest6a
          case hy6a => intro w9 hSw; go_simp; (try with_reducible rfl)
          try simp only [Act.put, s_put, s_0, s_1]
          refine wpAnyH_take (i := 7) (oi := ⟨some 25, .binOp BinOp.sub 3 (.tmp 24) (.const (Value.int IntKind.i64 1)) 3, 3, _, _, _⟩) (v := .int .i64 (j : Int)) rfl (by kernel_rfl) (by kernel_rfl) (by kernel_rfl) (fun _ _ _ h => h) (Or.inl ⟨by rfl, ?hy7a⟩) hHeld ?rest7a
          case hy7a => intro w9 hSw; go_simp; try (rw [IntKind.wrap_i64]; omega)
          try simp only [Act.put, s_put, s_0, s_1]
          refine wpAnyH_take (i := 8) (oi := ⟨some 26, .indexAddr 50 (.tmp 23) (.tmp 25), 0, _, _, _⟩) (v := ?v8a) rfl (by kernel_rfl) (by kernel_rfl) (by kernel_rfl) (fun _ _ _ h => h) (Or.inl ⟨by rfl, ?hy8a⟩) hHeld ?rest8a
          case hy8a => intro w9 hSw; go_simp; (try with_reducible rfl)
          try simp only [Act.put, s_put, s_0, s_1]
          refine wpAnyH_take (i := 9) (oi := ⟨some 27, .load 3 (.tmp 26), 3, _, _, _⟩) (v := ?v9a) rfl (by kernel_rfl) (by kernel_rfl) (by kernel_rfl) (fun _ _ _ h => h) (Or.inl ⟨by rfl, ?hy9a⟩) hHeld ?rest9a
          case hy9a => intro w9 hSw; have d0 := NodeI.at (N2.out.later hSw); go_simp; (try with_reducible rfl)
          try simp only [Act.put, s_put, s_0, s_1]
          refine wpAnyH_ready (rs := [10]) (by kernel_rfl) (by simp) ?_
          refine AllReadyH.cons (o := ⟨some 28, .call { callee := .value (.tmp 18), args := #[.tmp 22, .tmp 27], argTypes := #[3, 3] }, 4, _, _, _⟩) rfl (fun K hK => ?_) AllReadyH.nil
          go_simp
          refine (CE.out _ hT).mono ?_
          rintro e x10 ⟨rfl, hN10⟩
          go_wp2_with fail
          have hT10 : Below wr.heap.size wr x10 := hT.trans (hN10.mono hT.size)
          refine hK.out _ _ (hHeld.trans (hN10.mono hHeld.size)) (fun _ => held_up (S' := fun w' => Below x10.heap.size x10 w') (fun w' h' => (hHeld.trans (hN10.mono hHeld.size)).trans (h'.mono (Nat.le_trans hHeld.size hN10.size))) _ _ _ _ ?_)
          clear hK K hHeld hT
          have hT : Below wr.heap.size wr x10 := hT10
          have hHeld : Below x10.heap.size x10 x10 := Below.refl _ _
          clear hT10 hN10
          try simp only [Act.put, s_put, s_0, s_1]
          refine wpAnyH_done (by kernel_rfl) ?_ _
          refine NoPanic.normal ?_
          go_wp2
          go_roundw
          case rel =>
            refine ⟨j + 1, HJN.out, by go_num, ?_, own_laterS HO.out hT, hB.trans (hT.mono (Nat.le_trans hBw.out hB.size))⟩
            show compactL eq (L.take (j + 2)) = L.take (j + 2)
            rw [compact_step eq HX.out.1 HX.out.2, if_neg (by rw [← HQ.out]; exact Bool.false_ne_true), HJ.out, show j + 2 = j + 1 + 1 from rfl, List.take_add_one (i := j + 1), HX.out.1]
            rfl
          case measure => have := HJN.out; simp [intOf]; omega
      · · have hcj : ¬ cap = j + 1 := by omega
          go_wp2_with fail
          refine wp_region_noPanic ?_
          refine wp_region_held_drew (S := fun w' => Below wr.heap.size wr w') (by kernel_rfl) ((Below.refl _ _).drew) (fun hHeld => ?_)
          have hT : Below wr.heap.size wr wr.drew := hHeld
          obtain ⟨d, hd⟩ : ∃ d, d = wr.drew := ⟨_, rfl⟩
          rw [← hd] at hHeld hT ⊢
          clear hd
          refine wpAnyH_take (i := 0) (oi := ⟨some 18, .move (.tmp 1), 54, _, _, _⟩) (v := ?v0b) rfl (by kernel_rfl) (by kernel_rfl) (by kernel_rfl) (fun _ _ _ h => h) (Or.inl ⟨by rfl, ?hy0b⟩) hHeld ?rest0b
          case hy0b => intro w9 hSw; go_simp; (try with_reducible rfl)
          try simp only [Act.put, s_put, s_0, s_1]
          refine wpAnyH_take (i := 1) (oi := ⟨some 19, .move (.tmp 0), 50, _, _, _⟩) (v := ?v1b) rfl (by kernel_rfl) (by kernel_rfl) (by kernel_rfl) (fun _ _ _ h => h) (Or.inl ⟨by rfl, ?hy1b⟩) hHeld ?rest1b
          case hy1b => intro w9 hSw; go_simp; (try with_reducible rfl)
          try simp only [Act.put, s_put, s_0, s_1]
          refine wpAnyH_take (i := 2) (oi := ⟨some 20, .move (.tmp 5), 3, _, _, _⟩) (v := ?v2b) rfl (by kernel_rfl) (by kernel_rfl) (by kernel_rfl) (fun _ _ _ h => h) (Or.inl ⟨by rfl, ?hy2b⟩) hHeld ?rest2b
          case hy2b => intro w9 hSw; go_simp; (try with_reducible rfl)
          try simp only [Act.put, s_put, s_0, s_1]
          refine wpAnyH_take (i := 3) (oi := ⟨some 21, .indexAddr 50 (.tmp 19) (.tmp 20), 0, _, _, _⟩) (v := ?v3b) rfl (by kernel_rfl) (by kernel_rfl) (by kernel_rfl) (fun _ _ _ h => h) (Or.inl ⟨by rfl, ?hy3b⟩) hHeld ?rest3b
          case hy3b => intro w9 hSw; go_simp; (try with_reducible rfl)
          try simp only [Act.put, s_put, s_0, s_1]
          refine wpAnyH_take (i := 4) (oi := ⟨some 22, .load 3 (.tmp 21), 3, _, _, _⟩) (v := ?v4b) rfl (by kernel_rfl) (by kernel_rfl) (by kernel_rfl) (fun _ _ _ h => h) (Or.inl ⟨by rfl, ?hy4b⟩) hHeld ?rest4b
          case hy4b => intro w9 hSw; have d0 := NodeI.at (N1.out.later hSw); go_simp; (try with_reducible rfl)
          try simp only [Act.put, s_put, s_0, s_1]
          refine wpAnyH_take (i := 5) (oi := ⟨some 23, .move (.tmp 0), 50, _, _, _⟩) (v := ?v5b) rfl (by kernel_rfl) (by kernel_rfl) (by kernel_rfl) (fun _ _ _ h => h) (Or.inl ⟨by rfl, ?hy5b⟩) hHeld ?rest5b
          case hy5b => intro w9 hSw; go_simp; (try with_reducible rfl)
          try simp only [Act.put, s_put, s_0, s_1]
          refine wpAnyH_take (i := 6) (oi := ⟨some 24, .move (.tmp 5), 3, _, _, _⟩) (v := ?v6b) rfl (by kernel_rfl) (by kernel_rfl) (by kernel_rfl) (fun _ _ _ h => h) (Or.inl ⟨by rfl, ?hy6b⟩) hHeld ?rest6b
          case hy6b => intro w9 hSw; go_simp; (try with_reducible rfl)
          try simp only [Act.put, s_put, s_0, s_1]
          refine wpAnyH_take (i := 7) (oi := ⟨some 25, .binOp BinOp.sub 3 (.tmp 24) (.const (Value.int IntKind.i64 1)) 3, 3, _, _, _⟩) (v := .int .i64 (j : Int)) rfl (by kernel_rfl) (by kernel_rfl) (by kernel_rfl) (fun _ _ _ h => h) (Or.inl ⟨by rfl, ?hy7b⟩) hHeld ?rest7b
          case hy7b => intro w9 hSw; go_simp; try (rw [IntKind.wrap_i64]; omega)
          try simp only [Act.put, s_put, s_0, s_1]
          refine wpAnyH_take (i := 8) (oi := ⟨some 26, .indexAddr 50 (.tmp 23) (.tmp 25), 0, _, _, _⟩) (v := ?v8b) rfl (by kernel_rfl) (by kernel_rfl) (by kernel_rfl) (fun _ _ _ h => h) (Or.inl ⟨by rfl, ?hy8b⟩) hHeld ?rest8b
          case hy8b => intro w9 hSw; go_simp; (try with_reducible rfl)
          try simp only [Act.put, s_put, s_0, s_1]
          refine wpAnyH_take (i := 9) (oi := ⟨some 27, .load 3 (.tmp 26), 3, _, _, _⟩) (v := ?v9b) rfl (by kernel_rfl) (by kernel_rfl) (by kernel_rfl) (fun _ _ _ h => h) (Or.inl ⟨by rfl, ?hy9b⟩) hHeld ?rest9b
          case hy9b => intro w9 hSw; have d0 := NodeI.at (N2.out.later hSw); go_simp; (try with_reducible rfl)
          try simp only [Act.put, s_put, s_0, s_1]
          refine wpAnyH_ready (rs := [10]) (by kernel_rfl) (by simp) ?_
          refine AllReadyH.cons (o := ⟨some 28, .call { callee := .value (.tmp 18), args := #[.tmp 22, .tmp 27], argTypes := #[3, 3] }, 4, _, _, _⟩) rfl (fun K hK => ?_) AllReadyH.nil
          go_simp
          refine (CE.out _ hT).mono ?_
          rintro e x10 ⟨rfl, hN10⟩
          go_wp2_with fail
          have hT10 : Below wr.heap.size wr x10 := hT.trans (hN10.mono hT.size)
          refine hK.out _ _ (hHeld.trans (hN10.mono hHeld.size)) (fun _ => held_up (S' := fun w' => Below x10.heap.size x10 w') (fun w' h' => (hHeld.trans (hN10.mono hHeld.size)).trans (h'.mono (Nat.le_trans hHeld.size hN10.size))) _ _ _ _ ?_)
          clear hK K hHeld hT
          have hT : Below wr.heap.size wr x10 := hT10
          have hHeld : Below x10.heap.size x10 x10 := Below.refl _ _
          clear hT10 hN10
          try simp only [Act.put, s_put, s_0, s_1]
          refine wpAnyH_done (by kernel_rfl) ?_ _
          refine NoPanic.normal ?_
          have HI0 : Hid (CpInv eq L L (j + 2) (j + 1)) := CpInv.start HX.out.1 HX.out.2 HQ.out.symm HJ.out
          have hB1 : Below B w x10 := hB.trans (hT.mono (Nat.le_trans hBw.out hB.size))
          have HO1 : Hid (x10.ownsRow B 3 1 (.slice (some ⟨g, 0, none⟩) n cap) n (rowLI L)) := own_laterS HO.out hT
          clear hT hHeld hB HO CE N1 N2
          go_wp2
          go_loopw [5, 7] (fun u v wr => ∃ (K i : Nat) (M : List Int), u = .int .i64 K ∧ v = .int .i64 ((i + 1 : Nat) : Int) ∧ j + 1 + (i + 1) ≤ n ∧ K ≤ n ∧ Hid (CpInv eq L M (j + 1 + (i + 1)) K) ∧ Hid (wr.ownsRow B 3 1 (.slice (some ⟨g, 0, none⟩) n cap) n (rowLI M)) ∧ Below B w wr) (fun _ v _ => n - (intOf v).toNat)
          case atStart => exact ⟨j + 1, 0, L, by go_num, rfl, by have := HJN.out; omega, by have := HJN.out; omega, HI0, HO1, hB1⟩
          case round =>
            clear HI0 HO1 hB1
            obtain ⟨K, i, M, rfl, rfl, hi, hK, HI, HO, hB⟩ := hrel
            have hKn : K < n := by have := HI.out.lt; omega
            have hcK : ¬ cap = K := by omega
            by_cases hin : j + 1 + (i + 1) < n
            · have hLL := HL.out
              have hML : M.length = n := HI.out.len.trans hLL
              obtain ⟨x2, hx2⟩ : ∃ x2, L[j + 1 + i + 1]? = some x2 := ⟨_, List.getElem?_eq_getElem (by omega)⟩
              obtain ⟨y2, hy2⟩ : ∃ y2, L[j + 1 + i]? = some y2 := ⟨_, List.getElem?_eq_getElem (by omega)⟩
              obtain ⟨hr, -⟩ := rwOfI HO.out hML (by omega)
              have N1 : Hid (NodeI wr g (j + 1 + (i + 1)) x2) := by have := hr (j + 1 + i + 1) x2 ((HI.out.hi _ (by omega)).trans hx2); rwa [Nat.mul_one, Nat.zero_add] at this
              have N2 : Hid (NodeI wr g (j + 1 + i) y2) := by have := hr (j + 1 + i) y2 ((HI.out.hi _ (by omega)).trans hy2); rwa [Nat.mul_one, Nat.zero_add] at this
              have HX2 : Hid (L[j + 1 + i + 1]? = some x2 ∧ L[j + 1 + i]? = some y2) := ⟨hx2, hy2⟩
              have HIN : Hid (j + 1 + (i + 1) < n) := hin
              have HML : Hid (M.length = n) := hML
              obtain ⟨q2, hq2⟩ : ∃ q2, q2 = eq x2 y2 := ⟨_, rfl⟩
              have HQ2 : Hid (q2 = eq x2 y2) := hq2
              have CE : Hid (∀ d, Below wr.heap.size wr d → Calls Try.prog 29 #[.int .i64 x2, .int .i64 y2, .pointer (some ⟨Bl, 0, none⟩)] d fun e w' => e = .returned (.bool q2) ∧ Below d.heap.size d w') := fun d hd => by
                rw [hq2]
                exact HC.out x2 (List.mem_of_getElem? hx2) y2 (List.mem_of_getElem? hy2) d (hB.trans (hd.mono (Nat.le_trans hBw.out hB.size)))
              have hi0 : (0 : Int) ≤ (i : Int) + 1 := by omega
              have hiI : (i : Int) + 1 < ((n - (j + 1) : Nat) : Int) := by omega
              have hiI' : i + 1 < n - (j + 1) := by omega
              have hiJ : i < n - (j + 1) := by omega
              have HI' : Hid (CpInv eq L M (j + 1 + i + 1) K) := HI
              clear hr hq2 hx2 hy2 hLL hML HI
              cases q2
              · · go_wp2_with fail
                  refine wp_region_noPanic ?_
                  refine wp_region_held_drew (S := fun w' => Below wr.heap.size wr w') (by kernel_rfl) ((Below.refl _ _).drew) (fun hHeld => ?_)
                  have hT : Below wr.heap.size wr wr.drew := hHeld
                  obtain ⟨d, hd⟩ : ∃ d, d = wr.drew := ⟨_, rfl⟩
                  rw [← hd] at hHeld hT ⊢
                  clear hd
                  refine wpAnyH_take (i := 0) (oi := ⟨some 38, .move (.tmp 1), 54, _, _, _⟩) (v := ?v0c) rfl (by kernel_rfl) (by kernel_rfl) (by kernel_rfl) (fun _ _ _ h => h) (Or.inl ⟨by rfl, ?hy0c⟩) hHeld ?rest0c
                  case hy0c => intro w9 hSw; go_simp; (try with_reducible rfl)
                  try simp only [Act.put, s_put, s_0, s_1]
                  refine wpAnyH_take (i := 1) (oi := ⟨some 39, .move (.tmp 6), 50, _, _, _⟩) (v := ?v1c) rfl (by kernel_rfl) (by kernel_rfl) (by kernel_rfl) (fun _ _ _ h => h) (Or.inl ⟨by rfl, ?hy1c⟩) hHeld ?rest1c
                  case hy1c => intro w9 hSw; go_simp; (try with_reducible rfl)
                  try simp only [Act.put, s_put, s_0, s_1]
                  refine wpAnyH_take (i := 2) (oi := ⟨some 40, .move (.tmp 7), 3, _, _, _⟩) (v := ?v2c) rfl (by kernel_rfl) (by kernel_rfl) (by kernel_rfl) (fun _ _ _ h => h) (Or.inl ⟨by rfl, ?hy2c⟩) hHeld ?rest2c
                  case hy2c => intro w9 hSw; go_simp; (try with_reducible rfl)
                  try simp only [Act.put, s_put, s_0, s_1]
                  refine wpAnyH_take (i := 3) (oi := ⟨some 41, .indexAddr 50 (.tmp 39) (.tmp 40), 0, _, _, _⟩) (v := ?v3c) rfl (by kernel_rfl) (by kernel_rfl) (by kernel_rfl) (fun _ _ _ h => h) (Or.inl ⟨by rfl, ?hy3c⟩) hHeld ?rest3c
                  case hy3c => intro w9 hSw; go_simp; (try with_reducible rfl)
                  try simp only [Act.put, s_put, s_0, s_1]
                  refine wpAnyH_take (i := 4) (oi := ⟨some 42, .load 3 (.tmp 41), 3, _, _, _⟩) (v := ?v4c) rfl (by kernel_rfl) (by kernel_rfl) (by kernel_rfl) (fun _ _ _ h => h) (Or.inl ⟨by rfl, ?hy4c⟩) hHeld ?rest4c
                  case hy4c => intro w9 hSw; have d0 := NodeI.at (N1.out.later hSw); go_simp; (try with_reducible rfl)
                  try simp only [Act.put, s_put, s_0, s_1]
                  refine wpAnyH_take (i := 5) (oi := ⟨some 43, .move (.tmp 6), 50, _, _, _⟩) (v := ?v5c) rfl (by kernel_rfl) (by kernel_rfl) (by kernel_rfl) (fun _ _ _ h => h) (Or.inl ⟨by rfl, ?hy5c⟩) hHeld ?rest5c
                  case hy5c => intro w9 hSw; go_simp; (try with_reducible rfl)
                  try simp only [Act.put, s_put, s_0, s_1]
                  refine wpAnyH_take (i := 6) (oi := ⟨some 44, .move (.tmp 7), 3, _, _, _⟩) (v := ?v6c) rfl (by kernel_rfl) (by kernel_rfl) (by kernel_rfl) (fun _ _ _ h => h) (Or.inl ⟨by rfl, ?hy6c⟩) hHeld ?rest6c
                  case hy6c => intro w9 hSw; go_simp; (try with_reducible rfl)
                  try simp only [Act.put, s_put, s_0, s_1]
                  refine wpAnyH_take (i := 7) (oi := ⟨some 45, .binOp BinOp.sub 3 (.tmp 44) (.const (Value.int IntKind.i64 1)) 3, 3, _, _, _⟩) (v := .int .i64 (i : Int)) rfl (by kernel_rfl) (by kernel_rfl) (by kernel_rfl) (fun _ _ _ h => h) (Or.inl ⟨by rfl, ?hy7c⟩) hHeld ?rest7c
                  case hy7c => intro w9 hSw; go_simp; try (rw [IntKind.wrap_i64]; omega)
                  try simp only [Act.put, s_put, s_0, s_1]
                  refine wpAnyH_take (i := 8) (oi := ⟨some 46, .indexAddr 50 (.tmp 43) (.tmp 45), 0, _, _, _⟩) (v := ?v8c) rfl (by kernel_rfl) (by kernel_rfl) (by kernel_rfl) (fun _ _ _ h => h) (Or.inl ⟨by rfl, ?hy8c⟩) hHeld ?rest8c
                  case hy8c => intro w9 hSw; go_simp; (try with_reducible rfl)
                  try simp only [Act.put, s_put, s_0, s_1]
                  refine wpAnyH_take (i := 9) (oi := ⟨some 47, .load 3 (.tmp 46), 3, _, _, _⟩) (v := ?v9c) rfl (by kernel_rfl) (by kernel_rfl) (by kernel_rfl) (fun _ _ _ h => h) (Or.inl ⟨by rfl, ?hy9c⟩) hHeld ?rest9c
                  case hy9c => intro w9 hSw; have d0 := NodeI.at (N2.out.later hSw); go_simp; (try with_reducible rfl)
                  try simp only [Act.put, s_put, s_0, s_1]
                  refine wpAnyH_ready (rs := [10]) (by kernel_rfl) (by simp) ?_
                  refine AllReadyH.cons (o := ⟨some 48, .call { callee := .value (.tmp 38), args := #[.tmp 42, .tmp 47], argTypes := #[3, 3] }, 4, _, _, _⟩) rfl (fun K hK => ?_) AllReadyH.nil
                  go_simp
                  refine (CE.out _ hT).mono ?_
                  rintro e x10 ⟨rfl, hN10⟩
                  go_wp2_with fail
                  have hT10 : Below wr.heap.size wr x10 := hT.trans (hN10.mono hT.size)
                  refine hK.out _ _ (hHeld.trans (hN10.mono hHeld.size)) (fun _ => held_up (S' := fun w' => Below x10.heap.size x10 w') (fun w' h' => (hHeld.trans (hN10.mono hHeld.size)).trans (h'.mono (Nat.le_trans hHeld.size hN10.size))) _ _ _ _ ?_)
                  clear hK K hHeld hT
                  have hT : Below wr.heap.size wr x10 := hT10
                  have hHeld : Below x10.heap.size x10 x10 := Below.refl _ _
                  clear hT10 hN10
                  try simp only [Act.put, s_put, s_0, s_1]
                  refine wpAnyH_take (i := 11) (oi := ⟨some 49, .unOp UnOp.not 4 (.tmp 48), 4, _, _, _⟩) (v := ?v11c) rfl (by kernel_rfl) (by kernel_rfl) (by kernel_rfl) (fun _ _ _ h => h) (Or.inl ⟨by rfl, ?hy11c⟩) hHeld ?rest11c
                  case hy11c => intro w9 hSw; go_simp; (try with_reducible rfl)
                  try simp only [Act.put, s_put, s_0, s_1]
                  refine wpAnyH_done (by kernel_rfl) ?_ _
                  refine NoPanic.normal ?_
                  have hB1 : Below B w x10 := hB.trans (hT.mono (Nat.le_trans hBw.out hB.size))
                  have HO1 : Hid (x10.ownsRow B 3 1 (.slice (some ⟨g, 0, none⟩) n cap) n (rowLI M)) := own_laterS HO.out hT
                  obtain ⟨z, hz⟩ : ∃ z, M[K]? = some z := ⟨_, List.getElem?_eq_getElem (by rw [HML.out]; omega)⟩
                  have hrz := (rwOfI HO1.out HML.out (by omega)).1 K z hz
                  rw [Nat.mul_one, Nat.zero_add] at hrz
                  have z0 := NodeI.at hrz
                  have d0 := NodeI.at (N1.out.later hT)
                  have f0 := HO1.out.frozenAt K
                  obtain ⟨V, hV, OV, BV⟩ := own_setI HO1.out HML.out hKn x2 hBg
                  have HOV : Hid (V.ownsRow B 3 1 (.slice (some ⟨g, 0, none⟩) n cap) n (rowLI (M.set K x2))) := OV
                  have HBV : Hid (Below B w V) := hB1.trans BV
                  have HI2 : Hid (CpInv eq L (M.set K x2) (j + 1 + (i + 1 + 1)) (K + 1)) := HI'.out.keep HX2.out.1 HX2.out.2 HQ2.out.symm
                  clear hT hHeld hB HO HO1 N1 N2 hz hrz OV BV CE hB1
                  go_wp2
                  go_roundw
                  case rel => exact ⟨K + 1, i + 1, M.set K x2, by go_num, by go_num, by have := HIN.out; omega, by omega, HI2, hV ▸ HOV, hV ▸ HBV.out⟩
                  case measure => have := HIN.out; simp [intOf]; omega
              · · go_wp2_with fail
                  refine wp_region_noPanic ?_
                  refine wp_region_held_drew (S := fun w' => Below wr.heap.size wr w') (by kernel_rfl) ((Below.refl _ _).drew) (fun hHeld => ?_)
                  have hT : Below wr.heap.size wr wr.drew := hHeld
                  obtain ⟨d, hd⟩ : ∃ d, d = wr.drew := ⟨_, rfl⟩
                  rw [← hd] at hHeld hT ⊢
                  clear hd
                  refine wpAnyH_take (i := 0) (oi := ⟨some 38, .move (.tmp 1), 54, _, _, _⟩) (v := ?v0d) rfl (by kernel_rfl) (by kernel_rfl) (by kernel_rfl) (fun _ _ _ h => h) (Or.inl ⟨by rfl, ?hy0d⟩) hHeld ?rest0d
                  case hy0d => intro w9 hSw; go_simp; (try with_reducible rfl)
                  try simp only [Act.put, s_put, s_0, s_1]
                  refine wpAnyH_take (i := 1) (oi := ⟨some 39, .move (.tmp 6), 50, _, _, _⟩) (v := ?v1d) rfl (by kernel_rfl) (by kernel_rfl) (by kernel_rfl) (fun _ _ _ h => h) (Or.inl ⟨by rfl, ?hy1d⟩) hHeld ?rest1d
                  case hy1d => intro w9 hSw; go_simp; (try with_reducible rfl)
                  try simp only [Act.put, s_put, s_0, s_1]
                  refine wpAnyH_take (i := 2) (oi := ⟨some 40, .move (.tmp 7), 3, _, _, _⟩) (v := ?v2d) rfl (by kernel_rfl) (by kernel_rfl) (by kernel_rfl) (fun _ _ _ h => h) (Or.inl ⟨by rfl, ?hy2d⟩) hHeld ?rest2d
                  case hy2d => intro w9 hSw; go_simp; (try with_reducible rfl)
                  try simp only [Act.put, s_put, s_0, s_1]
                  refine wpAnyH_take (i := 3) (oi := ⟨some 41, .indexAddr 50 (.tmp 39) (.tmp 40), 0, _, _, _⟩) (v := ?v3d) rfl (by kernel_rfl) (by kernel_rfl) (by kernel_rfl) (fun _ _ _ h => h) (Or.inl ⟨by rfl, ?hy3d⟩) hHeld ?rest3d
                  case hy3d => intro w9 hSw; go_simp; (try with_reducible rfl)
                  try simp only [Act.put, s_put, s_0, s_1]
                  refine wpAnyH_take (i := 4) (oi := ⟨some 42, .load 3 (.tmp 41), 3, _, _, _⟩) (v := ?v4d) rfl (by kernel_rfl) (by kernel_rfl) (by kernel_rfl) (fun _ _ _ h => h) (Or.inl ⟨by rfl, ?hy4d⟩) hHeld ?rest4d
                  case hy4d => intro w9 hSw; have d0 := NodeI.at (N1.out.later hSw); go_simp; (try with_reducible rfl)
                  try simp only [Act.put, s_put, s_0, s_1]
                  refine wpAnyH_take (i := 5) (oi := ⟨some 43, .move (.tmp 6), 50, _, _, _⟩) (v := ?v5d) rfl (by kernel_rfl) (by kernel_rfl) (by kernel_rfl) (fun _ _ _ h => h) (Or.inl ⟨by rfl, ?hy5d⟩) hHeld ?rest5d
                  case hy5d => intro w9 hSw; go_simp; (try with_reducible rfl)
                  try simp only [Act.put, s_put, s_0, s_1]
                  refine wpAnyH_take (i := 6) (oi := ⟨some 44, .move (.tmp 7), 3, _, _, _⟩) (v := ?v6d) rfl (by kernel_rfl) (by kernel_rfl) (by kernel_rfl) (fun _ _ _ h => h) (Or.inl ⟨by rfl, ?hy6d⟩) hHeld ?rest6d
                  case hy6d => intro w9 hSw; go_simp; (try with_reducible rfl)
                  try simp only [Act.put, s_put, s_0, s_1]
                  refine wpAnyH_take (i := 7) (oi := ⟨some 45, .binOp BinOp.sub 3 (.tmp 44) (.const (Value.int IntKind.i64 1)) 3, 3, _, _, _⟩) (v := .int .i64 (i : Int)) rfl (by kernel_rfl) (by kernel_rfl) (by kernel_rfl) (fun _ _ _ h => h) (Or.inl ⟨by rfl, ?hy7d⟩) hHeld ?rest7d
                  case hy7d => intro w9 hSw; go_simp; try (rw [IntKind.wrap_i64]; omega)
                  try simp only [Act.put, s_put, s_0, s_1]
                  refine wpAnyH_take (i := 8) (oi := ⟨some 46, .indexAddr 50 (.tmp 43) (.tmp 45), 0, _, _, _⟩) (v := ?v8d) rfl (by kernel_rfl) (by kernel_rfl) (by kernel_rfl) (fun _ _ _ h => h) (Or.inl ⟨by rfl, ?hy8d⟩) hHeld ?rest8d
                  case hy8d => intro w9 hSw; go_simp; (try with_reducible rfl)
                  try simp only [Act.put, s_put, s_0, s_1]
                  refine wpAnyH_take (i := 9) (oi := ⟨some 47, .load 3 (.tmp 46), 3, _, _, _⟩) (v := ?v9d) rfl (by kernel_rfl) (by kernel_rfl) (by kernel_rfl) (fun _ _ _ h => h) (Or.inl ⟨by rfl, ?hy9d⟩) hHeld ?rest9d
                  case hy9d => intro w9 hSw; have d0 := NodeI.at (N2.out.later hSw); go_simp; (try with_reducible rfl)
                  try simp only [Act.put, s_put, s_0, s_1]
                  refine wpAnyH_ready (rs := [10]) (by kernel_rfl) (by simp) ?_
                  refine AllReadyH.cons (o := ⟨some 48, .call { callee := .value (.tmp 38), args := #[.tmp 42, .tmp 47], argTypes := #[3, 3] }, 4, _, _, _⟩) rfl (fun K hK => ?_) AllReadyH.nil
                  go_simp
                  refine (CE.out _ hT).mono ?_
                  rintro e x10 ⟨rfl, hN10⟩
                  go_wp2_with fail
                  have hT10 : Below wr.heap.size wr x10 := hT.trans (hN10.mono hT.size)
                  refine hK.out _ _ (hHeld.trans (hN10.mono hHeld.size)) (fun _ => held_up (S' := fun w' => Below x10.heap.size x10 w') (fun w' h' => (hHeld.trans (hN10.mono hHeld.size)).trans (h'.mono (Nat.le_trans hHeld.size hN10.size))) _ _ _ _ ?_)
                  clear hK K hHeld hT
                  have hT : Below wr.heap.size wr x10 := hT10
                  have hHeld : Below x10.heap.size x10 x10 := Below.refl _ _
                  clear hT10 hN10
                  try simp only [Act.put, s_put, s_0, s_1]
                  refine wpAnyH_take (i := 11) (oi := ⟨some 49, .unOp UnOp.not 4 (.tmp 48), 4, _, _, _⟩) (v := ?v11d) rfl (by kernel_rfl) (by kernel_rfl) (by kernel_rfl) (fun _ _ _ h => h) (Or.inl ⟨by rfl, ?hy11d⟩) hHeld ?rest11d
                  case hy11d => intro w9 hSw; go_simp; (try with_reducible rfl)
                  try simp only [Act.put, s_put, s_0, s_1]
                  refine wpAnyH_done (by kernel_rfl) ?_ _
                  refine NoPanic.normal ?_
                  have HI2 : Hid (CpInv eq L M (j + 1 + (i + 1 + 1)) K) := HI'.out.skip HX2.out.1 HX2.out.2 HQ2.out.symm
                  go_wp2
                  go_roundw
                  case rel => exact ⟨K, i + 1, M, rfl, by go_num, by have := HIN.out; omega, hK, HI2, own_laterS HO.out hT, hB.trans (hT.mono (Nat.le_trans hBw.out hB.size))⟩
                  case measure => have := HIN.out; simp [intOf]; omega
            · obtain ⟨zs, hzs⟩ : ∃ zs, zs = (Builtin.zeroCells ((.int .i64 0) : Value).cells (n - K)).toList := ⟨_, rfl⟩
              have hML : M.length = n := HI.out.len.trans HL.out
              have hcl : ∀ ty, (Builtin.clear_ #[50] ty #[.slice (some ⟨g, K, none⟩) (n - K) (cap - K)]).run Try.prog wr = .ok (.tuple #[]) (wr.setCells g (K) zs) := fun ty => by
                rw [hzs]
                refine run_clear15 wr 50 3 ty (.int .i64 0) Try.underlying50 zeroCpI (by simp [Value.cells, Value.oneCell']) (by simp [Value.cells]) g (K) (n - K) (cap - K) (by omega) (fun j2 hj2 => ?_) (fun j2 _ => HO.out.frozenAt _)
                have hsz : ((.int .i64 0) : Value).cells.size = 1 := rfl
                rw [hsz] at hj2
                rw [HO.out.cellAt _ (by omega), List.getElem?_eq_getElem (by rw [rowLI_len, hML]; omega)]
                rfl
              have hfin : Hid ((wr.setCells g (K) zs).ownsRow B 3 1 (.slice (some ⟨g, 0, none⟩) K cap) K (rowLI (compactL eq L)) ∧ K = (compactL eq L).length ∧ Below B w (wr.setCells g (K) zs)) := by
                have e : M.take K = compactL eq L := by have := HI.out.lo; rwa [show j + 1 + (i + 1) = n by omega, List.take_of_length_le (l := L) (i := n) (by rw [HL.out]; exact Nat.le_refl _)] at this
                have o1 := own_cut HO.out (show K ≤ n by omega)
                rw [rowLI_take, e] at o1
                refine ⟨own_setCells zs _ wr o1 (by omega), ?_, below_setCells15 hBg zs _ wr hB⟩
                rw [← e, List.length_take, hML]
                omega
              generalize wr.setCells g (K) zs = V at hcl hfin
              clear HO HI hB hzs
              go_wp2
              go_ret
              exact ⟨K, rfl, ⟨hfin.out.2.1, hfin.out.1⟩, hfin.out.2.2⟩
    · obtain rfl : n = j + 1 := by omega
      go_wp2
      go_ret
      have e : compactL eq L = L := by have := HJ.out; rwa [List.take_of_length_le (by rw [HL.out]; exact Nat.le_refl _)] at this
      exact ⟨_, rfl, ⟨by rw [e, HL.out], by rw [e]; exact HO.out⟩, hB⟩
end Go.Proofs.Ytcdehohmgfocdaa
namespace Go.Proofs.Ytcdehohmgfocdaa
open Go.RowKit

/-- Is one ahead the same? -/
def hadP (D : Nat → Pt) (i : Nat) : Bool := (List.range i).any fun k => sameP (D k) (D i)
theorem hadP_iff {D : Nat → Pt} {i : Nat} : hadP D i = true ↔ ∃ k, k < i ∧ Sm (D k) (D i) := by simp [hadP, Sm]
/-- The places of those that are not. -/
def firstsL (D : Nat → Pt) (n : Nat) : List Nat := (List.range n).filter fun i => !hadP D i
theorem firstsL_mem {D : Nat → Pt} {n i : Nat} : i ∈ firstsL D n ↔ i < n ∧ ∀ k, k < i → ¬ Sm (D k) (D i) := by
  unfold firstsL
  rw [List.mem_filter, List.mem_range, Bool.not_eq_true', Bool.eq_false_iff]
  exact and_congr_right fun _ => ⟨fun h k hk hs => h (hadP_iff.2 ⟨k, hk, hs⟩), fun h e => by obtain ⟨k, hk, hs⟩ := hadP_iff.1 e; exact h k hk hs⟩
theorem firstsL_succ (D : Nat → Pt) (i : Nat) : firstsL D (i + 1) = firstsL D i ++ (if hadP D i = true then [] else [i]) := by
  unfold firstsL
  rw [List.range_succ, List.filter_append]
  congr 1
  by_cases h : hadP D i = true
  · rw [if_pos h]; simp [h]
  · rw [if_neg h]; simp [h]
theorem firstsL_le (D : Nat → Pt) (n : Nat) : (firstsL D n).length ≤ n := by have := List.length_filter_le (fun i => !hadP D i) (List.range n); rw [List.length_range] at this; exact this
/-- One of the class of each is there. -/
theorem firstsL_all (D : Nat → Pt) (n : Nat) : ∀ j, j < n → ∃ f, f ∈ firstsL D n ∧ Sm (D f) (D j) := by
  intro j
  induction j using Nat.strongRecOn with
  | ind j ih =>
    intro hj
    by_cases h : ∃ k, k < j ∧ Sm (D k) (D j)
    · obtain ⟨k, hk, hs⟩ := h
      obtain ⟨f, hf, hs2⟩ := ih k hk (by omega)
      exact ⟨f, hf, hs2.trans hs⟩
    · exact ⟨j, firstsL_mem.2 ⟨hj, fun k hk hs => h ⟨k, hk, hs⟩⟩, Sm.refl _⟩
/-- Whether one that was kept is the same. -/
theorem hadP_kept (D : Nat → Pt) (i : Nat) : hadP D i = (firstsL D i).any fun k => sameP (D k) (D i) := by
  rw [Bool.eq_iff_iff, hadP_iff, List.any_eq_true]
  constructor
  · rintro ⟨k, hk, hs⟩
    obtain ⟨f, hf, hs2⟩ := firstsL_all D i k hk
    exact ⟨f, hf, hs2.trans hs⟩
  · rintro ⟨k, hk, hs⟩
    exact ⟨k, (firstsL_mem.1 hk).1, hs⟩
/-- By places. -/
def cD (D : Nat → Pt) (i j : Int) : Int := wholeP (D i.toNat) (D j.toNat)
def eD (D : Nat → Pt) (i j : Int) : Bool := sameP (D i.toNat) (D j.toNat)
theorem cD3 (D : Nat → Pt) : Ord3 (cD D) := ⟨fun _ _ => whole3.turn _ _, fun _ _ _ => whole3.comp _ _ _⟩
theorem eD_iff (D : Nat → Pt) (i j : Int) : eD D i j = true ↔ cD D i j = 0 := (whole_sm _ _).symm
/-- The places from 0 on. -/
def placesL (n : Nat) : List Int := (List.range n).map fun (i : Nat) => (i : Int)
theorem placesL_mem {n : Nat} {x : Int} : x ∈ placesL n ↔ ∃ i : Nat, i < n ∧ x = i := by
  simp only [placesL, List.mem_map, List.mem_range]
  exact ⟨fun ⟨i, h, e⟩ => ⟨i, h, e.symm⟩, fun ⟨i, h, e⟩ => ⟨i, h, e.symm⟩⟩
theorem riseZ_uniq : ∀ (r s : List Int), r.Pairwise (· < ·) → s.Pairwise (· < ·) → (∀ x, x ∈ r ↔ x ∈ s) → r = s
  | [], [], _, _, _ => rfl
  | [], y :: s, _, _, h => by have := (h y).2 (by simp); cases this
  | x :: r, [], _, _, h => by have := (h x).1 (by simp); cases this
  | x :: r, y :: s, h1, h2, h => by
    obtain ⟨a1, a2⟩ := List.pairwise_cons.1 h1
    obtain ⟨b1, b2⟩ := List.pairwise_cons.1 h2
    have e : x = y := by
      have h3 := (h x).1 (by simp)
      have h4 := (h y).2 (by simp)
      rcases List.mem_cons.1 h3 with e | e
      · exact e
      · rcases List.mem_cons.1 h4 with e' | e'
        · exact e'.symm
        · have := b1 x e; have := a1 y e'; omega
    subst e
    rw [riseZ_uniq r s a2 b2 fun u => ?_]
    have := h u
    constructor
    · intro hu
      rcases List.mem_cons.1 (this.1 (by simp [hu])) with e | e
      · have := a1 u hu; omega
      · exact e
    · intro hu
      rcases List.mem_cons.1 (this.2 (by simp [hu])) with e | e
      · have := b1 u hu; omega
      · exact e
/-- Of the sorted places, each once, those are left that are first. -/
theorem uniq_mem {D : Nat → Pt} {n : Nat} {s : List Int} (hs : St (cD D) (placesL n) s) (x : Int) : x ∈ compactL (eD D) s ↔ ∃ i : Nat, i ∈ firstsL D n ∧ x = i := by
  have h1 := compact_filter (cD3 D) (eD_iff D) x s hs.srt
  rw [hs.same x] at h1
  have h2 : x ∈ compactL (eD D) s ↔ x ∈ (compactL (eD D) s).filter (cls (cD D) x) := by
    rw [List.mem_filter]
    exact ⟨fun h => ⟨h, cls_yes.2 ((cD3 D).self x)⟩, fun h => h.1⟩
  rw [h2, h1]
  have h3 : ∀ l : List Int, x ∈ l.take 1 ↔ l.head? = some x := fun l => by
    cases l with
    | nil => simp
    | cons y l => simp [eq_comm]
  rw [h3, List.head?_filter, placesL, List.find?_map, Option.map_eq_some_iff]
  constructor
  · rintro ⟨i, hi, rfl⟩
    rw [List.find?_range_eq_some] at hi
    obtain ⟨hm, hp, hn⟩ := hi
    refine ⟨i, firstsL_mem.2 ⟨List.mem_range.1 hp, fun k hk hsm => ?_⟩, rfl⟩
    have := hn k hk
    simp only [Function.comp_apply, Bool.not_eq_true', cls, cD, Int.toNat_natCast] at this
    exact absurd ((whole_sm _ _).2 hsm.symm) (of_decide_eq_false this)
  · rintro ⟨i, hi, rfl⟩
    obtain ⟨hin, hf⟩ := firstsL_mem.1 hi
    refine ⟨i, ?_, rfl⟩
    rw [List.find?_range_eq_some]
    refine ⟨cls_yes.2 ((cD3 D).self _), List.mem_range.2 hin, fun j hj => ?_⟩
    simp only [Function.comp_apply, Bool.not_eq_true', cls, cD, Int.toNat_natCast]
    exact decide_eq_false fun e => hf j hj ((whole_sm _ _).1 e).symm
theorem uniq_sorted {D : Nat → Pt} {n : Nat} {s : List Int} (hs : St (cD D) (placesL n) s) : ((compactL (eD D) s).mergeSort fun x y => decide (x ≤ y)) = (firstsL D n).map fun (i : Nat) => (i : Int) := by
  have nd0 : (placesL n).Nodup := by
    refine List.Pairwise.map _ (fun a b (h : a < b) => ?_) List.pairwise_lt_range
    intro e
    omega
  have nd : (compactL (eD D) s).Nodup := (compact_sub (eD D) s).nodup (hs.perm.nodup_iff.2 nd0)
  have hp := List.mergeSort_perm (compactL (eD D) s) fun x y => decide (x ≤ y)
  refine riseZ_uniq _ _ ?_ ?_ fun x => ?_
  · have h1 := List.pairwise_mergeSort (le := fun (x y : Int) => decide (x ≤ y)) (fun a b c h1 h2 => by simp at h1 h2 ⊢; omega) (fun a b => by simp; omega) (compactL (eD D) s)
    have h2 := hp.nodup_iff.2 nd
    exact (h1.and h2).imp fun {a b} h => by
      have := h.1
      simp at this
      have := h.2
      omega
  · unfold firstsL
    refine List.Pairwise.map _ (fun a b (h : a < b) => ?_) (List.Pairwise.filter _ List.pairwise_lt_range)
    omega
  · rw [hp.mem_iff, uniq_mem hs]
    simp only [List.mem_map]
    exact ⟨fun ⟨i, h, e⟩ => ⟨i, h, e.symm⟩, fun ⟨i, h, e⟩ => ⟨i, h, e.symm⟩⟩
theorem uniq_len {D : Nat → Pt} {n : Nat} {s : List Int} (hs : St (cD D) (placesL n) s) : (compactL (eD D) s).length = (firstsL D n).length := by
  have := congrArg List.length (uniq_sorted hs)
  rwa [List.length_mergeSort, List.length_map] at this
end Go.Proofs.Ytcdehohmgfocdaa
