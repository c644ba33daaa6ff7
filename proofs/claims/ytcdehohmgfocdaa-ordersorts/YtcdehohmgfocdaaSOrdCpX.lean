/-
  slices.CompactFunc, of conditions.
  order.Conds: its closure, order.each of conditions, the whole.
-/
import Derived.Test.YtcdehohmgfocdaaSBrief
import Derived.Test.YtcdehohmgfocdaaSOrdMergeX
import Derived.Test.YtcdehohmgfocdaaSOrdMergeI
import Derived.Test.YtcdehohmgfocdaaSOrdMath
import Derived.Test.YtcdehohmgfocdaaSExprRename
import Derived.Test.YtcdehohmgfocdaaSExprRefOrd
namespace Go.Proofs.Ytcdehohmgfocdaa
open Go.RowKit

theorem row_setX (x : X) : ∀ (M : List X) (K : Nat), K < M.length → (((((((rowLX M).set (K * 7) (.int .i64 x.k)).set (K * 7 + 1) (.int .i64 x.v.k)).set (K * 7 + 2) (.int .i64 x.v.n)).set (K * 7 + 3) (.string x.v.s)).set (K * 7 + 4) (.string x.s)).set (K * 7 + 5) (.string x.f)).set (K * 7 + 6) (.slice x.a x.n x.cap) = rowLX (M.set K x)
  | [], _, h => by simp at h
  | m :: M, 0, _ => by simp [rowLX]
  | m :: M, K + 1, h => by
    have ih := row_setX x M K (by simpa using h)
    have e : rowLX (m :: M) = m.cells.toList ++ rowLX M := rfl
    have hl : m.cells.toList.length = 7 := rfl
    rw [List.set_cons_succ, show rowLX (m :: M.set K x) = m.cells.toList ++ rowLX (M.set K x) from rfl, ← ih, e]
    have st : ∀ (l : List Value) (t : Nat) (u : Value), (m.cells.toList ++ l).set ((K + 1) * 7 + t) u = m.cells.toList ++ l.set (K * 7 + t) u := fun l t u => by
      rw [List.set_append_right _ _ (by rw [hl]; omega), hl, show (K + 1) * 7 + t - 7 = K * 7 + t by omega]
    have st0 := fun l u => st l 0 u
    simp only [Nat.add_zero] at st0
    rw [st0, st, st, st, st, st, st]
theorem own_setX {w : World} {B g n cap K : Nat} {M : List X} (h : w.ownsRow B 39 7 (.slice (some ⟨g, 0, none⟩) n cap) n (rowLX M)) (hl : M.length = n) (hK : K < n) (x : X) (hb : B ≤ g) :
    ∃ V, ((((((w.setCell ⟨g, K * 7, none⟩ (.int .i64 x.k)).setCell ⟨g, K * 7 + 1, none⟩ (.int .i64 x.v.k)).setCell ⟨g, K * 7 + 2, none⟩ (.int .i64 x.v.n)).setCell ⟨g, K * 7 + 3, none⟩ (.string x.v.s)).setCell ⟨g, K * 7 + 4, none⟩ (.string x.s)).setCell ⟨g, K * 7 + 5, none⟩ (.string x.f)).setCell ⟨g, K * 7 + 6, none⟩ (.slice x.a x.n x.cap) = V ∧
      V.ownsRow B 39 7 (.slice (some ⟨g, 0, none⟩) n cap) n (rowLX (M.set K x)) ∧ Below B w V := by
  refine ⟨_, rfl, ?_, ?_⟩
  · have h0 := (h.stored (K * 7) (.int .i64 x.k)).1
    have h1 := (h0.stored (K * 7 + 1) (.int .i64 x.v.k)).1
    have h2 := (h1.stored (K * 7 + 2) (.int .i64 x.v.n)).1
    have h3 := (h2.stored (K * 7 + 3) (.string x.v.s)).1
    have h4 := (h3.stored (K * 7 + 4) (.string x.s)).1
    have h5 := (h4.stored (K * 7 + 5) (.string x.f)).1
    have h6 := (h5.stored (K * 7 + 6) (.slice x.a x.n x.cap)).1
    rwa [row_setX x M K (by omega)] at h6
  · exact ((((((((Below.refl B w).setCell (p := ⟨g, K * 7, none⟩) hb _).setCell (p := ⟨g, K * 7 + 1, none⟩) hb _).setCell (p := ⟨g, K * 7 + 2, none⟩) hb _).setCell (p := ⟨g, K * 7 + 3, none⟩) hb _).setCell (p := ⟨g, K * 7 + 4, none⟩) hb _).setCell (p := ⟨g, K * 7 + 5, none⟩) hb _).setCell (p := ⟨g, K * 7 + 6, none⟩) hb _)
theorem zeroCpX : ∀ w, (zeroValue 39).run Try.prog w = .ok (.agg #[.int .i64 0, .int .i64 0, .int .i64 0, .string ⟨#[]⟩, .string ⟨#[]⟩, .string ⟨#[]⟩, .slice none 0 0]) w := fun _ => by kernel_rfl
theorem rwOfX {w : World} {B g n cap : Nat} {M : List X} (h : w.ownsRow B 39 7 (.slice (some ⟨g, 0, none⟩) n cap) n (rowLX M)) (hl : M.length = n) (h0 : 0 < n) : RwX w g 0 M ∧ n ≤ cap ∧ cap ≤ maxLen ∧ B ≤ g := by
  obtain ⟨g', cap', e, h1, h2, h3, _, h5⟩ := ownLX h hl h0
  cases e
  exact ⟨h5, h1, h2, h3⟩
theorem rowLX_len (M : List X) : (rowLX M).length = M.length * 7 := by
  induction M with
  | nil => rfl
  | cons x M ih => simp only [rowLX, List.flatMap_cons, List.length_append, List.length_cons] at ih ⊢; rw [ih]; simp; omega
theorem rowLX_take (M : List X) (K : Nat) : (rowLX M).take (K * 7) = rowLX (M.take K) := by
  by_cases h : K ≤ M.length
  · have e : rowLX M = rowLX (M.take K) ++ rowLX (M.drop K) := by rw [← rowLX_app, List.take_append_drop]
    have hl : (rowLX (M.take K)).length = K * 7 := by rw [rowLX_len, List.length_take, Nat.min_eq_left h]
    rw [e, List.take_append_of_le_length (by omega), List.take_of_length_le (by omega)]
  · rw [List.take_of_length_le (by rw [rowLX_len]; omega), List.take_of_length_le (by omega)]
set_option maxRecDepth 100000 in
set_option maxHeartbeats 2000000 in
theorem compactX_less (_ : X → X → Bool) (a : Option Addr) (n cap : Nat) (w : World) (h2 : n < 2) :
    Calls Try.prog 34 #[.slice a n cap, .func (.func 37) #[] #[]] w fun e w' => e = .returned (.slice a n cap) ∧ w' = w := by
  have h2' : ((n : Nat) : Int) < 2 := by omega
  clear h2
  go_enter Try.func34, Try.ntmps34
  go_wp2
  go_ret
  exact ⟨rfl, rfl⟩
set_option maxRecDepth 100000 in
set_option maxHeartbeats 8000000 in
theorem compactX_more (eq : X → X → Bool) (B g n cap : Nat) (L : List X) (w : World) (hl : L.length = n) (hO : w.ownsRow B 39 7 (.slice (some ⟨g, 0, none⟩) n cap) n (rowLX L)) (h2 : ¬ n < 2) (hn : n ≤ 1048576)
    (hC : ∀ x ∈ L, ∀ y ∈ L, ∀ d, Below B w d → Calls Try.prog 37 #[x.val, y.val] d fun e w' => e = .returned (.bool (eq x y)) ∧ Below d.heap.size d w') :
    Calls Try.prog 34 #[.slice (some ⟨g, 0, none⟩) n cap, .func (.func 37) #[] #[]] w fun e w' => ∃ m, e = .returned (.slice (some ⟨g, 0, none⟩) m cap) ∧ Hid (m = (compactL eq L).length ∧ w'.ownsRow B 39 7 (.slice (some ⟨g, 0, none⟩) m cap) m (rowLX (compactL eq L))) ∧ Below B w w' := by
  have HL : Hid (L.length = n) := hl
  have HC : Hid (∀ x ∈ L, ∀ y ∈ L, ∀ d, Below B w d → Calls Try.prog 37 #[x.val, y.val] d fun e w' => e = .returned (.bool (eq x y)) ∧ Below d.heap.size d w') := hC
  have HO : Hid (w.ownsRow B 39 7 (.slice (some ⟨g, 0, none⟩) n cap) n (rowLX L)) := hO
  obtain ⟨-, hcap, hcm, hBg⟩ := rwOfX hO hl (by omega)
  have hBw : Hid (B ≤ w.heap.size) := by show B ≤ _; have := hO.lt g rfl; omega
  have hcm' : cap ≤ 9223372036854775807 := by unfold maxLen at hcm; omega
  have h2' : ¬ ((n : Nat) : Int) < 2 := by omega
  clear hl hC hO hcm
  go_enter Try.func34, Try.ntmps34
  go_wp2
  go_loopw [5] (fun u wr => ∃ j : Nat, j + 1 ≤ n ∧ u = .int .i64 ((j + 1 : Nat) : Int) ∧ Hid (compactL eq (L.take (j + 1)) = L.take (j + 1)) ∧ Hid (wr.ownsRow B 39 7 (.slice (some ⟨g, 0, none⟩) n cap) n (rowLX L)) ∧ Below B w wr) (fun u _ => n - (intOf u).toNat)
  case atStart => exact ⟨0, by omega, rfl, compact_one eq L, HO, Below.refl _ _⟩
  case round =>
    clear HO
    obtain ⟨j, hj, rfl, HJ, HO, hB⟩ := hrel
    by_cases hjn : j + 1 < n
    · have hLL := HL.out
      obtain ⟨x, hx⟩ : ∃ x, L[j + 1]? = some x := ⟨_, List.getElem?_eq_getElem (by omega)⟩
      obtain ⟨y, hy⟩ : ∃ y, L[j]? = some y := ⟨_, List.getElem?_eq_getElem (by omega)⟩
      obtain ⟨hr, -⟩ := rwOfX HO.out HL.out (by omega)
      have N1 : Hid (Node wr g ((j + 1) * 7) x) := by have := hr (j + 1) x hx; rwa [Nat.zero_add] at this
      have N2 : Hid (Node wr g (j * 7) y) := by have := hr j y hy; rwa [Nat.zero_add] at this
      have HX : Hid (L[j + 1]? = some x ∧ L[j]? = some y) := ⟨hx, hy⟩
      have HJN : Hid (j + 1 < n) := hjn
      obtain ⟨q, hq⟩ : ∃ q, q = eq x y := ⟨_, rfl⟩
      have HQ : Hid (q = eq x y) := hq
      have CE : Hid (∀ d, Below wr.heap.size wr d → Calls Try.prog 37 #[x.val, y.val] d fun e w' => e = .returned (.bool q) ∧ Below d.heap.size d w') := fun d hd => by
        rw [hq]
        exact HC.out x (List.mem_of_getElem? hx) y (List.mem_of_getElem? hy) d (hB.trans (hd.mono (Nat.le_trans hBw.out hB.size)))
      have hj0 : (0 : Int) ≤ (j : Int) + 1 := by omega
      have hji : j < n := by omega
      have hjI : (j : Int) + 1 < (n : Int) := by omega
      clear hr hq hx hy hLL
      cases q
      · · go_wp2_with fail
          refine wp_region_noPanic ?_
          refine wp_region_held_drew (S := fun w' => Below wr.heap.size wr w') (by kernel_rfl) ((Below.refl _ _).drew) (fun hHeld => ?_)
          have hT : Below wr.heap.size wr wr.drew := hHeld
          obtain ⟨d, hd⟩ : ∃ d, d = wr.drew := ⟨_, rfl⟩
          rw [← hd] at hHeld hT ⊢
          clear hd
          refine wpAnyH_take (i := 0) (oi := ⟨some 18, .move (.tmp 1), 35, _, _, _⟩) (v := ?v0a) rfl (by kernel_rfl) (by kernel_rfl) (by kernel_rfl) (fun _ _ _ h => h) (Or.inl ⟨by rfl, ?hy0a⟩) hHeld ?rest0a
          case hy0a => intro w9 hSw; go_simp; (try with_reducible rfl)
          try simp only [Act.put, s_put, s_0, s_1]
          refine wpAnyH_take (i := 1) (oi := ⟨some 19, .move (.tmp 0), 23, _, _, _⟩) (v := ?v1a) rfl (by kernel_rfl) (by kernel_rfl) (by kernel_rfl) (fun _ _ _ h => h) (Or.inl ⟨by rfl, ?hy1a⟩) hHeld ?rest1a
          case hy1a => intro w9 hSw; go_simp; (try with_reducible rfl)
          try simp only [Act.put, s_put, s_0, s_1]
          refine wpAnyH_take (i := 2) (oi := ⟨some 20, .move (.tmp 5), 3, _, _, _⟩) (v := ?v2a) rfl (by kernel_rfl) (by kernel_rfl) (by kernel_rfl) (fun _ _ _ h => h) (Or.inl ⟨by rfl, ?hy2a⟩) hHeld ?rest2a
          case hy2a => intro w9 hSw; go_simp; (try with_reducible rfl)
          try simp only [Act.put, s_put, s_0, s_1]
          refine wpAnyH_take (i := 3) (oi := ⟨some 21, .indexAddr 23 (.tmp 19) (.tmp 20), 0, _, _, _⟩) (v := ?v3a) rfl (by kernel_rfl) (by kernel_rfl) (by kernel_rfl) (fun _ _ _ h => h) (Or.inl ⟨by rfl, ?hy3a⟩) hHeld ?rest3a
          case hy3a => intro w9 hSw; go_simp; (try with_reducible rfl)
          try simp only [Act.put, s_put, s_0, s_1]
          refine wpAnyH_take (i := 4) (oi := ⟨some 22, .load 39 (.tmp 21), 39, _, _, _⟩) (v := ?v4a) rfl (by kernel_rfl) (by kernel_rfl) (by kernel_rfl) (fun _ _ _ h => h) (Or.inl ⟨by rfl, ?hy4a⟩) hHeld ?rest4a
          case hy4a => intro w9 hSw; obtain ⟨d0, d1, d2, d3, d4, d5, d6⟩ := N1.out.later hSw; go_simp; (try with_reducible rfl)
          try simp only [Act.put, s_put, s_0, s_1]
          refine wpAnyH_take (i := 5) (oi := ⟨some 23, .move (.tmp 0), 23, _, _, _⟩) (v := ?v5a) rfl (by kernel_rfl) (by kernel_rfl) (by kernel_rfl) (fun _ _ _ h => h) (Or.inl ⟨by rfl, ?hy5a⟩) hHeld ?rest5a
          case hy5a => intro w9 hSw; go_simp; (try with_reducible rfl)
          try simp only [Act.put, s_put, s_0, s_1]
          refine wpAnyH_take (i := 6) (oi := ⟨some 24, .move (.tmp 5), 3, _, _, _⟩) (v := ?v6a) rfl (by kernel_rfl) (by kernel_rfl) (by kernel_rfl) (fun _ _ _ h => h) (Or.inl ⟨by rfl, ?hy6a⟩) hHeld ?rest6a
          case hy6a => intro w9 hSw; go_simp; (try with_reducible rfl)
          try simp only [Act.put, s_put, s_0, s_1]
          refine wpAnyH_take (i := 7) (oi := ⟨some 25, .binOp BinOp.sub 3 (.tmp 24) (.const (Value.int IntKind.i64 1)) 3, 3, _, _, _⟩) (v := .int .i64 (j : Int)) rfl (by kernel_rfl) (by kernel_rfl) (by kernel_rfl) (fun _ _ _ h => h) (Or.inl ⟨by rfl, ?hy7a⟩) hHeld ?rest7a
          case hy7a => intro w9 hSw; go_simp; try (rw [IntKind.wrap_i64]; omega)
          try simp only [Act.put, s_put, s_0, s_1]
          refine wpAnyH_take (i := 8) (oi := ⟨some 26, .indexAddr 23 (.tmp 23) (.tmp 25), 0, _, _, _⟩) (v := ?v8a) rfl (by kernel_rfl) (by kernel_rfl) (by kernel_rfl) (fun _ _ _ h => h) (Or.inl ⟨by rfl, ?hy8a⟩) hHeld ?rest8a
          case hy8a => intro w9 hSw; go_simp; (try with_reducible rfl)
          try simp only [Act.put, s_put, s_0, s_1]
          refine wpAnyH_take (i := 9) (oi := ⟨some 27, .load 39 (.tmp 26), 39, _, _, _⟩) (v := ?v9a) rfl (by kernel_rfl) (by kernel_rfl) (by kernel_rfl) (fun _ _ _ h => h) (Or.inl ⟨by rfl, ?hy9a⟩) hHeld ?rest9a
          case hy9a => intro w9 hSw; obtain ⟨d0, d1, d2, d3, d4, d5, d6⟩ := N2.out.later hSw; go_simp; (try with_reducible rfl)
          try simp only [Act.put, s_put, s_0, s_1]
          refine wpAnyH_ready (rs := [10]) (by kernel_rfl) (by simp) ?_
          refine AllReadyH.cons (o := ⟨some 28, .call { callee := .value (.tmp 18), args := #[.tmp 22, .tmp 27], argTypes := #[39, 39] }, 4, _, _, _⟩) rfl (fun K hK => ?_) AllReadyH.nil
          go_simp
          refine (CE.out _ hT).mono ?_
          rintro e x10 ⟨rfl, hN10⟩
          go_wp2_with fail
          have hT10 : Below wr.heap.size wr x10 := hT.trans (hN10.mono hT.size)
          refine hK.out _ _ (hHeld.trans (hN10.mono hHeld.size)) (fun _ => held_up (S' := fun w' => Below x10.heap.size x10 w') (fun w' h' => (hHeld.trans (hN10.mono hHeld.size)).trans (h'.mono (Nat.le_trans hHeld.size hN10.size))) _ _ _ _ ?_)
          clear hK K hHeld hT
          have hT : Below wr.heap.size wr x10 := hT10
          have hHeld : Below x10.heap.size x10 x10 := Below.refl _ _
          clear hT10 hN10
          try simp only [Act.put, s_put, s_0, s_1]
          refine wpAnyH_done (by kernel_rfl) ?_ _
          refine NoPanic.normal ?_
          go_wp2
          go_roundw
          case rel =>
            refine ⟨j + 1, HJN.out, by go_num, ?_, own_laterS HO.out hT, hB.trans (hT.mono (Nat.le_trans hBw.out hB.size))⟩
            show compactL eq (L.take (j + 2)) = L.take (j + 2)
            rw [compact_step eq HX.out.1 HX.out.2, if_neg (by rw [← HQ.out]; exact Bool.false_ne_true), HJ.out, show j + 2 = j + 1 + 1 from rfl, List.take_add_one (i := j + 1), HX.out.1]
            rfl
          case measure => have := HJN.out; simp [intOf]; omega
      · · have hcj : ¬ cap = j + 1 := by omega
          go_wp2_with fail
          refine wp_region_noPanic ?_
          refine wp_region_held_drew (S := fun w' => Below wr.heap.size wr w') (by kernel_rfl) ((Below.refl _ _).drew) (fun hHeld => ?_)
          have hT : Below wr.heap.size wr wr.drew := hHeld
          obtain ⟨d, hd⟩ : ∃ d, d = wr.drew := ⟨_, rfl⟩
          rw [← hd] at hHeld hT ⊢
          clear hd
          refine wpAnyH_take (i := 0) (oi := ⟨some 18, .move (.tmp 1), 35, _, _, _⟩) (v := ?v0b) rfl (by kernel_rfl) (by kernel_rfl) (by kernel_rfl) (fun _ _ _ h => h) (Or.inl ⟨by rfl, ?hy0b⟩) hHeld ?rest0b
          case hy0b => intro w9 hSw; go_simp; (try with_reducible rfl)
          try simp only [Act.put, s_put, s_0, s_1]
          refine wpAnyH_take (i := 1) (oi := ⟨some 19, .move (.tmp 0), 23, _, _, _⟩) (v := ?v1b) rfl (by kernel_rfl) (by kernel_rfl) (by kernel_rfl) (fun _ _ _ h => h) (Or.inl ⟨by rfl, ?hy1b⟩) hHeld ?rest1b
          case hy1b => intro w9 hSw; go_simp; (try with_reducible rfl)
          try simp only [Act.put, s_put, s_0, s_1]
          refine wpAnyH_take (i := 2) (oi := ⟨some 20, .move (.tmp 5), 3, _, _, _⟩) (v := ?v2b) rfl (by kernel_rfl) (by kernel_rfl) (by kernel_rfl) (fun _ _ _ h => h) (Or.inl ⟨by rfl, ?hy2b⟩) hHeld ?rest2b
          case hy2b => intro w9 hSw; go_simp; (try with_reducible rfl)
          try simp only [Act.put, s_put, s_0, s_1]
          refine wpAnyH_take (i := 3) (oi := ⟨some 21, .indexAddr 23 (.tmp 19) (.tmp 20), 0, _, _, _⟩) (v := ?v3b) rfl (by kernel_rfl) (by kernel_rfl) (by kernel_rfl) (fun _ _ _ h => h) (Or.inl ⟨by rfl, ?hy3b⟩) hHeld ?rest3b
          case hy3b => intro w9 hSw; go_simp; (try with_reducible rfl)
          try simp only [Act.put, s_put, s_0, s_1]
          refine wpAnyH_take (i := 4) (oi := ⟨some 22, .load 39 (.tmp 21), 39, _, _, _⟩) (v := ?v4b) rfl (by kernel_rfl) (by kernel_rfl) (by kernel_rfl) (fun _ _ _ h => h) (Or.inl ⟨by rfl, ?hy4b⟩) hHeld ?rest4b
          case hy4b => intro w9 hSw; obtain ⟨d0, d1, d2, d3, d4, d5, d6⟩ := N1.out.later hSw; go_simp; (try with_reducible rfl)
          try simp only [Act.put, s_put, s_0, s_1]
          refine wpAnyH_take (i := 5) (oi := ⟨some 23, .move (.tmp 0), 23, _, _, _⟩) (v := ?v5b) rfl (by kernel_rfl) (by kernel_rfl) (by kernel_rfl) (fun _ _ _ h => h) (Or.inl ⟨by rfl, ?hy5b⟩) hHeld ?rest5b
          case hy5b => intro w9 hSw; go_simp; (try with_reducible rfl)
          try simp only [Act.put, s_put, s_0, s_1]
          refine wpAnyH_take (i := 6) (oi := ⟨some 24, .move (.tmp 5), 3, _, _, _⟩) (v := ?v6b) rfl (by kernel_rfl) (by kernel_rfl) (by kernel_rfl) (fun _ _ _ h => h) (Or.inl ⟨by rfl, ?hy6b⟩) hHeld ?rest6b
          case hy6b => intro w9 hSw; go_simp; (try with_reducible rfl)
          try simp only [Act.put, s_put, s_0, s_1]
          refine wpAnyH_take (i := 7) (oi := ⟨some 25, .binOp BinOp.sub 3 (.tmp 24) (.const (Value.int IntKind.i64 1)) 3, 3, _, _, _⟩) (v := .int .i64 (j : Int)) rfl (by kernel_rfl) (by kernel_rfl) (by kernel_rfl) (fun _ _ _ h => h) (Or.inl ⟨by rfl, ?hy7b⟩) hHeld ?rest7b
          case hy7b => intro w9 hSw; go_simp; try (rw [IntKind.wrap_i64]; omega)
          try simp only [Act.put, s_put, s_0, s_1]
          refine wpAnyH_take (i := 8) (oi := ⟨some 26, .indexAddr 23 (.tmp 23) (.tmp 25), 0, _, _, _⟩) (v := ?v8b) rfl (by kernel_rfl) (by kernel_rfl) (by kernel_rfl) (fun _ _ _ h => h) (Or.inl ⟨by rfl, ?hy8b⟩) hHeld ?rest8b
          case hy8b => intro w9 hSw; go_simp; (try with_reducible rfl)
          try simp only [Act.put, s_put, s_0, s_1]
          refine wpAnyH_take (i := 9) (oi := ⟨some 27, .load 39 (.tmp 26), 39, _, _, _⟩) (v := ?v9b) rfl (by kernel_rfl) (by kernel_rfl) (by kernel_rfl) (fun _ _ _ h => h) (Or.inl ⟨by rfl, ?hy9b⟩) hHeld ?rest9b
          case hy9b => intro w9 hSw; obtain ⟨d0, d1, d2, d3, d4, d5, d6⟩ := N2.out.later hSw; go_simp; (try with_reducible rfl)
          try simp only [Act.put, s_put, s_0, s_1]
          refine wpAnyH_ready (rs := [10]) (by kernel_rfl) (by simp) ?_
          refine AllReadyH.cons (o := ⟨some 28, .call { callee := .value (.tmp 18), args := #[.tmp 22, .tmp 27], argTypes := #[39, 39] }, 4, _, _, _⟩) rfl (fun K hK => ?_) AllReadyH.nil
          go_simp
          refine (CE.out _ hT).mono ?_
          rintro e x10 ⟨rfl, hN10⟩
          go_wp2_with fail
          have hT10 : Below wr.heap.size wr x10 := hT.trans (hN10.mono hT.size)
          refine hK.out _ _ (hHeld.trans (hN10.mono hHeld.size)) (fun _ => held_up (S' := fun w' => Below x10.heap.size x10 w') (fun w' h' => (hHeld.trans (hN10.mono hHeld.size)).trans (h'.mono (Nat.le_trans hHeld.size hN10.size))) _ _ _ _ ?_)
          clear hK K hHeld hT
          have hT : Below wr.heap.size wr x10 := hT10
          have hHeld : Below x10.heap.size x10 x10 := Below.refl _ _
          clear hT10 hN10
          try simp only [Act.put, s_put, s_0, s_1]
          refine wpAnyH_done (by kernel_rfl) ?_ _
          refine NoPanic.normal ?_
          have HI0 : Hid (CpInv eq L L (j + 2) (j + 1)) := CpInv.start HX.out.1 HX.out.2 HQ.out.symm HJ.out
          have hB1 : Below B w x10 := hB.trans (hT.mono (Nat.le_trans hBw.out hB.size))
          have HO1 : Hid (x10.ownsRow B 39 7 (.slice (some ⟨g, 0, none⟩) n cap) n (rowLX L)) := own_laterS HO.out hT
          clear hT hHeld hB HO CE N1 N2
          go_wp2
          go_loopw [5, 7] (fun u v wr => ∃ (K i : Nat) (M : List X), u = .int .i64 K ∧ v = .int .i64 ((i + 1 : Nat) : Int) ∧ j + 1 + (i + 1) ≤ n ∧ K ≤ n ∧ Hid (CpInv eq L M (j + 1 + (i + 1)) K) ∧ Hid (wr.ownsRow B 39 7 (.slice (some ⟨g, 0, none⟩) n cap) n (rowLX M)) ∧ Below B w wr) (fun _ v _ => n - (intOf v).toNat)
          case atStart => exact ⟨j + 1, 0, L, by go_num, rfl, by have := HJN.out; omega, by have := HJN.out; omega, HI0, HO1, hB1⟩
          case round =>
            clear HI0 HO1 hB1
            obtain ⟨K, i, M, rfl, rfl, hi, hK, HI, HO, hB⟩ := hrel
            have hKn : K < n := by have := HI.out.lt; omega
            have hcK : ¬ cap = K := by omega
            by_cases hin : j + 1 + (i + 1) < n
            · have hLL := HL.out
              have hML : M.length = n := HI.out.len.trans hLL
              obtain ⟨x2, hx2⟩ : ∃ x2, L[j + 1 + i + 1]? = some x2 := ⟨_, List.getElem?_eq_getElem (by omega)⟩
              obtain ⟨y2, hy2⟩ : ∃ y2, L[j + 1 + i]? = some y2 := ⟨_, List.getElem?_eq_getElem (by omega)⟩
              obtain ⟨hr, -⟩ := rwOfX HO.out hML (by omega)
              have N1 : Hid (Node wr g ((j + 1) * 7 + (i + 1) * 7) x2) := by have := hr (j + 1 + i + 1) x2 ((HI.out.hi _ (by omega)).trans hx2); rwa [show 0 + (j + 1 + i + 1) * 7 = (j + 1) * 7 + (i + 1) * 7 by omega] at this
              have N2 : Hid (Node wr g ((j + 1) * 7 + i * 7) y2) := by have := hr (j + 1 + i) y2 ((HI.out.hi _ (by omega)).trans hy2); rwa [show 0 + (j + 1 + i) * 7 = (j + 1) * 7 + i * 7 by omega] at this
              have HX2 : Hid (L[j + 1 + i + 1]? = some x2 ∧ L[j + 1 + i]? = some y2) := ⟨hx2, hy2⟩
              have HIN : Hid (j + 1 + (i + 1) < n) := hin
              have HML : Hid (M.length = n) := hML
              obtain ⟨q2, hq2⟩ : ∃ q2, q2 = eq x2 y2 := ⟨_, rfl⟩
              have HQ2 : Hid (q2 = eq x2 y2) := hq2
              have CE : Hid (∀ d, Below wr.heap.size wr d → Calls Try.prog 37 #[x2.val, y2.val] d fun e w' => e = .returned (.bool q2) ∧ Below d.heap.size d w') := fun d hd => by
                rw [hq2]
                exact HC.out x2 (List.mem_of_getElem? hx2) y2 (List.mem_of_getElem? hy2) d (hB.trans (hd.mono (Nat.le_trans hBw.out hB.size)))
              have hi0 : (0 : Int) ≤ (i : Int) + 1 := by omega
              have hiI : (i : Int) + 1 < ((n - (j + 1) : Nat) : Int) := by omega
              have hiI' : i + 1 < n - (j + 1) := by omega
              have hiJ : i < n - (j + 1) := by omega
              have HI' : Hid (CpInv eq L M (j + 1 + i + 1) K) := HI
              clear hr hq2 hx2 hy2 hLL hML HI
              cases q2
              · · go_wp2_with fail
                  refine wp_region_noPanic ?_
                  refine wp_region_held_drew (S := fun w' => Below wr.heap.size wr w') (by kernel_rfl) ((Below.refl _ _).drew) (fun hHeld => ?_)
                  have hT : Below wr.heap.size wr wr.drew := hHeld
                  obtain ⟨d, hd⟩ : ∃ d, d = wr.drew := ⟨_, rfl⟩
                  rw [← hd] at hHeld hT ⊢
                  clear hd
                  refine wpAnyH_take (i := 0) (oi := ⟨some 38, .move (.tmp 1), 35, _, _, _⟩) (v := ?v0c) rfl (by kernel_rfl) (by kernel_rfl) (by kernel_rfl) (fun _ _ _ h => h) (Or.inl ⟨by rfl, ?hy0c⟩) hHeld ?rest0c
                  case hy0c => intro w9 hSw; go_simp; (try with_reducible rfl)
                  try simp only [Act.put, s_put, s_0, s_1]
                  refine wpAnyH_take (i := 1) (oi := ⟨some 39, .move (.tmp 6), 23, _, _, _⟩) (v := ?v1c) rfl (by kernel_rfl) (by kernel_rfl) (by kernel_rfl) (fun _ _ _ h => h) (Or.inl ⟨by rfl, ?hy1c⟩) hHeld ?rest1c
                  case hy1c => intro w9 hSw; go_simp; (try with_reducible rfl)
                  try simp only [Act.put, s_put, s_0, s_1]
                  refine wpAnyH_take (i := 2) (oi := ⟨some 40, .move (.tmp 7), 3, _, _, _⟩) (v := ?v2c) rfl (by kernel_rfl) (by kernel_rfl) (by kernel_rfl) (fun _ _ _ h => h) (Or.inl ⟨by rfl, ?hy2c⟩) hHeld ?rest2c
                  case hy2c => intro w9 hSw; go_simp; (try with_reducible rfl)
                  try simp only [Act.put, s_put, s_0, s_1]
                  refine wpAnyH_take (i := 3) (oi := ⟨some 41, .indexAddr 23 (.tmp 39) (.tmp 40), 0, _, _, _⟩) (v := ?v3c) rfl (by kernel_rfl) (by kernel_rfl) (by kernel_rfl) (fun _ _ _ h => h) (Or.inl ⟨by rfl, ?hy3c⟩) hHeld ?rest3c
                  case hy3c => intro w9 hSw; go_simp; (try with_reducible rfl)
                  try simp only [Act.put, s_put, s_0, s_1]
                  refine wpAnyH_take (i := 4) (oi := ⟨some 42, .load 39 (.tmp 41), 39, _, _, _⟩) (v := ?v4c) rfl (by kernel_rfl) (by kernel_rfl) (by kernel_rfl) (fun _ _ _ h => h) (Or.inl ⟨by rfl, ?hy4c⟩) hHeld ?rest4c
                  case hy4c => intro w9 hSw; obtain ⟨d0, d1, d2, d3, d4, d5, d6⟩ := N1.out.later hSw; go_simp; (try with_reducible rfl)
                  try simp only [Act.put, s_put, s_0, s_1]
                  refine wpAnyH_take (i := 5) (oi := ⟨some 43, .move (.tmp 6), 23, _, _, _⟩) (v := ?v5c) rfl (by kernel_rfl) (by kernel_rfl) (by kernel_rfl) (fun _ _ _ h => h) (Or.inl ⟨by rfl, ?hy5c⟩) hHeld ?rest5c
                  case hy5c => intro w9 hSw; go_simp; (try with_reducible rfl)
                  try simp only [Act.put, s_put, s_0, s_1]
                  refine wpAnyH_take (i := 6) (oi := ⟨some 44, .move (.tmp 7), 3, _, _, _⟩) (v := ?v6c) rfl (by kernel_rfl) (by kernel_rfl) (by kernel_rfl) (fun _ _ _ h => h) (Or.inl ⟨by rfl, ?hy6c⟩) hHeld ?rest6c
                  case hy6c => intro w9 hSw; go_simp; (try with_reducible rfl)
                  try simp only [Act.put, s_put, s_0, s_1]
                  refine wpAnyH_take (i := 7) (oi := ⟨some 45, .binOp BinOp.sub 3 (.tmp 44) (.const (Value.int IntKind.i64 1)) 3, 3, _, _, _⟩) (v := .int .i64 (i : Int)) rfl (by kernel_rfl) (by kernel_rfl) (by kernel_rfl) (fun _ _ _ h => h) (Or.inl ⟨by rfl, ?hy7c⟩) hHeld ?rest7c
                  case hy7c => intro w9 hSw; go_simp; try (rw [IntKind.wrap_i64]; omega)
                  try simp only [Act.put, s_put, s_0, s_1]
                  refine wpAnyH_take (i := 8) (oi := ⟨some 46, .indexAddr 23 (.tmp 43) (.tmp 45), 0, _, _, _⟩) (v := ?v8c) rfl (by kernel_rfl) (by kernel_rfl) (by kernel_rfl) (fun _ _ _ h => h) (Or.inl ⟨by rfl, ?hy8c⟩) hHeld ?rest8c
                  case hy8c => intro w9 hSw; go_simp; (try with_reducible rfl)
                  try simp only [Act.put, s_put, s_0, s_1]
                  refine wpAnyH_take (i := 9) (oi := ⟨some 47, .load 39 (.tmp 46), 39, _, _, _⟩) (v := ?v9c) rfl (by kernel_rfl) (by kernel_rfl) (by kernel_rfl) (fun _ _ _ h => h) (Or.inl ⟨by rfl, ?hy9c⟩) hHeld ?rest9c
                  case hy9c => intro w9 hSw; obtain ⟨d0, d1, d2, d3, d4, d5, d6⟩ := N2.out.later hSw; go_simp; (try with_reducible rfl)
                  try simp only [Act.put, s_put, s_0, s_1]
                  refine wpAnyH_ready (rs := [10]) (by kernel_rfl) (by simp) ?_
                  refine AllReadyH.cons (o := ⟨some 48, .call { callee := .value (.tmp 38), args := #[.tmp 42, .tmp 47], argTypes := #[39, 39] }, 4, _, _, _⟩) rfl (fun K hK => ?_) AllReadyH.nil
                  go_simp
                  refine (CE.out _ hT).mono ?_
                  rintro e x10 ⟨rfl, hN10⟩
                  go_wp2_with fail
                  have hT10 : Below wr.heap.size wr x10 := hT.trans (hN10.mono hT.size)
                  refine hK.out _ _ (hHeld.trans (hN10.mono hHeld.size)) (fun _ => held_up (S' := fun w' => Below x10.heap.size x10 w') (fun w' h' => (hHeld.trans (hN10.mono hHeld.size)).trans (h'.mono (Nat.le_trans hHeld.size hN10.size))) _ _ _ _ ?_)
                  clear hK K hHeld hT
                  have hT : Below wr.heap.size wr x10 := hT10
                  have hHeld : Below x10.heap.size x10 x10 := Below.refl _ _
                  clear hT10 hN10
                  try simp only [Act.put, s_put, s_0, s_1]
                  refine wpAnyH_take (i := 11) (oi := ⟨some 49, .unOp UnOp.not 4 (.tmp 48), 4, _, _, _⟩) (v := ?v11c) rfl (by kernel_rfl) (by kernel_rfl) (by kernel_rfl) (fun _ _ _ h => h) (Or.inl ⟨by rfl, ?hy11c⟩) hHeld ?rest11c
                  case hy11c => intro w9 hSw; go_simp; (try with_reducible rfl)
                  try simp only [Act.put, s_put, s_0, s_1]
                  refine wpAnyH_done (by kernel_rfl) ?_ _
                  refine NoPanic.normal ?_
                  have hB1 : Below B w x10 := hB.trans (hT.mono (Nat.le_trans hBw.out hB.size))
                  have HO1 : Hid (x10.ownsRow B 39 7 (.slice (some ⟨g, 0, none⟩) n cap) n (rowLX M)) := own_laterS HO.out hT
                  obtain ⟨z, hz⟩ : ∃ z, M[K]? = some z := ⟨_, List.getElem?_eq_getElem (by rw [HML.out]; omega)⟩
                  have hrz := (rwOfX HO1.out HML.out (by omega)).1 K z hz
                  rw [Nat.zero_add] at hrz
                  obtain ⟨z0, z1, z2, z3, z4, z5, z6⟩ := hrz
                  obtain ⟨d0, d1, d2, d3, d4, d5, d6⟩ := N1.out.later hT
                  have f0 := HO1.out.frozenAt (K * 7)
                  have f1 := HO1.out.frozenAt (K * 7 + 1)
                  have f2 := HO1.out.frozenAt (K * 7 + 2)
                  have f3 := HO1.out.frozenAt (K * 7 + 3)
                  have f4 := HO1.out.frozenAt (K * 7 + 4)
                  have f5 := HO1.out.frozenAt (K * 7 + 5)
                  have f6 := HO1.out.frozenAt (K * 7 + 6)
                  obtain ⟨V, hV, OV, BV⟩ := own_setX HO1.out HML.out hKn x2 hBg
                  have HOV : Hid (V.ownsRow B 39 7 (.slice (some ⟨g, 0, none⟩) n cap) n (rowLX (M.set K x2))) := OV
                  have HBV : Hid (Below B w V) := hB1.trans BV
                  have HI2 : Hid (CpInv eq L (M.set K x2) (j + 1 + (i + 1 + 1)) (K + 1)) := HI'.out.keep HX2.out.1 HX2.out.2 HQ2.out.symm
                  clear hT hHeld hB HO HO1 N1 N2 hz OV BV CE hB1
                  go_wp2
                  go_roundw
                  case rel => exact ⟨K + 1, i + 1, M.set K x2, by go_num, by go_num, by have := HIN.out; omega, by omega, HI2, HOV, HBV.out⟩
                  case measure => have := HIN.out; simp [intOf]; omega
              · · go_wp2_with fail
                  refine wp_region_noPanic ?_
                  refine wp_region_held_drew (S := fun w' => Below wr.heap.size wr w') (by kernel_rfl) ((Below.refl _ _).drew) (fun hHeld => ?_)
                  have hT : Below wr.heap.size wr wr.drew := hHeld
                  obtain ⟨d, hd⟩ : ∃ d, d = wr.drew := ⟨_, rfl⟩
                  rw [← hd] at hHeld hT ⊢
                  clear hd
                  refine wpAnyH_take (i := 0) (oi := ⟨some 38, .move (.tmp 1), 35, _, _, _⟩) (v := ?v0d) rfl (by kernel_rfl) (by kernel_rfl) (by kernel_rfl) (fun _ _ _ h => h) (Or.inl ⟨by rfl, ?hy0d⟩) hHeld ?rest0d
                  case hy0d => intro w9 hSw; go_simp; (try with_reducible rfl)
                  try simp only [Act.put, s_put, s_0, s_1]
                  refine wpAnyH_take (i := 1) (oi := ⟨some 39, .move (.tmp 6), 23, _, _, _⟩) (v := ?v1d) rfl (by kernel_rfl) (by kernel_rfl) (by kernel_rfl) (fun _ _ _ h => h) (Or.inl ⟨by rfl, ?hy1d⟩) hHeld ?rest1d
                  case hy1d => intro w9 hSw; go_simp; (try with_reducible rfl)
                  try simp only [Act.put, s_put, s_0, s_1]
                  refine wpAnyH_take (i := 2) (oi := ⟨some 40, .move (.tmp 7), 3, _, _, _⟩) (v := ?v2d) rfl (by kernel_rfl) (by kernel_rfl) (by kernel_rfl) (fun _ _ _ h => h) (Or.inl ⟨by rfl, ?hy2d⟩) hHeld ?rest2d
                  case hy2d => intro w9 hSw; go_simp; (try with_reducible rfl)
                  try simp only [Act.put, s_put, s_0, s_1]
                  refine wpAnyH_take (i := 3) (oi := ⟨some 41, .indexAddr 23 (.tmp 39) (.tmp 40), 0, _, _, _⟩) (v := ?v3d) rfl (by kernel_rfl) (by kernel_rfl) (by kernel_rfl) (fun _ _ _ h => h) (Or.inl ⟨by rfl, ?hy3d⟩) hHeld ?rest3d
                  case hy3d => intro w9 hSw; go_simp; (try with_reducible rfl)
                  try simp only [Act.put, s_put, s_0, s_1]
                  refine wpAnyH_take (i := 4) (oi := ⟨some 42, .load 39 (.tmp 41), 39, _, _, _⟩) (v := ?v4d) rfl (by kernel_rfl) (by kernel_rfl) (by kernel_rfl) (fun _ _ _ h => h) (Or.inl ⟨by rfl, ?hy4d⟩) hHeld ?rest4d
                  case hy4d => intro w9 hSw; obtain ⟨d0, d1, d2, d3, d4, d5, d6⟩ := N1.out.later hSw; go_simp; (try with_reducible rfl)
                  try simp only [Act.put, s_put, s_0, s_1]
                  refine wpAnyH_take (i := 5) (oi := ⟨some 43, .move (.tmp 6), 23, _, _, _⟩) (v := ?v5d) rfl (by kernel_rfl) (by kernel_rfl) (by kernel_rfl) (fun _ _ _ h => h) (Or.inl ⟨by rfl, ?hy5d⟩) hHeld ?rest5d
                  case hy5d => intro w9 hSw; go_simp; (try with_reducible rfl)
                  try simp only [Act.put, s_put, s_0, s_1]
                  refine wpAnyH_take (i := 6) (oi := ⟨some 44, .move (.tmp 7), 3, _, _, _⟩) (v := ?v6d) rfl (by kernel_rfl) (by kernel_rfl) (by kernel_rfl) (fun _ _ _ h => h) (Or.inl ⟨by rfl, ?hy6d⟩) hHeld ?rest6d
                  case hy6d => intro w9 hSw; go_simp; (try with_reducible rfl)
                  try simp only [Act.put, s_put, s_0, s_1]
                  refine wpAnyH_take (i := 7) (oi := ⟨some 45, .binOp BinOp.sub 3 (.tmp 44) (.const (Value.int IntKind.i64 1)) 3, 3, _, _, _⟩) (v := .int .i64 (i : Int)) rfl (by kernel_rfl) (by kernel_rfl) (by kernel_rfl) (fun _ _ _ h => h) (Or.inl ⟨by rfl, ?hy7d⟩) hHeld ?rest7d
                  case hy7d => intro w9 hSw; go_simp; try (rw [IntKind.wrap_i64]; omega)
                  try simp only [Act.put, s_put, s_0, s_1]
                  refine wpAnyH_take (i := 8) (oi := ⟨some 46, .indexAddr 23 (.tmp 43) (.tmp 45), 0, _, _, _⟩) (v := ?v8d) rfl (by kernel_rfl) (by kernel_rfl) (by kernel_rfl) (fun _ _ _ h => h) (Or.inl ⟨by rfl, ?hy8d⟩) hHeld ?rest8d
                  case hy8d => intro w9 hSw; go_simp; (try with_reducible rfl)
                  try simp only [Act.put, s_put, s_0, s_1]
                  refine wpAnyH_take (i := 9) (oi := ⟨some 47, .load 39 (.tmp 46), 39, _, _, _⟩) (v := ?v9d) rfl (by kernel_rfl) (by kernel_rfl) (by kernel_rfl) (fun _ _ _ h => h) (Or.inl ⟨by rfl, ?hy9d⟩) hHeld ?rest9d
                  case hy9d => intro w9 hSw; obtain ⟨d0, d1, d2, d3, d4, d5, d6⟩ := N2.out.later hSw; go_simp; (try with_reducible rfl)
                  try simp only [Act.put, s_put, s_0, s_1]
                  refine wpAnyH_ready (rs := [10]) (by kernel_rfl) (by simp) ?_
                  refine AllReadyH.cons (o := ⟨some 48, .call { callee := .value (.tmp 38), args := #[.tmp 42, .tmp 47], argTypes := #[39, 39] }, 4, _, _, _⟩) rfl (fun K hK => ?_) AllReadyH.nil
                  go_simp
                  refine (CE.out _ hT).mono ?_
                  rintro e x10 ⟨rfl, hN10⟩
                  go_wp2_with fail
                  have hT10 : Below wr.heap.size wr x10 := hT.trans (hN10.mono hT.size)
                  refine hK.out _ _ (hHeld.trans (hN10.mono hHeld.size)) (fun _ => held_up (S' := fun w' => Below x10.heap.size x10 w') (fun w' h' => (hHeld.trans (hN10.mono hHeld.size)).trans (h'.mono (Nat.le_trans hHeld.size hN10.size))) _ _ _ _ ?_)
                  clear hK K hHeld hT
                  have hT : Below wr.heap.size wr x10 := hT10
                  have hHeld : Below x10.heap.size x10 x10 := Below.refl _ _
                  clear hT10 hN10
                  try simp only [Act.put, s_put, s_0, s_1]
                  refine wpAnyH_take (i := 11) (oi := ⟨some 49, .unOp UnOp.not 4 (.tmp 48), 4, _, _, _⟩) (v := ?v11d) rfl (by kernel_rfl) (by kernel_rfl) (by kernel_rfl) (fun _ _ _ h => h) (Or.inl ⟨by rfl, ?hy11d⟩) hHeld ?rest11d
                  case hy11d => intro w9 hSw; go_simp; (try with_reducible rfl)
                  try simp only [Act.put, s_put, s_0, s_1]
                  refine wpAnyH_done (by kernel_rfl) ?_ _
                  refine NoPanic.normal ?_
                  have HI2 : Hid (CpInv eq L M (j + 1 + (i + 1 + 1)) K) := HI'.out.skip HX2.out.1 HX2.out.2 HQ2.out.symm
                  go_wp2
                  go_roundw
                  case rel => exact ⟨K, i + 1, M, rfl, by go_num, by have := HIN.out; omega, hK, HI2, own_laterS HO.out hT, hB.trans (hT.mono (Nat.le_trans hBw.out hB.size))⟩
                  case measure => have := HIN.out; simp [intOf]; omega
            · obtain ⟨zs, hzs⟩ : ∃ zs, zs = (Builtin.zeroCells ((.agg #[.int .i64 0, .int .i64 0, .int .i64 0, .string ⟨#[]⟩, .string ⟨#[]⟩, .string ⟨#[]⟩, .slice none 0 0]) : Value).cells (n - K)).toList := ⟨_, rfl⟩
              have hML : M.length = n := HI.out.len.trans HL.out
              have hcl : ∀ ty, (Builtin.clear_ #[23] ty #[.slice (some ⟨g, K * 7, none⟩) (n - K) (cap - K)]).run Try.prog wr = .ok (.tuple #[]) (wr.setCells g (K * 7) zs) := fun ty => by
                rw [hzs]
                refine run_clear15 wr 23 39 ty (.agg #[.int .i64 0, .int .i64 0, .int .i64 0, .string ⟨#[]⟩, .string ⟨#[]⟩, .string ⟨#[]⟩, .slice none 0 0]) Try.underlying23 zeroCpX (by simp [Value.cells, Value.oneCell']) (by simp [Value.cells]) g (K * 7) (n - K) (cap - K) (by omega) (fun j2 hj2 => ?_) (fun j2 _ => HO.out.frozenAt _)
                have hsz : ((.agg #[.int .i64 0, .int .i64 0, .int .i64 0, .string ⟨#[]⟩, .string ⟨#[]⟩, .string ⟨#[]⟩, .slice none 0 0]) : Value).cells.size = 7 := rfl
                rw [hsz] at hj2
                rw [HO.out.cellAt _ (by omega), List.getElem?_eq_getElem (by rw [rowLX_len, hML]; omega)]
                rfl
              have hfin : Hid ((wr.setCells g (K * 7) zs).ownsRow B 39 7 (.slice (some ⟨g, 0, none⟩) K cap) K (rowLX (compactL eq L)) ∧ K = (compactL eq L).length ∧ Below B w (wr.setCells g (K * 7) zs)) := by
                have e : M.take K = compactL eq L := by have := HI.out.lo; rwa [show j + 1 + (i + 1) = n by omega, List.take_of_length_le (l := L) (i := n) (by rw [HL.out]; exact Nat.le_refl _)] at this
                have o1 := own_cut HO.out (show K ≤ n by omega)
                rw [rowLX_take, e] at o1
                refine ⟨own_setCells zs _ wr o1 (by omega), ?_, below_setCells15 hBg zs _ wr hB⟩
                rw [← e, List.length_take, hML]
                omega
              generalize wr.setCells g (K * 7) zs = V at hcl hfin
              clear HO HI hB hzs
              go_wp2
              go_ret
              exact ⟨K, rfl, ⟨hfin.out.2.1, hfin.out.1⟩, hfin.out.2.2⟩
    · obtain rfl : n = j + 1 := by omega
      go_wp2
      go_ret
      have e : compactL eq L = L := by have := HJ.out; rwa [List.take_of_length_le (by rw [HL.out]; exact Nat.le_refl _)] at this
      exact ⟨_, rfl, ⟨by rw [e, HL.out], by rw [e]; exact HO.out⟩, hB⟩
end Go.Proofs.Ytcdehohmgfocdaa
namespace Go.Proofs.Ytcdehohmgfocdaa
open Go.RowKit

/-- A copy of x that lies in new memory. -/
def NewX (x : X) (d : World) (e : Ending) (w' : World) : Prop := ∃ q : X, e = .returned q.val ∧ Hid (IsX w' q ∧ ordX q x = 0 ∧ ∀ k, inX k q → d.heap.size ≤ k) ∧ Below d.heap.size d w'
theorem ren_none (S T : Nat → ByteArray) : ∀ x : X, ordX (renX (nameX S T 0) x) x = 0 := by
  refine X.ind fun x ih => ?_
  obtain ⟨a1, a2, a3, a4, a5, a6⟩ := renX_parts (nameX S T 0) x
  rw [ordX_zero, a1, a2, a3, a4, a5]
  refine ⟨rfl, rfl, ?_, rfl, rfl, fun i hi => by rw [a6]; exact ih i hi⟩
  split <;> rfl
abbrev zeroX15 : Array Value := #[.int .i64 0, .int .i64 0, .int .i64 0, .string ⟨#[]⟩, .string ⟨#[]⟩, .string ⟨#[]⟩, .slice none 0 0]
theorem isX_other {w W : World} {q : X} {T : Nat → Prop} (h : IsX w q) (hT : ∀ k, inX k q → T k) (hk : ∀ k, T k → W.heap[k]? = w.heap[k]?) : IsX W q := h.kept (T := T) (fun k _ hk' _ e => (hk k hk').trans e) hT
set_option maxRecDepth 100000 in
set_option maxHeartbeats 8000000 in
theorem conds1_any (x : X) (w : World) (hX : IsX w x) (hsm : WdX x) (hok : XOk x) : Calls Try.prog 39 #[x.val] w (NewX x w) := by
  obtain ⟨A, hA⟩ : ∃ A, (w.alloc (.cells x.cells 39)).alloc (.cells zeroX15 39) = A := ⟨_, rfl⟩
  have hB : Below w.heap.size w A := by rw [← hA]; exact ((Below.refl _ w).alloc (Nat.le_refl _) _).alloc (by simp) _
  have hs : A.heap.size = w.heap.size + 2 := by rw [← hA]; simp
  have hn : Node A w.heap.size 0 x := by rw [← hA]; exact (node_new w _ x).later ((Below.refl _ _).alloc (Nat.le_refl _) _)
  have hr : A.heap[w.heap.size + 1]? = some (.cells zeroX15 39 (0, 0)) := by rw [← hA]; exact alloc2_new _ _ _
  obtain ⟨a0, a1, a2, a3, a4, a5, a6⟩ := hn.at0
  have hc : Hid (Calls Try.prog 40 #[x.val, .slice none 0 0, .slice none 0 0] A fun e w' => ∃ y : X, e = .returned y.val ∧ Hid (IsX w' y ∧ ordX y x = 0 ∧ ∀ k, inX k y → A.heap.size ≤ k) ∧ Below A.heap.size A w') := by
    refine (renameN_wide x none none 0 0 0 0 (fun _ => ⟨#[]⟩) (fun _ => ⟨#[]⟩) A (hX.later hB) hsm hok (fun h => absurd h (Nat.lt_irrefl _)) (fun h => absurd h (Nat.lt_irrefl _)) (by omega) (by omega) (by omega) (by omega) (fun j hj => absurd hj (Nat.not_lt_zero _))).mono ?_
    rintro e w' ⟨y, rfl, h1, h2, h3, h4⟩
    exact ⟨y, rfl, ⟨h1.is, ordX3.eq h2 (ren_none _ _ x), h3⟩, h4⟩
  have HB : Hid (Below w.heap.size w A) := hB
  have HS : Hid (A.heap.size = w.heap.size + 2) := hs
  have H1 : Hid (A.heap[w.heap.size + 1]? = some (.cells zeroX15 39 (0, 0))) := hr
  clear hB hn hr hX hs hsm hok
  unfold NewX
  go_enter Try.func39, Try.ntmps39
  go_wp2_with (go_at_call 40; refine hc.out.mono ?_; clear hc; rintro e w2 ⟨q, rfl, hq, hB2⟩; have k1 := (hB2.block (w.heap.size + 1) (by have := HS.out; omega)).trans H1.out; obtain ⟨e0, e1, e2, e3, e4, e5, e6⟩ := (node_box (x := .nil) k1).at0; have f0 := Free.frozen ⟨_, k1⟩ 0; have f1 := Free.frozen ⟨_, k1⟩ 1; have f2 := Free.frozen ⟨_, k1⟩ 2; have f3 := Free.frozen ⟨_, k1⟩ 3; have f4 := Free.frozen ⟨_, k1⟩ 4; have f5 := Free.frozen ⟨_, k1⟩ 5; have f6 := Free.frozen ⟨_, k1⟩ 6)
  have hblk : (set7 w2 (w.heap.size + 1) q).heap[w.heap.size + 1]? = some (.cells q.cells 39 (0, 0)) := heap_set7 (z := .nil) k1
  refine bodyPost_ret (results_cell_row rfl _ _ (w.heap.size + 1) 39 _ (0, 0) _ rfl hblk Try.underlying39 rfl (by kernel_rfl)) rfl ?_
  have hs := HS.out
  have hBw : Below w.heap.size w w2 := HB.out.trans (hB2.mono HB.out.size)
  exact ⟨q, rfl, ⟨isX_other (T := fun k => w.heap.size + 2 ≤ k) hq.out.1 (fun k hk => by have := hq.out.2.2 k hk; omega) (fun k hk => heap_set7_other (by omega)), hq.out.2.1, fun k hk => by have := hq.out.2.2 k hk; omega⟩, below_set7 hBw (by omega)⟩
set_option maxRecDepth 100000 in
set_option maxHeartbeats 8000000 in
theorem eachXX_any (a : Option Addr) (n cap : Nat) (D : Nat → X) (w : World) (hn : n ≤ 1048576) (hR : ∀ i, i < n → ∃ b o, a = some ⟨b, o, none⟩ ∧ Node w b (o + i * 7) (D i))
    (hC : ∀ i, i < n → ∀ d, Below w.heap.size w d → Calls Try.prog 39 #[(D i).val] d (NewX (D i) d)) :
    Calls Try.prog 38 #[.slice a n cap, .func (.func 39) #[] #[]] w fun e w' => ∃ (a' : Option Addr) (cap' : Nat) (c : Nat → X), e = .returned (.slice a' n cap') ∧ Hid (Grown w.heap.size w' (.slice a' n cap') n c ∧ ∀ i, i < n → ordX (c i) (D i) = 0) ∧ Below w.heap.size w w' := by
  have HR : Hid (∀ i, i < n → ∃ b o, a = some ⟨b, o, none⟩ ∧ Node w b (o + i * 7) (D i)) := hR
  have HC : Hid (∀ i, i < n → ∀ d, Below w.heap.size w d → Calls Try.prog 39 #[(D i).val] d (NewX (D i) d)) := hC
  clear hR hC
  go_enter Try.func38, Try.ntmps38
  go_wp2
  go_loopw [5, 10] (fun u v wr => ∃ (k : Nat) (a' : Option Addr) (cap' : Nat) (c : Nat → X), k ≤ n ∧ u = .slice a' k cap' ∧ v = .int .i64 k ∧ Hid (Grown w.heap.size wr (.slice a' k cap') k c ∧ ∀ i, i < k → ordX (c i) (D i) = 0) ∧ Below w.heap.size w wr) (fun _ v _ => n - (intOf v).toNat)
  case atStart => exact ⟨0, none, 0, fun _ => .nil, Nat.zero_le _, rfl, rfl, ⟨grown_nil _ _ _, fun i hi => absurd hi (Nat.not_lt_zero _)⟩, Below.refl _ _⟩
  case round =>
    obtain ⟨k, a', cap', c, hk, rfl, rfl, HG, hB⟩ := hrel
    by_cases hkn : k < n
    · obtain ⟨b, o, rfl, hn1⟩ := HR.out k hkn
      obtain ⟨A, hA⟩ : ∃ A, wr.alloc (.cells (D k).cells 39) = A := ⟨_, rfl⟩
      have hBA : Below wr.heap.size wr A := by rw [← hA]; exact (Below.refl _ _).alloc (Nat.le_refl _) _
      have hm1 : Node A wr.heap.size 0 (D k) := by rw [← hA]; exact node_new wr _ (D k)
      obtain ⟨d0, d1, d2, d3, d4, d5, d6⟩ := hn1.later hB
      obtain ⟨g0, g1, g2, g3, g4, g5, g6⟩ := hm1.at0
      have HK : Hid (k < n) := hkn
      have HB0 : Hid (Below w.heap.size w A) := hB.trans (hBA.mono hB.size)
      have HG2 : Hid (Grown w.heap.size A (.slice a' k cap') k c) := HG.out.1.later hBA
      have hc : Hid (Calls Try.prog 39 #[(D k).val] A (NewX (D k) A)) := HC.out k hkn A HB0.out
      have HLT : Hid (∀ q, (Value.slice a' k cap').ownBlock = some q → q < A.heap.size) := fun q e => (HG2.out.1.lt q e).2
      have hk6 : Hid (k ≤ 1048576) := by show k ≤ _; omega
      clear hn1 hBA hm1
      go_wp2_with (first
        | (go_at_call 39; refine hc.out.mono ?_; clear hc; rintro e w2 ⟨q, rfl, hq, hB2⟩; obtain ⟨a3, cap3, w3, run3, G3, hB3, -⟩ := (HG2.out.later hB2).push (HB0.out.trans (hB2.mono HB0.out.size)).size hk6.out q hq.out.1 (fun z hz => ⟨Nat.le_trans HB0.out.size (hq.out.2.2 z hz), fun e => by have := HLT.out z e; have := hq.out.2.2 z hz; omega⟩); have R3 : Hid (_ = _) := run3; have HG3 : Hid (Grown _ _ _ _ _) := G3; have HB3 : Hid (Below w.heap.size w w3) := (HB0.out.trans (hB2.mono HB0.out.size)).trans hB3; clear run3 G3 hB3)
        | (at_builtin; refine wpList_append_run rfl (.tmp 14) (.tmp 18) 23 rfl _ _ _ rfl rfl R3.out ?_))
      go_roundw
      case rel =>
        refine ⟨k + 1, a3, cap3, _, HK.out, rfl, by go_num, ⟨HG3.out, fun i hi => ?_⟩, HB3.out⟩
        by_cases e : i = k
        · subst e
          rw [upd_same]
          exact hq.out.2.1
        · rw [upd_other e]
          exact HG.out.2 i (by omega)
      case measure => have := HK.out; simp [intOf]; omega
    · obtain rfl : k = n := by omega
      go_wp2
      go_ret
      exact ⟨a', cap', c, rfl, HG, hB⟩
def eX (x y : X) : Bool := ordX x y == 0
theorem eX_iff (x y : X) : eX x y = true ↔ ordX x y = 0 := by simp [eX]
/-- A row of conditions. -/
def Xs (w : World) (a : Option Addr) (n : Nat) (c : Nat → X) : Prop := ∀ i, i < n → ∃ b o, a = some ⟨b, o, none⟩ ∧ Node w b (o + i * 7) (c i) ∧ IsX w (c i)
theorem Xs.later {w w' : World} {a : Option Addr} {n : Nat} {c : Nat → X} (h : Xs w a n c) (hB : Below w.heap.size w w') : Xs w' a n c := fun i hi => by
  obtain ⟨b, o, e, h1, h2⟩ := h i hi
  exact ⟨b, o, e, h1.later hB, h2.later hB⟩
theorem Grown.xs15 {B n : Nat} {w : World} {a : Option Addr} {cap : Nat} {c : Nat → X} (h : Grown B w (.slice a n cap) n c) : Xs w a n c := fun i hi => by
  obtain ⟨a', cap', e, h1, h2, h3⟩ := own_nodes h.1
  cases e
  obtain ⟨g, e, _, _, _, hn⟩ := h3 (by omega)
  exact ⟨g, 0, e, by rw [Nat.zero_add]; exact hn i hi, (h.2 i hi).1⟩
/-- Conds' answer. -/
def CondsAns (L : List X) (d : World) (e : Ending) (w' : World) : Prop := ∃ (a' : Option Addr) (cap' m : Nat) (c : Nat → X) (u : List X), e = .returned (.slice a' m cap') ∧ Hid (Xs w' a' m c ∧ Once ordX L u ∧ u.length = m ∧ (∀ i, i < m → ordX (c i) (u.getD i .nil) = 0) ∧ m ≤ L.length) ∧ Below d.heap.size d w'
set_option maxRecDepth 100000 in
set_option maxHeartbeats 4000000 in
theorem conds_any (a : Option Addr) (n cap : Nat) (L : List X) (w : World) (hL : L.length = n) (hR : 0 < n → ∃ b o, a = some ⟨b, o, none⟩ ∧ RwX w b o L) (hI : ∀ x ∈ L, IsX w x ∧ WdX x ∧ XOk x) (hc : n ≤ cap) (hm : cap ≤ 9223372036854775807) (hn : n ≤ 1048576) :
    Calls Try.prog 13 #[.slice a n cap] w (CondsAns L w) := by
  have hS := sortedX_any ordX ordX3 n a cap L w hL hR hc hm hn fun x hx y hy d hd => orderX_any x y d ((hI x hx).1.later hd) ((hI y hy).1.later hd)
  have H2 : Hid (∀ (v : Value) (r : List X) (d : World), Hid (d.ownsRow w.heap.size 39 7 v n (rowLX r) ∧ St ordX L r) → Below w.heap.size w d → Calls Try.prog 34 #[v, .func (.func 37) #[] #[]] d fun e w' => ∃ v2, e = .returned v2 ∧ Hid (w'.ownsRow w.heap.size 39 7 v2 (compactL eX r).length (rowLX (compactL eX r)) ∧ Once ordX L (compactL eX r)) ∧ Below w.heap.size d w') := fun v r d hr hd => by
    have hl : r.length = n := hr.out.2.perm.length_eq.trans hL
    have ho : Once ordX L (compactL eX r) := Once.compact ordX3 eX_iff hr.out.2
    by_cases h2 : n < 2
    · have hv : ∃ a cap, v = .slice a n cap := by
        rcases hr.out.1.2 with ⟨rfl, rfl⟩ | ⟨g, cap, _, rfl, _⟩
        · exact ⟨none, 0, rfl⟩
        · exact ⟨_, cap, rfl⟩
      obtain ⟨a2, cap2, rfl⟩ := hv
      refine (compactX_less eX a2 n cap2 d h2).mono ?_
      rintro e w' ⟨rfl, rfl⟩
      rw [compact_less eX (by omega)] at ho ⊢
      rw [hl]
      exact ⟨_, rfl, ⟨hr.out.1, ho⟩, Below.refl _ _⟩
    · obtain ⟨g, cap2, rfl, _, _, _, _, _⟩ := ownLX hr.out.1 hl (by omega)
      refine (compactX_more eX w.heap.size g n cap2 r d hl hr.out.1 h2 hn fun x hx y hy W hW => ?_).mono ?_
      · have hw := hd.trans hW
        exact sameX_any x y W ((hI x (hr.out.2.perm.mem_iff.1 hx)).1.later hw) ((hI y (hr.out.2.perm.mem_iff.1 hy)).1.later hw)
      · rintro e w' ⟨m, rfl, h, hB⟩
        obtain ⟨rfl, h3⟩ := h.out
        exact ⟨_, rfl, ⟨h3, ho⟩, hB⟩
  have H3 : Hid (∀ (v : Value) (u : List X) (d : World), Hid (d.ownsRow w.heap.size 39 7 v u.length (rowLX u) ∧ Once ordX L u) → u.length ≤ n → Below w.heap.size w d → Calls Try.prog 38 #[v, .func (.func 39) #[] #[]] d fun e w' => ∃ (a' : Option Addr) (cap' : Nat) (c : Nat → X), e = .returned (.slice a' u.length cap') ∧ Hid (Grown d.heap.size w' (.slice a' u.length cap') u.length c ∧ ∀ i, i < u.length → ordX (c i) (u.getD i .nil) = 0) ∧ Below d.heap.size d w') := fun v u d hu hle hd => by
    have hv : ∃ a cap, v = .slice a u.length cap ∧ ∀ i, i < u.length → ∃ b o, a = some ⟨b, o, none⟩ ∧ Node d b (o + i * 7) (u.getD i .nil) := by
      by_cases h0 : 0 < u.length
      · obtain ⟨g, cap, rfl, _, _, _, _, hg⟩ := ownLX hu.out.1 rfl h0
        refine ⟨_, cap, rfl, fun i hi => ⟨g, 0, rfl, hg i _ (by simp [hi])⟩⟩
      · have h0' : u.length = 0 := by omega
        have hO := hu.out.1
        rw [h0'] at hO ⊢
        rcases hO.2 with ⟨rfl, _⟩ | ⟨g, cap, _, rfl, _⟩
        · exact ⟨none, 0, rfl, fun i hi => absurd hi (Nat.not_lt_zero _)⟩
        · exact ⟨_, cap, rfl, fun i hi => absurd hi (Nat.not_lt_zero _)⟩
    obtain ⟨a2, cap2, rfl, hrow⟩ := hv
    refine eachXX_any a2 u.length cap2 (fun i => u.getD i .nil) d (by omega) hrow fun i hi W hW => ?_
    have hmem : u.getD i .nil ∈ L := hu.out.2.mem _ (by rw [List.getD_eq_getElem?_getD, List.getElem?_eq_getElem hi]; exact List.getElem_mem _)
    obtain ⟨q1, q2, q3⟩ := hI _ hmem
    exact conds1_any _ W (q1.later (hd.trans (hW.mono hd.size))) q2 q3
  have HLE : Hid (∀ r : List X, St ordX L r → (compactL eX r).length ≤ n) := fun r hr => by
    have := (compact_sub eX r).length_le
    have := hr.perm.length_eq
    omega
  have HLN : Hid (L.length = n) := hL
  clear hR hI hc hm hL
  unfold CondsAns
  go_enter Try.func13, Try.ntmps13
  go_wp2_with (first
    | (go_at_call 35; refine hS.mono ?_; clear hS; rintro e w2 ⟨v2, r2, rfl, h2, hB2⟩)
    | (go_at_call 34; refine (H2.out _ r2 _ h2 hB2).mono ?_; rintro e w3 ⟨v3, rfl, h3, hB3⟩; have hA3 := hB2.trans hB3)
    | (go_at_call 38; refine (H3.out _ _ _ h3 (HLE.out r2 h2.out.2) hA3).mono ?_; rintro e w4 ⟨a4, cap4, c4, rfl, h4, hB4⟩))
  go_ret
  exact ⟨a4, cap4, _, c4, compactL eX r2, rfl, ⟨h4.out.1.xs15, h3.out.2, rfl, h4.out.2, by rw [HLN.out]; exact HLE.out r2 h2.out.2⟩, hA3.trans (hB4.mono hA3.size)⟩
end Go.Proofs.Ytcdehohmgfocdaa
