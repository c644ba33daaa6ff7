/-
  The document's Conds (haruspexref15).
-/
import Derived.Test.YtcdehohmgfocdaaSBrief
import Derived.Test.YtcdehohmgfocdaaSOrdEach
import Derived.Deep.DeepCutAuto
namespace Go.Proofs.Ytcdehohmgfocdaa
open Go.RowKit

/-- Some more behind a row that the call owns, also out of nil. -/
theorem pushAX {w : World} {base n : Nat} {v : Value} {xs : List Value} (h : w.ownsRow base 39 7 v n xs) (hb : base ≤ w.heap.size) (a : Option Addr) (m k : Nat) (M : List X) (hM : 0 < m → ∃ b o, a = some ⟨b, o, none⟩ ∧ RwX w b o M) (hm : M.length = m) (hnone : a = none → k = 0) (hn : n + m ≤ 1466015503658) :
    ∃ v' w', (Builtin.append_ #[23, 23] 23 #[v, .slice a m k]).run Try.prog w = .ok v' w' ∧ w'.ownsRow base 39 7 v' (n + m) (xs ++ rowLX M) ∧ Below base w w' := by
  cases a with
  | none =>
    obtain rfl : m = 0 := by
      by_cases h0 : 0 < m
      · obtain ⟨_, _, e, _⟩ := hM h0
        cases e
      · omega
    obtain rfl := hnone rfl
    have : M = [] := List.length_eq_zero_iff.1 hm
    subst this
    obtain ⟨i0, hi, -⟩ := info_parts infoX
    refine ⟨v, w, run_append_owned_none (P := Try.prog) w base 23 23 39 i0 7 Try.underlying23 hi v n xs h, ?_, Below.refl _ _⟩
    rw [Nat.add_zero]
    simpa [rowLX] using h
  | some p =>
    obtain ⟨v', w', h1, h2, h3⟩ := push_x h hb p m k (fun i => M.getD i .nil) (fun i hi => by
      obtain ⟨b, o, e, hr⟩ := hM (by omega)
      cases e
      exact ⟨b, o, rfl, hr i _ (by simp [show i < M.length by omega])⟩) hn
    refine ⟨v', w', h1, ?_, (Below.refl base w).grown h3 hb fun k e => (h.lt k e).1⟩
    rw [← hm, rowX_getD, hm] at h2
    exact h2
theorem made_noneX (w : World) : (w.alloc (.cells #[] 39)).ownsRow w.heap.size 39 7 (.slice (some ⟨w.heap.size, 0, none⟩) 0 0) 0 (rowLX []) :=
  ⟨rfl, .inr ⟨w.heap.size, 0, #[], rfl, Nat.le_refl _, alloc_new w _, Nat.le_refl _, Nat.zero_le _, rfl, rfl⟩⟩
/-- One more at place k: three appends, onto new memory. -/
theorem insX {w : World} {i g cap k : Nat} {O : List X} (hO : O.length = i) (hr : RwX w g 0 O) (hk : k ≤ i) (hn : i ≤ 1048576) (hic : i ≤ cap) (x : X) (ao : Option Addr) (hao : ao = some ⟨g, 0, none⟩ ∨ (ao = none ∧ i = 0 ∧ cap = 0)) :
    ∃ v8 w8 v9 w9 v10 w10, (Builtin.append_ #[23, 23] 23 #[.slice (some ⟨w.heap.size, 0, none⟩) 0 0, .slice ao k cap]).run Try.prog (w.alloc (.cells #[] 39)) = .ok v8 w8 ∧
      (Builtin.append_ #[23, 23] 23 #[v8, .slice (some ⟨w8.heap.size, 0, none⟩) 1 1]).run Try.prog (w8.alloc (.cells x.cells 39)) = .ok v9 w9 ∧
      (Builtin.append_ #[23, 23] 23 #[v9, .slice (if cap = k then ao else ao.map fun _ => ⟨g, k * 7, none⟩) (i - k) (cap - k)]).run Try.prog w9 = .ok v10 w10 ∧
      w10.ownsRow w.heap.size 39 7 v10 (i + 1) (rowLX (insL O k x)) ∧ Below w.heap.size w w8 ∧ Below w.heap.size w w10 := by
  have hB0 : Below w.heap.size w (w.alloc (.cells #[] 39)) := (Below.refl _ _).alloc (Nat.le_refl _) _
  have row : 0 < i → ao = some ⟨g, 0, none⟩ := fun hj => by
    rcases hao with h | ⟨_, h, _⟩
    · exact h
    · omega
  obtain ⟨v8, w8, run8, own8, b8⟩ := pushAX (made_noneX w) (by simp) ao k cap (O.take k) (fun h0 => ⟨g, 0, row (by omega), ((hr.later hB0).take k)⟩) (by rw [List.length_take]; omega) (fun e => by
    rcases hao with h | ⟨_, _, h⟩
    · rw [h] at e; cases e
    · exact h) (by omega)
  have hB8 := hB0.trans b8
  obtain ⟨v9, w9, run9, own9, b9⟩ := push1X own8 hB8.size (by omega) x
  have hB9 := hB8.trans b9
  obtain ⟨v10, w10, run10, own10, b10⟩ := pushAX own9 hB9.size (if cap = k then ao else ao.map fun _ => ⟨g, k * 7, none⟩) (i - k) (cap - k) (O.drop k) (fun h0 => by
    have e := row (by omega)
    rw [e]
    by_cases hc : cap = k
    · omega
    · rw [if_neg hc]
      have := (hr.later hB9).drop k
      rw [Nat.zero_add] at this
      exact ⟨g, k * 7, rfl, this⟩) (by rw [List.length_drop]; omega) (fun e => by
    rcases hao with h | ⟨h, _, h2⟩
    · rw [h] at e; split at e <;> cases e
    · omega) (by omega)
  refine ⟨v8, w8, v9, w9, v10, w10, run8, run9, run10, ?_, hB8, hB9.trans b10⟩
  rw [show 0 + k + 1 + (i - k) = i + 1 by omega] at own10
  have e : rowLX (insL O k x) = rowLX [] ++ rowLX (O.take k) ++ rowLX [x] ++ rowLX (O.drop k) := by
    rw [insL, show x :: O.drop k = [x] ++ O.drop k from rfl, rowLX_app, rowLX_app]
    simp [rowLX]
  rw [e]
  exact own10
/-- Where the next is set, if it is not there. -/
theorem once_step {c : X → X → Int} (h3 : Ord3 c) {L O : List X} {i k : Nat} {x : X} (hx : L[i]? = some x) (hs : Once c (L.take i) O) (h1 : ∀ (j : Nat) (y : X), k ≤ j → O[j]? = some y → c x y < 0) (h2 : ∀ (j : Nat) (y : X), k = j + 1 → O[j]? = some y → ¬ c x y < 0 ∧ ¬ c x y = 0) (hk : k ≤ O.length) : Once c (L.take (i + 1)) (insL O k x) := by
  rw [List.take_add_one, hx]
  refine hs.ins h3 x k (fun e he => ?_) ?_
  · obtain ⟨j, hj⟩ := List.mem_iff_getElem?.1 he
    rw [List.getElem?_drop] at hj
    exact h1 (k + j) e (by omega) hj
  · cases k with
    | zero => intro e he; simp at he
    | succ j =>
      have hj : j < O.length := by omega
      obtain ⟨q1, q2⟩ := h2 j _ rfl (List.getElem?_eq_getElem hj)
      exact strict_take h3 hs.srt (List.getElem?_eq_getElem hj) q1 q2
set_option maxRecDepth 100000 in
set_option maxHeartbeats 16000000 in
theorem refConds_any (a : Option Addr) (n cap : Nat) (L : List X) (w : World) (hL : L.length = n) (hR : 0 < n → ∃ b o, a = some ⟨b, o, none⟩ ∧ RwX w b o L) (hn : n ≤ 1048576) (hI : ∀ x ∈ L, IsX w x) :
    Calls Try.prog 14 #[.slice a n cap] w fun e w' => ∃ v r, e = .returned v ∧ Hid (w'.ownsRow w.heap.size 39 7 v r.length (rowLX r) ∧ Once ordX L r) ∧ Below w.heap.size w w' := by
  have HR : Hid (0 < n → ∃ b o, a = some ⟨b, o, none⟩ ∧ RwX w b o L) := hR
  have HI : Hid (∀ x ∈ L, IsX w x) := hI
  have HLL : Hid (L.length = n) := hL
  clear hR hI hL
  go_enter Try.func14, Try.ntmps14
  go_wp2
  go_loopw [3, 4] (fun u v wr => ∃ (i m : Nat) (O : List X), i ≤ n ∧ v = .int .i64 i ∧ m ≤ i ∧ Hid (wr.ownsRow w.heap.size 39 7 u m (rowLX O) ∧ Once ordX (L.take i) O ∧ O.length = m) ∧ (m = 0 → u = .slice none 0 0) ∧ Below w.heap.size w wr) (fun _ v _ => n - (intOf v).toNat)
  case atStart => exact ⟨0, 0, [], Nat.zero_le _, rfl, Nat.le_refl _, ⟨World.ownsRow_nil _ _ _ _, ⟨List.Pairwise.nil, fun x hx => (by cases hx), fun x hx => (by simp at hx)⟩, rfl⟩, fun _ => rfl, Below.refl _ _⟩
  case round =>
    obtain ⟨i, m, O, hi, rfl, hmi, HOS, hnil, hB⟩ := hrel
    by_cases hin : i < n
    · obtain ⟨b, o, rfl, hr⟩ := HR.out (by omega)
      have hil : i < L.length := by have := HLL.out; omega
      obtain ⟨x, hx⟩ : ∃ x, L[i]? = some x := ⟨_, List.getElem?_eq_getElem hil⟩
      have N1w : Hid (Node w b (o + i * 7) x) := hr i x hx
      have IX : Hid (IsX w x) := HI.out x (List.mem_of_getElem? hx)
      have HX : Hid (L[i]? = some x) := hx
      have HIN : Hid (i < n) := hin
      have HMI : Hid (m ≤ i) := hmi
      have HS : Hid (Once ordX (L.take i) O) := HOS.out.2.1
      have HIO : Hid (∀ (j : Nat) (y : X), O[j]? = some y → IsX w y) := fun j y hy => HI.out y (List.mem_of_mem_take (HS.out.mem y (List.mem_of_getElem? hy)))
      have HOL : Hid (O.length = m) := HOS.out.2.2
      by_cases i0 : m = 0
      · obtain rfl := hnil i0
        subst i0
        have eO : Hid (O = []) := List.length_eq_zero_iff.1 HOL.out
        have HO : Hid (wr.ownsRow w.heap.size 39 7 (.slice none 0 0) 0 (rowLX O)) := HOS.out.1
        clear HOS hnil hx hr hil hmi
        obtain ⟨g, hg⟩ : ∃ c : Nat, c = 0 := ⟨0, rfl⟩
        clear hg
        go_wp2
        go_loopw [5] (fun u wz => u = .int .i64 0 ∧ Hid (wz.ownsRow w.heap.size 39 7 (.slice none 0 0) 0 (rowLX O)) ∧ Below w.heap.size w wz) (fun _ _ => 0)
        case atStart => exact ⟨rfl, HO, hB⟩
        case round =>
          clear HO
          obtain ⟨rfl, HO, hB⟩ := hrel
          go_wp2_with fail
          refine wp_region_noPanic ?_
          refine wp_region_held_drew (S := fun w' => Below wr.heap.size wr w') (by kernel_rfl) ((Below.refl _ _).drew) (fun hHeld => ?_)
          have hT : Below wr.heap.size wr wr.drew := hHeld
          obtain ⟨d, hd⟩ : ∃ d, d = wr.drew := ⟨_, rfl⟩
          rw [← hd] at hHeld hT ⊢
          clear hd
          refine wpAnyH_take (i := 0) (oi := ⟨some 15, .move (.tmp 5), 3, _, _, _⟩) (v := ?v0a) rfl (by kernel_rfl) (by kernel_rfl) (by kernel_rfl) (fun _ _ _ h => h) (Or.inl ⟨by rfl, ?hy0a⟩) hHeld ?rest0a
          case hy0a => intro w9 hSw; go_simp; (try with_reducible rfl)
          try simp only [Act.put, s_put, s_0, s_1]
          refine wpAnyH_take (i := 1) (oi := ⟨some 16, .binOp BinOp.gtr 3 (.tmp 15) (.const (Value.int IntKind.i64 0)) 3, 4, _, _, _⟩) (v := ?v1a) rfl (by kernel_rfl) (by kernel_rfl) (by kernel_rfl) (fun _ _ _ h => h) (Or.inl ⟨by rfl, ?hy1a⟩) hHeld ?rest1a
          case hy1a => intro w9 hSw; go_simp; (try with_reducible rfl)
          try simp only [Act.put, s_put, s_0, s_1]
          refine wpAnyH_take (i := 2) (oi := ⟨some 17, .move (.tmp 16), 4, _, _, _⟩) (v := ?v2a) rfl (by kernel_rfl) (by kernel_rfl) (by kernel_rfl) (fun _ _ _ h => h) (Or.inl ⟨by rfl, ?hy2a⟩) hHeld ?rest2a
          case hy2a => intro w9 hSw; go_simp; (try with_reducible rfl)
          try simp only [Act.put, s_put, s_0, s_1]
          refine wpAnyH_take (i := 3) (oi := ⟨some 18, .move (.tmp 0), 23, _, _, _⟩) (v := undef) rfl (by kernel_rfl) (by kernel_rfl) (by kernel_rfl) (fun _ _ _ h => h) (Or.inr ⟨by rfl, rfl⟩) hHeld ?rest3a
          try simp only [Act.put, s_put, s_0, s_1]
          refine wpAnyH_take (i := 4) (oi := ⟨some 19, .move (.tmp 4), 3, _, _, _⟩) (v := undef) rfl (by kernel_rfl) (by kernel_rfl) (by kernel_rfl) (fun _ _ _ h => h) (Or.inr ⟨by rfl, rfl⟩) hHeld ?rest4a
          try simp only [Act.put, s_put, s_0, s_1]
          refine wpAnyH_take (i := 5) (oi := ⟨some 20, .indexAddr 23 (.tmp 18) (.tmp 19), 0, _, _, _⟩) (v := undef) rfl (by kernel_rfl) (by kernel_rfl) (by kernel_rfl) (fun _ _ _ h => h) (Or.inr ⟨by rfl, rfl⟩) hHeld ?rest5a
          try simp only [Act.put, s_put, s_0, s_1]
          refine wpAnyH_take (i := 6) (oi := ⟨some 21, .load 39 (.tmp 20), 39, _, _, _⟩) (v := undef) rfl (by kernel_rfl) (by kernel_rfl) (by kernel_rfl) (fun _ _ _ h => h) (Or.inr ⟨by rfl, rfl⟩) hHeld ?rest6a
          try simp only [Act.put, s_put, s_0, s_1]
          refine wpAnyH_take (i := 7) (oi := ⟨some 22, .move (.tmp 3), 23, _, _, _⟩) (v := undef) rfl (by kernel_rfl) (by kernel_rfl) (by kernel_rfl) (fun _ _ _ h => h) (Or.inr ⟨by rfl, rfl⟩) hHeld ?rest7a
          try simp only [Act.put, s_put, s_0, s_1]
          refine wpAnyH_take (i := 8) (oi := ⟨some 23, .move (.tmp 5), 3, _, _, _⟩) (v := undef) rfl (by kernel_rfl) (by kernel_rfl) (by kernel_rfl) (fun _ _ _ h => h) (Or.inr ⟨by rfl, rfl⟩) hHeld ?rest8a
          try simp only [Act.put, s_put, s_0, s_1]
          refine wpAnyH_take (i := 9) (oi := ⟨some 24, .binOp BinOp.sub 3 (.tmp 23) (.const (Value.int IntKind.i64 1)) 3, 3, _, _, _⟩) (v := undef) rfl (by kernel_rfl) (by kernel_rfl) (by kernel_rfl) (fun _ _ _ h => h) (Or.inr ⟨by rfl, rfl⟩) hHeld ?rest9a
          try simp only [Act.put, s_put, s_0, s_1]
          refine wpAnyH_take (i := 10) (oi := ⟨some 25, .indexAddr 23 (.tmp 22) (.tmp 24), 0, _, _, _⟩) (v := undef) rfl (by kernel_rfl) (by kernel_rfl) (by kernel_rfl) (fun _ _ _ h => h) (Or.inr ⟨by rfl, rfl⟩) hHeld ?rest10a
          try simp only [Act.put, s_put, s_0, s_1]
          refine wpAnyH_take (i := 11) (oi := ⟨some 26, .load 39 (.tmp 25), 39, _, _, _⟩) (v := undef) rfl (by kernel_rfl) (by kernel_rfl) (by kernel_rfl) (fun _ _ _ h => h) (Or.inr ⟨by rfl, rfl⟩) hHeld ?rest11a
          try simp only [Act.put, s_put, s_0, s_1]
          refine wpAnyH_take (i := 12) (oi := ⟨some 27, .call { callee := .value (.func 41), args := #[.tmp 21, .tmp 26], argTypes := #[39, 39] }, 3, _, _, _⟩) (v := undef) rfl (by kernel_rfl) (by kernel_rfl) (by kernel_rfl) (fun _ _ _ h => h) (Or.inr ⟨by rfl, rfl⟩) hHeld ?rest12a
          try simp only [Act.put, s_put, s_0, s_1]
          refine wpAnyH_take (i := 13) (oi := ⟨some 28, .binOp BinOp.lss 3 (.tmp 27) (.const (Value.int IntKind.i64 0)) 3, 4, _, _, _⟩) (v := undef) rfl (by kernel_rfl) (by kernel_rfl) (by kernel_rfl) (fun _ _ _ h => h) (Or.inr ⟨by rfl, rfl⟩) hHeld ?rest13a
          try simp only [Act.put, s_put, s_0, s_1]
          refine wpAnyH_take (i := 14) (oi := ⟨some 29, .pick (.tmp 17) (.tmp 28) (.const (Value.bool false)), 4, _, _, _⟩) (v := ?v14a) rfl (by kernel_rfl) (by kernel_rfl) (by kernel_rfl) (fun _ _ _ h => h) (Or.inl ⟨by rfl, ?hy14a⟩) hHeld ?rest14a
          case hy14a => intro w9 hSw; go_simp; (try with_reducible rfl)
          try simp only [Act.put, s_put, s_0, s_1]
          refine wpAnyH_done (by kernel_rfl) ?_ _
          refine NoPanic.normal ?_
          have hB' : Below w.heap.size w d := hB.trans (hT.mono hB.size)
          have HO' : Hid (d.ownsRow w.heap.size 39 7 (.slice none 0 0) 0 (rowLX O)) := own_laterS HO.out hT
          clear hB HO hT hHeld
          have hB := hB'
          have HO := HO'
          clear hB' HO'
          generalize d = wr at *
          go_wp2_with fail
          refine wp_region_noPanic ?_
          refine wp_region_held_drew (S := fun w' => Below wr.heap.size wr w') (by kernel_rfl) ((Below.refl _ _).drew) (fun hHeld => ?_)
          have hT : Below wr.heap.size wr wr.drew := hHeld
          obtain ⟨d, hd⟩ : ∃ d, d = wr.drew := ⟨_, rfl⟩
          rw [← hd] at hHeld hT ⊢
          clear hd
          refine wpAnyH_take (i := 0) (oi := ⟨some 32, .move (.tmp 5), 3, _, _, _⟩) (v := ?v0e) rfl (by kernel_rfl) (by kernel_rfl) (by kernel_rfl) (fun _ _ _ h => h) (Or.inl ⟨by rfl, ?hy0e⟩) hHeld ?rest0e
          case hy0e => intro w9 hSw; go_simp; (try with_reducible rfl)
          try simp only [Act.put, s_put, s_0, s_1]
          refine wpAnyH_take (i := 1) (oi := ⟨some 33, .binOp BinOp.gtr 3 (.tmp 32) (.const (Value.int IntKind.i64 0)) 3, 4, _, _, _⟩) (v := ?v1e) rfl (by kernel_rfl) (by kernel_rfl) (by kernel_rfl) (fun _ _ _ h => h) (Or.inl ⟨by rfl, ?hy1e⟩) hHeld ?rest1e
          case hy1e => intro w9 hSw; go_simp; (try with_reducible rfl)
          try simp only [Act.put, s_put, s_0, s_1]
          refine wpAnyH_take (i := 2) (oi := ⟨some 34, .move (.tmp 33), 4, _, _, _⟩) (v := ?v2e) rfl (by kernel_rfl) (by kernel_rfl) (by kernel_rfl) (fun _ _ _ h => h) (Or.inl ⟨by rfl, ?hy2e⟩) hHeld ?rest2e
          case hy2e => intro w9 hSw; go_simp; (try with_reducible rfl)
          try simp only [Act.put, s_put, s_0, s_1]
          refine wpAnyH_take (i := 3) (oi := ⟨some 35, .move (.tmp 0), 23, _, _, _⟩) (v := undef) rfl (by kernel_rfl) (by kernel_rfl) (by kernel_rfl) (fun _ _ _ h => h) (Or.inr ⟨by rfl, rfl⟩) hHeld ?rest3e
          try simp only [Act.put, s_put, s_0, s_1]
          refine wpAnyH_take (i := 4) (oi := ⟨some 36, .move (.tmp 4), 3, _, _, _⟩) (v := undef) rfl (by kernel_rfl) (by kernel_rfl) (by kernel_rfl) (fun _ _ _ h => h) (Or.inr ⟨by rfl, rfl⟩) hHeld ?rest4e
          try simp only [Act.put, s_put, s_0, s_1]
          refine wpAnyH_take (i := 5) (oi := ⟨some 37, .indexAddr 23 (.tmp 35) (.tmp 36), 0, _, _, _⟩) (v := undef) rfl (by kernel_rfl) (by kernel_rfl) (by kernel_rfl) (fun _ _ _ h => h) (Or.inr ⟨by rfl, rfl⟩) hHeld ?rest5e
          try simp only [Act.put, s_put, s_0, s_1]
          refine wpAnyH_take (i := 6) (oi := ⟨some 38, .load 39 (.tmp 37), 39, _, _, _⟩) (v := undef) rfl (by kernel_rfl) (by kernel_rfl) (by kernel_rfl) (fun _ _ _ h => h) (Or.inr ⟨by rfl, rfl⟩) hHeld ?rest6e
          try simp only [Act.put, s_put, s_0, s_1]
          refine wpAnyH_take (i := 7) (oi := ⟨some 39, .move (.tmp 3), 23, _, _, _⟩) (v := undef) rfl (by kernel_rfl) (by kernel_rfl) (by kernel_rfl) (fun _ _ _ h => h) (Or.inr ⟨by rfl, rfl⟩) hHeld ?rest7e
          try simp only [Act.put, s_put, s_0, s_1]
          refine wpAnyH_take (i := 8) (oi := ⟨some 40, .move (.tmp 5), 3, _, _, _⟩) (v := undef) rfl (by kernel_rfl) (by kernel_rfl) (by kernel_rfl) (fun _ _ _ h => h) (Or.inr ⟨by rfl, rfl⟩) hHeld ?rest8e
          try simp only [Act.put, s_put, s_0, s_1]
          refine wpAnyH_take (i := 9) (oi := ⟨some 41, .binOp BinOp.sub 3 (.tmp 40) (.const (Value.int IntKind.i64 1)) 3, 3, _, _, _⟩) (v := undef) rfl (by kernel_rfl) (by kernel_rfl) (by kernel_rfl) (fun _ _ _ h => h) (Or.inr ⟨by rfl, rfl⟩) hHeld ?rest9e
          try simp only [Act.put, s_put, s_0, s_1]
          refine wpAnyH_take (i := 10) (oi := ⟨some 42, .indexAddr 23 (.tmp 39) (.tmp 41), 0, _, _, _⟩) (v := undef) rfl (by kernel_rfl) (by kernel_rfl) (by kernel_rfl) (fun _ _ _ h => h) (Or.inr ⟨by rfl, rfl⟩) hHeld ?rest10e
          try simp only [Act.put, s_put, s_0, s_1]
          refine wpAnyH_take (i := 11) (oi := ⟨some 43, .load 39 (.tmp 42), 39, _, _, _⟩) (v := undef) rfl (by kernel_rfl) (by kernel_rfl) (by kernel_rfl) (fun _ _ _ h => h) (Or.inr ⟨by rfl, rfl⟩) hHeld ?rest11e
          try simp only [Act.put, s_put, s_0, s_1]
          refine wpAnyH_take (i := 12) (oi := ⟨some 44, .call { callee := .value (.func 42), args := #[.tmp 38, .tmp 43], argTypes := #[39, 39] }, 4, _, _, _⟩) (v := undef) rfl (by kernel_rfl) (by kernel_rfl) (by kernel_rfl) (fun _ _ _ h => h) (Or.inr ⟨by rfl, rfl⟩) hHeld ?rest12e
          try simp only [Act.put, s_put, s_0, s_1]
          refine wpAnyH_take (i := 13) (oi := ⟨some 45, .pick (.tmp 34) (.tmp 44) (.const (Value.bool false)), 4, _, _, _⟩) (v := ?v13e) rfl (by kernel_rfl) (by kernel_rfl) (by kernel_rfl) (fun _ _ _ h => h) (Or.inl ⟨by rfl, ?hy13e⟩) hHeld ?rest13e
          case hy13e => intro w9 hSw; go_simp; (try with_reducible rfl)
          try simp only [Act.put, s_put, s_0, s_1]
          refine wpAnyH_done (by kernel_rfl) ?_ _
          refine NoPanic.normal ?_
          have hB' : Below w.heap.size w d := hB.trans (hT.mono hB.size)
          have HO' : Hid (d.ownsRow w.heap.size 39 7 (.slice none 0 0) 0 (rowLX O)) := own_laterS HO.out hT
          clear hB HO hT hHeld
          have hB := hB'
          have HO := HO'
          clear hB' HO'
          generalize d = wr at *
          obtain ⟨v8, w8, v9, w9, v10, w10, run8, run9, run10, own10, hB8, hB10⟩ := insX (w := wr) (g := g) (cap := 0) HOL.out (by rw [eO.out]; exact fun i x hx => by simp at hx) (Nat.le_refl 0) (by have := HMI.out; have := HIN.out; omega) (Nat.zero_le _) x none (.inr ⟨rfl, rfl, rfl⟩)
          have HF : Hid (w10.ownsRow w.heap.size 39 7 v10 (0 + 1) (rowLX (insL O 0 x)) ∧ Once ordX (L.take (i + 1)) (insL O 0 x) ∧ (insL O 0 x).length = 0 + 1) := ⟨own_low15 own10 hB.size, once_step ordX3 HX.out HS.out (fun j y _ hy => by rw [eO.out] at hy; simp at hy) (fun j y h _ => by omega) (Nat.zero_le _), by rw [insL_len (by have := HOL.out; omega), HOL.out]⟩
          have HB10 : Hid (Below w.heap.size w w10) := hB.trans (hB10.mono hB.size)
          obtain ⟨d0, d1, d2, d3, d4, d5, d6⟩ := N1w.out.later (hB.trans (hB8.mono hB.size))
          have R8 : Hid (_ = _) := run8
          have R9 : Hid (_ = _) := run9
          have R10 : Hid ((Builtin.append_ #[23, 23] 23 #[v9, .slice none 0 0]).run Try.prog w9 = .ok v10 w10) := by show _ = _; simpa using run10
          clear run8 run9 run10 own10 hB8 hB10
          go_wp2_with (first
            | (at_builtin; refine wpList_append_run rfl (.tmp 58) (.tmp 61) 23 rfl _ _ _ rfl rfl R10.out ?_)
            | (at_builtin; refine wpList_append_run rfl (.tmp 51) (.tmp 56) 23 rfl _ _ _ rfl rfl R9.out ?_)
            | (at_builtin; refine wpList_append_run rfl (.tmp 46) (.tmp 49) 23 rfl _ _ _ rfl rfl R8.out ?_))
          go_roundw
          case rel => exact ⟨i + 1, 0 + 1, _, HIN.out, by go_num, by have := HMI.out; omega, HF, fun e => by omega, HB10.out⟩
          case measure => have := HIN.out; simp [intOf]; omega
      · obtain ⟨g, capo, rfl, hic, hcm, _, _, hro⟩ := ownLX HOS.out.1 HOL.out (by omega)
        have HO : Hid (wr.ownsRow w.heap.size 39 7 (.slice (some ⟨g, 0, none⟩) m capo) m (rowLX O)) := HOS.out.1
        have hcm' : capo ≤ 9223372036854775807 := by unfold maxLen at hcm; omega
        have HMP : Hid (0 < m) := by show 0 < m; omega
        have hmn : m ≤ 1048576 := by omega
        clear HOS hnil hx hr hil hro hcm
        go_wp2
        go_loopw [5] (fun u wz => ∃ k : Nat, k ≤ m ∧ u = .int .i64 k ∧ Hid (∀ (j : Nat) (y : X), k ≤ j → O[j]? = some y → ordX x y < 0) ∧ Hid (wz.ownsRow w.heap.size 39 7 (.slice (some ⟨g, 0, none⟩) m capo) m (rowLX O)) ∧ Below w.heap.size w wz) (fun u _ => (intOf u).toNat)
        case atStart => exact ⟨m, Nat.le_refl _, rfl, fun j y hj hy => by have := (List.getElem?_eq_some_iff.1 hy).1; have := HOL.out; omega, HO, hB⟩
        case round =>
          clear HO
          obtain ⟨k, hk, rfl, HG, HO, hB⟩ := hrel
          cases k with
          | zero =>
            · go_wp2_with fail
              refine wp_region_noPanic ?_
              refine wp_region_held_drew (S := fun w' => Below wr.heap.size wr w') (by kernel_rfl) ((Below.refl _ _).drew) (fun hHeld => ?_)
              have hT : Below wr.heap.size wr wr.drew := hHeld
              obtain ⟨d, hd⟩ : ∃ d, d = wr.drew := ⟨_, rfl⟩
              rw [← hd] at hHeld hT ⊢
              clear hd
              refine wpAnyH_take (i := 0) (oi := ⟨some 15, .move (.tmp 5), 3, _, _, _⟩) (v := ?v0b) rfl (by kernel_rfl) (by kernel_rfl) (by kernel_rfl) (fun _ _ _ h => h) (Or.inl ⟨by rfl, ?hy0b⟩) hHeld ?rest0b
              case hy0b => intro w9 hSw; go_simp; (try with_reducible rfl)
              try simp only [Act.put, s_put, s_0, s_1]
              refine wpAnyH_take (i := 1) (oi := ⟨some 16, .binOp BinOp.gtr 3 (.tmp 15) (.const (Value.int IntKind.i64 0)) 3, 4, _, _, _⟩) (v := ?v1b) rfl (by kernel_rfl) (by kernel_rfl) (by kernel_rfl) (fun _ _ _ h => h) (Or.inl ⟨by rfl, ?hy1b⟩) hHeld ?rest1b
              case hy1b => intro w9 hSw; go_simp; (try with_reducible rfl)
              try simp only [Act.put, s_put, s_0, s_1]
              refine wpAnyH_take (i := 2) (oi := ⟨some 17, .move (.tmp 16), 4, _, _, _⟩) (v := ?v2b) rfl (by kernel_rfl) (by kernel_rfl) (by kernel_rfl) (fun _ _ _ h => h) (Or.inl ⟨by rfl, ?hy2b⟩) hHeld ?rest2b
              case hy2b => intro w9 hSw; go_simp; (try with_reducible rfl)
              try simp only [Act.put, s_put, s_0, s_1]
              refine wpAnyH_take (i := 3) (oi := ⟨some 18, .move (.tmp 0), 23, _, _, _⟩) (v := undef) rfl (by kernel_rfl) (by kernel_rfl) (by kernel_rfl) (fun _ _ _ h => h) (Or.inr ⟨by rfl, rfl⟩) hHeld ?rest3b
              try simp only [Act.put, s_put, s_0, s_1]
              refine wpAnyH_take (i := 4) (oi := ⟨some 19, .move (.tmp 4), 3, _, _, _⟩) (v := undef) rfl (by kernel_rfl) (by kernel_rfl) (by kernel_rfl) (fun _ _ _ h => h) (Or.inr ⟨by rfl, rfl⟩) hHeld ?rest4b
              try simp only [Act.put, s_put, s_0, s_1]
              refine wpAnyH_take (i := 5) (oi := ⟨some 20, .indexAddr 23 (.tmp 18) (.tmp 19), 0, _, _, _⟩) (v := undef) rfl (by kernel_rfl) (by kernel_rfl) (by kernel_rfl) (fun _ _ _ h => h) (Or.inr ⟨by rfl, rfl⟩) hHeld ?rest5b
              try simp only [Act.put, s_put, s_0, s_1]
              refine wpAnyH_take (i := 6) (oi := ⟨some 21, .load 39 (.tmp 20), 39, _, _, _⟩) (v := undef) rfl (by kernel_rfl) (by kernel_rfl) (by kernel_rfl) (fun _ _ _ h => h) (Or.inr ⟨by rfl, rfl⟩) hHeld ?rest6b
              try simp only [Act.put, s_put, s_0, s_1]
              refine wpAnyH_take (i := 7) (oi := ⟨some 22, .move (.tmp 3), 23, _, _, _⟩) (v := undef) rfl (by kernel_rfl) (by kernel_rfl) (by kernel_rfl) (fun _ _ _ h => h) (Or.inr ⟨by rfl, rfl⟩) hHeld ?rest7b
              try simp only [Act.put, s_put, s_0, s_1]
              refine wpAnyH_take (i := 8) (oi := ⟨some 23, .move (.tmp 5), 3, _, _, _⟩) (v := undef) rfl (by kernel_rfl) (by kernel_rfl) (by kernel_rfl) (fun _ _ _ h => h) (Or.inr ⟨by rfl, rfl⟩) hHeld ?rest8b
              try simp only [Act.put, s_put, s_0, s_1]
              refine wpAnyH_take (i := 9) (oi := ⟨some 24, .binOp BinOp.sub 3 (.tmp 23) (.const (Value.int IntKind.i64 1)) 3, 3, _, _, _⟩) (v := undef) rfl (by kernel_rfl) (by kernel_rfl) (by kernel_rfl) (fun _ _ _ h => h) (Or.inr ⟨by rfl, rfl⟩) hHeld ?rest9b
              try simp only [Act.put, s_put, s_0, s_1]
              refine wpAnyH_take (i := 10) (oi := ⟨some 25, .indexAddr 23 (.tmp 22) (.tmp 24), 0, _, _, _⟩) (v := undef) rfl (by kernel_rfl) (by kernel_rfl) (by kernel_rfl) (fun _ _ _ h => h) (Or.inr ⟨by rfl, rfl⟩) hHeld ?rest10b
              try simp only [Act.put, s_put, s_0, s_1]
              refine wpAnyH_take (i := 11) (oi := ⟨some 26, .load 39 (.tmp 25), 39, _, _, _⟩) (v := undef) rfl (by kernel_rfl) (by kernel_rfl) (by kernel_rfl) (fun _ _ _ h => h) (Or.inr ⟨by rfl, rfl⟩) hHeld ?rest11b
              try simp only [Act.put, s_put, s_0, s_1]
              refine wpAnyH_take (i := 12) (oi := ⟨some 27, .call { callee := .value (.func 41), args := #[.tmp 21, .tmp 26], argTypes := #[39, 39] }, 3, _, _, _⟩) (v := undef) rfl (by kernel_rfl) (by kernel_rfl) (by kernel_rfl) (fun _ _ _ h => h) (Or.inr ⟨by rfl, rfl⟩) hHeld ?rest12b
              try simp only [Act.put, s_put, s_0, s_1]
              refine wpAnyH_take (i := 13) (oi := ⟨some 28, .binOp BinOp.lss 3 (.tmp 27) (.const (Value.int IntKind.i64 0)) 3, 4, _, _, _⟩) (v := undef) rfl (by kernel_rfl) (by kernel_rfl) (by kernel_rfl) (fun _ _ _ h => h) (Or.inr ⟨by rfl, rfl⟩) hHeld ?rest13b
              try simp only [Act.put, s_put, s_0, s_1]
              refine wpAnyH_take (i := 14) (oi := ⟨some 29, .pick (.tmp 17) (.tmp 28) (.const (Value.bool false)), 4, _, _, _⟩) (v := ?v14b) rfl (by kernel_rfl) (by kernel_rfl) (by kernel_rfl) (fun _ _ _ h => h) (Or.inl ⟨by rfl, ?hy14b⟩) hHeld ?rest14b
              case hy14b => intro w9 hSw; go_simp; (try with_reducible rfl)
              try simp only [Act.put, s_put, s_0, s_1]
              refine wpAnyH_done (by kernel_rfl) ?_ _
              refine NoPanic.normal ?_
              have hB' : Below w.heap.size w d := hB.trans (hT.mono hB.size)
              have HO' : Hid (d.ownsRow w.heap.size 39 7 (.slice (some ⟨g, 0, none⟩) m capo) m (rowLX O)) := own_laterS HO.out hT
              obtain ⟨g9, c9, e9, _, _, _, _, hro⟩ := ownLX HO'.out HOL.out (by have := HMP.out; omega)
              cases e9
              have HRO : Hid (RwX d g 0 O) := hro
              clear hB HO hT hHeld hro
              have hB := hB'
              have HO := HO'
              clear hB' HO'
              generalize d = wr at *
              go_wp2_with fail
              refine wp_region_noPanic ?_
              refine wp_region_held_drew (S := fun w' => Below wr.heap.size wr w') (by kernel_rfl) ((Below.refl _ _).drew) (fun hHeld => ?_)
              have hT : Below wr.heap.size wr wr.drew := hHeld
              obtain ⟨d, hd⟩ : ∃ d, d = wr.drew := ⟨_, rfl⟩
              rw [← hd] at hHeld hT ⊢
              clear hd
              refine wpAnyH_take (i := 0) (oi := ⟨some 32, .move (.tmp 5), 3, _, _, _⟩) (v := ?v0b2) rfl (by kernel_rfl) (by kernel_rfl) (by kernel_rfl) (fun _ _ _ h => h) (Or.inl ⟨by rfl, ?hy0b2⟩) hHeld ?rest0b2
              case hy0b2 => intro w9 hSw; go_simp; (try with_reducible rfl)
              try simp only [Act.put, s_put, s_0, s_1]
              refine wpAnyH_take (i := 1) (oi := ⟨some 33, .binOp BinOp.gtr 3 (.tmp 32) (.const (Value.int IntKind.i64 0)) 3, 4, _, _, _⟩) (v := ?v1b2) rfl (by kernel_rfl) (by kernel_rfl) (by kernel_rfl) (fun _ _ _ h => h) (Or.inl ⟨by rfl, ?hy1b2⟩) hHeld ?rest1b2
              case hy1b2 => intro w9 hSw; go_simp; (try with_reducible rfl)
              try simp only [Act.put, s_put, s_0, s_1]
              refine wpAnyH_take (i := 2) (oi := ⟨some 34, .move (.tmp 33), 4, _, _, _⟩) (v := ?v2b2) rfl (by kernel_rfl) (by kernel_rfl) (by kernel_rfl) (fun _ _ _ h => h) (Or.inl ⟨by rfl, ?hy2b2⟩) hHeld ?rest2b2
              case hy2b2 => intro w9 hSw; go_simp; (try with_reducible rfl)
              try simp only [Act.put, s_put, s_0, s_1]
              refine wpAnyH_take (i := 3) (oi := ⟨some 35, .move (.tmp 0), 23, _, _, _⟩) (v := undef) rfl (by kernel_rfl) (by kernel_rfl) (by kernel_rfl) (fun _ _ _ h => h) (Or.inr ⟨by rfl, rfl⟩) hHeld ?rest3b2
              try simp only [Act.put, s_put, s_0, s_1]
              refine wpAnyH_take (i := 4) (oi := ⟨some 36, .move (.tmp 4), 3, _, _, _⟩) (v := undef) rfl (by kernel_rfl) (by kernel_rfl) (by kernel_rfl) (fun _ _ _ h => h) (Or.inr ⟨by rfl, rfl⟩) hHeld ?rest4b2
              try simp only [Act.put, s_put, s_0, s_1]
              refine wpAnyH_take (i := 5) (oi := ⟨some 37, .indexAddr 23 (.tmp 35) (.tmp 36), 0, _, _, _⟩) (v := undef) rfl (by kernel_rfl) (by kernel_rfl) (by kernel_rfl) (fun _ _ _ h => h) (Or.inr ⟨by rfl, rfl⟩) hHeld ?rest5b2
              try simp only [Act.put, s_put, s_0, s_1]
              refine wpAnyH_take (i := 6) (oi := ⟨some 38, .load 39 (.tmp 37), 39, _, _, _⟩) (v := undef) rfl (by kernel_rfl) (by kernel_rfl) (by kernel_rfl) (fun _ _ _ h => h) (Or.inr ⟨by rfl, rfl⟩) hHeld ?rest6b2
              try simp only [Act.put, s_put, s_0, s_1]
              refine wpAnyH_take (i := 7) (oi := ⟨some 39, .move (.tmp 3), 23, _, _, _⟩) (v := undef) rfl (by kernel_rfl) (by kernel_rfl) (by kernel_rfl) (fun _ _ _ h => h) (Or.inr ⟨by rfl, rfl⟩) hHeld ?rest7b2
              try simp only [Act.put, s_put, s_0, s_1]
              refine wpAnyH_take (i := 8) (oi := ⟨some 40, .move (.tmp 5), 3, _, _, _⟩) (v := undef) rfl (by kernel_rfl) (by kernel_rfl) (by kernel_rfl) (fun _ _ _ h => h) (Or.inr ⟨by rfl, rfl⟩) hHeld ?rest8b2
              try simp only [Act.put, s_put, s_0, s_1]
              refine wpAnyH_take (i := 9) (oi := ⟨some 41, .binOp BinOp.sub 3 (.tmp 40) (.const (Value.int IntKind.i64 1)) 3, 3, _, _, _⟩) (v := undef) rfl (by kernel_rfl) (by kernel_rfl) (by kernel_rfl) (fun _ _ _ h => h) (Or.inr ⟨by rfl, rfl⟩) hHeld ?rest9b2
              try simp only [Act.put, s_put, s_0, s_1]
              refine wpAnyH_take (i := 10) (oi := ⟨some 42, .indexAddr 23 (.tmp 39) (.tmp 41), 0, _, _, _⟩) (v := undef) rfl (by kernel_rfl) (by kernel_rfl) (by kernel_rfl) (fun _ _ _ h => h) (Or.inr ⟨by rfl, rfl⟩) hHeld ?rest10b2
              try simp only [Act.put, s_put, s_0, s_1]
              refine wpAnyH_take (i := 11) (oi := ⟨some 43, .load 39 (.tmp 42), 39, _, _, _⟩) (v := undef) rfl (by kernel_rfl) (by kernel_rfl) (by kernel_rfl) (fun _ _ _ h => h) (Or.inr ⟨by rfl, rfl⟩) hHeld ?rest11b2
              try simp only [Act.put, s_put, s_0, s_1]
              refine wpAnyH_take (i := 12) (oi := ⟨some 44, .call { callee := .value (.func 42), args := #[.tmp 38, .tmp 43], argTypes := #[39, 39] }, 4, _, _, _⟩) (v := undef) rfl (by kernel_rfl) (by kernel_rfl) (by kernel_rfl) (fun _ _ _ h => h) (Or.inr ⟨by rfl, rfl⟩) hHeld ?rest12b2
              try simp only [Act.put, s_put, s_0, s_1]
              refine wpAnyH_take (i := 13) (oi := ⟨some 45, .pick (.tmp 34) (.tmp 44) (.const (Value.bool false)), 4, _, _, _⟩) (v := ?v13b2) rfl (by kernel_rfl) (by kernel_rfl) (by kernel_rfl) (fun _ _ _ h => h) (Or.inl ⟨by rfl, ?hy13b2⟩) hHeld ?rest13b2
              case hy13b2 => intro w9 hSw; go_simp; (try with_reducible rfl)
              try simp only [Act.put, s_put, s_0, s_1]
              refine wpAnyH_done (by kernel_rfl) ?_ _
              refine NoPanic.normal ?_
              have hB' : Below w.heap.size w d := hB.trans (hT.mono hB.size)
              have HO' : Hid (d.ownsRow w.heap.size 39 7 (.slice (some ⟨g, 0, none⟩) m capo) m (rowLX O)) := own_laterS HO.out hT
              obtain ⟨g9, c9, e9, _, _, _, _, hro⟩ := ownLX HO'.out HOL.out (by have := HMP.out; omega)
              cases e9
              have HRO : Hid (RwX d g 0 O) := hro
              clear hB HO hT hHeld hro
              have hB := hB'
              have HO := HO'
              clear hB' HO'
              generalize d = wr at *
              obtain ⟨v8, w8, v9, w9, v10, w10, run8, run9, run10, own10, hB8, hB10⟩ := insX (w := wr) (g := g) (cap := capo) HOL.out HRO.out (Nat.zero_le _) (by have := HMI.out; have := HIN.out; omega) hic x (some ⟨g, 0, none⟩) (.inl rfl)
              have HF : Hid (w10.ownsRow w.heap.size 39 7 v10 (m + 1) (rowLX (insL O 0 x)) ∧ Once ordX (L.take (i + 1)) (insL O 0 x) ∧ (insL O 0 x).length = m + 1) := ⟨own_low15 own10 hB.size, once_step ordX3 HX.out HS.out HG.out (fun j y h _ => by omega) (Nat.zero_le _), by rw [insL_len (by have := HOL.out; omega), HOL.out]⟩
              have HB10 : Hid (Below w.heap.size w w10) := hB.trans (hB10.mono hB.size)
              obtain ⟨d0, d1, d2, d3, d4, d5, d6⟩ := N1w.out.later (hB.trans (hB8.mono hB.size))
              have R8 : Hid (_ = _) := run8
              have R9 : Hid (_ = _) := run9
              have R10 : Hid ((Builtin.append_ #[23, 23] 23 #[v9, .slice (some ⟨g, 0, none⟩) m capo]).run Try.prog w9 = .ok v10 w10) := by show _ = _; simpa using run10
              clear run8 run9 run10 own10 hB8 hB10
              go_wp2_with (first
                | (at_builtin; refine wpList_append_run rfl (.tmp 58) (.tmp 61) 23 rfl _ _ _ rfl rfl R10.out ?_)
                | (at_builtin; refine wpList_append_run rfl (.tmp 51) (.tmp 56) 23 rfl _ _ _ rfl rfl R9.out ?_)
                | (at_builtin; refine wpList_append_run rfl (.tmp 46) (.tmp 49) 23 rfl _ _ _ rfl rfl R8.out ?_))
              go_roundw
              case rel => exact ⟨i + 1, m + 1, _, HIN.out, by go_num, by have := HMI.out; omega, HF, fun e => by omega, HB10.out⟩
              case measure => have := HIN.out; simp [intOf]; omega
          | succ j =>
            · obtain ⟨y, hy⟩ : ∃ y, O[j]? = some y := ⟨_, List.getElem?_eq_getElem (by have := HOL.out; omega)⟩
              obtain ⟨g', capo', e', _, _, _, _, hro⟩ := ownLX HO.out HOL.out (by omega)
              cases e'
              have N1 : Hid (Node wr b (o + i * 7) x) := N1w.out.later hB
              have N2 : Hid (Node wr g (j * 7) y) := by have := hro j y hy; rwa [Nat.zero_add] at this
              obtain ⟨q, hq⟩ : ∃ q, q = ordX x y := ⟨_, rfl⟩
              have HQ : Hid (q = ordX x y) := hq
              have CF : Hid (∀ d, Below wr.heap.size wr d → Calls Try.prog 41 #[x.val, y.val] d fun e w' => e = .returned (.int .i64 q) ∧ Below d.heap.size d w') := fun d hd => by
                rw [hq]
                exact refOrder_any x y d (IX.out.later (hB.trans (hd.mono hB.size))) ((HIO.out j y hy).later (hB.trans (hd.mono hB.size)))
              have hj0 : (0 : Int) < (j : Int) + 1 := by omega
              have hji : j < m := by omega
              have HY : Hid (O[j]? = some y) := hy
              clear hro hq hy
              by_cases hq0 : q < 0
              · go_wp2_with fail
                refine wp_region_noPanic ?_
                refine wp_region_held_drew (S := fun w' => Below wr.heap.size wr w') (by kernel_rfl) ((Below.refl _ _).drew) (fun hHeld => ?_)
                have hT : Below wr.heap.size wr wr.drew := hHeld
                obtain ⟨d, hd⟩ : ∃ d, d = wr.drew := ⟨_, rfl⟩
                rw [← hd] at hHeld hT ⊢
                clear hd
                refine wpAnyH_take (i := 0) (oi := ⟨some 15, .move (.tmp 5), 3, _, _, _⟩) (v := ?v0c) rfl (by kernel_rfl) (by kernel_rfl) (by kernel_rfl) (fun _ _ _ h => h) (Or.inl ⟨by rfl, ?hy0c⟩) hHeld ?rest0c
                case hy0c => intro w9 hSw; go_simp; (try with_reducible rfl)
                try simp only [Act.put, s_put, s_0, s_1]
                refine wpAnyH_take (i := 1) (oi := ⟨some 16, .binOp BinOp.gtr 3 (.tmp 15) (.const (Value.int IntKind.i64 0)) 3, 4, _, _, _⟩) (v := ?v1c) rfl (by kernel_rfl) (by kernel_rfl) (by kernel_rfl) (fun _ _ _ h => h) (Or.inl ⟨by rfl, ?hy1c⟩) hHeld ?rest1c
                case hy1c => intro w9 hSw; go_simp; (try with_reducible rfl)
                try simp only [Act.put, s_put, s_0, s_1]
                refine wpAnyH_take (i := 2) (oi := ⟨some 17, .move (.tmp 16), 4, _, _, _⟩) (v := ?v2c) rfl (by kernel_rfl) (by kernel_rfl) (by kernel_rfl) (fun _ _ _ h => h) (Or.inl ⟨by rfl, ?hy2c⟩) hHeld ?rest2c
                case hy2c => intro w9 hSw; go_simp; (try with_reducible rfl)
                try simp only [Act.put, s_put, s_0, s_1]
                refine wpAnyH_take (i := 3) (oi := ⟨some 18, .move (.tmp 0), 23, _, _, _⟩) (v := ?v3c) rfl (by kernel_rfl) (by kernel_rfl) (by kernel_rfl) (fun _ _ _ h => h) (Or.inl ⟨by rfl, ?hy3c⟩) hHeld ?rest3c
                case hy3c => intro w9 hSw; go_simp; (try with_reducible rfl)
                try simp only [Act.put, s_put, s_0, s_1]
                refine wpAnyH_take (i := 4) (oi := ⟨some 19, .move (.tmp 4), 3, _, _, _⟩) (v := ?v4c) rfl (by kernel_rfl) (by kernel_rfl) (by kernel_rfl) (fun _ _ _ h => h) (Or.inl ⟨by rfl, ?hy4c⟩) hHeld ?rest4c
                case hy4c => intro w9 hSw; go_simp; (try with_reducible rfl)
                try simp only [Act.put, s_put, s_0, s_1]
                refine wpAnyH_take (i := 5) (oi := ⟨some 20, .indexAddr 23 (.tmp 18) (.tmp 19), 0, _, _, _⟩) (v := ?v5c) rfl (by kernel_rfl) (by kernel_rfl) (by kernel_rfl) (fun _ _ _ h => h) (Or.inl ⟨by rfl, ?hy5c⟩) hHeld ?rest5c
                case hy5c => intro w9 hSw; go_simp; (try with_reducible rfl)
                try simp only [Act.put, s_put, s_0, s_1]
                refine wpAnyH_take (i := 6) (oi := ⟨some 21, .load 39 (.tmp 20), 39, _, _, _⟩) (v := ?v6c) rfl (by kernel_rfl) (by kernel_rfl) (by kernel_rfl) (fun _ _ _ h => h) (Or.inl ⟨by rfl, ?hy6c⟩) hHeld ?rest6c
                case hy6c => intro w9 hSw; obtain ⟨d0, d1, d2, d3, d4, d5, d6⟩ := N1.out.later hSw; go_simp; (try with_reducible rfl)
                try simp only [Act.put, s_put, s_0, s_1]
                refine wpAnyH_take (i := 7) (oi := ⟨some 22, .move (.tmp 3), 23, _, _, _⟩) (v := ?v7c) rfl (by kernel_rfl) (by kernel_rfl) (by kernel_rfl) (fun _ _ _ h => h) (Or.inl ⟨by rfl, ?hy7c⟩) hHeld ?rest7c
                case hy7c => intro w9 hSw; go_simp; (try with_reducible rfl)
                try simp only [Act.put, s_put, s_0, s_1]
                refine wpAnyH_take (i := 8) (oi := ⟨some 23, .move (.tmp 5), 3, _, _, _⟩) (v := ?v8c) rfl (by kernel_rfl) (by kernel_rfl) (by kernel_rfl) (fun _ _ _ h => h) (Or.inl ⟨by rfl, ?hy8c⟩) hHeld ?rest8c
                case hy8c => intro w9 hSw; go_simp; (try with_reducible rfl)
                try simp only [Act.put, s_put, s_0, s_1]
                refine wpAnyH_take (i := 9) (oi := ⟨some 24, .binOp BinOp.sub 3 (.tmp 23) (.const (Value.int IntKind.i64 1)) 3, 3, _, _, _⟩) (v := .int .i64 (j : Int)) rfl (by kernel_rfl) (by kernel_rfl) (by kernel_rfl) (fun _ _ _ h => h) (Or.inl ⟨by rfl, ?hy9c⟩) hHeld ?rest9c
                case hy9c => intro w9 hSw; go_simp; try (rw [IntKind.wrap_i64]; omega)
                try simp only [Act.put, s_put, s_0, s_1]
                refine wpAnyH_take (i := 10) (oi := ⟨some 25, .indexAddr 23 (.tmp 22) (.tmp 24), 0, _, _, _⟩) (v := ?v10c) rfl (by kernel_rfl) (by kernel_rfl) (by kernel_rfl) (fun _ _ _ h => h) (Or.inl ⟨by rfl, ?hy10c⟩) hHeld ?rest10c
                case hy10c => intro w9 hSw; go_simp; (try with_reducible rfl)
                try simp only [Act.put, s_put, s_0, s_1]
                refine wpAnyH_take (i := 11) (oi := ⟨some 26, .load 39 (.tmp 25), 39, _, _, _⟩) (v := ?v11c) rfl (by kernel_rfl) (by kernel_rfl) (by kernel_rfl) (fun _ _ _ h => h) (Or.inl ⟨by rfl, ?hy11c⟩) hHeld ?rest11c
                case hy11c => intro w9 hSw; obtain ⟨d0, d1, d2, d3, d4, d5, d6⟩ := N2.out.later hSw; go_simp; (try with_reducible rfl)
                try simp only [Act.put, s_put, s_0, s_1]
                refine wpAnyH_ready (rs := [12]) (by kernel_rfl) (by simp) ?_
                refine AllReadyH.cons (o := ⟨some 27, .call { callee := .value (.func 41), args := #[.tmp 21, .tmp 26], argTypes := #[39, 39] }, 3, _, _, _⟩) rfl (fun K hK => ?_) AllReadyH.nil
                go_simp
                refine (CF.out _ hT).mono ?_
                rintro e x12 ⟨rfl, hN12⟩
                go_wp2_with fail
                have hT12 : Below wr.heap.size wr x12 := hT.trans (hN12.mono hT.size)
                refine hK.out _ _ (hHeld.trans (hN12.mono hHeld.size)) (fun _ => held_up (S' := fun w' => Below x12.heap.size x12 w') (fun w' h' => (hHeld.trans (hN12.mono hHeld.size)).trans (h'.mono (Nat.le_trans hHeld.size hN12.size))) _ _ _ _ ?_)
                clear hK K hHeld hT
                have hT : Below wr.heap.size wr x12 := hT12
                have hHeld : Below x12.heap.size x12 x12 := Below.refl _ _
                clear hT12 hN12
                try simp only [Act.put, s_put, s_0, s_1]
                refine wpAnyH_take (i := 13) (oi := ⟨some 28, .binOp BinOp.lss 3 (.tmp 27) (.const (Value.int IntKind.i64 0)) 3, 4, _, _, _⟩) (v := .bool true) rfl (by kernel_rfl) (by kernel_rfl) (by kernel_rfl) (fun _ _ _ h => h) (Or.inl ⟨by rfl, ?hy13c⟩) hHeld ?rest13c
                case hy13c => intro w9 hSw; go_simp; try omega
                try simp only [Act.put, s_put, s_0, s_1]
                refine wpAnyH_take (i := 14) (oi := ⟨some 29, .pick (.tmp 17) (.tmp 28) (.const (Value.bool false)), 4, _, _, _⟩) (v := ?v14c) rfl (by kernel_rfl) (by kernel_rfl) (by kernel_rfl) (fun _ _ _ h => h) (Or.inl ⟨by rfl, ?hy14c⟩) hHeld ?rest14c
                case hy14c => intro w9 hSw; go_simp; (try with_reducible rfl)
                try simp only [Act.put, s_put, s_0, s_1]
                refine wpAnyH_done (by kernel_rfl) ?_ _
                refine NoPanic.normal ?_
                go_wp2
                go_roundw
                case rel =>
                  refine ⟨j, by omega, by go_num, fun m2 z hm2 hz => ?_, own_laterS HO.out hT, hB.trans (hT.mono hB.size)⟩
                  by_cases e : m2 = j
                  · subst e
                    have := HY.out.symm.trans hz
                    cases this
                    rw [← HQ.out]
                    exact hq0
                  · exact HG.out m2 z (by omega) hz
                case measure => simp [intOf]
              · go_wp2_with fail
                refine wp_region_noPanic ?_
                refine wp_region_held_drew (S := fun w' => Below wr.heap.size wr w') (by kernel_rfl) ((Below.refl _ _).drew) (fun hHeld => ?_)
                have hT : Below wr.heap.size wr wr.drew := hHeld
                obtain ⟨d, hd⟩ : ∃ d, d = wr.drew := ⟨_, rfl⟩
                rw [← hd] at hHeld hT ⊢
                clear hd
                refine wpAnyH_take (i := 0) (oi := ⟨some 15, .move (.tmp 5), 3, _, _, _⟩) (v := ?v0d) rfl (by kernel_rfl) (by kernel_rfl) (by kernel_rfl) (fun _ _ _ h => h) (Or.inl ⟨by rfl, ?hy0d⟩) hHeld ?rest0d
                case hy0d => intro w9 hSw; go_simp; (try with_reducible rfl)
                try simp only [Act.put, s_put, s_0, s_1]
                refine wpAnyH_take (i := 1) (oi := ⟨some 16, .binOp BinOp.gtr 3 (.tmp 15) (.const (Value.int IntKind.i64 0)) 3, 4, _, _, _⟩) (v := ?v1d) rfl (by kernel_rfl) (by kernel_rfl) (by kernel_rfl) (fun _ _ _ h => h) (Or.inl ⟨by rfl, ?hy1d⟩) hHeld ?rest1d
                case hy1d => intro w9 hSw; go_simp; (try with_reducible rfl)
                try simp only [Act.put, s_put, s_0, s_1]
                refine wpAnyH_take (i := 2) (oi := ⟨some 17, .move (.tmp 16), 4, _, _, _⟩) (v := ?v2d) rfl (by kernel_rfl) (by kernel_rfl) (by kernel_rfl) (fun _ _ _ h => h) (Or.inl ⟨by rfl, ?hy2d⟩) hHeld ?rest2d
                case hy2d => intro w9 hSw; go_simp; (try with_reducible rfl)
                try simp only [Act.put, s_put, s_0, s_1]
                refine wpAnyH_take (i := 3) (oi := ⟨some 18, .move (.tmp 0), 23, _, _, _⟩) (v := ?v3d) rfl (by kernel_rfl) (by kernel_rfl) (by kernel_rfl) (fun _ _ _ h => h) (Or.inl ⟨by rfl, ?hy3d⟩) hHeld ?rest3d
                case hy3d => intro w9 hSw; go_simp; (try with_reducible rfl)
                try simp only [Act.put, s_put, s_0, s_1]
                refine wpAnyH_take (i := 4) (oi := ⟨some 19, .move (.tmp 4), 3, _, _, _⟩) (v := ?v4d) rfl (by kernel_rfl) (by kernel_rfl) (by kernel_rfl) (fun _ _ _ h => h) (Or.inl ⟨by rfl, ?hy4d⟩) hHeld ?rest4d
                case hy4d => intro w9 hSw; go_simp; (try with_reducible rfl)
                try simp only [Act.put, s_put, s_0, s_1]
                refine wpAnyH_take (i := 5) (oi := ⟨some 20, .indexAddr 23 (.tmp 18) (.tmp 19), 0, _, _, _⟩) (v := ?v5d) rfl (by kernel_rfl) (by kernel_rfl) (by kernel_rfl) (fun _ _ _ h => h) (Or.inl ⟨by rfl, ?hy5d⟩) hHeld ?rest5d
                case hy5d => intro w9 hSw; go_simp; (try with_reducible rfl)
                try simp only [Act.put, s_put, s_0, s_1]
                refine wpAnyH_take (i := 6) (oi := ⟨some 21, .load 39 (.tmp 20), 39, _, _, _⟩) (v := ?v6d) rfl (by kernel_rfl) (by kernel_rfl) (by kernel_rfl) (fun _ _ _ h => h) (Or.inl ⟨by rfl, ?hy6d⟩) hHeld ?rest6d
                case hy6d => intro w9 hSw; obtain ⟨d0, d1, d2, d3, d4, d5, d6⟩ := N1.out.later hSw; go_simp; (try with_reducible rfl)
                try simp only [Act.put, s_put, s_0, s_1]
                refine wpAnyH_take (i := 7) (oi := ⟨some 22, .move (.tmp 3), 23, _, _, _⟩) (v := ?v7d) rfl (by kernel_rfl) (by kernel_rfl) (by kernel_rfl) (fun _ _ _ h => h) (Or.inl ⟨by rfl, ?hy7d⟩) hHeld ?rest7d
                case hy7d => intro w9 hSw; go_simp; (try with_reducible rfl)
                try simp only [Act.put, s_put, s_0, s_1]
                refine wpAnyH_take (i := 8) (oi := ⟨some 23, .move (.tmp 5), 3, _, _, _⟩) (v := ?v8d) rfl (by kernel_rfl) (by kernel_rfl) (by kernel_rfl) (fun _ _ _ h => h) (Or.inl ⟨by rfl, ?hy8d⟩) hHeld ?rest8d
                case hy8d => intro w9 hSw; go_simp; (try with_reducible rfl)
                try simp only [Act.put, s_put, s_0, s_1]
                refine wpAnyH_take (i := 9) (oi := ⟨some 24, .binOp BinOp.sub 3 (.tmp 23) (.const (Value.int IntKind.i64 1)) 3, 3, _, _, _⟩) (v := .int .i64 (j : Int)) rfl (by kernel_rfl) (by kernel_rfl) (by kernel_rfl) (fun _ _ _ h => h) (Or.inl ⟨by rfl, ?hy9d⟩) hHeld ?rest9d
                case hy9d => intro w9 hSw; go_simp; try (rw [IntKind.wrap_i64]; omega)
                try simp only [Act.put, s_put, s_0, s_1]
                refine wpAnyH_take (i := 10) (oi := ⟨some 25, .indexAddr 23 (.tmp 22) (.tmp 24), 0, _, _, _⟩) (v := ?v10d) rfl (by kernel_rfl) (by kernel_rfl) (by kernel_rfl) (fun _ _ _ h => h) (Or.inl ⟨by rfl, ?hy10d⟩) hHeld ?rest10d
                case hy10d => intro w9 hSw; go_simp; (try with_reducible rfl)
                try simp only [Act.put, s_put, s_0, s_1]
                refine wpAnyH_take (i := 11) (oi := ⟨some 26, .load 39 (.tmp 25), 39, _, _, _⟩) (v := ?v11d) rfl (by kernel_rfl) (by kernel_rfl) (by kernel_rfl) (fun _ _ _ h => h) (Or.inl ⟨by rfl, ?hy11d⟩) hHeld ?rest11d
                case hy11d => intro w9 hSw; obtain ⟨d0, d1, d2, d3, d4, d5, d6⟩ := N2.out.later hSw; go_simp; (try with_reducible rfl)
                try simp only [Act.put, s_put, s_0, s_1]
                refine wpAnyH_ready (rs := [12]) (by kernel_rfl) (by simp) ?_
                refine AllReadyH.cons (o := ⟨some 27, .call { callee := .value (.func 41), args := #[.tmp 21, .tmp 26], argTypes := #[39, 39] }, 3, _, _, _⟩) rfl (fun K hK => ?_) AllReadyH.nil
                go_simp
                refine (CF.out _ hT).mono ?_
                rintro e x12 ⟨rfl, hN12⟩
                go_wp2_with fail
                have hT12 : Below wr.heap.size wr x12 := hT.trans (hN12.mono hT.size)
                refine hK.out _ _ (hHeld.trans (hN12.mono hHeld.size)) (fun _ => held_up (S' := fun w' => Below x12.heap.size x12 w') (fun w' h' => (hHeld.trans (hN12.mono hHeld.size)).trans (h'.mono (Nat.le_trans hHeld.size hN12.size))) _ _ _ _ ?_)
                clear hK K hHeld hT
                have hT : Below wr.heap.size wr x12 := hT12
                have hHeld : Below x12.heap.size x12 x12 := Below.refl _ _
                clear hT12 hN12
                try simp only [Act.put, s_put, s_0, s_1]
                refine wpAnyH_take (i := 13) (oi := ⟨some 28, .binOp BinOp.lss 3 (.tmp 27) (.const (Value.int IntKind.i64 0)) 3, 4, _, _, _⟩) (v := .bool false) rfl (by kernel_rfl) (by kernel_rfl) (by kernel_rfl) (fun _ _ _ h => h) (Or.inl ⟨by rfl, ?hy13d⟩) hHeld ?rest13d
                case hy13d => intro w9 hSw; go_simp; try omega
                try simp only [Act.put, s_put, s_0, s_1]
                refine wpAnyH_take (i := 14) (oi := ⟨some 29, .pick (.tmp 17) (.tmp 28) (.const (Value.bool false)), 4, _, _, _⟩) (v := ?v14d) rfl (by kernel_rfl) (by kernel_rfl) (by kernel_rfl) (fun _ _ _ h => h) (Or.inl ⟨by rfl, ?hy14d⟩) hHeld ?rest14d
                case hy14d => intro w9 hSw; go_simp; (try with_reducible rfl)
                try simp only [Act.put, s_put, s_0, s_1]
                refine wpAnyH_done (by kernel_rfl) ?_ _
                refine NoPanic.normal ?_
                have hB' : Below w.heap.size w x12 := hB.trans (hT.mono hB.size)
                have HO' : Hid (x12.ownsRow w.heap.size 39 7 (.slice (some ⟨g, 0, none⟩) m capo) m (rowLX O)) := own_laterS HO.out hT
                obtain ⟨g9, c9, e9, _, _, _, _, hro⟩ := ownLX HO'.out HOL.out (by have := HMP.out; omega)
                cases e9
                have HRO : Hid (RwX x12 g 0 O) := hro
                clear hB HO hT hHeld hro
                have hB := hB'
                have HO := HO'
                clear hB' HO'
                generalize x12 = wr at *
                have N1 : Hid (Node wr b (o + i * 7) x) := N1w.out.later hB
                have N2 : Hid (Node wr g (j * 7) y) := by have := HRO.out j y HY.out; rwa [Nat.zero_add] at this
                obtain ⟨p, hp⟩ : ∃ p, p = (ordX x y == 0) := ⟨_, rfl⟩
                have HPQ : Hid (p = (q == 0)) := by show p = _; rw [hp, HQ.out]
                have CS : Hid (∀ d, Below wr.heap.size wr d → Calls Try.prog 42 #[x.val, y.val] d fun e w' => e = .returned (.bool p) ∧ Below d.heap.size d w') := fun d hd => by
                  rw [hp]
                  exact refSameX_any x y d (IX.out.later (hB.trans (hd.mono hB.size))) ((HIO.out j y HY.out).later (hB.trans (hd.mono hB.size)))
                clear hp
                cases p
                · · go_wp2_with fail
                    refine wp_region_noPanic ?_
                    refine wp_region_held_drew (S := fun w' => Below wr.heap.size wr w') (by kernel_rfl) ((Below.refl _ _).drew) (fun hHeld => ?_)
                    have hT : Below wr.heap.size wr wr.drew := hHeld
                    obtain ⟨d, hd⟩ : ∃ d, d = wr.drew := ⟨_, rfl⟩
                    rw [← hd] at hHeld hT ⊢
                    clear hd
                    refine wpAnyH_take (i := 0) (oi := ⟨some 32, .move (.tmp 5), 3, _, _, _⟩) (v := ?v0f) rfl (by kernel_rfl) (by kernel_rfl) (by kernel_rfl) (fun _ _ _ h => h) (Or.inl ⟨by rfl, ?hy0f⟩) hHeld ?rest0f
                    case hy0f => intro w9 hSw; go_simp; (try with_reducible rfl)
                    try simp only [Act.put, s_put, s_0, s_1]
                    refine wpAnyH_take (i := 1) (oi := ⟨some 33, .binOp BinOp.gtr 3 (.tmp 32) (.const (Value.int IntKind.i64 0)) 3, 4, _, _, _⟩) (v := ?v1f) rfl (by kernel_rfl) (by kernel_rfl) (by kernel_rfl) (fun _ _ _ h => h) (Or.inl ⟨by rfl, ?hy1f⟩) hHeld ?rest1f
                    case hy1f => intro w9 hSw; go_simp; (try with_reducible rfl)
                    try simp only [Act.put, s_put, s_0, s_1]
                    refine wpAnyH_take (i := 2) (oi := ⟨some 34, .move (.tmp 33), 4, _, _, _⟩) (v := ?v2f) rfl (by kernel_rfl) (by kernel_rfl) (by kernel_rfl) (fun _ _ _ h => h) (Or.inl ⟨by rfl, ?hy2f⟩) hHeld ?rest2f
                    case hy2f => intro w9 hSw; go_simp; (try with_reducible rfl)
                    try simp only [Act.put, s_put, s_0, s_1]
                    refine wpAnyH_take (i := 3) (oi := ⟨some 35, .move (.tmp 0), 23, _, _, _⟩) (v := ?v3f) rfl (by kernel_rfl) (by kernel_rfl) (by kernel_rfl) (fun _ _ _ h => h) (Or.inl ⟨by rfl, ?hy3f⟩) hHeld ?rest3f
                    case hy3f => intro w9 hSw; go_simp; (try with_reducible rfl)
                    try simp only [Act.put, s_put, s_0, s_1]
                    refine wpAnyH_take (i := 4) (oi := ⟨some 36, .move (.tmp 4), 3, _, _, _⟩) (v := ?v4f) rfl (by kernel_rfl) (by kernel_rfl) (by kernel_rfl) (fun _ _ _ h => h) (Or.inl ⟨by rfl, ?hy4f⟩) hHeld ?rest4f
                    case hy4f => intro w9 hSw; go_simp; (try with_reducible rfl)
                    try simp only [Act.put, s_put, s_0, s_1]
                    refine wpAnyH_take (i := 5) (oi := ⟨some 37, .indexAddr 23 (.tmp 35) (.tmp 36), 0, _, _, _⟩) (v := ?v5f) rfl (by kernel_rfl) (by kernel_rfl) (by kernel_rfl) (fun _ _ _ h => h) (Or.inl ⟨by rfl, ?hy5f⟩) hHeld ?rest5f
                    case hy5f => intro w9 hSw; go_simp; (try with_reducible rfl)
                    try simp only [Act.put, s_put, s_0, s_1]
                    refine wpAnyH_take (i := 6) (oi := ⟨some 38, .load 39 (.tmp 37), 39, _, _, _⟩) (v := ?v6f) rfl (by kernel_rfl) (by kernel_rfl) (by kernel_rfl) (fun _ _ _ h => h) (Or.inl ⟨by rfl, ?hy6f⟩) hHeld ?rest6f
                    case hy6f => intro w9 hSw; obtain ⟨d0, d1, d2, d3, d4, d5, d6⟩ := N1.out.later hSw; go_simp; (try with_reducible rfl)
                    try simp only [Act.put, s_put, s_0, s_1]
                    refine wpAnyH_take (i := 7) (oi := ⟨some 39, .move (.tmp 3), 23, _, _, _⟩) (v := ?v7f) rfl (by kernel_rfl) (by kernel_rfl) (by kernel_rfl) (fun _ _ _ h => h) (Or.inl ⟨by rfl, ?hy7f⟩) hHeld ?rest7f
                    case hy7f => intro w9 hSw; go_simp; (try with_reducible rfl)
                    try simp only [Act.put, s_put, s_0, s_1]
                    refine wpAnyH_take (i := 8) (oi := ⟨some 40, .move (.tmp 5), 3, _, _, _⟩) (v := ?v8f) rfl (by kernel_rfl) (by kernel_rfl) (by kernel_rfl) (fun _ _ _ h => h) (Or.inl ⟨by rfl, ?hy8f⟩) hHeld ?rest8f
                    case hy8f => intro w9 hSw; go_simp; (try with_reducible rfl)
                    try simp only [Act.put, s_put, s_0, s_1]
                    refine wpAnyH_take (i := 9) (oi := ⟨some 41, .binOp BinOp.sub 3 (.tmp 40) (.const (Value.int IntKind.i64 1)) 3, 3, _, _, _⟩) (v := .int .i64 (j : Int)) rfl (by kernel_rfl) (by kernel_rfl) (by kernel_rfl) (fun _ _ _ h => h) (Or.inl ⟨by rfl, ?hy9f⟩) hHeld ?rest9f
                    case hy9f => intro w9 hSw; go_simp; try (rw [IntKind.wrap_i64]; omega)
                    try simp only [Act.put, s_put, s_0, s_1]
                    refine wpAnyH_take (i := 10) (oi := ⟨some 42, .indexAddr 23 (.tmp 39) (.tmp 41), 0, _, _, _⟩) (v := ?v10f) rfl (by kernel_rfl) (by kernel_rfl) (by kernel_rfl) (fun _ _ _ h => h) (Or.inl ⟨by rfl, ?hy10f⟩) hHeld ?rest10f
                    case hy10f => intro w9 hSw; go_simp; (try with_reducible rfl)
                    try simp only [Act.put, s_put, s_0, s_1]
                    refine wpAnyH_take (i := 11) (oi := ⟨some 43, .load 39 (.tmp 42), 39, _, _, _⟩) (v := ?v11f) rfl (by kernel_rfl) (by kernel_rfl) (by kernel_rfl) (fun _ _ _ h => h) (Or.inl ⟨by rfl, ?hy11f⟩) hHeld ?rest11f
                    case hy11f => intro w9 hSw; obtain ⟨d0, d1, d2, d3, d4, d5, d6⟩ := N2.out.later hSw; go_simp; (try with_reducible rfl)
                    try simp only [Act.put, s_put, s_0, s_1]
                    refine wpAnyH_ready (rs := [12]) (by kernel_rfl) (by simp) ?_
                    refine AllReadyH.cons (o := ⟨some 44, .call { callee := .value (.func 42), args := #[.tmp 38, .tmp 43], argTypes := #[39, 39] }, 4, _, _, _⟩) rfl (fun K hK => ?_) AllReadyH.nil
                    go_simp
                    refine (CS.out _ hT).mono ?_
                    rintro e x12 ⟨rfl, hN12⟩
                    go_wp2_with fail
                    have hT12 : Below wr.heap.size wr x12 := hT.trans (hN12.mono hT.size)
                    refine hK.out _ _ (hHeld.trans (hN12.mono hHeld.size)) (fun _ => held_up (S' := fun w' => Below x12.heap.size x12 w') (fun w' h' => (hHeld.trans (hN12.mono hHeld.size)).trans (h'.mono (Nat.le_trans hHeld.size hN12.size))) _ _ _ _ ?_)
                    clear hK K hHeld hT
                    have hT : Below wr.heap.size wr x12 := hT12
                    have hHeld : Below x12.heap.size x12 x12 := Below.refl _ _
                    clear hT12 hN12
                    try simp only [Act.put, s_put, s_0, s_1]
                    refine wpAnyH_take (i := 13) (oi := ⟨some 45, .pick (.tmp 34) (.tmp 44) (.const (Value.bool false)), 4, _, _, _⟩) (v := ?v13f) rfl (by kernel_rfl) (by kernel_rfl) (by kernel_rfl) (fun _ _ _ h => h) (Or.inl ⟨by rfl, ?hy13f⟩) hHeld ?rest13f
                    case hy13f => intro w9 hSw; go_simp; (try with_reducible rfl)
                    try simp only [Act.put, s_put, s_0, s_1]
                    refine wpAnyH_done (by kernel_rfl) ?_ _
                    refine NoPanic.normal ?_
                    have hB' : Below w.heap.size w x12 := hB.trans (hT.mono hB.size)
                    have HO' : Hid (x12.ownsRow w.heap.size 39 7 (.slice (some ⟨g, 0, none⟩) m capo) m (rowLX O)) := own_laterS HO.out hT
                    obtain ⟨g9, c9, e9, _, _, _, _, hro⟩ := ownLX HO'.out HOL.out (by have := HMP.out; omega)
                    cases e9
                    have HRO : Hid (RwX x12 g 0 O) := hro
                    clear hB HO hT hHeld hro
                    have hB := hB'
                    have HO := HO'
                    clear hB' HO'
                    generalize x12 = wr at *
                    have hqz : ¬ q = 0 := by have := HPQ.out; simpa using this.symm
                    by_cases hcj : capo = j + 1
                    · obtain rfl : m = j + 1 := by omega
                      subst hcj
                      obtain ⟨v8, w8, v9, w9, v10, w10, run8, run9, run10, own10, hB8, hB10⟩ := insX (w := wr) (g := g) (cap := j + 1) HOL.out HRO.out hk (by have := HMI.out; have := HIN.out; omega) hic x (some ⟨g, 0, none⟩) (.inl rfl)
                      have HF : Hid (w10.ownsRow w.heap.size 39 7 v10 ((j + 1) + 1) (rowLX (insL O (j + 1) x)) ∧ Once ordX (L.take (i + 1)) (insL O (j + 1) x) ∧ (insL O (j + 1) x).length = (j + 1) + 1) := ⟨own_low15 own10 hB.size, once_step ordX3 HX.out HS.out HG.out (fun j2 y2 h2 hy2 => by obtain rfl : j = j2 := (by omega); have := HY.out.symm.trans hy2; cases this; rw [← HQ.out]; exact ⟨by omega, hqz⟩) (by have := HOL.out; omega), by rw [insL_len (by have := HOL.out; omega), HOL.out]⟩
                      have HB10 : Hid (Below w.heap.size w w10) := hB.trans (hB10.mono hB.size)
                      obtain ⟨d0, d1, d2, d3, d4, d5, d6⟩ := N1w.out.later (hB.trans (hB8.mono hB.size))
                      have R8 : Hid (_ = _) := run8
                      have R9 : Hid (_ = _) := run9
                      have R10 : Hid ((Builtin.append_ #[23, 23] 23 #[v9, .slice (some ⟨g, 0, none⟩) 0 0]).run Try.prog w9 = .ok v10 w10) := by show _ = _; simpa using run10
                      clear run8 run9 run10 own10 hB8 hB10
                      go_wp2_with (first
                        | (at_builtin; refine wpList_append_run rfl (.tmp 58) (.tmp 61) 23 rfl _ _ _ rfl rfl R10.out ?_)
                        | (at_builtin; refine wpList_append_run rfl (.tmp 51) (.tmp 56) 23 rfl _ _ _ rfl rfl R9.out ?_)
                        | (at_builtin; refine wpList_append_run rfl (.tmp 46) (.tmp 49) 23 rfl _ _ _ rfl rfl R8.out ?_))
                      go_roundw
                      case rel => exact ⟨i + 1, (j + 1) + 1, _, HIN.out, by go_num, by have := HMI.out; omega, HF, fun e => by omega, HB10.out⟩
                      case measure => have := HIN.out; simp [intOf]; omega
                    · obtain ⟨v8, w8, v9, w9, v10, w10, run8, run9, run10, own10, hB8, hB10⟩ := insX (w := wr) (g := g) (cap := capo) HOL.out HRO.out hk (by have := HMI.out; have := HIN.out; omega) hic x (some ⟨g, 0, none⟩) (.inl rfl)
                      have HF : Hid (w10.ownsRow w.heap.size 39 7 v10 (m + 1) (rowLX (insL O (j + 1) x)) ∧ Once ordX (L.take (i + 1)) (insL O (j + 1) x) ∧ (insL O (j + 1) x).length = m + 1) := ⟨own_low15 own10 hB.size, once_step ordX3 HX.out HS.out HG.out (fun j2 y2 h2 hy2 => by obtain rfl : j = j2 := (by omega); have := HY.out.symm.trans hy2; cases this; rw [← HQ.out]; exact ⟨by omega, hqz⟩) (by have := HOL.out; omega), by rw [insL_len (by have := HOL.out; omega), HOL.out]⟩
                      have HB10 : Hid (Below w.heap.size w w10) := hB.trans (hB10.mono hB.size)
                      obtain ⟨d0, d1, d2, d3, d4, d5, d6⟩ := N1w.out.later (hB.trans (hB8.mono hB.size))
                      have R8 : Hid (_ = _) := run8
                      have R9 : Hid (_ = _) := run9
                      have R10 : Hid ((Builtin.append_ #[23, 23] 23 #[v9, .slice (some ⟨g, (j + 1) * 7, none⟩) (m - (j + 1)) (capo - (j + 1))]).run Try.prog w9 = .ok v10 w10) := by show _ = _; simpa [hcj] using run10
                      clear run8 run9 run10 own10 hB8 hB10
                      go_wp2_with (first
                        | (at_builtin; refine wpList_append_run rfl (.tmp 58) (.tmp 61) 23 rfl _ _ _ rfl rfl R10.out ?_)
                        | (at_builtin; refine wpList_append_run rfl (.tmp 51) (.tmp 56) 23 rfl _ _ _ rfl rfl R9.out ?_)
                        | (at_builtin; refine wpList_append_run rfl (.tmp 46) (.tmp 49) 23 rfl _ _ _ rfl rfl R8.out ?_))
                      go_roundw
                      case rel => exact ⟨i + 1, m + 1, _, HIN.out, by go_num, by have := HMI.out; omega, HF, fun e => by omega, HB10.out⟩
                      case measure => have := HIN.out; simp [intOf]; omega
                · · go_wp2_with fail
                    refine wp_region_noPanic ?_
                    refine wp_region_held_drew (S := fun w' => Below wr.heap.size wr w') (by kernel_rfl) ((Below.refl _ _).drew) (fun hHeld => ?_)
                    have hT : Below wr.heap.size wr wr.drew := hHeld
                    obtain ⟨d, hd⟩ : ∃ d, d = wr.drew := ⟨_, rfl⟩
                    rw [← hd] at hHeld hT ⊢
                    clear hd
                    refine wpAnyH_take (i := 0) (oi := ⟨some 32, .move (.tmp 5), 3, _, _, _⟩) (v := ?v0g) rfl (by kernel_rfl) (by kernel_rfl) (by kernel_rfl) (fun _ _ _ h => h) (Or.inl ⟨by rfl, ?hy0g⟩) hHeld ?rest0g
                    case hy0g => intro w9 hSw; go_simp; (try with_reducible rfl)
                    try simp only [Act.put, s_put, s_0, s_1]
                    refine wpAnyH_take (i := 1) (oi := ⟨some 33, .binOp BinOp.gtr 3 (.tmp 32) (.const (Value.int IntKind.i64 0)) 3, 4, _, _, _⟩) (v := ?v1g) rfl (by kernel_rfl) (by kernel_rfl) (by kernel_rfl) (fun _ _ _ h => h) (Or.inl ⟨by rfl, ?hy1g⟩) hHeld ?rest1g
                    case hy1g => intro w9 hSw; go_simp; (try with_reducible rfl)
                    try simp only [Act.put, s_put, s_0, s_1]
                    refine wpAnyH_take (i := 2) (oi := ⟨some 34, .move (.tmp 33), 4, _, _, _⟩) (v := ?v2g) rfl (by kernel_rfl) (by kernel_rfl) (by kernel_rfl) (fun _ _ _ h => h) (Or.inl ⟨by rfl, ?hy2g⟩) hHeld ?rest2g
                    case hy2g => intro w9 hSw; go_simp; (try with_reducible rfl)
                    try simp only [Act.put, s_put, s_0, s_1]
                    refine wpAnyH_take (i := 3) (oi := ⟨some 35, .move (.tmp 0), 23, _, _, _⟩) (v := ?v3g) rfl (by kernel_rfl) (by kernel_rfl) (by kernel_rfl) (fun _ _ _ h => h) (Or.inl ⟨by rfl, ?hy3g⟩) hHeld ?rest3g
                    case hy3g => intro w9 hSw; go_simp; (try with_reducible rfl)
                    try simp only [Act.put, s_put, s_0, s_1]
                    refine wpAnyH_take (i := 4) (oi := ⟨some 36, .move (.tmp 4), 3, _, _, _⟩) (v := ?v4g) rfl (by kernel_rfl) (by kernel_rfl) (by kernel_rfl) (fun _ _ _ h => h) (Or.inl ⟨by rfl, ?hy4g⟩) hHeld ?rest4g
                    case hy4g => intro w9 hSw; go_simp; (try with_reducible rfl)
                    try simp only [Act.put, s_put, s_0, s_1]
                    refine wpAnyH_take (i := 5) (oi := ⟨some 37, .indexAddr 23 (.tmp 35) (.tmp 36), 0, _, _, _⟩) (v := ?v5g) rfl (by kernel_rfl) (by kernel_rfl) (by kernel_rfl) (fun _ _ _ h => h) (Or.inl ⟨by rfl, ?hy5g⟩) hHeld ?rest5g
                    case hy5g => intro w9 hSw; go_simp; (try with_reducible rfl)
                    try simp only [Act.put, s_put, s_0, s_1]
                    refine wpAnyH_take (i := 6) (oi := ⟨some 38, .load 39 (.tmp 37), 39, _, _, _⟩) (v := ?v6g) rfl (by kernel_rfl) (by kernel_rfl) (by kernel_rfl) (fun _ _ _ h => h) (Or.inl ⟨by rfl, ?hy6g⟩) hHeld ?rest6g
                    case hy6g => intro w9 hSw; obtain ⟨d0, d1, d2, d3, d4, d5, d6⟩ := N1.out.later hSw; go_simp; (try with_reducible rfl)
                    try simp only [Act.put, s_put, s_0, s_1]
                    refine wpAnyH_take (i := 7) (oi := ⟨some 39, .move (.tmp 3), 23, _, _, _⟩) (v := ?v7g) rfl (by kernel_rfl) (by kernel_rfl) (by kernel_rfl) (fun _ _ _ h => h) (Or.inl ⟨by rfl, ?hy7g⟩) hHeld ?rest7g
                    case hy7g => intro w9 hSw; go_simp; (try with_reducible rfl)
                    try simp only [Act.put, s_put, s_0, s_1]
                    refine wpAnyH_take (i := 8) (oi := ⟨some 40, .move (.tmp 5), 3, _, _, _⟩) (v := ?v8g) rfl (by kernel_rfl) (by kernel_rfl) (by kernel_rfl) (fun _ _ _ h => h) (Or.inl ⟨by rfl, ?hy8g⟩) hHeld ?rest8g
                    case hy8g => intro w9 hSw; go_simp; (try with_reducible rfl)
                    try simp only [Act.put, s_put, s_0, s_1]
                    refine wpAnyH_take (i := 9) (oi := ⟨some 41, .binOp BinOp.sub 3 (.tmp 40) (.const (Value.int IntKind.i64 1)) 3, 3, _, _, _⟩) (v := .int .i64 (j : Int)) rfl (by kernel_rfl) (by kernel_rfl) (by kernel_rfl) (fun _ _ _ h => h) (Or.inl ⟨by rfl, ?hy9g⟩) hHeld ?rest9g
                    case hy9g => intro w9 hSw; go_simp; try (rw [IntKind.wrap_i64]; omega)
                    try simp only [Act.put, s_put, s_0, s_1]
                    refine wpAnyH_take (i := 10) (oi := ⟨some 42, .indexAddr 23 (.tmp 39) (.tmp 41), 0, _, _, _⟩) (v := ?v10g) rfl (by kernel_rfl) (by kernel_rfl) (by kernel_rfl) (fun _ _ _ h => h) (Or.inl ⟨by rfl, ?hy10g⟩) hHeld ?rest10g
                    case hy10g => intro w9 hSw; go_simp; (try with_reducible rfl)
                    try simp only [Act.put, s_put, s_0, s_1]
                    refine wpAnyH_take (i := 11) (oi := ⟨some 43, .load 39 (.tmp 42), 39, _, _, _⟩) (v := ?v11g) rfl (by kernel_rfl) (by kernel_rfl) (by kernel_rfl) (fun _ _ _ h => h) (Or.inl ⟨by rfl, ?hy11g⟩) hHeld ?rest11g
                    case hy11g => intro w9 hSw; obtain ⟨d0, d1, d2, d3, d4, d5, d6⟩ := N2.out.later hSw; go_simp; (try with_reducible rfl)
                    try simp only [Act.put, s_put, s_0, s_1]
                    refine wpAnyH_ready (rs := [12]) (by kernel_rfl) (by simp) ?_
                    refine AllReadyH.cons (o := ⟨some 44, .call { callee := .value (.func 42), args := #[.tmp 38, .tmp 43], argTypes := #[39, 39] }, 4, _, _, _⟩) rfl (fun K hK => ?_) AllReadyH.nil
                    go_simp
                    refine (CS.out _ hT).mono ?_
                    rintro e x12 ⟨rfl, hN12⟩
                    go_wp2_with fail
                    have hT12 : Below wr.heap.size wr x12 := hT.trans (hN12.mono hT.size)
                    refine hK.out _ _ (hHeld.trans (hN12.mono hHeld.size)) (fun _ => held_up (S' := fun w' => Below x12.heap.size x12 w') (fun w' h' => (hHeld.trans (hN12.mono hHeld.size)).trans (h'.mono (Nat.le_trans hHeld.size hN12.size))) _ _ _ _ ?_)
                    clear hK K hHeld hT
                    have hT : Below wr.heap.size wr x12 := hT12
                    have hHeld : Below x12.heap.size x12 x12 := Below.refl _ _
                    clear hT12 hN12
                    try simp only [Act.put, s_put, s_0, s_1]
                    refine wpAnyH_take (i := 13) (oi := ⟨some 45, .pick (.tmp 34) (.tmp 44) (.const (Value.bool false)), 4, _, _, _⟩) (v := ?v13g) rfl (by kernel_rfl) (by kernel_rfl) (by kernel_rfl) (fun _ _ _ h => h) (Or.inl ⟨by rfl, ?hy13g⟩) hHeld ?rest13g
                    case hy13g => intro w9 hSw; go_simp; (try with_reducible rfl)
                    try simp only [Act.put, s_put, s_0, s_1]
                    refine wpAnyH_done (by kernel_rfl) ?_ _
                    refine NoPanic.normal ?_
                    have HSK : Hid (wr.ownsRow w.heap.size 39 7 (.slice (some ⟨g, 0, none⟩) m capo) m (rowLX O) ∧ Once ordX (L.take (i + 1)) O ∧ O.length = m) := ⟨HO.out, by rw [List.take_add_one, HX.out]; exact HS.out.skip (List.mem_of_getElem? HY.out) (by rw [← HQ.out]; have := HPQ.out; simpa using this.symm), HOL.out⟩
                    have HSK' : Hid (x12.ownsRow w.heap.size 39 7 (.slice (some ⟨g, 0, none⟩) m capo) m (rowLX O) ∧ Once ordX (L.take (i + 1)) O ∧ O.length = m) := ⟨own_laterS HSK.out.1 hT, HSK.out.2⟩
                    have hB' : Below w.heap.size w x12 := hB.trans (hT.mono hB.size)
                    clear hB HO hT hHeld HSK
                    go_wp2
                    go_roundw
                    case rel => exact ⟨i + 1, m, O, HIN.out, by go_num, by have := HMI.out; omega, HSK', fun e => by have := HMP.out; omega, hB'⟩
                    case measure => have := HIN.out; simp [intOf]; omega
    · obtain rfl : i = n := by omega
      go_wp2
      go_ret
      refine ⟨_, O, rfl, ⟨by rw [HOS.out.2.2]; exact HOS.out.1, ?_⟩, hB⟩
      have := HOS.out.2.1
      rwa [List.take_of_length_le (by have := HLL.out; omega)] at this
end Go.Proofs.Ytcdehohmgfocdaa
