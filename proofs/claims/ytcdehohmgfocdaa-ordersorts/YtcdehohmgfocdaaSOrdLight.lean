/-
  The document's Light of queries, and its Same of conditions (haruspexref13).
  OrderSorts' walk: any patterns sorted, each once; any conditions.
  Lists of patterns that came in.
  Lists of patterns that came in, of any size within the form's own reach.
  Of what came in: cells of small types, and values.
-/
import Derived.Test.YtcdehohmgfocdaaSBrief
import Derived.Test.YtcdehohmgfocdaaSQryBase
import Derived.Test.YtcdehohmgfocdaaSExprBase
import Derived.Test.YtcdehohmgfocdaaSPatSame
import Derived.Test.YtcdehohmgfocdaaSExprRefOrd
import Derived.Test.YtcdehohmgfocdaaSOrdEach
import Derived.Test.YtcdehohmgfocdaaSOrdRefSort
import Derived.Test.YtcdehohmgfocdaaSOrdUniq
import Derived.Test.YtcdehohmgfocdaaSOrdCpX
import Derived.Test.YtcdehohmgfocdaaSOrdRefConds
import Derived.Test.YtcdehohmgfocdaaSTrees
import Derived.Test.YtcdehohmgfocdaaSOrdMath
import Derived.Deep.Strs
namespace Go.Proofs.Ytcdehohmgfocdaa
open Go.RowKit

/-- One of the two. -/
def SomeB15 (w : World) (e : Ending) (w' : World) : Prop := ∃ b : Bool, e = .returned (.bool b) ∧ Below w.heap.size w w'
set_option maxRecDepth 100000 in
set_option maxHeartbeats 4000000 in
theorem lightO13_any (q : Qy) (w : World) (hQ : IsQ w q) (hsm : q.p.size ≤ 1048576) : Calls Try.prog 7 #[q.val] w (SomeB15 w) := by
  have hB0 : Below w.heap.size w (w.alloc (.cells q.cells 30)) := (Below.refl _ _).alloc (Nat.le_refl _) _
  have C1 : Hid (Calls Try.prog 20 #[q.p.val] (w.alloc (.cells q.cells 30)) _) := refSizeP_any q.p _ (hQ.p.later hB0) hsm
  have HI : Hid (∀ i, i < q.n → ∀ W, Below w.heap.size w W → Calls Try.prog 21 #[(q.c i).val] W fun e w' => e = .returned (.int .i64 (szZ (q.c i))) ∧ Below W.heap.size W w') := fun i hi W hW => by
    obtain ⟨_, _, _, _, h1⟩ := (hQ.x.later hW).part (x := q.x) hi
    exact refSize_any _ W h1
  have HQ : Hid (IsQ w q) := hQ
  have qb := QB.new w q
  have QB0 : Hid (QB (w.alloc (.cells q.cells 30)) w.heap.size q) := qb
  obtain ⟨⟨k0, k1, k2, k3, k4, k5⟩, -⟩ := qb.at0
  have hlen : q.n ≤ 9223372036854775807 := hQ.x.len
  have HB0 : Hid (Below w.heap.size w (w.alloc (.cells q.cells 30))) := hB0
  clear hQ qb hB0
  go_enter Try.func7, Try.ntmps7
  go_wp2_with (first | (go_at_call 20; refine C1.out.mono ?_; rintro e w1 ⟨rfl, hB1⟩))
  have hw1 : Below w.heap.size w w1 := HB0.out.trans (hB1.mono HB0.out.size)
  have QB1 : Hid (QB w1 w.heap.size q) := QB0.out.later hB1
  clear k0 k1 k2 k3 k4 k5 C1 QB0 HB0 hB1
  go_loopw [3, 4] (fun u v wr => ∃ (k : Nat) (z : Int), k ≤ q.n ∧ u = .int .i64 z ∧ v = .int .i64 k ∧ Below w1.heap.size w1 wr) (fun _ v _ => q.n - (intOf v).toNat)
  case atStart => exact ⟨0, _, Nat.zero_le _, rfl, rfl, Below.refl _ _⟩
  case round =>
    obtain ⟨k, z, hk, rfl, rfl, hB⟩ := hrel
    have hw := hw1.trans (hB.mono hw1.size)
    obtain ⟨-, c6, -, -, -, c10⟩ := (QB1.out.later hB).at0
    by_cases hkn : k < q.n
    · obtain ⟨b, o, ea, hn, -⟩ := (HQ.out.x.later hw).part (x := q.x) hkn
      have ea1 : q.a = some ⟨b, o, none⟩ := ea
      rw [ea1] at c6
      have hn1 : Node wr b (o + k * 7) (q.c k) := hn
      obtain ⟨d0, d1, d2, d3, d4, d5, d6⟩ := hn1
      have hc := HI.out k hkn wr hw
      have HKN : Hid (k < q.n) := hkn
      clear ea ea1 hn
      go_wp2_with (first | (go_at_call 21; refine hc.mono ?_; clear hc; rintro e w2 ⟨rfl, hB2⟩))
      refine ⟨⟨k + 1, _, HKN.out, rfl, by simp, hB.trans (hB2.mono hB.size)⟩, ?_⟩
      have := HKN.out
      simp [intOf]
      omega
    · obtain rfl : k = q.n := by omega
      go_wp2
      all_goals go_ret
      all_goals exact ⟨_, rfl, hw⟩
set_option maxRecDepth 100000 in
set_option maxHeartbeats 4000000 in
theorem sameX13_any (x y : X) (w : World) (hX : IsX w x) (hY : IsX w y) : Calls Try.prog 16 #[x.val, y.val] w fun e w' => e = .returned (.bool (ordX x y == 0)) ∧ Below w.heap.size w w' := by
  obtain ⟨A, hA, hB, hs, hn, hm⟩ := two_boxes x y w
  obtain ⟨a0, a1, a2, a3, a4, a5, a6⟩ := hn.at0
  obtain ⟨b0, b1, b2, b3, b4, b5, b6⟩ := hm.at0
  have C1 : Hid (∀ d, Below A.heap.size A d → Calls Try.prog 42 #[x.val, y.val] d fun e w' => e = .returned (.bool (ordX x y == 0)) ∧ Below d.heap.size d w') := fun d h => refSameX_any x y d ((hX.later hB).later h) ((hY.later hB).later h)
  have HB : Hid (Below w.heap.size w A) := hB
  obtain ⟨z, hz⟩ : ∃ z, z = (ordX x y == 0) := ⟨_, rfl⟩
  rw [← hz] at C1 ⊢
  clear hX hY hB hn hm hz
  go_enter Try.func16, Try.ntmps16
  go_upto_region 1 with fail
  clear hA
  go_wp2_with (first | (go_at_call 42; refine (C1.out _ (Below.refl _ _)).mono ?_; rintro e w1 ⟨rfl, hB1⟩))
  go_ret
  exact ⟨rfl, HB.out.trans (hB1.mono HB.out.size)⟩
end Go.Proofs.Ytcdehohmgfocdaa
namespace Go.Proofs.Ytcdehohmgfocdaa
open Go.RowKit

theorem own_ps {w : World} {B n : Nat} {v : Value} {L : List Pt} (h : w.ownsRow B 27 6 v n (rowLP L)) (hl : L.length = n) (hI : ∀ x ∈ L, IsP w x) : ∃ a cap, v = .slice a n cap ∧ Ps w a n (fun i => L.getD i .nil) := by
  by_cases h0 : 0 < n
  · obtain ⟨g, cap, rfl, _, _, _, _, hg⟩ := ownLP h hl h0
    refine ⟨_, cap, rfl, fun i hi => ⟨g, 0, rfl, hg i _ (by simp [show i < L.length by omega]), hI _ ?_⟩⟩
    show L.getD i .nil ∈ L
    rw [List.getD_eq_getElem?_getD, List.getElem?_eq_getElem (show i < L.length by omega)]
    exact List.getElem_mem _
  · obtain rfl : n = 0 := by omega
    rcases h.2 with ⟨rfl, _⟩ | ⟨g, cap, _, rfl, _⟩
    · exact ⟨none, 0, rfl, fun i hi => absurd hi (Nat.not_lt_zero _)⟩
    · exact ⟨_, cap, rfl, fun i hi => absurd hi (Nat.not_lt_zero _)⟩
theorem own_xs {w : World} {B n : Nat} {v : Value} {L : List X} (h : w.ownsRow B 39 7 v n (rowLX L)) (hl : L.length = n) (hI : ∀ x ∈ L, IsX w x) : ∃ a cap, v = .slice a n cap ∧ Xs w a n (fun i => L.getD i .nil) := by
  by_cases h0 : 0 < n
  · obtain ⟨g, cap, rfl, _, _, _, _, hg⟩ := ownLX h hl h0
    refine ⟨_, cap, rfl, fun i hi => ⟨g, 0, rfl, hg i _ (by simp [show i < L.length by omega]), hI _ ?_⟩⟩
    show L.getD i .nil ∈ L
    rw [List.getD_eq_getElem?_getD, List.getElem?_eq_getElem (show i < L.length by omega)]
    exact List.getElem_mem _
  · obtain rfl : n = 0 := by omega
    rcases h.2 with ⟨rfl, _⟩ | ⟨g, cap, _, rfl, _⟩
    · exact ⟨none, 0, rfl, fun i hi => absurd hi (Nat.not_lt_zero _)⟩
    · exact ⟨_, cap, rfl, fun i hi => absurd hi (Nat.not_lt_zero _)⟩
abbrev lstX (c : Nat → X) (n : Nat) : List X := (List.range n).map c
theorem lstX_mem {c : Nat → X} {n : Nat} {x : X} : x ∈ lstX c n ↔ ∃ i, i < n ∧ c i = x := by simp
theorem Xs.row {w : World} {a : Option Addr} {n : Nat} {c : Nat → X} (h : Xs w a n c) : 0 < n → ∃ b o, a = some ⟨b, o, none⟩ ∧ RwX w b o (lstX c n) := fun h0 => by
  obtain ⟨b, o, rfl, _⟩ := h 0 h0
  refine ⟨b, o, rfl, fun i x hx => ?_⟩
  have hi : i < n := by have := (List.getElem?_eq_some_iff.1 hx).1; simpa using this
  have e : (lstX c n)[i]? = some (c i) := by simp [hi]
  rw [e] at hx
  cases hx
  obtain ⟨b', o', e', h1, _⟩ := h i hi
  cases e'
  exact h1
/-- All that the law's road asks of what comes in. -/
structure In15 (w : World) (a : Option Addr) (n cap : Nat) (D : Nat → Pt) (a2 : Option Addr) (n2 cap2 : Nat) (E : Nat → X) : Prop where
  ps : Ps w a n D
  hn : n ≤ 1759218604390
  hc : n ≤ cap
  hm : cap ≤ 9223372036854775807
  hs : ∀ i, i < n → WdP (D i)
  xs : Xs w a2 n2 E
  hc2 : n2 ≤ cap2
  hm2 : cap2 ≤ 9223372036854775807
  hs2 : ∀ i, i < n2 → WdX (E i) ∧ XOk (E i)
set_option maxRecDepth 100000 in
set_option maxHeartbeats 2000000 in
theorem orderSorts_no (a : Option Addr) (n cap : Nat) (D : Nat → Pt) (a2 : Option Addr) (n2 cap2 : Nat) (E : Nat → X) (w : World) (h : In15 w a n cap D a2 n2 cap2 E) (hl : litB D n = false) :
    Calls Try.prog 3 #[.slice a n cap, .slice a2 n2 cap2] w fun e w' => e = .returned (.bool true) ∧ Below w.heap.size w w' := by
  have L1 : Hid (Calls Try.prog 6 #[.slice a n cap] w fun e w' => e = .returned (.bool false) ∧ Below w.heap.size w w') := by
    have := lightW_any a n cap D w (by have := h.hn; omega) h.ps
    rw [hl] at this
    exact this
  have W1 : Hid (∀ d, Calls Try.prog 8 #[] d fun e w' => e = .returned (.bool true) ∧ Below d.heap.size d w') := fun d => awake15_any d
  clear h hl
  go_enter Try.func3, Try.ntmps3
  go_wp2_with (first
    | (go_at_call 6; refine L1.out.mono ?_; clear L1; rintro e w1 ⟨rfl, hB1⟩)
    | (go_at_call 8; refine (W1.out _).mono ?_; clear W1; rintro e w2 ⟨rfl, hB2⟩))
  go_ret
  exact ⟨rfl, hB1.trans (hB2.mono hB1.size)⟩
set_option maxRecDepth 100000 in
set_option maxHeartbeats 2000000 in
theorem orderSorts_many (a : Option Addr) (n cap : Nat) (D : Nat → Pt) (a2 : Option Addr) (n2 cap2 : Nat) (E : Nat → X) (w : World) (h : In15 w a n cap D a2 n2 cap2 E) (hl : litB D n = true) (h40 : 40 < n2) :
    Calls Try.prog 3 #[.slice a n cap, .slice a2 n2 cap2] w fun e w' => e = .returned (.bool true) ∧ Below w.heap.size w w' := by
  have L1 : Hid (Calls Try.prog 6 #[.slice a n cap] w fun e w' => e = .returned (.bool true) ∧ Below w.heap.size w w') := by
    have := lightW_any a n cap D w (by have := h.hn; omega) h.ps
    rw [hl] at this
    exact this
  have W1 : Hid (∀ d, Calls Try.prog 8 #[] d fun e w' => e = .returned (.bool true) ∧ Below d.heap.size d w') := fun d => awake15_any d
  have h40' : (40 : Int) < (n2 : Int) := by omega
  clear h hl h40
  go_enter Try.func3, Try.ntmps3
  go_wp2_with (first
    | (go_at_call 6; refine L1.out.mono ?_; clear L1; rintro e w1 ⟨rfl, hB1⟩)
    | (go_at_call 8; refine (W1.out _).mono ?_; clear W1; rintro e w2 ⟨rfl, hB2⟩))
  go_ret
  exact ⟨rfl, hB1.trans (hB2.mono hB1.size)⟩
/-- What the six calls answer, in one world. -/
structure Six (w : World) (n : Nat) (a5 a6 a7 a8 : Option Addr) (m : Nat) (a9 a10 : Option Addr) (k : Nat) (c5 c6 c7 c8 : Nat → Pt) (c9 c10 : Nat → X) : Prop where
  p5 : Ps w a5 n c5
  p6 : Ps w a6 n c6
  p7 : Ps w a7 m c7
  p8 : Ps w a8 m c8
  x9 : Xs w a9 k c9
  x10 : Xs w a10 k c10
  s1 : ∀ i, i < n → sameP (c5 i) (c6 i) = true
  s2 : ∀ i, i < m → sameP (c7 i) (c8 i) = true
  s3 : ∀ i, i < k → ordX (c9 i) (c10 i) = 0
set_option maxRecDepth 100000 in
set_option maxHeartbeats 16000000 in
theorem orderSorts_yes (a : Option Addr) (n cap : Nat) (D : Nat → Pt) (a2 : Option Addr) (n2 cap2 : Nat) (E : Nat → X) (w : World) (h : In15 w a n cap D a2 n2 cap2 E) (hl : litB D n = true) (h40 : ¬ 40 < n2) :
    Calls Try.prog 3 #[.slice a n cap, .slice a2 n2 cap2] w fun e w' => e = .returned (.bool true) ∧ Below w.heap.size w w' := by
  have L1 : Hid (Calls Try.prog 6 #[.slice a n cap] w fun e w' => e = .returned (.bool true) ∧ Below w.heap.size w w') := by
    have := lightW_any a n cap D w (by have := h.hn; omega) h.ps
    rw [hl] at this
    exact this
  have L2 : Hid (∀ d, Below w.heap.size w d → Calls Try.prog 7 #[.agg #[.int .i64 0, .string ⟨#[]⟩, .string ⟨#[]⟩, .int .i64 0, .int .i64 0, .slice none 0 0, .slice a2 n2 cap2, .string ⟨#[]⟩, .int .i64 0, .int .i64 0, .slice none 0 0]] d (SomeB15 d)) := fun d hd =>
    lightO13_any ⟨.nil, a2, n2, cap2, E, ⟨#[]⟩, 0, 0, none, 0, 0, fun _ => ⟨⟨#[]⟩, 0, ⟨#[]⟩, ⟨#[]⟩⟩⟩ d ⟨trivial, ⟨h.hc2, h.hm2, fun i hi => (h.xs.later hd) i hi⟩, fun i hi => absurd hi (Nat.not_lt_zero _), Nat.le_refl _, Nat.zero_le _⟩ (by simp [Pt.size])
  have W1 : Hid (∀ d, Calls Try.prog 8 #[] d fun e w' => e = .returned (.bool true) ∧ Below d.heap.size d w') := fun d => awake15_any d
  have IL : ∀ d, Below w.heap.size w d → ∀ x ∈ lstP D n, IsP d x ∧ WdP x := fun d hd x hx => by
    obtain ⟨i, hi, rfl⟩ := lstP_mem.1 hx
    obtain ⟨_, _, _, _, q2⟩ := (h.ps.later hd) i hi
    exact ⟨q2, h.hs i hi⟩
  have IX : ∀ d, Below w.heap.size w d → ∀ x ∈ lstX E n2, IsX d x ∧ WdX x ∧ XOk x := fun d hd x hx => by
    obtain ⟨i, hi, rfl⟩ := lstX_mem.1 hx
    obtain ⟨_, _, _, _, q2⟩ := (h.xs.later hd) i hi
    exact ⟨q2, h.hs2 i hi⟩
  have C5 : Hid (∀ d, Below w.heap.size w d → Calls Try.prog 9 #[.slice a n cap] d fun e w' => ∃ (a' : Option Addr) (cap' : Nat) (c : Nat → Pt) (r : List Pt), e = .returned (.slice a' n cap') ∧ Hid (Ps w' a' n c ∧ St formP (lstP D n) r ∧ ∀ i, i < n → Sm (c i) (r.getD i .nil)) ∧ Below d.heap.size d w') := fun d hd => by
    have hk := sortO_any a cap (lstP D n) d (h.ps.later hd).row (IL d hd) (by rw [lstP_len]; exact h.hc) h.hm (by rw [lstP_len]; exact h.hn)
    unfold SortAns at hk
    rw [lstP_len] at hk
    refine hk.mono ?_
    rintro e w' ⟨a', cap', c, r, rfl, q, hB⟩
    exact ⟨a', cap', c, r, rfl, ⟨q.out.1.ps, q.out.2.1, q.out.2.2.1⟩, hB⟩
  have C6 : Hid (∀ d, Below w.heap.size w d → Calls Try.prog 10 #[.slice a n cap] d fun e w' => ∃ (a' : Option Addr) (cap' : Nat) (r : List Pt), e = .returned (.slice a' n cap') ∧ Hid (Ps w' a' n (fun i => r.getD i .nil) ∧ St formP (lstP D n) r) ∧ Below d.heap.size d w') := fun d hd => by
    refine (refSortO_any a n cap (lstP D n) d (lstP_len D n) (fun h0 => (h.ps.later hd).row (by rw [lstP_len]; exact h0)) h.hn (fun x hx => (IL d hd x hx).1)).mono ?_
    rintro e w' ⟨v, r, rfl, q, hB⟩
    obtain ⟨a', cap', rfl, hp⟩ := own_ps q.out.1 (q.out.2.perm.length_eq.trans (lstP_len D n)) (fun x hx => (IL d hd x (q.out.2.perm.mem_iff.1 hx)).1.later hB)
    exact ⟨a', cap', r, rfl, ⟨hp, q.out.2⟩, hB⟩
  obtain ⟨m, hm⟩ : ∃ m, m = (firstsL D n).length := ⟨_, rfl⟩
  have hmn : m ≤ 1759218604390 := by rw [hm]; have := firstsL_le D n; have := h.hn; omega
  have C7 : Hid (∀ d, Below w.heap.size w d → Calls Try.prog 11 #[.slice a n cap] d fun e w' => ∃ (a' : Option Addr) (cap' : Nat) (c : Nat → Pt), e = .returned (.slice a' m cap') ∧ Hid (Ps w' a' m c ∧ ∀ i, i < m → Sm (c i) (D ((firstsL D n).getD i 0))) ∧ Below d.heap.size d w') := fun d hd => by
    rw [hm]
    exact unique_any a n cap D d (h.ps.later hd) h.hn h.hs
  have C8 : Hid (∀ d, Below w.heap.size w d → Calls Try.prog 12 #[.slice a n cap] d fun e w' => ∃ (a' : Option Addr) (cap' : Nat) (c : Nat → Pt), e = .returned (.slice a' m cap') ∧ Hid (Ps w' a' m c ∧ ∀ i, i < m → c i = D ((firstsL D n).getD i 0)) ∧ Below d.heap.size d w') := fun d hd => by
    refine (refUnique_any a n cap D d (h.ps.later hd) h.hn).mono ?_
    rintro e w' ⟨v, rfl, q, hB⟩
    rw [hm]
    obtain ⟨a', cap', rfl, hp⟩ := own_ps q.out (by rw [List.length_map]) (fun x hx => by
      obtain ⟨k, hk, rfl⟩ := List.mem_map.1 hx
      obtain ⟨_, _, _, _, q2⟩ := (h.ps.later hd) k (firstsL_mem.1 hk).1
      exact q2.later hB)
    refine ⟨a', cap', _, rfl, ⟨hp, fun i hi => ?_⟩, hB⟩
    simp [hi]
  have C9 : Hid (∀ d, Below w.heap.size w d → Calls Try.prog 13 #[.slice a2 n2 cap2] d (CondsAns (lstX E n2) d)) := fun d hd =>
    conds_any a2 n2 cap2 (lstX E n2) d (by simp) (h.xs.later hd).row (IX d hd) h.hc2 h.hm2 (by omega)
  have C10 : Hid (∀ d, Below w.heap.size w d → Calls Try.prog 14 #[.slice a2 n2 cap2] d fun e w' => ∃ (a' : Option Addr) (cap' : Nat) (r : List X), e = .returned (.slice a' r.length cap') ∧ Hid (Xs w' a' r.length (fun i => r.getD i .nil) ∧ Once ordX (lstX E n2) r) ∧ Below d.heap.size d w') := fun d hd => by
    refine (refConds_any a2 n2 cap2 (lstX E n2) d (by simp) (h.xs.later hd).row (by omega) (fun x hx => (IX d hd x hx).1)).mono ?_
    rintro e w' ⟨v, r, rfl, q, hB⟩
    obtain ⟨a', cap', rfl, hp⟩ := own_xs q.out.1 rfl (fun x hx => (IX d hd x (q.out.2.mem x hx)).1.later hB)
    exact ⟨a', cap', r, rfl, ⟨hp, q.out.2⟩, hB⟩
  have h40' : ¬ (40 : Int) < (n2 : Int) := by omega
  have hn := h.hn
  have HN2 : Hid (n2 ≤ 1048576) := by show _ ≤ _; omega
  clear h hl h40 IL IX hm
  go_enter Try.func3, Try.ntmps3
  go_upto_region 3 with (first
    | (go_at_call 6; refine L1.out.mono ?_; clear L1; rintro e w1 ⟨rfl, hB1⟩)
    | (go_at_call 7; refine (L2.out _ hB1).mono ?_; clear L2; rintro e w2 ⟨b, rfl, hB2⟩; have hA2 := hB1.trans (hB2.mono hB1.size); cases b)
    | (go_at_call 8; refine (W1.out _).mono ?_; clear W1; rintro e w3 ⟨rfl, hB3⟩))
  · go_ret
    exact ⟨rfl, hA2.trans (hB3.mono hA2.size)⟩
  · go_upto_region 9 with (first
      | (go_at_call 9; refine (C5.out _ hA2).mono ?_; clear C5; rintro e w5 ⟨a5, k5, c5, r5, rfl, h5, hB5⟩; have hA5 := hA2.trans (hB5.mono hA2.size))
      | (go_at_call 10; refine (C6.out _ hA5).mono ?_; clear C6; rintro e w6 ⟨a6, k6, r6, rfl, h6, hB6⟩; have hA6 := hA5.trans (hB6.mono hA5.size))
      | (go_at_call 11; refine (C7.out _ hA6).mono ?_; clear C7; rintro e w7 ⟨a7, k7, c7, rfl, h7, hB7⟩; have hA7 := hA6.trans (hB7.mono hA6.size))
      | (go_at_call 12; refine (C8.out _ hA7).mono ?_; clear C8; rintro e w8 ⟨a8, k8, c8, rfl, h8, hB8⟩; have hA8 := hA7.trans (hB8.mono hA7.size))
      | (go_at_call 13; refine (C9.out _ hA8).mono ?_; clear C9; rintro e w9 ⟨a9, k9, m9, c9, u9, rfl, h9, hB9⟩; have hA9 := hA8.trans (hB9.mono hA8.size))
      | (go_at_call 14; refine (C10.out _ hA9).mono ?_; clear C10; rintro e w10 ⟨a10, k10, r10, rfl, h10, hB10⟩; have hA10 := hA9.trans (hB10.mono hA9.size)))
    obtain ⟨q1, q2, q3, q4, q5⟩ := h9.out
    obtain ⟨t1, t2⟩ := Once.uniq ordX3 q2 h10.out.2
    have em : r10.length = m9 := by omega
    have er : r6 = r5 := h6.out.2.uniq form3 h5.out.2.1
    have HSIX : Hid (Six w10 n a5 a6 a7 a8 m a9 a10 m9 c5 (fun i => r6.getD i .nil) c7 c8 c9 (fun i => r10.getD i .nil)) := by
      have g9 : ∀ {d}, Below d.heap.size d w9 → Below d.heap.size d w10 := fun {d} hd => hd.trans (hB10.mono hd.size)
      have g8 : ∀ {d}, Below d.heap.size d w8 → Below d.heap.size d w10 := fun {d} hd => g9 (hd.trans (hB9.mono hd.size))
      have g7 : ∀ {d}, Below d.heap.size d w7 → Below d.heap.size d w10 := fun {d} hd => g8 (hd.trans (hB8.mono hd.size))
      have g6 : ∀ {d}, Below d.heap.size d w6 → Below d.heap.size d w10 := fun {d} hd => g7 (hd.trans (hB7.mono hd.size))
      refine ⟨h5.out.1.later (g6 hB6), h6.out.1.later (g7 hB7), h7.out.1.later (g8 hB8), h8.out.1.later (g9 hB9), q1.later hB10, em ▸ h10.out.1, fun i hi => ?_, fun i hi => ?_, fun i hi => ?_⟩
      · have := h5.out.2.2 i hi
        rw [er]
        exact this
      · have := h7.out.2 i hi
        rw [h8.out.2 i hi]
        exact this
      · have e9 : u9[i]? = some (u9.getD i .nil) := by simp [show i < u9.length by omega]
        have e10 : r10[i]? = some (r10.getD i .nil) := by simp [show i < r10.length by omega]
        exact ordX3.eq (q4 i hi) (t2 i _ _ e9 e10)
    have hm9 : m9 ≤ 1048576 := by have e : (lstX E n2).length = n2 := (by simp); have := HN2.out; omega
    have HW : Hid (Below w.heap.size w w10) := hA10
    rw [em]
    clear h5 h6 h7 h8 h9 h10 q1 q2 q3 q4 q5 t1 t2 em er HN2 hB1 hB2 hB5 hB6 hB7 hB8 hB9 hB10 hA2 hA5 hA6 hA7 hA8 hA9 hA10
    generalize (fun i => r6.getD i Pt.nil) = c6 at HSIX
    generalize (fun i => r10.getD i X.nil) = c10 at HSIX
    generalize w10 = W at *
    go_wp2
    go_loopw [11] (fun u wr => ∃ i : Nat, i ≤ n ∧ u = .int .i64 i ∧ Below W.heap.size W wr) (fun u _ => n - (intOf u).toNat)
    case atStart => exact ⟨0, Nat.zero_le _, rfl, Below.refl _ _⟩
    case round =>
      obtain ⟨i, hi, rfl, hB⟩ := hrel
      by_cases hin : i < n
      · obtain ⟨b5, o5, rfl, n5, i5⟩ := (HSIX.out.p5.later hB) i hin
        obtain ⟨b6, o6, rfl, n6, i6⟩ := (HSIX.out.p6.later hB) i hin
        have N1 : Hid (NodeP wr b5 (o5 + i * 6) (c5 i)) := n5
        have N2 : Hid (NodeP wr b6 (o6 + i * 6) (c6 i)) := n6
        have HIN : Hid (i < n) := hin
        have CS : Hid (∀ d, Below wr.heap.size wr d → Calls Try.prog 15 #[(c5 i).val, (c6 i).val] d fun e w' => e = .returned (.bool true) ∧ Below d.heap.size d w') := fun d hd => by
          have := refSameP_any (c5 i) (c6 i) d (i5.later hd) (i6.later hd)
          rw [HSIX.out.s1 i hin] at this
          exact this
        clear n5 n6 i5 i6
        go_wp2_with fail
        refine wp_region_noPanic ?_
        refine wp_region_held_drew (S := fun w' => Below wr.heap.size wr w') (by kernel_rfl) ((Below.refl _ _).drew) (fun hHeld => ?_)
        have hT : Below wr.heap.size wr wr.drew := hHeld
        obtain ⟨d, hd⟩ : ∃ d, d = wr.drew := ⟨_, rfl⟩
        rw [← hd] at hHeld hT ⊢
        clear hd
        refine wpAnyH_take (i := 0) (oi := ⟨some 66, .move (.tmp 5), 22, _, _, _⟩) (v := ?v0a) rfl (by kernel_rfl) (by kernel_rfl) (by kernel_rfl) (fun _ _ _ h => h) (Or.inl ⟨by rfl, ?hy0a⟩) hHeld ?rest0a
        case hy0a => intro w9 hSw; go_simp; (try with_reducible rfl)
        try simp only [Act.put, s_put, s_0, s_1]
        refine wpAnyH_take (i := 1) (oi := ⟨some 67, .move (.tmp 11), 3, _, _, _⟩) (v := ?v1a) rfl (by kernel_rfl) (by kernel_rfl) (by kernel_rfl) (fun _ _ _ h => h) (Or.inl ⟨by rfl, ?hy1a⟩) hHeld ?rest1a
        case hy1a => intro w9 hSw; go_simp; (try with_reducible rfl)
        try simp only [Act.put, s_put, s_0, s_1]
        refine wpAnyH_take (i := 2) (oi := ⟨some 68, .indexAddr 22 (.tmp 66) (.tmp 67), 0, _, _, _⟩) (v := ?v2a) rfl (by kernel_rfl) (by kernel_rfl) (by kernel_rfl) (fun _ _ _ h => h) (Or.inl ⟨by rfl, ?hy2a⟩) hHeld ?rest2a
        case hy2a => intro w9 hSw; go_simp; (try with_reducible rfl)
        try simp only [Act.put, s_put, s_0, s_1]
        refine wpAnyH_take (i := 3) (oi := ⟨some 69, .load 27 (.tmp 68), 27, _, _, _⟩) (v := ?v3a) rfl (by kernel_rfl) (by kernel_rfl) (by kernel_rfl) (fun _ _ _ h => h) (Or.inl ⟨by rfl, ?hy3a⟩) hHeld ?rest3a
        case hy3a => intro w9 hSw; obtain ⟨d0, d1, d2, d3, d4, d5⟩ := N1.out.later hSw; go_simp; (try with_reducible rfl)
        try simp only [Act.put, s_put, s_0, s_1]
        refine wpAnyH_take (i := 4) (oi := ⟨some 70, .move (.tmp 6), 22, _, _, _⟩) (v := ?v4a) rfl (by kernel_rfl) (by kernel_rfl) (by kernel_rfl) (fun _ _ _ h => h) (Or.inl ⟨by rfl, ?hy4a⟩) hHeld ?rest4a
        case hy4a => intro w9 hSw; go_simp; (try with_reducible rfl)
        try simp only [Act.put, s_put, s_0, s_1]
        refine wpAnyH_take (i := 5) (oi := ⟨some 71, .move (.tmp 11), 3, _, _, _⟩) (v := ?v5a) rfl (by kernel_rfl) (by kernel_rfl) (by kernel_rfl) (fun _ _ _ h => h) (Or.inl ⟨by rfl, ?hy5a⟩) hHeld ?rest5a
        case hy5a => intro w9 hSw; go_simp; (try with_reducible rfl)
        try simp only [Act.put, s_put, s_0, s_1]
        refine wpAnyH_take (i := 6) (oi := ⟨some 72, .indexAddr 22 (.tmp 70) (.tmp 71), 0, _, _, _⟩) (v := ?v6a) rfl (by kernel_rfl) (by kernel_rfl) (by kernel_rfl) (fun _ _ _ h => h) (Or.inl ⟨by rfl, ?hy6a⟩) hHeld ?rest6a
        case hy6a => intro w9 hSw; go_simp; (try with_reducible rfl)
        try simp only [Act.put, s_put, s_0, s_1]
        refine wpAnyH_take (i := 7) (oi := ⟨some 73, .load 27 (.tmp 72), 27, _, _, _⟩) (v := ?v7a) rfl (by kernel_rfl) (by kernel_rfl) (by kernel_rfl) (fun _ _ _ h => h) (Or.inl ⟨by rfl, ?hy7a⟩) hHeld ?rest7a
        case hy7a => intro w9 hSw; obtain ⟨d0, d1, d2, d3, d4, d5⟩ := N2.out.later hSw; go_simp; (try with_reducible rfl)
        try simp only [Act.put, s_put, s_0, s_1]
        refine wpAnyH_ready (rs := [8]) (by kernel_rfl) (by simp) ?_
        refine AllReadyH.cons (o := ⟨some 74, .call { callee := .value (.func 15), args := #[.tmp 69, .tmp 73], argTypes := #[27, 27] }, 4, _, _, _⟩) rfl (fun K hK => ?_) AllReadyH.nil
        go_simp
        refine (CS.out _ hT).mono ?_
        rintro e x8 ⟨rfl, hN8⟩
        go_wp2_with fail
        have hT8 : Below wr.heap.size wr x8 := hT.trans (hN8.mono hT.size)
        refine hK.out _ _ (hHeld.trans (hN8.mono hHeld.size)) (fun _ => held_up (S' := fun w' => Below x8.heap.size x8 w') (fun w' h' => (hHeld.trans (hN8.mono hHeld.size)).trans (h'.mono (Nat.le_trans hHeld.size hN8.size))) _ _ _ _ ?_)
        clear hK K hHeld hT
        have hT : Below wr.heap.size wr x8 := hT8
        have hHeld : Below x8.heap.size x8 x8 := Below.refl _ _
        clear hT8 hN8
        try simp only [Act.put, s_put, s_0, s_1]
        refine wpAnyH_take (i := 9) (oi := ⟨some 75, .unOp UnOp.not 4 (.tmp 74), 4, _, _, _⟩) (v := ?v9a) rfl (by kernel_rfl) (by kernel_rfl) (by kernel_rfl) (fun _ _ _ h => h) (Or.inl ⟨by rfl, ?hy9a⟩) hHeld ?rest9a
        case hy9a => intro w9 hSw; go_simp; (try with_reducible rfl)
        try simp only [Act.put, s_put, s_0, s_1]
        refine wpAnyH_done (by kernel_rfl) ?_ _
        refine NoPanic.normal ?_
        go_wp2
        go_roundw
        case rel => exact ⟨i + 1, HIN.out, by go_num, hB.trans (hT.mono hB.size)⟩
        case measure => have := HIN.out; simp [intOf]; omega
      · obtain rfl : i = n := by omega
        go_wp2
        go_loopw [12] (fun u wr => ∃ j : Nat, j ≤ m ∧ u = .int .i64 j ∧ Below W.heap.size W wr) (fun u _ => m - (intOf u).toNat)
        case atStart => exact ⟨0, Nat.zero_le _, rfl, hB⟩
        case round =>
          clear hB
          obtain ⟨j, hj, rfl, hB⟩ := hrel
          by_cases hjm : j < m
          · obtain ⟨b7, o7, rfl, n7, i7⟩ := (HSIX.out.p7.later hB) j hjm
            obtain ⟨b8, o8, rfl, n8, i8⟩ := (HSIX.out.p8.later hB) j hjm
            have N1 : Hid (NodeP wr b7 (o7 + j * 6) (c7 j)) := n7
            have N2 : Hid (NodeP wr b8 (o8 + j * 6) (c8 j)) := n8
            have HJM : Hid (j < m) := hjm
            have CS : Hid (∀ d, Below wr.heap.size wr d → Calls Try.prog 15 #[(c7 j).val, (c8 j).val] d fun e w' => e = .returned (.bool true) ∧ Below d.heap.size d w') := fun d hd => by
              have := refSameP_any (c7 j) (c8 j) d (i7.later hd) (i8.later hd)
              rw [HSIX.out.s2 j hjm] at this
              exact this
            clear n7 n8 i7 i8
            go_wp2_with fail
            refine wp_region_noPanic ?_
            refine wp_region_held_drew (S := fun w' => Below wr.heap.size wr w') (by kernel_rfl) ((Below.refl _ _).drew) (fun hHeld => ?_)
            have hT : Below wr.heap.size wr wr.drew := hHeld
            obtain ⟨d, hd⟩ : ∃ d, d = wr.drew := ⟨_, rfl⟩
            rw [← hd] at hHeld hT ⊢
            clear hd
            refine wpAnyH_take (i := 0) (oi := ⟨some 82, .move (.tmp 7), 22, _, _, _⟩) (v := ?v0b) rfl (by kernel_rfl) (by kernel_rfl) (by kernel_rfl) (fun _ _ _ h => h) (Or.inl ⟨by rfl, ?hy0b⟩) hHeld ?rest0b
            case hy0b => intro w9 hSw; go_simp; (try with_reducible rfl)
            try simp only [Act.put, s_put, s_0, s_1]
            refine wpAnyH_take (i := 1) (oi := ⟨some 83, .move (.tmp 12), 3, _, _, _⟩) (v := ?v1b) rfl (by kernel_rfl) (by kernel_rfl) (by kernel_rfl) (fun _ _ _ h => h) (Or.inl ⟨by rfl, ?hy1b⟩) hHeld ?rest1b
            case hy1b => intro w9 hSw; go_simp; (try with_reducible rfl)
            try simp only [Act.put, s_put, s_0, s_1]
            refine wpAnyH_take (i := 2) (oi := ⟨some 84, .indexAddr 22 (.tmp 82) (.tmp 83), 0, _, _, _⟩) (v := ?v2b) rfl (by kernel_rfl) (by kernel_rfl) (by kernel_rfl) (fun _ _ _ h => h) (Or.inl ⟨by rfl, ?hy2b⟩) hHeld ?rest2b
            case hy2b => intro w9 hSw; go_simp; (try with_reducible rfl)
            try simp only [Act.put, s_put, s_0, s_1]
            refine wpAnyH_take (i := 3) (oi := ⟨some 85, .load 27 (.tmp 84), 27, _, _, _⟩) (v := ?v3b) rfl (by kernel_rfl) (by kernel_rfl) (by kernel_rfl) (fun _ _ _ h => h) (Or.inl ⟨by rfl, ?hy3b⟩) hHeld ?rest3b
            case hy3b => intro w9 hSw; obtain ⟨d0, d1, d2, d3, d4, d5⟩ := N1.out.later hSw; go_simp; (try with_reducible rfl)
            try simp only [Act.put, s_put, s_0, s_1]
            refine wpAnyH_take (i := 4) (oi := ⟨some 86, .move (.tmp 8), 22, _, _, _⟩) (v := ?v4b) rfl (by kernel_rfl) (by kernel_rfl) (by kernel_rfl) (fun _ _ _ h => h) (Or.inl ⟨by rfl, ?hy4b⟩) hHeld ?rest4b
            case hy4b => intro w9 hSw; go_simp; (try with_reducible rfl)
            try simp only [Act.put, s_put, s_0, s_1]
            refine wpAnyH_take (i := 5) (oi := ⟨some 87, .move (.tmp 12), 3, _, _, _⟩) (v := ?v5b) rfl (by kernel_rfl) (by kernel_rfl) (by kernel_rfl) (fun _ _ _ h => h) (Or.inl ⟨by rfl, ?hy5b⟩) hHeld ?rest5b
            case hy5b => intro w9 hSw; go_simp; (try with_reducible rfl)
            try simp only [Act.put, s_put, s_0, s_1]
            refine wpAnyH_take (i := 6) (oi := ⟨some 88, .indexAddr 22 (.tmp 86) (.tmp 87), 0, _, _, _⟩) (v := ?v6b) rfl (by kernel_rfl) (by kernel_rfl) (by kernel_rfl) (fun _ _ _ h => h) (Or.inl ⟨by rfl, ?hy6b⟩) hHeld ?rest6b
            case hy6b => intro w9 hSw; go_simp; (try with_reducible rfl)
            try simp only [Act.put, s_put, s_0, s_1]
            refine wpAnyH_take (i := 7) (oi := ⟨some 89, .load 27 (.tmp 88), 27, _, _, _⟩) (v := ?v7b) rfl (by kernel_rfl) (by kernel_rfl) (by kernel_rfl) (fun _ _ _ h => h) (Or.inl ⟨by rfl, ?hy7b⟩) hHeld ?rest7b
            case hy7b => intro w9 hSw; obtain ⟨d0, d1, d2, d3, d4, d5⟩ := N2.out.later hSw; go_simp; (try with_reducible rfl)
            try simp only [Act.put, s_put, s_0, s_1]
            refine wpAnyH_ready (rs := [8]) (by kernel_rfl) (by simp) ?_
            refine AllReadyH.cons (o := ⟨some 90, .call { callee := .value (.func 15), args := #[.tmp 85, .tmp 89], argTypes := #[27, 27] }, 4, _, _, _⟩) rfl (fun K hK => ?_) AllReadyH.nil
            go_simp
            refine (CS.out _ hT).mono ?_
            rintro e x8 ⟨rfl, hN8⟩
            go_wp2_with fail
            have hT8 : Below wr.heap.size wr x8 := hT.trans (hN8.mono hT.size)
            refine hK.out _ _ (hHeld.trans (hN8.mono hHeld.size)) (fun _ => held_up (S' := fun w' => Below x8.heap.size x8 w') (fun w' h' => (hHeld.trans (hN8.mono hHeld.size)).trans (h'.mono (Nat.le_trans hHeld.size hN8.size))) _ _ _ _ ?_)
            clear hK K hHeld hT
            have hT : Below wr.heap.size wr x8 := hT8
            have hHeld : Below x8.heap.size x8 x8 := Below.refl _ _
            clear hT8 hN8
            try simp only [Act.put, s_put, s_0, s_1]
            refine wpAnyH_take (i := 9) (oi := ⟨some 91, .unOp UnOp.not 4 (.tmp 90), 4, _, _, _⟩) (v := ?v9b) rfl (by kernel_rfl) (by kernel_rfl) (by kernel_rfl) (fun _ _ _ h => h) (Or.inl ⟨by rfl, ?hy9b⟩) hHeld ?rest9b
            case hy9b => intro w9 hSw; go_simp; (try with_reducible rfl)
            try simp only [Act.put, s_put, s_0, s_1]
            refine wpAnyH_done (by kernel_rfl) ?_ _
            refine NoPanic.normal ?_
            go_wp2
            go_roundw
            case rel => exact ⟨j + 1, HJM.out, by go_num, hB.trans (hT.mono hB.size)⟩
            case measure => have := HJM.out; simp [intOf]; omega
          · obtain rfl : j = m := by omega
            go_wp2
            go_loopw [13] (fun u wr => ∃ k : Nat, k ≤ m9 ∧ u = .int .i64 k ∧ Below W.heap.size W wr) (fun u _ => m9 - (intOf u).toNat)
            case atStart => exact ⟨0, Nat.zero_le _, rfl, hB⟩
            case round =>
              clear hB
              obtain ⟨k, hk, rfl, hB⟩ := hrel
              by_cases hkm : k < m9
              · obtain ⟨b9, o9, rfl, n9, i9⟩ := (HSIX.out.x9.later hB) k hkm
                obtain ⟨b10, o10, rfl, n10, i10⟩ := (HSIX.out.x10.later hB) k hkm
                have N1 : Hid (Node wr b9 (o9 + k * 7) (c9 k)) := n9
                have N2 : Hid (Node wr b10 (o10 + k * 7) (c10 k)) := n10
                have HKM : Hid (k < m9) := hkm
                have CS : Hid (∀ d, Below wr.heap.size wr d → Calls Try.prog 16 #[(c9 k).val, (c10 k).val] d fun e w' => e = .returned (.bool true) ∧ Below d.heap.size d w') := fun d hd => by
                  have := sameX13_any (c9 k) (c10 k) d (i9.later hd) (i10.later hd)
                  rw [HSIX.out.s3 k hkm] at this
                  exact this
                clear n9 n10 i9 i10
                go_wp2_with fail
                refine wp_region_noPanic ?_
                refine wp_region_held_drew (S := fun w' => Below wr.heap.size wr w') (by kernel_rfl) ((Below.refl _ _).drew) (fun hHeld => ?_)
                have hT : Below wr.heap.size wr wr.drew := hHeld
                obtain ⟨d, hd⟩ : ∃ d, d = wr.drew := ⟨_, rfl⟩
                rw [← hd] at hHeld hT ⊢
                clear hd
                refine wpAnyH_take (i := 0) (oi := ⟨some 98, .move (.tmp 9), 23, _, _, _⟩) (v := ?v0c) rfl (by kernel_rfl) (by kernel_rfl) (by kernel_rfl) (fun _ _ _ h => h) (Or.inl ⟨by rfl, ?hy0c⟩) hHeld ?rest0c
                case hy0c => intro w9 hSw; go_simp; (try with_reducible rfl)
                try simp only [Act.put, s_put, s_0, s_1]
                refine wpAnyH_take (i := 1) (oi := ⟨some 99, .move (.tmp 13), 3, _, _, _⟩) (v := ?v1c) rfl (by kernel_rfl) (by kernel_rfl) (by kernel_rfl) (fun _ _ _ h => h) (Or.inl ⟨by rfl, ?hy1c⟩) hHeld ?rest1c
                case hy1c => intro w9 hSw; go_simp; (try with_reducible rfl)
                try simp only [Act.put, s_put, s_0, s_1]
                refine wpAnyH_take (i := 2) (oi := ⟨some 100, .indexAddr 23 (.tmp 98) (.tmp 99), 0, _, _, _⟩) (v := ?v2c) rfl (by kernel_rfl) (by kernel_rfl) (by kernel_rfl) (fun _ _ _ h => h) (Or.inl ⟨by rfl, ?hy2c⟩) hHeld ?rest2c
                case hy2c => intro w9 hSw; go_simp; (try with_reducible rfl)
                try simp only [Act.put, s_put, s_0, s_1]
                refine wpAnyH_take (i := 3) (oi := ⟨some 101, .load 39 (.tmp 100), 39, _, _, _⟩) (v := ?v3c) rfl (by kernel_rfl) (by kernel_rfl) (by kernel_rfl) (fun _ _ _ h => h) (Or.inl ⟨by rfl, ?hy3c⟩) hHeld ?rest3c
                case hy3c => intro w9 hSw; obtain ⟨d0, d1, d2, d3, d4, d5, d6⟩ := N1.out.later hSw; go_simp; (try with_reducible rfl)
                try simp only [Act.put, s_put, s_0, s_1]
                refine wpAnyH_take (i := 4) (oi := ⟨some 102, .move (.tmp 10), 23, _, _, _⟩) (v := ?v4c) rfl (by kernel_rfl) (by kernel_rfl) (by kernel_rfl) (fun _ _ _ h => h) (Or.inl ⟨by rfl, ?hy4c⟩) hHeld ?rest4c
                case hy4c => intro w9 hSw; go_simp; (try with_reducible rfl)
                try simp only [Act.put, s_put, s_0, s_1]
                refine wpAnyH_take (i := 5) (oi := ⟨some 103, .move (.tmp 13), 3, _, _, _⟩) (v := ?v5c) rfl (by kernel_rfl) (by kernel_rfl) (by kernel_rfl) (fun _ _ _ h => h) (Or.inl ⟨by rfl, ?hy5c⟩) hHeld ?rest5c
                case hy5c => intro w9 hSw; go_simp; (try with_reducible rfl)
                try simp only [Act.put, s_put, s_0, s_1]
                refine wpAnyH_take (i := 6) (oi := ⟨some 104, .indexAddr 23 (.tmp 102) (.tmp 103), 0, _, _, _⟩) (v := ?v6c) rfl (by kernel_rfl) (by kernel_rfl) (by kernel_rfl) (fun _ _ _ h => h) (Or.inl ⟨by rfl, ?hy6c⟩) hHeld ?rest6c
                case hy6c => intro w9 hSw; go_simp; (try with_reducible rfl)
                try simp only [Act.put, s_put, s_0, s_1]
                refine wpAnyH_take (i := 7) (oi := ⟨some 105, .load 39 (.tmp 104), 39, _, _, _⟩) (v := ?v7c) rfl (by kernel_rfl) (by kernel_rfl) (by kernel_rfl) (fun _ _ _ h => h) (Or.inl ⟨by rfl, ?hy7c⟩) hHeld ?rest7c
                case hy7c => intro w9 hSw; obtain ⟨d0, d1, d2, d3, d4, d5, d6⟩ := N2.out.later hSw; go_simp; (try with_reducible rfl)
                try simp only [Act.put, s_put, s_0, s_1]
                refine wpAnyH_ready (rs := [8]) (by kernel_rfl) (by simp) ?_
                refine AllReadyH.cons (o := ⟨some 106, .call { callee := .value (.func 16), args := #[.tmp 101, .tmp 105], argTypes := #[39, 39] }, 4, _, _, _⟩) rfl (fun K hK => ?_) AllReadyH.nil
                go_simp
                refine (CS.out _ hT).mono ?_
                rintro e x8 ⟨rfl, hN8⟩
                go_wp2_with fail
                have hT8 : Below wr.heap.size wr x8 := hT.trans (hN8.mono hT.size)
                refine hK.out _ _ (hHeld.trans (hN8.mono hHeld.size)) (fun _ => held_up (S' := fun w' => Below x8.heap.size x8 w') (fun w' h' => (hHeld.trans (hN8.mono hHeld.size)).trans (h'.mono (Nat.le_trans hHeld.size hN8.size))) _ _ _ _ ?_)
                clear hK K hHeld hT
                have hT : Below wr.heap.size wr x8 := hT8
                have hHeld : Below x8.heap.size x8 x8 := Below.refl _ _
                clear hT8 hN8
                try simp only [Act.put, s_put, s_0, s_1]
                refine wpAnyH_take (i := 9) (oi := ⟨some 107, .unOp UnOp.not 4 (.tmp 106), 4, _, _, _⟩) (v := ?v9c) rfl (by kernel_rfl) (by kernel_rfl) (by kernel_rfl) (fun _ _ _ h => h) (Or.inl ⟨by rfl, ?hy9c⟩) hHeld ?rest9c
                case hy9c => intro w9 hSw; go_simp; (try with_reducible rfl)
                try simp only [Act.put, s_put, s_0, s_1]
                refine wpAnyH_done (by kernel_rfl) ?_ _
                refine NoPanic.normal ?_
                go_wp2
                go_roundw
                case rel => exact ⟨k + 1, HKM.out, by go_num, hB.trans (hT.mono hB.size)⟩
                case measure => have := HKM.out; simp [intOf]; omega
              · obtain rfl : k = m9 := by omega
                go_wp2_with (go_at_call 8; refine (W1.out _).mono ?_; clear W1; rintro e w2 ⟨rfl, hB2⟩)
                go_ret
                exact ⟨rfl, HW.out.trans ((hB.trans (hB2.mono hB.size)).mono HW.out.size)⟩
theorem orderSorts_walk (a : Option Addr) (n cap : Nat) (D : Nat → Pt) (a2 : Option Addr) (n2 cap2 : Nat) (E : Nat → X) (w : World) (h : In15 w a n cap D a2 n2 cap2 E) :
    Calls Try.prog 3 #[.slice a n cap, .slice a2 n2 cap2] w fun e w' => e = .returned (.bool true) ∧ Below w.heap.size w w' := by
  cases hl : litB D n with
  | false => exact orderSorts_no a n cap D a2 n2 cap2 E w h hl
  | true =>
    by_cases h40 : 40 < n2
    · exact orderSorts_many a n cap D a2 n2 cap2 E w h hl h40
    · exact orderSorts_yes a n cap D a2 n2 cap2 E w h hl h40
theorem orderSorts_all (a : Option Addr) (n cap : Nat) (D : Nat → Pt) (a2 : Option Addr) (n2 cap2 : Nat) (E : Nat → X) (w : World) (h : IsP w (.mk 0 ⟨#[]⟩ ⟨#[]⟩ 0 0 a n cap D)) (hs : WdP (.mk 0 ⟨#[]⟩ ⟨#[]⟩ 0 0 a n cap D))
    (g : IsX w (.mk 0 val0 ⟨#[]⟩ ⟨#[]⟩ a2 n2 cap2 E)) (gs : WdX (X.mk 0 val0 ⟨#[]⟩ ⟨#[]⟩ a2 n2 cap2 E)) (go : XOk (X.mk 0 val0 ⟨#[]⟩ ⟨#[]⟩ a2 n2 cap2 E)) :
    Calls Try.prog 3 #[.slice a n cap, .slice a2 n2 cap2] w fun e w' => e = .returned (.bool true) ∧ Below w.heap.size w w' :=
  orderSorts_walk a n cap D a2 n2 cap2 E w ⟨h.ps, hs.1, h.1, h.2.1, hs.2, fun i hi => g.2.2 i hi, g.1, g.2.1, fun i hi => ⟨gs.2 i hi, go.2.2 i hi⟩⟩
end Go.Proofs.Ytcdehohmgfocdaa
namespace Go.Proofs.Ytcdehohmgfocdaa
open Go.RowKit Go.ChangeShapes Go.WideShapes

section
variable {H : Type} {enc : TypeId × Value → H} {w : World} {base : Nat} {spare : Nat → Bool} {held : Bool}
/-- Patterns that came in: as the parts of one. -/
abbrev Pt.all (a : Option Addr) (n cap : Nat) (c : Nat → Pt) : Pt := .mk 0 ⟨#[]⟩ ⟨#[]⟩ 0 0 a n cap c
end
end Go.Proofs.Ytcdehohmgfocdaa
namespace Go.Proofs.Ytcdehohmgfocdaa
open Go.RowKit Go.ChangeShapes Go.WideShapes

section
variable {H : Type} {enc : TypeId × Value → H} {w : World} {base : Nat} {spare : Nat → Bool} {held : Bool}
set_option maxRecDepth 100000 in
theorem open_psw {a : Option Addr} {len cap : Nat} {d : DataW H} {p : List MemPlace} (h : DataW.Trod enc Try.prog w base spare held 22 (.slice a len cap) d p) (hw5 : ∀ n ∈ d.weights Try.prog 22, n ≤ 140737488351232) :
    ∃ c : Nat → Pt, IsP w (Pt.all a len cap c) ∧ WdP (Pt.all a len cap c) ∧ POk (Pt.all a len cap c) := by
  obtain ⟨fuel, hf⟩ := h
  rcases Deep.open_slice Try.underlying22 hf with ⟨e4, _⟩ | ⟨a', len', cap', mm, nn, D, Pl, e4, _, hl4, hcm, hmm, hdp, hx⟩
  · have e' : [Value.slice a len cap] = [.slice none 0 0] := e4
    injection e' with e' _
    injection e' with e1 e2 e3
    subst e1 e2 e3
    exact ⟨fun _ => .nil, ⟨by omega, by omega, fun i hi => by omega⟩, ⟨by omega, fun i hi => by omega⟩, Nat.zero_le _, Nat.zero_le _, fun i hi => by omega⟩
  · cases hdp
    have e' : [Value.slice a len cap] = [.slice (some a') len' cap'] := e4
    injection e' with e' _
    injection e' with e1 e2 e3
    subst e1 e2 e3
    have hlm : len ≤ mm := by rw [hmm]; split <;> omega
    have hwr : len ≤ 1759218604390 := by
      have := hw5 _ (by simp only [DataW.weights, Try.underlying22]; exact List.mem_cons_self ..)
      rw [bytes_p] at this
      simp at this
      omega
    have hwe : ∀ i, i < len → ∀ n ∈ (D i).weights Try.prog 27, n ≤ 140737488351232 := fun i hi n hn => hw5 n (by
      simp only [DataW.weights, Try.underlying22, List.mem_cons, List.mem_append]
      exact .inr (.inl (mem_weightsAll (List.mem_map.2 ⟨i, List.mem_range.2 hi, rfl⟩) hn)))
    have each : ∀ i, i < len → ∃ q : Pt, w.cell? (a'.add (i * 6)) = some (.int .i64 q.k) ∧ w.cell? (a'.add (i * 6 + 1)) = some (.string q.s) ∧ w.cell? (a'.add (i * 6 + 2)) = some (.string q.t) ∧ w.cell? (a'.add (i * 6 + 3)) = some (.int .i64 q.lo) ∧
        w.cell? (a'.add (i * 6 + 4)) = some (.int .i64 q.hi) ∧ w.cell? (a'.add (i * 6 + 5)) = some (.slice q.a q.n q.cap) ∧ IsP w q ∧ WdP q ∧ POk q := by
      intro i hi
      obtain ⟨cs', h1, h2⟩ := hx i (by omega)
      rw [cells_p] at h1
      obtain ⟨_, hlen, hcell⟩ := World.cells?_some h1
      obtain ⟨q, rfl, hq, hqs, hqo⟩ := trod_pw _ _ _ _ h2 (hwe i hi) (Nat.le_refl _)
      have d0 := hcell 0 (by omega)
      have d1 := hcell 1 (by omega)
      have d2 := hcell 2 (by omega)
      have d3 := hcell 3 (by omega)
      have d4 := hcell 4 (by omega)
      have d5 := hcell 5 (by omega)
      rw [Deep.add_add] at d0 d1 d2 d3 d4 d5
      exact ⟨q, by simpa using d0, by simpa using d1, by simpa using d2, by simpa using d3, by simpa using d4, by simpa using d5, hq, hqs, hqo⟩
    have : Inhabited Pt := ⟨.nil⟩
    obtain ⟨q, hq⟩ := Deep.choose_lt each
    refine ⟨q, ⟨hl4, by unfold maxLen at hcm; omega, fun i hi => ?_⟩, ⟨hwr, fun i hi => (hq i hi).2.2.2.2.2.2.2.1⟩, Nat.zero_le _, Nat.zero_le _, fun i hi => (hq i hi).2.2.2.2.2.2.2.2⟩
    obtain ⟨b, off, spot⟩ := a'
    obtain ⟨d0, d1, d2, d3, d4, d5, hi1, hi2, -⟩ := hq i hi
    have hspot : spot = none := by simpa [Addr.add] using World.cell?_spot (hq 0 (by omega)).1
    subst hspot
    rw [add_none] at d0 d1 d2 d3 d4 d5
    refine ⟨b, off, rfl, ⟨?_, ?_, ?_, ?_, ?_, ?_⟩, hi1⟩
    · exact d0
    · rw [Nat.add_assoc]; exact d1
    · rw [Nat.add_assoc]; exact d2
    · rw [Nat.add_assoc]; exact d3
    · rw [Nat.add_assoc]; exact d4
    · rw [Nat.add_assoc]; exact d5
end
end Go.Proofs.Ytcdehohmgfocdaa
namespace Go.Proofs.Ytcdehohmgfocdaa
open Go.RowKit Go.ChangeShapes Go.WideShapes

section
variable {H : Type} {enc : TypeId × Value → H} {w : World} {base : Nat} {spare : Nat → Bool} {held : Bool}
theorem val_under : ∃ f0 f1 f2 : Field, Try.prog.underlying 37 = some (.struct #[f0, f1, f2]) ∧ f0.offset = 0 ∧ f1.offset = 1 ∧ f2.offset = 2 ∧ f0.type = 3 ∧ f1.type = 2 ∧ f2.type = 9 := ⟨_, _, _, Try.underlying37, rfl, rfl, rfl, rfl, rfl, rfl⟩
theorem cells_v : Try.prog.cellsOf 37 = 3 := by kernel_rfl
theorem cells_n : Try.prog.cellsOf 2 = 1 := by kernel_rfl
/-- The cells of a value, read. -/
theorem trod_val {fuel : Nat} {cs : List Value} {x : DataW H × List MemPlace} (h : DataW.trod enc Try.prog w base spare held fuel 37 cs = some x) :
    ∃ q : Val, cs = [.int .i64 q.k, .int .i64 q.n, .string q.s] := by
  obtain ⟨f0, f1, f2, hu, o0, o1, o2, t0, t1, t2⟩ := val_under
  obtain ⟨y0, y1, y2, m, rfl, hl, g0, g1, g2⟩ := Deep.trod_struct3 hu h
  rw [cells_v] at hl
  rw [o0, t0, cells_i] at g0
  rw [o1, t1, cells_n] at g1
  rw [o2, t2, cells_s] at g2
  match cs, hl with
  | [c0, c1, c2], _ =>
    obtain ⟨k, e0, rfl, w0⟩ := DataW.trod_int Try.underlying3 g0
    obtain ⟨n, e1, rfl, w1⟩ := DataW.trod_int Try.underlying2 g1
    obtain ⟨s, e2, rfl, w2⟩ := DataW.trod_string Try.underlying9 g2
    simp at e0 e1 e2
    subst e0 e1 e2
    exact ⟨⟨k, n, s⟩, rfl⟩
end
end Go.Proofs.Ytcdehohmgfocdaa
