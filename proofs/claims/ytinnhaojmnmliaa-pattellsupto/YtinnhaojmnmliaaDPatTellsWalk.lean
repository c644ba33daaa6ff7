/-
  PatTells' walk: all that is told of any two patterns.
-/
import Derived.Test.YtinnhaojmnmliaaDPatRefRight
import Derived.Test.YtinnhaojmnmliaaDPatRefVars
import Derived.Test.YtinnhaojmnmliaaDPatAt
import Derived.Test.YtinnhaojmnmliaaDPatTail
namespace Go.Proofs.Ytinnhaojmnmliaa
open Go.RowKit

/-- A row of kinds, by index. -/
def Kds (w : World) (a : Option Addr) (L : List Pt) : Prop := ∀ (j : Nat) (y : Pt), L[j]? = some y → ∃ g, a = some ⟨g, 0, none⟩ ∧ w.cell? ⟨g, j, none⟩ = some (.int .i64 y.k)
theorem Kds.later {w w' : World} {a : Option Addr} {L : List Pt} (h : Kds w a L) (hB : Below w.heap.size w w') : Kds w' a L := fun j y hy => by
  obtain ⟨g, e, hc⟩ := h j y hy
  exact ⟨g, e, cell_later hc hB⟩
/-- Three rows, each told by index. -/
theorem rows3 {base : Nat} {w : World} {v1 v2 v3 : Value} {L : List Pt} (h : R3 base w v1 v2 v3 (f1 L) (f2 L) (f3 L)) :
    ∃ a1 c1 a2 c2 a3 c3, v1 = .slice a1 L.length c1 ∧ v2 = .slice a2 L.length c2 ∧ v3 = .slice a3 L.length c3 ∧ Txs w a1 L.length (atS (L.map (·.s))) ∧ Txs w a2 L.length (atS (L.map (·.t))) ∧ Kds w a3 L := by
  have e1 : f1 L = cellsS (L.map (·.s)) := by simp [f1, cellsS]
  have e2 : f2 L = cellsS (L.map (·.t)) := by simp [f2, cellsS]
  have h1 := h.o1
  rw [e1, show (cellsS (L.map (·.s))).length = L.length by simp [cellsS]] at h1
  have h2 := h.o2
  rw [e2, show (cellsS (L.map (·.t))).length = L.length by simp [cellsS]] at h2
  obtain ⟨a1, c1, rfl, t1, -⟩ := own_txs h1
  obtain ⟨a2, c2, rfl, t2, -⟩ := own_txs h2
  have h3 := h.o3
  rw [show (f3 L).length = L.length by simp [f3]] at h3
  rcases h3.2 with ⟨e, e0⟩ | ⟨g, cap, cur, e, hg, hc, hnc, hcm, hs, ht⟩
  · exact ⟨a1, c1, a2, c2, none, 0, rfl, rfl, by rw [e, e0], t1, t2, fun j y hy => by have := (List.getElem?_eq_some_iff.1 hy).1; omega⟩
  · refine ⟨a1, c1, a2, c2, _, cap, rfl, rfl, e, t1, t2, fun j y hy => ⟨g, rfl, ?_⟩⟩
    have hj := (List.getElem?_eq_some_iff.1 hy).1
    simp only [World.cell?, hc]
    have q : (f3 L)[j]? = some (.int .i64 y.k) := by simp [f3, hy]
    rw [← ht, List.getElem?_take_of_lt (by omega), Array.getElem?_toList] at q
    exact q
theorem ints_later {w w' : World} {a : Option Addr} {m : Nat} {Z : Nat → Int} (h : Ints .i64 w a m Z) (hB : Below w.heap.size w w') : Ints .i64 w' a m Z := fun h0 => by
  obtain ⟨b, o, e, hc⟩ := h h0
  exact ⟨b, o, e, fun j hj => ⟨cell_later (hc j hj).1 hB, (hc j hj).2⟩⟩
/-- At, and the document's: the same. -/
theorem at_two (x : Pt) (a : Option Addr) (m cap : Nat) (Z : Nat → Int) (hsm : x.size ≤ 1048576) (hm : m ≤ 9223372036854775807) : ∃ (ok : Bool) (Y : Pt),
    (∀ d, IsP d x → Ints .i64 d a m Z → Calls Try.prog 9 #[x.val, .slice a m cap] d fun e w' => ∃ q : Pt, e = .returned (.tuple #[q.val, .bool ok]) ∧ Hid (IsP w' q ∧ Sm q Y) ∧ Below d.heap.size d w') ∧
    ∀ d, IsP d x → Ints .i64 d a m Z → Calls Try.prog 10 #[x.val, .slice a m cap] d fun e w' => ∃ q : Pt, e = .returned (.tuple #[q.val, .bool ok]) ∧ Hid (IsP w' q ∧ Sm q Y) ∧ Below d.heap.size d w' := by
  cases hy : atK x Z m with
  | none =>
    refine ⟨false, .nil, fun d h1 h2 => (at_no x a m cap Z d h1 h2 hm hy).mono ?_, fun d h1 h2 => (refAt_no x a m cap Z d h1 h2 hm hy).mono ?_⟩
    · rintro e w' ⟨rfl, hB⟩
      exact ⟨.nil, rfl, ⟨trivial, Sm.refl _⟩, hB⟩
    · rintro e w' ⟨rfl, hB⟩
      exact ⟨.nil, rfl, ⟨trivial, Sm.refl _⟩, hB⟩
  | some y =>
    refine ⟨true, y, fun d h1 h2 => (at_yes x y a m cap Z d h1 hsm h2 hm hy).mono ?_, fun d h1 h2 => (refAt_yes x y a m cap Z d h1 h2 hm hy).mono ?_⟩
    · rintro e w' ⟨q, rfl, h3, h4, _, hB⟩
      exact ⟨q, rfl, ⟨h3.is, h4⟩, hB⟩
    · rintro e w' ⟨rfl, h3, hB⟩
      exact ⟨y, rfl, ⟨h3.later hB, Sm.refl _⟩, hB⟩
theorem tail_two (x : Pt) (hsm : x.size ≤ 1048576) : ∃ (ok : Bool) (Y : Pt),
    (∀ d, IsP d x → Calls Try.prog 11 #[x.val] d fun e w' => ∃ q : Pt, e = .returned (.tuple #[q.val, .bool ok]) ∧ Hid (IsP w' q ∧ Sm q Y) ∧ Below d.heap.size d w') ∧
    ∀ d, IsP d x → Calls Try.prog 12 #[x.val] d fun e w' => ∃ q : Pt, e = .returned (.tuple #[q.val, .bool ok]) ∧ Hid (IsP w' q ∧ Sm q Y) ∧ Below d.heap.size d w' := by
  by_cases h : ∃ q, HasTail x q
  · obtain ⟨q, h⟩ := h
    refine ⟨true, x.c q, fun d h1 => (tail_yes x q d h1 hsm h).mono ?_, fun d h1 => (refTail_yes x q d h1 h).mono ?_⟩
    · rintro e w' ⟨y, rfl, h3, h4, _, hB⟩
      exact ⟨y, rfl, ⟨h3.is, h4⟩, hB⟩
    · rintro e w' ⟨rfl, h3, hB⟩
      exact ⟨x.c q, rfl, ⟨h3.later hB, Sm.refl _⟩, hB⟩
  · have h' : ∀ q, ¬ HasTail x q := fun q e => h ⟨q, e⟩
    refine ⟨false, .nil, fun d h1 => (tail_no x d h1 h').mono ?_, fun d h1 => (refTail_no x d h1 h').mono ?_⟩
    · rintro e w' ⟨rfl, hB⟩
      exact ⟨.nil, rfl, ⟨trivial, Sm.refl _⟩, hB⟩
    · rintro e w' ⟨rfl, hB⟩
      exact ⟨.nil, rfl, ⟨trivial, Sm.refl _⟩, hB⟩
theorem same_two {d : World} {y z G : Pt} (hy : IsP d y) (hz : IsP d z) (h1 : Sm y G) (h2 : Sm z G) : Calls Try.prog 14 #[y.val, z.val] d fun e w' => e = .returned (.bool true) ∧ Below d.heap.size d w' := by
  have := refSameP_any y z d hy hz
  rw [show sameP y z = true from h1.trans h2.symm] at this
  exact this
set_option maxRecDepth 100000 in
set_option maxHeartbeats 16000000 in
theorem patTells_walk (x y : Pt) (a : Option Addr) (m cap : Nat) (Z : Nat → Int) (w : World) (hX : IsP w x) (hY : IsP w y) (hok : POk x) (hsx : x.size ≤ 1048576) (hsy : y.size ≤ 1048576) (hZ : Ints .i64 w a m Z) (hm : m ≤ 9223372036854775807) :
    Calls Try.prog 3 #[x.val, y.val, .slice a m cap] w fun e w' => e = .returned (.bool true) ∧ Below w.heap.size w w' := by
  obtain ⟨A, hA, hB, hs, hn, hn2⟩ := boxP_two x y w
  obtain ⟨a0, a1, a2, a3, a4, a5⟩ := hn.at0
  obtain ⟨b0, b1, b2, b3, b4, b5⟩ := hn2.at0
  have HB : Hid (Below w.heap.size w A) := hB
  have NX : Hid (NodeP A w.heap.size 0 x) := hn
  have NY : Hid (NodeP A (w.heap.size + 1) 0 y) := hn2
  have HXA : Hid (IsP A x) := hX.later hB
  have HYA : Hid (IsP A y) := hY.later hB
  have HZA : Hid (Ints .i64 A a m Z) := ints_later hZ hB
  obtain ⟨l1, hl1⟩ : ∃ l1, l1 = decide (x.size ≤ 300) := ⟨_, rfl⟩
  obtain ⟨l2, hl2⟩ : ∃ l2, l2 = decide (y.size ≤ 300) := ⟨_, rfl⟩
  have L1 : Hid (∀ d, Below A.heap.size A d → Calls Try.prog 5 #[x.val] d fun e w' => e = .returned (.bool l1) ∧ Below d.heap.size d w') := fun d h => by rw [hl1]; exact lightP_any x d (HXA.out.later h) hsx
  have L2 : Hid (∀ d, Below A.heap.size A d → Calls Try.prog 5 #[y.val] d fun e w' => e = .returned (.bool l2) ∧ Below d.heap.size d w') := fun d h => by rw [hl2]; exact lightP_any y d (HYA.out.later h) hsy
  have W1 : Hid (∀ d, Calls Try.prog 6 #[] d fun e w' => e = .returned (.bool true) ∧ Below d.heap.size d w') := fun d => awake12_any d
  obtain ⟨L, hL⟩ : ∃ L, L = firstL (usesP x) := ⟨_, rfl⟩
  have hLl : L.length ≤ 1048576 := by rw [hL]; have := length_firstL (usesP x); have := length_uses x; omega
  have V1 : Hid (∀ d, Below A.heap.size A d → Calls Try.prog 7 #[x.val] d fun e w' => ∃ a1 c1 a2 c2 a3 c3, e = .returned (.tuple #[.slice a1 L.length c1, .slice a2 L.length c2, .slice a3 L.length c3]) ∧ Hid (Txs w' a1 L.length (atS (L.map (·.s))) ∧ Txs w' a2 L.length (atS (L.map (·.t))) ∧ Kds w' a3 L) ∧ Below d.heap.size d w') := fun d h => by
    refine (vars12_any x d (HXA.out.later h) hsx hok).mono ?_
    rintro e w' ⟨v1, v2, v3, rfl, hR, hB2⟩
    rw [← hL, vs1_all, vs2_all, vs3_all] at hR
    obtain ⟨a1, c1, a2, c2, a3, c3, rfl, rfl, rfl, t1, t2, t3⟩ := rows3 hR
    exact ⟨a1, c1, a2, c2, a3, c3, rfl, ⟨t1, t2, t3⟩, hB2⟩
  have V2 : Hid (∀ d, Below A.heap.size A d → Calls Try.prog 8 #[x.val] d fun e w' => ∃ a1 c1 a2 c2 a3 c3, e = .returned (.tuple #[.slice a1 L.length c1, .slice a2 L.length c2, .slice a3 L.length c3]) ∧ Hid (Txs w' a1 L.length (atS (L.map (·.s))) ∧ Txs w' a2 L.length (atS (L.map (·.t))) ∧ Kds w' a3 L) ∧ Below d.heap.size d w') := fun d h => by
    refine (refVars12_any x d (HXA.out.later h) hsx).mono ?_
    rintro e w' ⟨v1, v2, v3, rfl, hR, hB2⟩
    rw [← hL] at hR
    obtain ⟨a1, c1, a2, c2, a3, c3, rfl, rfl, rfl, t1, t2, t3⟩ := rows3 hR
    exact ⟨a1, c1, a2, c2, a3, c3, rfl, ⟨t1, t2, t3⟩, hB2⟩
  obtain ⟨ok, Y1, hat1, hat2⟩ := at_two x a m cap Z hsx hm
  obtain ⟨is, Y2, htl1, htl2⟩ := tail_two x hsx
  have AT1 : Hid _ := hat1
  have AT2 : Hid _ := hat2
  have TL1 : Hid _ := htl1
  have TL2 : Hid _ := htl2
  obtain ⟨c, hc⟩ : ∃ c, c = chkP x := ⟨_, rfl⟩
  have mz0 : ∃ mz, MadeZ x mz := by
    by_cases h0 : chkP x = 0
    · by_cases h1 : MadeP x
      · exact ⟨0, .inr (.inl ⟨h0, h1, rfl⟩)⟩
      · exact ⟨4, .inr (.inr ⟨h0, h1, rfl⟩)⟩
    · exact ⟨chkP x, .inl ⟨h0, rfl⟩⟩
  obtain ⟨mz, hmz⟩ := mz0
  have K1' : Hid (∀ d, Below A.heap.size A d → Calls Try.prog 15 #[x.val] d fun e w' => e = .returned (.int .i64 c) ∧ Below d.heap.size d w') := fun d h => by rw [hc]; exact checkP_any x d (HXA.out.later h) hsx
  have K2' : Hid (∀ d, Below A.heap.size A d → Calls Try.prog 16 #[x.val] d fun e w' => e = .returned (.int .i64 c) ∧ Below d.heap.size d w') := fun d h => by rw [hc]; exact refCheckP_any x d (HXA.out.later h) hsx hok
  have M1' : Hid (∀ d, Below A.heap.size A d → Calls Try.prog 17 #[x.val] d fun e w' => e = .returned (.int .i64 mz) ∧ Below d.heap.size d w') := fun d h => by
    refine (madeP_any x d (HXA.out.later h) hsx hok).mono ?_
    rintro e w' ⟨z, rfl, hz, hB2⟩
    exact ⟨by rw [hz.one hmz], hB2⟩
  have M2' : Hid (∀ d, Below A.heap.size A d → Calls Try.prog 18 #[x.val] d fun e w' => e = .returned (.int .i64 mz) ∧ Below d.heap.size d w') := fun d h => by
    refine (refMade_any x d (HXA.out.later h) hsx hok).mono ?_
    rintro e w' ⟨z, rfl, hz, hB2⟩
    exact ⟨by rw [hz.one hmz], hB2⟩
  obtain ⟨sz, hsz⟩ : ∃ sz : Int, sz = (x.size : Nat) := ⟨_, rfl⟩
  have Z1' : Hid (∀ d, Below A.heap.size A d → Calls Try.prog 19 #[x.val] d fun e w' => e = .returned (.int .i64 sz) ∧ Below d.heap.size d w') := fun d h => by rw [hsz]; exact sizeP_any x d (HXA.out.later h) hsx
  have Z2' : Hid (∀ d, Below A.heap.size A d → Calls Try.prog 20 #[x.val] d fun e w' => e = .returned (.int .i64 sz) ∧ Below d.heap.size d w') := fun d h => by rw [hsz]; exact refSizeP_any x d (HXA.out.later h) hsx
  obtain ⟨dz, hdz⟩ : ∃ dz : Int, dz = (x.deep : Nat) := ⟨_, rfl⟩
  have D1' : Hid (∀ d, Below A.heap.size A d → Calls Try.prog 21 #[x.val] d fun e w' => e = .returned (.int .i64 dz) ∧ Below d.heap.size d w') := fun d h => by rw [hdz]; exact deepP_any x d (HXA.out.later h) hsx
  have D2' : Hid (∀ d, Below A.heap.size A d → Calls Try.prog 22 #[x.val] d fun e w' => e = .returned (.int .i64 dz) ∧ Below d.heap.size d w') := fun d h => by rw [hdz]; exact refDeepP_any x d (HXA.out.later h) hsx
  obtain ⟨sb, hsb⟩ : ∃ sb, sb = sameP x y := ⟨_, rfl⟩
  have S1' : Hid (∀ d, Below A.heap.size A d → Calls Try.prog 23 #[x.val, y.val] d fun e w' => e = .returned (.bool sb) ∧ Below d.heap.size d w') := fun d h => by rw [hsb]; exact samePat_any x y d (HXA.out.later h) (HYA.out.later h)
  have S2' : Hid (∀ d, Below A.heap.size A d → Calls Try.prog 14 #[x.val, y.val] d fun e w' => e = .returned (.bool sb) ∧ Below d.heap.size d w') := fun d h => by rw [hsb]; exact refSameP_any x y d (HXA.out.later h) (HYA.out.later h)
  clear hB hn hn2 hX hY hok hsx hsy hZ hm hl1 hl2 hL hat1 hat2 htl1 htl2 hc hmz hsz hdz hsb
  go_enter Try.func3, Try.ntmps3
  go_upto_region 1 with fail
  clear hA
  cases l1
  · go_wp2_with (first
      | (go_at_call 5; refine (L1.out _ (Below.refl _ _)).mono ?_; clear L1; rintro e w1 ⟨rfl, hB1⟩)
      | (go_at_call 6; refine (W1.out _).mono ?_; clear W1; rintro e w2 ⟨rfl, hB2⟩))
    go_ret
    exact ⟨rfl, HB.out.trans ((hB1.trans (hB2.mono hB1.size)).mono HB.out.size)⟩
  cases l2
  · go_wp2_with (first
      | (go_at_call 5; refine (L1.out _ (Below.refl _ _)).mono ?_; clear L1; rintro e w1 ⟨rfl, hB1⟩; obtain ⟨e0, e1, e2, e3, e4, e5⟩ := (NY.out.later hB1).at0)
      | (go_at_call 5; refine (L2.out _ hB1).mono ?_; clear L2; rintro e w3 ⟨rfl, hB3⟩)
      | (go_at_call 6; refine (W1.out _).mono ?_; clear W1; rintro e w2 ⟨rfl, hB2⟩))
    go_ret
    exact ⟨rfl, HB.out.trans ((hB1.trans ((hB3.trans (hB2.mono hB3.size)).mono hB1.size)).mono HB.out.size)⟩
  go_upto_region 3 with (first
    | (go_at_call 5; refine (L1.out _ (Below.refl _ _)).mono ?_; clear L1; rintro e w1 ⟨rfl, hB1⟩; obtain ⟨e0, e1, e2, e3, e4, e5⟩ := (NY.out.later hB1).at0)
    | (go_at_call 5; refine (L2.out _ hB1).mono ?_; clear L2; rintro e w2 ⟨rfl, hB2⟩))
  have HA2 : Hid (Below A.heap.size A w2) := hB1.trans (hB2.mono hB1.size)
  clear hB1 hB2 e0 e1 e2 e3 e4 e5 a0 a1 a2 a3 a4 a5 b0 b1 b2 b3 b4 b5
  obtain ⟨a0, a1, a2, a3, a4, a5⟩ := (NX.out.later HA2.out).at0
  go_upto_region 4 with (first
    | (go_at_call 7; refine (V1.out _ HA2.out).mono ?_; clear V1; rintro e w3 ⟨p1, q1, p2, q2, p3, q3, rfl, hv1, hB3⟩))
  have HA3 : Hid (Below A.heap.size A w3) := HA2.out.trans (hB3.mono HA2.out.size)
  clear hB3 a0 a1 a2 a3 a4 a5
  obtain ⟨a0, a1, a2, a3, a4, a5⟩ := (NX.out.later HA3.out).at0
  go_upto_region 5 with (first
    | (go_at_call 8; refine (V2.out _ HA3.out).mono ?_; clear V2; rintro e w4 ⟨r1, s1, r2, s2, r3, s3, rfl, hv2, hB4⟩))
  have HA4 : Hid (Below A.heap.size A w4) := HA3.out.trans (hB4.mono HA3.out.size)
  have HV1 : Hid (Txs w4 p1 L.length (atS (L.map (·.s))) ∧ Txs w4 p2 L.length (atS (L.map (·.t))) ∧ Kds w4 p3 L) := ⟨hv1.out.1.later hB4, hv1.out.2.1.later hB4, hv1.out.2.2.later hB4⟩
  clear hB4 hv1 a0 a1 a2 a3 a4 a5
  obtain ⟨a0, a1, a2, a3, a4, a5⟩ := (NX.out.later HA4.out).at0
  go_upto_region 6 with (first
    | (go_at_call 9; refine (AT1.out _ (HXA.out.later HA4.out) (ints_later HZA.out HA4.out)).mono ?_; clear AT1; rintro e w5 ⟨z5, rfl, hz5, hB5⟩))
  obtain ⟨W5, hW5⟩ : ∃ W5, w5.alloc (.cells z5.cells 24) = W5 := ⟨_, rfl⟩
  have hW5' := hW5
  unfold Pt.cells at hW5'
  rw [hW5']
  have hBW5 : Below w5.heap.size w5 W5 := by rw [← hW5]; exact (Below.refl _ _).alloc (Nat.le_refl _) _
  have hpw5 : Below w4.heap.size w4 W5 := hB5.trans (hBW5.mono hB5.size)
  have HA5 : Hid (Below A.heap.size A W5) := HA4.out.trans (hpw5.mono HA4.out.size)
  have NZ5 : Hid (NodeP W5 w5.heap.size 0 z5) := by rw [← hW5]; exact nodeP_new w5 _ z5
  have HZ5 : Hid (IsP W5 z5 ∧ Sm z5 Y1) := ⟨hz5.out.1.later hBW5, hz5.out.2⟩
  have HP5 : Hid (Below w4.heap.size w4 W5) := hpw5
  clear hW5' hW5 hBW5 hpw5 hB5 hz5 a0 a1 a2 a3 a4 a5
  obtain ⟨a0, a1, a2, a3, a4, a5⟩ := (NX.out.later HA5.out).at0
  go_upto_region 7 with (first
    | (go_at_call 10; refine (AT2.out _ (HXA.out.later HA5.out) (ints_later HZA.out HA5.out)).mono ?_; clear AT2; rintro e w6 ⟨z6, rfl, hz6, hB6⟩))
  obtain ⟨W6, hW6⟩ : ∃ W6, w6.alloc (.cells z6.cells 24) = W6 := ⟨_, rfl⟩
  have hW6' := hW6
  unfold Pt.cells at hW6'
  rw [hW6']
  have hBW6 : Below w6.heap.size w6 W6 := by rw [← hW6]; exact (Below.refl _ _).alloc (Nat.le_refl _) _
  have hpw6 : Below W5.heap.size W5 W6 := hB6.trans (hBW6.mono hB6.size)
  have HA6 : Hid (Below A.heap.size A W6) := HA5.out.trans (hpw6.mono HA5.out.size)
  have NZ6 : Hid (NodeP W6 w6.heap.size 0 z6) := by rw [← hW6]; exact nodeP_new w6 _ z6
  have HZ6 : Hid (IsP W6 z6 ∧ Sm z6 Y1) := ⟨hz6.out.1.later hBW6, hz6.out.2⟩
  have HP6 : Hid (Below W5.heap.size W5 W6) := hpw6
  clear hW6' hW6 hBW6 hpw6 hB6 hz6 a0 a1 a2 a3 a4 a5
  obtain ⟨a0, a1, a2, a3, a4, a5⟩ := (NX.out.later HA6.out).at0
  go_upto_region 8 with (first
    | (go_at_call 11; refine (TL1.out _ (HXA.out.later HA6.out)).mono ?_; clear TL1; rintro e w7 ⟨z7, rfl, hz7, hB7⟩))
  obtain ⟨W7, hW7⟩ : ∃ W7, w7.alloc (.cells z7.cells 24) = W7 := ⟨_, rfl⟩
  have hW7' := hW7
  unfold Pt.cells at hW7'
  rw [hW7']
  have hBW7 : Below w7.heap.size w7 W7 := by rw [← hW7]; exact (Below.refl _ _).alloc (Nat.le_refl _) _
  have hpw7 : Below W6.heap.size W6 W7 := hB7.trans (hBW7.mono hB7.size)
  have HA7 : Hid (Below A.heap.size A W7) := HA6.out.trans (hpw7.mono HA6.out.size)
  have NZ7 : Hid (NodeP W7 w7.heap.size 0 z7) := by rw [← hW7]; exact nodeP_new w7 _ z7
  have HZ7 : Hid (IsP W7 z7 ∧ Sm z7 Y2) := ⟨hz7.out.1.later hBW7, hz7.out.2⟩
  have HP7 : Hid (Below W6.heap.size W6 W7) := hpw7
  clear hW7' hW7 hBW7 hpw7 hB7 hz7 a0 a1 a2 a3 a4 a5
  obtain ⟨a0, a1, a2, a3, a4, a5⟩ := (NX.out.later HA7.out).at0
  go_upto_region 9 with (first
    | (go_at_call 12; refine (TL2.out _ (HXA.out.later HA7.out)).mono ?_; clear TL2; rintro e w8 ⟨z8, rfl, hz8, hB8⟩))
  obtain ⟨W8, hW8⟩ : ∃ W8, w8.alloc (.cells z8.cells 24) = W8 := ⟨_, rfl⟩
  have hW8' := hW8
  unfold Pt.cells at hW8'
  rw [hW8']
  have hBW8 : Below w8.heap.size w8 W8 := by rw [← hW8]; exact (Below.refl _ _).alloc (Nat.le_refl _) _
  have hpw8 : Below W7.heap.size W7 W8 := hB8.trans (hBW8.mono hB8.size)
  have HA8 : Hid (Below A.heap.size A W8) := HA7.out.trans (hpw8.mono HA7.out.size)
  have NZ8 : Hid (NodeP W8 w8.heap.size 0 z8) := by rw [← hW8]; exact nodeP_new w8 _ z8
  have HZ8 : Hid (IsP W8 z8 ∧ Sm z8 Y2) := ⟨hz8.out.1.later hBW8, hz8.out.2⟩
  have HP8 : Hid (Below W7.heap.size W7 W8) := hpw8
  clear hW8' hW8 hBW8 hpw8 hB8 hz8 a0 a1 a2 a3 a4 a5
  obtain ⟨a0, a1, a2, a3, a4, a5⟩ := (NX.out.later HA8.out).at0
  have h78 := HP8.out
  have h68 := HP7.out.trans (h78.mono HP7.out.size)
  have h58 := HP6.out.trans (h68.mono HP6.out.size)
  have h48 := HP5.out.trans (h58.mono HP5.out.size)
  have T1 : Hid (Txs W8 p1 L.length (atS (L.map (·.s))) ∧ Txs W8 p2 L.length (atS (L.map (·.t))) ∧ Kds W8 p3 L) := ⟨HV1.out.1.later h48, HV1.out.2.1.later h48, HV1.out.2.2.later h48⟩
  have T2 : Hid (Txs W8 r1 L.length (atS (L.map (·.s))) ∧ Txs W8 r2 L.length (atS (L.map (·.t))) ∧ Kds W8 r3 L) := ⟨hv2.out.1.later h48, hv2.out.2.1.later h48, hv2.out.2.2.later h48⟩
  have N1 : Hid (∀ d, Below W8.heap.size W8 d → Calls Try.prog 13 #[.slice p1 L.length q1, .slice r1 L.length s1] d _) := fun d h => names12_same p1 r1 L.length q1 s1 _ d (T1.out.1.later h) (T2.out.1.later h) hLl
  have N2 : Hid (∀ d, Below W8.heap.size W8 d → Calls Try.prog 13 #[.slice p2 L.length q2, .slice r2 L.length s2] d _) := fun d h => names12_same p2 r2 L.length q2 s2 _ d (T1.out.2.1.later h) (T2.out.2.1.later h) hLl
  have Q1 : Hid (∀ d, Below W8.heap.size W8 d → Calls Try.prog 14 #[z5.val, z6.val] d _) := fun d h => same_two ((HZ5.out.1.later h58).later h) ((HZ6.out.1.later h68).later h) HZ5.out.2 HZ6.out.2
  have Q2 : Hid (∀ d, Below W8.heap.size W8 d → Calls Try.prog 14 #[z7.val, z8.val] d _) := fun d h => same_two ((HZ7.out.1.later h78).later h) (HZ8.out.1.later h) HZ7.out.2 HZ8.out.2
  have P5 : Hid (NodeP W8 w5.heap.size 0 z5) := NZ5.out.later h58
  have P6 : Hid (NodeP W8 w6.heap.size 0 z6) := NZ6.out.later h68
  have P7 : Hid (NodeP W8 w7.heap.size 0 z7) := NZ7.out.later h78
  have P8 : Hid (NodeP W8 w8.heap.size 0 z8) := NZ8
  clear h78 h68 h58 h48 HV1 hv2 HP5 HP6 HP7 HP8 NZ5 NZ6 NZ7 NZ8 HZ5 HZ6 HZ7 HZ8 HA2 HA3 HA4 HA5 HA6 HA7 a0 a1 a2 a3 a4 a5
  go_wp2_with (first
    | (go_at_call 13; refine (N1.out _ (Below.refl _ _)).mono ?_; clear N1; rintro e x1 ⟨rfl, hx1⟩)
    | (go_at_call 13; refine (N2.out _ hx1).mono ?_; clear N2; rintro e x2 ⟨rfl, hx2⟩; have hx12 := hx1.trans (hx2.mono hx1.size); obtain ⟨e0, e1, e2, e3, e4, e5⟩ := (P5.out.later hx12).at0; obtain ⟨g0, g1, g2, g3, g4, g5⟩ := (P6.out.later hx12).at0)
    | (go_at_call 14; refine (Q1.out _ hx12).mono ?_; clear Q1; rintro e x3 ⟨rfl, hx3⟩; have hx13 := hx12.trans (hx3.mono hx12.size); obtain ⟨i0, i1, i2, i3, i4, i5⟩ := (P7.out.later hx13).at0; obtain ⟨j0, j1, j2, j3, j4, j5⟩ := (P8.out.later hx13).at0)
    | (go_at_call 14; refine (Q2.out _ hx13).mono ?_; clear Q2; rintro e x4 ⟨rfl, hx4⟩))
  have HX4 : Hid (Below W8.heap.size W8 x4) := hx13.trans (hx4.mono hx13.size)
  clear hx1 hx2 hx12 hx3 hx13 hx4 e0 e1 e2 e3 e4 e5 g0 g1 g2 g3 g4 g5 i0 i1 i2 i3 i4 i5 j0 j1 j2 j3 j4 j5 P5 P6 P7 P8
  go_loopw [21] (fun iv wr => ∃ k : Nat, k ≤ L.length ∧ iv = .int .i64 k ∧ Below x4.heap.size x4 wr) (fun iv _ => L.length - (intOf iv).toNat)
  case atStart => exact ⟨0, Nat.zero_le _, rfl, Below.refl _ _⟩
  case round =>
    obtain ⟨k, hk, rfl, hBr⟩ := hrel
    have h8r := HX4.out.trans (hBr.mono HX4.out.size)
    by_cases hkn : k < L.length
    · obtain ⟨yk, hyk⟩ : ∃ yk, L[k]? = some yk := ⟨L[k]'hkn, List.getElem?_eq_getElem _⟩
      obtain ⟨g1, rfl, c1⟩ := (T1.out.2.2.later h8r) k yk hyk
      obtain ⟨g2, rfl, c2⟩ := (T2.out.2.2.later h8r) k yk hyk
      have HKN : Hid (k < L.length) := hkn
      clear hyk h8r
      go_wp2_with fail
      go_quiet (fail)
      go_wp2
      go_roundw
      case rel => exact ⟨k + 1, HKN.out, by go_num, bd hBr _⟩
      case measure => have := HKN.out; simp [intOf]; omega
    · obtain rfl : k = L.length := by omega
      obtain ⟨W, hW⟩ : ∃ W, W = wr := ⟨_, rfl⟩
      rw [← hW] at h8r ⊢
      have HAW : Hid (Below A.heap.size A W) := HA8.out.trans (h8r.mono HA8.out.size)
      have PX : Hid (NodeP W w.heap.size 0 x) := NX.out.later HAW.out
      have PY : Hid (NodeP W (w.heap.size + 1) 0 y) := NY.out.later HAW.out
      have up : ∀ d, Below W.heap.size W d → Below A.heap.size A d := fun d h => HAW.out.trans (h.mono HAW.out.size)
      have K1 : Hid (∀ d, Below W.heap.size W d → _) := fun d h => K1'.out d (up d h)
      have K2 : Hid (∀ d, Below W.heap.size W d → _) := fun d h => K2'.out d (up d h)
      have M1 : Hid (∀ d, Below W.heap.size W d → _) := fun d h => M1'.out d (up d h)
      have M2 : Hid (∀ d, Below W.heap.size W d → _) := fun d h => M2'.out d (up d h)
      have Z1 : Hid (∀ d, Below W.heap.size W d → _) := fun d h => Z1'.out d (up d h)
      have Z2 : Hid (∀ d, Below W.heap.size W d → _) := fun d h => Z2'.out d (up d h)
      have D1 : Hid (∀ d, Below W.heap.size W d → _) := fun d h => D1'.out d (up d h)
      have D2 : Hid (∀ d, Below W.heap.size W d → _) := fun d h => D2'.out d (up d h)
      have S1 : Hid (∀ d, Below W.heap.size W d → _) := fun d h => S1'.out d (up d h)
      have S2 : Hid (∀ d, Below W.heap.size W d → _) := fun d h => S2'.out d (up d h)
      clear K1' K2' M1' M2' Z1' Z2' D1' D2' S1' S2' up h8r hBr hW hkn hk T1 T2
      go_wp2_with fail
      refine wp_region_noPanic ?_
      refine wp_region_held_drew (S := fun w' => Below W.heap.size W w') (by kernel_rfl) ((Below.refl _ _).drew) (fun hHeld => ?_)
      have hT : Below W.heap.size W W.drew := hHeld
      obtain ⟨d, hdw⟩ : ∃ d, d = W.drew := ⟨_, rfl⟩
      rw [← hdw] at hHeld hT ⊢
      clear hdw
      refine wpAnyH_take (i := 0) (oi := ⟨some 125, Op.load 24 (Operand.tmp 3), 24, _, _, _⟩) (v := ?v0) rfl (by kernel_rfl) (by kernel_rfl) (by kernel_rfl) (fun _ _ _ h => h) (Or.inl ⟨by rfl, ?hy0⟩) hHeld ?rest0
      case hy0 => intro w9 hSw; obtain ⟨d0, d1, d2, d3, d4, d5⟩ := (PX.out.later hSw).at0; go_simp; (try with_reducible rfl)
      try simp only [Act.put, List.setIfInBounds_toArray, List.set_cons_zero, List.set_cons_succ]
      refine wpAnyH_take (i := 2) (oi := ⟨some 127, Op.load 24 (Operand.tmp 3), 24, _, _, _⟩) (v := ?v2) rfl (by kernel_rfl) (by kernel_rfl) (by kernel_rfl) (fun _ _ _ h => h) (Or.inl ⟨by rfl, ?hy2⟩) hHeld ?rest2
      case hy2 => intro w9 hSw; obtain ⟨d0, d1, d2, d3, d4, d5⟩ := (PX.out.later hSw).at0; go_simp; (try with_reducible rfl)
      try simp only [Act.put, List.setIfInBounds_toArray, List.set_cons_zero, List.set_cons_succ]
      refine wpAnyH_ready (rs := [1]) (by kernel_rfl) (by simp) ?_
      refine AllReadyH.cons (o := ⟨some 126, Op.call { callee := Callee.value (Operand.func 15), args := #[Operand.tmp 125], argTypes := #[24] }, 36, _, _, _⟩) rfl (fun K hK => ?_) AllReadyH.nil
      go_simp
      refine (K1.out _ hT).mono ?_
      rintro e x1 ⟨rfl, hN1⟩
      go_wp2_with fail
      have hT1 : Below W.heap.size W x1 := hT.trans (hN1.mono hT.size)
      refine hK.out _ _ (hHeld.trans (hN1.mono hHeld.size)) (fun _ => held_up (S' := fun w' => Below x1.heap.size x1 w') (fun w' h' => (hHeld.trans (hN1.mono hHeld.size)).trans (h'.mono (Nat.le_trans hHeld.size hN1.size))) _ _ _ _ ?_)
      clear hK K hHeld hT
      have hT : Below W.heap.size W x1 := hT1
      have hHeld : Below x1.heap.size x1 x1 := Below.refl _ _
      clear hT1 hN1
      try simp only [Act.put, List.setIfInBounds_toArray, List.set_cons_zero, List.set_cons_succ]
      refine wpAnyH_ready (rs := [3]) (by kernel_rfl) (by simp) ?_
      refine AllReadyH.cons (o := ⟨some 128, Op.call { callee := Callee.value (Operand.func 16), args := #[Operand.tmp 127], argTypes := #[24] }, 3, _, _, _⟩) rfl (fun K hK => ?_) AllReadyH.nil
      go_simp
      refine (K2.out _ hT).mono ?_
      rintro e x3 ⟨rfl, hN3⟩
      go_wp2_with fail
      have hT3 : Below W.heap.size W x3 := hT.trans (hN3.mono hT.size)
      refine hK.out _ _ (hHeld.trans (hN3.mono hHeld.size)) (fun _ => held_up (S' := fun w' => Below x3.heap.size x3 w') (fun w' h' => (hHeld.trans (hN3.mono hHeld.size)).trans (h'.mono (Nat.le_trans hHeld.size hN3.size))) _ _ _ _ ?_)
      clear hK K hHeld hT
      have hT : Below W.heap.size W x3 := hT3
      have hHeld : Below x3.heap.size x3 x3 := Below.refl _ _
      clear hT3 hN3
      try simp only [Act.put, List.setIfInBounds_toArray, List.set_cons_zero, List.set_cons_succ]
      refine wpAnyH_take (i := 4) (oi := ⟨some 129, Op.binOp BinOp.eql 3 (Operand.tmp 126) (Operand.tmp 128) 3, 4, _, _, _⟩) (v := ?v4) rfl (by kernel_rfl) (by kernel_rfl) (by kernel_rfl) (fun _ _ _ h => h) (Or.inl ⟨by rfl, ?hy4⟩) hHeld ?rest4
      case hy4 => intro w9 hSw; go_simp; (try with_reducible rfl)
      try simp only [Act.put, List.setIfInBounds_toArray, List.set_cons_zero, List.set_cons_succ]
      refine wpAnyH_take (i := 5) (oi := ⟨some 130, Op.move (Operand.tmp 129), 4, _, _, _⟩) (v := ?v5) rfl (by kernel_rfl) (by kernel_rfl) (by kernel_rfl) (fun _ _ _ h => h) (Or.inl ⟨by rfl, ?hy5⟩) hHeld ?rest5
      case hy5 => intro w9 hSw; go_simp; (try with_reducible rfl)
      try simp only [Act.put, List.setIfInBounds_toArray, List.set_cons_zero, List.set_cons_succ]
      refine wpAnyH_take (i := 6) (oi := ⟨some 131, Op.load 24 (Operand.tmp 3), 24, _, _, _⟩) (v := ?v6) rfl (by kernel_rfl) (by kernel_rfl) (by kernel_rfl) (fun _ _ _ h => h) (Or.inl ⟨by rfl, ?hy6⟩) hHeld ?rest6
      case hy6 => intro w9 hSw; obtain ⟨d0, d1, d2, d3, d4, d5⟩ := (PX.out.later (hT.trans (hSw.mono hT.size))).at0; go_simp; (try with_reducible rfl)
      try simp only [Act.put, List.setIfInBounds_toArray, List.set_cons_zero, List.set_cons_succ]
      refine wpAnyH_take (i := 8) (oi := ⟨some 133, Op.load 24 (Operand.tmp 3), 24, _, _, _⟩) (v := ?v8) rfl (by kernel_rfl) (by kernel_rfl) (by kernel_rfl) (fun _ _ _ h => h) (Or.inl ⟨by rfl, ?hy8⟩) hHeld ?rest8
      case hy8 => intro w9 hSw; obtain ⟨d0, d1, d2, d3, d4, d5⟩ := (PX.out.later (hT.trans (hSw.mono hT.size))).at0; go_simp; (try with_reducible rfl)
      try simp only [Act.put, List.setIfInBounds_toArray, List.set_cons_zero, List.set_cons_succ]
      refine wpAnyH_ready (rs := [7]) (by kernel_rfl) (by simp) ?_
      refine AllReadyH.cons (o := ⟨some 132, Op.call { callee := Callee.value (Operand.func 17), args := #[Operand.tmp 131], argTypes := #[24] }, 36, _, _, _⟩) rfl (fun K hK => ?_) AllReadyH.nil
      go_simp
      refine (M1.out _ hT).mono ?_
      rintro e x7 ⟨rfl, hN7⟩
      go_wp2_with fail
      have hT7 : Below W.heap.size W x7 := hT.trans (hN7.mono hT.size)
      refine hK.out _ _ (hHeld.trans (hN7.mono hHeld.size)) (fun _ => held_up (S' := fun w' => Below x7.heap.size x7 w') (fun w' h' => (hHeld.trans (hN7.mono hHeld.size)).trans (h'.mono (Nat.le_trans hHeld.size hN7.size))) _ _ _ _ ?_)
      clear hK K hHeld hT
      have hT : Below W.heap.size W x7 := hT7
      have hHeld : Below x7.heap.size x7 x7 := Below.refl _ _
      clear hT7 hN7
      try simp only [Act.put, List.setIfInBounds_toArray, List.set_cons_zero, List.set_cons_succ]
      refine wpAnyH_ready (rs := [9]) (by kernel_rfl) (by simp) ?_
      refine AllReadyH.cons (o := ⟨some 134, Op.call { callee := Callee.value (Operand.func 18), args := #[Operand.tmp 133], argTypes := #[24] }, 3, _, _, _⟩) rfl (fun K hK => ?_) AllReadyH.nil
      go_simp
      refine (M2.out _ hT).mono ?_
      rintro e x9 ⟨rfl, hN9⟩
      go_wp2_with fail
      have hT9 : Below W.heap.size W x9 := hT.trans (hN9.mono hT.size)
      refine hK.out _ _ (hHeld.trans (hN9.mono hHeld.size)) (fun _ => held_up (S' := fun w' => Below x9.heap.size x9 w') (fun w' h' => (hHeld.trans (hN9.mono hHeld.size)).trans (h'.mono (Nat.le_trans hHeld.size hN9.size))) _ _ _ _ ?_)
      clear hK K hHeld hT
      have hT : Below W.heap.size W x9 := hT9
      have hHeld : Below x9.heap.size x9 x9 := Below.refl _ _
      clear hT9 hN9
      try simp only [Act.put, List.setIfInBounds_toArray, List.set_cons_zero, List.set_cons_succ]
      refine wpAnyH_take (i := 10) (oi := ⟨some 135, Op.binOp BinOp.eql 3 (Operand.tmp 132) (Operand.tmp 134) 3, 4, _, _, _⟩) (v := ?v10) rfl (by kernel_rfl) (by kernel_rfl) (by kernel_rfl) (fun _ _ _ h => h) (Or.inl ⟨by rfl, ?hy10⟩) hHeld ?rest10
      case hy10 => intro w9 hSw; go_simp; (try with_reducible rfl)
      try simp only [Act.put, List.setIfInBounds_toArray, List.set_cons_zero, List.set_cons_succ]
      refine wpAnyH_take (i := 11) (oi := ⟨some 136, Op.pick (Operand.tmp 130) (Operand.tmp 135) (Operand.const (Value.bool false)), 4, _, _, _⟩) (v := ?v11) rfl (by kernel_rfl) (by kernel_rfl) (by kernel_rfl) (fun _ _ _ h => h) (Or.inl ⟨by rfl, ?hy11⟩) hHeld ?rest11
      case hy11 => intro w9 hSw; go_simp; (try with_reducible rfl)
      try simp only [Act.put, List.setIfInBounds_toArray, List.set_cons_zero, List.set_cons_succ]
      refine wpAnyH_take (i := 12) (oi := ⟨some 137, Op.move (Operand.tmp 136), 4, _, _, _⟩) (v := ?v12) rfl (by kernel_rfl) (by kernel_rfl) (by kernel_rfl) (fun _ _ _ h => h) (Or.inl ⟨by rfl, ?hy12⟩) hHeld ?rest12
      case hy12 => intro w9 hSw; go_simp; (try with_reducible rfl)
      try simp only [Act.put, List.setIfInBounds_toArray, List.set_cons_zero, List.set_cons_succ]
      refine wpAnyH_take (i := 13) (oi := ⟨some 138, Op.load 24 (Operand.tmp 3), 24, _, _, _⟩) (v := ?v13) rfl (by kernel_rfl) (by kernel_rfl) (by kernel_rfl) (fun _ _ _ h => h) (Or.inl ⟨by rfl, ?hy13⟩) hHeld ?rest13
      case hy13 => intro w9 hSw; obtain ⟨d0, d1, d2, d3, d4, d5⟩ := (PX.out.later (hT.trans (hSw.mono hT.size))).at0; go_simp; (try with_reducible rfl)
      try simp only [Act.put, List.setIfInBounds_toArray, List.set_cons_zero, List.set_cons_succ]
      refine wpAnyH_take (i := 15) (oi := ⟨some 140, Op.load 24 (Operand.tmp 3), 24, _, _, _⟩) (v := ?v15) rfl (by kernel_rfl) (by kernel_rfl) (by kernel_rfl) (fun _ _ _ h => h) (Or.inl ⟨by rfl, ?hy15⟩) hHeld ?rest15
      case hy15 => intro w9 hSw; obtain ⟨d0, d1, d2, d3, d4, d5⟩ := (PX.out.later (hT.trans (hSw.mono hT.size))).at0; go_simp; (try with_reducible rfl)
      try simp only [Act.put, List.setIfInBounds_toArray, List.set_cons_zero, List.set_cons_succ]
      refine wpAnyH_ready (rs := [14]) (by kernel_rfl) (by simp) ?_
      refine AllReadyH.cons (o := ⟨some 139, Op.call { callee := Callee.value (Operand.func 19), args := #[Operand.tmp 138], argTypes := #[24] }, 3, _, _, _⟩) rfl (fun K hK => ?_) AllReadyH.nil
      go_simp
      refine (Z1.out _ hT).mono ?_
      rintro e x14 ⟨rfl, hN14⟩
      go_wp2_with fail
      have hT14 : Below W.heap.size W x14 := hT.trans (hN14.mono hT.size)
      refine hK.out _ _ (hHeld.trans (hN14.mono hHeld.size)) (fun _ => held_up (S' := fun w' => Below x14.heap.size x14 w') (fun w' h' => (hHeld.trans (hN14.mono hHeld.size)).trans (h'.mono (Nat.le_trans hHeld.size hN14.size))) _ _ _ _ ?_)
      clear hK K hHeld hT
      have hT : Below W.heap.size W x14 := hT14
      have hHeld : Below x14.heap.size x14 x14 := Below.refl _ _
      clear hT14 hN14
      try simp only [Act.put, List.setIfInBounds_toArray, List.set_cons_zero, List.set_cons_succ]
      refine wpAnyH_ready (rs := [16]) (by kernel_rfl) (by simp) ?_
      refine AllReadyH.cons (o := ⟨some 141, Op.call { callee := Callee.value (Operand.func 20), args := #[Operand.tmp 140], argTypes := #[24] }, 3, _, _, _⟩) rfl (fun K hK => ?_) AllReadyH.nil
      go_simp
      refine (Z2.out _ hT).mono ?_
      rintro e x16 ⟨rfl, hN16⟩
      go_wp2_with fail
      have hT16 : Below W.heap.size W x16 := hT.trans (hN16.mono hT.size)
      refine hK.out _ _ (hHeld.trans (hN16.mono hHeld.size)) (fun _ => held_up (S' := fun w' => Below x16.heap.size x16 w') (fun w' h' => (hHeld.trans (hN16.mono hHeld.size)).trans (h'.mono (Nat.le_trans hHeld.size hN16.size))) _ _ _ _ ?_)
      clear hK K hHeld hT
      have hT : Below W.heap.size W x16 := hT16
      have hHeld : Below x16.heap.size x16 x16 := Below.refl _ _
      clear hT16 hN16
      try simp only [Act.put, List.setIfInBounds_toArray, List.set_cons_zero, List.set_cons_succ]
      refine wpAnyH_take (i := 17) (oi := ⟨some 142, Op.binOp BinOp.eql 3 (Operand.tmp 139) (Operand.tmp 141) 3, 4, _, _, _⟩) (v := ?v17) rfl (by kernel_rfl) (by kernel_rfl) (by kernel_rfl) (fun _ _ _ h => h) (Or.inl ⟨by rfl, ?hy17⟩) hHeld ?rest17
      case hy17 => intro w9 hSw; go_simp; (try with_reducible rfl)
      try simp only [Act.put, List.setIfInBounds_toArray, List.set_cons_zero, List.set_cons_succ]
      refine wpAnyH_take (i := 18) (oi := ⟨some 143, Op.pick (Operand.tmp 137) (Operand.tmp 142) (Operand.const (Value.bool false)), 4, _, _, _⟩) (v := ?v18) rfl (by kernel_rfl) (by kernel_rfl) (by kernel_rfl) (fun _ _ _ h => h) (Or.inl ⟨by rfl, ?hy18⟩) hHeld ?rest18
      case hy18 => intro w9 hSw; go_simp; (try with_reducible rfl)
      try simp only [Act.put, List.setIfInBounds_toArray, List.set_cons_zero, List.set_cons_succ]
      refine wpAnyH_take (i := 19) (oi := ⟨some 144, Op.move (Operand.tmp 143), 4, _, _, _⟩) (v := ?v19) rfl (by kernel_rfl) (by kernel_rfl) (by kernel_rfl) (fun _ _ _ h => h) (Or.inl ⟨by rfl, ?hy19⟩) hHeld ?rest19
      case hy19 => intro w9 hSw; go_simp; (try with_reducible rfl)
      try simp only [Act.put, List.setIfInBounds_toArray, List.set_cons_zero, List.set_cons_succ]
      refine wpAnyH_take (i := 20) (oi := ⟨some 145, Op.load 24 (Operand.tmp 3), 24, _, _, _⟩) (v := ?v20) rfl (by kernel_rfl) (by kernel_rfl) (by kernel_rfl) (fun _ _ _ h => h) (Or.inl ⟨by rfl, ?hy20⟩) hHeld ?rest20
      case hy20 => intro w9 hSw; obtain ⟨d0, d1, d2, d3, d4, d5⟩ := (PX.out.later (hT.trans (hSw.mono hT.size))).at0; go_simp; (try with_reducible rfl)
      try simp only [Act.put, List.setIfInBounds_toArray, List.set_cons_zero, List.set_cons_succ]
      refine wpAnyH_take (i := 22) (oi := ⟨some 147, Op.load 24 (Operand.tmp 3), 24, _, _, _⟩) (v := ?v22) rfl (by kernel_rfl) (by kernel_rfl) (by kernel_rfl) (fun _ _ _ h => h) (Or.inl ⟨by rfl, ?hy22⟩) hHeld ?rest22
      case hy22 => intro w9 hSw; obtain ⟨d0, d1, d2, d3, d4, d5⟩ := (PX.out.later (hT.trans (hSw.mono hT.size))).at0; go_simp; (try with_reducible rfl)
      try simp only [Act.put, List.setIfInBounds_toArray, List.set_cons_zero, List.set_cons_succ]
      refine wpAnyH_ready (rs := [21]) (by kernel_rfl) (by simp) ?_
      refine AllReadyH.cons (o := ⟨some 146, Op.call { callee := Callee.value (Operand.func 21), args := #[Operand.tmp 145], argTypes := #[24] }, 3, _, _, _⟩) rfl (fun K hK => ?_) AllReadyH.nil
      go_simp
      refine (D1.out _ hT).mono ?_
      rintro e x21 ⟨rfl, hN21⟩
      go_wp2_with fail
      have hT21 : Below W.heap.size W x21 := hT.trans (hN21.mono hT.size)
      refine hK.out _ _ (hHeld.trans (hN21.mono hHeld.size)) (fun _ => held_up (S' := fun w' => Below x21.heap.size x21 w') (fun w' h' => (hHeld.trans (hN21.mono hHeld.size)).trans (h'.mono (Nat.le_trans hHeld.size hN21.size))) _ _ _ _ ?_)
      clear hK K hHeld hT
      have hT : Below W.heap.size W x21 := hT21
      have hHeld : Below x21.heap.size x21 x21 := Below.refl _ _
      clear hT21 hN21
      try simp only [Act.put, List.setIfInBounds_toArray, List.set_cons_zero, List.set_cons_succ]
      refine wpAnyH_ready (rs := [23]) (by kernel_rfl) (by simp) ?_
      refine AllReadyH.cons (o := ⟨some 148, Op.call { callee := Callee.value (Operand.func 22), args := #[Operand.tmp 147], argTypes := #[24] }, 3, _, _, _⟩) rfl (fun K hK => ?_) AllReadyH.nil
      go_simp
      refine (D2.out _ hT).mono ?_
      rintro e x23 ⟨rfl, hN23⟩
      go_wp2_with fail
      have hT23 : Below W.heap.size W x23 := hT.trans (hN23.mono hT.size)
      refine hK.out _ _ (hHeld.trans (hN23.mono hHeld.size)) (fun _ => held_up (S' := fun w' => Below x23.heap.size x23 w') (fun w' h' => (hHeld.trans (hN23.mono hHeld.size)).trans (h'.mono (Nat.le_trans hHeld.size hN23.size))) _ _ _ _ ?_)
      clear hK K hHeld hT
      have hT : Below W.heap.size W x23 := hT23
      have hHeld : Below x23.heap.size x23 x23 := Below.refl _ _
      clear hT23 hN23
      try simp only [Act.put, List.setIfInBounds_toArray, List.set_cons_zero, List.set_cons_succ]
      refine wpAnyH_take (i := 24) (oi := ⟨some 149, Op.binOp BinOp.eql 3 (Operand.tmp 146) (Operand.tmp 148) 3, 4, _, _, _⟩) (v := ?v24) rfl (by kernel_rfl) (by kernel_rfl) (by kernel_rfl) (fun _ _ _ h => h) (Or.inl ⟨by rfl, ?hy24⟩) hHeld ?rest24
      case hy24 => intro w9 hSw; go_simp; (try with_reducible rfl)
      try simp only [Act.put, List.setIfInBounds_toArray, List.set_cons_zero, List.set_cons_succ]
      refine wpAnyH_take (i := 25) (oi := ⟨some 150, Op.pick (Operand.tmp 144) (Operand.tmp 149) (Operand.const (Value.bool false)), 4, _, _, _⟩) (v := ?v25) rfl (by kernel_rfl) (by kernel_rfl) (by kernel_rfl) (fun _ _ _ h => h) (Or.inl ⟨by rfl, ?hy25⟩) hHeld ?rest25
      case hy25 => intro w9 hSw; go_simp; (try with_reducible rfl)
      try simp only [Act.put, List.setIfInBounds_toArray, List.set_cons_zero, List.set_cons_succ]
      refine wpAnyH_take (i := 26) (oi := ⟨some 151, Op.move (Operand.tmp 150), 4, _, _, _⟩) (v := ?v26) rfl (by kernel_rfl) (by kernel_rfl) (by kernel_rfl) (fun _ _ _ h => h) (Or.inl ⟨by rfl, ?hy26⟩) hHeld ?rest26
      case hy26 => intro w9 hSw; go_simp; (try with_reducible rfl)
      try simp only [Act.put, List.setIfInBounds_toArray, List.set_cons_zero, List.set_cons_succ]
      refine wpAnyH_take (i := 27) (oi := ⟨some 152, Op.load 24 (Operand.tmp 3), 24, _, _, _⟩) (v := ?v27) rfl (by kernel_rfl) (by kernel_rfl) (by kernel_rfl) (fun _ _ _ h => h) (Or.inl ⟨by rfl, ?hy27⟩) hHeld ?rest27
      case hy27 => intro w9 hSw; obtain ⟨d0, d1, d2, d3, d4, d5⟩ := (PX.out.later (hT.trans (hSw.mono hT.size))).at0; go_simp; (try with_reducible rfl)
      try simp only [Act.put, List.setIfInBounds_toArray, List.set_cons_zero, List.set_cons_succ]
      refine wpAnyH_take (i := 28) (oi := ⟨some 153, Op.load 24 (Operand.tmp 4), 24, _, _, _⟩) (v := ?v28) rfl (by kernel_rfl) (by kernel_rfl) (by kernel_rfl) (fun _ _ _ h => h) (Or.inl ⟨by rfl, ?hy28⟩) hHeld ?rest28
      case hy28 => intro w9 hSw; obtain ⟨d0, d1, d2, d3, d4, d5⟩ := (PY.out.later (hT.trans (hSw.mono hT.size))).at0; go_simp; (try with_reducible rfl)
      try simp only [Act.put, List.setIfInBounds_toArray, List.set_cons_zero, List.set_cons_succ]
      refine wpAnyH_take (i := 30) (oi := ⟨some 155, Op.load 24 (Operand.tmp 3), 24, _, _, _⟩) (v := ?v30) rfl (by kernel_rfl) (by kernel_rfl) (by kernel_rfl) (fun _ _ _ h => h) (Or.inl ⟨by rfl, ?hy30⟩) hHeld ?rest30
      case hy30 => intro w9 hSw; obtain ⟨d0, d1, d2, d3, d4, d5⟩ := (PX.out.later (hT.trans (hSw.mono hT.size))).at0; go_simp; (try with_reducible rfl)
      try simp only [Act.put, List.setIfInBounds_toArray, List.set_cons_zero, List.set_cons_succ]
      refine wpAnyH_take (i := 31) (oi := ⟨some 156, Op.load 24 (Operand.tmp 4), 24, _, _, _⟩) (v := ?v31) rfl (by kernel_rfl) (by kernel_rfl) (by kernel_rfl) (fun _ _ _ h => h) (Or.inl ⟨by rfl, ?hy31⟩) hHeld ?rest31
      case hy31 => intro w9 hSw; obtain ⟨d0, d1, d2, d3, d4, d5⟩ := (PY.out.later (hT.trans (hSw.mono hT.size))).at0; go_simp; (try with_reducible rfl)
      try simp only [Act.put, List.setIfInBounds_toArray, List.set_cons_zero, List.set_cons_succ]
      refine wpAnyH_ready (rs := [29]) (by kernel_rfl) (by simp) ?_
      refine AllReadyH.cons (o := ⟨some 154, Op.call { callee := Callee.value (Operand.func 23), args := #[Operand.tmp 152, Operand.tmp 153], argTypes := #[24, 24] }, 4, _, _, _⟩) rfl (fun K hK => ?_) AllReadyH.nil
      go_simp
      refine (S1.out _ hT).mono ?_
      rintro e x29 ⟨rfl, hN29⟩
      go_wp2_with fail
      have hT29 : Below W.heap.size W x29 := hT.trans (hN29.mono hT.size)
      refine hK.out _ _ (hHeld.trans (hN29.mono hHeld.size)) (fun _ => held_up (S' := fun w' => Below x29.heap.size x29 w') (fun w' h' => (hHeld.trans (hN29.mono hHeld.size)).trans (h'.mono (Nat.le_trans hHeld.size hN29.size))) _ _ _ _ ?_)
      clear hK K hHeld hT
      have hT : Below W.heap.size W x29 := hT29
      have hHeld : Below x29.heap.size x29 x29 := Below.refl _ _
      clear hT29 hN29
      try simp only [Act.put, List.setIfInBounds_toArray, List.set_cons_zero, List.set_cons_succ]
      refine wpAnyH_ready (rs := [32]) (by kernel_rfl) (by simp) ?_
      refine AllReadyH.cons (o := ⟨some 157, Op.call { callee := Callee.value (Operand.func 14), args := #[Operand.tmp 155, Operand.tmp 156], argTypes := #[24, 24] }, 4, _, _, _⟩) rfl (fun K hK => ?_) AllReadyH.nil
      go_simp
      refine (S2.out _ hT).mono ?_
      rintro e x32 ⟨rfl, hN32⟩
      go_wp2_with fail
      have hT32 : Below W.heap.size W x32 := hT.trans (hN32.mono hT.size)
      refine hK.out _ _ (hHeld.trans (hN32.mono hHeld.size)) (fun _ => held_up (S' := fun w' => Below x32.heap.size x32 w') (fun w' h' => (hHeld.trans (hN32.mono hHeld.size)).trans (h'.mono (Nat.le_trans hHeld.size hN32.size))) _ _ _ _ ?_)
      clear hK K hHeld hT
      have hT : Below W.heap.size W x32 := hT32
      have hHeld : Below x32.heap.size x32 x32 := Below.refl _ _
      clear hT32 hN32
      try simp only [Act.put, List.setIfInBounds_toArray, List.set_cons_zero, List.set_cons_succ]
      refine wpAnyH_take (i := 33) (oi := ⟨some 158, Op.binOp BinOp.eql 4 (Operand.tmp 154) (Operand.tmp 157) 4, 4, _, _, _⟩) (v := ?v33) rfl (by kernel_rfl) (by kernel_rfl) (by kernel_rfl) (fun _ _ _ h => h) (Or.inl ⟨by rfl, ?hy33⟩) hHeld ?rest33
      case hy33 => intro w9 hSw; go_simp; (try with_reducible rfl)
      try simp only [Act.put, List.setIfInBounds_toArray, List.set_cons_zero, List.set_cons_succ]
      refine wpAnyH_take (i := 34) (oi := ⟨some 159, Op.pick (Operand.tmp 151) (Operand.tmp 158) (Operand.const (Value.bool false)), 4, _, _, _⟩) (v := ?v34) rfl (by kernel_rfl) (by kernel_rfl) (by kernel_rfl) (fun _ _ _ h => h) (Or.inl ⟨by rfl, ?hy34⟩) hHeld ?rest34
      case hy34 => intro w9 hSw; go_simp; (try with_reducible rfl)
      try simp only [Act.put, List.setIfInBounds_toArray, List.set_cons_zero, List.set_cons_succ]
      refine wpAnyH_take (i := 35) (oi := ⟨some 160, Op.move (Operand.tmp 159), 4, _, _, _⟩) (v := ?v35) rfl (by kernel_rfl) (by kernel_rfl) (by kernel_rfl) (fun _ _ _ h => h) (Or.inl ⟨by rfl, ?hy35⟩) hHeld ?rest35
      case hy35 => intro w9 hSw; go_simp; (try with_reducible rfl)
      try simp only [Act.put, List.setIfInBounds_toArray, List.set_cons_zero, List.set_cons_succ]
      refine wpAnyH_ready (rs := [36]) (by kernel_rfl) (by simp) ?_
      refine AllReadyH.cons (o := ⟨some 161, Op.call { callee := Callee.value (Operand.func 6), args := #[], argTypes := #[] }, 4, _, _, _⟩) rfl (fun K hK => ?_) AllReadyH.nil
      go_simp
      refine (W1.out _).mono ?_
      rintro e x36 ⟨rfl, hN36⟩
      go_wp2_with fail
      have hT36 : Below W.heap.size W x36 := hT.trans (hN36.mono hT.size)
      refine hK.out _ _ (hHeld.trans (hN36.mono hHeld.size)) (fun _ => held_up (S' := fun w' => Below x36.heap.size x36 w') (fun w' h' => (hHeld.trans (hN36.mono hHeld.size)).trans (h'.mono (Nat.le_trans hHeld.size hN36.size))) _ _ _ _ ?_)
      clear hK K hHeld hT
      have hT : Below W.heap.size W x36 := hT36
      have hHeld : Below x36.heap.size x36 x36 := Below.refl _ _
      clear hT36 hN36
      try simp only [Act.put, List.setIfInBounds_toArray, List.set_cons_zero, List.set_cons_succ]
      refine wpAnyH_take (i := 37) (oi := ⟨some 162, Op.pick (Operand.tmp 160) (Operand.tmp 161) (Operand.const (Value.bool false)), 4, _, _, _⟩) (v := ?v37) rfl (by kernel_rfl) (by kernel_rfl) (by kernel_rfl) (fun _ _ _ h => h) (Or.inl ⟨by rfl, ?hy37⟩) hHeld ?rest37
      case hy37 => intro w9 hSw; go_simp; (try with_reducible rfl)
      try simp only [Act.put, List.setIfInBounds_toArray, List.set_cons_zero, List.set_cons_succ]
      refine wpAnyH_take (i := 38) (oi := ⟨some 6, Op.assign (Operand.tmp 162), 4, _, _, _⟩) (v := ?v38) rfl (by kernel_rfl) (by kernel_rfl) (by kernel_rfl) (fun _ _ _ h => h) (Or.inl ⟨by rfl, ?hy38⟩) hHeld ?rest38
      case hy38 => intro w9 hSw; go_simp; (try with_reducible rfl)
      try simp only [Act.put, List.setIfInBounds_toArray, List.set_cons_zero, List.set_cons_succ]
      refine wpAnyH_done (by kernel_rfl) ?_ _
      refine NoPanic.normal ?_
      go_wp2
      go_ret
      exact ⟨rfl, HB.out.trans ((HAW.out.trans (hT.mono HAW.out.size)).mono HB.out.size)⟩
end Go.Proofs.Ytinnhaojmnmliaa
