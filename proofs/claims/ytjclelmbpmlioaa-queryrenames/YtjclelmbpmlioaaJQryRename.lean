/-
  query.Rename.
-/
import Derived.Test.YtjclelmbpmlioaaJQryBase
import Derived.Test.YtjclelmbpmlioaaJPatRefSame
import Derived.Test.YtjclelmbpmlioaaJExprRefRen
import Derived.Lib.MinMax
namespace Go.Proofs.Ytjclelmbpmlioaa
open Go.RowKit Go.Maps Go.WideMaps

/-- An item with another Var. -/
def renI (g : ByteArray → ByteArray) (x : It) : It := ⟨x.nm, x.k, g x.s, x.f⟩
/-- A query with other names. -/
structure RnQ (g : ByteArray → ByteArray) (q r : Qy) : Prop where
  p : Sm r.p (renP g q.p)
  x : ordX r.x (renX g q.x) = 0
  key : r.key = q.key
  mode : r.mode = q.mode
  win : r.win = q.win
  m : r.m = q.m
  it : ∀ i, i < q.m → r.it i = renI g (q.it i)
/-- The pattern's cells, one after the other. -/
abbrev setP (W : World) (b : Nat) (y : Pt) : World :=
  (((((W.setCell ⟨b, 0, none⟩ (.int .i64 y.k)).setCell ⟨b, 1, none⟩ (.string y.s)).setCell ⟨b, 2, none⟩ (.string y.t)).setCell ⟨b, 3, none⟩ (.int .i64 y.lo)).setCell ⟨b, 4, none⟩ (.int .i64 y.hi)).setCell ⟨b, 5, none⟩ (.slice y.a y.n y.cap)
theorem QB.setP {W : World} {b : Nat} {q : Qy} (h : QB W b q) (y : Pt) : QB (setP W b y) b { q with p := y } := by
  unfold QB at h ⊢
  rw [heap_set (heap_set (heap_set (heap_set (heap_set (heap_set h)))))]
  simp
theorem QB.setX {W : World} {b : Nat} {q : Qy} (h : QB W b q) (a : Option Addr) (n cap : Nat) (c : Nat → X) : QB (W.setCell ⟨b, 6, none⟩ (.slice a n cap)) b { q with a := a, n := n, cap := cap, c := c } := by
  unfold QB at h ⊢
  rw [heap_set h]
  simp
theorem QB.setI {W : World} {b : Nat} {q : Qy} (h : QB W b q) (a : Option Addr) (n cap : Nat) (c : Nat → It) : QB (W.setCell ⟨b, 10, none⟩ (.slice a n cap)) b { q with ia := a, m := n, icap := cap, it := c } := by
  unfold QB at h ⊢
  rw [heap_set h]
  simp
/-- All cells of a query, one after the other. -/
abbrev setQ (W : World) (b : Nat) (q : Qy) : World :=
  (((((Go.Proofs.Ytjclelmbpmlioaa.setP W b q.p).setCell ⟨b, 6, none⟩ (.slice q.a q.n q.cap)).setCell ⟨b, 7, none⟩ (.string q.key)).setCell ⟨b, 8, none⟩ (.int .i64 q.mode)).setCell ⟨b, 9, none⟩ (.int .i64 q.win)).setCell ⟨b, 10, none⟩ (.slice q.ia q.m q.icap)
theorem QB.setQ {W : World} {b : Nat} {q : Qy} (h : QB W b q) (r : Qy) : QB (setQ W b r) b r := by
  unfold QB at h ⊢
  rw [heap_set (heap_set (heap_set (heap_set (heap_set (heap_set (heap_set (heap_set (heap_set (heap_set (heap_set h))))))))))]
  simp
theorem heap_setP_other {W : World} {b : Nat} {y : Pt} {k : Nat} (h : k ≠ b) : (setP W b y).heap[k]? = W.heap[k]? :=
  (Below.heap_setCell _ _ _ _ h).trans ((Below.heap_setCell _ _ _ _ h).trans ((Below.heap_setCell _ _ _ _ h).trans ((Below.heap_setCell _ _ _ _ h).trans ((Below.heap_setCell _ _ _ _ h).trans (Below.heap_setCell _ _ _ _ h)))))
theorem heap_setQ_other {W : World} {b : Nat} {y : Qy} {k : Nat} (h : k ≠ b) : (setQ W b y).heap[k]? = W.heap[k]? :=
  (Below.heap_setCell _ _ _ _ h).trans ((Below.heap_setCell _ _ _ _ h).trans ((Below.heap_setCell _ _ _ _ h).trans ((Below.heap_setCell _ _ _ _ h).trans ((Below.heap_setCell _ _ _ _ h).trans (heap_setP_other h)))))
theorem below_setP {n : Nat} {w W : World} {b : Nat} {y : Pt} (h : Below n w W) (hb : n ≤ b) : Below n w (setP W b y) :=
  (((((h.setCell (p := ⟨b, 0, none⟩) hb _).setCell (p := ⟨b, 1, none⟩) hb _).setCell (p := ⟨b, 2, none⟩) hb _).setCell (p := ⟨b, 3, none⟩) hb _).setCell (p := ⟨b, 4, none⟩) hb _).setCell (p := ⟨b, 5, none⟩) hb _
theorem below_setQ {n : Nat} {w W : World} {b : Nat} {y : Qy} (h : Below n w W) (hb : n ≤ b) : Below n w (setQ W b y) :=
  (((((below_setP h hb).setCell (p := ⟨b, 6, none⟩) hb _).setCell (p := ⟨b, 7, none⟩) hb _).setCell (p := ⟨b, 8, none⟩) hb _).setCell (p := ⟨b, 9, none⟩) hb _).setCell (p := ⟨b, 10, none⟩) hb _
def qy0 : Qy := ⟨.nil, none, 0, 0, fun _ => .nil, ⟨#[]⟩, 0, 0, none, 0, 0, fun _ => ⟨⟨#[]⟩, 0, ⟨#[]⟩, ⟨#[]⟩⟩⟩
/-- Rows no longer than memory can hold, all the way down. -/
structure WdQ (q : Qy) : Prop where
  p : WdP q.p
  x : WdX q.x
  m : q.m ≤ 2513169434843
set_option maxRecDepth 100000 in
set_option maxHeartbeats 8000000 in
theorem renameQ_wide (q : Qy) (a a' : Option Addr) (m m' cap cap' : Nat) (S T : Nat → ByteArray) (w : World) (hQ : IsQ w q) (hok : QOk q) (hsm : WdQ q)
    (hS : Txs w a m S) (hT : Txs w a' m' T) (hm : m ≤ 9223372036854775807) (hm' : m' ≤ 9223372036854775807) (hc : m ≤ cap) (hcm : cap ≤ 9223372036854775807) (zS : ∀ j, j < m → (S j).size ≤ maxLen) :
    Calls Try.prog 19 #[q.val, .slice a m cap, .slice a' m' cap'] w fun e w' => ∃ r : Qy, e = .returned r.val ∧ IsQ w' r ∧ RnQ (nameX S T (min m m')) q r ∧ Below w.heap.size w w' := by
  obtain ⟨hbp, hbx, hb⟩ := hsm
  go_enter Try.func19, Try.ntmps19
  go_upto_region 1 with fail
  obtain ⟨A, hA⟩ : ∃ A, (w.alloc (.cells q.cells 41)).alloc (.cells #[.int .i64 0, .string ⟨#[]⟩, .string ⟨#[]⟩, .int .i64 0, .int .i64 0, .slice none 0 0, .slice none 0 0, .string ⟨#[]⟩, .int .i64 0, .int .i64 0, .slice none 0 0] 41) = A := ⟨_, rfl⟩
  have hsz : A.heap.size = w.heap.size + 2 := by rw [← hA]; simp
  have hB : Below w.heap.size w A := by rw [← hA]; exact ((Below.refl _ w).alloc (Nat.le_refl _) _).alloc (by simp) _
  have qb0 : QB A w.heap.size q := by rw [← hA]; exact (alloc_old (by simp)).trans (QB.new w q)
  have rb0 : QB A (w.heap.size + 1) qy0 := by
    have := QB.new (w.alloc (.cells q.cells 41)) qy0
    rw [World.size_alloc] at this
    rw [← hA]
    exact this
  rw [hA]
  obtain ⟨⟨k0, k1, k2, k3, k4, k5⟩, -⟩ := qb0.at0
  have C1 : Hid (Calls Try.prog 9 #[q.p.val, .slice a m cap, .slice a' m' cap'] A _) := renameP_wide q.p a a' m m' cap cap' S T A (hQ.p.later hB) hbp hok.p (hS.later hB) (hT.later hB) hm hm' hc hcm zS
  have HQ : Hid (IsQ w q) := hQ
  have HO : Hid (QOk q) := hok
  have HS : Hid (Txs w a m S) := hS
  have HT : Hid (Txs w a' m' T) := hT
  have HZ : Hid (∀ j, j < m → (S j).size ≤ maxLen) := zS
  have QB0 : Hid (QB A w.heap.size q) := qb0
  have RB0 : Hid (QB A (w.heap.size + 1) qy0) := rb0
  clear hQ hok hS hT zS qb0 rb0
  go_upto_region 2 with (first | (go_at_call 9; refine C1.out.mono ?_; rintro e W1 ⟨y, rfl, hPA, hSm, hin, hB1⟩; obtain ⟨⟨d0, d1, d2, d3, d4, d5⟩, -⟩ := (QB0.out.later hB1).at0; have f0 := (QB0.out.later hB1).frozen 0; have f1 := (QB0.out.later hB1).frozen 1; have f2 := (QB0.out.later hB1).frozen 2; have f3 := (QB0.out.later hB1).frozen 3; have f4 := (QB0.out.later hB1).frozen 4; have f5 := (QB0.out.later hB1).frozen 5; clear k0 k1 k2 k3 k4 k5))
  clear d0 d1 d2 d3 d4 d5 f0 f1 f2 f3 f4 f5 C1
  obtain ⟨W2, hW2⟩ : ∃ W2, setP W1 w.heap.size y = W2 := ⟨_, rfl⟩
  have hs2 : W2.heap.size = W1.heap.size := by rw [← hW2]; simp
  have QB2 : Hid (QB W2 w.heap.size { q with p := y }) := by rw [← hW2]; exact (QB0.out.later hB1).setP y
  have RB2 : Hid (QB W2 (w.heap.size + 1) qy0) := by rw [← hW2]; exact (heap_setP_other (by omega)).trans (RB0.out.later hB1)
  have hP2 : IsP W2 y := by
    rw [← hW2]
    exact hPA.is.kept (T := fun k => k ≠ w.heap.size) (fun k o hk _ e => (heap_setP_other hk).trans e) fun k hk => by have := hin k hk; omega
  have hB2 : Below w.heap.size w W2 := by rw [← hW2]; exact below_setP (hB.trans (hB1.mono (by omega))) (Nat.le_refl _)
  have hl2 : w.heap.size + 2 ≤ W2.heap.size := by have := hB1.size; omega
  have hW2' := hW2
  unfold setP at hW2'
  rw [hW2']
  have HP2 : Hid (IsP W2 y) := hP2
  have HIN : Hid (∀ k, inP k y → w.heap.size + 2 ≤ k ∧ k < W2.heap.size) := fun k hk => ⟨by have := hin k hk; omega, by rw [hs2]; exact inP_lt hPA hk⟩
  have HSM : Hid (Sm y (renP (nameX S T (min m m')) q.p)) := hSm
  clear hW2' hW2 hB1 hPA hSm hin QB0 RB0 hP2 hs2 hB hsz hA W1 A
  obtain ⟨-, k6, -⟩ := QB2.out.at0
  dsimp only at k6
  have C2 : Hid (∀ d, Calls Try.prog 37 #[.slice q.a q.n q.cap] d _) := fun d => joined_any q.a q.n q.cap q.c d
  have C3 : Hid (∀ d, Below W2.heap.size W2 d → Calls Try.prog 36 #[q.x.val, .slice a m cap, .slice a' m' cap'] d _) := fun d h =>
    renameN_wide q.x a a' m m' cap cap' S T d (HQ.out.x.later (hB2.trans (h.mono hB2.size))) hbx HO.out.x (HS.out.later (hB2.trans (h.mono hB2.size))) (HT.out.later (hB2.trans (h.mono hB2.size))) hm hm' hc hcm HZ.out
  have hfl : ∀ (z : X) (W : World), (Instr.field 68 z.val 4).run Try.prog W = .ok (.slice z.a z.n z.cap) W := fun z W => rfl
  go_upto_region 3 with (first
    | (go_at_call 37; refine (C2.out _).mono ?_; rintro e W3 ⟨rfl, hB3⟩)
    | (go_at_call 36; refine (C3.out _ hB3).mono ?_; rintro e W4 ⟨z, rfl, hXA, hord, hinx, hB4⟩; have hB34 := hB3.trans (hB4.mono hB3.size); obtain ⟨-, d6, -⟩ := (QB2.out.later hB34).at0; dsimp only at d6; have f6 := (QB2.out.later hB34).frozen 6))
  clear d6 f6 C2 C3 k6
  obtain ⟨W5, hW5⟩ : ∃ W5, W4.setCell ⟨w.heap.size, 6, none⟩ (.slice z.a z.n z.cap) = W5 := ⟨_, rfl⟩
  rw [hW5]
  have hs5 : W5.heap.size = W4.heap.size := by rw [← hW5]; simp
  have kp5 : Kp (fun k => k ≠ w.heap.size) W4 W5 := by rw [← hW5]; exact Kp.set _ (by simp)
  obtain ⟨q5, hq5⟩ : ∃ q5 : Qy, q5 = { q with p := y, a := z.a, n := z.n, cap := z.cap, c := z.c } := ⟨_, rfl⟩
  have QB5 : Hid (QB W5 w.heap.size q5) := by rw [← hW5, hq5]; exact (QB2.out.later hB34).setX z.a z.n z.cap z.c
  have RB5 : Hid (QB W5 (w.heap.size + 1) qy0) := by rw [← hW5]; exact (Below.heap_setCell _ _ _ _ (by simp)).trans (RB2.out.later hB34)
  have HP5 : Hid (IsP W5 y) := (HP2.out.later hB34).kept kp5 fun k hk => by have := (HIN.out k hk).1; omega
  have HX5 : Hid (IsX W5 z) := hXA.is.kept kp5 fun k hk => by have := hinx k hk; have := hB3.size; omega
  have HI5 : Hid (∀ k, inP k y ∨ inX k z → w.heap.size + 2 ≤ k ∧ k < W5.heap.size) := fun k hk => by
    have := hB34.size
    rcases hk with hk | hk
    · have := HIN.out k hk; omega
    · have := hinx k hk; have := hB3.size; have := inX_ltI hXA.is hk; omega
  have hB5 : Below w.heap.size w W5 := by rw [← hW5]; exact (hB2.trans (hB34.mono hB2.size)).setCell (p := ⟨w.heap.size, 6, none⟩) (Nat.le_refl _) _
  have hl5 : w.heap.size + 2 ≤ W5.heap.size := by have := hB34.size; omega
  have HORD : Hid (ordX z (renX (nameX S T (min m m')) q.x) = 0) := hord
  have HQ5 : Hid (q5 = _) := hq5
  have hi5 : q5.ia = q.ia ∧ q5.m = q.m ∧ q5.icap = q.icap := by rw [hq5]; exact ⟨rfl, rfl, rfl⟩
  obtain ⟨i51, i52, i53⟩ := hi5
  obtain ⟨-, -, -, -, -, k10⟩ := QB5.out.at0
  rw [i51, i52, i53] at k10
  have C4 : Hid (Calls Try.prog 38 #[.slice q.ia q.m q.icap] W5 _) := cloneI_wide q.ia q.m q.icap q.it W5 (HQ.out.it.later hB5) (by omega)
  clear hW5 kp5 hXA hord hinx hB34 hB4 hB3 HP2 HIN hB2 hl2 QB2 RB2 hs5 W4 W3 hq5 hfl i51 i52 i53 W2
  go_upto_region 4 with (first
    | (go_at_call 38; refine C4.out.mono ?_; rintro e W6 ⟨v6, rfl, hown6, hB6⟩; obtain ⟨a6, cap6, rfl, hc6, hm6, hg6⟩ := own_its hown6; obtain ⟨-, -, -, -, -, d10⟩ := (QB5.out.later hB6).at0; have f10 := (QB5.out.later hB6).frozen 10))
  clear d10 f10 C4 k10
  obtain ⟨W7, hW7⟩ : ∃ W7, W6.setCell ⟨w.heap.size, 10, none⟩ (.slice a6 q.m cap6) = W7 := ⟨_, rfl⟩
  rw [hW7]
  have hs7 : W7.heap.size = W6.heap.size := by rw [← hW7]; simp
  have kp7 : Kp (fun k => k ≠ w.heap.size) W6 W7 := by rw [← hW7]; exact Kp.set _ (by simp)
  have QB7 : Hid (QB W7 w.heap.size { q5 with ia := a6, m := q.m, icap := cap6, it := q.it }) := by rw [← hW7]; exact (QB5.out.later hB6).setI a6 q.m cap6 q.it
  have RB7 : Hid (QB W7 (w.heap.size + 1) qy0) := by rw [← hW7]; exact (Below.heap_setCell _ _ _ _ (by simp)).trans (RB5.out.later hB6)
  have HP7 : Hid (IsP W7 y) := (HP5.out.later hB6).kept kp7 fun k hk => by have := (HI5.out k (.inl hk)).1; omega
  have HX7 : Hid (IsX W7 z) := (HX5.out.later hB6).kept kp7 fun k hk => by have := (HI5.out k (.inr hk)).1; omega
  have hB7 : Below w.heap.size w W7 := by rw [← hW7]; exact (hB5.trans (hB6.mono hB5.size)).setCell (p := ⟨w.heap.size, 10, none⟩) (Nat.le_refl _) _
  have hl7 : W5.heap.size ≤ W7.heap.size := by have := hB6.size; omega
  have hg7 : ∃ g, W5.heap.size ≤ g ∧ g ≠ W7.heap.size ∧ (0 < q.m → g < W7.heap.size ∧ a6 = some ⟨g, 0, none⟩ ∧ (∃ cur, W7.heap[g]? = some (.cells cur 72 (0, 0))) ∧ ∀ i, i < q.m → ItAt W7 g (i * 4) (q.it i)) := by
    by_cases h0 : 0 < q.m
    · obtain ⟨g, e, g1, g2, ⟨cur, g3⟩, g4⟩ := hg6 h0
      have hne : g ≠ w.heap.size := by omega
      refine ⟨g, g1, by omega, fun _ => ⟨by omega, e, ⟨cur, kp7 g _ hne rfl g3⟩, fun i hi => ?_⟩⟩
      obtain ⟨c0, c1, c2, c3⟩ := g4 i hi
      exact ⟨kp7.cell (p := ⟨g, i * 4, none⟩) hne c0, kp7.cell (p := ⟨g, i * 4 + 1, none⟩) hne c1, kp7.cell (p := ⟨g, i * 4 + 2, none⟩) hne c2, kp7.cell (p := ⟨g, i * 4 + 3, none⟩) hne c3⟩
    · exact ⟨W7.heap.size + 1, by omega, by omega, fun h => absurd h h0⟩
  have HG7 : Hid (_) := hg7
  clear hW7 kp7 hg6 hown6 hB6 HP5 HX5 QB5 RB5 hB5 hs7 hg7 W6
  obtain ⟨p, hp⟩ : ∃ p : Nat, p = min m m' := ⟨_, rfl⟩
  have hp1 : p ≤ m := by omega
  have hp2 : p ≤ m' := by omega
  have hmin : min (m : Int) (m' : Int) = (p : Int) := by omega
  have C5 : Hid (Calls Try.prog 39 #[.slice a p cap] W7 _) := firstsQ_any a p cap S W7 (fun h0 => by obtain ⟨b, o, e, hc⟩ := HS.out.later hB7 (by omega); exact ⟨b, o, e, fun j hj => hc j (by omega)⟩) (by omega) (fun j hj => HZ.out j (by omega))
  have HPM : Hid (p = min m m') := hp
  clear hp
  go_upto_region 5 with (first
    | (go_at_call 39; refine C5.out.mono ?_; rintro e W8 ⟨rfl, ⟨D, hown8, hF8⟩, hB8⟩))
  obtain ⟨g, hg1, hg2, hg3⟩ := HG7.out
  have hM : W7.heap.size < W8.heap.size := hown8.lt
  have QB8 : Hid (QB W8 w.heap.size { q5 with ia := a6, m := q.m, icap := cap6, it := q.it }) := QB7.out.later hB8
  have RB8 : Hid (QB W8 (w.heap.size + 1) qy0) := RB7.out.later hB8
  have HP8 : Hid (IsP W8 y) := HP7.out.later hB8
  have HX8 : Hid (IsX W8 z) := HX7.out.later hB8
  have hB8' : Below w.heap.size w W8 := hB7.trans (hB8.mono hB7.size)
  have HW8 : Hid (W8.ownsMap Try.prog 9 (plainElem (H := Unit) Try.prog 3) W7.heap.size p D) := hown8
  have HF8 : Hid (Firsts S p 0 D) := hF8
  have HG8 : Hid (0 < q.m → a6 = some ⟨g, 0, none⟩ ∧ g < W8.heap.size ∧ (∃ cur, W8.heap[g]? = some (.cells cur 72 (0, 0))) ∧ ∀ i, i < q.m → ItAt W8 g (i * 4) (q.it i)) := fun h0 => by
    obtain ⟨h1, h2, ⟨cur, h3⟩, h4⟩ := hg3 h0
    exact ⟨h2, by omega, ⟨cur, (hB8.block g h1).trans h3⟩, fun i hi => (h4 i hi).later hB8⟩
  have hT8 := HT.out.later hB8'
  have HT8 : Hid (Txs W8 a' m' T) := hT8
  clear C5 hown8 hF8 hB8 HG7 hg3 QB7 RB7 HP7 HX7 hB7 hT8
  obtain ⟨-, -, -, -, -, k10⟩ := QB8.out.at0
  dsimp only at k10
  have hnm : ∀ s j, fstS S s p = some j → nameX S T (min m m') s = T j ∧ j < m' := fun s j h => by
    rw [← HPM.out]
    exact ⟨by unfold nameX; rw [h], by have := (fstS_some h).1; omega⟩
  have hnn : ∀ s, fstS S s p = none → nameX S T (min m m') s = s := fun s h => by
    rw [← HPM.out]
    unfold nameX; rw [h]
  have HNM : Hid (_) := hnm
  have HNN : Hid (_) := hnn
  clear hnm hnn
  go_wp2_with fail
  go_loopw [41] (fun v wr => ∃ k : Nat, k ≤ q.m ∧ v = .int .i64 k ∧ Hid (0 < q.m → (∃ cur, wr.heap[g]? = some (.cells cur 72 (0, 0))) ∧ ∀ i, i < q.m → ItAt wr g (i * 4) (if i < k then renI (nameX S T (min m m')) (q.it i) else q.it i)) ∧ Lb W8.heap.size g W8 wr) (fun v _ => q.m - (intOf v).toNat)
  case atStart => exact ⟨0, Nat.zero_le _, rfl, fun h0 => ⟨(HG8.out h0).2.2.1, fun i hi => by rw [if_neg (by omega)]; exact (HG8.out h0).2.2.2 i hi⟩, Lb.refl _ _ _⟩
  case round =>
    clear k10
    obtain ⟨k, hk, rfl, HI, hL⟩ := hrel
    by_cases hkn : k < q.m
    · obtain ⟨rfl, hglt, -, -⟩ := HG8.out (by omega)
      obtain ⟨⟨cur, hcur⟩, hits⟩ := HI.out (by omega)
      have hitk := hits k hkn
      rw [if_neg (by omega)] at hitk
      obtain ⟨c0, c1, c2, c3⟩ := hitk
      have hmV : (wr.alloc (.cells (q.it k).cells 72)).ownsMap Try.prog 9 (plainElem (H := Unit) Try.prog 3) W7.heap.size p D := (hL.map hM (fun e => hg2 e.symm) HW8.out).alloc _
      obtain ⟨cc, hrun, hcc⟩ := look_at hmV HF8.out (HO.out.it k hkn).2.1
      have HI' : Hid (∀ i, i < q.m → ItAt wr g (i * 4) (if i < k then renI (nameX S T (min m m')) (q.it i) else q.it i)) := hits
      have hBA : Below wr.heap.size wr (wr.alloc (.cells (q.it k).cells 72)) := (Below.refl _ _).alloc (Nat.le_refl _) _
      have hLA : Lb W8.heap.size g W8 (wr.alloc (.cells (q.it k).cells 72)) := hL.trans (.of_below (hBA.mono hL.size))
      have HLA : Hid (_) := hLA
      have HBA : Hid (_) := hBA
      have HCU : Hid (wr.heap[g]? = some (.cells cur 72 (0, 0))) := hcur
      clear hits HI hmV hLA hBA hcur
      cases hfs : fstS S (q.it k).s p with
      | none =>
        have HFS : Hid (fstS S (q.it k).s p = none) := hfs
        rw [hfs] at hrun
        simp only [Option.isSome_none] at hrun
        clear hfs hcc
        go_wp2
        refine ⟨⟨k + 1, hkn, by simp, fun _ => ⟨⟨cur, (HBA.out.block g (Array.getElem?_eq_some_iff.1 HCU.out).1).trans HCU.out⟩, fun i hi => ?_⟩, HLA.out⟩, ?_⟩
        · by_cases e : i = k
          · subst e
            rw [if_pos (by omega)]
            have := (HI'.out i hi).later HBA.out
            rw [if_neg (by omega)] at this
            unfold renI
            rw [HNN.out _ HFS.out]
            exact this
          · have := (HI'.out i hi).later HBA.out
            by_cases e' : i < k
            · rw [if_pos (by omega)]; rw [if_pos e'] at this; exact this
            · rw [if_neg (by omega)]; rw [if_neg e'] at this; exact this
        · simp [intOf]
          omega
      | some j =>
        have HFS : Hid (fstS S (q.it k).s p = some j) := hfs
        rw [hfs] at hrun
        simp only [Option.isSome_some] at hrun
        obtain rfl := hcc j hfs
        obtain ⟨n1, n2⟩ := HNM.out _ _ hfs
        clear hfs hcc
        have hBr : Below w.heap.size w (wr.alloc (.cells (q.it k).cells 72)) := hB8'.trans (HLA.out.below (by omega) (by omega))
        obtain ⟨b, o, rfl, htc⟩ := HT.out.later hBr (by omega)
        have t0 := htc j n2
        have qc : (wr.alloc (.cells (q.it k).cells 72)).cell? ⟨w.heap.size, 10, none⟩ = some (.slice (some ⟨g, 0, none⟩) q.m cap6) := by
          have : QB (wr.alloc (.cells (q.it k).cells 72)) w.heap.size { q5 with ia := some ⟨g, 0, none⟩, m := q.m, icap := cap6, it := q.it } := (HLA.out.block _ (by omega) (by omega)).trans QB8.out
          exact this.at0.2.2.2.2.2
        have gf : (wr.alloc (.cells (q.it k).cells 72)).frozen? ⟨g, k * 4 + 2, none⟩ = false := by
          have := (HBA.out.block g (Array.getElem?_eq_some_iff.1 HCU.out).1).trans HCU.out
          simp [World.frozen?, this]
        have c2' := cell_later c2 HBA.out
        have HTC : Hid (_) := htc
        have HN1 : Hid (nameX S T (min m m') (q.it k).s = T j) := n1
        clear htc n1
        go_wp2_with fail
        go_region
        go_wp2
        have hgs : ((wr.alloc (.cells (q.it k).cells 72)).setCell ⟨g, k * 4 + 2, none⟩ (.string (T j))).drew.heap[g]? = some (.cells (cur.setIfInBounds (k * 4 + 2) (.string (T j))) 72 (0, 0)) := heap_set ((HBA.out.block g (Array.getElem?_eq_some_iff.1 HCU.out).1).trans HCU.out)
        have hoth : ∀ (u : Nat) (v : Value), u ≠ k * 4 + 2 → wr.cell? ⟨g, u, none⟩ = some v → ((wr.alloc (.cells (q.it k).cells 72)).setCell ⟨g, k * 4 + 2, none⟩ (.string (T j))).drew.cell? ⟨g, u, none⟩ = some v := fun u v hu hc =>
          (World.cell?_setCell_other _ _ _ _ (fun e => hu (by injection e with _ e; exact e.symm))).trans (cell_later hc HBA.out)
        have hat : ((wr.alloc (.cells (q.it k).cells 72)).setCell ⟨g, k * 4 + 2, none⟩ (.string (T j))).drew.cell? ⟨g, k * 4 + 2, none⟩ = some (.string (T j)) := World.cell?_setCell_same _ _ _ c2'
        refine ⟨⟨k + 1, hkn, by simp, fun _ => ⟨⟨_, hgs⟩, fun i hi => ?_⟩, ?_⟩, ?_⟩
        · by_cases e : i = k
          · subst e
            rw [if_pos (by omega)]
            refine ⟨hoth _ _ (by omega) c0, hoth _ _ (by omega) c1, ?_, hoth _ _ (by omega) c3⟩
            unfold renI
            rw [HN1.out]
            exact hat
          · obtain ⟨g0, g1, g2, g3⟩ := HI'.out i hi
            have e2 : (if i < k + 1 then renI (nameX S T (min m m')) (q.it i) else q.it i) = (if i < k then renI (nameX S T (min m m')) (q.it i) else q.it i) := by
              by_cases e' : i < k
              · rw [if_pos (by omega), if_pos e']
              · rw [if_neg (by omega), if_neg e']
            rw [e2]
            exact ⟨hoth _ _ (by omega) g0, hoth _ _ (by omega) g1, hoth _ _ (by omega) g2, hoth _ _ (by omega) g3⟩
        · have l1 := HLA.out.trans (Lb.set (o := k * 4 + 2) (v := .string (T j)) (.inl rfl))
          exact ⟨l1.os, l1.tape, l1.output, l1.size, l1.block⟩
        · simp [intOf]
          omega
    · obtain rfl : k = q.m := by omega
      have qbr : QB wr w.heap.size { q5 with ia := a6, m := q.m, icap := cap6, it := q.it } := (hL.block _ (by omega) (by omega)).trans QB8.out
      have rbr : QB wr (w.heap.size + 1) qy0 := (hL.block _ (by omega) (by omega)).trans RB8.out
      obtain ⟨⟨d0, d1, d2, d3, d4, d5⟩, d6, d7, d8, d9, d10⟩ := qbr.at0
      obtain ⟨⟨e0, e1, e2, e3, e4, e5⟩, e6, e7, e8, e9, e10⟩ := rbr.at0
      have f0 := rbr.frozen 0
      have f1 := rbr.frozen 1
      have f2 := rbr.frozen 2
      have f3 := rbr.frozen 3
      have f4 := rbr.frozen 4
      have f5 := rbr.frozen 5
      have f6 := rbr.frozen 6
      have f7 := rbr.frozen 7
      have f8 := rbr.frozen 8
      have f9 := rbr.frozen 9
      have f10 := rbr.frozen 10
      dsimp only at d0 d1 d2 d3 d4 d5 d6 d7 d8 d9 d10
      have QBR : Hid (QB wr w.heap.size { q5 with ia := a6, m := q.m, icap := cap6, it := q.it }) := qbr
      have RBR : Hid (QB wr (w.heap.size + 1) qy0) := rbr
      clear qbr rbr
      go_wp2
      obtain ⟨r, hr⟩ : ∃ r : Qy, r = { q5 with ia := a6, m := q.m, icap := cap6, it := fun i => renI (nameX S T (min m m')) (q.it i) } := ⟨_, rfl⟩
      have hblk : QB (setQ wr (w.heap.size + 1) r) (w.heap.size + 1) r := RBR.out.setQ r
      have hkq : Kp (fun k => k ≠ w.heap.size + 1) wr (setQ wr (w.heap.size + 1) r) := fun k o hk _ e => (heap_setQ_other hk).trans e
      have hkl : Kp (fun k => k < W8.heap.size ∧ k ≠ g) W8 wr := fun k o hk _ e => (hL.block k hk.1 hk.2).trans e
      have hbw : Below w.heap.size w (setQ wr (w.heap.size + 1) r) := below_setQ (hB8'.trans (hL.below (by omega) (by omega))) (by omega)
      have hpf : IsP (setQ wr (w.heap.size + 1) r) y := (HP8.out.kept hkl fun k hk => by have := HI5.out k (.inl hk); omega).kept hkq fun k hk => by have := (HI5.out k (.inl hk)).1; omega
      have hxf : IsX (setQ wr (w.heap.size + 1) r) z := (HX8.out.kept hkl fun k hk => by have := HI5.out k (.inr hk); omega).kept hkq fun k hk => by have := (HI5.out k (.inr hk)).1; omega
      have hq5 := HQ5.out
      have hif : Its (setQ wr (w.heap.size + 1) r) a6 q.m fun i => renI (nameX S T (min m m')) (q.it i) := fun i hi => by
        obtain ⟨e, hl, -, -⟩ := HG8.out (by omega)
        obtain ⟨-, hits⟩ := HI.out (by omega)
        obtain ⟨g0, g1, g2, g3⟩ := hits i hi
        rw [if_pos hi] at g0 g1 g2 g3
        have hne : g ≠ w.heap.size + 1 := by omega
        refine ⟨g, 0, e, ?_⟩
        rw [Nat.zero_add]
        exact ⟨hkq.cell (p := ⟨g, i * 4, none⟩) hne g0, hkq.cell (p := ⟨g, i * 4 + 1, none⟩) hne g1, hkq.cell (p := ⟨g, i * 4 + 2, none⟩) hne g2, hkq.cell (p := ⟨g, i * 4 + 3, none⟩) hne g3⟩
      clear hkq hkl HI HP8 HX8 HG8 QB8 RB8 QBR RBR
      have hfin : ∃ r' : Qy, Ending.returned r.val = .returned r'.val ∧ IsQ (setQ wr (w.heap.size + 1) r) r' ∧ RnQ (nameX S T (min m m')) q r' ∧ Below w.heap.size w (setQ wr (w.heap.size + 1) r) := by
        refine ⟨r, rfl, ?_, ?_, hbw⟩
        · rw [hr, hq5] at hpf hxf hif ⊢
          refine ⟨hpf, ?_, hif, hc6, by unfold maxLen at hm6; omega⟩
          rw [isX_eq] at hxf ⊢
          exact hxf
        · rw [hr, hq5]
          obtain ⟨o1, o2, o3, o4, o5, o6⟩ := (ordX_zero _ _).1 HORD.out
          refine ⟨HSM.out, ?_, rfl, rfl, rfl, rfl, fun i _ => rfl⟩
          obtain ⟨p1, p2, p3, p4, p5, p6⟩ := renX_parts (nameX S T (min m m')) q.x
          refine (ordX_zero _ _).2 ⟨p1.symm, p2.symm ▸ rfl, ?_, p4.symm, o5, o6⟩
          rw [p3]
          rfl
      refine bodyPost_ret (v := r.val) (results_cell_row rfl _ _ (w.heap.size + 1) 41 r.cells (0, 0) _ rfl ?_ Try.underlying41 rfl (by kernel_rfl)) rfl ?_
      · rw [hr] at hblk ⊢
        exact hblk
      · rw [hr] at hfin ⊢
        exact hfin
theorem WdQ.of {q : Qy} (h : q.bulk ≤ 1048576) : WdQ q := by
  unfold Qy.bulk at h
  exact ⟨wdP_of _ (by omega), wdX_of _ (by omega), by omega⟩
end Go.Proofs.Ytjclelmbpmlioaa
