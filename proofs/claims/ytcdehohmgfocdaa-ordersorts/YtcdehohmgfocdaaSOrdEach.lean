/-
  order.copied, order.each of patterns, order.Sort.
  haruspexlaw15's awake; rows of patterns.
  The document's Size of a pattern, as the machine counts; haruspexlaw15's light at any size.
  OrderSorted's walk: sorted patterns are as many, rise, and each of the others is there; sorted again they are as they are.
  The document's Form, vars and Whole (haruspexref15).
  The document's insertion (haruspexref15).
-/
import Derived.Test.YtcdehohmgfocdaaSBrief
import Derived.Test.YtcdehohmgfocdaaSOrdRows
import Derived.Test.YtcdehohmgfocdaaSOrdMath
import Derived.Test.YtcdehohmgfocdaaSPatSame
import Derived.Test.YtcdehohmgfocdaaSPatRefRen
import Derived.Test.YtcdehohmgfocdaaSExprRefOrd
import Derived.Test.YtcdehohmgfocdaaSTrees
import Derived.Deep.DeepCutAuto
namespace Go.Proofs.Ytcdehohmgfocdaa
open Go.RowKit

/-- A copy of x that lies in new memory. -/
def NewP (x : Pt) (d : World) (e : Ending) (w' : World) : Prop := ∃ q : Pt, e = .returned q.val ∧ Hid (IsP w' q ∧ Sm q x ∧ ∀ k, inP k q → d.heap.size ≤ k) ∧ Below d.heap.size d w'
theorem set_again {w2 : World} {B : Nat} {z q : Pt} (h : w2.heap[B]? = some (.cells z.cells 27 (0, 0))) : ∃ W, (((((w2.setCell ⟨B, 0, none⟩ (.int .i64 q.k)).setCell ⟨B, 1, none⟩ (.string q.s)).setCell ⟨B, 2, none⟩ (.string q.t)).setCell ⟨B, 3, none⟩ (.int .i64 q.lo)).setCell ⟨B, 4, none⟩ (.int .i64 q.hi)).setCell ⟨B, 5, none⟩ (.slice q.a q.n q.cap) = W ∧
    W.heap[B]? = some (.cells q.cells 27 (0, 0)) ∧ (∀ k, k ≠ B → W.heap[k]? = w2.heap[k]?) ∧ ∀ n w, n ≤ B → Below n w w2 → Below n w W :=
  ⟨_, rfl, heap_set6 (z := z) h, fun _ hk => heap_set6_other hk, fun _ _ hn hB => below_set6 hB hn⟩
theorem frozen_box {w : World} {B : Nat} {cs : Array Value} (h : w.heap[B]? = some (.cells cs 27 (0, 0))) : w.frozen? ⟨B, 0, none⟩ = false ∧ w.frozen? ⟨B, 1, none⟩ = false ∧ w.frozen? ⟨B, 2, none⟩ = false ∧ w.frozen? ⟨B, 3, none⟩ = false ∧ w.frozen? ⟨B, 4, none⟩ = false ∧ w.frozen? ⟨B, 5, none⟩ = false :=
  ⟨FreeP.frozen ⟨_, h⟩ _, FreeP.frozen ⟨_, h⟩ _, FreeP.frozen ⟨_, h⟩ _, FreeP.frozen ⟨_, h⟩ _, FreeP.frozen ⟨_, h⟩ _, FreeP.frozen ⟨_, h⟩ _⟩
theorem isP_other {w W : World} {q : Pt} {T : Nat → Prop} (h : IsP w q) (hT : ∀ k, inP k q → T k) (hk : ∀ k, T k → W.heap[k]? = w.heap[k]?) : IsP W q := h.kept (T := T) (fun k _ hk' _ e => (hk k hk').trans e) hT
set_option maxRecDepth 100000 in
set_option maxHeartbeats 8000000 in
theorem copiedO_any (x : Pt) (w : World) (hX : IsP w x) (hsm : WdP x) : Calls Try.prog 24 #[x.val] w (NewP x w) := by
  obtain ⟨A, hA, hB, hs, hn, hr⟩ := boxP_res x w
  have hb0 : A.heap[w.heap.size]? = some (.cells x.cells 27 (0, 0)) := by
    rw [← hA, alloc_old (by simp)]
    exact alloc_new w _
  obtain ⟨a0, a1, a2, a3, a4, a5⟩ := hn.at0
  have hc : Hid (Calls Try.prog 49 #[x.val, .slice none 0 0] A fun e w' => ∃ q : Pt, e = .returned (.tuple #[q.val, .bool true]) ∧ PA w' q ∧ Sm q x ∧ (∀ k, inP k q → A.heap.size ≤ k) ∧ Below A.heap.size A w') := at_yesW x x none 0 0 (fun _ => 0) A (hX.later hB) hsm (fun h => absurd h (Nat.lt_irrefl _)) (by omega) rfl
  have HB : Hid (Below w.heap.size w A) := hB
  have HS : Hid (A.heap.size = w.heap.size + 2) := hs
  have H0 : Hid (A.heap[w.heap.size]? = some (.cells x.cells 27 (0, 0))) := hb0
  have H1 : Hid (A.heap[w.heap.size + 1]? = some (.cells zeroP 27 (0, 0))) := hr
  clear hB hn hr hX hb0 hs
  unfold NewP
  go_enter Try.func24, Try.ntmps24
  go_wp2_with (go_at_call 49; refine hc.out.mono ?_; clear hc; rintro e w2 ⟨q, rfl, hPA, hSm, hin, hB2⟩; have k0 := (hB2.block w.heap.size (by have := HS.out; omega)).trans H0.out; have k1 := (hB2.block (w.heap.size + 1) (by have := HS.out; omega)).trans H1.out; obtain ⟨W, hW, hW0, hWo, hWB⟩ := set_again (q := q) k0; have k1' := (hWo (w.heap.size + 1) (by omega)).trans k1; obtain ⟨c0, c1, c2, c3, c4, c5⟩ := (nodeP_box k0).at0; obtain ⟨f0, f1, f2, f3, f4, f5⟩ := frozen_box k0; obtain ⟨d0, d1, d2, d3, d4, d5⟩ := (nodeP_box hW0).at0; obtain ⟨e0, e1, e2, e3, e4, e5⟩ := (nodeP_box (x := .nil) k1').at0; obtain ⟨g0, g1, g2, g3, g4, g5⟩ := frozen_box k1')
  have hblk : (set6 W (w.heap.size + 1) q).heap[w.heap.size + 1]? = some (.cells q.cells 27 (0, 0)) := heap_set6 (z := .nil) k1'
  refine bodyPost_ret (results_cell_row rfl _ _ (w.heap.size + 1) 27 _ (0, 0) _ rfl hblk Try.underlying27 rfl (by kernel_rfl)) rfl ?_
  have hs := HS.out
  have hBw : Below w.heap.size w w2 := HB.out.trans (hB2.mono HB.out.size)
  refine ⟨q, rfl, ⟨isP_other (T := fun k => w.heap.size + 2 ≤ k) hPA.is (fun k hk => by have := hin k hk; omega) (fun k hk => (heap_set6_other (by omega)).trans (hWo k (by omega))), hSm, fun k hk => by have := hin k hk; omega⟩, below_set6 (hWB _ _ (Nat.le_refl _) hBw) (by omega)⟩
set_option maxRecDepth 100000 in
set_option maxHeartbeats 8000000 in
theorem eachPP_any (a : Option Addr) (n cap : Nat) (D : Nat → Pt) (w : World) (hn : n ≤ 1759218604390) (hR : ∀ i, i < n → ∃ b o, a = some ⟨b, o, none⟩ ∧ NodeP w b (o + i * 6) (D i))
    (hC : ∀ i, i < n → ∀ d, Below w.heap.size w d → Calls Try.prog 24 #[(D i).val] d (NewP (D i) d)) :
    Calls Try.prog 22 #[.slice a n cap, .func (.func 24) #[] #[]] w fun e w' => ∃ (a' : Option Addr) (cap' : Nat) (c : Nat → Pt), e = .returned (.slice a' n cap') ∧ Hid (GrownP w.heap.size w' (.slice a' n cap') n c ∧ ∀ i, i < n → Sm (c i) (D i)) ∧ Below w.heap.size w w' := by
  have HR : Hid (∀ i, i < n → ∃ b o, a = some ⟨b, o, none⟩ ∧ NodeP w b (o + i * 6) (D i)) := hR
  have HC : Hid (∀ i, i < n → ∀ d, Below w.heap.size w d → Calls Try.prog 24 #[(D i).val] d (NewP (D i) d)) := hC
  clear hR hC
  go_enter Try.func22, Try.ntmps22
  go_wp2
  go_loopw [5, 10] (fun u v wr => ∃ (k : Nat) (a' : Option Addr) (cap' : Nat) (c : Nat → Pt), k ≤ n ∧ u = .slice a' k cap' ∧ v = .int .i64 k ∧ Hid (GrownP w.heap.size wr (.slice a' k cap') k c ∧ ∀ i, i < k → Sm (c i) (D i)) ∧ Below w.heap.size w wr) (fun _ v _ => n - (intOf v).toNat)
  case atStart => exact ⟨0, none, 0, fun _ => .nil, Nat.zero_le _, rfl, rfl, ⟨grownP_nil _ _ _, fun i hi => absurd hi (Nat.not_lt_zero _)⟩, Below.refl _ _⟩
  case round =>
    obtain ⟨k, a', cap', c, hk, rfl, rfl, HG, hB⟩ := hrel
    by_cases hkn : k < n
    · obtain ⟨b, o, rfl, hn1⟩ := HR.out k hkn
      obtain ⟨A, hA, hBA, -, hm1⟩ := boxP_one (D k) wr
      obtain ⟨d0, d1, d2, d3, d4, d5⟩ := hn1.later hB
      obtain ⟨g0, g1, g2, g3, g4, g5⟩ := hm1.at0
      have HK : Hid (k < n) := hkn
      have HB0 : Hid (Below w.heap.size w A) := hB.trans (hBA.mono hB.size)
      have HG2 : Hid (GrownP w.heap.size A (.slice a' k cap') k c) := HG.out.1.later hBA
      have hc : Hid (Calls Try.prog 24 #[(D k).val] A (NewP (D k) A)) := HC.out k hkn A HB0.out
      have HLT : Hid (∀ q, (Value.slice a' k cap').ownBlock = some q → q < A.heap.size) := fun q e => (HG2.out.1.lt q e).2
      have hk6 : Hid (k ≤ 1759218604390) := by show k ≤ _; omega
      clear hn1 hBA hm1
      go_wp2_with (first
        | (go_at_call 24; refine hc.out.mono ?_; clear hc; rintro e w2 ⟨q, rfl, hq, hB2⟩; obtain ⟨a3, cap3, w3, run3, G3, hB3, -⟩ := (HG2.out.later hB2).push (HB0.out.trans (hB2.mono HB0.out.size)).size hk6.out q hq.out.1 (fun z hz => ⟨Nat.le_trans HB0.out.size (hq.out.2.2 z hz), fun e => by have := HLT.out z e; have := hq.out.2.2 z hz; omega⟩); have R3 : Hid (_ = _) := run3; have HG3 : Hid (GrownP _ _ _ _ _) := G3; have HB3 : Hid (Below w.heap.size w w3) := (HB0.out.trans (hB2.mono HB0.out.size)).trans hB3; clear run3 G3 hB3)
        | (at_builtin; refine wpList_append_run rfl (.tmp 14) (.tmp 18) 22 rfl _ _ _ rfl rfl R3.out ?_))
      go_roundw
      case rel =>
        refine ⟨k + 1, a3, cap3, _, HK.out, rfl, by go_num, ⟨HG3.out, fun i hi => ?_⟩, HB3.out⟩
        by_cases e : i = k
        · subst e
          rw [updP_same]
          exact hq.out.2.1
        · rw [updP_other e]
          exact HG.out.2 i (by omega)
      case measure => have := HK.out; simp [intOf]; omega
    · obtain rfl : k = n := by omega
      go_wp2
      go_ret
      exact ⟨a', cap', c, rfl, HG, hB⟩

/-- Sort's answer. -/
def SortAns (L : List Pt) (d : World) (e : Ending) (w' : World) : Prop := ∃ (a' : Option Addr) (cap' : Nat) (c : Nat → Pt) (r : List Pt), e = .returned (.slice a' L.length cap') ∧ Hid (GrownP d.heap.size w' (.slice a' L.length cap') L.length c ∧ St formP L r ∧ (∀ i, i < L.length → Sm (c i) (r.getD i .nil)) ∧ L.length ≤ cap' ∧ cap' ≤ maxLen) ∧ Below d.heap.size d w'
set_option maxRecDepth 100000 in
set_option maxHeartbeats 4000000 in
theorem sortO_any (a : Option Addr) (cap : Nat) (L : List Pt) (w : World) (hR : 0 < L.length → ∃ b o, a = some ⟨b, o, none⟩ ∧ RwP w b o L) (hI : ∀ x ∈ L, IsP w x ∧ WdP x) (hc : L.length ≤ cap) (hm : cap ≤ 9223372036854775807) (hn : L.length ≤ 1759218604390) :
    Calls Try.prog 9 #[.slice a L.length cap] w (SortAns L w) := by
  have hS := sortedP_any formP form3 L.length a cap L w rfl hR hc hm hn fun x hx y hy d hd => formP_any x y d ((hI x hx).1.later hd) ((hI y hy).1.later hd)
  have HI : Hid (∀ x ∈ L, IsP w x ∧ WdP x) := hI
  obtain ⟨n, hnn⟩ : ∃ n, n = L.length := ⟨_, rfl⟩
  have HN : Hid (n = L.length) := hnn
  have hE : Hid (∀ (v : Value) (r : List Pt) (d : World), Hid (d.ownsRow w.heap.size 27 6 v n (rowLP r) ∧ St formP L r) → Below w.heap.size w d → Calls Try.prog 22 #[v, .func (.func 24) #[] #[]] d fun e w' => ∃ (a' : Option Addr) (cap' : Nat) (c : Nat → Pt), e = .returned (.slice a' n cap') ∧ Hid (GrownP d.heap.size w' (.slice a' n cap') n c ∧ ∀ i, i < n → Sm (c i) (r.getD i .nil)) ∧ Below d.heap.size d w') := fun v r d hr hd => by
    have hl := hr.out.2.perm.length_eq
    rw [← hnn] at hl
    have hv : ∃ a cap, v = .slice a n cap ∧ ∀ i, i < n → ∃ b o, a = some ⟨b, o, none⟩ ∧ NodeP d b (o + i * 6) (r.getD i .nil) := by
      by_cases h0 : 0 < n
      · obtain ⟨g, cap, rfl, _, _, _, _, hg⟩ := ownLP hr.out.1 hl h0
        refine ⟨_, cap, rfl, fun i hi => ⟨g, 0, rfl, hg i _ (by simp [show i < r.length by omega])⟩⟩
      · obtain rfl : n = 0 := by omega
        rcases hr.out.1.2 with ⟨rfl, _⟩ | ⟨g, cap, _, rfl, _⟩
        · exact ⟨none, 0, rfl, fun i hi => absurd hi (Nat.not_lt_zero _)⟩
        · exact ⟨_, cap, rfl, fun i hi => absurd hi (Nat.not_lt_zero _)⟩
    obtain ⟨a, cap, rfl, hrow⟩ := hv
    refine eachPP_any a n cap (fun i => r.getD i .nil) d (by omega) hrow fun i hi W hW => ?_
    have hm : r.getD i .nil ∈ L := by
      rw [← hr.out.2.perm.mem_iff, List.getD_eq_getElem?_getD, List.getElem?_eq_getElem (show i < r.length by omega)]
      exact List.getElem_mem _
    exact copiedO_any _ W ((hI _ hm).1.later (hd.trans (hW.mono hd.size))) (hI _ hm).2
  rw [← hnn] at hS
  unfold SortAns
  rw [← hnn]
  clear hR hI hc hm hn hnn
  go_enter Try.func9, Try.ntmps9
  go_wp2_with (first
    | (go_at_call 23; refine hS.mono ?_; clear hS; rintro e w2 ⟨v, r, rfl, hr, hB2⟩)
    | (go_at_call 22; refine (hE.out _ r _ hr hB2).mono ?_; rintro e w3 ⟨a3, cap3, c3, rfl, h3, hB3⟩))
  go_ret
  obtain ⟨a4, cap4, e4, q1, q2, _⟩ := ownP_nodes h3.out.1.1
  cases e4
  exact ⟨_, _, c3, r, rfl, ⟨⟨own_low15 h3.out.1.1 hB2.size, fun j hj => ⟨(h3.out.1.2 j hj).1, fun k hk => ⟨Nat.le_trans hB2.size ((h3.out.1.2 j hj).2 k hk).1, ((h3.out.1.2 j hj).2 k hk).2⟩⟩⟩, hr.out.2, h3.out.2, q1, q2⟩, hB2.trans (hB3.mono hB2.size)⟩
end Go.Proofs.Ytcdehohmgfocdaa
namespace Go.Proofs.Ytcdehohmgfocdaa
open Go.RowKit

/-- A row of patterns. -/
def Ps (w : World) (a : Option Addr) (n : Nat) (c : Nat → Pt) : Prop := ∀ i, i < n → ∃ b o, a = some ⟨b, o, none⟩ ∧ NodeP w b (o + i * 6) (c i) ∧ IsP w (c i)
theorem Ps.later {w w' : World} {a : Option Addr} {n : Nat} {c : Nat → Pt} (h : Ps w a n c) (hB : Below w.heap.size w w') : Ps w' a n c := fun i hi => by
  obtain ⟨b, o, e, h1, h2⟩ := h i hi
  exact ⟨b, o, e, h1.later hB, h2.later hB⟩
def leafO (k : Int) : Pt := .mk k ⟨#[]⟩ ⟨#[]⟩ 0 0 none 0 0 (fun _ => .nil)
set_option maxRecDepth 100000 in
set_option maxHeartbeats 1000000 in
theorem awake15_any (w : World) : Calls Try.prog 8 #[] w fun e w' => e = .returned (.bool true) ∧ Below w.heap.size w w' := by
  have hc : Calls Try.prog 19 #[.agg #[.int .i64 1, .string ⟨#[]⟩, .string ⟨#[]⟩, .int .i64 0, .int .i64 0, .slice none 0 0], .agg #[.int .i64 2, .string ⟨#[]⟩, .string ⟨#[]⟩, .int .i64 0, .int .i64 0, .slice none 0 0]] w fun e w' => e = .returned (.int .i64 (-1)) ∧ Below w.heap.size w w' := by
    have := formP_any (leafO 1) (leafO 2) w ⟨by omega, by omega, fun i hi => by omega⟩ ⟨by omega, by omega, fun i hi => by omega⟩
    rw [show formP (leafO 1) (leafO 2) = -1 by simp [formP, leafO, alP, orI, cmpI, Pt.k]] at this
    exact this
  go_enter Try.func8, Try.ntmps8
  go_wp2_with (go_at_call 19; refine hc.mono ?_; rintro e w2 ⟨rfl, hB2⟩)
  go_ret
  exact ⟨rfl, hB2⟩
end Go.Proofs.Ytcdehohmgfocdaa
namespace Go.Proofs.Ytcdehohmgfocdaa
open Go.RowKit

def szP : Pt → Int
  | .nil => 1
  | .mk _ _ _ _ _ _ n _ c => accZ (fun i => szP (c i)) n
theorem szP_eq (x : Pt) : szP x = accZ (fun i => szP (x.c i)) x.n := by cases x <;> rfl
set_option maxRecDepth 100000 in
set_option maxHeartbeats 4000000 in
theorem refSizeP_wide : ∀ (x : Pt) (w : World), IsP w x → Calls Try.prog 20 #[x.val] w fun e w' => e = .returned (.int .i64 (szP x)) ∧ Below w.heap.size w w' := by
  refine Pt.ind fun x ih w hX => ?_
  obtain ⟨r, hr⟩ : ∃ r, r = szP x := ⟨_, rfl⟩
  have HR : Hid (r = accZ (fun i => szP (x.c i)) x.n) := by show r = _; rw [hr, szP_eq]
  rw [← hr]
  have HI : Hid (∀ i, i < x.n → ∀ w, IsP w (x.c i) → Calls Try.prog 20 #[(x.c i).val] w fun e w' => e = .returned (.int .i64 (szP (x.c i))) ∧ Below w.heap.size w w') := ih
  have HX : Hid (IsP w x) := hX
  have hlen := hX.len
  obtain ⟨A, hA, hB0, hs, hN⟩ := boxP_one x w
  have HB : Hid (Below w.heap.size w A) := hB0
  have HN : Hid (NodeP A w.heap.size 0 x) := hN
  clear ih hX hr hB0 hN
  go_enter Try.func20, Try.ntmps20
  go_wp2_with fail
  go_loopw [3, 4] (fun u v wr => ∃ k : Nat, k ≤ x.n ∧ u = .int .i64 (accZ (fun i => szP (x.c i)) k) ∧ v = .int .i64 k ∧ Below A.heap.size A wr) (fun _ v _ => x.n - (intOf v).toNat)
  case atStart => exact ⟨0, Nat.zero_le _, rfl, rfl, Below.refl _ _⟩
  case round =>
    obtain ⟨k, hk, rfl, rfl, hB⟩ := hrel
    obtain ⟨-, -, -, -, -, c6⟩ := (nodeP_on HN.out (hB.mono (by omega))).at0
    have hw := HB.out.trans (hB.mono (by omega))
    by_cases hkn : k < x.n
    · obtain ⟨b, o, ea, hn, hx⟩ := (HX.out.later hw).part hkn
      rw [ea] at c6
      obtain ⟨d0, d1, d2, d3, d4, d5⟩ := hn
      have hc := HI.out k hkn wr hx
      have HK : Hid (k < x.n) := hkn
      have HQ : Hid (Below w.heap.size w wr) := hw
      clear hx hw
      go_wp2_with (go_at_call 20; refine hc.mono ?_; rintro e w2 ⟨rfl, hB2⟩)
      exact ⟨⟨k + 1, HK.out, rfl, by simp, hB.trans (hB2.mono hB.size)⟩, by have := HK.out; simp [intOf]; omega⟩
    · have hk' : k = x.n := by omega
      subst hk'
      go_wp2
      go_ret
      exact ⟨ret_int HR.out.symm, hw⟩
/-- What light has counted. -/
def litZ (c : Nat → Pt) : Nat → Int
  | 0 => 0
  | n + 1 => wrap64 (litZ c n + szP (c n))
/-- Are they small enough, as the machine counts? -/
def litB (c : Nat → Pt) (n : Nat) : Bool := decide (∀ k, k < n + 1 → litZ c k ≤ 600)
theorem litB_no {c : Nat → Pt} {n k : Nat} (hk : k ≤ n) (h : ¬ litZ c k ≤ 600) : litB c n = false := decide_eq_false fun h' => h (h' k (by omega))
theorem litB_end {c : Nat → Pt} {n : Nat} (h : ∀ k, k < n → litZ c k ≤ 600) : litB c n = decide (litZ c n ≤ 600) := by
  refine decide_eq_decide.2 ⟨fun h' => h' n (by omega), fun h' k hk => ?_⟩
  by_cases e : k = n
  · rw [e]; exact h'
  · exact h k (by omega)
set_option maxRecDepth 100000 in
set_option maxHeartbeats 4000000 in
theorem lightW_any (a : Option Addr) (n cap : Nat) (c : Nat → Pt) (w : World) (hn : n ≤ 9223372036854775807) (hP : Ps w a n c) :
    Calls Try.prog 6 #[.slice a n cap] w fun e w' => e = .returned (.bool (litB c n)) ∧ Below w.heap.size w w' := by
  obtain ⟨r, hr⟩ : ∃ r, r = litB c n := ⟨_, rfl⟩
  rw [← hr]
  have HR : Hid (r = litB c n) := hr
  have HP : Hid (Ps w a n c) := hP
  have HC : Hid (∀ i, i < n → ∀ d, Below w.heap.size w d → Calls Try.prog 20 #[(c i).val] d fun e w' => e = .returned (.int .i64 (szP (c i))) ∧ Below d.heap.size d w') := fun i hi d hd => by
    obtain ⟨_, _, _, _, h2⟩ := (hP.later hd) i hi
    exact refSizeP_wide (c i) d h2
  clear hP hr
  go_enter Try.func6, Try.ntmps6
  go_wp2
  go_loopw [3, 4] (fun u v wr => ∃ k : Nat, k ≤ n ∧ u = .int .i64 (litZ c k) ∧ v = .int .i64 k ∧ Hid (∀ j, j < k → litZ c j ≤ 600) ∧ Below w.heap.size w wr) (fun _ v _ => n - (intOf v).toNat)
  case atStart => exact ⟨0, Nat.zero_le _, rfl, rfl, fun j hj => absurd hj (Nat.not_lt_zero _), Below.refl _ _⟩
  case round =>
    obtain ⟨k, hk, rfl, rfl, HL, hB⟩ := hrel
    by_cases hkn : k < n
    · by_cases h6 : litZ c k ≤ 600
      · obtain ⟨b, o, rfl, hn1, _⟩ := (HP.out.later hB) k hkn
        obtain ⟨d0, d1, d2, d3, d4, d5⟩ := hn1
        have hc := HC.out k hkn wr hB
        have HK : Hid (k < n) := hkn
        have HL2 : Hid (∀ j, j < k + 1 → litZ c j ≤ 600) := fun j hj => by
          by_cases e : j = k
          · rw [e]; exact h6
          · exact HL.out j (by omega)
        have HE : Hid (litZ c (k + 1) = wrap64 (litZ c k + szP (c k))) := rfl
        generalize litZ c k = p at h6 HE ⊢
        generalize szP (c k) = q at hc HE
        clear HL
        go_wp2_with (go_at_call 20; refine hc.mono ?_; rintro e w2 ⟨rfl, hB2⟩)
        exact ⟨⟨k + 1, HK.out, by rw [HE.out], by simp, HL2, hB.trans (hB2.mono hB.size)⟩, by have := HK.out; simp [intOf]; omega⟩
      · have HR' : Hid (r = false) := by
          show r = false
          rw [HR.out]
          exact litB_no hk h6
        clear HR
        generalize litZ c k = p at h6 ⊢
        have h7 : decide (p ≤ 600) = false := decide_eq_false h6
        clear HL h6
        go_wp2
        go_ret
        exact ⟨ret_bool (by rw [HR'.out, ← h7]), hB⟩
    · obtain rfl : k = n := by omega
      have HR' : Hid (r = decide (litZ c k ≤ 600)) := by
        show r = _
        rw [HR.out]
        exact litB_end HL.out
      clear HR
      generalize litZ c k = p at HR' ⊢
      clear HL
      go_wp2
      go_ret
      exact ⟨ret_bool HR'.out.symm, hB⟩
end Go.Proofs.Ytcdehohmgfocdaa
namespace Go.Proofs.Ytcdehohmgfocdaa
open Go.RowKit

/-- A row by index as a list. -/
abbrev lstP (c : Nat → Pt) (n : Nat) : List Pt := (List.range n).map c
theorem lstP_len (c : Nat → Pt) (n : Nat) : (lstP c n).length = n := by simp
theorem lstP_get {c : Nat → Pt} {n i : Nat} (h : i < n) : (lstP c n)[i]? = some (c i) := by simp [h]
theorem lstP_mem {c : Nat → Pt} {n : Nat} {x : Pt} : x ∈ lstP c n ↔ ∃ i, i < n ∧ c i = x := by simp
theorem Ps.row {w : World} {a : Option Addr} {n : Nat} {c : Nat → Pt} (h : Ps w a n c) : 0 < (lstP c n).length → ∃ b o, a = some ⟨b, o, none⟩ ∧ RwP w b o (lstP c n) := fun h0 => by
  rw [lstP_len] at h0
  obtain ⟨b, o, rfl, _⟩ := h 0 h0
  refine ⟨b, o, rfl, fun i x hx => ?_⟩
  have hi : i < n := by have := (List.getElem?_eq_some_iff.1 hx).1; rwa [lstP_len] at this
  rw [lstP_get hi] at hx
  cases hx
  obtain ⟨b', o', e, h1, _⟩ := h i hi
  cases e
  exact h1
theorem GrownP.ps {B n : Nat} {w : World} {a : Option Addr} {cap : Nat} {c : Nat → Pt} (h : GrownP B w (.slice a n cap) n c) : Ps w a n c := fun i hi => by
  obtain ⟨a', cap', e, h1, h2, h3⟩ := ownP_nodes h.1
  cases e
  obtain ⟨g, e, _, _, _, hn⟩ := h3 (by omega)
  exact ⟨g, 0, e, by rw [Nat.zero_add]; exact hn i hi, (h.2 i hi).1⟩
theorem IsP.ps {w : World} {k : Int} {s t : ByteArray} {lo hi : Int} {a : Option Addr} {n cap : Nat} {c : Nat → Pt} (h : IsP w (.mk k s t lo hi a n cap c)) : Ps w a n c := h.2.2
end Go.Proofs.Ytcdehohmgfocdaa
namespace Go.Proofs.Ytcdehohmgfocdaa
open Go.RowKit

set_option maxHeartbeats 1000000 in
theorem refText_any (a b : ByteArray) (w : World) : Calls Try.prog 51 #[.string a, .string b] w fun e w' => e = .returned (.int .i64 (cmpS a b)) ∧ w' = w := by
  rcases cmpS_cases a b with ⟨h, h1, h2⟩ | ⟨h, h1⟩ | ⟨h, h1, h2⟩
  · rw [h]
    have h3 : (a.toList == b.toList) = false := by simpa using h2
    clear h2
    go_enter Try.func51, Try.ntmps51
    go_wp2
    go_ret
    exact ⟨rfl, rfl⟩
  · rw [h]
    have h3 : (a.toList == b.toList) = true := by simpa using h1
    clear h1
    go_enter Try.func51, Try.ntmps51
    go_wp2
    go_ret
    exact ⟨rfl, rfl⟩
  · rw [h]
    have h3 : (a.toList == b.toList) = false := by simpa using h2
    have h4 := less_not h1
    clear h2 h1
    go_enter Try.func51, Try.ntmps51
    go_wp2
    go_ret
    exact ⟨rfl, rfl⟩
set_option maxRecDepth 100000 in
set_option maxHeartbeats 8000000 in
theorem refForm_any : ∀ (x y : Pt) (w : World), IsP w x → IsP w y → Calls Try.prog 25 #[x.val, y.val] w fun e w' => e = .returned (.int .i64 (formP x y)) ∧ Below w.heap.size w w' := by
  refine Pt.ind fun x ih y w hX hY => ?_
  obtain ⟨r, hr⟩ : ∃ r, r = formP x y := ⟨_, rfl⟩
  rw [← hr]
  have HR : Hid (r = formP x y) := hr
  have HI : Hid (∀ i, i < x.n → ∀ w, IsP w (x.c i) → IsP w (y.c i) → Calls Try.prog 25 #[(x.c i).val, (y.c i).val] w fun e w' => e = .returned (.int .i64 (formP (x.c i) (y.c i))) ∧ Below w.heap.size w w') := fun i hi w h1 h2 => ih i hi (y.c i) w h1 h2
  have hlx := hX.len
  have hly := hY.len
  obtain ⟨W, hA, hB, hs, hn, hm⟩ := boxP_two x y w
  have HB : Hid (Below w.heap.size w W) := hB
  have HX : Hid (NodeP W w.heap.size 0 x) := hn
  have HY : Hid (NodeP W (w.heap.size + 1) 0 y) := hm
  have IX : Hid (∀ d, Below W.heap.size W d → IsP d x) := fun d h => (hX.later hB).later h
  have IY : Hid (∀ d, Below W.heap.size W d → IsP d y) := fun d h => (hY.later hB).later h
  clear ih hX hY hr hB hn hm
  go_enter Try.func25, Try.ntmps25
  go_wp2_with fail
  refine wp_region_noPanic ?_
  refine wp_region_held_drew (S := fun w' => Below W.heap.size W w') (by kernel_rfl) ((Below.refl _ _).drew) (fun hHeld => ?_)
  obtain ⟨d, hd⟩ : ∃ d, d = W.drew := ⟨_, rfl⟩
  rw [← hd] at hHeld ⊢
  clear hd
  refine wpAnyH_take (i := 0) (oi := ⟨some 9, .fieldAddr 27 (.tmp 2) 0, 0, _, _, _⟩) (v := ?v0) rfl (by kernel_rfl) (by kernel_rfl) (by kernel_rfl) (fun _ _ _ h => h) (Or.inl ⟨by rfl, ?hy0⟩) hHeld ?rest0
  case hy0 => intro w9 hSw; go_simp; (try with_reducible rfl)
  try simp only [Act.put, s_put, s_0, s_1]
  refine wpAnyH_take (i := 1) (oi := ⟨some 10, .load 3 (.tmp 9), 3, _, _, _⟩) (v := ?v1) rfl (by kernel_rfl) (by kernel_rfl) (by kernel_rfl) (fun _ _ _ h => h) (Or.inl ⟨by rfl, ?hy1⟩) hHeld ?rest1
  case hy1 => intro w9 hSw; have c0 := (HX.out.later hSw).at0.1; go_simp; (try with_reducible rfl)
  try simp only [Act.put, s_put, s_0, s_1]
  refine wpAnyH_take (i := 2) (oi := ⟨some 11, .fieldAddr 27 (.tmp 3) 0, 0, _, _, _⟩) (v := ?v2) rfl (by kernel_rfl) (by kernel_rfl) (by kernel_rfl) (fun _ _ _ h => h) (Or.inl ⟨by rfl, ?hy2⟩) hHeld ?rest2
  case hy2 => intro w9 hSw; go_simp; (try with_reducible rfl)
  try simp only [Act.put, s_put, s_0, s_1]
  refine wpAnyH_take (i := 3) (oi := ⟨some 12, .load 3 (.tmp 11), 3, _, _, _⟩) (v := ?v3) rfl (by kernel_rfl) (by kernel_rfl) (by kernel_rfl) (fun _ _ _ h => h) (Or.inl ⟨by rfl, ?hy3⟩) hHeld ?rest3
  case hy3 => intro w9 hSw; have c0 := (HY.out.later hSw).at0.1; go_simp; (try with_reducible rfl)
  try simp only [Act.put, s_put, s_0, s_1]
  refine wpAnyH_take (i := 5) (oi := ⟨some 14, .fieldAddr 27 (.tmp 2) 2, 0, _, _, _⟩) (v := ?v5) rfl (by kernel_rfl) (by kernel_rfl) (by kernel_rfl) (fun _ _ _ h => h) (Or.inl ⟨by rfl, ?hy5⟩) hHeld ?rest5
  case hy5 => intro w9 hSw; go_simp; (try with_reducible rfl)
  try simp only [Act.put, s_put, s_0, s_1]
  refine wpAnyH_take (i := 6) (oi := ⟨some 15, .load 9 (.tmp 14), 9, _, _, _⟩) (v := ?v6) rfl (by kernel_rfl) (by kernel_rfl) (by kernel_rfl) (fun _ _ _ h => h) (Or.inl ⟨by rfl, ?hy6⟩) hHeld ?rest6
  case hy6 => intro w9 hSw; have c0 := (HX.out.later hSw).at0.2.2.1; go_simp; (try with_reducible rfl)
  try simp only [Act.put, s_put, s_0, s_1]
  refine wpAnyH_take (i := 7) (oi := ⟨some 16, .fieldAddr 27 (.tmp 3) 2, 0, _, _, _⟩) (v := ?v7) rfl (by kernel_rfl) (by kernel_rfl) (by kernel_rfl) (fun _ _ _ h => h) (Or.inl ⟨by rfl, ?hy7⟩) hHeld ?rest7
  case hy7 => intro w9 hSw; go_simp; (try with_reducible rfl)
  try simp only [Act.put, s_put, s_0, s_1]
  refine wpAnyH_take (i := 8) (oi := ⟨some 17, .load 9 (.tmp 16), 9, _, _, _⟩) (v := ?v8) rfl (by kernel_rfl) (by kernel_rfl) (by kernel_rfl) (fun _ _ _ h => h) (Or.inl ⟨by rfl, ?hy8⟩) hHeld ?rest8
  case hy8 => intro w9 hSw; have c0 := (HY.out.later hSw).at0.2.2.1; go_simp; (try with_reducible rfl)
  try simp only [Act.put, s_put, s_0, s_1]
  refine wpAnyH_take (i := 10) (oi := ⟨some 19, .fieldAddr 27 (.tmp 2) 3, 0, _, _, _⟩) (v := ?v10) rfl (by kernel_rfl) (by kernel_rfl) (by kernel_rfl) (fun _ _ _ h => h) (Or.inl ⟨by rfl, ?hy10⟩) hHeld ?rest10
  case hy10 => intro w9 hSw; go_simp; (try with_reducible rfl)
  try simp only [Act.put, s_put, s_0, s_1]
  refine wpAnyH_take (i := 11) (oi := ⟨some 20, .load 3 (.tmp 19), 3, _, _, _⟩) (v := ?v11) rfl (by kernel_rfl) (by kernel_rfl) (by kernel_rfl) (fun _ _ _ h => h) (Or.inl ⟨by rfl, ?hy11⟩) hHeld ?rest11
  case hy11 => intro w9 hSw; have c0 := (HX.out.later hSw).at0.2.2.2.1; go_simp; (try with_reducible rfl)
  try simp only [Act.put, s_put, s_0, s_1]
  refine wpAnyH_take (i := 12) (oi := ⟨some 21, .fieldAddr 27 (.tmp 3) 3, 0, _, _, _⟩) (v := ?v12) rfl (by kernel_rfl) (by kernel_rfl) (by kernel_rfl) (fun _ _ _ h => h) (Or.inl ⟨by rfl, ?hy12⟩) hHeld ?rest12
  case hy12 => intro w9 hSw; go_simp; (try with_reducible rfl)
  try simp only [Act.put, s_put, s_0, s_1]
  refine wpAnyH_take (i := 13) (oi := ⟨some 22, .load 3 (.tmp 21), 3, _, _, _⟩) (v := ?v13) rfl (by kernel_rfl) (by kernel_rfl) (by kernel_rfl) (fun _ _ _ h => h) (Or.inl ⟨by rfl, ?hy13⟩) hHeld ?rest13
  case hy13 => intro w9 hSw; have c0 := (HY.out.later hSw).at0.2.2.2.1; go_simp; (try with_reducible rfl)
  try simp only [Act.put, s_put, s_0, s_1]
  refine wpAnyH_take (i := 15) (oi := ⟨some 24, .fieldAddr 27 (.tmp 2) 4, 0, _, _, _⟩) (v := ?v15) rfl (by kernel_rfl) (by kernel_rfl) (by kernel_rfl) (fun _ _ _ h => h) (Or.inl ⟨by rfl, ?hy15⟩) hHeld ?rest15
  case hy15 => intro w9 hSw; go_simp; (try with_reducible rfl)
  try simp only [Act.put, s_put, s_0, s_1]
  refine wpAnyH_take (i := 16) (oi := ⟨some 25, .load 3 (.tmp 24), 3, _, _, _⟩) (v := ?v16) rfl (by kernel_rfl) (by kernel_rfl) (by kernel_rfl) (fun _ _ _ h => h) (Or.inl ⟨by rfl, ?hy16⟩) hHeld ?rest16
  case hy16 => intro w9 hSw; have c0 := (HX.out.later hSw).at0.2.2.2.2.1; go_simp; (try with_reducible rfl)
  try simp only [Act.put, s_put, s_0, s_1]
  refine wpAnyH_take (i := 17) (oi := ⟨some 26, .fieldAddr 27 (.tmp 3) 4, 0, _, _, _⟩) (v := ?v17) rfl (by kernel_rfl) (by kernel_rfl) (by kernel_rfl) (fun _ _ _ h => h) (Or.inl ⟨by rfl, ?hy17⟩) hHeld ?rest17
  case hy17 => intro w9 hSw; go_simp; (try with_reducible rfl)
  try simp only [Act.put, s_put, s_0, s_1]
  refine wpAnyH_take (i := 18) (oi := ⟨some 27, .load 3 (.tmp 26), 3, _, _, _⟩) (v := ?v18) rfl (by kernel_rfl) (by kernel_rfl) (by kernel_rfl) (fun _ _ _ h => h) (Or.inl ⟨by rfl, ?hy18⟩) hHeld ?rest18
  case hy18 => intro w9 hSw; have c0 := (HY.out.later hSw).at0.2.2.2.2.1; go_simp; (try with_reducible rfl)
  try simp only [Act.put, s_put, s_0, s_1]
  refine wpAnyH_take (i := 20) (oi := ⟨some 29, .fieldAddr 27 (.tmp 2) 5, 0, _, _, _⟩) (v := ?v20) rfl (by kernel_rfl) (by kernel_rfl) (by kernel_rfl) (fun _ _ _ h => h) (Or.inl ⟨by rfl, ?hy20⟩) hHeld ?rest20
  case hy20 => intro w9 hSw; go_simp; (try with_reducible rfl)
  try simp only [Act.put, s_put, s_0, s_1]
  refine wpAnyH_take (i := 21) (oi := ⟨some 30, .load 22 (.tmp 29), 22, _, _, _⟩) (v := ?v21) rfl (by kernel_rfl) (by kernel_rfl) (by kernel_rfl) (fun _ _ _ h => h) (Or.inl ⟨by rfl, ?hy21⟩) hHeld ?rest21
  case hy21 => intro w9 hSw; have c0 := (HX.out.later hSw).at0.2.2.2.2.2; go_simp; (try with_reducible rfl)
  try simp only [Act.put, s_put, s_0, s_1]
  refine wpAnyH_take (i := 22) (oi := ⟨some 31, .call { callee := .builtin Builtin.len, args := #[.tmp 30], argTypes := #[22] }, 3, _, _, _⟩) (v := ?v22) rfl (by kernel_rfl) (by kernel_rfl) (by kernel_rfl) (fun _ _ _ h => h) (Or.inl ⟨by rfl, ?hy22⟩) hHeld ?rest22
  case hy22 => intro w9 hSw; go_simp; (try with_reducible rfl)
  try simp only [Act.put, s_put, s_0, s_1]
  refine wpAnyH_take (i := 23) (oi := ⟨some 32, .fieldAddr 27 (.tmp 3) 5, 0, _, _, _⟩) (v := ?v23) rfl (by kernel_rfl) (by kernel_rfl) (by kernel_rfl) (fun _ _ _ h => h) (Or.inl ⟨by rfl, ?hy23⟩) hHeld ?rest23
  case hy23 => intro w9 hSw; go_simp; (try with_reducible rfl)
  try simp only [Act.put, s_put, s_0, s_1]
  refine wpAnyH_take (i := 24) (oi := ⟨some 33, .load 22 (.tmp 32), 22, _, _, _⟩) (v := ?v24) rfl (by kernel_rfl) (by kernel_rfl) (by kernel_rfl) (fun _ _ _ h => h) (Or.inl ⟨by rfl, ?hy24⟩) hHeld ?rest24
  case hy24 => intro w9 hSw; have c0 := (HY.out.later hSw).at0.2.2.2.2.2; go_simp; (try with_reducible rfl)
  try simp only [Act.put, s_put, s_0, s_1]
  refine wpAnyH_take (i := 25) (oi := ⟨some 34, .call { callee := .builtin Builtin.len, args := #[.tmp 33], argTypes := #[22] }, 3, _, _, _⟩) (v := ?v25) rfl (by kernel_rfl) (by kernel_rfl) (by kernel_rfl) (fun _ _ _ h => h) (Or.inl ⟨by rfl, ?hy25⟩) hHeld ?rest25
  case hy25 => intro w9 hSw; go_simp; (try with_reducible rfl)
  try simp only [Act.put, s_put, s_0, s_1]
  refine wpAnyH_ready (rs := [4]) (by kernel_rfl) (by simp) ?_
  refine AllReadyH.cons (o := ⟨some 13, .call { callee := .value (.func 50), args := #[.tmp 10, .tmp 12], argTypes := #[3, 3] }, 3, _, _, _⟩) rfl (fun K hK => ?_) AllReadyH.nil
  go_simp
  refine (refNumber_any _ _ _).mono ?_
  rintro e x4 ⟨rfl, hx4⟩
  replace hx4 := hx4.symm
  subst hx4
  go_wp2_with fail
  refine hK.out _ _ hHeld (fun _ => ?_)
  clear hK K
  try simp only [Act.put, s_put, s_0, s_1]
  refine wpAnyH_ready (rs := [9]) (by kernel_rfl) (by simp) ?_
  refine AllReadyH.cons (o := ⟨some 18, .call { callee := .value (.func 51), args := #[.tmp 15, .tmp 17], argTypes := #[9, 9] }, 3, _, _, _⟩) rfl (fun K hK => ?_) AllReadyH.nil
  go_simp
  refine (refText_any _ _ _).mono ?_
  rintro e x9 ⟨rfl, hx9⟩
  replace hx9 := hx9.symm
  subst hx9
  go_wp2_with fail
  refine hK.out _ _ hHeld (fun _ => ?_)
  clear hK K
  try simp only [Act.put, s_put, s_0, s_1]
  refine wpAnyH_ready (rs := [14]) (by kernel_rfl) (by simp) ?_
  refine AllReadyH.cons (o := ⟨some 23, .call { callee := .value (.func 50), args := #[.tmp 20, .tmp 22], argTypes := #[3, 3] }, 3, _, _, _⟩) rfl (fun K hK => ?_) AllReadyH.nil
  go_simp
  refine (refNumber_any _ _ _).mono ?_
  rintro e x14 ⟨rfl, hx14⟩
  replace hx14 := hx14.symm
  subst hx14
  go_wp2_with fail
  refine hK.out _ _ hHeld (fun _ => ?_)
  clear hK K
  try simp only [Act.put, s_put, s_0, s_1]
  refine wpAnyH_ready (rs := [19]) (by kernel_rfl) (by simp) ?_
  refine AllReadyH.cons (o := ⟨some 28, .call { callee := .value (.func 50), args := #[.tmp 25, .tmp 27], argTypes := #[3, 3] }, 3, _, _, _⟩) rfl (fun K hK => ?_) AllReadyH.nil
  go_simp
  refine (refNumber_any _ _ _).mono ?_
  rintro e x19 ⟨rfl, hx19⟩
  replace hx19 := hx19.symm
  subst hx19
  go_wp2_with fail
  refine hK.out _ _ hHeld (fun _ => ?_)
  clear hK K
  try simp only [Act.put, s_put, s_0, s_1]
  refine wpAnyH_ready (rs := [26]) (by kernel_rfl) (by simp) ?_
  refine AllReadyH.cons (o := ⟨some 35, .call { callee := .value (.func 50), args := #[.tmp 31, .tmp 34], argTypes := #[3, 3] }, 3, _, _, _⟩) rfl (fun K hK => ?_) AllReadyH.nil
  go_simp
  refine (refNumber_any _ _ _).mono ?_
  rintro e x26 ⟨rfl, hx26⟩
  replace hx26 := hx26.symm
  subst hx26
  go_wp2_with fail
  refine hK.out _ _ hHeld (fun _ => ?_)
  clear hK K
  try simp only [Act.put, s_put, s_0, s_1]
  refine wpAnyH_ready (rs := [27]) (by kernel_rfl) (by simp) ?_
  refine AllReadyH.cons (o := ⟨some 36, .buildSlice 50 5 #[(0, .tmp 13), (1, .tmp 18), (2, .tmp 23), (3, .tmp 28), (4, .tmp 35)], 50, _, _, _⟩) rfl (fun K hK => ?_) AllReadyH.nil
  go_simp
  have hT27 := hHeld.alloc hHeld.size (.cells #[.int .i64 (cmpI x.k y.k), .int .i64 (cmpS x.t y.t), .int .i64 (cmpI x.lo y.lo), .int .i64 (cmpI x.hi y.hi), .int .i64 (cmpI x.n y.n)] 3)
  refine hK.out _ _ hT27 (fun _ => ?_)
  clear hK K hHeld
  have hHeld := hT27
  clear hT27
  have HC : Hid (∀ k, k < 5 → (d.alloc (.cells #[.int .i64 (cmpI x.k y.k), .int .i64 (cmpS x.t y.t), .int .i64 (cmpI x.lo y.lo), .int .i64 (cmpI x.hi y.hi), .int .i64 (cmpI x.n y.n)] 3)).cell? ⟨d.heap.size, k, none⟩ = some (.int .i64 (five (cmpI x.k y.k) (cmpS x.t y.t) (cmpI x.lo y.lo) (cmpI x.hi y.hi) (cmpI x.n y.n) k))) := fun k hk => by match k, hk with | 0, _ => simp [five] | 1, _ => simp [five] | 2, _ => simp [five] | 3, _ => simp [five] | 4, _ => simp [five]
  generalize (d.alloc (.cells #[.int .i64 (cmpI x.k y.k), .int .i64 (cmpS x.t y.t), .int .i64 (cmpI x.lo y.lo), .int .i64 (cmpI x.hi y.hi), .int .i64 (cmpI x.n y.n)] 3)) = D at hHeld HC ⊢
  refine wpAnyH_take (i := 28) (oi := ⟨some 5, .assign (.tmp 36), 50, _, _, _⟩) (v := ?v28) rfl (by kernel_rfl) (by kernel_rfl) (by kernel_rfl) (fun _ _ _ h => h) (Or.inl ⟨by rfl, ?hy28⟩) hHeld ?rest28
  case hy28 => intro w9 hSw; go_simp; (try with_reducible rfl)
  try simp only [Act.put, s_put, s_0, s_1]
  refine wpAnyH_done (by kernel_rfl) ?_ _
  refine NoPanic.normal ?_
  have hD := hHeld
  have HD : Hid (Below W.heap.size W D) := hD
  obtain ⟨V, hV⟩ : ∃ V, V = five (cmpI x.k y.k) (cmpS x.t y.t) (cmpI x.lo y.lo) (cmpI x.hi y.hi) (cmpI x.n y.n) := ⟨_, rfl⟩
  rw [← hV] at HC
  have HV : Hid (alP x y = lexN V 5) := by show alP x y = lexN V 5; rw [hV, lex_five]; rfl
  clear hV hD hHeld
  generalize d.heap.size = b9 at HC ⊢
  go_wp2
  go_loopw [6] (fun u wr => ∃ k : Nat, k ≤ 5 ∧ u = .int .i64 k ∧ Hid (lexN V k = 0) ∧ wr = D) (fun u _ => 5 - (intOf u).toNat)
  case atStart => exact ⟨0, Nat.zero_le _, rfl, rfl, rfl⟩
  case round =>
    obtain ⟨k, hk, rfl, H0, hwr⟩ := hrel
    obtain rfl : D = wr := hwr.symm
    by_cases hkn : k < 5
    · have c := HC.out k hkn
      have HK : Hid (k < 5) := hkn
      by_cases hv : V k = 0
      · have HW : Hid (V k = 0) := hv
        have hv' : (V k == 0) = true := by simpa using hv
        clear hv
        go_wp2
        go_roundw
        case rel => exact ⟨k + 1, HK.out, by go_num, by show (if lexN V k = 0 then V k else lexN V k) = 0; rw [if_pos H0.out]; exact HW.out, by first | trivial | rfl⟩
        case measure => have := HK.out; simp [intOf]; omega
      · have HW : Hid (¬ V k = 0) := hv
        have hv' : (V k == 0) = false := by simpa using hv
        clear hv
        go_wp2
        try rw [Exit.noGoto_ret]
        go_ret
        refine ⟨ret_int ?_, HB.out.trans (HD.out.mono HB.out.size)⟩
        have e : alP x y = V k := by rw [HV.out, lexN_not H0.out HW.out HK.out]
        rw [HR.out, formP_eq, orI_not (by rw [e]; exact HW.out), e]
    · obtain rfl : k = 5 := by omega
      have ez : alP x y = 0 := by rw [HV.out, H0.out]
      have hl := (alP_zero.1 ez).2.2.2.2
      have HR2 : Hid (r = lexN (fun i => formP (x.c i) (y.c i)) x.n) := by show r = _; rw [HR.out, formP_eq, ez]; rfl
      have hl' : Hid (x.n = y.n) := hl
      clear ez H0 hl
      go_wp2
      go_loopw [7] (fun u wz => ∃ k : Nat, k ≤ x.n ∧ u = .int .i64 k ∧ Hid (lexN (fun i => formP (x.c i) (y.c i)) k = 0) ∧ Below D.heap.size D wz) (fun u _ => x.n - (intOf u).toNat)
      case atStart => exact ⟨0, Nat.zero_le _, rfl, rfl, Below.refl _ _⟩
      case round =>
        obtain ⟨j, hj, rfl, G0, hBz⟩ := hrel
        have hWz := HD.out.trans (hBz.mono HD.out.size)
        obtain ⟨-, -, -, -, -, c6⟩ := (HX.out.later hWz).at0
        obtain ⟨-, -, -, -, -, e6⟩ := (HY.out.later hWz).at0
        by_cases hjn : j < x.n
        · have hjm : j < y.n := by have := hl'.out; omega
          obtain ⟨b, o, ea, hn, hx⟩ := (IX.out _ hWz).part hjn
          obtain ⟨b', o', ea', hn', hx'⟩ := (IY.out _ hWz).part hjm
          rw [ea] at c6
          rw [ea'] at e6
          have hc : Hid (∀ d, Below wr.heap.size wr d → Calls Try.prog 25 #[(x.c j).val, (y.c j).val] d fun e w' => e = .returned (.int .i64 (formP (x.c j) (y.c j))) ∧ Below d.heap.size d w') := fun d h => HI.out j hjn d (hx.later h) (hx'.later h)
          have N1 : Hid (NodeP wr b (o + j * 6) (x.c j)) := hn
          have N2 : Hid (NodeP wr b' (o' + j * 6) (y.c j)) := hn'
          have C6 : Hid (wr.cell? ⟨w.heap.size, 5, none⟩ = some (.slice (some ⟨b, o, none⟩) x.n x.cap)) := c6
          have E6 : Hid (wr.cell? ⟨w.heap.size + 1, 5, none⟩ = some (.slice (some ⟨b', o', none⟩) y.n y.cap)) := e6
          have HJ : Hid (j < x.n) := hjn
          obtain ⟨q, hq⟩ : ∃ q, q = formP (x.c j) (y.c j) := ⟨_, rfl⟩
          rw [← hq] at hc
          have HQ : Hid (q = formP (x.c j) (y.c j)) := hq
          clear hx hx' hn hn' hq hWz ea ea'
          go_wp2_with fail
          refine wp_region_noPanic ?_
          refine wp_region_held_drew (S := fun w' => Below wr.heap.size wr w') (by kernel_rfl) ((Below.refl _ _).drew) (fun hHeld => ?_)
          have hT : Below wr.heap.size wr wr.drew := hHeld
          obtain ⟨d, hd⟩ : ∃ d, d = wr.drew := ⟨_, rfl⟩
          rw [← hd] at hHeld hT ⊢
          clear hd
          refine wpAnyH_take (i := 0) (oi := ⟨some 66, .fieldAddr 27 (.tmp 2) 5, 0, _, _, _⟩) (v := ?v0z) rfl (by kernel_rfl) (by kernel_rfl) (by kernel_rfl) (fun _ _ _ h => h) (Or.inl ⟨by rfl, ?hy0z⟩) hHeld ?rest0z
          case hy0z => intro w9 hSw; go_simp; (try with_reducible rfl)
          try simp only [Act.put, s_put, s_0, s_1]
          refine wpAnyH_take (i := 1) (oi := ⟨some 67, .load 22 (.tmp 66), 22, _, _, _⟩) (v := ?v1z) rfl (by kernel_rfl) (by kernel_rfl) (by kernel_rfl) (fun _ _ _ h => h) (Or.inl ⟨by rfl, ?hy1z⟩) hHeld ?rest1z
          case hy1z => intro w9 hSw; have cc := cell_later C6.out hSw; go_simp; (try with_reducible rfl)
          try simp only [Act.put, s_put, s_0, s_1]
          refine wpAnyH_take (i := 2) (oi := ⟨some 68, .move (.tmp 7), 3, _, _, _⟩) (v := ?v2z) rfl (by kernel_rfl) (by kernel_rfl) (by kernel_rfl) (fun _ _ _ h => h) (Or.inl ⟨by rfl, ?hy2z⟩) hHeld ?rest2z
          case hy2z => intro w9 hSw; go_simp; (try with_reducible rfl)
          try simp only [Act.put, s_put, s_0, s_1]
          refine wpAnyH_take (i := 3) (oi := ⟨some 69, .indexAddr 22 (.tmp 67) (.tmp 68), 0, _, _, _⟩) (v := ?v3z) rfl (by kernel_rfl) (by kernel_rfl) (by kernel_rfl) (fun _ _ _ h => h) (Or.inl ⟨by rfl, ?hy3z⟩) hHeld ?rest3z
          case hy3z => intro w9 hSw; go_simp; (try with_reducible rfl)
          try simp only [Act.put, s_put, s_0, s_1]
          refine wpAnyH_take (i := 4) (oi := ⟨some 70, .load 27 (.tmp 69), 27, _, _, _⟩) (v := ?v4z) rfl (by kernel_rfl) (by kernel_rfl) (by kernel_rfl) (fun _ _ _ h => h) (Or.inl ⟨by rfl, ?hy4z⟩) hHeld ?rest4z
          case hy4z => intro w9 hSw; obtain ⟨d0, d1, d2, d3, d4, d5⟩ := N1.out.later hSw; go_simp; (try with_reducible rfl)
          try simp only [Act.put, s_put, s_0, s_1]
          refine wpAnyH_take (i := 5) (oi := ⟨some 71, .fieldAddr 27 (.tmp 3) 5, 0, _, _, _⟩) (v := ?v5z) rfl (by kernel_rfl) (by kernel_rfl) (by kernel_rfl) (fun _ _ _ h => h) (Or.inl ⟨by rfl, ?hy5z⟩) hHeld ?rest5z
          case hy5z => intro w9 hSw; go_simp; (try with_reducible rfl)
          try simp only [Act.put, s_put, s_0, s_1]
          refine wpAnyH_take (i := 6) (oi := ⟨some 72, .load 22 (.tmp 71), 22, _, _, _⟩) (v := ?v6z) rfl (by kernel_rfl) (by kernel_rfl) (by kernel_rfl) (fun _ _ _ h => h) (Or.inl ⟨by rfl, ?hy6z⟩) hHeld ?rest6z
          case hy6z => intro w9 hSw; have cc := cell_later E6.out hSw; go_simp; (try with_reducible rfl)
          try simp only [Act.put, s_put, s_0, s_1]
          refine wpAnyH_take (i := 7) (oi := ⟨some 73, .move (.tmp 7), 3, _, _, _⟩) (v := ?v7z) rfl (by kernel_rfl) (by kernel_rfl) (by kernel_rfl) (fun _ _ _ h => h) (Or.inl ⟨by rfl, ?hy7z⟩) hHeld ?rest7z
          case hy7z => intro w9 hSw; go_simp; (try with_reducible rfl)
          try simp only [Act.put, s_put, s_0, s_1]
          refine wpAnyH_take (i := 8) (oi := ⟨some 74, .indexAddr 22 (.tmp 72) (.tmp 73), 0, _, _, _⟩) (v := ?v8z) rfl (by kernel_rfl) (by kernel_rfl) (by kernel_rfl) (fun _ _ _ h => h) (Or.inl ⟨by rfl, ?hy8z⟩) hHeld ?rest8z
          case hy8z => intro w9 hSw; go_simp; (try with_reducible rfl)
          try simp only [Act.put, s_put, s_0, s_1]
          refine wpAnyH_take (i := 9) (oi := ⟨some 75, .load 27 (.tmp 74), 27, _, _, _⟩) (v := ?v9z) rfl (by kernel_rfl) (by kernel_rfl) (by kernel_rfl) (fun _ _ _ h => h) (Or.inl ⟨by rfl, ?hy9z⟩) hHeld ?rest9z
          case hy9z => intro w9 hSw; obtain ⟨d0, d1, d2, d3, d4, d5⟩ := N2.out.later hSw; go_simp; (try with_reducible rfl)
          try simp only [Act.put, s_put, s_0, s_1]
          refine wpAnyH_ready (rs := [10]) (by kernel_rfl) (by simp) ?_
          refine AllReadyH.cons (o := ⟨some 76, .call { callee := .value (.func 25), args := #[.tmp 70, .tmp 75], argTypes := #[27, 27] }, 3, _, _, _⟩) rfl (fun K hK => ?_) AllReadyH.nil
          go_simp
          refine (hc.out _ hHeld).mono ?_
          rintro e x10 ⟨rfl, hN10⟩
          go_wp2_with fail
          have hT10 : Below wr.heap.size wr x10 := hT.trans (hN10.mono hT.size)
          refine hK.out _ _ (hHeld.trans (hN10.mono hHeld.size)) (fun _ => held_up (S' := fun w' => Below x10.heap.size x10 w') (fun w' h' => (hHeld.trans (hN10.mono hHeld.size)).trans (h'.mono (Nat.le_trans hHeld.size hN10.size))) _ _ _ _ ?_)
          clear hK K hHeld hT
          have hT : Below wr.heap.size wr x10 := hT10
          have hHeld : Below x10.heap.size x10 x10 := Below.refl _ _
          clear hT10 hN10
          try simp only [Act.put, s_put, s_0, s_1]
          refine wpAnyH_take (i := 11) (oi := ⟨some 8, .assign (.tmp 76), 3, _, _, _⟩) (v := ?v11z) rfl (by kernel_rfl) (by kernel_rfl) (by kernel_rfl) (fun _ _ _ h => h) (Or.inl ⟨by rfl, ?hy11z⟩) hHeld ?rest11z
          case hy11z => intro w9 hSw; go_simp; (try with_reducible rfl)
          try simp only [Act.put, s_put, s_0, s_1]
          refine wpAnyH_done (by kernel_rfl) ?_ _
          refine NoPanic.normal ?_
          have hB3 := hBz.trans (hT.mono hBz.size)
          by_cases hv : q = 0
          · have HW : Hid (q = 0) := hv
            have hv' : (q == 0) = true := by simpa using hv
            clear hv
            go_wp2
            go_roundw
            case rel => exact ⟨j + 1, HJ.out, by go_num, lexN_on G0.out (by rw [← HQ.out]; exact HW.out), hB3⟩
            case measure => have := HJ.out; simp [intOf]; omega
          · have HW : Hid (¬ q = 0) := hv
            have hv' : (q == 0) = false := by simpa using hv
            clear hv
            go_wp2
            try rw [Exit.noGoto_ret]
            go_ret
            refine ⟨ret_int ?_, HB.out.trans ((HD.out.trans (hB3.mono HD.out.size)).mono HB.out.size)⟩
            rw [HR2.out, lexN_not (f := fun i => formP (x.c i) (y.c i)) G0.out (by rw [← HQ.out]; exact HW.out) HJ.out]
            exact HQ.out
        · obtain rfl : j = x.n := by omega
          go_wp2
          go_ret
          exact ⟨ret_int (by rw [HR2.out, G0.out]), HB.out.trans ((HD.out.trans (hBz.mono HD.out.size)).mono HB.out.size)⟩
end Go.Proofs.Ytcdehohmgfocdaa
namespace Go.Proofs.Ytcdehohmgfocdaa
open Go.RowKit

/-- What is made of a row by one more at place k. -/
def insL {α : Type} (O : List α) (k : Nat) (x : α) : List α := O.take k ++ x :: O.drop k
theorem insL_len {α : Type} {O : List α} {k : Nat} {x : α} (h : k ≤ O.length) : (insL O k x).length = O.length + 1 := by simp [insL]; omega
/-- Some more behind a row that the call owns, also out of nil. -/
theorem pushAP {w : World} {base n : Nat} {v : Value} {xs : List Value} (h : w.ownsRow base 27 6 v n xs) (hb : base ≤ w.heap.size) (a : Option Addr) (m k : Nat) (M : List Pt) (hM : 0 < m → ∃ b o, a = some ⟨b, o, none⟩ ∧ RwP w b o M) (hm : M.length = m) (hnone : a = none → k = 0) (hn : n + m ≤ 1759218604390) :
    ∃ v' w', (Builtin.append_ #[22, 22] 22 #[v, .slice a m k]).run Try.prog w = .ok v' w' ∧ w'.ownsRow base 27 6 v' (n + m) (xs ++ rowLP M) ∧ Below base w w' := by
  cases a with
  | none =>
    obtain rfl : m = 0 := by
      by_cases h0 : 0 < m
      · obtain ⟨_, _, e, _⟩ := hM h0
        cases e
      · omega
    obtain rfl := hnone rfl
    have : M = [] := List.length_eq_zero_iff.1 hm
    subst this
    obtain ⟨i0, hi, -⟩ := info_parts infoP
    refine ⟨v, w, run_append_owned_none (P := Try.prog) w base 22 22 27 i0 6 Try.underlying22 hi v n xs h, ?_, Below.refl _ _⟩
    rw [Nat.add_zero]
    simpa [rowLP] using h
  | some p =>
    obtain ⟨v', w', h1, h2, h3⟩ := push_p h hb p m k (fun i => M.getD i .nil) (fun i hi => by
      obtain ⟨b, o, e, hr⟩ := hM (by omega)
      cases e
      exact ⟨b, o, rfl, hr i _ (by simp [show i < M.length by omega])⟩) hn
    refine ⟨v', w', h1, ?_, (Below.refl base w).grown h3 hb fun k e => (h.lt k e).1⟩
    rw [← hm, rowP_getD, hm] at h2
    exact h2
theorem made_noneP (w : World) : (w.alloc (.cells #[] 27)).ownsRow w.heap.size 27 6 (.slice (some ⟨w.heap.size, 0, none⟩) 0 0) 0 (rowLP []) :=
  ⟨rfl, .inr ⟨w.heap.size, 0, #[], rfl, Nat.le_refl _, alloc_new w _, Nat.le_refl _, Nat.zero_le _, rfl, rfl⟩⟩
/-- One more at place k: three appends, onto new memory. -/
theorem insP {w : World} {i g cap k : Nat} {O : List Pt} (hO : O.length = i) (hr : RwP w g 0 O) (hk : k ≤ i) (hn : i ≤ 1759218604389) (hic : i ≤ cap) (x : Pt) (ao : Option Addr) (hao : ao = some ⟨g, 0, none⟩ ∨ (ao = none ∧ i = 0 ∧ cap = 0)) :
    ∃ v8 w8 v9 w9 v10 w10, (Builtin.append_ #[22, 22] 22 #[.slice (some ⟨w.heap.size, 0, none⟩) 0 0, .slice ao k cap]).run Try.prog (w.alloc (.cells #[] 27)) = .ok v8 w8 ∧
      (Builtin.append_ #[22, 22] 22 #[v8, .slice (some ⟨w8.heap.size, 0, none⟩) 1 1]).run Try.prog (w8.alloc (.cells x.cells 27)) = .ok v9 w9 ∧
      (Builtin.append_ #[22, 22] 22 #[v9, .slice (if cap = k then ao else ao.map fun _ => ⟨g, k * 6, none⟩) (i - k) (cap - k)]).run Try.prog w9 = .ok v10 w10 ∧
      w10.ownsRow w.heap.size 27 6 v10 (i + 1) (rowLP (insL O k x)) ∧ Below w.heap.size w w8 ∧ Below w.heap.size w w10 := by
  have hB0 : Below w.heap.size w (w.alloc (.cells #[] 27)) := (Below.refl _ _).alloc (Nat.le_refl _) _
  have row : 0 < i → ao = some ⟨g, 0, none⟩ := fun hj => by
    rcases hao with h | ⟨_, h, _⟩
    · exact h
    · omega
  obtain ⟨v8, w8, run8, own8, b8⟩ := pushAP (made_noneP w) (by simp) ao k cap (O.take k) (fun h0 => ⟨g, 0, row (by omega), ((hr.later hB0).take k)⟩) (by rw [List.length_take]; omega) (fun e => by
    rcases hao with h | ⟨_, _, h⟩
    · rw [h] at e; cases e
    · exact h) (by omega)
  have hB8 := hB0.trans b8
  obtain ⟨v9, w9, run9, own9, b9⟩ := push1P own8 hB8.size (by omega) x
  have hB9 := hB8.trans b9
  obtain ⟨v10, w10, run10, own10, b10⟩ := pushAP own9 hB9.size (if cap = k then ao else ao.map fun _ => ⟨g, k * 6, none⟩) (i - k) (cap - k) (O.drop k) (fun h0 => by
    have e := row (by omega)
    rw [e]
    by_cases hc : cap = k
    · omega
    · rw [if_neg hc]
      have := (hr.later hB9).drop k
      rw [Nat.zero_add] at this
      exact ⟨g, k * 6, rfl, this⟩) (by rw [List.length_drop]; omega) (fun e => by
    rcases hao with h | ⟨h, _, h2⟩
    · rw [h] at e; split at e <;> cases e
    · omega) (by omega)
  refine ⟨v8, w8, v9, w9, v10, w10, run8, run9, run10, ?_, hB8, hB9.trans b10⟩
  rw [show 0 + k + 1 + (i - k) = i + 1 by omega] at own10
  have e : rowLP (insL O k x) = rowLP [] ++ rowLP (O.take k) ++ rowLP [x] ++ rowLP (O.drop k) := by
    rw [insL, show x :: O.drop k = [x] ++ O.drop k from rfl, rowLP_app, rowLP_app]
    simp [rowLP]
  rw [e]
  exact own10
end Go.Proofs.Ytcdehohmgfocdaa
