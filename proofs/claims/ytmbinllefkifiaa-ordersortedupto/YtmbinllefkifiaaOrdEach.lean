/-
  order.copied, order.each of patterns, order.Sort.
-/
import Derived.Test.YtmbinllefkifiaaOrdSortP
import Derived.Test.YtmbinllefkifiaaOrdForm
import Derived.Test.YtmbinllefkifiaaPatAt
import Derived.Test.YtmbinllefkifiaaPatRefRen
namespace Go.Proofs.Ytmbinllefkifiaa
open Go.RowKit

/-- A copy of x that lies in new memory. -/
def NewP (x : Pt) (d : World) (e : Ending) (w' : World) : Prop := ∃ q : Pt, e = .returned q.val ∧ Hid (IsP w' q ∧ Sm q x ∧ ∀ k, inP k q → d.heap.size ≤ k) ∧ Below d.heap.size d w'
theorem set_again {w2 : World} {B : Nat} {z q : Pt} (h : w2.heap[B]? = some (.cells z.cells 24 (0, 0))) : ∃ W, (((((w2.setCell ⟨B, 0, none⟩ (.int .i64 q.k)).setCell ⟨B, 1, none⟩ (.string q.s)).setCell ⟨B, 2, none⟩ (.string q.t)).setCell ⟨B, 3, none⟩ (.int .i64 q.lo)).setCell ⟨B, 4, none⟩ (.int .i64 q.hi)).setCell ⟨B, 5, none⟩ (.slice q.a q.n q.cap) = W ∧
    W.heap[B]? = some (.cells q.cells 24 (0, 0)) ∧ (∀ k, k ≠ B → W.heap[k]? = w2.heap[k]?) ∧ ∀ n w, n ≤ B → Below n w w2 → Below n w W :=
  ⟨_, rfl, heap_set6 (z := z) h, fun _ hk => heap_set6_other hk, fun _ _ hn hB => below_set6 hB hn⟩
theorem frozen_box {w : World} {B : Nat} {cs : Array Value} (h : w.heap[B]? = some (.cells cs 24 (0, 0))) : w.frozen? ⟨B, 0, none⟩ = false ∧ w.frozen? ⟨B, 1, none⟩ = false ∧ w.frozen? ⟨B, 2, none⟩ = false ∧ w.frozen? ⟨B, 3, none⟩ = false ∧ w.frozen? ⟨B, 4, none⟩ = false ∧ w.frozen? ⟨B, 5, none⟩ = false :=
  ⟨FreeP.frozen ⟨_, h⟩ _, FreeP.frozen ⟨_, h⟩ _, FreeP.frozen ⟨_, h⟩ _, FreeP.frozen ⟨_, h⟩ _, FreeP.frozen ⟨_, h⟩ _, FreeP.frozen ⟨_, h⟩ _⟩
theorem isP_other {w W : World} {q : Pt} {T : Nat → Prop} (h : IsP w q) (hT : ∀ k, inP k q → T k) (hk : ∀ k, T k → W.heap[k]? = w.heap[k]?) : IsP W q := h.kept (T := T) (fun k _ hk' _ e => (hk k hk').trans e) hT
set_option maxRecDepth 100000 in
set_option maxHeartbeats 8000000 in
theorem copiedO_any (x : Pt) (w : World) (hX : IsP w x) (hsm : x.size ≤ 1048576) : Calls Try.prog 33 #[x.val] w (NewP x w) := by
  obtain ⟨A, hA, hB, hs, hn, hr⟩ := boxP_res x w
  have hb0 : A.heap[w.heap.size]? = some (.cells x.cells 24 (0, 0)) := by
    rw [← hA, alloc_old (by simp)]
    exact alloc_new w _
  obtain ⟨a0, a1, a2, a3, a4, a5⟩ := hn.at0
  have hc : Hid (Calls Try.prog 57 #[x.val, .slice none 0 0] A fun e w' => ∃ q : Pt, e = .returned (.tuple #[q.val, .bool true]) ∧ PA w' q ∧ Sm q x ∧ (∀ k, inP k q → A.heap.size ≤ k) ∧ Below A.heap.size A w') := at_yes x x none 0 0 (fun _ => 0) A (hX.later hB) hsm (fun h => absurd h (Nat.lt_irrefl _)) (by omega) rfl
  have HB : Hid (Below w.heap.size w A) := hB
  have HS : Hid (A.heap.size = w.heap.size + 2) := hs
  have H0 : Hid (A.heap[w.heap.size]? = some (.cells x.cells 24 (0, 0))) := hb0
  have H1 : Hid (A.heap[w.heap.size + 1]? = some (.cells zeroP 24 (0, 0))) := hr
  clear hB hn hr hX hb0 hs
  unfold NewP
  go_enter Try.func33, Try.ntmps33
  go_wp2_with (go_at_call 57; refine hc.out.mono ?_; clear hc; rintro e w2 ⟨q, rfl, hPA, hSm, hin, hB2⟩; have k0 := (hB2.block w.heap.size (by have := HS.out; omega)).trans H0.out; have k1 := (hB2.block (w.heap.size + 1) (by have := HS.out; omega)).trans H1.out; obtain ⟨W, hW, hW0, hWo, hWB⟩ := set_again (q := q) k0; have k1' := (hWo (w.heap.size + 1) (by omega)).trans k1; obtain ⟨c0, c1, c2, c3, c4, c5⟩ := (nodeP_box k0).at0; obtain ⟨f0, f1, f2, f3, f4, f5⟩ := frozen_box k0; obtain ⟨d0, d1, d2, d3, d4, d5⟩ := (nodeP_box hW0).at0; obtain ⟨e0, e1, e2, e3, e4, e5⟩ := (nodeP_box (x := .nil) k1').at0; obtain ⟨g0, g1, g2, g3, g4, g5⟩ := frozen_box k1')
  have hblk : (set6 W (w.heap.size + 1) q).heap[w.heap.size + 1]? = some (.cells q.cells 24 (0, 0)) := heap_set6 (z := .nil) k1'
  refine bodyPost_ret (results_cell_row rfl _ _ (w.heap.size + 1) 24 _ (0, 0) _ rfl hblk Try.underlying24 rfl (by kernel_rfl)) rfl ?_
  have hs := HS.out
  have hBw : Below w.heap.size w w2 := HB.out.trans (hB2.mono HB.out.size)
  refine ⟨q, rfl, ⟨isP_other (T := fun k => w.heap.size + 2 ≤ k) hPA.is (fun k hk => by have := hin k hk; omega) (fun k hk => (heap_set6_other (by omega)).trans (hWo k (by omega))), hSm, fun k hk => by have := hin k hk; omega⟩, below_set6 (hWB _ _ (Nat.le_refl _) hBw) (by omega)⟩
set_option maxRecDepth 100000 in
set_option maxHeartbeats 8000000 in
theorem eachPP_any (a : Option Addr) (n cap : Nat) (D : Nat → Pt) (w : World) (hn : n ≤ 1048576) (hR : ∀ i, i < n → ∃ b o, a = some ⟨b, o, none⟩ ∧ NodeP w b (o + i * 6) (D i))
    (hC : ∀ i, i < n → ∀ d, Below w.heap.size w d → Calls Try.prog 33 #[(D i).val] d (NewP (D i) d)) :
    Calls Try.prog 31 #[.slice a n cap, .func (.func 33) #[] #[]] w fun e w' => ∃ (a' : Option Addr) (cap' : Nat) (c : Nat → Pt), e = .returned (.slice a' n cap') ∧ Hid (GrownP w.heap.size w' (.slice a' n cap') n c ∧ ∀ i, i < n → Sm (c i) (D i)) ∧ Below w.heap.size w w' := by
  have HR : Hid (∀ i, i < n → ∃ b o, a = some ⟨b, o, none⟩ ∧ NodeP w b (o + i * 6) (D i)) := hR
  have HC : Hid (∀ i, i < n → ∀ d, Below w.heap.size w d → Calls Try.prog 33 #[(D i).val] d (NewP (D i) d)) := hC
  clear hR hC
  go_enter Try.func31, Try.ntmps31
  go_wp2
  go_loopw [5, 10] (fun u v wr => ∃ (k : Nat) (a' : Option Addr) (cap' : Nat) (c : Nat → Pt), k ≤ n ∧ u = .slice a' k cap' ∧ v = .int .i64 k ∧ Hid (GrownP w.heap.size wr (.slice a' k cap') k c ∧ ∀ i, i < k → Sm (c i) (D i)) ∧ Below w.heap.size w wr) (fun _ v _ => n - (intOf v).toNat)
  case atStart => exact ⟨0, none, 0, fun _ => .nil, Nat.zero_le _, rfl, rfl, ⟨grownP_nil _ _ _, fun i hi => absurd hi (Nat.not_lt_zero _)⟩, Below.refl _ _⟩
  case round =>
    obtain ⟨k, a', cap', c, hk, rfl, rfl, HG, hB⟩ := hrel
    by_cases hkn : k < n
    · obtain ⟨b, o, rfl, hn1⟩ := HR.out k hkn
      obtain ⟨A, hA, hBA, -, hm1⟩ := boxP_one (D k) wr
      obtain ⟨d0, d1, d2, d3, d4, d5⟩ := hn1.later hB
      obtain ⟨g0, g1, g2, g3, g4, g5⟩ := hm1.at0
      have HK : Hid (k < n) := hkn
      have HB0 : Hid (Below w.heap.size w A) := hB.trans (hBA.mono hB.size)
      have HG2 : Hid (GrownP w.heap.size A (.slice a' k cap') k c) := HG.out.1.later hBA
      have hc : Hid (Calls Try.prog 33 #[(D k).val] A (NewP (D k) A)) := HC.out k hkn A HB0.out
      have HLT : Hid (∀ q, (Value.slice a' k cap').ownBlock = some q → q < A.heap.size) := fun q e => (HG2.out.1.lt q e).2
      have hk6 : Hid (k ≤ 1048576) := by show k ≤ _; omega
      clear hn1 hBA hm1
      go_wp2_with (first
        | (go_at_call 33; refine hc.out.mono ?_; clear hc; rintro e w2 ⟨q, rfl, hq, hB2⟩; obtain ⟨a3, cap3, w3, run3, G3, hB3, -⟩ := (HG2.out.later hB2).push (HB0.out.trans (hB2.mono HB0.out.size)).size hk6.out q hq.out.1 (fun z hz => ⟨Nat.le_trans HB0.out.size (hq.out.2.2 z hz), fun e => by have := HLT.out z e; have := hq.out.2.2 z hz; omega⟩); have R3 : Hid (_ = _) := run3; have HG3 : Hid (GrownP _ _ _ _ _) := G3; have HB3 : Hid (Below w.heap.size w w3) := (HB0.out.trans (hB2.mono HB0.out.size)).trans hB3; clear run3 G3 hB3)
        | (at_builtin; refine wpList_append_run rfl (.tmp 14) (.tmp 18) 22 rfl _ _ _ rfl rfl R3.out ?_))
      go_roundw
      case rel =>
        refine ⟨k + 1, a3, cap3, _, HK.out, rfl, by go_num, ⟨HG3.out, fun i hi => ?_⟩, HB3.out⟩
        by_cases e : i = k
        · subst e
          rw [updP_same]
          exact hq.out.2.1
        · rw [updP_other e]
          exact HG.out.2 i (by omega)
      case measure => have := HK.out; simp [intOf]; omega
    · obtain rfl : k = n := by omega
      go_wp2
      go_ret
      exact ⟨a', cap', c, rfl, HG, hB⟩

/-- Sort's answer. -/
def SortAns (L : List Pt) (d : World) (e : Ending) (w' : World) : Prop := ∃ (a' : Option Addr) (cap' : Nat) (c : Nat → Pt) (r : List Pt), e = .returned (.slice a' L.length cap') ∧ Hid (GrownP d.heap.size w' (.slice a' L.length cap') L.length c ∧ St formP L r ∧ (∀ i, i < L.length → Sm (c i) (r.getD i .nil)) ∧ L.length ≤ cap' ∧ cap' ≤ maxLen) ∧ Below d.heap.size d w'
set_option maxRecDepth 100000 in
set_option maxHeartbeats 4000000 in
theorem sortO_any (a : Option Addr) (cap : Nat) (L : List Pt) (w : World) (hR : 0 < L.length → ∃ b o, a = some ⟨b, o, none⟩ ∧ RwP w b o L) (hI : ∀ x ∈ L, IsP w x ∧ x.size ≤ 1048576) (hc : L.length ≤ cap) (hm : cap ≤ 9223372036854775807) (hn : L.length ≤ 1048576) :
    Calls Try.prog 14 #[.slice a L.length cap] w (SortAns L w) := by
  have hS := sortedP_any formP form3 L.length a cap L w rfl hR hc hm hn fun x hx y hy d hd => formP_any x y d ((hI x hx).1.later hd) ((hI y hy).1.later hd)
  have HI : Hid (∀ x ∈ L, IsP w x ∧ x.size ≤ 1048576) := hI
  obtain ⟨n, hnn⟩ : ∃ n, n = L.length := ⟨_, rfl⟩
  have HN : Hid (n = L.length) := hnn
  have hE : Hid (∀ (v : Value) (r : List Pt) (d : World), Hid (d.ownsRow w.heap.size 24 6 v n (rowLP r) ∧ St formP L r) → Below w.heap.size w d → Calls Try.prog 31 #[v, .func (.func 33) #[] #[]] d fun e w' => ∃ (a' : Option Addr) (cap' : Nat) (c : Nat → Pt), e = .returned (.slice a' n cap') ∧ Hid (GrownP d.heap.size w' (.slice a' n cap') n c ∧ ∀ i, i < n → Sm (c i) (r.getD i .nil)) ∧ Below d.heap.size d w') := fun v r d hr hd => by
    have hl := hr.out.2.perm.length_eq
    rw [← hnn] at hl
    have hv : ∃ a cap, v = .slice a n cap ∧ ∀ i, i < n → ∃ b o, a = some ⟨b, o, none⟩ ∧ NodeP d b (o + i * 6) (r.getD i .nil) := by
      by_cases h0 : 0 < n
      · obtain ⟨g, cap, rfl, _, _, _, _, hg⟩ := ownLP hr.out.1 hl h0
        refine ⟨_, cap, rfl, fun i hi => ⟨g, 0, rfl, hg i _ (by simp [show i < r.length by omega])⟩⟩
      · obtain rfl : n = 0 := by omega
        rcases hr.out.1.2 with ⟨rfl, _⟩ | ⟨g, cap, _, rfl, _⟩
        · exact ⟨none, 0, rfl, fun i hi => absurd hi (Nat.not_lt_zero _)⟩
        · exact ⟨_, cap, rfl, fun i hi => absurd hi (Nat.not_lt_zero _)⟩
    obtain ⟨a, cap, rfl, hrow⟩ := hv
    refine eachPP_any a n cap (fun i => r.getD i .nil) d (by omega) hrow fun i hi W hW => ?_
    have hm : r.getD i .nil ∈ L := by
      rw [← hr.out.2.perm.mem_iff, List.getD_eq_getElem?_getD, List.getElem?_eq_getElem (show i < r.length by omega)]
      exact List.getElem_mem _
    exact copiedO_any _ W ((hI _ hm).1.later (hd.trans (hW.mono hd.size))) (hI _ hm).2
  rw [← hnn] at hS
  unfold SortAns
  rw [← hnn]
  clear hR hI hc hm hn hnn
  go_enter Try.func14, Try.ntmps14
  go_wp2_with (first
    | (go_at_call 32; refine hS.mono ?_; clear hS; rintro e w2 ⟨v, r, rfl, hr, hB2⟩)
    | (go_at_call 31; refine (hE.out _ r _ hr hB2).mono ?_; rintro e w3 ⟨a3, cap3, c3, rfl, h3, hB3⟩))
  go_ret
  obtain ⟨a4, cap4, e4, q1, q2, _⟩ := ownP_nodes h3.out.1.1
  cases e4
  exact ⟨_, _, c3, r, rfl, ⟨⟨own_low15 h3.out.1.1 hB2.size, fun j hj => ⟨(h3.out.1.2 j hj).1, fun k hk => ⟨Nat.le_trans hB2.size ((h3.out.1.2 j hj).2 k hk).1, ((h3.out.1.2 j hj).2 k hk).2⟩⟩⟩, hr.out.2, h3.out.2, q1, q2⟩, hB2.trans (hB3.mono hB2.size)⟩
end Go.Proofs.Ytmbinllefkifiaa
