/-
  The document's Join.
-/
import Derived.Test.YtbmbdiimbhfeaaaExprJoinMath
import Derived.Test.YtbmbdiimbhfeaaaExprArgsMore
import Derived.Test.YtbmbdiimbhfeaaaValMake
namespace Go.Proofs.Ytbmbdiimbhfeaaa
open Go.RowKit

set_option maxHeartbeats 400000 in
theorem refBool_any (b : Bool) (w : World) : Calls Try.prog 41 #[.bool b] w fun e w' => e = .returned (valV 1 (if b then 1 else 0) ⟨#[]⟩) ∧ w' = w.alloc (valO 1 (if b then 1 else 0) ⟨#[]⟩) := by
  cases b
  · go_enter Try.func41, Try.ntmps41
    go_wp2
    exact bodyPost_ret (v := valV 1 0 ⟨#[]⟩) (by simp [results, Try.results41, go_sem]) rfl ⟨rfl, rfl⟩
  · go_enter Try.func41, Try.ntmps41
    go_wp2
    exact bodyPost_ret (v := valV 1 1 ⟨#[]⟩) (by simp [results, Try.results41, go_sem]) rfl ⟨rfl, rfl⟩
/-- What Join hands back. -/
def JoinAns (J : X) (w : World) (e : Ending) (w' : World) : Prop := ∃ y : X, e = .returned y.val ∧ IsX w' y ∧ ordX y J = 0 ∧ Below w.heap.size w w'
theorem IsX.parts {w : World} {x : X} (h : IsX w x) (i : Nat) (hi : i < x.n) : IsX w (x.c i) := by
  obtain ⟨_, _, _, _, hx⟩ := h.part hi
  exact hx
theorem sumN_upto {f : Nat → Nat} {i n : Nat} (h : i ≤ n) : sumN f i ≤ sumN f n := by
  by_cases e : i = n
  · rw [e]; exact Nat.le_refl _
  · have := sumN_part (f := f) (show i < n by omega); omega
theorem parts_small {a : Option Addr} {len cap : Nat} {c : Nat → X} (hsm : (X.all a len cap c).size ≤ 1048576) (k : Int) (i : Nat) (hi : i ≤ len) : sizeL (partL k c i) ≤ 1048575 := by
  have h1 := partL_size k c i
  have h2 := sumN_upto (f := fun i => (c i).size) hi
  have h3 := (X.all a len cap c).size_eq
  simp only [X.n, X.c] at h3
  omega
/-- The end: the answer is laid in its box. -/
theorem join_fin {J y : X} {w wr : World} (h1 : IsX wr y) (h2 : ∀ k, inX k y → k ≠ w.heap.size) (h3 : ordX y J = 0) (hB : Below w.heap.size w wr) : JoinAns J w (.returned y.val) (set7 wr w.heap.size y) :=
  ⟨y, rfl, h1.kept (T := fun k => k ≠ w.heap.size) (fun _ _ hk _ e => (heap_set7_other hk).trans e) h2, h3, below_set7 hB (Nat.le_refl _)⟩
/-- The parts in their row, as one condition. -/
theorem join_row {w wr : World} {k : Int} {l : List X} {a1 : Option Addr} {cap1 : Nat} (hi : IsX wr (.mk 0 val0 ⟨#[]⟩ ⟨#[]⟩ a1 l.length cap1 (atX l))) (hg : 0 < l.length → ∃ g, a1 = some ⟨g, 0, none⟩ ∧ w.heap.size + 1 ≤ g ∧ Node wr g 0 (atX l 0)) (hl : ∀ y ∈ l, IsX w y) :
    IsX wr (.mk k val0 ⟨#[]⟩ ⟨#[]⟩ a1 l.length cap1 (atX l)) ∧ ∀ q, inX q (.mk k val0 ⟨#[]⟩ ⟨#[]⟩ a1 l.length cap1 (atX l)) → q ≠ w.heap.size := by
  refine ⟨hi, fun q hq => ?_⟩
  rcases hq with ⟨h0, o, e⟩ | ⟨i, hi, hq⟩
  · obtain ⟨g, e', hg, _⟩ := hg h0
    rw [e'] at e
    cases e
    omega
  · have hm : atX l i ∈ l := by
      have : atX l i ∈ kidsL (atX l) l.length := (mem_kids _ _ _).2 ⟨i, hi, rfl⟩
      rwa [kidsL_at] at this
    have := inX_ltI (hl _ hm) hq
    omega
theorem sizeL_at {l : List X} {k : Int} {a1 : Option Addr} {cap1 : Nat} (h : sizeL l ≤ 1048575) : (X.mk k val0 ⟨#[]⟩ ⟨#[]⟩ a1 l.length cap1 (atX l)).size ≤ 1048576 := by
  rw [X.size_eq]
  show 1 + sumN (fun i => (atX l i).size) l.length ≤ _
  rw [← sizeL_kids, kidsL_at]
  omega
theorem atX_mem {l : List X} (h : 0 < l.length) : atX l 0 ∈ l := by
  have : atX l 0 ∈ kidsL (atX l) l.length := (mem_kids _ _ _).2 ⟨0, h, rfl⟩
  rwa [kidsL_at] at this
/-- The answer at any kind. -/
def joinZ (k : Int) (c : Nat → X) (n : Nat) : X := if k = 16 then joinX 16 (partL 16 c n) else if k = 17 then joinX 17 (partL 17 c n) else .nil
set_option maxRecDepth 100000 in
set_option maxHeartbeats 8000000 in
theorem refJoin_16 (a : Option Addr) (len cap : Nat) (c : Nat → X) (w : World) (hX : IsX w (X.all a len cap c)) (hsm : (X.all a len cap c).size ≤ 1048576) :
    Calls Try.prog 25 #[.int .i64 16, .slice a len cap] w (JoinAns (joinX 16 (partL 16 c len)) w) := by
  have HX : Hid (IsX w (X.all a len cap c)) := hX
  have hlen : len ≤ 1048576 := by have := length_le_size (X.all a len cap c); simp only [X.n] at this; omega
  have HSZ : Hid (∀ i, i ≤ len → sizeL (partL 16 c i) ≤ 1048575) := fun i hi => parts_small hsm 16 i hi
  have HPI : Hid (∀ i, i ≤ len → ∀ y ∈ partL 16 c i, IsX w y) := fun i hi => partL_is fun j hj => hX.parts j (Nat.lt_of_lt_of_le hj hi)
  have HCN : Hid (∀ i, i < len → (c i).n ≤ 1048576) := fun i hi => by
    have h1 := length_le_size (c i)
    have h2 := (X.all a len cap c).size_part i hi
    simp only [X.c] at h2
    omega
  obtain ⟨J, hJ⟩ : ∃ J, J = joinX 16 (partL 16 c len) := ⟨_, rfl⟩
  have HJ : Hid (J = joinX 16 (partL 16 c len)) := hJ
  rw [← hJ]
  obtain ⟨A, hA⟩ : ∃ A, w.alloc (.cells X.nil.cells 26) = A := ⟨_, rfl⟩
  have hB : Below w.heap.size w A := by rw [← hA]; exact (Below.refl _ w).alloc (Nat.le_refl _) _
  have hsz : A.heap.size = w.heap.size + 1 := by rw [← hA]; simp
  have HX1 : Hid (A.heap[w.heap.size]? = some (.cells X.nil.cells 26 (0, 0))) := by show _ = _; rw [← hA]; exact heap_alloc_new _ _
  have HB : Hid (Below w.heap.size w A) := hB
  have HA : Hid (A.heap.size = w.heap.size + 1) := hsz
  clear hX hsm hJ hB hsz
  go_enter Try.func25, Try.ntmps25
  go_wp2
  change Code.wp _ _ _ _ (w.alloc (.cells X.nil.cells 26))
  rw [hA]
  clear hA
  go_loopw [5, 6] (fun u iv wr => ∃ i : Nat, i ≤ len ∧ iv = .int .i64 i ∧ Hid (wr.ownsRow (w.heap.size + 1) 26 7 u (partL 16 c i).length (rowL (partL 16 c i))) ∧ Below (w.heap.size + 1) A wr) (fun _ iv _ => len - (intOf iv).toNat)
  case atStart => exact ⟨0, Nat.zero_le _, rfl, World.ownsRow_nil _ _ _ _, Below.refl _ _⟩
  case round =>
    obtain ⟨i, hi, rfl, HO, hBr⟩ := hrel
    have hwr : Below w.heap.size w wr := HB.out.trans (hBr.mono (by omega))
    have hsr : w.heap.size + 1 ≤ wr.heap.size := by have := hBr.size; have := HA.out; omega
    by_cases hin : i < len
    · obtain ⟨b, o, ea, hn, hx⟩ := (HX.out.later hwr).part hin
      have ea' : a = some ⟨b, o, none⟩ := ea
      subst ea'
      have hn' : Node wr b (o + i * 7) (c i) := hn
      obtain ⟨d0, d1, d2, d3, d4, d5, d6⟩ := hn'
      have HIN : Hid (i < len) := hin
      have hl1 := len_sizeL (partL 16 c i)
      have hl2 := HSZ.out i (by omega)
      have hl3 := HCN.out i hin
      by_cases hk : (c i).k = 16
      · have hk' : ((c i).k == 16) = true := by simpa using hk
        obtain ⟨v1, w1, r1, o1, g1⟩ := push_kids HO.out hsr (c i) hx (by omega)
        have HO1 : Hid (w1.ownsRow (w.heap.size + 1) 26 7 v1 (partL 16 c (i + 1)).length (rowL (partL 16 c (i + 1)))) := by show World.ownsRow _ _ _ _ _ _ _; rw [partL_hit hk]; exact o1
        have HB1 : Hid (Below (w.heap.size + 1) A w1) := hBr.grown g1 (by have := HA.out; have := hBr.size; omega) fun q e => (HO.out.lt q e).1
        clear ea hn hx hin hk o1 g1
        go_wp2_with (first | (at_builtin; refine wpList_append_run rfl (.tmp 27) (.tmp 32) 24 rfl _ _ _ rfl rfl r1 ?_))
        go_roundw
        case rel => exact ⟨i + 1, HIN.out, by go_num, HO1, HB1.out⟩
        case measure => have := HIN.out; simp [intOf]; omega
      · have hk' : ((c i).k == 16) = false := by simpa using hk
        obtain ⟨v1, w1, r1, o1, b1⟩ := push_one HO.out hsr (c i) (by omega)
        have HO1 : Hid (w1.ownsRow (w.heap.size + 1) 26 7 v1 (partL 16 c (i + 1)).length (rowL (partL 16 c (i + 1)))) := by show World.ownsRow _ _ _ _ _ _ _; rw [partL_miss hk]; exact o1
        have HB1 : Hid (Below (w.heap.size + 1) A w1) := hBr.trans b1
        clear ea hn hx hin hk o1 b1
        go_wp2_with (first | (at_builtin; refine wpList_append_run rfl (.tmp 34) (.tmp 39) 24 rfl _ _ _ rfl rfl r1 ?_))
        go_roundw
        case rel => exact ⟨i + 1, HIN.out, by go_num, HO1, HB1.out⟩
        case measure => have := HIN.out; simp [intOf]; omega
    · obtain rfl : i = len := by omega
      obtain ⟨l, hl⟩ : ∃ l, l = partL 16 c i := ⟨_, rfl⟩
      have HPL := HPI.out i (Nat.le_refl _)
      have HS := HSZ.out i (Nat.le_refl _)
      rw [← hl] at HO HPL HS
      have HJL : Hid (J = joinX 16 l) := by show J = _; rw [hl]; exact HJ.out
      obtain ⟨a1, cap1, rfl, hrow, hg⟩ := own_list HO.out fun y hy => (HPL y hy).later hwr
      have hll := len_sizeL l
      clear hl HJ HSZ HPI HCN hin
      have z0 := (hBr.block w.heap.size (by omega)).trans HX1.out
      obtain ⟨e0, e1, e2, e3, e4, e5, e6⟩ := (node_box z0).at0
      have gf : ∀ j, wr.frozen? ⟨w.heap.size, j, none⟩ = false := fun j => Free.frozen ⟨_, z0⟩ j
      have f0 := gf 0
      have f1 := gf 1
      have f2 := gf 2
      have f3 := gf 3
      have f4 := gf 4
      have f5 := gf 5
      have f6 := gf 6
      clear gf
      by_cases h1 : l.length = 1
      · obtain ⟨g, rfl, hgb, hn0⟩ := hg (by omega)
        obtain ⟨d0, d1, d2, d3, d4, d5, d6⟩ := hn0.at0
        obtain ⟨y, hy⟩ : ∃ y, y = atX l 0 := ⟨_, rfl⟩
        have hym : y ∈ l := hy ▸ atX_mem (by omega)
        have FIN : Hid (JoinAns J w (.returned y.val) (set7 wr w.heap.size y)) := join_fin ((HPL y hym).later hwr) (fun q hq => by have := inX_ltI (HPL y hym) hq; omega) (by rw [HJL.out, joinX_one h1, ← hy]; exact ordX_self _) hwr
        have hblk := heap_set7 (y := y) z0
        rw [← hy] at d0 d1 d2 d3 d4 d5 d6
        have hcp : 1 ≤ cap1 := by have := hrow.1; omega
        rw [h1]
        clear hrow hg hn0 hy hym HJL HPL
        go_wp2
        refine bodyPost_ret (results_cell_row rfl _ _ w.heap.size 26 _ (0, 0) _ rfl hblk Try.underlying26 rfl (by kernel_rfl)) rfl ?_
        exact FIN.out
      · by_cases h0 : l.length = 0
        · have hl0 : l = [] := List.eq_nil_of_length_eq_zero h0
          have bo := refBool_any true wr
          obtain ⟨W, hW⟩ : ∃ W, wr.alloc (valO 1 1 ⟨#[]⟩) = W := ⟨_, rfl⟩
          have HBO : Hid (Calls Try.prog 41 #[.bool true] wr fun e w' => e = .returned (valV 1 1 ⟨#[]⟩) ∧ w' = W) := by rw [← hW]; exact bo
          have hBW : Below wr.heap.size wr W := by rw [← hW]; exact (Below.refl _ _).alloc (Nat.le_refl _) _
          have z1 := (hBW.block w.heap.size (by omega)).trans z0
          obtain ⟨y, hy⟩ : ∃ y, y = joinX 16 [] := ⟨_, rfl⟩
          have FIN : Hid (JoinAns J w (.returned y.val) (set7 W w.heap.size y)) := join_fin (by rw [hy]; exact ⟨by omega, by omega, fun i hi => by omega⟩) (fun q hq => by rw [hy] at hq; rcases hq with ⟨h, _⟩ | ⟨_, h, _⟩ <;> omega) (by rw [HJL.out, hl0, hy]; exact ordX_self _) (hwr.trans (hBW.mono hwr.size))
          have hblk := heap_set7 (y := y) z1
          obtain ⟨e0, e1, e2, e3, e4, e5, e6⟩ := (node_box z1).at0
          have gf : ∀ j, W.frozen? ⟨w.heap.size, j, none⟩ = false := fun j => Free.frozen ⟨_, z1⟩ j
          have f0 := gf 0
          have f1 := gf 1
          have f2 := gf 2
          have f3 := gf 3
          have f4 := gf 4
          have f5 := gf 5
          have f6 := gf 6
          subst hy
          rw [h0]
          clear gf hW bo hrow hg HJL HPL hl0 h0 h1 z0
          go_wp2_with (go_at_call 41; refine HBO.out.mono ?_; clear HBO; rintro e w9 ⟨rfl, hw9⟩; replace hw9 := hw9.symm; subst hw9)
          refine bodyPost_ret (results_cell_row rfl _ _ w.heap.size 26 _ (0, 0) _ rfl hblk Try.underlying26 rfl (by kernel_rfl)) rfl ?_
          exact FIN.out
        · obtain ⟨hy1, hy2⟩ := join_row (k := 16) hrow hg HPL
          have FIN : Hid (JoinAns J w (.returned (X.mk 16 val0 ⟨#[]⟩ ⟨#[]⟩ a1 l.length cap1 (atX l)).val) (set7 wr w.heap.size (X.mk 16 val0 ⟨#[]⟩ ⟨#[]⟩ a1 l.length cap1 (atX l)))) := join_fin hy1 hy2 (by rw [HJL.out]; exact joinX_more (by omega) _ _) hwr
          have hblk := heap_set7 (y := X.mk 16 val0 ⟨#[]⟩ ⟨#[]⟩ a1 l.length cap1 (atX l)) z0
          obtain ⟨N, hN⟩ : ∃ N, N = l.length := ⟨_, rfl⟩
          rw [← hN] at h0 h1 hblk FIN ⊢
          have n1 : ((N : Int) == 1) = false := by rw [beq_eq_false_iff_ne]; omega
          have n0 : ((N : Int) == 0) = false := by rw [beq_eq_false_iff_ne]; omega
          clear hrow hg HJL HPL hy1 hy2 hN h0 h1 hll HS HO
          go_wp2
          refine bodyPost_ret (results_cell_row rfl _ _ w.heap.size 26 _ (0, 0) _ rfl hblk Try.underlying26 rfl (by kernel_rfl)) rfl ?_
          exact FIN.out
set_option maxRecDepth 100000 in
set_option maxHeartbeats 8000000 in
theorem refJoin_17 (a : Option Addr) (len cap : Nat) (c : Nat → X) (w : World) (hX : IsX w (X.all a len cap c)) (hsm : (X.all a len cap c).size ≤ 1048576) :
    Calls Try.prog 25 #[.int .i64 17, .slice a len cap] w (JoinAns (joinX 17 (partL 17 c len)) w) := by
  have HX : Hid (IsX w (X.all a len cap c)) := hX
  have hlen : len ≤ 1048576 := by have := length_le_size (X.all a len cap c); simp only [X.n] at this; omega
  have HSZ : Hid (∀ i, i ≤ len → sizeL (partL 17 c i) ≤ 1048575) := fun i hi => parts_small hsm 17 i hi
  have HPI : Hid (∀ i, i ≤ len → ∀ y ∈ partL 17 c i, IsX w y) := fun i hi => partL_is fun j hj => hX.parts j (Nat.lt_of_lt_of_le hj hi)
  have HCN : Hid (∀ i, i < len → (c i).n ≤ 1048576) := fun i hi => by
    have h1 := length_le_size (c i)
    have h2 := (X.all a len cap c).size_part i hi
    simp only [X.c] at h2
    omega
  obtain ⟨J, hJ⟩ : ∃ J, J = joinX 17 (partL 17 c len) := ⟨_, rfl⟩
  have HJ : Hid (J = joinX 17 (partL 17 c len)) := hJ
  rw [← hJ]
  obtain ⟨A, hA⟩ : ∃ A, w.alloc (.cells X.nil.cells 26) = A := ⟨_, rfl⟩
  have hB : Below w.heap.size w A := by rw [← hA]; exact (Below.refl _ w).alloc (Nat.le_refl _) _
  have hsz : A.heap.size = w.heap.size + 1 := by rw [← hA]; simp
  have HX1 : Hid (A.heap[w.heap.size]? = some (.cells X.nil.cells 26 (0, 0))) := by show _ = _; rw [← hA]; exact heap_alloc_new _ _
  have HB : Hid (Below w.heap.size w A) := hB
  have HA : Hid (A.heap.size = w.heap.size + 1) := hsz
  clear hX hsm hJ hB hsz
  go_enter Try.func25, Try.ntmps25
  go_wp2
  change Code.wp _ _ _ _ (w.alloc (.cells X.nil.cells 26))
  rw [hA]
  clear hA
  go_loopw [5, 6] (fun u iv wr => ∃ i : Nat, i ≤ len ∧ iv = .int .i64 i ∧ Hid (wr.ownsRow (w.heap.size + 1) 26 7 u (partL 17 c i).length (rowL (partL 17 c i))) ∧ Below (w.heap.size + 1) A wr) (fun _ iv _ => len - (intOf iv).toNat)
  case atStart => exact ⟨0, Nat.zero_le _, rfl, World.ownsRow_nil _ _ _ _, Below.refl _ _⟩
  case round =>
    obtain ⟨i, hi, rfl, HO, hBr⟩ := hrel
    have hwr : Below w.heap.size w wr := HB.out.trans (hBr.mono (by omega))
    have hsr : w.heap.size + 1 ≤ wr.heap.size := by have := hBr.size; have := HA.out; omega
    by_cases hin : i < len
    · obtain ⟨b, o, ea, hn, hx⟩ := (HX.out.later hwr).part hin
      have ea' : a = some ⟨b, o, none⟩ := ea
      subst ea'
      have hn' : Node wr b (o + i * 7) (c i) := hn
      obtain ⟨d0, d1, d2, d3, d4, d5, d6⟩ := hn'
      have HIN : Hid (i < len) := hin
      have hl1 := len_sizeL (partL 17 c i)
      have hl2 := HSZ.out i (by omega)
      have hl3 := HCN.out i hin
      by_cases hk : (c i).k = 17
      · have hk' : ((c i).k == 17) = true := by simpa using hk
        obtain ⟨v1, w1, r1, o1, g1⟩ := push_kids HO.out hsr (c i) hx (by omega)
        have HO1 : Hid (w1.ownsRow (w.heap.size + 1) 26 7 v1 (partL 17 c (i + 1)).length (rowL (partL 17 c (i + 1)))) := by show World.ownsRow _ _ _ _ _ _ _; rw [partL_hit hk]; exact o1
        have HB1 : Hid (Below (w.heap.size + 1) A w1) := hBr.grown g1 (by have := HA.out; have := hBr.size; omega) fun q e => (HO.out.lt q e).1
        clear ea hn hx hin hk o1 g1
        go_wp2_with (first | (at_builtin; refine wpList_append_run rfl (.tmp 27) (.tmp 32) 24 rfl _ _ _ rfl rfl r1 ?_))
        go_roundw
        case rel => exact ⟨i + 1, HIN.out, by go_num, HO1, HB1.out⟩
        case measure => have := HIN.out; simp [intOf]; omega
      · have hk' : ((c i).k == 17) = false := by simpa using hk
        obtain ⟨v1, w1, r1, o1, b1⟩ := push_one HO.out hsr (c i) (by omega)
        have HO1 : Hid (w1.ownsRow (w.heap.size + 1) 26 7 v1 (partL 17 c (i + 1)).length (rowL (partL 17 c (i + 1)))) := by show World.ownsRow _ _ _ _ _ _ _; rw [partL_miss hk]; exact o1
        have HB1 : Hid (Below (w.heap.size + 1) A w1) := hBr.trans b1
        clear ea hn hx hin hk o1 b1
        go_wp2_with (first | (at_builtin; refine wpList_append_run rfl (.tmp 34) (.tmp 39) 24 rfl _ _ _ rfl rfl r1 ?_))
        go_roundw
        case rel => exact ⟨i + 1, HIN.out, by go_num, HO1, HB1.out⟩
        case measure => have := HIN.out; simp [intOf]; omega
    · obtain rfl : i = len := by omega
      obtain ⟨l, hl⟩ : ∃ l, l = partL 17 c i := ⟨_, rfl⟩
      have HPL := HPI.out i (Nat.le_refl _)
      have HS := HSZ.out i (Nat.le_refl _)
      rw [← hl] at HO HPL HS
      have HJL : Hid (J = joinX 17 l) := by show J = _; rw [hl]; exact HJ.out
      obtain ⟨a1, cap1, rfl, hrow, hg⟩ := own_list HO.out fun y hy => (HPL y hy).later hwr
      have hll := len_sizeL l
      clear hl HJ HSZ HPI HCN hin
      have z0 := (hBr.block w.heap.size (by omega)).trans HX1.out
      obtain ⟨e0, e1, e2, e3, e4, e5, e6⟩ := (node_box z0).at0
      have gf : ∀ j, wr.frozen? ⟨w.heap.size, j, none⟩ = false := fun j => Free.frozen ⟨_, z0⟩ j
      have f0 := gf 0
      have f1 := gf 1
      have f2 := gf 2
      have f3 := gf 3
      have f4 := gf 4
      have f5 := gf 5
      have f6 := gf 6
      clear gf
      by_cases h1 : l.length = 1
      · obtain ⟨g, rfl, hgb, hn0⟩ := hg (by omega)
        obtain ⟨d0, d1, d2, d3, d4, d5, d6⟩ := hn0.at0
        obtain ⟨y, hy⟩ : ∃ y, y = atX l 0 := ⟨_, rfl⟩
        have hym : y ∈ l := hy ▸ atX_mem (by omega)
        have FIN : Hid (JoinAns J w (.returned y.val) (set7 wr w.heap.size y)) := join_fin ((HPL y hym).later hwr) (fun q hq => by have := inX_ltI (HPL y hym) hq; omega) (by rw [HJL.out, joinX_one h1, ← hy]; exact ordX_self _) hwr
        have hblk := heap_set7 (y := y) z0
        rw [← hy] at d0 d1 d2 d3 d4 d5 d6
        have hcp : 1 ≤ cap1 := by have := hrow.1; omega
        rw [h1]
        clear hrow hg hn0 hy hym HJL HPL
        go_wp2
        refine bodyPost_ret (results_cell_row rfl _ _ w.heap.size 26 _ (0, 0) _ rfl hblk Try.underlying26 rfl (by kernel_rfl)) rfl ?_
        exact FIN.out
      · by_cases h0 : l.length = 0
        · have hl0 : l = [] := List.eq_nil_of_length_eq_zero h0
          have bo := refBool_any false wr
          obtain ⟨W, hW⟩ : ∃ W, wr.alloc (valO 1 0 ⟨#[]⟩) = W := ⟨_, rfl⟩
          have HBO : Hid (Calls Try.prog 41 #[.bool false] wr fun e w' => e = .returned (valV 1 0 ⟨#[]⟩) ∧ w' = W) := by rw [← hW]; exact bo
          have hBW : Below wr.heap.size wr W := by rw [← hW]; exact (Below.refl _ _).alloc (Nat.le_refl _) _
          have z1 := (hBW.block w.heap.size (by omega)).trans z0
          obtain ⟨y, hy⟩ : ∃ y, y = joinX 17 [] := ⟨_, rfl⟩
          have FIN : Hid (JoinAns J w (.returned y.val) (set7 W w.heap.size y)) := join_fin (by rw [hy]; exact ⟨by omega, by omega, fun i hi => by omega⟩) (fun q hq => by rw [hy] at hq; rcases hq with ⟨h, _⟩ | ⟨_, h, _⟩ <;> omega) (by rw [HJL.out, hl0, hy]; exact ordX_self _) (hwr.trans (hBW.mono hwr.size))
          have hblk := heap_set7 (y := y) z1
          obtain ⟨e0, e1, e2, e3, e4, e5, e6⟩ := (node_box z1).at0
          have gf : ∀ j, W.frozen? ⟨w.heap.size, j, none⟩ = false := fun j => Free.frozen ⟨_, z1⟩ j
          have f0 := gf 0
          have f1 := gf 1
          have f2 := gf 2
          have f3 := gf 3
          have f4 := gf 4
          have f5 := gf 5
          have f6 := gf 6
          subst hy
          rw [h0]
          clear gf hW bo hrow hg HJL HPL hl0 h0 h1 z0
          go_wp2_with (go_at_call 41; refine HBO.out.mono ?_; clear HBO; rintro e w9 ⟨rfl, hw9⟩; replace hw9 := hw9.symm; subst hw9)
          refine bodyPost_ret (results_cell_row rfl _ _ w.heap.size 26 _ (0, 0) _ rfl hblk Try.underlying26 rfl (by kernel_rfl)) rfl ?_
          exact FIN.out
        · obtain ⟨hy1, hy2⟩ := join_row (k := 17) hrow hg HPL
          have FIN : Hid (JoinAns J w (.returned (X.mk 17 val0 ⟨#[]⟩ ⟨#[]⟩ a1 l.length cap1 (atX l)).val) (set7 wr w.heap.size (X.mk 17 val0 ⟨#[]⟩ ⟨#[]⟩ a1 l.length cap1 (atX l)))) := join_fin hy1 hy2 (by rw [HJL.out]; exact joinX_more (by omega) _ _) hwr
          have hblk := heap_set7 (y := X.mk 17 val0 ⟨#[]⟩ ⟨#[]⟩ a1 l.length cap1 (atX l)) z0
          obtain ⟨N, hN⟩ : ∃ N, N = l.length := ⟨_, rfl⟩
          rw [← hN] at h0 h1 hblk FIN ⊢
          have n1 : ((N : Int) == 1) = false := by rw [beq_eq_false_iff_ne]; omega
          have n0 : ((N : Int) == 0) = false := by rw [beq_eq_false_iff_ne]; omega
          clear hrow hg HJL HPL hy1 hy2 hN h0 h1 hll HS HO
          go_wp2
          refine bodyPost_ret (results_cell_row rfl _ _ w.heap.size 26 _ (0, 0) _ rfl hblk Try.underlying26 rfl (by kernel_rfl)) rfl ?_
          exact FIN.out
set_option maxRecDepth 100000 in
set_option maxHeartbeats 2000000 in
theorem refJoin_other (k : Int) (a : Option Addr) (len cap : Nat) (w : World) (h6 : ¬ k = 16) (h7 : ¬ k = 17) :
    Calls Try.prog 25 #[.int .i64 k, .slice a len cap] w (JoinAns .nil w) := by
  have FIN : JoinAns .nil w (.returned X.nil.val) (w.alloc (.cells X.nil.cells 26)) := ⟨.nil, rfl, trivial, ordX_self _, (Below.refl _ _).alloc (Nat.le_refl _) _⟩
  have hblk : (w.alloc (.cells X.nil.cells 26)).heap[w.heap.size]? = some (.cells X.nil.cells 26 (0, 0)) := heap_alloc_new _ _
  have n6 : (k != 16) = true := by simpa using h6
  have n7 : (k != 17) = true := by simpa using h7
  go_enter Try.func25, Try.ntmps25
  go_wp2
  refine bodyPost_ret (results_cell_row rfl _ _ w.heap.size 26 _ (0, 0) _ rfl hblk Try.underlying26 rfl (by kernel_rfl)) rfl ?_
  exact FIN
theorem refJoin_any (k : Int) (a : Option Addr) (len cap : Nat) (c : Nat → X) (w : World) (hX : IsX w (X.all a len cap c)) (hsm : (X.all a len cap c).size ≤ 1048576) :
    Calls Try.prog 25 #[.int .i64 k, .slice a len cap] w (JoinAns (joinZ k c len) w) := by
  unfold joinZ
  by_cases h6 : k = 16
  · subst h6
    exact refJoin_16 a len cap c w hX hsm
  · rw [if_neg h6]
    by_cases h7 : k = 17
    · subst h7
      exact refJoin_17 a len cap c w hX hsm
    · rw [if_neg h7]
      exact refJoin_other k a len cap w h6 h7
end Go.Proofs.Ytbmbdiimbhfeaaa
