/-
  expr.Join.
-/
import Derived.Test.YtbmbdiimbhfeaaaExprRefJoin
namespace Go.Proofs.Ytbmbdiimbhfeaaa
open Go.RowKit

set_option maxRecDepth 100000 in
set_option maxHeartbeats 8000000 in
theorem join_16 (a : Option Addr) (len cap : Nat) (c : Nat → X) (w : World) (hX : IsX w (X.all a len cap c)) (hsm : (X.all a len cap c).size ≤ 1048576) :
    Calls Try.prog 24 #[.int .i64 16, .slice a len cap] w (JoinAns (joinX 16 (partL 16 c len)) w) := by
  have HX : Hid (IsX w (X.all a len cap c)) := hX
  have hlen : len ≤ 1048576 := by have := length_le_size (X.all a len cap c); simp only [X.n] at this; omega
  have HSZ : Hid (∀ i, i ≤ len → sizeL (partL 16 c i) ≤ 1048575) := fun i hi => parts_small hsm 16 i hi
  have HPI : Hid (∀ i, i ≤ len → ∀ y ∈ partL 16 c i, IsX w y) := fun i hi => partL_is fun j hj => hX.parts j (Nat.lt_of_lt_of_le hj hi)
  have HCN : Hid (∀ i, i < len → (c i).n ≤ 1048576) := fun i hi => by
    have h1 := length_le_size (c i)
    have h2 := (X.all a len cap c).size_part i hi
    simp only [X.c] at h2
    omega
  obtain ⟨J, hJ⟩ : ∃ J, J = joinX 16 (partL 16 c len) := ⟨_, rfl⟩
  have HJ : Hid (J = joinX 16 (partL 16 c len)) := hJ
  rw [← hJ]
  obtain ⟨A, hA⟩ : ∃ A, w.alloc (.cells X.nil.cells 26) = A := ⟨_, rfl⟩
  have hB : Below w.heap.size w A := by rw [← hA]; exact (Below.refl _ w).alloc (Nat.le_refl _) _
  have hsz : A.heap.size = w.heap.size + 1 := by rw [← hA]; simp
  have HX1 : Hid (A.heap[w.heap.size]? = some (.cells X.nil.cells 26 (0, 0))) := by show _ = _; rw [← hA]; exact heap_alloc_new _ _
  have HB : Hid (Below w.heap.size w A) := hB
  have HA : Hid (A.heap.size = w.heap.size + 1) := hsz
  clear hX hsm hJ hB hsz
  go_enter Try.func24, Try.ntmps24
  go_wp2
  change Code.wp _ _ _ _ (w.alloc (.cells X.nil.cells 26))
  rw [hA]
  clear hA
  go_loopw [5, 17] (fun u iv wr => ∃ i : Nat, i ≤ len ∧ iv = .int .i64 i ∧ Hid (wr.ownsRow (w.heap.size + 1) 26 7 u (partL 16 c i).length (rowL (partL 16 c i))) ∧ Below (w.heap.size + 1) A wr) (fun _ iv _ => len - (intOf iv).toNat)
  case atStart => exact ⟨0, Nat.zero_le _, rfl, World.ownsRow_nil _ _ _ _, Below.refl _ _⟩
  case round =>
    obtain ⟨i, hi, rfl, HO, hBr⟩ := hrel
    have hwr : Below w.heap.size w wr := HB.out.trans (hBr.mono (by omega))
    have hsr : w.heap.size + 1 ≤ wr.heap.size := by have := hBr.size; have := HA.out; omega
    by_cases hin : i < len
    · obtain ⟨b, o, ea, hn, hx⟩ := (HX.out.later hwr).part hin
      have ea' : a = some ⟨b, o, none⟩ := ea
      subst ea'
      have hn' : Node wr b (o + i * 7) (c i) := hn
      obtain ⟨d0, d1, d2, d3, d4, d5, d6⟩ := hn'
      have HIN : Hid (i < len) := hin
      have hl1 := len_sizeL (partL 16 c i)
      have hl2 := HSZ.out i (by omega)
      have hl3 := HCN.out i hin
      have hx' : IsX wr (c i) := hx
      have hBa : Below wr.heap.size wr (wr.alloc (.cells (c i).cells 26)) := (Below.refl _ _).alloc (Nat.le_refl _) _
      have HOa : (wr.alloc (.cells (c i).cells 26)).ownsRow (w.heap.size + 1) 26 7 _ (partL 16 c i).length (rowL (partL 16 c i)) := HO.out.alloc _
      have hsa : w.heap.size + 1 ≤ (wr.alloc (.cells (c i).cells 26)).heap.size := by simp; omega
      have hBra : Below (w.heap.size + 1) A (wr.alloc (.cells (c i).cells 26)) := hBr.trans (hBa.mono hsr)
      by_cases hk : (c i).k = 16
      · have hk' : ((c i).k == 16) = true := by simpa using hk
        obtain ⟨v1, w1, r1, o1, g1⟩ := push_kids HOa hsa (c i) (hx'.later hBa) (by omega)
        have HO1 : Hid (w1.ownsRow (w.heap.size + 1) 26 7 v1 (partL 16 c (i + 1)).length (rowL (partL 16 c (i + 1)))) := by show World.ownsRow _ _ _ _ _ _ _; rw [partL_hit hk]; exact o1
        have HB1 : Hid (Below (w.heap.size + 1) A w1) := hBra.grown g1 hsa fun q e => (HOa.lt q e).1
        clear ea hn hx hx' hin hk o1 g1 HOa hBa hsa hBra
        go_wp2_with (first | (at_builtin; refine wpList_append_run rfl (.tmp 25) (.tmp 27) 24 rfl _ _ _ rfl rfl r1 ?_))
        go_roundw
        case rel => exact ⟨i + 1, HIN.out, by go_num, HO1, HB1.out⟩
        case measure => have := HIN.out; simp [intOf]; omega
      · have hk' : ((c i).k == 16) = false := by simpa using hk
        obtain ⟨v1, w1, r1, o1, b1⟩ := push_one HOa hsa (c i) (by omega)
        have HO1 : Hid (w1.ownsRow (w.heap.size + 1) 26 7 v1 (partL 16 c (i + 1)).length (rowL (partL 16 c (i + 1)))) := by show World.ownsRow _ _ _ _ _ _ _; rw [partL_miss hk]; exact o1
        have HB1 : Hid (Below (w.heap.size + 1) A w1) := hBra.trans b1
        rw [World.size_alloc] at r1
        clear ea hn hx hx' hin hk o1 b1 HOa hBa hsa hBra
        go_wp2_with (first | (at_builtin; refine wpList_append_run rfl (.tmp 29) (.tmp 31) 24 rfl _ _ _ rfl rfl r1 ?_))
        go_roundw
        case rel => exact ⟨i + 1, HIN.out, by go_num, HO1, HB1.out⟩
        case measure => have := HIN.out; simp [intOf]; omega
    · obtain rfl : i = len := by omega
      obtain ⟨l, hl⟩ : ∃ l, l = partL 16 c i := ⟨_, rfl⟩
      have HPL := HPI.out i (Nat.le_refl _)
      have HS := HSZ.out i (Nat.le_refl _)
      rw [← hl] at HO HPL HS
      have HJL : Hid (J = joinX 16 l) := by show J = _; rw [hl]; exact HJ.out
      obtain ⟨a1, cap1, rfl, hrow, hg⟩ := own_list HO.out fun y hy => (HPL y hy).later hwr
      have hll := len_sizeL l
      clear hl HJ HSZ HPI HCN hin
      have z0 := (hBr.block w.heap.size (by omega)).trans HX1.out
      have Z0 : Hid (∀ W, Below wr.heap.size wr W → W.heap[w.heap.size]? = some (.cells X.nil.cells 26 (0, 0))) := fun W h => (h.block _ (by omega)).trans z0
      clear z0
      by_cases h1 : l.length = 1
      · obtain ⟨g, rfl, hgb, hn0⟩ := hg (by omega)
        obtain ⟨d0, d1, d2, d3, d4, d5, d6⟩ := hn0.at0
        obtain ⟨p, hp⟩ : ∃ p, p = atX l 0 := ⟨_, rfl⟩
        have hpm : p ∈ l := hp ▸ atX_mem (by omega)
        have cp := copied_any p wr ((HPL p hpm).later hwr) (by have := size_sizeL hpm; omega)
        have HCP : Hid (∀ W y, XA W y → ordX y p = 0 → (∀ k, inX k y → wr.heap.size ≤ k) → Below wr.heap.size wr W → JoinAns J w (.returned y.val) (set7 W w.heap.size y)) := fun W y q1 q2 q3 q4 =>
          join_fin q1.is (fun k hk => by have := q3 k hk; omega) (by rw [HJL.out, joinX_one h1, ← hp]; exact q2) (hwr.trans (q4.mono hwr.size))
        rw [← hp] at d0 d1 d2 d3 d4 d5 d6
        rw [h1]
        clear hrow hg hn0 hp hpm HJL HPL
        go_wp2_with (go_at_call 38; refine cp.mono ?_; clear cp; rintro e W ⟨y, rfl, q1, q2, q3, q4⟩; have z1 := Z0.out W q4; obtain ⟨e0, e1, e2, e3, e4, e5, e6⟩ := (node_box z1).at0; have gf : ∀ j, W.frozen? ⟨w.heap.size, j, none⟩ = false := fun j => Free.frozen ⟨_, z1⟩ j; have f0 := gf 0; have f1 := gf 1; have f2 := gf 2; have f3 := gf 3; have f4 := gf 4; have f5 := gf 5; have f6 := gf 6; clear gf)
        have hblk := heap_set7 (y := y) z1
        refine bodyPost_ret (results_cell_row rfl _ _ w.heap.size 26 _ (0, 0) _ rfl hblk Try.underlying26 rfl (by kernel_rfl)) rfl ?_
        exact HCP.out W y q1 q2 q3 q4
      · by_cases h0 : l.length = 0
        · have hl0 : l = [] := List.eq_nil_of_length_eq_zero h0
          have bo := bool_any true wr
          obtain ⟨W, hW⟩ : ∃ W, wr.alloc (valO 1 1 ⟨#[]⟩) = W := ⟨_, rfl⟩
          have HBO : Hid (Calls Try.prog 40 #[.bool true] wr fun e w' => e = .returned (valV 1 1 ⟨#[]⟩) ∧ w' = W) := by rw [← hW]; exact bo
          have hBW : Below wr.heap.size wr W := by rw [← hW]; exact (Below.refl _ _).alloc (Nat.le_refl _) _
          have z1 := Z0.out W hBW
          obtain ⟨y, hy⟩ : ∃ y, y = joinX 16 [] := ⟨_, rfl⟩
          have FIN : Hid (JoinAns J w (.returned y.val) (set7 W w.heap.size y)) := join_fin (by rw [hy]; exact ⟨by omega, by omega, fun i hi => by omega⟩) (fun q hq => by rw [hy] at hq; rcases hq with ⟨h, _⟩ | ⟨_, h, _⟩ <;> omega) (by rw [HJL.out, hl0, hy]; exact ordX_self _) (hwr.trans (hBW.mono hwr.size))
          have hblk := heap_set7 (y := y) z1
          obtain ⟨e0, e1, e2, e3, e4, e5, e6⟩ := (node_box z1).at0
          have gf : ∀ j, W.frozen? ⟨w.heap.size, j, none⟩ = false := fun j => Free.frozen ⟨_, z1⟩ j
          have f0 := gf 0
          have f1 := gf 1
          have f2 := gf 2
          have f3 := gf 3
          have f4 := gf 4
          have f5 := gf 5
          have f6 := gf 6
          subst hy
          rw [h0]
          clear gf hW bo hrow hg HJL HPL hl0 h0 h1
          go_wp2_with (go_at_call 40; refine HBO.out.mono ?_; clear HBO; rintro e w9 ⟨rfl, hw9⟩; replace hw9 := hw9.symm; subst hw9)
          refine bodyPost_ret (results_cell_row rfl _ _ w.heap.size 26 _ (0, 0) _ rfl hblk Try.underlying26 rfl (by kernel_rfl)) rfl ?_
          exact FIN.out
        · obtain ⟨hy1, hy2⟩ := join_row (k := 16) hrow hg HPL
          have cp := copied_any (X.mk 16 val0 ⟨#[]⟩ ⟨#[]⟩ a1 l.length cap1 (atX l)) wr hy1 (sizeL_at HS)
          have HCP : Hid (∀ W y, XA W y → ordX y (X.mk 16 val0 ⟨#[]⟩ ⟨#[]⟩ a1 l.length cap1 (atX l)) = 0 → (∀ k, inX k y → wr.heap.size ≤ k) → Below wr.heap.size wr W → JoinAns J w (.returned y.val) (set7 W w.heap.size y)) := fun W y q1 q2 q3 q4 =>
            join_fin q1.is (fun k hk => by have := q3 k hk; omega) (ordX_ztrans q2 (by rw [HJL.out]; exact joinX_more (by omega) _ _)) (hwr.trans (q4.mono hwr.size))
          obtain ⟨N, hN⟩ : ∃ N, N = l.length := ⟨_, rfl⟩
          rw [← hN] at h0 h1 cp HCP ⊢
          have n1 : ((N : Int) == 1) = false := by rw [beq_eq_false_iff_ne]; omega
          have n0 : ((N : Int) == 0) = false := by rw [beq_eq_false_iff_ne]; omega
          clear hrow hg HJL HPL hy1 hy2 hN h0 h1 hll HS HO
          go_wp2_with (go_at_call 38; refine cp.mono ?_; clear cp; rintro e W ⟨y, rfl, q1, q2, q3, q4⟩; have z1 := Z0.out W q4; obtain ⟨e0, e1, e2, e3, e4, e5, e6⟩ := (node_box z1).at0; have gf : ∀ j, W.frozen? ⟨w.heap.size, j, none⟩ = false := fun j => Free.frozen ⟨_, z1⟩ j; have f0 := gf 0; have f1 := gf 1; have f2 := gf 2; have f3 := gf 3; have f4 := gf 4; have f5 := gf 5; have f6 := gf 6; clear gf)
          have hblk := heap_set7 (y := y) z1
          refine bodyPost_ret (results_cell_row rfl _ _ w.heap.size 26 _ (0, 0) _ rfl hblk Try.underlying26 rfl (by kernel_rfl)) rfl ?_
          exact HCP.out W y q1 q2 q3 q4
set_option maxRecDepth 100000 in
set_option maxHeartbeats 8000000 in
theorem join_17 (a : Option Addr) (len cap : Nat) (c : Nat → X) (w : World) (hX : IsX w (X.all a len cap c)) (hsm : (X.all a len cap c).size ≤ 1048576) :
    Calls Try.prog 24 #[.int .i64 17, .slice a len cap] w (JoinAns (joinX 17 (partL 17 c len)) w) := by
  have HX : Hid (IsX w (X.all a len cap c)) := hX
  have hlen : len ≤ 1048576 := by have := length_le_size (X.all a len cap c); simp only [X.n] at this; omega
  have HSZ : Hid (∀ i, i ≤ len → sizeL (partL 17 c i) ≤ 1048575) := fun i hi => parts_small hsm 17 i hi
  have HPI : Hid (∀ i, i ≤ len → ∀ y ∈ partL 17 c i, IsX w y) := fun i hi => partL_is fun j hj => hX.parts j (Nat.lt_of_lt_of_le hj hi)
  have HCN : Hid (∀ i, i < len → (c i).n ≤ 1048576) := fun i hi => by
    have h1 := length_le_size (c i)
    have h2 := (X.all a len cap c).size_part i hi
    simp only [X.c] at h2
    omega
  obtain ⟨J, hJ⟩ : ∃ J, J = joinX 17 (partL 17 c len) := ⟨_, rfl⟩
  have HJ : Hid (J = joinX 17 (partL 17 c len)) := hJ
  rw [← hJ]
  obtain ⟨A, hA⟩ : ∃ A, w.alloc (.cells X.nil.cells 26) = A := ⟨_, rfl⟩
  have hB : Below w.heap.size w A := by rw [← hA]; exact (Below.refl _ w).alloc (Nat.le_refl _) _
  have hsz : A.heap.size = w.heap.size + 1 := by rw [← hA]; simp
  have HX1 : Hid (A.heap[w.heap.size]? = some (.cells X.nil.cells 26 (0, 0))) := by show _ = _; rw [← hA]; exact heap_alloc_new _ _
  have HB : Hid (Below w.heap.size w A) := hB
  have HA : Hid (A.heap.size = w.heap.size + 1) := hsz
  clear hX hsm hJ hB hsz
  go_enter Try.func24, Try.ntmps24
  go_wp2
  change Code.wp _ _ _ _ (w.alloc (.cells X.nil.cells 26))
  rw [hA]
  clear hA
  go_loopw [5, 17] (fun u iv wr => ∃ i : Nat, i ≤ len ∧ iv = .int .i64 i ∧ Hid (wr.ownsRow (w.heap.size + 1) 26 7 u (partL 17 c i).length (rowL (partL 17 c i))) ∧ Below (w.heap.size + 1) A wr) (fun _ iv _ => len - (intOf iv).toNat)
  case atStart => exact ⟨0, Nat.zero_le _, rfl, World.ownsRow_nil _ _ _ _, Below.refl _ _⟩
  case round =>
    obtain ⟨i, hi, rfl, HO, hBr⟩ := hrel
    have hwr : Below w.heap.size w wr := HB.out.trans (hBr.mono (by omega))
    have hsr : w.heap.size + 1 ≤ wr.heap.size := by have := hBr.size; have := HA.out; omega
    by_cases hin : i < len
    · obtain ⟨b, o, ea, hn, hx⟩ := (HX.out.later hwr).part hin
      have ea' : a = some ⟨b, o, none⟩ := ea
      subst ea'
      have hn' : Node wr b (o + i * 7) (c i) := hn
      obtain ⟨d0, d1, d2, d3, d4, d5, d6⟩ := hn'
      have HIN : Hid (i < len) := hin
      have hl1 := len_sizeL (partL 17 c i)
      have hl2 := HSZ.out i (by omega)
      have hl3 := HCN.out i hin
      have hx' : IsX wr (c i) := hx
      have hBa : Below wr.heap.size wr (wr.alloc (.cells (c i).cells 26)) := (Below.refl _ _).alloc (Nat.le_refl _) _
      have HOa : (wr.alloc (.cells (c i).cells 26)).ownsRow (w.heap.size + 1) 26 7 _ (partL 17 c i).length (rowL (partL 17 c i)) := HO.out.alloc _
      have hsa : w.heap.size + 1 ≤ (wr.alloc (.cells (c i).cells 26)).heap.size := by simp; omega
      have hBra : Below (w.heap.size + 1) A (wr.alloc (.cells (c i).cells 26)) := hBr.trans (hBa.mono hsr)
      by_cases hk : (c i).k = 17
      · have hk' : ((c i).k == 17) = true := by simpa using hk
        obtain ⟨v1, w1, r1, o1, g1⟩ := push_kids HOa hsa (c i) (hx'.later hBa) (by omega)
        have HO1 : Hid (w1.ownsRow (w.heap.size + 1) 26 7 v1 (partL 17 c (i + 1)).length (rowL (partL 17 c (i + 1)))) := by show World.ownsRow _ _ _ _ _ _ _; rw [partL_hit hk]; exact o1
        have HB1 : Hid (Below (w.heap.size + 1) A w1) := hBra.grown g1 hsa fun q e => (HOa.lt q e).1
        clear ea hn hx hx' hin hk o1 g1 HOa hBa hsa hBra
        go_wp2_with (first | (at_builtin; refine wpList_append_run rfl (.tmp 25) (.tmp 27) 24 rfl _ _ _ rfl rfl r1 ?_))
        go_roundw
        case rel => exact ⟨i + 1, HIN.out, by go_num, HO1, HB1.out⟩
        case measure => have := HIN.out; simp [intOf]; omega
      · have hk' : ((c i).k == 17) = false := by simpa using hk
        obtain ⟨v1, w1, r1, o1, b1⟩ := push_one HOa hsa (c i) (by omega)
        have HO1 : Hid (w1.ownsRow (w.heap.size + 1) 26 7 v1 (partL 17 c (i + 1)).length (rowL (partL 17 c (i + 1)))) := by show World.ownsRow _ _ _ _ _ _ _; rw [partL_miss hk]; exact o1
        have HB1 : Hid (Below (w.heap.size + 1) A w1) := hBra.trans b1
        rw [World.size_alloc] at r1
        clear ea hn hx hx' hin hk o1 b1 HOa hBa hsa hBra
        go_wp2_with (first | (at_builtin; refine wpList_append_run rfl (.tmp 29) (.tmp 31) 24 rfl _ _ _ rfl rfl r1 ?_))
        go_roundw
        case rel => exact ⟨i + 1, HIN.out, by go_num, HO1, HB1.out⟩
        case measure => have := HIN.out; simp [intOf]; omega
    · obtain rfl : i = len := by omega
      obtain ⟨l, hl⟩ : ∃ l, l = partL 17 c i := ⟨_, rfl⟩
      have HPL := HPI.out i (Nat.le_refl _)
      have HS := HSZ.out i (Nat.le_refl _)
      rw [← hl] at HO HPL HS
      have HJL : Hid (J = joinX 17 l) := by show J = _; rw [hl]; exact HJ.out
      obtain ⟨a1, cap1, rfl, hrow, hg⟩ := own_list HO.out fun y hy => (HPL y hy).later hwr
      have hll := len_sizeL l
      clear hl HJ HSZ HPI HCN hin
      have z0 := (hBr.block w.heap.size (by omega)).trans HX1.out
      have Z0 : Hid (∀ W, Below wr.heap.size wr W → W.heap[w.heap.size]? = some (.cells X.nil.cells 26 (0, 0))) := fun W h => (h.block _ (by omega)).trans z0
      clear z0
      by_cases h1 : l.length = 1
      · obtain ⟨g, rfl, hgb, hn0⟩ := hg (by omega)
        obtain ⟨d0, d1, d2, d3, d4, d5, d6⟩ := hn0.at0
        obtain ⟨p, hp⟩ : ∃ p, p = atX l 0 := ⟨_, rfl⟩
        have hpm : p ∈ l := hp ▸ atX_mem (by omega)
        have cp := copied_any p wr ((HPL p hpm).later hwr) (by have := size_sizeL hpm; omega)
        have HCP : Hid (∀ W y, XA W y → ordX y p = 0 → (∀ k, inX k y → wr.heap.size ≤ k) → Below wr.heap.size wr W → JoinAns J w (.returned y.val) (set7 W w.heap.size y)) := fun W y q1 q2 q3 q4 =>
          join_fin q1.is (fun k hk => by have := q3 k hk; omega) (by rw [HJL.out, joinX_one h1, ← hp]; exact q2) (hwr.trans (q4.mono hwr.size))
        rw [← hp] at d0 d1 d2 d3 d4 d5 d6
        rw [h1]
        clear hrow hg hn0 hp hpm HJL HPL
        go_wp2_with (go_at_call 38; refine cp.mono ?_; clear cp; rintro e W ⟨y, rfl, q1, q2, q3, q4⟩; have z1 := Z0.out W q4; obtain ⟨e0, e1, e2, e3, e4, e5, e6⟩ := (node_box z1).at0; have gf : ∀ j, W.frozen? ⟨w.heap.size, j, none⟩ = false := fun j => Free.frozen ⟨_, z1⟩ j; have f0 := gf 0; have f1 := gf 1; have f2 := gf 2; have f3 := gf 3; have f4 := gf 4; have f5 := gf 5; have f6 := gf 6; clear gf)
        have hblk := heap_set7 (y := y) z1
        refine bodyPost_ret (results_cell_row rfl _ _ w.heap.size 26 _ (0, 0) _ rfl hblk Try.underlying26 rfl (by kernel_rfl)) rfl ?_
        exact HCP.out W y q1 q2 q3 q4
      · by_cases h0 : l.length = 0
        · have hl0 : l = [] := List.eq_nil_of_length_eq_zero h0
          have bo := bool_any false wr
          obtain ⟨W, hW⟩ : ∃ W, wr.alloc (valO 1 0 ⟨#[]⟩) = W := ⟨_, rfl⟩
          have HBO : Hid (Calls Try.prog 40 #[.bool false] wr fun e w' => e = .returned (valV 1 0 ⟨#[]⟩) ∧ w' = W) := by rw [← hW]; exact bo
          have hBW : Below wr.heap.size wr W := by rw [← hW]; exact (Below.refl _ _).alloc (Nat.le_refl _) _
          have z1 := Z0.out W hBW
          obtain ⟨y, hy⟩ : ∃ y, y = joinX 17 [] := ⟨_, rfl⟩
          have FIN : Hid (JoinAns J w (.returned y.val) (set7 W w.heap.size y)) := join_fin (by rw [hy]; exact ⟨by omega, by omega, fun i hi => by omega⟩) (fun q hq => by rw [hy] at hq; rcases hq with ⟨h, _⟩ | ⟨_, h, _⟩ <;> omega) (by rw [HJL.out, hl0, hy]; exact ordX_self _) (hwr.trans (hBW.mono hwr.size))
          have hblk := heap_set7 (y := y) z1
          obtain ⟨e0, e1, e2, e3, e4, e5, e6⟩ := (node_box z1).at0
          have gf : ∀ j, W.frozen? ⟨w.heap.size, j, none⟩ = false := fun j => Free.frozen ⟨_, z1⟩ j
          have f0 := gf 0
          have f1 := gf 1
          have f2 := gf 2
          have f3 := gf 3
          have f4 := gf 4
          have f5 := gf 5
          have f6 := gf 6
          subst hy
          rw [h0]
          clear gf hW bo hrow hg HJL HPL hl0 h0 h1
          go_wp2_with (go_at_call 40; refine HBO.out.mono ?_; clear HBO; rintro e w9 ⟨rfl, hw9⟩; replace hw9 := hw9.symm; subst hw9)
          refine bodyPost_ret (results_cell_row rfl _ _ w.heap.size 26 _ (0, 0) _ rfl hblk Try.underlying26 rfl (by kernel_rfl)) rfl ?_
          exact FIN.out
        · obtain ⟨hy1, hy2⟩ := join_row (k := 17) hrow hg HPL
          have cp := copied_any (X.mk 17 val0 ⟨#[]⟩ ⟨#[]⟩ a1 l.length cap1 (atX l)) wr hy1 (sizeL_at HS)
          have HCP : Hid (∀ W y, XA W y → ordX y (X.mk 17 val0 ⟨#[]⟩ ⟨#[]⟩ a1 l.length cap1 (atX l)) = 0 → (∀ k, inX k y → wr.heap.size ≤ k) → Below wr.heap.size wr W → JoinAns J w (.returned y.val) (set7 W w.heap.size y)) := fun W y q1 q2 q3 q4 =>
            join_fin q1.is (fun k hk => by have := q3 k hk; omega) (ordX_ztrans q2 (by rw [HJL.out]; exact joinX_more (by omega) _ _)) (hwr.trans (q4.mono hwr.size))
          obtain ⟨N, hN⟩ : ∃ N, N = l.length := ⟨_, rfl⟩
          rw [← hN] at h0 h1 cp HCP ⊢
          have n1 : ((N : Int) == 1) = false := by rw [beq_eq_false_iff_ne]; omega
          have n0 : ((N : Int) == 0) = false := by rw [beq_eq_false_iff_ne]; omega
          clear hrow hg HJL HPL hy1 hy2 hN h0 h1 hll HS HO
          go_wp2_with (go_at_call 38; refine cp.mono ?_; clear cp; rintro e W ⟨y, rfl, q1, q2, q3, q4⟩; have z1 := Z0.out W q4; obtain ⟨e0, e1, e2, e3, e4, e5, e6⟩ := (node_box z1).at0; have gf : ∀ j, W.frozen? ⟨w.heap.size, j, none⟩ = false := fun j => Free.frozen ⟨_, z1⟩ j; have f0 := gf 0; have f1 := gf 1; have f2 := gf 2; have f3 := gf 3; have f4 := gf 4; have f5 := gf 5; have f6 := gf 6; clear gf)
          have hblk := heap_set7 (y := y) z1
          refine bodyPost_ret (results_cell_row rfl _ _ w.heap.size 26 _ (0, 0) _ rfl hblk Try.underlying26 rfl (by kernel_rfl)) rfl ?_
          exact HCP.out W y q1 q2 q3 q4
set_option maxRecDepth 100000 in
set_option maxHeartbeats 2000000 in
theorem join_other (k : Int) (a : Option Addr) (len cap : Nat) (w : World) (h6 : ¬ k = 16) (h7 : ¬ k = 17) :
    Calls Try.prog 24 #[.int .i64 k, .slice a len cap] w (JoinAns .nil w) := by
  have FIN : JoinAns .nil w (.returned X.nil.val) (w.alloc (.cells X.nil.cells 26)) := ⟨.nil, rfl, trivial, ordX_self _, (Below.refl _ _).alloc (Nat.le_refl _) _⟩
  have hblk : (w.alloc (.cells X.nil.cells 26)).heap[w.heap.size]? = some (.cells X.nil.cells 26 (0, 0)) := heap_alloc_new _ _
  have n6 : (k != 16) = true := by simpa using h6
  have n7 : (k != 17) = true := by simpa using h7
  go_enter Try.func24, Try.ntmps24
  go_wp2
  refine bodyPost_ret (results_cell_row rfl _ _ w.heap.size 26 _ (0, 0) _ rfl hblk Try.underlying26 rfl (by kernel_rfl)) rfl ?_
  exact FIN
theorem join_any (k : Int) (a : Option Addr) (len cap : Nat) (c : Nat → X) (w : World) (hX : IsX w (X.all a len cap c)) (hsm : (X.all a len cap c).size ≤ 1048576) :
    Calls Try.prog 24 #[.int .i64 k, .slice a len cap] w (JoinAns (joinZ k c len) w) := by
  unfold joinZ
  by_cases h6 : k = 16
  · subst h6
    exact join_16 a len cap c w hX hsm
  · rw [if_neg h6]
    by_cases h7 : k = 17
    · subst h7
      exact join_17 a len cap c w hX hsm
    · rw [if_neg h7]
      exact join_other k a len cap w h6 h7
end Go.Proofs.Ytbmbdiimbhfeaaa
