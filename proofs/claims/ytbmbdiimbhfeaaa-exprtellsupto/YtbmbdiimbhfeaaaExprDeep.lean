/-
  expr.Deep and the document's.
-/
import Derived.Test.YtbmbdiimbhfeaaaExprLight
namespace Go.Proofs.Ytbmbdiimbhfeaaa
open Go.RowKit Go.Shelf
attribute [local go_sem] Oper.semAt_some

/-- The greatest of what is told of the nodes. -/
def mxL (l : List (Int × X)) : Int := l.foldl (fun m v => max m v.1) 0
theorem mxL_snoc (l : List (Int × X)) (v : Int × X) : mxL (l ++ [v]) = max (mxL l) v.1 := by simp [mxL]
theorem wrap_small {n : Int} (h0 : 0 ≤ n) (h1 : n < 9223372036854775808) : IntKind.i64.wrap n = n := by
  simp [IntKind.wrap, IntKind.bits, IntKind.signed]
  omega
theorem maxN_le {f : Nat → Nat} : ∀ {n i : Nat}, i < n → f i ≤ maxN f n
  | 0, _, h => by omega
  | n + 1, i, h => by
    simp only [maxN]
    by_cases e : i = n
    · subst e; omega
    · have := maxN_le (f := f) (show i < n by omega); omega
theorem X.deep_part (x : X) (i : Nat) (h : i < x.n) : (x.c i).deep < x.deep := by
  have := maxN_le (f := fun i => (x.c i).deep) h
  rw [x.deep_eq]
  omega
theorem X.deep_size : ∀ x : X, x.deep ≤ x.size := by
  refine X.ind fun x ih => ?_
  have : ∀ m, m ≤ x.n → maxN (fun i => (x.c i).deep) m ≤ sumN (fun i => (x.c i).size) m := by
    intro m
    induction m with
    | zero => intro _; exact Nat.le_refl _
    | succ m ihm => intro hm; have h1 := ihm (by omega); have h2 := ih m (by omega); simp only [maxN, sumN]; omega
  have := this x.n (Nat.le_refl _)
  rw [x.deep_eq, x.size_eq]
  omega
theorem fold_vis : ∀ (x : X) (d : Int) (m : Int), 0 ≤ d → d + x.deep < 9223372036854775808 → (visX d x).foldl (fun m v => max m v.1) m = max m (d + x.deep - 1) := by
  refine X.ind fun x ih d m hd hb => ?_
  have hw : 0 < x.n → IntKind.i64.wrap (d + 1) = d + 1 := fun h0 => by
    have := x.deep_part 0 h0
    exact wrap_small (by omega) (by omega)
  have : ∀ k, k ≤ x.n → (catN (fun i => visX (IntKind.i64.wrap (d + 1)) (x.c i)) k).foldl (fun m v => max m v.1) (max m d) = max (max m d) (d + maxN (fun i => (x.c i).deep) k) := by
    intro k
    induction k with
    | zero => intro _; simp only [catN, List.foldl_nil, maxN]; omega
    | succ k ihk =>
      intro hk
      have hp := x.deep_part k (by omega)
      simp only [catN, List.foldl_append, maxN]
      rw [ihk (by omega), hw (by omega), ih k (by omega) (d + 1) _ (by omega) (by omega)]
      omega
  have h2 := this x.n (Nat.le_refl _)
  rw [visX_eq, List.foldl_cons, h2, x.deep_eq]
  omega
theorem mx_vis (x : X) (h : x.size ≤ 1048576) : mxL (visX 1 x) = x.deep := by
  have h1 := x.deep_size
  have h2 : 1 ≤ x.deep := by rw [x.deep_eq]; omega
  rw [mxL, fold_vis x 1 0 (by omega) (by omega)]
  omega

set_option maxRecDepth 100000 in
set_option maxHeartbeats 2000000 in
theorem deep_in (n : Nat) (x : X) (w : World) (hX : IsX w x) (hsm : x.size ≤ 1048576) :
    CallsIn Fence.wide n Try.prog 13 #[x.val] w fun e w' => e = .returned (.int .i64 (x.deep : Int)) ∧ Below w.heap.size w w' := by
  have hdd : ∀ k : Nat, (Fence.wide.depth.isSome = true → 1 ≤ k) := fun k h => by cases h
  refine callsIn_of_wp_marks Try.func13 rfl trivial ?_ rfl
  simp only [Try.ntmps13, List.size_toArray, List.length_cons, List.length_nil, Nat.reduceAdd, Nat.reduceSub, Array.replicate_succ, Array.replicate_zero, List.push_toArray, List.append_toArray, List.nil_append, List.cons_append]
  gi_wp2_with (refine ⟨trivial, hdd _, ?_⟩; gi_at_call 26; refine (nodes_in _ _ _).mono ?_; rintro e w' ⟨rfl, rfl⟩)
  obtain ⟨A, hA⟩ : ∃ A, (((w.alloc (.cells x.cells 26)).alloc (.cells #[.int .i64 0] 3)).alloc (.cells #[.pointer (some ⟨w.heap.size, 0, none⟩)] 46)) = A := ⟨_, rfl⟩
  have hsz : A.heap.size = w.heap.size + 3 := by rw [← hA]; simp
  have hB : Below w.heap.size w A := by rw [← hA]; exact (((Below.refl _ w).alloc (Nat.le_refl _) _).alloc (by simp) _).alloc (by simp; omega) _
  have hnode : Node A w.heap.size 0 x := by
    rw [← hA]
    exact ((node_new w 26 x).later ((Below.refl _ _).alloc (Nat.le_refl _) _)).later ((Below.refl _ _).alloc (Nat.le_refl _) _)
  have hbn : Boxed A (w.heap.size + 1) 3 (.int .i64 0) := by
    have := (Boxed.new (w.alloc (.cells x.cells 26)) 3 (.int .i64 0)).alloc (.cells #[.pointer (some ⟨w.heap.size, 0, none⟩)] 46)
    rw [World.size_alloc, hA] at this
    exact this
  have hbp : Boxed A (w.heap.size + 1 + 1) 46 (.pointer (some ⟨w.heap.size, 0, none⟩)) := by
    have := Boxed.new ((w.alloc (.cells x.cells 26)).alloc (.cells #[.int .i64 0] 3)) 46 (.pointer (some ⟨w.heap.size, 0, none⟩))
    rw [World.size_alloc, World.size_alloc, hA] at this
    exact this
  rw [hA]
  refine nodes_fold (w.heap.size + 1 + 1) w.heap.size 0 x (fun k => k < w.heap.size + 1) (fun pre W => Boxed W (w.heap.size + 1) 3 (.int .i64 (mxL pre)) ∧ Below w.heap.size w W) (fun _ _ => False)
    rfl rfl hbp.cell (fun k hk => by omega) (by omega) hnode (XIn.xt (n := w.heap.size) (fun k hk => by omega) (hX.inn.below hB)) ?_ ?_ ?_ ?_
    (fun d b o => { tmps := #[x.val, .pointer (some ⟨w.heap.size, 0, none⟩), .int .i64 0, .pointer (some ⟨w.heap.size + 1, 0, none⟩), .int .i64 d, .func (.func 42) #[] #[.pointer (some ⟨w.heap.size + 1 + 1, 0, none⟩)], .int .i64 d, .pointer (some ⟨b, o, none⟩), undef, undef, undef, undef], defers := [] }) ?_ ?_ ?_ ?_
  · rintro pre W B hag ⟨h1, h2⟩
    exact ⟨hag.boxed h1, hag.below (by omega) h2⟩
  · exact fun pre W h => ⟨h.1, h.2.drew⟩
  · exact fun W h => ⟨Boxed.kept_of hbn h (by omega), hB.trans (h.mono (by omega))⟩
  · exact fun _ _ _ _ h => h
  · intro l d b o W K hK
    gi_wp2
    first | exact hK | simpa using hK
  · rintro l d b o y pre W hb hn hx ⟨h1, h2⟩ hs -
    have c1 := h1.cell
    have f1 := h1.frozen
    gi_wp2
    · have e : mxL (pre ++ [(d, y)]) = d := by rw [mxL_snoc]; show max (mxL pre) d = d; omega
      exact ⟨(KeepsOthers.setCell _ _ _).from _, Kp.set _ (by simp), by rw [e]; exact h1.set _, h2.setCell (p := ⟨w.heap.size + 1, 0, none⟩) (by simp) _⟩
    · have e : mxL (pre ++ [(d, y)]) = mxL pre := by rw [mxL_snoc]; show max (mxL pre) d = mxL pre; omega
      exact ⟨(KeepsOthers.setCell _ _ _).from _, Kp.set _ (by simp), by rw [e]; exact h1.set _, h2.setCell (p := ⟨w.heap.size + 1, 0, none⟩) (by simp) _⟩
  · rintro D W hD ⟨h1, h2⟩ hK
    have c1 := h1.cell
    gi_wp2
    refine ⟨by simp, .inl ⟨_, _, rfl, run_takeDeferred hK, ?_⟩⟩
    exact ⟨_, results_tmp rfl _ _ _, by rw [mx_vis x hsm]; rfl, h2.trans (belowK_b (w := w) (Nat.le_refl _) W D _ _ (by omega) hK rfl rfl)⟩
  · exact fun _ _ _ _ h _ => h.elim
theorem deep_any (x : X) (w : World) (hX : IsX w x) (hsm : x.size ≤ 1048576) : Calls Try.prog 13 #[x.val] w fun e w' => e = .returned (.int .i64 (x.deep : Int)) ∧ Below w.heap.size w w' :=
  (callsIn_wide (n := 3)).1 (deep_in 3 x w hX hsm)
set_option maxRecDepth 100000 in
set_option maxHeartbeats 4000000 in
theorem refDeep_any : ∀ (x : X) (w : World), IsX w x → x.size ≤ 1048576 → Calls Try.prog 14 #[x.val] w fun e w' => e = .returned (.int .i64 (x.deep : Int)) ∧ Below w.heap.size w w' := by
  refine X.ind fun x ih w hX hsm => ?_
  have HR : Hid (x.deep = maxN (fun i => (x.c i).deep) x.n + 1) := x.deep_eq
  have HD : Hid (x.deep ≤ 1048576) := Nat.le_trans x.deep_size hsm
  have HI : Hid (∀ i, i < x.n → ∀ w, IsX w (x.c i) → Calls Try.prog 14 #[(x.c i).val] w fun e w' => e = .returned (.int .i64 ((x.c i).deep : Int)) ∧ Below w.heap.size w w') := fun i hi w h => ih i hi w h (by have := x.size_part i hi; omega)
  have HX : Hid (IsX w x) := hX
  have hlen := hX.len
  obtain ⟨A, hA⟩ : ∃ A, w.alloc (.cells x.cells 26) = A := ⟨_, rfl⟩
  have HB : Hid (Below w.heap.size w A) := by show Below _ _ _; rw [← hA]; exact (Below.refl _ w).alloc (Nat.le_refl _) _
  have HN : Hid (Node A w.heap.size 0 x) := by show Node _ _ _ _; rw [← hA]; exact node_new w _ x
  have hs : A.heap.size = w.heap.size + 1 := by rw [← hA]; simp
  clear ih hX hsm
  go_enter Try.func14, Try.ntmps14
  go_wp2_with fail
  go_loopw [3, 4] (fun u v wr => ∃ k m : Nat, k ≤ x.n ∧ u = .int .i64 (m : Int) ∧ Hid (m = maxN (fun i => (x.c i).deep) k) ∧ v = .int .i64 k ∧ Below A.heap.size A wr) (fun _ v _ => x.n - (intOf v).toNat)
  case atStart => exact ⟨0, 0, Nat.zero_le _, rfl, rfl, rfl, Below.refl _ _⟩
  case round =>
    obtain ⟨k, m, hk, rfl, Hm, rfl, hB⟩ := hrel
    obtain ⟨-, -, -, -, -, -, c6⟩ := (node_on HN.out (hB.mono (by omega))).at0
    have hw := HB.out.trans (hB.mono (by omega))
    by_cases hkn : k < x.n
    · obtain ⟨b, o, ea, hn, hx⟩ := (HX.out.later hw).part hkn
      rw [ea] at c6
      obtain ⟨d0, d1, d2, d3, d4, d5, d6⟩ := hn
      have hc := HI.out k hkn wr hx
      obtain ⟨q, hq⟩ : ∃ q, q = (x.c k).deep := ⟨_, rfl⟩
      rw [← hq] at hc
      have HQ : Hid (q = (x.c k).deep) := hq
      have HK : Hid (k < x.n) := hkn
      clear hx hw hq
      go_wp2_with (go_at_call 14; refine hc.mono ?_; rintro e w2 ⟨rfl, hB2⟩)
      refine ⟨⟨k + 1, max m q, HK.out, ?_, by show max m q = max (maxN _ k) _; rw [← Hm.out]; show max m q = max m (x.c k).deep; rw [← HQ.out], by simp, hB.trans (hB2.mono hB.size)⟩, by have := HK.out; simp [intOf]; omega⟩
      by_cases hmq : m < q
      · rw [if_pos hmq, show max m q = q by omega]
      · rw [if_neg hmq, show max m q = m by omega]
    · have hk' : k = x.n := by omega
      subst hk'
      have e : x.deep = m + 1 := by rw [HR.out, Hm.out]
      have e2 := HD.out
      have hm1 : m + 1 ≤ 1048576 := by omega
      go_wp2
      go_ret
      exact ⟨ret_int (by omega), hw⟩
end Go.Proofs.Ytbmbdiimbhfeaaa
