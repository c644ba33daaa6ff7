/-
  pat.Size.
-/
import Derived.Test.YtjclelmbpmlioaaPatNodes
namespace Go.Proofs.Ytjclelmbpmlioaa
open Go.RowKit Go.Shelf
attribute [local go_sem] Oper.semAt_some

set_option maxRecDepth 100000 in
set_option maxHeartbeats 2000000 in
theorem sizeP_in (n : Nat) (x : Pt) (w : World) (hX : IsP w x) (hsm : x.size ≤ 1048576) :
    CallsIn Fence.wide n Try.prog 22 #[x.val] w fun e w' => e = .returned (.int .i64 x.size) ∧ Below w.heap.size w w' := by
  have hdd : ∀ k : Nat, (Fence.wide.depth.isSome = true → 1 ≤ k) := fun k h => by cases h
  refine callsIn_of_wp_marks Try.func22 rfl trivial ?_ rfl
  simp only [Try.ntmps22, List.size_toArray, List.length_cons, List.length_nil, Nat.reduceAdd, Nat.reduceSub, Array.replicate_succ, Array.replicate_zero, List.push_toArray, List.append_toArray, List.nil_append, List.cons_append]
  gi_wp2_with (refine ⟨trivial, hdd _, ?_⟩; gi_at_call 27; refine (nodesP_in _ _ _).mono ?_; rintro e w' ⟨rfl, rfl⟩)
  obtain ⟨A, hA⟩ : ∃ A, (((w.alloc (.cells x.cells 24)).alloc (.cells #[.int .i64 0] 3)).alloc (.cells #[.pointer (some ⟨w.heap.size, 0, none⟩)] 55)) = A := ⟨_, rfl⟩
  have hsz : A.heap.size = w.heap.size + 3 := by rw [← hA]; simp
  have hB : Below w.heap.size w A := by rw [← hA]; exact (((Below.refl _ w).alloc (Nat.le_refl _) _).alloc (by simp) _).alloc (by simp; omega) _
  have hnode : NodeP A w.heap.size 0 x := by
    rw [← hA]
    exact ((nodeP_new w 24 x).later ((Below.refl _ _).alloc (Nat.le_refl _) _)).later ((Below.refl _ _).alloc (Nat.le_refl _) _)
  have hbn : Boxed A (w.heap.size + 1) 3 (.int .i64 0) := by
    have := (Boxed.new (w.alloc (.cells x.cells 24)) 3 (.int .i64 0)).alloc (.cells #[.pointer (some ⟨w.heap.size, 0, none⟩)] 55)
    rw [World.size_alloc, hA] at this
    exact this
  have hbp : Boxed A (w.heap.size + 1 + 1) 55 (.pointer (some ⟨w.heap.size, 0, none⟩)) := by
    have := Boxed.new ((w.alloc (.cells x.cells 24)).alloc (.cells #[.int .i64 0] 3)) 55 (.pointer (some ⟨w.heap.size, 0, none⟩))
    rw [World.size_alloc, World.size_alloc, hA] at this
    exact this
  rw [hA]
  refine nodesP_fold (w.heap.size + 1 + 1) w.heap.size 0 x (fun k => k < w.heap.size + 1) (fun pre W => Boxed W (w.heap.size + 1) 3 (.int .i64 pre.length) ∧ Below w.heap.size w W) (fun _ _ => False)
    rfl rfl hbp.cell hsm (fun k hk => by omega) (by omega) hnode (PIn.xt (n := w.heap.size) (fun k hk => by omega) (hX.inn.below hB)) ?_ ?_ ?_ ?_
    (fun d b o => { tmps := #[x.val, .pointer (some ⟨w.heap.size, 0, none⟩), .int .i64 0, .pointer (some ⟨w.heap.size + 1, 0, none⟩), .func (.func 44) #[] #[.pointer (some ⟨w.heap.size + 1 + 1, 0, none⟩)], .int .i64 d, .pointer (some ⟨b, o, none⟩), undef, undef, undef], defers := [] }) ?_ ?_ ?_ ?_
  · rintro pre W B hag ⟨h1, h2⟩
    exact ⟨hag.boxed h1, hag.below (by omega) h2⟩
  · exact fun pre W h => ⟨h.1, h.2.drew⟩
  · exact fun W h => ⟨Boxed.kept_of hbn h (by omega), hB.trans (h.mono (by omega))⟩
  · exact fun _ _ _ _ h => h
  · intro l d b o W K hK
    gi_wp2
    simpa using hK
  · rintro l d b o y pre W hb hn hx ⟨h1, h2⟩ hs ⟨post, hpo⟩
    have hlen : pre.length < 1048576 := by
      have := congrArg List.length hpo
      rw [length_visP, List.length_append, List.length_cons] at this
      omega
    generalize hq : pre.length = q at hlen h1
    have HQ : Hid (pre.length = q) := hq
    clear hq hpo
    have c1 := h1.cell
    have f1 := h1.frozen
    gi_wp2
    exact ⟨(KeepsOthers.setCell _ _ _).from _, Kp.set _ (by simp; omega), by rw [List.length_append, HQ.out]; exact h1.set _, h2.setCell (p := ⟨w.heap.size + 1, 0, none⟩) (by simp) _⟩
  · rintro D W hD ⟨h1, h2⟩ hK
    have c1 := h1.cell
    gi_wp2
    refine ⟨by simp, .inl ⟨_, _, rfl, run_takeDeferred hK, ?_⟩⟩
    exact ⟨_, results_tmp rfl _ _ _, by rw [length_visP]; rfl, h2.trans (belowK_b (w := w) (Nat.le_refl _) W D _ _ (by omega) hK rfl rfl)⟩
  · exact fun _ _ _ _ h _ => h.elim
theorem sizeP_any (x : Pt) (w : World) (hX : IsP w x) (hsm : x.size ≤ 1048576) : Calls Try.prog 22 #[x.val] w fun e w' => e = .returned (.int .i64 x.size) ∧ Below w.heap.size w w' :=
  (callsIn_wide (n := 3)).1 (sizeP_in 3 x w hX hsm)
set_option maxRecDepth 100000 in
set_option maxHeartbeats 4000000 in
theorem refSizeP_any : ∀ (x : Pt) (w : World), IsP w x → x.size ≤ 1048576 → Calls Try.prog 21 #[x.val] w fun e w' => e = .returned (.int .i64 x.size) ∧ Below w.heap.size w w' := by
  refine Pt.ind fun x ih w hX hsm => ?_
  obtain ⟨r, hr⟩ : ∃ r : Int, r = x.size := ⟨_, rfl⟩
  have HR : Hid (r = ((1 + sumN (fun i => (x.c i).size) x.n : Nat) : Int)) := by show r = _; rw [hr, x.size_eq]
  rw [← hr]
  have HI : Hid (∀ i, i < x.n → ∀ w, IsP w (x.c i) → Calls Try.prog 21 #[(x.c i).val] w fun e w' => e = .returned (.int .i64 (x.c i).size) ∧ Below w.heap.size w w') := fun i hi w h => ih i hi w h (by have := x.size_part i hi; omega)
  have HX : Hid (IsP w x) := hX
  have hlen := hX.len
  have HS : Hid (∀ k, k < x.n → 1 + sumN (fun i => (x.c i).size) k + (x.c k).size ≤ 1048576) := fun k hk => by have := sumN_part (f := fun i => (x.c i).size) hk; have := x.size_eq; omega
  obtain ⟨A, hA, hB0, hs, hN⟩ := boxP_one x w
  have HB : Hid (Below w.heap.size w A) := hB0
  have HN : Hid (NodeP A w.heap.size 0 x) := hN
  clear ih hX hr hB0 hN hsm
  go_enter Try.func21, Try.ntmps21
  go_wp2_with fail
  go_loopw [3, 4] (fun u v wr => ∃ k : Nat, k ≤ x.n ∧ u = .int .i64 ((1 + sumN (fun i => (x.c i).size) k : Nat) : Int) ∧ v = .int .i64 k ∧ Below A.heap.size A wr) (fun _ v _ => x.n - (intOf v).toNat)
  case atStart => exact ⟨0, Nat.zero_le _, rfl, rfl, Below.refl _ _⟩
  case round =>
    obtain ⟨k, hk, rfl, rfl, hB⟩ := hrel
    obtain ⟨-, -, -, -, -, c6⟩ := (nodeP_on HN.out (hB.mono (by omega))).at0
    have hw := HB.out.trans (hB.mono (by omega))
    by_cases hkn : k < x.n
    · obtain ⟨b, o, ea, hn, hx⟩ := (HX.out.later hw).part hkn
      rw [ea] at c6
      obtain ⟨d0, d1, d2, d3, d4, d5⟩ := hn
      have hc := HI.out k hkn wr hx
      have HK : Hid (k < x.n) := hkn
      have HQ : Hid (Below w.heap.size w wr) := hw
      have hb := HS.out k hkn
      have HE : Hid (1 + sumN (fun i => (x.c i).size) (k + 1) = 1 + sumN (fun i => (x.c i).size) k + (x.c k).size) := by show _ = _; simp only [sumN]; omega
      generalize 1 + sumN (fun i => (x.c i).size) k = p at hb HE ⊢
      generalize (x.c k).size = q at hc hb HE
      clear hx hw
      go_wp2_with (go_at_call 21; refine hc.mono ?_; rintro e w2 ⟨rfl, hB2⟩)
      exact ⟨⟨k + 1, HK.out, by rw [HE.out]; simp, by simp, hB.trans (hB2.mono hB.size)⟩, by have := HK.out; simp [intOf]; omega⟩
    · have hk' : k = x.n := by omega
      subst hk'
      go_wp2
      go_ret
      exact ⟨ret_int HR.out.symm, hw⟩
set_option maxHeartbeats 1000000 in
theorem lightP_any (x : Pt) (w : World) (hX : IsP w x) (hsm : x.size ≤ 1048576) : Calls Try.prog 6 #[x.val] w fun e w' => e = .returned (.bool (decide (x.size ≤ 300))) ∧ Below w.heap.size w w' := by
  obtain ⟨A, hA, hB, hs, hN⟩ := boxP_one x w
  obtain ⟨c0, c1, c2, c3, c4, c5⟩ := hN.at0
  have hc := refSizeP_any x A (hX.later hB) hsm
  have HB : Hid (Below w.heap.size w A) := hB
  have HE : Hid (decide ((x.size : Int) ≤ 300) = decide (x.size ≤ 300)) := by show _ = _; congr 1; exact propext (by omega)
  clear hB hN hX
  go_enter Try.func6, Try.ntmps6
  go_wp2_with (go_at_call 21; refine hc.mono ?_; rintro e w2 ⟨rfl, hB2⟩)
  go_ret
  refine ⟨?_, HB.out.trans (hB2.mono (by omega))⟩
  rw [← HE.out]
  rfl
def szP : Pt → Int
  | .nil => 1
  | .mk _ _ _ _ _ _ n _ c => accZ (fun i => szP (c i)) n
theorem szP_eq (x : Pt) : szP x = accZ (fun i => szP (x.c i)) x.n := by cases x <;> rfl
set_option maxRecDepth 100000 in
set_option maxHeartbeats 4000000 in
theorem refSizeP_wide : ∀ (x : Pt) (w : World), IsP w x → Calls Try.prog 21 #[x.val] w fun e w' => e = .returned (.int .i64 (szP x)) ∧ Below w.heap.size w w' := by
  refine Pt.ind fun x ih w hX => ?_
  obtain ⟨r, hr⟩ : ∃ r, r = szP x := ⟨_, rfl⟩
  have HR : Hid (r = accZ (fun i => szP (x.c i)) x.n) := by show r = _; rw [hr, szP_eq]
  rw [← hr]
  have HI : Hid (∀ i, i < x.n → ∀ w, IsP w (x.c i) → Calls Try.prog 21 #[(x.c i).val] w fun e w' => e = .returned (.int .i64 (szP (x.c i))) ∧ Below w.heap.size w w') := ih
  have HX : Hid (IsP w x) := hX
  have hlen := hX.len
  obtain ⟨A, hA, hB0, hs, hN⟩ := boxP_one x w
  have HB : Hid (Below w.heap.size w A) := hB0
  have HN : Hid (NodeP A w.heap.size 0 x) := hN
  clear ih hX hr hB0 hN
  go_enter Try.func21, Try.ntmps21
  go_wp2_with fail
  go_loopw [3, 4] (fun u v wr => ∃ k : Nat, k ≤ x.n ∧ u = .int .i64 (accZ (fun i => szP (x.c i)) k) ∧ v = .int .i64 k ∧ Below A.heap.size A wr) (fun _ v _ => x.n - (intOf v).toNat)
  case atStart => exact ⟨0, Nat.zero_le _, rfl, rfl, Below.refl _ _⟩
  case round =>
    obtain ⟨k, hk, rfl, rfl, hB⟩ := hrel
    obtain ⟨-, -, -, -, -, c6⟩ := (nodeP_on HN.out (hB.mono (by omega))).at0
    have hw := HB.out.trans (hB.mono (by omega))
    by_cases hkn : k < x.n
    · obtain ⟨b, o, ea, hn, hx⟩ := (HX.out.later hw).part hkn
      rw [ea] at c6
      obtain ⟨d0, d1, d2, d3, d4, d5⟩ := hn
      have hc := HI.out k hkn wr hx
      have HK : Hid (k < x.n) := hkn
      have HQ : Hid (Below w.heap.size w wr) := hw
      clear hx hw
      go_wp2_with (go_at_call 21; refine hc.mono ?_; rintro e w2 ⟨rfl, hB2⟩)
      exact ⟨⟨k + 1, HK.out, rfl, by simp, hB.trans (hB2.mono hB.size)⟩, by have := HK.out; simp [intOf]; omega⟩
    · have hk' : k = x.n := by omega
      subst hk'
      go_wp2
      go_ret
      exact ⟨ret_int HR.out.symm, hw⟩
set_option maxHeartbeats 1000000 in
theorem lightP_wide (x : Pt) (w : World) (hX : IsP w x) : Calls Try.prog 6 #[x.val] w fun e w' => e = .returned (.bool (decide (szP x ≤ 300))) ∧ Below w.heap.size w w' := by
  obtain ⟨A, hA, hB, hs, hN⟩ := boxP_one x w
  obtain ⟨c0, c1, c2, c3, c4, c5⟩ := hN.at0
  have hc := refSizeP_wide x A (hX.later hB)
  have HB : Hid (Below w.heap.size w A) := hB
  clear hB hN hX
  go_enter Try.func6, Try.ntmps6
  go_wp2_with (go_at_call 21; refine hc.mono ?_; rintro e w2 ⟨rfl, hB2⟩)
  go_ret
  exact ⟨rfl, HB.out.trans (hB2.mono (by omega))⟩
/-- The node that awake asks. -/
def leafP : Pt := .mk 1 ⟨#[97]⟩ ⟨#[116]⟩ 0 0 none 0 0 (fun _ => .nil)
set_option maxRecDepth 100000 in
set_option maxHeartbeats 1000000 in
theorem awake12_any (w : World) : Calls Try.prog 7 #[] w fun e w' => e = .returned (.bool true) ∧ Below w.heap.size w w' := by
  have hc : Calls Try.prog 22 #[.agg #[.int .i64 1, .string ⟨#[97]⟩, .string ⟨#[116]⟩, .int .i64 0, .int .i64 0, .slice none 0 0]] w fun e w' => e = .returned (.int .i64 1) ∧ Below w.heap.size w w' :=
    sizeP_any leafP w ⟨by omega, by omega, fun i hi => by omega⟩ (by simp [leafP, Pt.size, sumN])
  go_enter Try.func7, Try.ntmps7
  go_wp2_with (go_at_call 22; refine hc.mono ?_; rintro e w2 ⟨rfl, hB2⟩)
  go_ret
  exact ⟨rfl, hB2⟩
end Go.Proofs.Ytjclelmbpmlioaa
