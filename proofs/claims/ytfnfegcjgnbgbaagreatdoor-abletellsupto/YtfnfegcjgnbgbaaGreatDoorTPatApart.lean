/-
  pat.apart: does no Var stand in two parts?
  pat.between: may each PNot among the parts stand where it does?
  pat.Made.
  slices.Clone of patterns: a row of nodes that a call owns.
-/
import Derived.Test.YtfnfegcjgnbgbaaGreatDoorTPatFirsts
import Derived.Test.YtfnfegcjgnbgbaaGreatDoorTPatRefSame
import Derived.Test.YtfnfegcjgnbgbaaGreatDoorTAbNote
import Derived.Test.YtfnfegcjgnbgbaaGreatDoorTPatCheck
import Derived.Test.YtfnfegcjgnbgbaaGreatDoorTValOrder
namespace Go.Proofs.YtfnfegcjgnbgbaaGreatDoor
open Go.RowKit Go.Shelf Go.Maps Go.WideMaps
attribute [local go_sem] Oper.semAt_some

/-- The marks that loops over functions have left, each of a block of its own. -/
def Marks (base : Nat) (W : World) : List Deferred → Prop
  | [] => True
  | d :: ds => ∃ D, d = { target := .collected D, args := #[] } ∧ base ≤ D ∧ W.heap[D]? = some (.deferred (some [])) ∧ (∀ d' ∈ ds, d' ≠ { target := .collected D, args := #[] }) ∧ Marks base W ds
theorem Marks.keep {base : Nat} {W W' : World} : ∀ {ds : List Deferred}, (∀ D, { target := .collected D, args := #[] } ∈ ds → base ≤ D → W.heap[D]? = some (.deferred (some [])) → W'.heap[D]? = some (.deferred (some []))) → Marks base W ds → Marks base W' ds
  | [], _, _ => trivial
  | d :: ds, h, hm => by
    obtain ⟨D, rfl, h1, h2, h3, h4⟩ := hm
    exact ⟨D, rfl, h1, h D (by simp) h1 h2, h3, Marks.keep (fun D' hD' => h D' (List.mem_cons_of_mem _ hD')) h4⟩
theorem leaves_marks {F : Fence} {n base : Nat} {P : Program} {fn : Func} {tmps : Array Value} {R : Ending → World → Prop} : ∀ {ds : List Deferred} {W : World}, Marks base W ds → (∀ W', Ag base W W' → ∃ v, (results fn tmps).run P W' = .ok v W' ∧ R (.returned v) W') →
    LeavesInM F n P fn tmps R ds .returning W
  | [], W, _, h => h W (Ag.refl _ _)
  | d :: ds, W, hm, h => by
    obtain ⟨D, rfl, h1, h2, h3, h4⟩ := hm
    refine ⟨by simp, .inl ⟨D, _, rfl, run_takeDeferred h2, leaves_marks (base := base) (Marks.keep (fun D' hD' _ hk => (World.putObj_heap_other (fun e => h3 _ hD' (by rw [e]))).trans hk) h4) fun W' hW' => h W' ((Ag.putObj h1 h2 rfl rfl).trans hW')⟩⟩
/-- The last part, of the first k, in which a Var stands. -/
def partOf (x : Pt) : Nat → ByteArray → Option Nat
  | 0, _ => none
  | k + 1, s => if (usesP (x.c k)).any (fun u => decide (u.s = s)) = true then some k else partOf x k s
theorem partOf_some {x : Pt} {s : ByteArray} : ∀ {k j : Nat}, partOf x k s = some j → j < k ∧ ∃ u ∈ usesP (x.c j), u.s = s
  | 0, _, h => by cases h
  | k + 1, j, h => by
    simp only [partOf] at h
    split at h
    · rename_i hu
      cases h
      obtain ⟨u, hu1, hu2⟩ := List.any_eq_true.1 hu
      exact ⟨by omega, u, hu1, by simpa using hu2⟩
    · obtain ⟨h1, h2⟩ := partOf_some h
      exact ⟨by omega, h2⟩
theorem partOf_none {x : Pt} {s : ByteArray} : ∀ {k : Nat}, partOf x k s = none → ∀ i, i < k → ∀ u ∈ usesP (x.c i), u.s ≠ s
  | 0, _, i, hi => by omega
  | k + 1, h, i, hi => by
    simp only [partOf] at h
    split at h
    · cases h
    · rename_i hu
      intro u hu1 e
      by_cases ei : i = k
      · subst ei
        exact hu (List.any_eq_true.2 ⟨u, hu1, by simp [e]⟩)
      · exact partOf_none h i (by omega) u hu1 e
/-- No Var stands in two of the first k parts. -/
def ApTo (x : Pt) (k : Nat) : Prop := ∀ i j, i < j → j < k → ∀ a ∈ usesP (x.c i), ∀ b ∈ usesP (x.c j), a.s ≠ b.s
theorem ApTo.next {x : Pt} {k : Nat} (h : ApTo x k) (hu : ∀ u ∈ usesP (x.c k), partOf x k u.s = none) : ApTo x (k + 1) := by
  intro i j hij hj a ha b hb
  by_cases e : j = k
  · subst e
    exact partOf_none (hu b hb) i hij a ha
  · exact h i j hij (by omega) a ha b hb
theorem not_apart {x y : Pt} {k j : Nat} (hk : k < x.n) (hy : y ∈ usesP (x.c k)) (hj : partOf x k y.s = some j) : ¬ Apart x := fun h => by
  obtain ⟨h1, u, hu, e⟩ := partOf_some hj
  exact h j k h1 hk u hu y hy e
theorem cum_le {x : Pt} {k : Nat} (hk : k ≤ x.n) : (catN (fun i => usesP (x.c i)) k).length ≤ x.size := by
  have key : ∀ m, m ≤ x.n → (catN (fun i => usesP (x.c i)) m).length ≤ sumN (fun i => (x.c i).size) m := by
    intro m
    induction m with
    | zero => intro _; exact Nat.le_refl _
    | succ m ih => intro hm; have := ih (by omega); have := length_uses (x.c m); simp only [catN, sumN, List.length_append]; omega
  have h1 := key k hk
  have h2 : sumN (fun i => (x.c i).size) k ≤ sumN (fun i => (x.c i).size) x.n := by
    have mono : ∀ m, sumN (fun i => (x.c i).size) k ≤ sumN (fun i => (x.c i).size) (k + m) := by
      intro m
      induction m with
      | zero => exact Nat.le_refl _
      | succ m ih => rw [show k + (m + 1) = (k + m) + 1 from rfl]; simp only [sumN]; omega
    have := mono (x.n - k)
    rwa [show k + (x.n - k) = x.n by omega] at this
  rw [x.size_eq]
  omega
/-- Behind the first k parts. -/
def ApJ (x : Pt) (A : World) (s0 k : Nat) (ds : List Deferred) (W : World) : Prop :=
  Marks A.heap.size W ds ∧ Lb A.heap.size (s0 + 1) A W ∧ (∃ D q, W.ownsMap Tryz.prog 9 (plainElem (H := Unit) Tryz.prog 3) (s0 + 1) q D ∧ q ≤ (catN (fun i => usesP (x.c i)) k).length ∧ MapsTo (partOf x k) D) ∧ ApTo x k
/-- Within part k. -/
def ApIn (x : Pt) (C : World) (s0 k : Nat) (pre : List Pt) (W : World) : Prop :=
  Lb C.heap.size (s0 + 1) C W ∧ (∃ D q, W.ownsMap Tryz.prog 9 (plainElem (H := Unit) Tryz.prog 3) (s0 + 1) q D ∧ q ≤ (catN (fun i => usesP (x.c i)) k).length + pre.length ∧ MapsTo (fun s => if pre.any (fun u => decide (u.s = s)) = true then some k else partOf x k s) D) ∧ ∀ u ∈ pre, partOf x k u.s = none
/-- A Var stands in two parts, and it is told. -/
def ApX (x : Pt) (w A E : World) (c : Code) (W : World) : Prop :=
  c = .ret ∧ ¬ Apart x ∧ Boxed W w.heap.size 4 (.bool false) ∧ Below w.heap.size w W ∧ ∀ D, A.heap.size ≤ D → D < E.heap.size → W.heap[D]? = E.heap[D]?
theorem Marks.lt {base : Nat} {W : World} : ∀ {ds : List Deferred}, Marks base W ds → ∀ {D : Nat}, { target := .collected D, args := #[] } ∈ ds → D < W.heap.size
  | [], _, _, h => by simp at h
  | d :: ds, hm, D, h => by
    obtain ⟨D1, rfl, h1, h2, h3, h4⟩ := hm
    rcases List.mem_cons.1 h with h | h
    · injection h with h _
      injection h with h
      rw [h]
      exact (Array.getElem?_eq_some_iff.1 h2).1
    · exact Marks.lt h4 h
theorem apTo_all {x : Pt} : ApTo x x.n ↔ Apart x := ⟨fun h i j hij hj a ha b hb => h i j hij hj a ha b hb, fun h i j hij hj a ha b hb => h i j hij hj a ha b hb⟩
set_option maxRecDepth 100000 in
set_option maxHeartbeats 8000000 in
theorem apart_in (n : Nat) (x : Pt) (b0 o0 : Nat) (w : World) (hN : NodeP w b0 o0 x) (hX : IsP w x) (hsm : x.size ≤ 1048576) (hok : POk x) :
    CallsIn Fence.wide n Tryz.prog 54 #[.pointer (some ⟨b0, o0, none⟩)] w fun e w' => ∃ r : Bool, e = .returned (.bool r) ∧ (r = true ↔ Apart x) ∧ Below w.heap.size w w' := by
  have hdd : ∀ k : Nat, (Fence.wide.depth.isSome = true → 1 ≤ k) := fun k h => by cases h
  have hmm := @run_makeMap Tryz.prog
  obtain ⟨A, hA⟩ : ∃ A, ((w.alloc (.cells #[.bool false] 4)).alloc (.map #[] 0)).alloc (.cells #[.map (some (w.heap.size + 1))] 104) = A := ⟨_, rfl⟩
  have hAs : A.heap.size = w.heap.size + 3 := by rw [← hA]; simp
  have hBA : Below w.heap.size w A := by rw [← hA]; exact (((Below.refl _ w).alloc (Nat.le_refl _) _).alloc (by simp) _).alloc (by simp; omega) _
  have hr0 : Boxed A w.heap.size 4 (.bool false) := by rw [← hA]; exact ((Boxed.new w _ _).alloc _).alloc _
  have hm1 : A.ownsMap Tryz.prog 9 (plainElem (H := Unit) Tryz.prog 3) (w.heap.size + 1) 0 (.map []) := by
    have := (World.ownsMap_made (w.alloc (.cells #[.bool false] 4)) Tryz.prog 9 (plainElem (H := Unit) Tryz.prog 3)).alloc (.cells #[.map (some (w.heap.size + 1))] 104)
    rw [World.size_alloc, hA] at this
    exact this
  have hb2 : Boxed A (w.heap.size + 2) 104 (.map (some (w.heap.size + 1))) := by
    have := Boxed.new ((w.alloc (.cells #[.bool false] 4)).alloc (.map #[] 0)) 104 (.map (some (w.heap.size + 1)))
    rw [World.size_alloc, World.size_alloc, hA] at this
    exact this
  obtain ⟨d0, d1, d2, d3, d4, d5⟩ := hN.later hBA
  have hxl := hX.len
  refine callsIn_of_wp_marks Tryz.func54 rfl trivial ?_ rfl
  simp only [Tryz.ntmps54, List.size_toArray, List.length_cons, List.length_nil, Nat.reduceAdd, Nat.reduceSub, Array.replicate_succ, Array.replicate_zero, List.push_toArray, List.append_toArray, List.nil_append, List.cons_append]
  gi_wp2
  clear hA hmm d0 d1 d2 d3 d4 d5
  refine wpIn_loop (fun a wr => ∃ (k : Nat) (ds : List Deferred) (u4 u15 u16 u17 u18 u19 u20 u21 u22 u23 u46 : Value), a = { tmps := #[.pointer (some ⟨b0, o0, none⟩), undef, .pointer (some ⟨w.heap.size, 0, none⟩), .pointer (some ⟨w.heap.size + 1 + 1, 0, none⟩), u4, undef, undef, undef, .map (some (w.heap.size + 1)), .pointer (some ⟨b0, o0, none⟩), .pointer (some ⟨b0, o0, none⟩), .pointer (some ⟨b0, o0 + 5, none⟩), .slice x.a x.n x.cap, .int .i64 (x.n : Nat), .int .i64 (k : Nat), u15, u16, u17, u18, u19, u20, u21, u22, u23, undef, undef, undef, undef, undef, undef, undef, undef, undef, undef, undef, undef, undef, undef, undef, undef, undef, undef, undef, undef, undef, undef, u46], defers := ds } ∧ k ≤ x.n ∧ ApJ x A w.heap.size k ds wr)
    (fun a _ => x.n - (intOf (a.tmps[14]?.getD undef)).toNat) ⟨0, [], undef, undef, undef, undef, undef, undef, undef, undef, undef, undef, undef, rfl, Nat.zero_le _, trivial, Lb.refl _ _ _, ⟨_, 0, hm1, Nat.le_refl _, mapsTo_none.congr (fun s => rfl)⟩, fun i j _ hj => absurd hj (Nat.not_lt_zero _)⟩ ?_
  rintro _ wr ⟨k, ds, u4, u15, u16, u17, u18, u19, u20, u21, u22, u23, u46, rfl, hk, hmk, hLb, ⟨D, q, hmap, hq, hmt⟩, hap⟩
  have hBr : Below w.heap.size w wr := hBA.trans (hLb.below (by omega) (by omega))
  have hrr : Boxed wr w.heap.size 4 (.bool false) := hLb.boxed hr0 (by omega) (by omega)
  have hbr : Boxed wr (w.heap.size + 2) 104 (.map (some (w.heap.size + 1))) := hLb.boxed hb2 (by omega) (by omega)
  have hsr := hLb.size
  by_cases hkn : k < x.n
  · obtain ⟨b1, o1, ea, hn1, hx1⟩ := hX.part hkn
    have hlt1 := hn1.lt
    have hlt0 := hN.lt
    obtain ⟨C, hC⟩ : ∃ C, (wr.alloc (.cells #[.int .i64 (k : Nat)] 3)) = C := ⟨_, rfl⟩
    have hCs : C.heap.size = wr.heap.size + 1 := by rw [← hC]; simp
    have hBC : Below wr.heap.size wr C := by rw [← hC]; exact (Below.refl _ wr).alloc (Nat.le_refl _) _
    have hi : Boxed C wr.heap.size 3 (.int .i64 (k : Nat)) := by rw [← hC]; exact Boxed.new wr _ _
    have hic := hi.cell
    have hwC : Below w.heap.size w C := hBr.trans (hBC.mono (by omega))
    obtain ⟨d0, d1, d2, d3, d4, d5⟩ := hN.below hwC hlt0
    rw [ea] at d5 ⊢
    have HK : Hid (k < x.n) := hkn
    clear d0 d1 d2 d3 d4
    gi_wp2
    refine wpIn_mono (show Code.wpIn Fence.wide n Tryz.prog _ (Exit.then (fun a' w' => a' = { tmps := #[.pointer (some ⟨b0, o0, none⟩), undef, .pointer (some ⟨w.heap.size, 0, none⟩), .pointer (some ⟨w.heap.size + 1 + 1, 0, none⟩), .pointer (some ⟨wr.heap.size, 0, none⟩), undef, undef, undef, .map (some (w.heap.size + 1)), .pointer (some ⟨b0, o0, none⟩), .pointer (some ⟨b0, o0, none⟩), .pointer (some ⟨b0, o0 + 5, none⟩), .slice (some ⟨b1, o1, none⟩) x.n x.cap, .int .i64 (x.n : Nat), .int .i64 (k : Nat), .bool true, .int .i64 (k : Nat), .pointer (some ⟨b0, o0, none⟩), .pointer (some ⟨b0, o0, none⟩), .pointer (some ⟨b0, o0 + 5, none⟩), .slice (some ⟨b1, o1, none⟩) x.n x.cap, .int .i64 (k : Nat), .pointer (some ⟨b1, o1 + k * 6, none⟩), .func (.func 96) #[] #[.pointer (some ⟨wr.heap.size + 1, 0, none⟩)], undef, undef, undef, undef, undef, undef, undef, undef, undef, undef, undef, undef, undef, undef, undef, undef, undef, undef, undef, undef, undef, undef, u46], defers := ds } ∧ w' = (C.alloc (.cells #[.pointer (some ⟨b1, o1 + k * 6, none⟩)] 81)).drew) (fun _ _ _ => False)) _ _ from ?_) ?_
    · gi_region_with ((refine ⟨trivial, hdd _, ?_⟩; gi_at_call 76; refine (named_in _ _ _).mono ?_; rintro e w' ⟨rfl, rfl⟩))
      all_goals exact ⟨rfl, rfl⟩
    · rintro e a' w' h
      cases e with
      | normal =>
        obtain ⟨rfl, rfl⟩ := h
        obtain ⟨E, hE⟩ : ∃ E, (C.alloc (.cells #[.pointer (some ⟨b1, o1 + k * 6, none⟩)] 81)).drew = E := ⟨_, rfl⟩
        have hEs : E.heap.size = wr.heap.size + 2 := by rw [← hE]; show (C.alloc _).heap.size = _; simp; omega
        have hBE : Below wr.heap.size wr E := by rw [← hE]; exact (hBC.trans (((Below.refl _ C).alloc (Nat.le_refl _) _).mono (by omega))).drew
        have hiE : Boxed E wr.heap.size 3 (.int .i64 (k : Nat)) := by rw [← hE]; exact hi.alloc _
        have hpE : Boxed E (wr.heap.size + 1) 81 (.pointer (some ⟨b1, o1 + k * 6, none⟩)) := by
          have := Boxed.new C 81 (.pointer (some ⟨b1, o1 + k * 6, none⟩))
          rw [hCs] at this
          rw [← hE]
          exact this
        have hwE : Below w.heap.size w E := hBr.trans (hBE.mono (by omega))
        have hrE : Boxed E w.heap.size 4 (.bool false) := Boxed.kept_of hrr hBE (by omega)
        have hbE : Boxed E (w.heap.size + 2) 104 (.map (some (w.heap.size + 1))) := Boxed.kept_of hbr hBE (by omega)
        have hmE := ownsMap_below hBE (by omega) hmap
        have hmkE : Marks A.heap.size E ds := Marks.keep (fun D' _ _ h => (hBE.block D' (Array.getElem?_eq_some_iff.1 h).1).trans h) hmk
        have hLE : Lb A.heap.size (w.heap.size + 1) A E := hLb.trans (.of_below (hBE.mono (by omega)))
        have hdsl : ∀ D', { target := .collected D', args := #[] } ∈ ds → D' < E.heap.size := fun D' h => Marks.lt hmkE h
        have hsk : (x.c k).size ≤ 1048576 := by
          have := x.size_part k hkn
          omega
        have hokk := ((pOk_eq x).1 hok).2.2 k hkn
        have hcum := cum_le (x := x) (k := k + 1) hkn
        rw [hE]
        clear hE hC hi hic d5
        gi_wp2
        refine named_fold (wr.heap.size + 1) b1 (o1 + k * 6) (x.c k) (fun k => k < w.heap.size) (ApIn x E w.heap.size k) (ApX x w A E)
          rfl rfl hpE.cell hsk (fun k hk => by omega) hlt1 (hn1.below hwE hlt1) (PIn.xt (n := w.heap.size) (fun k hk => hk) (hx1.inn.below hwE)) ?_ ?_ ?_ ?_
          (fun b o => { tmps := #[.pointer (some ⟨b0, o0, none⟩), undef, .pointer (some ⟨w.heap.size, 0, none⟩), .pointer (some ⟨w.heap.size + 1 + 1, 0, none⟩), .pointer (some ⟨wr.heap.size, 0, none⟩), .pointer (some ⟨b, o, none⟩), undef, undef, .map (some (w.heap.size + 1)), .pointer (some ⟨b0, o0, none⟩), .pointer (some ⟨b0, o0, none⟩), .pointer (some ⟨b0, o0 + 5, none⟩), .slice (some ⟨b1, o1, none⟩) x.n x.cap, .int .i64 (x.n : Nat), .int .i64 (k : Nat), .bool true, .int .i64 (k : Nat), .pointer (some ⟨b0, o0, none⟩), .pointer (some ⟨b0, o0, none⟩), .pointer (some ⟨b0, o0 + 5, none⟩), .slice (some ⟨b1, o1, none⟩) x.n x.cap, .int .i64 (k : Nat), .pointer (some ⟨b1, o1 + k * 6, none⟩), .func (.func 96) #[] #[.pointer (some ⟨wr.heap.size + 1, 0, none⟩)], .pointer (some ⟨b, o, none⟩), undef, undef, undef, undef, undef, undef, undef, undef, undef, undef, undef, undef, undef, undef, undef, undef, undef, undef, undef, undef, undef, u46], defers := [] }) ?_ ?_ ?_ ?_
        · rintro pre W B hag ⟨h1, ⟨D', q', m1, m2, m3⟩, h3⟩
          exact ⟨Lb.ag (Ag.refl _ _) hag (Nat.le_refl _) h1, ⟨D', q', ownsMap_ag hag (by omega) m1, m2, m3⟩, h3⟩
        · rintro pre W ⟨h1, ⟨D', q', m1, m2, m3⟩, h3⟩
          exact ⟨h1.trans (Lb.of_below (Below.refl _ _).drew), ⟨D', q', m1, m2, m3⟩, h3⟩
        · intro W hW
          exact ⟨Lb.of_below hW, ⟨D, q, ownsMap_below hW (by omega) hmE, by simpa using hq, hmt.congr (fun s => by simp)⟩, fun u hu => by simp at hu⟩
        · rintro c W B hag ⟨h1, h2, h3, h4, h5⟩
          exact ⟨h1, h2, hag.boxed h3, hag.below (by omega) h4, fun D' q1 q2 => (hag.low D' q2).trans (h5 D' q1 q2)⟩
        · intro l b o W K hK
          gi_wp2
          first | exact hK | simpa using hK
        · rintro l b o y pre W hb hn hx ⟨hL, ⟨D', q', m1, m2, m3⟩, hpre⟩ hs ⟨post, hpo⟩ hnm
          have hmem : y ∈ usesP (x.c k) := by rw [← hpo]; simp
          have hys := (uses_ok hokk y hmem).1
          have hlen : (catN (fun i => usesP (x.c i)) k).length + pre.length < 1048576 := by
            have h1 := congrArg List.length hpo
            simp only [catN, List.length_append, List.length_cons] at h1 hcum
            omega
          obtain ⟨c, hlook, hcj⟩ := look_all m1 m3 hys
          have cm := (hL.boxed hbE (by omega) (by omega)).cell
          have ci := (hL.boxed hiE (by omega) (by omega)).cell
          have rW := hL.boxed hrE (by omega) (by omega)
          have rc := rW.cell
          have rf := rW.frozen
          obtain ⟨d0, d1, d2, d3, d4, d5⟩ := hn
          clear hpo hx d0 d2 d3 d4 d5
          have hor : (∃ cv : Bool, (∀ nq, (Instr.lookup 104 (.map (some (w.heap.size + 1))) (.string y.s) true).run Tryz.prog (W.drewN nq) = .ok (.tuple #[.int .i64 c, .bool cv]) (W.drewN nq)) ∧ (cv = true → c = (k : Nat)) ∧ partOf x k y.s = none) ∨
              ∃ j, partOf x k y.s = some j ∧ (c != ((k : Nat) : Int)) = true ∧ ∀ nq, (Instr.lookup 104 (.map (some (w.heap.size + 1))) (.string y.s) true).run Tryz.prog (W.drewN nq) = .ok (.tuple #[.int .i64 c, .bool true]) (W.drewN nq) := by
            by_cases hany : pre.any (fun u => decide (u.s = y.s)) = true
            · simp only [hany, if_true] at hlook hcj
              obtain ⟨u, hu, e⟩ := List.any_eq_true.1 hany
              have e' : u.s = y.s := by simpa using e
              exact .inl ⟨true, fun nq => hlook _ m1, fun _ => hcj k rfl, by rw [← e']; exact hpre u hu⟩
            · simp only [if_neg hany] at hlook hcj
              cases hf : partOf x k y.s with
              | none =>
                rw [hf] at hlook
                exact .inl ⟨false, fun nq => hlook _ m1, fun h => (by cases h), rfl⟩
              | some j =>
                rw [hf] at hlook hcj
                have := (partOf_some hf).1
                exact .inr ⟨j, rfl, by rw [hcj j rfl]; simp; omega, fun nq => hlook _ m1⟩
          clear hlook hcj
          rcases hor with ⟨cv, hlk, hck, hnone⟩ | ⟨j, hj, hne, hlk⟩
          · have FIN : Hid (∀ nq, ∃ w1, (Instr.mapUpdate 104 (.map (some (w.heap.size + 1))) (.string y.s) (.int .i64 (k : Nat))).run Tryz.prog (W.drewN (nq + 1)) = .ok () w1 ∧ foldPost E.heap.size (fun k => k < w.heap.size ∨ (E.heap.size ≤ k ∧ k < E.heap.size + 8)) (ApIn x E w.heap.size k (pre ++ [y])) (ApX x w A E) W .normal ⟨#[], []⟩ w1) := fun nq => by
              have g4 : (W.drewN (nq + 1)).ownsMap Tryz.prog 9 (plainElem (H := Unit) Tryz.prog 3) (w.heap.size + 1) q' D' := m1
              have hkey : keyOf Tryz.prog 9 (.string y.s) = some (keyS y.s) := keyOf_string_mk Tryz.underlying9 hys
              obtain ⟨w1, hrunU, hown1, hgrow1⟩ := g4.update str_law Tryz.underlying104 (by unfold maxLen; omega) (val := .int .i64 (k : Nat)) hkey (plainElem_int Tryz.underlying3 (WalkArith.wf_i64 (by omega)))
              refine ⟨w1, hrunU, ⟨hgrow1.size, fun k' ob hk' e hc => ?_⟩, fun k' ob hk' ho e => ?_, ?_, ⟨_, q' + 1, hown1, by rw [List.length_append]; simp; omega, ?_⟩, ?_⟩
              · exact (hgrow1.block k' (Array.getElem?_eq_some_iff.1 e).1 (fun q => by injection q with q; omega)).trans e
              · exact (hgrow1.block k' (Array.getElem?_eq_some_iff.1 e).1 (fun q => by injection q with q; rcases hk' with hk' | hk' <;> omega)).trans e
              · exact hL.trans ⟨hgrow1.os, hgrow1.tape, hgrow1.output, hgrow1.size, fun k' h1 h2 => hgrow1.block k' (show k' < W.heap.size by omega) (fun q => by injection q with q; exact h2 q)⟩
              · refine (m3.put g4.isMap y.s k).congr fun s => ?_
                by_cases e : s = y.s
                · simp [e]
                · have e' : ¬ y.s = s := fun h => e h.symm
                  simp [e, e']
              · intro u hu
                rcases List.mem_append.1 hu with hu | hu
                · exact hpre u hu
                · rw [List.mem_singleton] at hu
                  rw [hu]; exact hnone
            have hcc : cv = true → (c != ((k : Nat) : Int)) = false := fun h => by rw [hck h]; simp
            clear hpre m1 m2 m3 hL hnone hck rc rf rW hmem
            gi_wp2
            refine wpIn_region_round (by kernel_rfl) (by kernel_rfl) (by kernel_rfl) ?_
            repeat (gi_big_quiet_step (fail))
            refine wpQuietIn_nil ?_
            intro _ hw'
            obtain ⟨nq, hw''⟩ := hw'
            subst hw''
            obtain ⟨w1, hrunU, hfin⟩ := FIN.out nq
            clear FIN hlk
            have HFIN : Hid _ := hfin
            clear hfin
            cases cv
            all_goals (try have hcc' := hcc rfl)
            all_goals clear hcc
            all_goals gi_wp2
            all_goals (refine wpIn_region_reads 6 [(40, .map (some (w.heap.size + 1))), (41, .pointer (some ⟨b, o, none⟩)), (42, .pointer (some ⟨b, o, none⟩)), (43, .pointer (some ⟨b, o + 1, none⟩)), (44, .string y.s), (45, .int .i64 (k : Nat))] _ (by kernel_rfl) (by kernel_rfl) rfl rfl (by kernel_rfl) rfl ?_ ?_ (w1 := w1) ?_)
            any_goals exact HFIN.out
            all_goals (generalize hfull : puts _ _ = full)
            all_goals (have F3 : full[3]? = some (.pointer (some ⟨w.heap.size + 1 + 1, 0, none⟩)) := by rw [← hfull]; kernel_rfl)
            all_goals (have F4 : full[4]? = some (.pointer (some ⟨wr.heap.size, 0, none⟩)) := by rw [← hfull]; kernel_rfl)
            all_goals (have F5 : full[5]? = some (.pointer (some ⟨b, o, none⟩)) := by rw [← hfull]; kernel_rfl)
            all_goals (have F40 : full[40]? = some (.map (some (w.heap.size + 1))) := by rw [← hfull]; kernel_rfl)
            all_goals (have F41 : full[41]? = some (.pointer (some ⟨b, o, none⟩)) := by rw [← hfull]; kernel_rfl)
            all_goals (have F42 : full[42]? = some (.pointer (some ⟨b, o, none⟩)) := by rw [← hfull]; kernel_rfl)
            all_goals (have F43 : full[43]? = some (.pointer (some ⟨b, o + 1, none⟩)) := by rw [← hfull]; kernel_rfl)
            all_goals (have F44 : full[44]? = some (.string y.s) := by rw [← hfull]; kernel_rfl)
            all_goals (have F45 : full[45]? = some (.int .i64 (k : Nat)) := by rw [← hfull]; kernel_rfl)
            all_goals clear hfull
            all_goals first
              | (simp [execOp, Act.eval, go_sem, Array.getD_eq_getD_getElem?, F40, F44, F45, hrunU]; done)
              | (simp only [List.take_succ_cons, List.take_zero, Reads]
                 refine ⟨⟨_, _, rfl, F40, ?_⟩, ⟨_, _, rfl, F41, ?_⟩, ⟨_, _, rfl, F42, ?_⟩, ⟨_, _, rfl, F43, ?_⟩, ⟨_, _, rfl, F44, ?_⟩, ⟨_, _, rfl, F45, ?_⟩, trivial⟩
                 all_goals simp [execOp, Act.eval, go_sem, Array.getD_eq_getD_getElem?, F3, F4, F5, F41, F42, F43, cm, ci, d1])
          · have HNO : Hid (∀ n1, foldPost E.heap.size (fun k => k < w.heap.size ∨ (E.heap.size ≤ k ∧ k < E.heap.size + 8)) (ApIn x E w.heap.size k (pre ++ [y])) (ApX x w A E) W .ret ⟨#[], []⟩ ((W.drewN n1).setCell ⟨w.heap.size, 0, none⟩ (.bool false))) := fun n1 => by
              have k0 : KeepsOthers W (W.drewN n1) := ⟨Nat.le_refl _, fun _ _ h _ => h⟩
              have rW2 : Boxed (W.drewN n1) w.heap.size 4 (.bool false) := rW
              refine ⟨(k0.trans (KeepsOthers.setCell _ _ _)).from _, rfl, not_apart hkn hmem hj, rW2.set _, ?_, fun D1 h1 h2 => ?_⟩
              · exact ((hwE.trans (hL.below (by omega) (by omega))).trans (show Below w.heap.size W (W.drewN n1) from ⟨rfl, rfl, rfl, Nat.le_refl _, fun _ _ => rfl⟩)).setCell (p := ⟨w.heap.size, 0, none⟩) (Nat.le_refl _) _
              · exact (Below.heap_setCell _ ⟨w.heap.size, 0, none⟩ (.bool false) D1 (fun e => by have e' : D1 = w.heap.size := e; omega)).trans (hL.block D1 h2 (by omega))
            clear hpre m1 m2 m3 hL hj rW hmem
            gi_wp2
            refine wpIn_region_round (by kernel_rfl) (by kernel_rfl) (by kernel_rfl) ?_
            repeat (gi_big_quiet_step (fail))
            refine wpQuietIn_nil ?_
            intro _ hw'
            obtain ⟨nq, hw''⟩ := hw'
            subst hw''
            gi_wp2
            exact HNO.out _
        · rintro D0 W hD ⟨hL, ⟨D', q', m1, m2, m3⟩, hpre⟩ hK
          have hnew : Marks A.heap.size W ({ target := .collected D0, args := #[] } :: ds) :=
            ⟨D0, rfl, by omega, hK, fun d' hd' e => (by subst e; have := hdsl D0 hd'; omega), Marks.keep (fun D1 hD1 h h2 => (hL.block D1 (hdsl D1 hD1) (by omega)).trans h2) hmkE⟩
          have hJn : Hid (ApJ x A w.heap.size (k + 1) ({ target := .collected D0, args := #[] } :: ds) W) :=
            ⟨hnew, hLE.trans ⟨hL.os, hL.tape, hL.output, hL.size, fun k h1 h2 => hL.block k (by omega) h2⟩, ⟨D', q', m1, by simp only [catN, List.length_append]; exact m2, m3⟩, hap.next hpre⟩
          clear hnew m1 m2 m3 hpre hL hmkE hmE hmt hmap hap
          gi_wp2
          exact ⟨⟨k + 1, _, _, _, _, _, _, _, _, _, _, _, _, rfl, HK.out, hJn.out⟩, by have := HK.out; simp [intOf]; omega⟩
        · rintro D0 c W hD ⟨rfl, h2, h3, h4, h5⟩ hK
          have hnew : Marks A.heap.size W ({ target := .collected D0, args := #[] } :: ds) :=
            ⟨D0, rfl, by omega, hK, fun d' hd' e => (by subst e; have := hdsl D0 hd'; omega), Marks.keep (fun D1 hD1 h hh => (h5 D1 h (hdsl D1 hD1)).trans hh) hmkE⟩
          gi_wp2
          refine leaves_marks (base := A.heap.size) hnew fun W' hW' => ⟨.bool false, ?_, false, rfl, ⟨fun h => (by cases h), fun h => absurd h h2⟩, hW'.below (by omega) h4⟩
          have := (hW'.boxed h3).cell
          simp [results, Tryz.f54, go_sem, this]
      | ret => exact h.elim
      | exit id => exact h.elim
      | goto t => exact h.elim
      | panic ch => exact h.elim
      | outgrown => exact h.elim
  · obtain rfl : k = x.n := by omega
    have c0 := hrr.cell
    have f0 := hrr.frozen
    have hc5 := (hrr.set (.bool true)).cell
    gi_wp2
    refine leaves_marks (base := A.heap.size) (Marks.keep (fun D' _ h h2 => (KeepsOthers.setCell wr ⟨w.heap.size, 0, none⟩ (.bool true)).same D' _ h2 rfl) hmk) fun W' hW' => ⟨.bool true, ?_, true, rfl, ⟨fun _ => apTo_all.1 hap, fun _ => rfl⟩, ?_⟩
    · have := (hW'.boxed (hrr.set (.bool true))).cell
      simp [results, Tryz.f54, go_sem, this]
    · exact hW'.below (by omega) (hBr.setCell (p := ⟨w.heap.size, 0, none⟩) (Nat.le_refl _) _)
theorem apart_any (x : Pt) (b0 o0 : Nat) (w : World) (hN : NodeP w b0 o0 x) (hX : IsP w x) (hsm : x.size ≤ 1048576) (hok : POk x) :
    Calls Tryz.prog 54 #[.pointer (some ⟨b0, o0, none⟩)] w fun e w' => ∃ r : Bool, e = .returned (.bool r) ∧ (r = true ↔ Apart x) ∧ Below w.heap.size w w' :=
  (callsIn_wide (n := 3)).1 (apart_in 3 x b0 o0 w hN hX hsm hok)
end Go.Proofs.YtfnfegcjgnbgbaaGreatDoor
namespace Go.Proofs.YtfnfegcjgnbgbaaGreatDoor
open Go.RowKit

set_option maxRecDepth 100000 in
set_option maxHeartbeats 8000000 in
theorem between_any (x : Pt) (whole : Bool) (b o : Nat) (w : World) (hN : NodeP w b o x) (hX : IsP w x) :
    Calls Tryz.prog 53 #[.pointer (some ⟨b, o, none⟩), .bool whole] w fun e w' => e = .returned (.bool (betweenB x whole)) ∧ Below w.heap.size w w' := by
  obtain ⟨r, hr⟩ : ∃ r, r = betweenB x whole := ⟨_, rfl⟩
  have HF : Hid (∀ i, i < x.n → notB x whole i = false → r = false) := fun i hi h => hr.trans (allN_false hi h)
  have HT : Hid ((∀ i, i < x.n → notB x whole i = true) → r = true) := fun h => hr.trans (allN_true.2 h)
  rw [← hr]
  have HN : Hid (NodeP w b o x) := hN
  have HX : Hid (IsP w x) := hX
  have hlen := hX.len
  obtain ⟨d0, d1, d2, d3, d4, d5⟩ := hN
  clear hr hX
  go_enter Tryz.func53, Tryz.ntmps53
  go_wp2
  clear d0 d1 d2 d3 d4 d5
  go_loopw [13] (fun u wr => ∃ k : Nat, k ≤ x.n ∧ u = .int .i64 k ∧ Hid (∀ i, i < k → notB x whole i = true) ∧ Below w.heap.size w wr) (fun u _ => x.n - (intOf u).toNat)
  case atStart => exact ⟨0, Nat.zero_le _, rfl, fun i hi => absurd hi (Nat.not_lt_zero _), Below.refl _ _⟩
  case round =>
    obtain ⟨k, hk, rfl, HK, hB⟩ := hrel
    by_cases hkn : k < x.n
    · obtain ⟨A, hA, hB2, hs, hm⟩ := boxP_one (x.c k) wr
      have HB : Hid (Below w.heap.size w A) := hB.trans (hB2.mono hB.size)
      obtain ⟨b1, o1, ea, hn1, -⟩ := (HX.out.later hB).part hkn
      obtain ⟨e0, e1, e2, e3, e4, e5⟩ := HN.out.later HB.out
      obtain ⟨c0, c1, c2, c3, c4, c5⟩ := hn1
      obtain ⟨g0, g1, g2, g3, g4, g5⟩ := hm.at0
      have HKN : Hid (k < x.n) := hkn
      rw [ea] at e5 ⊢
      have next : (notB x whole k = true) → ∀ i, i < k + 1 → notB x whole i = true := fun h i hi => by
        by_cases e : i = k
        · rw [e]; exact h
        · exact HK.out i (by omega)
      by_cases h6 : (x.c k).k = 6
      · have t1 := ne_yes h6
        by_cases h2 : x.k = 2
        · have t2 := ne_yes h2
          by_cases h0 : k = 0
          · have t3 : (((k : Nat) : Int) == 0) = true := by simp [h0]
            have HE : Hid (notB x whole k = false) := by show _ = _; rw [h0] at h6 ⊢; simp [notB, h6]
            clear h6 h2 h0 next ea hm hB2 hs hB
            go_wp2
            all_goals first
              | (go_ret; exact ⟨by rw [HF.out k HKN.out HE.out]; rfl, HB.out⟩)
          · obtain ⟨j, hj⟩ : ∃ j, k = j + 1 := ⟨k - 1, by omega⟩
            have hq : ((k : Nat) : Int) - 1 = (j : Int) := by omega
            have hjn : j < x.n := by omega
            have t3 : (((k : Nat) : Int) == 0) = false := by simp; omega
            obtain ⟨b2, o2, ea2, hn2, -⟩ := (HX.out.later HB.out).part hjn
            rw [ea] at ea2
            cases ea2
            obtain ⟨f0, f1, f2, f3, f4, f5⟩ := hn2
            have hkj : x.c (k - 1) = x.c j := by rw [hj]; rfl
            by_cases h5 : (x.c j).k = 6
            · have t4 : ((x.c j).k == 6) = true := by simp [h5]
              have HE : Hid (notB x whole k = false) := by show _ = _; simp [notB, h6, hkj, h5]
              clear h6 h2 h0 next ea hm hB2 hs hB hj hkj h5
              go_wp2
              all_goals first
                | (go_ret; exact ⟨by rw [HF.out k HKN.out HE.out]; rfl, HB.out⟩)
            · have t4 : ((x.c j).k == 6) = false := by simp [h5]
              by_cases hl : k + 1 = x.n
              · have t5 : (((k : Nat) : Int) == ((x.n : Nat) : Int) - 1) = true := by simp; omega
                cases whole with
                | false =>
                  have HE : Hid (notB x false k = false) := by show _ = _; simp [notB, h6, hl]
                  clear h6 h2 h0 next ea hm hB2 hs hB hj hkj h5 hl
                  go_wp2
                  all_goals first
                    | (go_ret; exact ⟨by rw [HF.out k HKN.out HE.out]; rfl, HB.out⟩)
                | true =>
                  have HE : Hid (∀ i, i < k + 1 → notB x true i = true) := next (by simp [notB, h2, h0, hkj, h5])
                  clear h6 h2 h0 next ea hm hB2 hs hB hj hkj h5 hl
                  go_wp2
                  go_roundw
                  case rel => exact ⟨k + 1, HKN.out, by go_num, HE, HB.out⟩
                  case measure => have := HKN.out; simp [intOf]; omega
              · have t5 : (((k : Nat) : Int) == ((x.n : Nat) : Int) - 1) = false := by simp; omega
                have HE : Hid (∀ i, i < k + 1 → notB x whole i = true) := next (by simp [notB, h2, h0, hkj, h5, hl])
                clear h6 h2 h0 next ea hm hB2 hs hB hj hkj h5 hl
                go_wp2
                go_roundw
                case rel => exact ⟨k + 1, HKN.out, by go_num, HE, HB.out⟩
                case measure => have := HKN.out; simp [intOf]; omega
        · have t2 := ne_no h2
          have HE : Hid (notB x whole k = false) := by show _ = _; simp [notB, h6, h2]
          clear h6 h2 next ea hm hB2 hs hB
          go_wp2
          all_goals first
            | (go_ret; exact ⟨by rw [HF.out k HKN.out HE.out]; rfl, HB.out⟩)
      · have t1 := ne_no h6
        have HE : Hid (∀ i, i < k + 1 → notB x whole i = true) := next (by simp [notB, h6])
        clear h6 next ea hm hB2 hs hB
        go_wp2
        go_roundw
        case rel => exact ⟨k + 1, HKN.out, by go_num, HE, HB.out⟩
        case measure => have := HKN.out; simp [intOf]; omega
    · obtain rfl : k = x.n := by omega
      go_wp2
      go_ret
      exact ⟨by rw [HT.out HK.out]; rfl, hB⟩
end Go.Proofs.YtfnfegcjgnbgbaaGreatDoor
namespace Go.Proofs.YtfnfegcjgnbgbaaGreatDoor
open Go.RowKit Go.Shelf
attribute [local go_sem] Oper.semAt_some

/-- What Made answers. -/
def MadeZ (x : Pt) (z : Int) : Prop := (chkP x ≠ 0 ∧ z = chkP x) ∨ (chkP x = 0 ∧ MadeP x ∧ z = 0) ∨ (chkP x = 0 ∧ ¬ MadeP x ∧ z = 4)
theorem between_no {x y : Pt} {d : Nat} (hv : (d, y) ∈ visP 1 x) (h : betweenB y (d == 1) = false) : ¬ MadeP x := fun hm => by
  have := (hm.2.2 (d, y) hv).1
  rw [h] at this
  cases this
theorem apart_no {x y : Pt} {d : Nat} (hv : (d, y) ∈ visP 1 x) (h4 : y.k ≠ 4) (h : ¬ Apart y) : ¬ MadeP x := fun hm => by
  rcases (hm.2.2 (d, y) hv).2 with e | e
  · exact h4 e
  · exact h e
set_option maxRecDepth 100000 in
set_option maxHeartbeats 8000000 in
theorem madeP_in (n : Nat) (x : Pt) (w : World) (hX : IsP w x) (hsm : x.size ≤ 1048576) (hok : POk x) :
    CallsIn Fence.wide n Tryz.prog 25 #[x.val] w fun e w' => ∃ z : Int, e = .returned (.int .i64 z) ∧ MadeZ x z ∧ Below w.heap.size w w' := by
  have hdd : ∀ k : Nat, (Fence.wide.depth.isSome = true → 1 ≤ k) := fun k h => by cases h
  obtain ⟨A, hA⟩ : ∃ A, (w.alloc (.cells x.cells 24)).alloc (.cells #[.int .i64 0] 32) = A := ⟨_, rfl⟩
  have hAs : A.heap.size = w.heap.size + 2 := by rw [← hA]; simp
  have hB : Below w.heap.size w A := by rw [← hA]; exact ((Below.refl _ w).alloc (Nat.le_refl _) _).alloc (by simp) _
  have hnode : NodeP A w.heap.size 0 x := by
    rw [← hA]
    exact (nodeP_new w 24 x).later ((Below.refl _ _).alloc (Nat.le_refl _) _)
  have hb1 : Boxed A (w.heap.size + 1) 32 (.int .i64 0) := by
    have := Boxed.new (w.alloc (.cells x.cells 24)) 32 (.int .i64 0)
    rw [World.size_alloc, hA] at this
    exact this
  obtain ⟨d0, d1, d2, d3, d4, d5⟩ := hnode.at0
  have hchk := checkP_any x A (hX.later hB) hsm
  refine callsIn_of_wp_marks Tryz.func25 rfl trivial ?_ rfl
  simp only [Tryz.ntmps25, List.size_toArray, List.length_cons, List.length_nil, Nat.reduceAdd, Nat.reduceSub, Array.replicate_succ, Array.replicate_zero, List.push_toArray, List.append_toArray, List.nil_append, List.cons_append]
  by_cases hc : chkP x = 0
  · rw [hc] at hchk
    by_cases h6 : x.k = 6
    · have hk6 : (x.k == 6) = true := by simp [h6]
      have hno : MadeZ x 4 := .inr (.inr ⟨hc, fun h => h.1 h6, rfl⟩)
      clear h6 hc
      gi_wp2_with (refine ⟨trivial, hdd _, ?_⟩; gi_at_call 50; refine (callsIn_wide.2 hchk).mono ?_; rintro e w2 ⟨rfl, hB2⟩; have q1 := Boxed.kept_of hb1 hB2 (by omega); have c1 := q1.cell; have f1 := q1.frozen; obtain ⟨g0, g1, g2, g3, g4, g5⟩ := (hnode.later hB2).at0)
      refine ⟨trivial, ?_⟩
      gi_wp2
      refine leaves_marks (base := A.heap.size) (ds := []) trivial fun W' hW' => ⟨.int .i64 4, ?_, 4, rfl, hno, hW'.below (by omega) ((hB.trans (hB2.mono (by omega))).setCell (p := ⟨w.heap.size + 1, 0, none⟩) (by simp) _)⟩
      have := (hW'.boxed (q1.set (.int .i64 4))).cell
      simp [results, Tryz.f25, go_sem, this]
    · have hk6 : (x.k == 6) = false := by simp [h6]
      gi_wp2_with (first
        | (refine ⟨trivial, hdd _, ?_⟩; gi_at_call 50; refine (callsIn_wide.2 hchk).mono ?_; rintro e w2 ⟨rfl, hB2⟩; clear hchk; have q1 := Boxed.kept_of hb1 hB2 (by omega); have n2 := hnode.later hB2; have x2 := hX.later (hB.trans (hB2.mono (by omega))); obtain ⟨g0, g1, g2, g3, g4, g5⟩ := n2.at0)
        | (refine ⟨trivial, hdd _, ?_⟩; gi_at_call 51; refine (alike_in _ x _ 0 _ n2 x2 hsm hok).mono ?_; rintro e w3 ⟨r, rfl, hr, hB3⟩; have HR : Hid _ := hr; clear hr; have q3 := Boxed.kept_of q1 hB3 (by have := hB2.size; omega); have c3 := q3.cell; have f3 := q3.frozen; cases r)
        | (refine ⟨trivial, hdd _, ?_⟩; gi_at_call 52; refine (nodesP_in _ _ _).mono ?_; rintro e w' ⟨rfl, rfl⟩))
      · refine leaves_marks (base := A.heap.size) (ds := []) trivial fun W' hW' => ⟨.int .i64 4, ?_, 4, rfl, .inr (.inr ⟨hc, fun h => (by have := HR.out.2 h.2.1; cases this), rfl⟩), hW'.below (by omega) (((hB.trans (hB2.mono (by omega))).trans (hB3.mono (by have := hB2.size; omega))).setCell (p := ⟨w.heap.size + 1, 0, none⟩) (by simp) _)⟩
        have := (hW'.boxed (q3.set (.int .i64 4))).cell
        simp [results, Tryz.f25, go_sem, this]
      · have hal : AlikeP x := HR.out.1 trivial
        have s2 := hB2.size
        have s3 := hB3.size
        obtain ⟨E, hE⟩ : ∃ E, w3.alloc (.cells #[.pointer (some ⟨w.heap.size, 0, none⟩)] 81) = E := ⟨_, rfl⟩
        have hEs : E.heap.size = w3.heap.size + 1 := by rw [← hE]; simp
        have h3E : Below w3.heap.size w3 E := by rw [← hE]; exact (Below.refl _ _).alloc (Nat.le_refl _) _
        have hpE : Boxed E w3.heap.size 81 (.pointer (some ⟨w.heap.size, 0, none⟩)) := by rw [← hE]; exact Boxed.new _ _ _
        have h2E : Below w2.heap.size w2 E := hB3.trans (h3E.mono s3)
        have hwE : Below w.heap.size w E := (hB.trans (hB2.mono (by omega))).trans (h2E.mono (by omega))
        have nE : NodeP E w.heap.size 0 x := n2.later h2E
        have hbE : Boxed E (w.heap.size + 1) 32 (.int .i64 0) := Boxed.kept_of q3 h3E (by omega)
        rw [hE]
        clear hE HR q3 c3 f3 q1 g0 g1 g2 g3 g4 g5 d0 d1 d2 d3 d4 d5 hA
        refine nodesP_fold w3.heap.size w.heap.size 0 x (fun k => k < w.heap.size + 1) (fun pre W => Below E.heap.size E W ∧ ∀ v ∈ pre, betweenB v.2 (v.1 == 1) = true ∧ (v.2.k = 4 ∨ Apart v.2))
          (fun c W => c = .ret ∧ ¬ MadeP x ∧ Boxed W (w.heap.size + 1) 32 (.int .i64 4) ∧ Below w.heap.size w W)
          rfl rfl hpE.cell hsm (fun k hk => by omega) (by omega) nE (PIn.xt (n := w.heap.size) (fun k hk => by omega) (hX.inn.below hwE)) ?_ ?_ ?_ ?_
          (fun d b o => { tmps := #[x.val, .pointer (some ⟨w.heap.size, 0, none⟩), .pointer (some ⟨w.heap.size + 1, 0, none⟩), .int .i64 0, .int .i64 d, .pointer (some ⟨b, o, none⟩), .agg #[.int .i64 x.k, .string x.s, .string x.t, .int .i64 x.lo, .int .i64 x.hi, .slice x.a x.n x.cap], .int .i64 0, .int .i64 0, .bool false, undef, .pointer (some ⟨w.heap.size, 0, none⟩), .int .i64 x.k, .bool false, .bool false, .bool true, .bool false, .bool false, .func (.func 77) #[] #[.pointer (some ⟨w3.heap.size, 0, none⟩)], .int .i64 d, .pointer (some ⟨b, o, none⟩), undef, undef, undef, undef, undef, undef, undef, undef, undef, undef, undef, undef, undef, undef, undef, undef, undef], defers := [] }) ?_ ?_ ?_ ?_
        · rintro pre W B hag ⟨h1, h2⟩
          exact ⟨hag.below (Nat.le_refl _) h1, h2⟩
        · rintro pre W ⟨h1, h2⟩
          exact ⟨h1.drew, h2⟩
        · exact fun W hW => ⟨hW, fun v hv => by simp at hv⟩
        · rintro c W B hag ⟨h1, h2, h3, h4⟩
          exact ⟨h1, h2, hag.boxed h3, hag.below (by omega) h4⟩
        · intro l d b o W K hK
          gi_wp2
          first | exact hK | simpa using hK
        · rintro l d b o y pre W hb hn hx ⟨hW, hpre⟩ hs ⟨post, hpo⟩
          have hv : (d, y) ∈ visP 1 x := by rw [← hpo]; simp
          clear hpo
          have hyk := visP_all (P := fun _ z => POk z ∧ z.size ≤ 1048576) (fun _ z hz i hi => ⟨((pOk_eq z).1 hz.1).2.2 i hi, by have := z.size_part i hi; omega⟩) x 1 ⟨hok, hsm⟩ (d, y) hv
          have hbt := between_any y (d == 1) b o W hn hx.is
          have hd1 : ((d : Int) == 1) = (d == 1) := by rw [Bool.eq_iff_iff]; simp; omega
          have HP : Hid (∀ W', Below W.heap.size W W' → betweenB y (d == 1) = true → (y.k = 4 ∨ Apart y) → foldPost E.heap.size (fun k => k < w.heap.size + 1 ∨ k = E.heap.size + 2 ∨ k = E.heap.size + 3) (fun W => Below E.heap.size E W ∧ ∀ v ∈ pre ++ [(d, y)], betweenB v.2 (v.1 == 1) = true ∧ (v.2.k = 4 ∨ Apart v.2)) (fun c W => c = .ret ∧ ¬ MadeP x ∧ Boxed W (w.heap.size + 1) 32 (.int .i64 4) ∧ Below w.heap.size w W) W .normal ⟨#[], []⟩ W') := fun W' hB' h1 h2 => by
            refine ⟨⟨hB'.size, fun k ob _ ho _ => (hB'.block k (Array.getElem?_eq_some_iff.1 ho).1).trans ho⟩, fun k ob _ _ ho => (hB'.block k (Array.getElem?_eq_some_iff.1 ho).1).trans ho, hW.trans (hB'.mono hW.size), fun v hv => ?_⟩
            rcases List.mem_append.1 hv with hv | hv
            · exact hpre v hv
            · rw [List.mem_singleton] at hv; rw [hv]; exact ⟨h1, h2⟩
          have HX : Hid (∀ W', Below W.heap.size W W' → ¬ MadeP x → foldPost E.heap.size (fun k => k < w.heap.size + 1 ∨ k = E.heap.size + 2 ∨ k = E.heap.size + 3) (fun W => Below E.heap.size E W ∧ ∀ v ∈ pre ++ [(d, y)], betweenB v.2 (v.1 == 1) = true ∧ (v.2.k = 4 ∨ Apart v.2)) (fun c W => c = .ret ∧ ¬ MadeP x ∧ Boxed W (w.heap.size + 1) 32 (.int .i64 4) ∧ Below w.heap.size w W) W .ret ⟨#[], []⟩ (W'.setCell ⟨w.heap.size + 1, 0, none⟩ (.int .i64 4))) := fun W' hB' h1 => by
            have r1 : Boxed W' (w.heap.size + 1) 32 (.int .i64 0) := Boxed.kept_of (Boxed.kept_of hbE hW (by omega)) hB' (by have := hW.size; omega)
            have k0 : KeepsOthers W W' := ⟨hB'.size, fun k ob ho _ => (hB'.block k (Array.getElem?_eq_some_iff.1 ho).1).trans ho⟩
            exact ⟨(k0.trans (KeepsOthers.setCell _ _ _)).from _, rfl, h1, r1.set _, ((hwE.trans (hW.mono (by omega))).trans (hB'.mono (by have := hW.size; omega))).setCell (p := ⟨w.heap.size + 1, 0, none⟩) (by simp) _⟩
          have HC : Hid (∀ W', Below W.heap.size W W' → W'.cell? ⟨w.heap.size + 1, 0, none⟩ = some (.int .i64 0) ∧ W'.frozen? ⟨w.heap.size + 1, 0, none⟩ = false ∧ W'.cell? ⟨b, o, none⟩ = some (.int .i64 y.k)) := fun W' hB' => by
            have r1 : Boxed W' (w.heap.size + 1) 32 (.int .i64 0) := Boxed.kept_of (Boxed.kept_of hbE hW (by omega)) hB' (by have := hW.size; omega)
            exact ⟨r1.cell, r1.frozen, (hn.later hB').1⟩
          clear hpre hbE hW
          obtain ⟨t, ht⟩ : ∃ t, t = betweenB y (d == 1) := ⟨_, rfl⟩
          rw [← ht] at hbt
          cases t with
          | false =>
            have HNM : Hid (¬ MadeP x) := between_no hv ht.symm
            clear hv ht hyk hn hx
            gi_wp2_with (refine ⟨trivial, hdd _, ?_⟩; gi_at_call 53; refine (CallsIn.inRound l (callsIn_wide.2 hbt)).mono ?_; rintro e v2 ⟨rfl, hC2⟩; obtain ⟨r1, r2, r3⟩ := HC.out v2 hC2)
            all_goals first
              | (rename_i h1 h2; cases h1; done)
              | (refine ⟨trivial, ?_⟩; gi_wp2; exact HX.out _ hC2 HNM.out)
          | true =>
            by_cases h4 : y.k = 4
            · have t4 : (y.k != 4) = false := by simp [h4]
              have HGO : Hid _ := fun W' hB' => HP.out W' hB' ht.symm (.inl h4)
              clear hv ht hyk hn hx HX HP h4
              gi_wp2_with (refine ⟨trivial, hdd _, ?_⟩; gi_at_call 53; refine (CallsIn.inRound l (callsIn_wide.2 hbt)).mono ?_; rintro e v2 ⟨rfl, hC2⟩; obtain ⟨r1, r2, r3⟩ := HC.out v2 hC2)
              refine ⟨trivial, ?_⟩
              gi_wp2
              exact HGO.out _ hC2
            · have t4 : (y.k != 4) = true := by simp [h4]
              have hap := fun W' hB' => apart_any y b o W' (hn.later hB') (hx.is.later hB') hyk.2 hyk.1
              have HV : Hid ((d, y) ∈ visP 1 x) := hv
              have H4 : Hid (y.k ≠ 4) := h4
              have HT : Hid (true = betweenB y (d == 1)) := ht
              clear hv ht hyk hn hx h4
              gi_wp2_with (first
                | (refine ⟨trivial, hdd _, ?_⟩; gi_at_call 53; refine (CallsIn.inRound l (callsIn_wide.2 hbt)).mono ?_; rintro e v2 ⟨rfl, hC2⟩; clear hbt; obtain ⟨r1, r2, r3⟩ := HC.out v2 hC2)
                | (refine ⟨trivial, hdd _, ?_⟩; gi_at_call 54; refine (CallsIn.inRound l (callsIn_wide.2 (hap v2 hC2))).mono ?_; clear hap; rintro e v3 ⟨r, rfl, hr, hC3⟩; have HR : Hid _ := hr; clear hr; have hC4 := hC2.trans (hC3.mono hC2.size); obtain ⟨s1, s2, s3⟩ := HC.out v3 hC4; cases r))
              · exact HX.out _ hC4 (apart_no HV.out H4.out (fun h => (by have := HR.out.2 h; cases this)))
              · exact HP.out _ hC4 HT.out.symm (.inr (HR.out.1 trivial))
        · rintro D0 W hD ⟨hW, hall⟩ hK
          have rW := Boxed.kept_of hbE hW (by omega)
          have rc := rW.cell
          have rf := rW.frozen
          have hK' : (W.setCell ⟨w.heap.size + 1, 0, none⟩ (.int .i64 0)).heap[D0]? = some (.deferred (some [])) := (KeepsOthers.setCell _ _ _).same D0 _ hK rfl
          have hmade : MadeZ x 0 := .inr (.inl ⟨hc, ⟨h6, hal, hall⟩, rfl⟩)
          clear hall hal
          gi_wp2
          refine leaves_marks (base := E.heap.size) ⟨D0, rfl, hD, hK', fun d' hd' => (by simp at hd'), trivial⟩ fun W' hW' => ⟨.int .i64 0, ?_, 0, rfl, hmade, hW'.below (by omega) ((hwE.trans (hW.mono (by omega))).setCell (p := ⟨w.heap.size + 1, 0, none⟩) (by simp) _)⟩
          have := (hW'.boxed (rW.set (.int .i64 0))).cell
          simp [results, Tryz.f25, go_sem, this]
        · rintro D0 c W hD ⟨rfl, h2, h3, h4⟩ hK
          gi_wp2
          refine leaves_marks (base := E.heap.size) ⟨D0, rfl, hD, hK, fun d' hd' => (by simp at hd'), trivial⟩ fun W' hW' => ⟨.int .i64 4, ?_, 4, rfl, .inr (.inr ⟨hc, h2, rfl⟩), hW'.below (by omega) h4⟩
          have := (hW'.boxed h3).cell
          simp [results, Tryz.f25, go_sem, this]
  · have HNZ : Hid (MadeZ x (chkP x)) := .inl ⟨hc, rfl⟩
    obtain ⟨z, hz⟩ : ∃ z, z = chkP x := ⟨_, rfl⟩
    have hne : (z != 0) = true := by simp [hz, hc]
    rw [← hz] at hchk HNZ
    clear hz hc
    gi_wp2_with (refine ⟨trivial, hdd _, ?_⟩; gi_at_call 50; refine (callsIn_wide.2 hchk).mono ?_; rintro e w2 ⟨rfl, hB2⟩; have q1 := Boxed.kept_of hb1 hB2 (by omega); have c1 := q1.cell; have f1 := q1.frozen)
    refine leaves_marks (base := A.heap.size) (ds := []) trivial fun W' hW' => ⟨.int .i64 z, ?_, z, rfl, HNZ.out, hW'.below (by omega) ((hB.trans (hB2.mono (by omega))).setCell (p := ⟨w.heap.size + 1, 0, none⟩) (by simp) _)⟩
    have := (hW'.boxed (q1.set (.int .i64 z))).cell
    simp [results, Tryz.f25, go_sem, this]
theorem madeP_any (x : Pt) (w : World) (hX : IsP w x) (hsm : x.size ≤ 1048576) (hok : POk x) :
    Calls Tryz.prog 25 #[x.val] w fun e w' => ∃ z : Int, e = .returned (.int .i64 z) ∧ MadeZ x z ∧ Below w.heap.size w w' :=
  (callsIn_wide (n := 3)).1 (madeP_in 3 x w hX hsm hok)
end Go.Proofs.YtfnfegcjgnbgbaaGreatDoor
namespace Go.Proofs.YtfnfegcjgnbgbaaGreatDoor
open Go.RowKit

/-- The cells of some nodes, one behind the other. -/
def rowP (c : Nat → Pt) : Nat → List Value
  | 0 => []
  | n + 1 => rowP c n ++ (c n).cells.toList
theorem rowP_len (c : Nat → Pt) : ∀ n, (rowP c n).length = n * 6
  | 0 => rfl
  | n + 1 => by rw [rowP, List.length_append, rowP_len c n]; simp; omega
theorem rowP_get (c : Nat → Pt) : ∀ n i j, i < n → j < 6 → (rowP c n)[i * 6 + j]? = (c i).cells[j]?
  | 0, _, _, h, _ => by omega
  | n + 1, i, j, h, hj => by
    rw [rowP]
    by_cases e : i = n
    · subst e
      rw [List.getElem?_append_right (by rw [rowP_len]; omega), rowP_len, show i * 6 + j - i * 6 = j by omega]
      simp
    · rw [List.getElem?_append_left (by rw [rowP_len]; omega)]
      exact rowP_get c n i j (by omega) hj
theorem rowP_one (c : Nat → Pt) : ∀ n, ∀ u ∈ rowP c n, u.oneCell' = true
  | 0, u, h => by simp [rowP] at h
  | n + 1, u, h => by
    rw [rowP, List.mem_append] at h
    rcases h with h | h
    · exact rowP_one c n u h
    · simp at h
      rcases h with rfl | rfl | rfl | rfl | rfl | rfl <;> rfl
/-- Nodes, one behind the other, as cells. -/
theorem nodesP_cells {w : World} {b o n : Nat} {c : Nat → Pt} (h : ∀ i, i < n → NodeP w b (o + i * 6) (c i)) : ∀ j u, (rowP c n)[j]? = some u → w.cell? ((Addr.mk b o none).add j) = some u := by
  intro j u hu
  have hj : j < n * 6 := by have := (List.getElem?_eq_some_iff.1 hu).1; rwa [rowP_len] at this
  have hi : j / 6 < n := by omega
  have hm : j % 6 < 6 := Nat.mod_lt _ (by omega)
  have he : j / 6 * 6 + j % 6 = j := by omega
  have := rowP_get c n (j / 6) (j % 6) hi hm
  rw [he, hu] at this
  rw [add_none]
  obtain ⟨d0, d1, d2, d3, d4, d5⟩ := h (j / 6) hi
  obtain ⟨m, hm'⟩ : ∃ m, m = j % 6 := ⟨_, rfl⟩
  rw [← hm'] at this hm he
  rw [show o + j = o + j / 6 * 6 + m by omega]
  match m, hm with
  | 0, _ => simp at this; rw [this]; exact d0
  | 1, _ => simp at this; rw [this]; exact d1
  | 2, _ => simp at this; rw [this]; exact d2
  | 3, _ => simp at this; rw [this]; exact d3
  | 4, _ => simp at this; rw [this]; exact d4
  | 5, _ => simp at this; rw [this]; exact d5
/-- A block of cells that may be written. -/
def FreeP (w : World) (b : Nat) : Prop := ∃ cur, w.heap[b]? = some (.cells cur 24 (0, 0))
theorem FreeP.frozen {w : World} {b : Nat} (h : FreeP w b) (o : Nat) : w.frozen? ⟨b, o, none⟩ = false := by
  obtain ⟨cur, h⟩ := h
  simp [World.frozen?, h]
/-- A row that a call owns, node by node. -/
theorem ownP_nodes {w : World} {base n : Nat} {v : Value} {c : Nat → Pt} (h : w.ownsRow base 24 6 v n (rowP c n)) :
    ∃ a cap, v = .slice a n cap ∧ n ≤ cap ∧ cap ≤ maxLen ∧ (0 < n → ∃ g, a = some ⟨g, 0, none⟩ ∧ base ≤ g ∧ g < w.heap.size ∧ FreeP w g ∧ ∀ i, i < n → NodeP w g (i * 6) (c i)) := by
  rcases h.2 with ⟨rfl, rfl⟩ | ⟨g, cap, cur, rfl, hg, hc, hnc, hcm, hs, ht⟩
  · exact ⟨none, 0, rfl, Nat.le_refl _, Nat.zero_le _, fun h => by omega⟩
  · refine ⟨_, cap, rfl, hnc, hcm, fun h0 => ⟨g, rfl, hg, (Array.getElem?_eq_some_iff.1 hc).1, ⟨cur, hc⟩, fun i hi => ?_⟩⟩
    have key : ∀ j, j < 6 → w.cell? ⟨g, i * 6 + j, none⟩ = (c i).cells[j]? := by
      intro j hj
      rw [← rowP_get c n i j hi hj, ← ht, List.getElem?_take_of_lt (by omega)]
      simp only [World.cell?, hc]
      rw [Array.getElem?_toList]
      rfl
    exact ⟨key 0 (by omega), key 1 (by omega), key 2 (by omega), key 3 (by omega), key 4 (by omega), key 5 (by omega)⟩
theorem infoP : (Tryz.prog.info? 24).map (fun i => (i.zero, i.size, i.bytes)) = some (some (.agg #[.int .i64 0, .string ⟨#[]⟩, .string ⟨#[]⟩, .int .i64 0, .int .i64 0, .slice none 0 0]), 6, 80) := by kernel_rfl
/-- Some nodes more behind a row that the call owns. -/
theorem push_p {w : World} {base n : Nat} {v : Value} {xs : List Value} (h : w.ownsRow base 24 6 v n xs) (hb : base ≤ w.heap.size) (p : Addr) (m k : Nat) (c : Nat → Pt) (hm : ∀ i, i < m → ∃ b o, p = ⟨b, o, none⟩ ∧ NodeP w b (o + i * 6) (c i)) (hn : n + m ≤ 1759218604390) :
    ∃ v' w', (Builtin.append_ #[22, 22] 22 #[v, .slice (some p) m k]).run Tryz.prog w = .ok v' w' ∧ w'.ownsRow base 24 6 v' (n + m) (xs ++ rowP c m) ∧ w.grownBy w' v.ownBlock := by
  obtain ⟨i0, hi, hz0, hz1, hz2⟩ := info_parts infoP
  obtain ⟨v', w', hrun, hown', hgrow, _⟩ := run_append_own (P := Tryz.prog) (w := w) base 22 22 24 i0 _ 6 80 Tryz.underlying22 hi hz0 hz1 hz2 rfl (by decide) v n xs h p m k (rowP c m) (rowP_len c m)
    (fun j u hu => by
      have h0 : 0 < m := by
        have := (List.getElem?_eq_some_iff.1 hu).1
        rw [rowP_len] at this
        omega
      obtain ⟨b, o, rfl, _⟩ := hm 0 h0
      refine nodesP_cells (fun i hi => ?_) j u hu
      obtain ⟨b', o', e, hn'⟩ := hm i hi
      cases e
      exact hn') (rowP_one c m) (by unfold maxLen; omega) (by omega) hb
  exact ⟨v', w', hrun, hown', hgrow⟩
set_option maxRecDepth 100000 in
set_option maxHeartbeats 2000000 in
theorem cloneP_wide (a : Option Addr) (n cap : Nat) (c : Nat → Pt) (w : World) (h : ∀ i, i < n → ∃ b o, a = some ⟨b, o, none⟩ ∧ NodeP w b (o + i * 6) (c i)) (hn : n ≤ 1759218604390) :
    Calls Tryz.prog 79 #[.slice a n cap] w fun e w' => ∃ v, e = .returned v ∧ w'.ownsRow w.heap.size 24 6 v n (rowP c n) ∧ Below w.heap.size w w' := by
  cases a with
  | none =>
    obtain rfl : n = 0 := by
      by_cases h0 : 0 < n
      · obtain ⟨_, _, e, _⟩ := h 0 h0
        cases e
      · omega
    clear h
    have he : ∀ w : World, (binOp .eql 22 (.slice none 0 cap) (.slice none 0 0)).run Tryz.prog w = .ok (.bool true) w := fun _ => rfl
    go_enter Tryz.func79, Tryz.ntmps79
    go_wp2
    go_ret
    exact ⟨_, rfl, World.ownsRow_nil _ _ _ _, Below.refl _ _⟩
  | some x =>
    have hB0 : Below w.heap.size w (w.alloc (.cells #[] 24)) := (Below.refl _ _).alloc (Nat.le_refl _) _
    have hown0 : (w.alloc (.cells #[] 24)).ownsRow w.heap.size 24 6 (.slice (some ⟨w.heap.size, 0, none⟩) 0 0) 0 [] :=
      ⟨rfl, .inr ⟨w.heap.size, 0, #[], rfl, Nat.le_refl _, alloc_new w _, Nat.le_refl _, Nat.zero_le _, rfl, rfl⟩⟩
    obtain ⟨v1, w1, hrun1, hown1, hg1⟩ := push_p hown0 (by simp) x n cap c (fun i hi => by
      obtain ⟨b', o', e, hn'⟩ := h i hi
      cases e
      exact ⟨b', o', rfl, hn'.later hB0⟩) (by omega)
    simp only [Nat.zero_add, List.nil_append] at hown1
    have hB1 : Below w.heap.size w w1 := hB0.grown hg1 (by simp) (by intro k hk; simp [Value.ownBlock] at hk; omega)
    have HR1 : Hid (_ = _) := hrun1
    clear h hown0 hB0 hg1 hrun1
    have he : ∀ w : World, (binOp .eql 22 (.slice (some x) n cap) (.slice none 0 0)).run Tryz.prog w = .ok (.bool false) w := fun _ => rfl
    go_enter Tryz.func79, Tryz.ntmps79
    go_wp2_with (first | (at_builtin; refine wpList_append_run rfl (.tmp 5) (.tmp 6) 22 rfl _ _ _ rfl rfl HR1.out ?_))
    go_ret
    exact ⟨_, rfl, hown1, hB1⟩
end Go.Proofs.YtfnfegcjgnbgbaaGreatDoor
