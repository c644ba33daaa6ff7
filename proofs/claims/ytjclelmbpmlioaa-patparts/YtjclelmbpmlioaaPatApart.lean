/-
  pat.apart: does no Var stand in two parts?
-/
import Derived.Test.YtjclelmbpmlioaaPatFirsts
import Derived.Test.YtjclelmbpmlioaaPatRefSame
import Derived.Test.YtjclelmbpmlioaaArgs
namespace Go.Proofs.Ytjclelmbpmlioaa
open Go.RowKit Go.Shelf Go.Maps Go.WideMaps
attribute [local go_sem] Oper.semAt_some

/-- The marks that loops over functions have left, each of a block of its own. -/
def Marks (base : Nat) (W : World) : List Deferred → Prop
  | [] => True
  | d :: ds => ∃ D, d = { target := .collected D, args := #[] } ∧ base ≤ D ∧ W.heap[D]? = some (.deferred (some [])) ∧ (∀ d' ∈ ds, d' ≠ { target := .collected D, args := #[] }) ∧ Marks base W ds
theorem Marks.keep {base : Nat} {W W' : World} : ∀ {ds : List Deferred}, (∀ D, { target := .collected D, args := #[] } ∈ ds → base ≤ D → W.heap[D]? = some (.deferred (some [])) → W'.heap[D]? = some (.deferred (some []))) → Marks base W ds → Marks base W' ds
  | [], _, _ => trivial
  | d :: ds, h, hm => by
    obtain ⟨D, rfl, h1, h2, h3, h4⟩ := hm
    exact ⟨D, rfl, h1, h D (by simp) h1 h2, h3, Marks.keep (fun D' hD' => h D' (List.mem_cons_of_mem _ hD')) h4⟩
theorem leaves_marks {F : Fence} {n base : Nat} {P : Program} {fn : Func} {tmps : Array Value} {R : Ending → World → Prop} : ∀ {ds : List Deferred} {W : World}, Marks base W ds → (∀ W', Ag base W W' → ∃ v, (results fn tmps).run P W' = .ok v W' ∧ R (.returned v) W') →
    LeavesInM F n P fn tmps R ds .returning W
  | [], W, _, h => h W (Ag.refl _ _)
  | d :: ds, W, hm, h => by
    obtain ⟨D, rfl, h1, h2, h3, h4⟩ := hm
    refine ⟨by simp, .inl ⟨D, _, rfl, run_takeDeferred h2, leaves_marks (base := base) (Marks.keep (fun D' hD' _ hk => (World.putObj_heap_other (fun e => h3 _ hD' (by rw [e]))).trans hk) h4) fun W' hW' => h W' ((Ag.putObj h1 h2 rfl rfl).trans hW')⟩⟩
/-- The last part, of the first k, in which a Var stands. -/
def partOf (x : Pt) : Nat → ByteArray → Option Nat
  | 0, _ => none
  | k + 1, s => if (usesP (x.c k)).any (fun u => decide (u.s = s)) = true then some k else partOf x k s
theorem partOf_some {x : Pt} {s : ByteArray} : ∀ {k j : Nat}, partOf x k s = some j → j < k ∧ ∃ u ∈ usesP (x.c j), u.s = s
  | 0, _, h => by cases h
  | k + 1, j, h => by
    simp only [partOf] at h
    split at h
    · rename_i hu
      cases h
      obtain ⟨u, hu1, hu2⟩ := List.any_eq_true.1 hu
      exact ⟨by omega, u, hu1, by simpa using hu2⟩
    · obtain ⟨h1, h2⟩ := partOf_some h
      exact ⟨by omega, h2⟩
theorem partOf_none {x : Pt} {s : ByteArray} : ∀ {k : Nat}, partOf x k s = none → ∀ i, i < k → ∀ u ∈ usesP (x.c i), u.s ≠ s
  | 0, _, i, hi => by omega
  | k + 1, h, i, hi => by
    simp only [partOf] at h
    split at h
    · cases h
    · rename_i hu
      intro u hu1 e
      by_cases ei : i = k
      · subst ei
        exact hu (List.any_eq_true.2 ⟨u, hu1, by simp [e]⟩)
      · exact partOf_none h i (by omega) u hu1 e
/-- No Var stands in two of the first k parts. -/
def ApTo (x : Pt) (k : Nat) : Prop := ∀ i j, i < j → j < k → ∀ a ∈ usesP (x.c i), ∀ b ∈ usesP (x.c j), a.s ≠ b.s
theorem ApTo.next {x : Pt} {k : Nat} (h : ApTo x k) (hu : ∀ u ∈ usesP (x.c k), partOf x k u.s = none) : ApTo x (k + 1) := by
  intro i j hij hj a ha b hb
  by_cases e : j = k
  · subst e
    exact partOf_none (hu b hb) i hij a ha
  · exact h i j hij (by omega) a ha b hb
theorem not_apart {x y : Pt} {k j : Nat} (hk : k < x.n) (hy : y ∈ usesP (x.c k)) (hj : partOf x k y.s = some j) : ¬ Apart x := fun h => by
  obtain ⟨h1, u, hu, e⟩ := partOf_some hj
  exact h j k h1 hk u hu y hy e
theorem cum_le {x : Pt} {k : Nat} (hk : k ≤ x.n) : (catN (fun i => usesP (x.c i)) k).length ≤ x.size := by
  have key : ∀ m, m ≤ x.n → (catN (fun i => usesP (x.c i)) m).length ≤ sumN (fun i => (x.c i).size) m := by
    intro m
    induction m with
    | zero => intro _; exact Nat.le_refl _
    | succ m ih => intro hm; have := ih (by omega); have := length_uses (x.c m); simp only [catN, sumN, List.length_append]; omega
  have h1 := key k hk
  have h2 : sumN (fun i => (x.c i).size) k ≤ sumN (fun i => (x.c i).size) x.n := by
    have mono : ∀ m, sumN (fun i => (x.c i).size) k ≤ sumN (fun i => (x.c i).size) (k + m) := by
      intro m
      induction m with
      | zero => exact Nat.le_refl _
      | succ m ih => rw [show k + (m + 1) = (k + m) + 1 from rfl]; simp only [sumN]; omega
    have := mono (x.n - k)
    rwa [show k + (x.n - k) = x.n by omega] at this
  rw [x.size_eq]
  omega
/-- Behind the first k parts. -/
def ApJ (x : Pt) (A : World) (s0 k : Nat) (ds : List Deferred) (W : World) : Prop :=
  Marks A.heap.size W ds ∧ Lb A.heap.size (s0 + 1) A W ∧ (∃ D q, W.ownsMap Try.prog 9 (plainElem (H := Unit) Try.prog 3) (s0 + 1) q D ∧ q ≤ (catN (fun i => usesP (x.c i)) k).length ∧ MapsTo (partOf x k) D) ∧ ApTo x k
/-- Within part k. -/
def ApIn (x : Pt) (C : World) (s0 k : Nat) (pre : List Pt) (W : World) : Prop :=
  Lb C.heap.size (s0 + 1) C W ∧ (∃ D q, W.ownsMap Try.prog 9 (plainElem (H := Unit) Try.prog 3) (s0 + 1) q D ∧ q ≤ (catN (fun i => usesP (x.c i)) k).length + pre.length ∧ MapsTo (fun s => if pre.any (fun u => decide (u.s = s)) = true then some k else partOf x k s) D) ∧ ∀ u ∈ pre, partOf x k u.s = none
/-- A Var stands in two parts, and it is told. -/
def ApX (x : Pt) (w A E : World) (c : Code) (W : World) : Prop :=
  c = .ret ∧ ¬ Apart x ∧ Boxed W w.heap.size 4 (.bool false) ∧ Below w.heap.size w W ∧ ∀ D, A.heap.size ≤ D → D < E.heap.size → W.heap[D]? = E.heap[D]?
theorem Marks.lt {base : Nat} {W : World} : ∀ {ds : List Deferred}, Marks base W ds → ∀ {D : Nat}, { target := .collected D, args := #[] } ∈ ds → D < W.heap.size
  | [], _, _, h => by simp at h
  | d :: ds, hm, D, h => by
    obtain ⟨D1, rfl, h1, h2, h3, h4⟩ := hm
    rcases List.mem_cons.1 h with h | h
    · injection h with h _
      injection h with h
      rw [h]
      exact (Array.getElem?_eq_some_iff.1 h2).1
    · exact Marks.lt h4 h
theorem apTo_all {x : Pt} : ApTo x x.n ↔ Apart x := ⟨fun h i j hij hj a ha b hb => h i j hij hj a ha b hb, fun h i j hij hj a ha b hb => h i j hij hj a ha b hb⟩
set_option maxRecDepth 100000 in
set_option maxHeartbeats 8000000 in
theorem apart_in (n : Nat) (x : Pt) (b0 o0 : Nat) (w : World) (hN : NodeP w b0 o0 x) (hX : IsP w x) (hsm : x.size ≤ 1048576) (hok : POk x) :
    CallsIn Fence.wide n Try.prog 32 #[.pointer (some ⟨b0, o0, none⟩)] w fun e w' => ∃ r : Bool, e = .returned (.bool r) ∧ (r = true ↔ Apart x) ∧ Below w.heap.size w w' := by
  have hdd : ∀ k : Nat, (Fence.wide.depth.isSome = true → 1 ≤ k) := fun k h => by cases h
  have hmm := @run_makeMap Try.prog
  obtain ⟨A, hA⟩ : ∃ A, ((w.alloc (.cells #[.bool false] 4)).alloc (.map #[] 0)).alloc (.cells #[.map (some (w.heap.size + 1))] 47) = A := ⟨_, rfl⟩
  have hAs : A.heap.size = w.heap.size + 3 := by rw [← hA]; simp
  have hBA : Below w.heap.size w A := by rw [← hA]; exact (((Below.refl _ w).alloc (Nat.le_refl _) _).alloc (by simp) _).alloc (by simp; omega) _
  have hr0 : Boxed A w.heap.size 4 (.bool false) := by rw [← hA]; exact ((Boxed.new w _ _).alloc _).alloc _
  have hm1 : A.ownsMap Try.prog 9 (plainElem (H := Unit) Try.prog 3) (w.heap.size + 1) 0 (.map []) := by
    have := (World.ownsMap_made (w.alloc (.cells #[.bool false] 4)) Try.prog 9 (plainElem (H := Unit) Try.prog 3)).alloc (.cells #[.map (some (w.heap.size + 1))] 47)
    rw [World.size_alloc, hA] at this
    exact this
  have hb2 : Boxed A (w.heap.size + 2) 47 (.map (some (w.heap.size + 1))) := by
    have := Boxed.new ((w.alloc (.cells #[.bool false] 4)).alloc (.map #[] 0)) 47 (.map (some (w.heap.size + 1)))
    rw [World.size_alloc, World.size_alloc, hA] at this
    exact this
  obtain ⟨d0, d1, d2, d3, d4, d5⟩ := hN.later hBA
  have hxl := hX.len
  refine callsIn_of_wp_marks Try.func32 rfl trivial ?_ rfl
  simp only [Try.ntmps32, List.size_toArray, List.length_cons, List.length_nil, Nat.reduceAdd, Nat.reduceSub, Array.replicate_succ, Array.replicate_zero, List.push_toArray, List.append_toArray, List.nil_append, List.cons_append]
  gi_wp2
  clear hA hmm d0 d1 d2 d3 d4 d5
  refine wpIn_loop (fun a wr => ∃ (k : Nat) (ds : List Deferred) (u4 u15 u16 u17 u18 u19 u20 u21 u22 u23 u46 : Value), a = { tmps := #[.pointer (some ⟨b0, o0, none⟩), undef, .pointer (some ⟨w.heap.size, 0, none⟩), .pointer (some ⟨w.heap.size + 1 + 1, 0, none⟩), u4, undef, undef, undef, .map (some (w.heap.size + 1)), .pointer (some ⟨b0, o0, none⟩), .pointer (some ⟨b0, o0, none⟩), .pointer (some ⟨b0, o0 + 5, none⟩), .slice x.a x.n x.cap, .int .i64 (x.n : Nat), .int .i64 (k : Nat), u15, u16, u17, u18, u19, u20, u21, u22, u23, undef, undef, undef, undef, undef, undef, undef, undef, undef, undef, undef, undef, undef, undef, undef, undef, undef, undef, undef, undef, undef, undef, u46], defers := ds } ∧ k ≤ x.n ∧ ApJ x A w.heap.size k ds wr)
    (fun a _ => x.n - (intOf (a.tmps[14]?.getD undef)).toNat) ⟨0, [], undef, undef, undef, undef, undef, undef, undef, undef, undef, undef, undef, rfl, Nat.zero_le _, trivial, Lb.refl _ _ _, ⟨_, 0, hm1, Nat.le_refl _, mapsTo_none.congr (fun s => rfl)⟩, fun i j _ hj => absurd hj (Nat.not_lt_zero _)⟩ ?_
  rintro _ wr ⟨k, ds, u4, u15, u16, u17, u18, u19, u20, u21, u22, u23, u46, rfl, hk, hmk, hLb, ⟨D, q, hmap, hq, hmt⟩, hap⟩
  have hBr : Below w.heap.size w wr := hBA.trans (hLb.below (by omega) (by omega))
  have hrr : Boxed wr w.heap.size 4 (.bool false) := hLb.boxed hr0 (by omega) (by omega)
  have hbr : Boxed wr (w.heap.size + 2) 47 (.map (some (w.heap.size + 1))) := hLb.boxed hb2 (by omega) (by omega)
  have hsr := hLb.size
  by_cases hkn : k < x.n
  · obtain ⟨b1, o1, ea, hn1, hx1⟩ := hX.part hkn
    have hlt1 := hn1.lt
    have hlt0 := hN.lt
    obtain ⟨C, hC⟩ : ∃ C, (wr.alloc (.cells #[.int .i64 (k : Nat)] 3)) = C := ⟨_, rfl⟩
    have hCs : C.heap.size = wr.heap.size + 1 := by rw [← hC]; simp
    have hBC : Below wr.heap.size wr C := by rw [← hC]; exact (Below.refl _ wr).alloc (Nat.le_refl _) _
    have hi : Boxed C wr.heap.size 3 (.int .i64 (k : Nat)) := by rw [← hC]; exact Boxed.new wr _ _
    have hic := hi.cell
    have hwC : Below w.heap.size w C := hBr.trans (hBC.mono (by omega))
    obtain ⟨d0, d1, d2, d3, d4, d5⟩ := hN.below hwC hlt0
    rw [ea] at d5 ⊢
    have HK : Hid (k < x.n) := hkn
    clear d0 d1 d2 d3 d4
    gi_wp2
    refine wpIn_mono (show Code.wpIn Fence.wide n Try.prog _ (Exit.then (fun a' w' => a' = { tmps := #[.pointer (some ⟨b0, o0, none⟩), undef, .pointer (some ⟨w.heap.size, 0, none⟩), .pointer (some ⟨w.heap.size + 1 + 1, 0, none⟩), .pointer (some ⟨wr.heap.size, 0, none⟩), undef, undef, undef, .map (some (w.heap.size + 1)), .pointer (some ⟨b0, o0, none⟩), .pointer (some ⟨b0, o0, none⟩), .pointer (some ⟨b0, o0 + 5, none⟩), .slice (some ⟨b1, o1, none⟩) x.n x.cap, .int .i64 (x.n : Nat), .int .i64 (k : Nat), .bool true, .int .i64 (k : Nat), .pointer (some ⟨b0, o0, none⟩), .pointer (some ⟨b0, o0, none⟩), .pointer (some ⟨b0, o0 + 5, none⟩), .slice (some ⟨b1, o1, none⟩) x.n x.cap, .int .i64 (k : Nat), .pointer (some ⟨b1, o1 + k * 6, none⟩), .func (.func 43) #[] #[.pointer (some ⟨wr.heap.size + 1, 0, none⟩)], undef, undef, undef, undef, undef, undef, undef, undef, undef, undef, undef, undef, undef, undef, undef, undef, undef, undef, undef, undef, undef, undef, u46], defers := ds } ∧ w' = (C.alloc (.cells #[.pointer (some ⟨b1, o1 + k * 6, none⟩)] 55)).drew) (fun _ _ _ => False)) _ _ from ?_) ?_
    · gi_region_with ((refine ⟨trivial, hdd _, ?_⟩; gi_at_call 25; refine (named_in _ _ _).mono ?_; rintro e w' ⟨rfl, rfl⟩))
      all_goals exact ⟨rfl, rfl⟩
    · rintro e a' w' h
      cases e with
      | normal =>
        obtain ⟨rfl, rfl⟩ := h
        obtain ⟨E, hE⟩ : ∃ E, (C.alloc (.cells #[.pointer (some ⟨b1, o1 + k * 6, none⟩)] 55)).drew = E := ⟨_, rfl⟩
        have hEs : E.heap.size = wr.heap.size + 2 := by rw [← hE]; show (C.alloc _).heap.size = _; simp; omega
        have hBE : Below wr.heap.size wr E := by rw [← hE]; exact (hBC.trans (((Below.refl _ C).alloc (Nat.le_refl _) _).mono (by omega))).drew
        have hiE : Boxed E wr.heap.size 3 (.int .i64 (k : Nat)) := by rw [← hE]; exact hi.alloc _
        have hpE : Boxed E (wr.heap.size + 1) 55 (.pointer (some ⟨b1, o1 + k * 6, none⟩)) := by
          have := Boxed.new C 55 (.pointer (some ⟨b1, o1 + k * 6, none⟩))
          rw [hCs] at this
          rw [← hE]
          exact this
        have hwE : Below w.heap.size w E := hBr.trans (hBE.mono (by omega))
        have hrE : Boxed E w.heap.size 4 (.bool false) := Boxed.kept_of hrr hBE (by omega)
        have hbE : Boxed E (w.heap.size + 2) 47 (.map (some (w.heap.size + 1))) := Boxed.kept_of hbr hBE (by omega)
        have hmE := ownsMap_below hBE (by omega) hmap
        have hmkE : Marks A.heap.size E ds := Marks.keep (fun D' _ _ h => (hBE.block D' (Array.getElem?_eq_some_iff.1 h).1).trans h) hmk
        have hLE : Lb A.heap.size (w.heap.size + 1) A E := hLb.trans (.of_below (hBE.mono (by omega)))
        have hdsl : ∀ D', { target := .collected D', args := #[] } ∈ ds → D' < E.heap.size := fun D' h => Marks.lt hmkE h
        have hsk : (x.c k).size ≤ 1048576 := by
          have := x.size_part k hkn
          omega
        have hokk := ((pOk_eq x).1 hok).2.2 k hkn
        have hcum := cum_le (x := x) (k := k + 1) hkn
        rw [hE]
        clear hE hC hi hic d5
        gi_wp2
        refine named_fold (wr.heap.size + 1) b1 (o1 + k * 6) (x.c k) (fun k => k < w.heap.size) (ApIn x E w.heap.size k) (ApX x w A E)
          rfl rfl hpE.cell hsk (fun k hk => by omega) hlt1 (hn1.below hwE hlt1) (PIn.xt (n := w.heap.size) (fun k hk => hk) (hx1.inn.below hwE)) ?_ ?_ ?_ ?_
          (fun b o => { tmps := #[.pointer (some ⟨b0, o0, none⟩), undef, .pointer (some ⟨w.heap.size, 0, none⟩), .pointer (some ⟨w.heap.size + 1 + 1, 0, none⟩), .pointer (some ⟨wr.heap.size, 0, none⟩), .pointer (some ⟨b, o, none⟩), undef, undef, .map (some (w.heap.size + 1)), .pointer (some ⟨b0, o0, none⟩), .pointer (some ⟨b0, o0, none⟩), .pointer (some ⟨b0, o0 + 5, none⟩), .slice (some ⟨b1, o1, none⟩) x.n x.cap, .int .i64 (x.n : Nat), .int .i64 (k : Nat), .bool true, .int .i64 (k : Nat), .pointer (some ⟨b0, o0, none⟩), .pointer (some ⟨b0, o0, none⟩), .pointer (some ⟨b0, o0 + 5, none⟩), .slice (some ⟨b1, o1, none⟩) x.n x.cap, .int .i64 (k : Nat), .pointer (some ⟨b1, o1 + k * 6, none⟩), .func (.func 43) #[] #[.pointer (some ⟨wr.heap.size + 1, 0, none⟩)], .pointer (some ⟨b, o, none⟩), undef, undef, undef, undef, undef, undef, undef, undef, undef, undef, undef, undef, undef, undef, undef, undef, undef, undef, undef, undef, undef, u46], defers := [] }) ?_ ?_ ?_ ?_
        · rintro pre W B hag ⟨h1, ⟨D', q', m1, m2, m3⟩, h3⟩
          exact ⟨Lb.ag (Ag.refl _ _) hag (Nat.le_refl _) h1, ⟨D', q', ownsMap_ag hag (by omega) m1, m2, m3⟩, h3⟩
        · rintro pre W ⟨h1, ⟨D', q', m1, m2, m3⟩, h3⟩
          exact ⟨h1.trans (Lb.of_below (Below.refl _ _).drew), ⟨D', q', m1, m2, m3⟩, h3⟩
        · intro W hW
          exact ⟨Lb.of_below hW, ⟨D, q, ownsMap_below hW (by omega) hmE, by simpa using hq, hmt.congr (fun s => by simp)⟩, fun u hu => by simp at hu⟩
        · rintro c W B hag ⟨h1, h2, h3, h4, h5⟩
          exact ⟨h1, h2, hag.boxed h3, hag.below (by omega) h4, fun D' q1 q2 => (hag.low D' q2).trans (h5 D' q1 q2)⟩
        · intro l b o W K hK
          gi_wp2
          first | exact hK | simpa using hK
        · rintro l b o y pre W hb hn hx ⟨hL, ⟨D', q', m1, m2, m3⟩, hpre⟩ hs ⟨post, hpo⟩ hnm
          have hmem : y ∈ usesP (x.c k) := by rw [← hpo]; simp
          have hys := (uses_ok hokk y hmem).1
          have hlen : (catN (fun i => usesP (x.c i)) k).length + pre.length < 1048576 := by
            have h1 := congrArg List.length hpo
            simp only [catN, List.length_append, List.length_cons] at h1 hcum
            omega
          obtain ⟨c, hlook, hcj⟩ := look_all m1 m3 hys
          have cm := (hL.boxed hbE (by omega) (by omega)).cell
          have ci := (hL.boxed hiE (by omega) (by omega)).cell
          have rW := hL.boxed hrE (by omega) (by omega)
          have rc := rW.cell
          have rf := rW.frozen
          obtain ⟨d0, d1, d2, d3, d4, d5⟩ := hn
          clear hpo hx d0 d2 d3 d4 d5
          have hor : (∃ cv : Bool, (∀ nq, (Instr.lookup 47 (.map (some (w.heap.size + 1))) (.string y.s) true).run Try.prog (W.drewN nq) = .ok (.tuple #[.int .i64 c, .bool cv]) (W.drewN nq)) ∧ (cv = true → c = (k : Nat)) ∧ partOf x k y.s = none) ∨
              ∃ j, partOf x k y.s = some j ∧ (c != ((k : Nat) : Int)) = true ∧ ∀ nq, (Instr.lookup 47 (.map (some (w.heap.size + 1))) (.string y.s) true).run Try.prog (W.drewN nq) = .ok (.tuple #[.int .i64 c, .bool true]) (W.drewN nq) := by
            by_cases hany : pre.any (fun u => decide (u.s = y.s)) = true
            · simp only [hany, if_true] at hlook hcj
              obtain ⟨u, hu, e⟩ := List.any_eq_true.1 hany
              have e' : u.s = y.s := by simpa using e
              exact .inl ⟨true, fun nq => hlook _ m1, fun _ => hcj k rfl, by rw [← e']; exact hpre u hu⟩
            · simp only [if_neg hany] at hlook hcj
              cases hf : partOf x k y.s with
              | none =>
                rw [hf] at hlook
                exact .inl ⟨false, fun nq => hlook _ m1, fun h => (by cases h), rfl⟩
              | some j =>
                rw [hf] at hlook hcj
                have := (partOf_some hf).1
                exact .inr ⟨j, rfl, by rw [hcj j rfl]; simp; omega, fun nq => hlook _ m1⟩
          clear hlook hcj
          rcases hor with ⟨cv, hlk, hck, hnone⟩ | ⟨j, hj, hne, hlk⟩
          · have FIN : Hid (∀ nq, ∃ w1, (Instr.mapUpdate 47 (.map (some (w.heap.size + 1))) (.string y.s) (.int .i64 (k : Nat))).run Try.prog (W.drewN (nq + 1)) = .ok () w1 ∧ foldPost E.heap.size (fun k => k < w.heap.size ∨ (E.heap.size ≤ k ∧ k < E.heap.size + 8)) (ApIn x E w.heap.size k (pre ++ [y])) (ApX x w A E) W .normal ⟨#[], []⟩ w1) := fun nq => by
              have g4 : (W.drewN (nq + 1)).ownsMap Try.prog 9 (plainElem (H := Unit) Try.prog 3) (w.heap.size + 1) q' D' := m1
              have hkey : keyOf Try.prog 9 (.string y.s) = some (keyS y.s) := keyOf_string_mk Try.underlying9 hys
              obtain ⟨w1, hrunU, hown1, hgrow1⟩ := g4.update str_law Try.underlying47 (by unfold maxLen; omega) (val := .int .i64 (k : Nat)) hkey (plainElem_int Try.underlying3 (WalkArith.wf_i64 (by omega)))
              refine ⟨w1, hrunU, ⟨hgrow1.size, fun k' ob hk' e hc => ?_⟩, fun k' ob hk' ho e => ?_, ?_, ⟨_, q' + 1, hown1, by rw [List.length_append]; simp; omega, ?_⟩, ?_⟩
              · exact (hgrow1.block k' (Array.getElem?_eq_some_iff.1 e).1 (fun q => by injection q with q; omega)).trans e
              · exact (hgrow1.block k' (Array.getElem?_eq_some_iff.1 e).1 (fun q => by injection q with q; rcases hk' with hk' | hk' <;> omega)).trans e
              · exact hL.trans ⟨hgrow1.os, hgrow1.tape, hgrow1.output, hgrow1.size, fun k' h1 h2 => hgrow1.block k' (show k' < W.heap.size by omega) (fun q => by injection q with q; exact h2 q)⟩
              · refine (m3.put g4.isMap y.s k).congr fun s => ?_
                by_cases e : s = y.s
                · simp [e]
                · have e' : ¬ y.s = s := fun h => e h.symm
                  simp [e, e']
              · intro u hu
                rcases List.mem_append.1 hu with hu | hu
                · exact hpre u hu
                · rw [List.mem_singleton] at hu
                  rw [hu]; exact hnone
            have hcc : cv = true → (c != ((k : Nat) : Int)) = false := fun h => by rw [hck h]; simp
            clear hpre m1 m2 m3 hL hnone hck rc rf rW hmem
            gi_wp2
            refine wpIn_region_round (by kernel_rfl) (by kernel_rfl) (by kernel_rfl) ?_
            repeat (gi_big_quiet_step (fail))
            refine wpQuietIn_nil ?_
            intro _ hw'
            obtain ⟨nq, hw''⟩ := hw'
            subst hw''
            obtain ⟨w1, hrunU, hfin⟩ := FIN.out nq
            clear FIN hlk
            have HFIN : Hid _ := hfin
            clear hfin
            cases cv
            all_goals (try have hcc' := hcc rfl)
            all_goals clear hcc
            all_goals gi_wp2
            all_goals (refine wpIn_region_reads 6 [(40, .map (some (w.heap.size + 1))), (41, .pointer (some ⟨b, o, none⟩)), (42, .pointer (some ⟨b, o, none⟩)), (43, .pointer (some ⟨b, o + 1, none⟩)), (44, .string y.s), (45, .int .i64 (k : Nat))] _ (by kernel_rfl) (by kernel_rfl) rfl rfl (by kernel_rfl) rfl ?_ ?_ (w1 := w1) ?_)
            any_goals exact HFIN.out
            all_goals (generalize hfull : puts _ _ = full)
            all_goals (have F3 : full[3]? = some (.pointer (some ⟨w.heap.size + 1 + 1, 0, none⟩)) := by rw [← hfull]; kernel_rfl)
            all_goals (have F4 : full[4]? = some (.pointer (some ⟨wr.heap.size, 0, none⟩)) := by rw [← hfull]; kernel_rfl)
            all_goals (have F5 : full[5]? = some (.pointer (some ⟨b, o, none⟩)) := by rw [← hfull]; kernel_rfl)
            all_goals (have F40 : full[40]? = some (.map (some (w.heap.size + 1))) := by rw [← hfull]; kernel_rfl)
            all_goals (have F41 : full[41]? = some (.pointer (some ⟨b, o, none⟩)) := by rw [← hfull]; kernel_rfl)
            all_goals (have F42 : full[42]? = some (.pointer (some ⟨b, o, none⟩)) := by rw [← hfull]; kernel_rfl)
            all_goals (have F43 : full[43]? = some (.pointer (some ⟨b, o + 1, none⟩)) := by rw [← hfull]; kernel_rfl)
            all_goals (have F44 : full[44]? = some (.string y.s) := by rw [← hfull]; kernel_rfl)
            all_goals (have F45 : full[45]? = some (.int .i64 (k : Nat)) := by rw [← hfull]; kernel_rfl)
            all_goals clear hfull
            all_goals first
              | (simp [execOp, Act.eval, go_sem, Array.getD_eq_getD_getElem?, F40, F44, F45, hrunU]; done)
              | (simp only [List.take_succ_cons, List.take_zero, Reads]
                 refine ⟨⟨_, _, rfl, F40, ?_⟩, ⟨_, _, rfl, F41, ?_⟩, ⟨_, _, rfl, F42, ?_⟩, ⟨_, _, rfl, F43, ?_⟩, ⟨_, _, rfl, F44, ?_⟩, ⟨_, _, rfl, F45, ?_⟩, trivial⟩
                 all_goals simp [execOp, Act.eval, go_sem, Array.getD_eq_getD_getElem?, F3, F4, F5, F41, F42, F43, cm, ci, d1])
          · have HNO : Hid (∀ n1, foldPost E.heap.size (fun k => k < w.heap.size ∨ (E.heap.size ≤ k ∧ k < E.heap.size + 8)) (ApIn x E w.heap.size k (pre ++ [y])) (ApX x w A E) W .ret ⟨#[], []⟩ ((W.drewN n1).setCell ⟨w.heap.size, 0, none⟩ (.bool false))) := fun n1 => by
              have k0 : KeepsOthers W (W.drewN n1) := ⟨Nat.le_refl _, fun _ _ h _ => h⟩
              have rW2 : Boxed (W.drewN n1) w.heap.size 4 (.bool false) := rW
              refine ⟨(k0.trans (KeepsOthers.setCell _ _ _)).from _, rfl, not_apart hkn hmem hj, rW2.set _, ?_, fun D1 h1 h2 => ?_⟩
              · exact ((hwE.trans (hL.below (by omega) (by omega))).trans (show Below w.heap.size W (W.drewN n1) from ⟨rfl, rfl, rfl, Nat.le_refl _, fun _ _ => rfl⟩)).setCell (p := ⟨w.heap.size, 0, none⟩) (Nat.le_refl _) _
              · exact (Below.heap_setCell _ ⟨w.heap.size, 0, none⟩ (.bool false) D1 (fun e => by have e' : D1 = w.heap.size := e; omega)).trans (hL.block D1 h2 (by omega))
            clear hpre m1 m2 m3 hL hj rW hmem
            gi_wp2
            refine wpIn_region_round (by kernel_rfl) (by kernel_rfl) (by kernel_rfl) ?_
            repeat (gi_big_quiet_step (fail))
            refine wpQuietIn_nil ?_
            intro _ hw'
            obtain ⟨nq, hw''⟩ := hw'
            subst hw''
            gi_wp2
            exact HNO.out _
        · rintro D0 W hD ⟨hL, ⟨D', q', m1, m2, m3⟩, hpre⟩ hK
          have hnew : Marks A.heap.size W ({ target := .collected D0, args := #[] } :: ds) :=
            ⟨D0, rfl, by omega, hK, fun d' hd' e => (by subst e; have := hdsl D0 hd'; omega), Marks.keep (fun D1 hD1 h h2 => (hL.block D1 (hdsl D1 hD1) (by omega)).trans h2) hmkE⟩
          have hJn : Hid (ApJ x A w.heap.size (k + 1) ({ target := .collected D0, args := #[] } :: ds) W) :=
            ⟨hnew, hLE.trans ⟨hL.os, hL.tape, hL.output, hL.size, fun k h1 h2 => hL.block k (by omega) h2⟩, ⟨D', q', m1, by simp only [catN, List.length_append]; exact m2, m3⟩, hap.next hpre⟩
          clear hnew m1 m2 m3 hpre hL hmkE hmE hmt hmap hap
          gi_wp2
          exact ⟨⟨k + 1, _, _, _, _, _, _, _, _, _, _, _, _, rfl, HK.out, hJn.out⟩, by have := HK.out; simp [intOf]; omega⟩
        · rintro D0 c W hD ⟨rfl, h2, h3, h4, h5⟩ hK
          have hnew : Marks A.heap.size W ({ target := .collected D0, args := #[] } :: ds) :=
            ⟨D0, rfl, by omega, hK, fun d' hd' e => (by subst e; have := hdsl D0 hd'; omega), Marks.keep (fun D1 hD1 h hh => (h5 D1 h (hdsl D1 hD1)).trans hh) hmkE⟩
          gi_wp2
          refine leaves_marks (base := A.heap.size) hnew fun W' hW' => ⟨.bool false, ?_, false, rfl, ⟨fun h => (by cases h), fun h => absurd h h2⟩, hW'.below (by omega) h4⟩
          have := (hW'.boxed h3).cell
          simp [results, Try.f32, go_sem, this]
      | ret => exact h.elim
      | exit id => exact h.elim
      | goto t => exact h.elim
      | panic ch => exact h.elim
      | outgrown => exact h.elim
  · obtain rfl : k = x.n := by omega
    have c0 := hrr.cell
    have f0 := hrr.frozen
    have hc5 := (hrr.set (.bool true)).cell
    gi_wp2
    refine leaves_marks (base := A.heap.size) (Marks.keep (fun D' _ h h2 => (KeepsOthers.setCell wr ⟨w.heap.size, 0, none⟩ (.bool true)).same D' _ h2 rfl) hmk) fun W' hW' => ⟨.bool true, ?_, true, rfl, ⟨fun _ => apTo_all.1 hap, fun _ => rfl⟩, ?_⟩
    · have := (hW'.boxed (hrr.set (.bool true))).cell
      simp [results, Try.f32, go_sem, this]
    · exact hW'.below (by omega) (hBr.setCell (p := ⟨w.heap.size, 0, none⟩) (Nat.le_refl _) _)
theorem apart_any (x : Pt) (b0 o0 : Nat) (w : World) (hN : NodeP w b0 o0 x) (hX : IsP w x) (hsm : x.size ≤ 1048576) (hok : POk x) :
    Calls Try.prog 32 #[.pointer (some ⟨b0, o0, none⟩)] w fun e w' => ∃ r : Bool, e = .returned (.bool r) ∧ (r = true ↔ Apart x) ∧ Below w.heap.size w w' :=
  (callsIn_wide (n := 3)).1 (apart_in 3 x b0 o0 w hN hX hsm hok)
end Go.Proofs.Ytjclelmbpmlioaa
