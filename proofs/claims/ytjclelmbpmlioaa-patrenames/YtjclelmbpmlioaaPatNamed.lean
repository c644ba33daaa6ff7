/-
  pat.named: a range over the nodes that have a Var.
-/
import Derived.Test.YtjclelmbpmlioaaPatWalk
namespace Go.Proofs.Ytjclelmbpmlioaa
open Go.RowKit Go.Shelf
attribute [local go_sem] Oper.semAt_some

theorem Ag.mono {B B' : Nat} {W A : World} (h : Ag B' W A) (hB : B ≤ B') : Ag B W A := ⟨h.os, h.tape, h.output, h.size, fun k hk => h.low k (by omega), h.cells⟩
theorem keepsFrom_mono {B B' : Nat} {W W' : World} (h : KeepsFrom B W W') (hB : B ≤ B') : KeepsFrom B' W W' := ⟨h.size, fun k o hk => h.same k o (by omega)⟩
theorem KeepsTo.drew (B B' : Nat) (W : World) : KeepsTo B B' W W.drew := fun _ _ _ _ h _ => h
theorem round_in {m : Nat} {P : Program} {l : Nat} {f : FuncId} {tmps : Array Value} {assign body : Code} {w : World} {R : Ending → World → Prop} (l' : Nat)
    (h : RoundIn Fence.wide m P l f tmps assign body w R) : RoundIn (Fence.wide.inRound l') m P l f tmps assign body w R := h
theorem nmd_cases (k : Int) : (nmd k = true ∧ ((k == 1) = true ∨ ((k == 1) = false ∧ (k == 5) = true) ∨ ((k == 1) = false ∧ (k == 5) = false ∧ (k == 6) = true))) ∨ (nmd k = false ∧ (k == 1) = false ∧ (k == 5) = false ∧ (k == 6) = false) := by
  unfold nmd
  cases (k == 1) <;> cases (k == 5) <;> cases (k == 6) <;> simp
set_option maxRecDepth 100000 in
set_option maxHeartbeats 1000000 in
theorem named_in (n : Nat) (p : Option Addr) (w : World) :
    CallsIn Fence.wide n Try.prog 25 #[.pointer p] w fun e w' => e = .returned (.func (.func 43) #[] #[.pointer (some ⟨w.heap.size, 0, none⟩)]) ∧ w' = w.alloc (.cells #[.pointer p] 55) := by
  refine callsIn_of_wp Try.func25 rfl trivial ?_ rfl
  simp only [Try.ntmps25, List.size_toArray, List.length_cons, List.length_nil, Nat.reduceAdd, Nat.reduceSub, Array.replicate_succ, Array.replicate_zero, List.push_toArray, List.append_toArray, List.nil_append, List.cons_append]
  gi_wp2
  go_ret
  exact ⟨rfl, rfl⟩
/-- What a round of the range is handed. -/
structure NamP where
  b : Nat
  o : Nat
  y : Pt
  pre : List Pt
/-- The nodes with a Var among some. -/
def usesOf (l : List (Nat × Pt)) : List Pt := (l.filter fun v => nmd v.2.k).map (·.2)
theorem usesOf_app (l m : List (Nat × Pt)) : usesOf (l ++ m) = usesOf l ++ usesOf m := by simp [usesOf]
theorem usesOf_yes {d : Nat} {y : Pt} (h : nmd y.k = true) (l : List (Nat × Pt)) : usesOf ((d, y) :: l) = y :: usesOf l := by simp [usesOf, h]
theorem usesOf_no {d : Nat} {y : Pt} (h : nmd y.k = false) (l : List (Nat × Pt)) : usesOf ((d, y) :: l) = usesOf l := by simp [usesOf, h]
theorem usesOf_vis (x : Pt) : usesOf (visP 1 x) = usesP x := uses_visP x 1

set_option maxRecDepth 100000 in
set_option maxHeartbeats 4000000 in
/-- A range over the nodes that have a Var, each once, in their order. -/
theorem named_fold {n : Nat} {g : Operand} {ps : Array Tmp} {assign body : Code} {Q : Exit → Act → World → Prop} {a : Act} {w : World} (Bp b0 o0 : Nat) (x : Pt) (T : Nat → Prop) (J : List Pt → World → Prop) (Jx : Code → World → Prop)
    (hg : a.eval g = .func (.func 43) #[] #[.pointer (some ⟨Bp, 0, none⟩)]) (hps : ps.size = 1) (hBp : w.cell? ⟨Bp, 0, none⟩ = some (.pointer (some ⟨b0, o0, none⟩))) (hsm : x.size ≤ 1048576)
    (hT : ∀ k, T k → k < w.heap.size) (hb0 : T b0) (hN : NodeP w b0 o0 x) (hX : PT T w x)
    (hJ : ∀ pre W A, Ag w.heap.size W A → J pre W → J pre A) (hJd : ∀ pre W, J pre W → J pre W.drew) (h0 : ∀ W, Below w.heap.size w W → J [] W) (hJx : ∀ c W A, Ag w.heap.size W A → Jx c W → Jx c A)
    (a₁ : Nat → Nat → Act)
    (hassign : ∀ (l b o : Nat) (W : World) (K : Act → World → Prop), K (a₁ b o) W →
      assign.wpIn (Fence.wide.inRound l) (n - 1 - 1) Try.prog (Exit.then K (fun _ _ _ => False)) { tmps := (ps.zip #[.pointer (some ⟨b, o, none⟩)]).foldl (fun t (p, v) => t.setIfInBounds p v) a.tmps, defers := [] } W)
    (hbody : ∀ (l b o : Nat) (y : Pt) (pre : List Pt) (W : World), T b → NodeP W b o y → PT T W y → J pre W → w.heap.size + 8 ≤ W.heap.size → (∃ post, pre ++ y :: post = usesP x) → nmd y.k = true →
      body.wpIn (Fence.wide.inRound l) (n - 1 - 1) Try.prog (foldPost w.heap.size (fun k => T k ∨ (w.heap.size ≤ k ∧ k < w.heap.size + 8)) (J (pre ++ [y])) Jx W) (a₁ b o) W)
    (hdone : ∀ (D : Nat) (W : World), w.heap.size ≤ D → J (usesP x) W → W.heap[D]? = some (.deferred (some [])) → Q .normal { a with defers := { target := .collected D, args := #[] } :: a.defers } W)
    (hstop : ∀ (D : Nat) (c : Code) (W : World), w.heap.size ≤ D → Jx c W → W.heap[D]? = some (.deferred (some [])) → c.wpIn Fence.wide n Try.prog Q { a with defers := { target := .collected D, args := #[] } :: a.defers } W) :
    (Code.rangeFunc g ps assign body).wpIn Fence.wide n Try.prog Q a w := by
  have hdd : ∀ k : Nat, (Fence.wide.depth.isSome = true → 1 ≤ k) := fun k h => by cases h
  obtain ⟨T', hT'⟩ : ∃ T' : Nat → Prop, T' = fun k => T k ∨ (w.heap.size ≤ k ∧ k < w.heap.size + 8) := ⟨_, rfl⟩
  have tT : ∀ k, T k → T' k := fun k hk => by rw [hT']; exact .inl hk
  refine wpIn_rangeK (α := NamP) hg (enters_of Try.func43 (by kernel_rfl) rfl) (encs := fun v => #[.pointer (some ⟨v.b, v.o, none⟩)]) (fun _ => hps.symm)
    (fun v W => T v.b ∧ NodeP W v.b v.o v.y ∧ PT T W v.y ∧ J v.pre W ∧ w.heap.size + 8 ≤ W.heap.size ∧ (∃ post, v.pre ++ v.y :: post = usesP x) ∧ nmd v.y.k = true)
    (fun v W W' => Kp T' W W' ∧ J (v.pre ++ [v.y]) W' ∧ w.heap.size + 8 ≤ W'.heap.size)
    (fun c _ _ W' => Jx c W') (J (usesP x)) Jx ?_ ?_ ?_ (fun W A h => hJ _ W A h) hJx (fun v => a₁ v.b v.o) (fun l v W K hK => hassign l v.b v.o W K hK) ?_ ?_ hdone hstop
  · rintro v W A hag ⟨h1, h2, h3, h4, h5, h6, h7⟩
    exact ⟨h1, h2.ag hag, h3.of fun p v h => (hag.cell p).trans h, hJ _ _ _ hag h4, by rw [hag.size]; exact h5, h6, h7⟩
  · rintro v W A A' W' hag hag' ⟨h1, h2, h3⟩
    exact ⟨Kp.ag hag hag' h1, hJ _ _ _ hag' h2, by rw [hag'.size]; exact h3⟩
  · rintro c v W A A' W' hag hag' h
    exact hJx _ _ _ hag' h
  · rintro l v W ⟨h1, h2, h3, h4, h5, h6, h7⟩ _
    refine wpIn_mono (hbody l v.b v.o v.y v.pre W h1 h2 h3 h4 h5 h6 h7) ?_
    rintro e a3 W3 hp
    cases e with
    | normal => exact ⟨hp.1, by rw [hT']; exact hp.2.1, hp.2.2, Nat.le_trans h5 hp.1.size⟩
    | ret => exact hp
    | exit id => exact hp
    | goto t => exact hp
    | panic ch => exact hp.elim
    | outgrown => exact hp.elim
  · intro l Rec RecX W1 hB1 hs1 hrec1 hrec hrecx hY
    have hlt : Bp < w.heap.size := by
      obtain ⟨ob, ho, -⟩ := cells_of_cell hBp
      exact (Array.getElem?_eq_some_iff.1 ho).1
    clear hbody hassign hdone hstop
    obtain ⟨A0, hA0⟩ : ∃ A0, W1.alloc (.cells #[.func (.yield l) #[] #[]] 61) = A0 := ⟨_, rfl⟩
    have hB0 : Below W1.heap.size W1 A0 := by rw [← hA0]; exact (Below.refl _ _).alloc (Nat.le_refl _) _
    have by0 : Boxed A0 W1.heap.size 61 (.func (.yield l) #[] #[]) := hA0 ▸ Boxed.new _ _ _
    have hs0 : A0.heap.size = W1.heap.size + 1 := by rw [← hA0]; simp
    have cp := (hB0.cell (p := ⟨Bp, 0, none⟩) (by have := hlt; show Bp < _; omega)).trans ((hB1.cell (p := ⟨Bp, 0, none⟩) hlt).trans hBp)
    have c0 := by0.cell
    refine callsIn_of_wp_marks Try.func43 rfl trivial ?_ rfl
    simp only [Try.ntmps43, List.size_toArray, List.length_cons, List.length_nil, Nat.reduceAdd, Nat.reduceSub, Array.replicate_succ, Array.replicate_zero, List.push_toArray, List.append_toArray, List.nil_append, List.cons_append]
    gi_wp2_with (refine ⟨trivial, hdd _, ?_⟩; gi_at_call 27; refine (nodesP_in _ _ _).mono ?_; rintro e w' ⟨rfl, rfl⟩)
    obtain ⟨A, hA⟩ : ∃ A, A0.alloc (.cells #[.pointer (some ⟨b0, o0, none⟩)] 55) = A := ⟨_, rfl⟩
    rw [hA]
    have hBA0 : Below A0.heap.size A0 A := by rw [← hA]; exact (Below.refl _ _).alloc (Nat.le_refl _) _
    have hsz : A.heap.size = w.heap.size + 4 := by rw [← hA]; simp; omega
    have hBA : Below w.heap.size w A := (hB1.trans (hB0.mono (by omega))).trans (hBA0.mono (by omega))
    have byA : Boxed A (w.heap.size + 2) 61 (.func (.yield l) #[] #[]) := by rw [← hs1, ← hA]; exact by0.alloc _
    have bpA : Boxed A (w.heap.size + 2 + 1) 55 (.pointer (some ⟨b0, o0, none⟩)) := by
      have := Boxed.new A0 55 (.pointer (some ⟨b0, o0, none⟩))
      rw [hA, hs0, hs1] at this
      exact this
    have hkA : KeepsTo w.heap.size (w.heap.size + 2) W1 A := (KeepsTo.of_below hB0 (by omega)).trans (KeepsTo.of_below hBA0 (by omega))
    clear hA hA0 cp c0 by0
    refine nodesP_fold (w.heap.size + 2 + 1) b0 o0 x T (fun pre W => J (usesOf pre) W ∧ Rec W ∧ Boxed W (w.heap.size + 2) 61 (.func (.yield l) #[] #[])) (fun c W => c = .ret ∧ ∃ c', Jx c' W ∧ RecX c' W)
      rfl rfl bpA.cell hsm (fun k hk => by have := hT k hk; omega) hb0 (hN.below hBA (hT _ hb0)) (hX.kept (Kp.of_below hBA hT)) ?_ ?_ ?_ ?_
      (fun d b o => { tmps := #[.func (.yield l) #[] #[], .pointer (some ⟨Bp, 0, none⟩), .pointer (some ⟨w.heap.size + 2, 0, none⟩), undef, .pointer (some ⟨b, o, none⟩), .pointer (some ⟨b0, o0, none⟩), .func (.func 44) #[] #[.pointer (some ⟨w.heap.size + 2 + 1, 0, none⟩)], .int .i64 d, .pointer (some ⟨b, o, none⟩), undef, undef, undef, undef, undef, undef, undef, undef, undef, undef, undef, undef, undef, undef, undef, undef, undef, undef, undef, undef, undef, undef, undef, undef, undef], defers := [] }) ?_ ?_ ?_ ?_
    · rintro pre W B hag ⟨j1, j2, j3⟩
      exact ⟨hJ _ _ _ (hag.mono (by omega)) j1, hrec _ _ (KeepsTo.of_ag hag (by omega)) j2, hag.boxed j3⟩
    · rintro pre W ⟨j1, j2, j3⟩
      exact ⟨hJd _ _ j1, hrec _ _ (KeepsTo.drew _ _ _) j2, j3⟩
    · rintro W hW
      exact ⟨h0 W (hBA.trans (hW.mono (by omega))), hrec _ _ (hkA.trans (KeepsTo.of_below hW (by omega))) hrec1, Boxed.kept_of byA hW (by omega)⟩
    · rintro c W B hag ⟨rfl, c', j1, j2⟩
      exact ⟨rfl, c', hJx _ _ _ (hag.mono (by omega)) j1, hrecx _ _ _ (KeepsTo.of_ag hag (by omega)) j2⟩
    · intro l' d b o W K hK
      gi_wp2
      simpa using hK
    · rintro l' d b o y pre W hb hn hx ⟨j1, j2, j3⟩ hs ⟨post, hpo⟩
      have c2 := j3.cell
      obtain ⟨d0, d1, d2, d3, d4, d5⟩ := hn
      have hn : NodeP W b o y := ⟨d0, d1, d2, d3, d4, d5⟩
      have hus : usesOf pre ++ usesOf ((d, y) :: post) = usesP x := by rw [← usesOf_app, hpo, usesOf_vis]
      rcases nmd_cases y.k with ⟨hk, hkk⟩ | ⟨hk, k1, k2, k3⟩
      · rw [usesOf_yes hk] at hus
        obtain ⟨fn, tmps, assign', body', hy, hR⟩ := hY 0 ⟨b, o, y, usesOf pre⟩ W ⟨hb, hn, hx, j1, by omega, ⟨_, hus⟩, hk⟩ j2
        replace hR := round_in l' (round_wide (m' := n - 1 - 1 - 1 - 1) hR)
        have YES : ∀ W3, Kp T' W W3 → J (usesOf pre ++ [y]) W3 → w.heap.size + 8 ≤ W3.heap.size → Rec W3 → KeepsFrom w.heap.size W W3 →
            KeepsFrom A.heap.size W W3 ∧ Kp (fun k => T k ∨ k = A.heap.size + 2 ∨ k = A.heap.size + 3) W W3 ∧ J (usesOf (pre ++ [(d, y)])) W3 ∧ Rec W3 ∧ Boxed W3 (w.heap.size + 2) 61 (.func (.yield l) #[] #[]) := fun W3 q1 q2 q3 q4 q5 => by
          refine ⟨keepsFrom_mono q5 (by omega), q1.mono fun k hk => ?_, ?_, q4, q1.boxed (by rw [hT']; exact .inr ⟨by omega, by omega⟩) j3⟩
          · rw [hT']
            rcases hk with hk | hk | hk
            · exact .inl hk
            · exact .inr ⟨by omega, by omega⟩
            · exact .inr ⟨by omega, by omega⟩
          · rw [usesOf_app, usesOf_yes hk]; exact q2
        clear hY hn hus hk
        rcases hkk with k1 | ⟨k1, k2⟩ | ⟨k1, k2, k3⟩
        · gi_wp2_with (first
            | ((try refine ⟨hdd _, ?_⟩); refine hR.mono ?_; clear hR; rintro e W3 (⟨rfl, ⟨q1, q2, q3⟩, q4, q5⟩ | ⟨rfl, c, q1, q2, q3⟩)))
          · exact YES W3 q1 q2 q3 q4 q5
          · exact ⟨keepsFrom_mono q3 (by omega), rfl, c, q1, q2⟩
        · gi_wp2_with (first
            | ((try refine ⟨hdd _, ?_⟩); refine hR.mono ?_; clear hR; rintro e W3 (⟨rfl, ⟨q1, q2, q3⟩, q4, q5⟩ | ⟨rfl, c, q1, q2, q3⟩)))
          · exact YES W3 q1 q2 q3 q4 q5
          · exact ⟨keepsFrom_mono q3 (by omega), rfl, c, q1, q2⟩
        · gi_wp2_with (first
            | ((try refine ⟨hdd _, ?_⟩); refine hR.mono ?_; clear hR; rintro e W3 (⟨rfl, ⟨q1, q2, q3⟩, q4, q5⟩ | ⟨rfl, c, q1, q2, q3⟩)))
          · exact YES W3 q1 q2 q3 q4 q5
          · exact ⟨keepsFrom_mono q3 (by omega), rfl, c, q1, q2⟩
      · clear hY
        have NO : KeepsFrom A.heap.size W W ∧ Kp (fun k => T k ∨ k = A.heap.size + 2 ∨ k = A.heap.size + 3) W W ∧ J (usesOf (pre ++ [(d, y)])) W ∧ Rec W ∧ Boxed W (w.heap.size + 2) 61 (.func (.yield l) #[] #[]) :=
          ⟨KeepsFrom.refl _ _, Kp.refl _ _, by rw [usesOf_app, usesOf_no hk]; simpa [usesOf] using j1, j2, j3⟩
        clear hus hk
        gi_wp2
        refine ⟨fun f h => (by cases h), ?_⟩
        gi_wp2
        exact NO
    · rintro D W hD ⟨j1, j2, j3⟩ hK
      rw [usesOf_vis] at j1
      have hag : Ag w.heap.size W (W.putObj D (.deferred none)) := Ag.putObj (by omega) hK rfl rfl
      have hkt : KeepsTo w.heap.size (w.heap.size + 2) W (W.putObj D (.deferred none)) := fun k o h1 h2 h3 _ => (World.putObj_heap_other (by omega)).trans h3
      gi_wp2
      refine ⟨by simp, .inl ⟨_, _, rfl, run_takeDeferred hK, ?_⟩⟩
      exact ⟨_, results_none rfl _ _ _, ⟨_, rfl⟩, .inl ⟨hJ _ _ _ hag j1, hrec _ _ hkt j2⟩⟩
    · rintro D c W hD ⟨rfl, c', j1, j2⟩ hK
      have hag : Ag w.heap.size W (W.putObj D (.deferred none)) := Ag.putObj (by omega) hK rfl rfl
      have hkt : KeepsTo w.heap.size (w.heap.size + 2) W (W.putObj D (.deferred none)) := fun k o h1 h2 h3 _ => (World.putObj_heap_other (by omega)).trans h3
      gi_wp2
      refine ⟨by simp, .inl ⟨_, _, rfl, run_takeDeferred hK, ?_⟩⟩
      exact ⟨_, results_none rfl _ _ _, ⟨_, rfl⟩, .inr ⟨c', hJx _ _ _ hag j1, hrecx _ _ _ hkt j2⟩⟩
/-- How a body that does what it does to a node with a Var may be left. -/
def namedPost (B : Nat) (G : World → Prop) (W : World) : Exit → Act → World → Prop
  | .normal, _, W' => KeepsFrom B W W' ∧ Kp (fun k => k = B + 2 ∨ k = B + 6 ∨ k = B + 7) W W' ∧ G W'
  | _, _, _ => False
/-- What a round is handed. -/
structure NamG (ι : Type) where
  b : Nat
  o : Nat
  v : ι
set_option maxRecDepth 100000 in
set_option maxHeartbeats 4000000 in
/-- A range over the nodes that have a Var, whose rounds may write: told by relations between worlds. -/
theorem named_walk {ι : Type} {n : Nat} {g : Operand} {ps : Array Tmp} {assign body : Code} {Q : Exit → Act → World → Prop} {a : Act} {w : World} (Bp b0 o0 : Nat) (v0 : ι) (kids : ι → Nat) (kid : ι → Nat → ι) (rank : ι → Nat)
    (Pre : ι → Nat → Nat → World → Prop) (Go : ι → Nat → Nat → World → World → Prop) (Mid : ι → Nat → Nat → World → Option Addr → Nat → Nat → World → Prop) (Post : ι → Nat → Nat → World → World → Prop)
    (hg : a.eval g = .func (.func 43) #[] #[.pointer (some ⟨Bp, 0, none⟩)]) (hps : ps.size = 1) (hBp : w.cell? ⟨Bp, 0, none⟩ = some (.pointer (some ⟨b0, o0, none⟩)))
    (hrank : ∀ v i, i < kids v → rank (kid v i) < rank v)
    (hPre : ∀ v b o W A, Ag w.heap.size W A → Pre v b o W → Pre v b o A)
    (hGo : ∀ v b o W A A' W', Ag w.heap.size W A → Ag w.heap.size A' W' → Go v b o A A' → Go v b o W W')
    (hPost : ∀ v b o W W' A, Ag w.heap.size W' A → Post v b o W W' → Post v b o W A)
    (h0 : ∀ W, Below w.heap.size w W → W.heap.size = w.heap.size + 8 → Pre v0 b0 o0 W)
    (hskip : ∀ v b o W, Pre v b o W → ∃ k, W.cell? ⟨b, o, none⟩ = some (.int .i64 k) ∧ (nmd k = false → Go v b o W W))
    (a₁ : Nat → Nat → Act)
    (hassign : ∀ (l b o : Nat) (W : World) (K : Act → World → Prop), K (a₁ b o) W →
      assign.wpIn (Fence.wide.inRound l) (n - 1 - 1) Try.prog (Exit.then K (fun _ _ _ => False)) { tmps := (ps.zip #[.pointer (some ⟨b, o, none⟩)]).foldl (fun t (p, v) => t.setIfInBounds p v) a.tmps, defers := [] } W)
    (hbody : ∀ (l b o : Nat) (v : ι) (W : World) (k : Int), Pre v b o W → W.cell? ⟨b, o, none⟩ = some (.int .i64 k) → nmd k = true → w.heap.size + 8 ≤ W.heap.size → (∃ u, Boxed W (w.heap.size + 2) 61 u) → (∃ u, Boxed W (w.heap.size + 6) 79 u) → (∃ u, Boxed W (w.heap.size + 7) 79 u) →
      body.wpIn (Fence.wide.inRound l) (n - 1 - 1) Try.prog (namedPost w.heap.size (Go v b o W) W) (a₁ b o) W)
    (hM : ∀ v b o W W', Pre v b o W → Go v b o W W' → ∃ a cap, Mid v b o W a cap 0 W')
    (hL : ∀ v b o W a cap i Wi, Mid v b o W a cap i Wi → kids v ≤ 9223372036854775807 ∧ Wi.cell? ⟨b, o + 5, none⟩ = some (.slice a (kids v) cap))
    (hC : ∀ v b o W a cap i Wi, Mid v b o W a cap i Wi → i < kids v → ∃ b' o', a = some ⟨b', o', none⟩ ∧ Pre (kid v i) b' (o' + i * 6) Wi.drew ∧
      (∀ W', Post (kid v i) b' (o' + i * 6) Wi.drew W' → Mid v b o W a cap (i + 1) W'))
    (hE : ∀ v b o W a cap Wi, Mid v b o W a cap (kids v) Wi → Post v b o W Wi)
    (hdone : ∀ (D : Nat) (W2 W : World), w.heap.size ≤ D → Below w.heap.size w W2 → W2.heap.size = w.heap.size + 8 → Post v0 b0 o0 W2 W → W.heap[D]? = some (.deferred (some [])) → Q .normal { a with defers := { target := .collected D, args := #[] } :: a.defers } W) :
    (Code.rangeFunc g ps assign body).wpIn Fence.wide n Try.prog Q a w := by
  have hdd : ∀ k : Nat, (Fence.wide.depth.isSome = true → 1 ≤ k) := fun k h => by cases h
  obtain ⟨T, hT⟩ : ∃ T : Nat → Prop, T = fun k => k = w.heap.size + 2 ∨ k = w.heap.size + 6 ∨ k = w.heap.size + 7 := ⟨_, rfl⟩
  refine wpIn_rangeK (α := NamG ι) hg (enters_of Try.func43 (by kernel_rfl) rfl) (encs := fun v => #[.pointer (some ⟨v.b, v.o, none⟩)]) (fun _ => hps.symm)
    (fun v W => Pre v.v v.b v.o W ∧ w.heap.size + 8 ≤ W.heap.size ∧ (∃ u, Boxed W (w.heap.size + 2) 61 u) ∧ (∃ u, Boxed W (w.heap.size + 6) 79 u) ∧ (∃ u, Boxed W (w.heap.size + 7) 79 u) ∧ ∃ k, W.cell? ⟨v.b, v.o, none⟩ = some (.int .i64 k) ∧ nmd k = true)
    (fun v W W' => Kp T W W' ∧ Go v.v v.b v.o W W' ∧ w.heap.size + 8 ≤ W'.heap.size)
    (fun _ _ _ _ => False) (fun W => ∃ W2, Below w.heap.size w W2 ∧ W2.heap.size = w.heap.size + 8 ∧ Post v0 b0 o0 W2 W) (fun _ _ => False) ?_ ?_ (fun _ _ _ _ _ _ _ _ h => h) ?_ (fun _ _ _ _ h => h) (fun v => a₁ v.b v.o) (fun l v W K hK => hassign l v.b v.o W K hK) ?_ ?_
    (fun D W hD h hK => by obtain ⟨W2, h1, h2, h3⟩ := h; exact hdone D W2 W hD h1 h2 h3 hK) (fun _ _ _ _ h _ => h.elim)
  · rintro v W A hag ⟨h1, h2, ⟨u, h3⟩, ⟨u', h4⟩, ⟨u'', h5⟩, k, h6, h7⟩
    exact ⟨hPre _ _ _ _ _ hag h1, by rw [hag.size]; exact h2, ⟨u, hag.boxed h3⟩, ⟨u', hag.boxed h4⟩, ⟨u'', hag.boxed h5⟩, k, (hag.cell _).trans h6, h7⟩
  · rintro v W A A' W' hag hag' ⟨h1, h2, h3⟩
    exact ⟨Kp.ag hag hag' h1, hGo _ _ _ _ _ _ _ hag hag' h2, by rw [hag'.size]; exact h3⟩
  · rintro W A hag ⟨W2, h1, h2, h3⟩
    exact ⟨W2, h1, h2, hPost _ _ _ _ _ _ hag h3⟩
  · rintro l v W ⟨h1, h2, h3, h4, h5, k, h6, h7⟩ _
    refine wpIn_mono (hbody l v.b v.o v.v W k h1 h6 h7 h2 h3 h4 h5) ?_
    rintro e a3 W3 hp
    cases e with
    | normal => exact ⟨hp.1, by rw [hT]; exact hp.2.1, hp.2.2, Nat.le_trans h2 hp.1.size⟩
    | ret => exact hp.elim
    | exit id => exact hp.elim
    | goto t => exact hp.elim
    | panic ch => exact hp.elim
    | outgrown => exact hp.elim
  · intro l Rec RecX W1 hB1 hs1 hrec1 hrec hrecx hY
    have hlt : Bp < w.heap.size := by
      obtain ⟨ob, ho, -⟩ := cells_of_cell hBp
      exact (Array.getElem?_eq_some_iff.1 ho).1
    clear hbody hassign hdone
    obtain ⟨A0, hA0⟩ : ∃ A0, W1.alloc (.cells #[.func (.yield l) #[] #[]] 61) = A0 := ⟨_, rfl⟩
    have hB0 : Below W1.heap.size W1 A0 := by rw [← hA0]; exact (Below.refl _ _).alloc (Nat.le_refl _) _
    have by0 : Boxed A0 W1.heap.size 61 (.func (.yield l) #[] #[]) := hA0 ▸ Boxed.new _ _ _
    have hs0 : A0.heap.size = W1.heap.size + 1 := by rw [← hA0]; simp
    have cp := (hB0.cell (p := ⟨Bp, 0, none⟩) (by have := hlt; show Bp < _; omega)).trans ((hB1.cell (p := ⟨Bp, 0, none⟩) hlt).trans hBp)
    have c0 := by0.cell
    refine callsIn_of_wp_marks Try.func43 rfl trivial ?_ rfl
    simp only [Try.ntmps43, List.size_toArray, List.length_cons, List.length_nil, Nat.reduceAdd, Nat.reduceSub, Array.replicate_succ, Array.replicate_zero, List.push_toArray, List.append_toArray, List.nil_append, List.cons_append]
    gi_wp2_with (refine ⟨trivial, hdd _, ?_⟩; gi_at_call 27; refine (nodesP_in _ _ _).mono ?_; rintro e w' ⟨rfl, rfl⟩)
    obtain ⟨A, hA⟩ : ∃ A, A0.alloc (.cells #[.pointer (some ⟨b0, o0, none⟩)] 55) = A := ⟨_, rfl⟩
    rw [hA]
    have hBA0 : Below A0.heap.size A0 A := by rw [← hA]; exact (Below.refl _ _).alloc (Nat.le_refl _) _
    have hsz : A.heap.size = w.heap.size + 4 := by rw [← hA]; simp; omega
    have hBA : Below w.heap.size w A := (hB1.trans (hB0.mono (by omega))).trans (hBA0.mono (by omega))
    have byA : Boxed A (w.heap.size + 2) 61 (.func (.yield l) #[] #[]) := by rw [← hs1, ← hA]; exact by0.alloc _
    have bpA : Boxed A (w.heap.size + 2 + 1) 55 (.pointer (some ⟨b0, o0, none⟩)) := by
      have := Boxed.new A0 55 (.pointer (some ⟨b0, o0, none⟩))
      rw [hA, hs0, hs1] at this
      exact this
    have hkA : KeepsTo w.heap.size (w.heap.size + 2) W1 A := (KeepsTo.of_below hB0 (by omega)).trans (KeepsTo.of_below hBA0 (by omega))
    clear hA hA0 cp c0 by0
    refine nodesP_walk (ι := ι) (w.heap.size + 2 + 1) b0 o0 v0 kids kid rank
      (fun v b o W => Pre v b o W ∧ Rec W ∧ Boxed W (w.heap.size + 2) 61 (.func (.yield l) #[] #[]))
      (fun v b o W W' => Go v b o W W' ∧ Rec W' ∧ Boxed W' (w.heap.size + 2) 61 (.func (.yield l) #[] #[]))
      (fun v b o W a cap i Wi => Mid v b o W a cap i Wi ∧ Rec Wi ∧ Boxed Wi (w.heap.size + 2) 61 (.func (.yield l) #[] #[]))
      (fun v b o W W' => Post v b o W W' ∧ Rec W' ∧ Boxed W' (w.heap.size + 2) 61 (.func (.yield l) #[] #[]))
      rfl rfl bpA.cell hrank ?_ ?_ ?_ ?_
      (fun d b o => { tmps := #[.func (.yield l) #[] #[], .pointer (some ⟨Bp, 0, none⟩), .pointer (some ⟨w.heap.size + 2, 0, none⟩), undef, .pointer (some ⟨b, o, none⟩), .pointer (some ⟨b0, o0, none⟩), .func (.func 44) #[] #[.pointer (some ⟨w.heap.size + 2 + 1, 0, none⟩)], .int .i64 d, .pointer (some ⟨b, o, none⟩), undef, undef, undef, undef, undef, undef, undef, undef, undef, undef, undef, undef, undef, undef, undef, undef, undef, undef, undef, undef, undef, undef, undef, undef, undef], defers := [] }) ?_ ?_ ?_ ?_ ?_ ?_ ?_
    · rintro v b o W B hag ⟨j1, j2, j3⟩
      exact ⟨hPre _ _ _ _ _ (hag.mono (by omega)) j1, hrec _ _ (KeepsTo.of_ag hag (by omega)) j2, hag.boxed j3⟩
    · rintro v b o W B B' W' hag hag' ⟨j1, j2, j3⟩
      exact ⟨hGo _ _ _ _ _ _ _ (hag.mono (by omega)) (hag'.mono (by omega)) j1, hrec _ _ (KeepsTo.of_ag hag' (by omega)) j2, hag'.boxed j3⟩
    · rintro v b o W W' B hag ⟨j1, j2, j3⟩
      exact ⟨hPost _ _ _ _ _ _ (hag.mono (by omega)) j1, hrec _ _ (KeepsTo.of_ag hag (by omega)) j2, hag.boxed j3⟩
    · rintro W hW hs
      exact ⟨h0 W (hBA.trans (hW.mono (by omega))) (by omega), hrec _ _ (hkA.trans (KeepsTo.of_below hW (by omega))) hrec1, Boxed.kept_of byA hW (by omega)⟩
    · intro l' d b o W K hK
      gi_wp2
      simpa using hK
    · rintro l' d b o v W ⟨j1, j2, j3⟩ hs ⟨u2, b2⟩ ⟨u3, b3⟩
      have c2 := j3.cell
      obtain ⟨k, d0, hno⟩ := hskip v b o W j1
      rcases nmd_cases k with ⟨hk, hkk⟩ | ⟨hk, k1, k2, k3⟩
      · obtain ⟨fn, tmps, assign', body', hy, hR⟩ := hY 0 ⟨b, o, v⟩ W ⟨j1, by omega, ⟨_, j3⟩, ⟨u2, by rw [show w.heap.size + 6 = A.heap.size + 2 by omega]; exact b2⟩, ⟨u3, by rw [show w.heap.size + 7 = A.heap.size + 3 by omega]; exact b3⟩, k, d0, hk⟩ j2
        replace hR := round_in l' (round_wide (m' := n - 1 - 1 - 1 - 1) hR)
        have YES : ∀ W3, Kp T W W3 → Go v b o W W3 → w.heap.size + 8 ≤ W3.heap.size → Rec W3 → KeepsFrom w.heap.size W W3 →
            KeepsFrom A.heap.size W W3 ∧ Kp (fun k => k = A.heap.size + 2 ∨ k = A.heap.size + 3) W W3 ∧ Go v b o W W3 ∧ Rec W3 ∧ Boxed W3 (w.heap.size + 2) 61 (.func (.yield l) #[] #[]) := fun W3 q1 q2 q3 q4 q5 => by
          refine ⟨keepsFrom_mono q5 (by omega), q1.mono fun k hk => ?_, q2, q4, q1.boxed (by rw [hT]; exact .inl rfl) j3⟩
          rw [hT]
          rcases hk with hk | hk
          · exact .inr (.inl (by omega))
          · exact .inr (.inr (by omega))
        clear hY hk hno
        rcases hkk with k1 | ⟨k1, k2⟩ | ⟨k1, k2, k3⟩
        · gi_wp2_with (first
            | ((try refine ⟨hdd _, ?_⟩); refine hR.mono ?_; clear hR; rintro e W3 (⟨rfl, ⟨q1, q2, q3⟩, q4, q5⟩ | ⟨rfl, c, q1, q2, q3⟩)))
          · exact YES W3 q1 q2 q3 q4 q5
        · gi_wp2_with (first
            | ((try refine ⟨hdd _, ?_⟩); refine hR.mono ?_; clear hR; rintro e W3 (⟨rfl, ⟨q1, q2, q3⟩, q4, q5⟩ | ⟨rfl, c, q1, q2, q3⟩)))
          · exact YES W3 q1 q2 q3 q4 q5
        · gi_wp2_with (first
            | ((try refine ⟨hdd _, ?_⟩); refine hR.mono ?_; clear hR; rintro e W3 (⟨rfl, ⟨q1, q2, q3⟩, q4, q5⟩ | ⟨rfl, c, q1, q2, q3⟩)))
          · exact YES W3 q1 q2 q3 q4 q5
      · clear hY
        have NO : KeepsFrom A.heap.size W W ∧ Kp (fun k => k = A.heap.size + 2 ∨ k = A.heap.size + 3) W W ∧ Go v b o W W ∧ Rec W ∧ Boxed W (w.heap.size + 2) 61 (.func (.yield l) #[] #[]) := ⟨KeepsFrom.refl _ _, Kp.refl _ _, hno hk, j2, j3⟩
        clear hk hno
        gi_wp2
        refine ⟨fun f h => (by cases h), ?_⟩
        gi_wp2
        exact NO
    · rintro v b o W W' ⟨j1, j2, j3⟩ ⟨q1, q2, q3⟩
      obtain ⟨a', cap', hm⟩ := hM _ _ _ _ _ j1 q1
      exact ⟨a', cap', hm, q2, q3⟩
    · rintro v b o W a' cap' i Wi ⟨j1, j2, j3⟩
      exact hL _ _ _ _ _ _ _ _ j1
    · rintro v b o W a' cap' i Wi ⟨j1, j2, j3⟩ hi
      obtain ⟨b', o', ea, hp, hq⟩ := hC _ _ _ _ _ _ _ _ j1 hi
      exact ⟨b', o', ea, ⟨hp, hrec _ _ (KeepsTo.drew _ _ _) j2, j3⟩, fun W' h => ⟨hq W' h.1, h.2.1, h.2.2⟩⟩
    · rintro v b o W a' cap' Wi ⟨j1, j2, j3⟩
      exact ⟨hE _ _ _ _ _ _ _ j1, j2, j3⟩
    · rintro D W2 W hD hW2 hs2 ⟨j1, j2, j3⟩ hK
      have hag : Ag w.heap.size W (W.putObj D (.deferred none)) := Ag.putObj (by omega) hK rfl rfl
      have hkt : KeepsTo w.heap.size (w.heap.size + 2) W (W.putObj D (.deferred none)) := fun k o h1 h2 h3 _ => (World.putObj_heap_other (by omega)).trans h3
      gi_wp2
      refine ⟨by simp, .inl ⟨_, _, rfl, run_takeDeferred hK, ?_⟩⟩
      exact ⟨_, results_none rfl _ _ _, ⟨_, rfl⟩, .inl ⟨⟨W2, hBA.trans (hW2.mono (by omega)), by omega, hPost _ _ _ _ _ _ hag j1⟩, hrec _ _ hkt j2⟩⟩
end Go.Proofs.Ytjclelmbpmlioaa
