/-
  pat.named: a range over the nodes that have a Var.
  Names, folded texts: of no program (but for what a rune is in the model).
  When a pattern is right: plain facts, of no function.
-/
import Derived.Test.YtinnhaojmnmliaaDPatSize
import Derived.Test.YtinnhaojmnmliaaDTxt
import Derived.Lib.SpaceUEq
namespace Go.Proofs.Ytinnhaojmnmliaa
open Go.RowKit Go.Shelf
attribute [local go_sem] Oper.semAt_some

theorem Ag.mono {B B' : Nat} {W A : World} (h : Ag B' W A) (hB : B ≤ B') : Ag B W A := ⟨h.os, h.tape, h.output, h.size, fun k hk => h.low k (by omega), h.cells⟩
theorem keepsFrom_mono {B B' : Nat} {W W' : World} (h : KeepsFrom B W W') (hB : B ≤ B') : KeepsFrom B' W W' := ⟨h.size, fun k o hk => h.same k o (by omega)⟩
theorem KeepsTo.drew (B B' : Nat) (W : World) : KeepsTo B B' W W.drew := fun _ _ _ _ h _ => h
theorem round_in {m : Nat} {P : Program} {l : Nat} {f : FuncId} {tmps : Array Value} {assign body : Code} {w : World} {R : Ending → World → Prop} (l' : Nat)
    (h : RoundIn Fence.wide m P l f tmps assign body w R) : RoundIn (Fence.wide.inRound l') m P l f tmps assign body w R := h
theorem nmd_cases (k : Int) : (nmd k = true ∧ ((k == 1) = true ∨ ((k == 1) = false ∧ (k == 5) = true) ∨ ((k == 1) = false ∧ (k == 5) = false ∧ (k == 6) = true))) ∨ (nmd k = false ∧ (k == 1) = false ∧ (k == 5) = false ∧ (k == 6) = false) := by
  unfold nmd
  cases (k == 1) <;> cases (k == 5) <;> cases (k == 6) <;> simp
set_option maxRecDepth 100000 in
set_option maxHeartbeats 1000000 in
theorem named_in (n : Nat) (p : Option Addr) (w : World) :
    CallsIn Fence.wide n Try.prog 52 #[.pointer p] w fun e w' => e = .returned (.func (.func 68) #[] #[.pointer (some ⟨w.heap.size, 0, none⟩)]) ∧ w' = w.alloc (.cells #[.pointer p] 52) := by
  refine callsIn_of_wp Try.func52 rfl trivial ?_ rfl
  simp only [Try.ntmps52, List.size_toArray, List.length_cons, List.length_nil, Nat.reduceAdd, Nat.reduceSub, Array.replicate_succ, Array.replicate_zero, List.push_toArray, List.append_toArray, List.nil_append, List.cons_append]
  gi_wp2
  go_ret
  exact ⟨rfl, rfl⟩
/-- What a round of the range is handed. -/
structure NamP where
  b : Nat
  o : Nat
  y : Pt
  pre : List Pt
/-- The nodes with a Var among some. -/
def usesOf (l : List (Nat × Pt)) : List Pt := (l.filter fun v => nmd v.2.k).map (·.2)
theorem usesOf_app (l m : List (Nat × Pt)) : usesOf (l ++ m) = usesOf l ++ usesOf m := by simp [usesOf]
theorem usesOf_yes {d : Nat} {y : Pt} (h : nmd y.k = true) (l : List (Nat × Pt)) : usesOf ((d, y) :: l) = y :: usesOf l := by simp [usesOf, h]
theorem usesOf_no {d : Nat} {y : Pt} (h : nmd y.k = false) (l : List (Nat × Pt)) : usesOf ((d, y) :: l) = usesOf l := by simp [usesOf, h]
theorem usesOf_vis (x : Pt) : usesOf (visP 1 x) = usesP x := uses_visP x 1

set_option maxRecDepth 100000 in
set_option maxHeartbeats 4000000 in
/-- A range over the nodes that have a Var, each once, in their order. -/
theorem named_fold {n : Nat} {g : Operand} {ps : Array Tmp} {assign body : Code} {Q : Exit → Act → World → Prop} {a : Act} {w : World} (Bp b0 o0 : Nat) (x : Pt) (T : Nat → Prop) (J : List Pt → World → Prop) (Jx : Code → World → Prop)
    (hg : a.eval g = .func (.func 68) #[] #[.pointer (some ⟨Bp, 0, none⟩)]) (hps : ps.size = 1) (hBp : w.cell? ⟨Bp, 0, none⟩ = some (.pointer (some ⟨b0, o0, none⟩))) (hsm : x.size ≤ 1048576)
    (hT : ∀ k, T k → k < w.heap.size) (hb0 : T b0) (hN : NodeP w b0 o0 x) (hX : PT T w x)
    (hJ : ∀ pre W A, Ag w.heap.size W A → J pre W → J pre A) (hJd : ∀ pre W, J pre W → J pre W.drew) (h0 : ∀ W, Below w.heap.size w W → J [] W) (hJx : ∀ c W A, Ag w.heap.size W A → Jx c W → Jx c A)
    (a₁ : Nat → Nat → Act)
    (hassign : ∀ (l b o : Nat) (W : World) (K : Act → World → Prop), K (a₁ b o) W →
      assign.wpIn (Fence.wide.inRound l) (n - 1 - 1) Try.prog (Exit.then K (fun _ _ _ => False)) { tmps := (ps.zip #[.pointer (some ⟨b, o, none⟩)]).foldl (fun t (p, v) => t.setIfInBounds p v) a.tmps, defers := [] } W)
    (hbody : ∀ (l b o : Nat) (y : Pt) (pre : List Pt) (W : World), T b → NodeP W b o y → PT T W y → J pre W → w.heap.size + 8 ≤ W.heap.size → (∃ post, pre ++ y :: post = usesP x) → nmd y.k = true →
      body.wpIn (Fence.wide.inRound l) (n - 1 - 1) Try.prog (foldPost w.heap.size (fun k => T k ∨ (w.heap.size ≤ k ∧ k < w.heap.size + 8)) (J (pre ++ [y])) Jx W) (a₁ b o) W)
    (hdone : ∀ (D : Nat) (W : World), w.heap.size ≤ D → J (usesP x) W → W.heap[D]? = some (.deferred (some [])) → Q .normal { a with defers := { target := .collected D, args := #[] } :: a.defers } W)
    (hstop : ∀ (D : Nat) (c : Code) (W : World), w.heap.size ≤ D → Jx c W → W.heap[D]? = some (.deferred (some [])) → c.wpIn Fence.wide n Try.prog Q { a with defers := { target := .collected D, args := #[] } :: a.defers } W) :
    (Code.rangeFunc g ps assign body).wpIn Fence.wide n Try.prog Q a w := by
  have hdd : ∀ k : Nat, (Fence.wide.depth.isSome = true → 1 ≤ k) := fun k h => by cases h
  obtain ⟨T', hT'⟩ : ∃ T' : Nat → Prop, T' = fun k => T k ∨ (w.heap.size ≤ k ∧ k < w.heap.size + 8) := ⟨_, rfl⟩
  have tT : ∀ k, T k → T' k := fun k hk => by rw [hT']; exact .inl hk
  refine wpIn_rangeK (α := NamP) hg (enters_of Try.func68 (by kernel_rfl) rfl) (encs := fun v => #[.pointer (some ⟨v.b, v.o, none⟩)]) (fun _ => hps.symm)
    (fun v W => T v.b ∧ NodeP W v.b v.o v.y ∧ PT T W v.y ∧ J v.pre W ∧ w.heap.size + 8 ≤ W.heap.size ∧ (∃ post, v.pre ++ v.y :: post = usesP x) ∧ nmd v.y.k = true)
    (fun v W W' => Kp T' W W' ∧ J (v.pre ++ [v.y]) W' ∧ w.heap.size + 8 ≤ W'.heap.size)
    (fun c _ _ W' => Jx c W') (J (usesP x)) Jx ?_ ?_ ?_ (fun W A h => hJ _ W A h) hJx (fun v => a₁ v.b v.o) (fun l v W K hK => hassign l v.b v.o W K hK) ?_ ?_ hdone hstop
  · rintro v W A hag ⟨h1, h2, h3, h4, h5, h6, h7⟩
    exact ⟨h1, h2.ag hag, h3.of fun p v h => (hag.cell p).trans h, hJ _ _ _ hag h4, by rw [hag.size]; exact h5, h6, h7⟩
  · rintro v W A A' W' hag hag' ⟨h1, h2, h3⟩
    exact ⟨Kp.ag hag hag' h1, hJ _ _ _ hag' h2, by rw [hag'.size]; exact h3⟩
  · rintro c v W A A' W' hag hag' h
    exact hJx _ _ _ hag' h
  · rintro l v W ⟨h1, h2, h3, h4, h5, h6, h7⟩ _
    refine wpIn_mono (hbody l v.b v.o v.y v.pre W h1 h2 h3 h4 h5 h6 h7) ?_
    rintro e a3 W3 hp
    cases e with
    | normal => exact ⟨hp.1, by rw [hT']; exact hp.2.1, hp.2.2, Nat.le_trans h5 hp.1.size⟩
    | ret => exact hp
    | exit id => exact hp
    | goto t => exact hp
    | panic ch => exact hp.elim
    | outgrown => exact hp.elim
  · intro l Rec RecX W1 hB1 hs1 hrec1 hrec hrecx hY
    have hlt : Bp < w.heap.size := by
      obtain ⟨ob, ho, -⟩ := cells_of_cell hBp
      exact (Array.getElem?_eq_some_iff.1 ho).1
    clear hbody hassign hdone hstop
    obtain ⟨A0, hA0⟩ : ∃ A0, W1.alloc (.cells #[.func (.yield l) #[] #[]] 61) = A0 := ⟨_, rfl⟩
    have hB0 : Below W1.heap.size W1 A0 := by rw [← hA0]; exact (Below.refl _ _).alloc (Nat.le_refl _) _
    have by0 : Boxed A0 W1.heap.size 61 (.func (.yield l) #[] #[]) := hA0 ▸ Boxed.new _ _ _
    have hs0 : A0.heap.size = W1.heap.size + 1 := by rw [← hA0]; simp
    have cp := (hB0.cell (p := ⟨Bp, 0, none⟩) (by have := hlt; show Bp < _; omega)).trans ((hB1.cell (p := ⟨Bp, 0, none⟩) hlt).trans hBp)
    have c0 := by0.cell
    refine callsIn_of_wp_marks Try.func68 rfl trivial ?_ rfl
    simp only [Try.ntmps68, List.size_toArray, List.length_cons, List.length_nil, Nat.reduceAdd, Nat.reduceSub, Array.replicate_succ, Array.replicate_zero, List.push_toArray, List.append_toArray, List.nil_append, List.cons_append]
    gi_wp2_with (refine ⟨trivial, hdd _, ?_⟩; gi_at_call 32; refine (nodesP_in _ _ _).mono ?_; rintro e w' ⟨rfl, rfl⟩)
    obtain ⟨A, hA⟩ : ∃ A, A0.alloc (.cells #[.pointer (some ⟨b0, o0, none⟩)] 52) = A := ⟨_, rfl⟩
    rw [hA]
    have hBA0 : Below A0.heap.size A0 A := by rw [← hA]; exact (Below.refl _ _).alloc (Nat.le_refl _) _
    have hsz : A.heap.size = w.heap.size + 4 := by rw [← hA]; simp; omega
    have hBA : Below w.heap.size w A := (hB1.trans (hB0.mono (by omega))).trans (hBA0.mono (by omega))
    have byA : Boxed A (w.heap.size + 2) 61 (.func (.yield l) #[] #[]) := by rw [← hs1, ← hA]; exact by0.alloc _
    have bpA : Boxed A (w.heap.size + 2 + 1) 52 (.pointer (some ⟨b0, o0, none⟩)) := by
      have := Boxed.new A0 52 (.pointer (some ⟨b0, o0, none⟩))
      rw [hA, hs0, hs1] at this
      exact this
    have hkA : KeepsTo w.heap.size (w.heap.size + 2) W1 A := (KeepsTo.of_below hB0 (by omega)).trans (KeepsTo.of_below hBA0 (by omega))
    clear hA hA0 cp c0 by0
    refine nodesP_fold (w.heap.size + 2 + 1) b0 o0 x T (fun pre W => J (usesOf pre) W ∧ Rec W ∧ Boxed W (w.heap.size + 2) 61 (.func (.yield l) #[] #[])) (fun c W => c = .ret ∧ ∃ c', Jx c' W ∧ RecX c' W)
      rfl rfl bpA.cell hsm (fun k hk => by have := hT k hk; omega) hb0 (hN.below hBA (hT _ hb0)) (hX.kept (Kp.of_below hBA hT)) ?_ ?_ ?_ ?_
      (fun d b o => { tmps := #[.func (.yield l) #[] #[], .pointer (some ⟨Bp, 0, none⟩), .pointer (some ⟨w.heap.size + 2, 0, none⟩), undef, .pointer (some ⟨b, o, none⟩), .pointer (some ⟨b0, o0, none⟩), .func (.func 54) #[] #[.pointer (some ⟨w.heap.size + 2 + 1, 0, none⟩)], .int .i64 d, .pointer (some ⟨b, o, none⟩), undef, undef, undef, undef, undef, undef, undef, undef, undef, undef, undef, undef, undef, undef, undef, undef, undef, undef, undef, undef, undef, undef, undef, undef, undef], defers := [] }) ?_ ?_ ?_ ?_
    · rintro pre W B hag ⟨j1, j2, j3⟩
      exact ⟨hJ _ _ _ (hag.mono (by omega)) j1, hrec _ _ (KeepsTo.of_ag hag (by omega)) j2, hag.boxed j3⟩
    · rintro pre W ⟨j1, j2, j3⟩
      exact ⟨hJd _ _ j1, hrec _ _ (KeepsTo.drew _ _ _) j2, j3⟩
    · rintro W hW
      exact ⟨h0 W (hBA.trans (hW.mono (by omega))), hrec _ _ (hkA.trans (KeepsTo.of_below hW (by omega))) hrec1, Boxed.kept_of byA hW (by omega)⟩
    · rintro c W B hag ⟨rfl, c', j1, j2⟩
      exact ⟨rfl, c', hJx _ _ _ (hag.mono (by omega)) j1, hrecx _ _ _ (KeepsTo.of_ag hag (by omega)) j2⟩
    · intro l' d b o W K hK
      gi_wp2
      simpa using hK
    · rintro l' d b o y pre W hb hn hx ⟨j1, j2, j3⟩ hs ⟨post, hpo⟩
      have c2 := j3.cell
      obtain ⟨d0, d1, d2, d3, d4, d5⟩ := hn
      have hn : NodeP W b o y := ⟨d0, d1, d2, d3, d4, d5⟩
      have hus : usesOf pre ++ usesOf ((d, y) :: post) = usesP x := by rw [← usesOf_app, hpo, usesOf_vis]
      rcases nmd_cases y.k with ⟨hk, hkk⟩ | ⟨hk, k1, k2, k3⟩
      · rw [usesOf_yes hk] at hus
        obtain ⟨fn, tmps, assign', body', hy, hR⟩ := hY 0 ⟨b, o, y, usesOf pre⟩ W ⟨hb, hn, hx, j1, by omega, ⟨_, hus⟩, hk⟩ j2
        replace hR := round_in l' (round_wide (m' := n - 1 - 1 - 1 - 1) hR)
        have YES : ∀ W3, Kp T' W W3 → J (usesOf pre ++ [y]) W3 → w.heap.size + 8 ≤ W3.heap.size → Rec W3 → KeepsFrom w.heap.size W W3 →
            KeepsFrom A.heap.size W W3 ∧ Kp (fun k => T k ∨ k = A.heap.size + 2 ∨ k = A.heap.size + 3) W W3 ∧ J (usesOf (pre ++ [(d, y)])) W3 ∧ Rec W3 ∧ Boxed W3 (w.heap.size + 2) 61 (.func (.yield l) #[] #[]) := fun W3 q1 q2 q3 q4 q5 => by
          refine ⟨keepsFrom_mono q5 (by omega), q1.mono fun k hk => ?_, ?_, q4, q1.boxed (by rw [hT']; exact .inr ⟨by omega, by omega⟩) j3⟩
          · rw [hT']
            rcases hk with hk | hk | hk
            · exact .inl hk
            · exact .inr ⟨by omega, by omega⟩
            · exact .inr ⟨by omega, by omega⟩
          · rw [usesOf_app, usesOf_yes hk]; exact q2
        clear hY hn hus hk
        rcases hkk with k1 | ⟨k1, k2⟩ | ⟨k1, k2, k3⟩
        · gi_wp2_with (first
            | ((try refine ⟨hdd _, ?_⟩); refine hR.mono ?_; clear hR; rintro e W3 (⟨rfl, ⟨q1, q2, q3⟩, q4, q5⟩ | ⟨rfl, c, q1, q2, q3⟩)))
          · exact YES W3 q1 q2 q3 q4 q5
          · exact ⟨keepsFrom_mono q3 (by omega), rfl, c, q1, q2⟩
        · gi_wp2_with (first
            | ((try refine ⟨hdd _, ?_⟩); refine hR.mono ?_; clear hR; rintro e W3 (⟨rfl, ⟨q1, q2, q3⟩, q4, q5⟩ | ⟨rfl, c, q1, q2, q3⟩)))
          · exact YES W3 q1 q2 q3 q4 q5
          · exact ⟨keepsFrom_mono q3 (by omega), rfl, c, q1, q2⟩
        · gi_wp2_with (first
            | ((try refine ⟨hdd _, ?_⟩); refine hR.mono ?_; clear hR; rintro e W3 (⟨rfl, ⟨q1, q2, q3⟩, q4, q5⟩ | ⟨rfl, c, q1, q2, q3⟩)))
          · exact YES W3 q1 q2 q3 q4 q5
          · exact ⟨keepsFrom_mono q3 (by omega), rfl, c, q1, q2⟩
      · clear hY
        have NO : KeepsFrom A.heap.size W W ∧ Kp (fun k => T k ∨ k = A.heap.size + 2 ∨ k = A.heap.size + 3) W W ∧ J (usesOf (pre ++ [(d, y)])) W ∧ Rec W ∧ Boxed W (w.heap.size + 2) 61 (.func (.yield l) #[] #[]) :=
          ⟨KeepsFrom.refl _ _, Kp.refl _ _, by rw [usesOf_app, usesOf_no hk]; simpa [usesOf] using j1, j2, j3⟩
        clear hus hk
        gi_wp2
        refine ⟨fun f h => (by cases h), ?_⟩
        gi_wp2
        exact NO
    · rintro D W hD ⟨j1, j2, j3⟩ hK
      rw [usesOf_vis] at j1
      have hag : Ag w.heap.size W (W.putObj D (.deferred none)) := Ag.putObj (by omega) hK rfl rfl
      have hkt : KeepsTo w.heap.size (w.heap.size + 2) W (W.putObj D (.deferred none)) := fun k o h1 h2 h3 _ => (World.putObj_heap_other (by omega)).trans h3
      gi_wp2
      refine ⟨by simp, .inl ⟨_, _, rfl, run_takeDeferred hK, ?_⟩⟩
      exact ⟨_, results_none rfl _ _ _, ⟨_, rfl⟩, .inl ⟨hJ _ _ _ hag j1, hrec _ _ hkt j2⟩⟩
    · rintro D c W hD ⟨rfl, c', j1, j2⟩ hK
      have hag : Ag w.heap.size W (W.putObj D (.deferred none)) := Ag.putObj (by omega) hK rfl rfl
      have hkt : KeepsTo w.heap.size (w.heap.size + 2) W (W.putObj D (.deferred none)) := fun k o h1 h2 h3 _ => (World.putObj_heap_other (by omega)).trans h3
      gi_wp2
      refine ⟨by simp, .inl ⟨_, _, rfl, run_takeDeferred hK, ?_⟩⟩
      exact ⟨_, results_none rfl _ _ _, ⟨_, rfl⟩, .inr ⟨c', hJx _ _ _ hag j1, hrecx _ _ _ hkt j2⟩⟩
/-- How a body that does what it does to a node with a Var may be left. -/
def namedPost (B : Nat) (G : World → Prop) (W : World) : Exit → Act → World → Prop
  | .normal, _, W' => KeepsFrom B W W' ∧ Kp (fun k => k = B + 2 ∨ k = B + 6 ∨ k = B + 7) W W' ∧ G W'
  | _, _, _ => False
/-- What a round is handed. -/
structure NamG (ι : Type) where
  b : Nat
  o : Nat
  v : ι
set_option maxRecDepth 100000 in
set_option maxHeartbeats 4000000 in
/-- A range over the nodes that have a Var, whose rounds may write: told by relations between worlds. -/
theorem named_walk {ι : Type} {n : Nat} {g : Operand} {ps : Array Tmp} {assign body : Code} {Q : Exit → Act → World → Prop} {a : Act} {w : World} (Bp b0 o0 : Nat) (v0 : ι) (kids : ι → Nat) (kid : ι → Nat → ι) (rank : ι → Nat)
    (Pre : ι → Nat → Nat → World → Prop) (Go : ι → Nat → Nat → World → World → Prop) (Mid : ι → Nat → Nat → World → Option Addr → Nat → Nat → World → Prop) (Post : ι → Nat → Nat → World → World → Prop)
    (hg : a.eval g = .func (.func 68) #[] #[.pointer (some ⟨Bp, 0, none⟩)]) (hps : ps.size = 1) (hBp : w.cell? ⟨Bp, 0, none⟩ = some (.pointer (some ⟨b0, o0, none⟩)))
    (hrank : ∀ v i, i < kids v → rank (kid v i) < rank v)
    (hPre : ∀ v b o W A, Ag w.heap.size W A → Pre v b o W → Pre v b o A)
    (hGo : ∀ v b o W A A' W', Ag w.heap.size W A → Ag w.heap.size A' W' → Go v b o A A' → Go v b o W W')
    (hPost : ∀ v b o W W' A, Ag w.heap.size W' A → Post v b o W W' → Post v b o W A)
    (h0 : ∀ W, Below w.heap.size w W → W.heap.size = w.heap.size + 8 → Pre v0 b0 o0 W)
    (hskip : ∀ v b o W, Pre v b o W → ∃ k, W.cell? ⟨b, o, none⟩ = some (.int .i64 k) ∧ (nmd k = false → Go v b o W W))
    (a₁ : Nat → Nat → Act)
    (hassign : ∀ (l b o : Nat) (W : World) (K : Act → World → Prop), K (a₁ b o) W →
      assign.wpIn (Fence.wide.inRound l) (n - 1 - 1) Try.prog (Exit.then K (fun _ _ _ => False)) { tmps := (ps.zip #[.pointer (some ⟨b, o, none⟩)]).foldl (fun t (p, v) => t.setIfInBounds p v) a.tmps, defers := [] } W)
    (hbody : ∀ (l b o : Nat) (v : ι) (W : World) (k : Int), Pre v b o W → W.cell? ⟨b, o, none⟩ = some (.int .i64 k) → nmd k = true → w.heap.size + 8 ≤ W.heap.size → (∃ u, Boxed W (w.heap.size + 2) 61 u) → (∃ u, Boxed W (w.heap.size + 6) 85 u) → (∃ u, Boxed W (w.heap.size + 7) 85 u) →
      body.wpIn (Fence.wide.inRound l) (n - 1 - 1) Try.prog (namedPost w.heap.size (Go v b o W) W) (a₁ b o) W)
    (hM : ∀ v b o W W', Pre v b o W → Go v b o W W' → ∃ a cap, Mid v b o W a cap 0 W')
    (hL : ∀ v b o W a cap i Wi, Mid v b o W a cap i Wi → kids v ≤ 9223372036854775807 ∧ Wi.cell? ⟨b, o + 5, none⟩ = some (.slice a (kids v) cap))
    (hC : ∀ v b o W a cap i Wi, Mid v b o W a cap i Wi → i < kids v → ∃ b' o', a = some ⟨b', o', none⟩ ∧ Pre (kid v i) b' (o' + i * 6) Wi.drew ∧
      (∀ W', Post (kid v i) b' (o' + i * 6) Wi.drew W' → Mid v b o W a cap (i + 1) W'))
    (hE : ∀ v b o W a cap Wi, Mid v b o W a cap (kids v) Wi → Post v b o W Wi)
    (hdone : ∀ (D : Nat) (W2 W : World), w.heap.size ≤ D → Below w.heap.size w W2 → W2.heap.size = w.heap.size + 8 → Post v0 b0 o0 W2 W → W.heap[D]? = some (.deferred (some [])) → Q .normal { a with defers := { target := .collected D, args := #[] } :: a.defers } W) :
    (Code.rangeFunc g ps assign body).wpIn Fence.wide n Try.prog Q a w := by
  have hdd : ∀ k : Nat, (Fence.wide.depth.isSome = true → 1 ≤ k) := fun k h => by cases h
  obtain ⟨T, hT⟩ : ∃ T : Nat → Prop, T = fun k => k = w.heap.size + 2 ∨ k = w.heap.size + 6 ∨ k = w.heap.size + 7 := ⟨_, rfl⟩
  refine wpIn_rangeK (α := NamG ι) hg (enters_of Try.func68 (by kernel_rfl) rfl) (encs := fun v => #[.pointer (some ⟨v.b, v.o, none⟩)]) (fun _ => hps.symm)
    (fun v W => Pre v.v v.b v.o W ∧ w.heap.size + 8 ≤ W.heap.size ∧ (∃ u, Boxed W (w.heap.size + 2) 61 u) ∧ (∃ u, Boxed W (w.heap.size + 6) 85 u) ∧ (∃ u, Boxed W (w.heap.size + 7) 85 u) ∧ ∃ k, W.cell? ⟨v.b, v.o, none⟩ = some (.int .i64 k) ∧ nmd k = true)
    (fun v W W' => Kp T W W' ∧ Go v.v v.b v.o W W' ∧ w.heap.size + 8 ≤ W'.heap.size)
    (fun _ _ _ _ => False) (fun W => ∃ W2, Below w.heap.size w W2 ∧ W2.heap.size = w.heap.size + 8 ∧ Post v0 b0 o0 W2 W) (fun _ _ => False) ?_ ?_ (fun _ _ _ _ _ _ _ _ h => h) ?_ (fun _ _ _ _ h => h) (fun v => a₁ v.b v.o) (fun l v W K hK => hassign l v.b v.o W K hK) ?_ ?_
    (fun D W hD h hK => by obtain ⟨W2, h1, h2, h3⟩ := h; exact hdone D W2 W hD h1 h2 h3 hK) (fun _ _ _ _ h _ => h.elim)
  · rintro v W A hag ⟨h1, h2, ⟨u, h3⟩, ⟨u', h4⟩, ⟨u'', h5⟩, k, h6, h7⟩
    exact ⟨hPre _ _ _ _ _ hag h1, by rw [hag.size]; exact h2, ⟨u, hag.boxed h3⟩, ⟨u', hag.boxed h4⟩, ⟨u'', hag.boxed h5⟩, k, (hag.cell _).trans h6, h7⟩
  · rintro v W A A' W' hag hag' ⟨h1, h2, h3⟩
    exact ⟨Kp.ag hag hag' h1, hGo _ _ _ _ _ _ _ hag hag' h2, by rw [hag'.size]; exact h3⟩
  · rintro W A hag ⟨W2, h1, h2, h3⟩
    exact ⟨W2, h1, h2, hPost _ _ _ _ _ _ hag h3⟩
  · rintro l v W ⟨h1, h2, h3, h4, h5, k, h6, h7⟩ _
    refine wpIn_mono (hbody l v.b v.o v.v W k h1 h6 h7 h2 h3 h4 h5) ?_
    rintro e a3 W3 hp
    cases e with
    | normal => exact ⟨hp.1, by rw [hT]; exact hp.2.1, hp.2.2, Nat.le_trans h2 hp.1.size⟩
    | ret => exact hp.elim
    | exit id => exact hp.elim
    | goto t => exact hp.elim
    | panic ch => exact hp.elim
    | outgrown => exact hp.elim
  · intro l Rec RecX W1 hB1 hs1 hrec1 hrec hrecx hY
    have hlt : Bp < w.heap.size := by
      obtain ⟨ob, ho, -⟩ := cells_of_cell hBp
      exact (Array.getElem?_eq_some_iff.1 ho).1
    clear hbody hassign hdone
    obtain ⟨A0, hA0⟩ : ∃ A0, W1.alloc (.cells #[.func (.yield l) #[] #[]] 61) = A0 := ⟨_, rfl⟩
    have hB0 : Below W1.heap.size W1 A0 := by rw [← hA0]; exact (Below.refl _ _).alloc (Nat.le_refl _) _
    have by0 : Boxed A0 W1.heap.size 61 (.func (.yield l) #[] #[]) := hA0 ▸ Boxed.new _ _ _
    have hs0 : A0.heap.size = W1.heap.size + 1 := by rw [← hA0]; simp
    have cp := (hB0.cell (p := ⟨Bp, 0, none⟩) (by have := hlt; show Bp < _; omega)).trans ((hB1.cell (p := ⟨Bp, 0, none⟩) hlt).trans hBp)
    have c0 := by0.cell
    refine callsIn_of_wp_marks Try.func68 rfl trivial ?_ rfl
    simp only [Try.ntmps68, List.size_toArray, List.length_cons, List.length_nil, Nat.reduceAdd, Nat.reduceSub, Array.replicate_succ, Array.replicate_zero, List.push_toArray, List.append_toArray, List.nil_append, List.cons_append]
    gi_wp2_with (refine ⟨trivial, hdd _, ?_⟩; gi_at_call 32; refine (nodesP_in _ _ _).mono ?_; rintro e w' ⟨rfl, rfl⟩)
    obtain ⟨A, hA⟩ : ∃ A, A0.alloc (.cells #[.pointer (some ⟨b0, o0, none⟩)] 52) = A := ⟨_, rfl⟩
    rw [hA]
    have hBA0 : Below A0.heap.size A0 A := by rw [← hA]; exact (Below.refl _ _).alloc (Nat.le_refl _) _
    have hsz : A.heap.size = w.heap.size + 4 := by rw [← hA]; simp; omega
    have hBA : Below w.heap.size w A := (hB1.trans (hB0.mono (by omega))).trans (hBA0.mono (by omega))
    have byA : Boxed A (w.heap.size + 2) 61 (.func (.yield l) #[] #[]) := by rw [← hs1, ← hA]; exact by0.alloc _
    have bpA : Boxed A (w.heap.size + 2 + 1) 52 (.pointer (some ⟨b0, o0, none⟩)) := by
      have := Boxed.new A0 52 (.pointer (some ⟨b0, o0, none⟩))
      rw [hA, hs0, hs1] at this
      exact this
    have hkA : KeepsTo w.heap.size (w.heap.size + 2) W1 A := (KeepsTo.of_below hB0 (by omega)).trans (KeepsTo.of_below hBA0 (by omega))
    clear hA hA0 cp c0 by0
    refine nodesP_walk (ι := ι) (w.heap.size + 2 + 1) b0 o0 v0 kids kid rank
      (fun v b o W => Pre v b o W ∧ Rec W ∧ Boxed W (w.heap.size + 2) 61 (.func (.yield l) #[] #[]))
      (fun v b o W W' => Go v b o W W' ∧ Rec W' ∧ Boxed W' (w.heap.size + 2) 61 (.func (.yield l) #[] #[]))
      (fun v b o W a cap i Wi => Mid v b o W a cap i Wi ∧ Rec Wi ∧ Boxed Wi (w.heap.size + 2) 61 (.func (.yield l) #[] #[]))
      (fun v b o W W' => Post v b o W W' ∧ Rec W' ∧ Boxed W' (w.heap.size + 2) 61 (.func (.yield l) #[] #[]))
      rfl rfl bpA.cell hrank ?_ ?_ ?_ ?_
      (fun d b o => { tmps := #[.func (.yield l) #[] #[], .pointer (some ⟨Bp, 0, none⟩), .pointer (some ⟨w.heap.size + 2, 0, none⟩), undef, .pointer (some ⟨b, o, none⟩), .pointer (some ⟨b0, o0, none⟩), .func (.func 54) #[] #[.pointer (some ⟨w.heap.size + 2 + 1, 0, none⟩)], .int .i64 d, .pointer (some ⟨b, o, none⟩), undef, undef, undef, undef, undef, undef, undef, undef, undef, undef, undef, undef, undef, undef, undef, undef, undef, undef, undef, undef, undef, undef, undef, undef, undef], defers := [] }) ?_ ?_ ?_ ?_ ?_ ?_ ?_
    · rintro v b o W B hag ⟨j1, j2, j3⟩
      exact ⟨hPre _ _ _ _ _ (hag.mono (by omega)) j1, hrec _ _ (KeepsTo.of_ag hag (by omega)) j2, hag.boxed j3⟩
    · rintro v b o W B B' W' hag hag' ⟨j1, j2, j3⟩
      exact ⟨hGo _ _ _ _ _ _ _ (hag.mono (by omega)) (hag'.mono (by omega)) j1, hrec _ _ (KeepsTo.of_ag hag' (by omega)) j2, hag'.boxed j3⟩
    · rintro v b o W W' B hag ⟨j1, j2, j3⟩
      exact ⟨hPost _ _ _ _ _ _ (hag.mono (by omega)) j1, hrec _ _ (KeepsTo.of_ag hag (by omega)) j2, hag.boxed j3⟩
    · rintro W hW hs
      exact ⟨h0 W (hBA.trans (hW.mono (by omega))) (by omega), hrec _ _ (hkA.trans (KeepsTo.of_below hW (by omega))) hrec1, Boxed.kept_of byA hW (by omega)⟩
    · intro l' d b o W K hK
      gi_wp2
      simpa using hK
    · rintro l' d b o v W ⟨j1, j2, j3⟩ hs ⟨u2, b2⟩ ⟨u3, b3⟩
      have c2 := j3.cell
      obtain ⟨k, d0, hno⟩ := hskip v b o W j1
      rcases nmd_cases k with ⟨hk, hkk⟩ | ⟨hk, k1, k2, k3⟩
      · obtain ⟨fn, tmps, assign', body', hy, hR⟩ := hY 0 ⟨b, o, v⟩ W ⟨j1, by omega, ⟨_, j3⟩, ⟨u2, by rw [show w.heap.size + 6 = A.heap.size + 2 by omega]; exact b2⟩, ⟨u3, by rw [show w.heap.size + 7 = A.heap.size + 3 by omega]; exact b3⟩, k, d0, hk⟩ j2
        replace hR := round_in l' (round_wide (m' := n - 1 - 1 - 1 - 1) hR)
        have YES : ∀ W3, Kp T W W3 → Go v b o W W3 → w.heap.size + 8 ≤ W3.heap.size → Rec W3 → KeepsFrom w.heap.size W W3 →
            KeepsFrom A.heap.size W W3 ∧ Kp (fun k => k = A.heap.size + 2 ∨ k = A.heap.size + 3) W W3 ∧ Go v b o W W3 ∧ Rec W3 ∧ Boxed W3 (w.heap.size + 2) 61 (.func (.yield l) #[] #[]) := fun W3 q1 q2 q3 q4 q5 => by
          refine ⟨keepsFrom_mono q5 (by omega), q1.mono fun k hk => ?_, q2, q4, q1.boxed (by rw [hT]; exact .inl rfl) j3⟩
          rw [hT]
          rcases hk with hk | hk
          · exact .inr (.inl (by omega))
          · exact .inr (.inr (by omega))
        clear hY hk hno
        rcases hkk with k1 | ⟨k1, k2⟩ | ⟨k1, k2, k3⟩
        · gi_wp2_with (first
            | ((try refine ⟨hdd _, ?_⟩); refine hR.mono ?_; clear hR; rintro e W3 (⟨rfl, ⟨q1, q2, q3⟩, q4, q5⟩ | ⟨rfl, c, q1, q2, q3⟩)))
          · exact YES W3 q1 q2 q3 q4 q5
        · gi_wp2_with (first
            | ((try refine ⟨hdd _, ?_⟩); refine hR.mono ?_; clear hR; rintro e W3 (⟨rfl, ⟨q1, q2, q3⟩, q4, q5⟩ | ⟨rfl, c, q1, q2, q3⟩)))
          · exact YES W3 q1 q2 q3 q4 q5
        · gi_wp2_with (first
            | ((try refine ⟨hdd _, ?_⟩); refine hR.mono ?_; clear hR; rintro e W3 (⟨rfl, ⟨q1, q2, q3⟩, q4, q5⟩ | ⟨rfl, c, q1, q2, q3⟩)))
          · exact YES W3 q1 q2 q3 q4 q5
      · clear hY
        have NO : KeepsFrom A.heap.size W W ∧ Kp (fun k => k = A.heap.size + 2 ∨ k = A.heap.size + 3) W W ∧ Go v b o W W ∧ Rec W ∧ Boxed W (w.heap.size + 2) 61 (.func (.yield l) #[] #[]) := ⟨KeepsFrom.refl _ _, Kp.refl _ _, hno hk, j2, j3⟩
        clear hk hno
        gi_wp2
        refine ⟨fun f h => (by cases h), ?_⟩
        gi_wp2
        exact NO
    · rintro v b o W W' ⟨j1, j2, j3⟩ ⟨q1, q2, q3⟩
      obtain ⟨a', cap', hm⟩ := hM _ _ _ _ _ j1 q1
      exact ⟨a', cap', hm, q2, q3⟩
    · rintro v b o W a' cap' i Wi ⟨j1, j2, j3⟩
      exact hL _ _ _ _ _ _ _ _ j1
    · rintro v b o W a' cap' i Wi ⟨j1, j2, j3⟩ hi
      obtain ⟨b', o', ea, hp, hq⟩ := hC _ _ _ _ _ _ _ _ j1 hi
      exact ⟨b', o', ea, ⟨hp, hrec _ _ (KeepsTo.drew _ _ _) j2, j3⟩, fun W' h => ⟨hq W' h.1, h.2.1, h.2.2⟩⟩
    · rintro v b o W a' cap' Wi ⟨j1, j2, j3⟩
      exact ⟨hE _ _ _ _ _ _ _ j1, j2, j3⟩
    · rintro D W2 W hD hW2 hs2 ⟨j1, j2, j3⟩ hK
      have hag : Ag w.heap.size W (W.putObj D (.deferred none)) := Ag.putObj (by omega) hK rfl rfl
      have hkt : KeepsTo w.heap.size (w.heap.size + 2) W (W.putObj D (.deferred none)) := fun k o h1 h2 h3 _ => (World.putObj_heap_other (by omega)).trans h3
      gi_wp2
      refine ⟨by simp, .inl ⟨_, _, rfl, run_takeDeferred hK, ?_⟩⟩
      exact ⟨_, results_none rfl _ _ _, ⟨_, rfl⟩, .inl ⟨⟨W2, hBA.trans (hW2.mono (by omega)), by omega, hPost _ _ _ _ _ _ hag j1⟩, hrec _ _ hkt j2⟩⟩
end Go.Proofs.Ytinnhaojmnmliaa
namespace Go.Proofs.Ytinnhaojmnmliaa
open Go.RowKit

def smallB (c : Int) : Bool := decide (97 ≤ c ∧ c ≤ 122)
def largeB (c : Int) : Bool := decide (65 ≤ c ∧ c ≤ 90)
def laterB (c : Int) : Bool := decide (48 ≤ c ∧ c ≤ 57 ∨ c = 95)
def foldC (c : Int) : Int := if largeB c then c + 32 else c
def fitsB (s : ByteArray) : Bool := decide (1 ≤ s.size ∧ s.size ≤ 32)
/-- May a byte stand at a place of a name? -/
def okB (c : Int) (j : Nat) : Bool := smallB c || (laterB c && decide (j ≠ 0))
def nameB (s : ByteArray) : Bool := decide (∀ j, j < s.size → okB (byteAt s j) j = true) && fitsB s
def upperB (s : ByteArray) : Bool := decide (∀ j, j < s.size → largeB (byteAt s j) = true) && fitsB s
def foldS (s : ByteArray) : ByteArray := strOf ((bytesS s).map foldC)

theorem nameB_all {s : ByteArray} (h : ∀ j, j < s.size → okB (byteAt s j) j = true) : nameB s = fitsB s := by
  unfold nameB; rw [decide_eq_true h]; simp
theorem nameB_not {s : ByteArray} (j : Nat) (hj : j < s.size) (h : okB (byteAt s j) j = false) : nameB s = false := by
  unfold nameB; rw [decide_eq_false (fun k => by rw [k j hj] at h; cases h)]; simp
theorem upperB_all {s : ByteArray} (h : ∀ j, j < s.size → largeB (byteAt s j) = true) : upperB s = fitsB s := by
  unfold upperB; rw [decide_eq_true h]; simp
theorem upperB_not {s : ByteArray} (j : Nat) (hj : j < s.size) (h : largeB (byteAt s j) = false) : upperB s = false := by
  unfold upperB; rw [decide_eq_false (fun k => by rw [k j hj] at h; cases h)]; simp

theorem foldC_bd (c : Int) (h : 0 ≤ c ∧ c ≤ 255) : 0 ≤ foldC c ∧ foldC c ≤ 255 := by
  unfold foldC largeB; simp only [decide_eq_true_eq]; split <;> omega
theorem foldC_fold (c : Int) : foldC (foldC c) = foldC c := by
  unfold foldC largeB; simp only [decide_eq_true_eq]; repeat' split
  all_goals omega
theorem bytesS_fold (s : ByteArray) : bytesS (foldS s) = (bytesS s).map foldC := by
  refine bytesS_strOf _ fun c hc => ?_
  obtain ⟨d, hd, rfl⟩ := List.mem_map.1 hc
  exact foldC_bd d (bytesS_bd s d hd)
theorem fold_size (s : ByteArray) : (foldS s).size = s.size := by
  rw [← bytesS_length, bytesS_fold, List.length_map, bytesS_length]
theorem fold_fold (s : ByteArray) : foldS (foldS s) = foldS s := by
  show strOf ((bytesS (foldS s)).map foldC) = strOf ((bytesS s).map foldC)
  rw [bytesS_fold, List.map_map]
  congr 1
  exact List.map_congr_left fun c _ => foldC_fold c
theorem fold_at (s : ByteArray) (j : Nat) (hj : j < s.size) : byteAt (foldS s) j = foldC (byteAt s j) := by
  have h : j < (bytesS s).length := by rw [bytesS_length]; exact hj
  simp [byteAt, bytesS_fold, h]
theorem upper_fold (s : ByteArray) (h : upperB s = true) : nameB (foldS s) = true ∧ nameB s = false := by
  unfold upperB at h
  simp only [Bool.and_eq_true, decide_eq_true_eq] at h
  obtain ⟨h1, h2⟩ := h
  have hf : fitsB (foldS s) = true := by unfold fitsB at h2 ⊢; rw [fold_size]; exact h2
  constructor
  · rw [nameB_all, hf]
    intro j hj
    rw [fold_size] at hj
    rw [fold_at s j hj]
    have := h1 j hj
    unfold okB foldC
    rw [this, if_pos rfl]
    unfold largeB at this
    simp only [decide_eq_true_eq] at this
    have hs : smallB (byteAt s j + 32) = true := by unfold smallB; simp only [decide_eq_true_eq]; omega
    rw [hs]; rfl
  · unfold fitsB at h2
    simp only [decide_eq_true_eq] at h2
    have h0 := h1 0 (by omega)
    refine nameB_not 0 (by omega) ?_
    unfold largeB at h0
    simp only [decide_eq_true_eq] at h0
    have hs : smallB (byteAt s 0) = false := by unfold smallB; simp only [decide_eq_false_iff_not]; omega
    unfold okB
    rw [hs]; simp
theorem name_fold (s : ByteArray) (h : nameB s = true) : foldS s = s := by
  unfold nameB at h
  simp only [Bool.and_eq_true, decide_eq_true_eq] at h
  conv => rhs; rw [← strOf_bytesS s]
  unfold foldS
  congr 1
  conv => rhs; rw [← List.map_id (bytesS s)]
  refine List.map_congr_left fun c hc => ?_
  obtain ⟨j, hj, rfl⟩ := List.getElem_of_mem hc
  have hj' : j < s.size := by rw [← bytesS_length]; exact hj
  have hk := h.1 j hj'
  have e : byteAt s j = (bytesS s)[j] := by simp [byteAt, hj]
  rw [← e]
  have hl : largeB (byteAt s j) = false := by
    unfold okB smallB laterB at hk
    simp only [Bool.or_eq_true, Bool.and_eq_true, decide_eq_true_eq] at hk
    unfold largeB; simp only [decide_eq_false_iff_not]
    omega
  unfold foldC
  rw [hl]; rfl

/-! ### Runes -/
theorem get!_at (s : ByteArray) (k : Nat) (h : k < s.size) : s.get! k = s[k]'h := by
  have := get_at s k h
  rwa [Nat.add_zero] at this
/-- A rune that is no byte below 128 goes over bytes none of which is below 128, and ends within the text. -/
theorem rune_over (s : ByteArray) (p : Nat) (h : p < s.size) (ha : 128 ≤ byteAt s p) :
    128 ≤ (Utf8.decode s p).1 ∧ 1 ≤ (Utf8.decode s p).2 ∧ p + (Utf8.decode s p).2 ≤ s.size ∧ ∀ j, p ≤ j → j < p + (Utf8.decode s p).2 → 128 ≤ byteAt s j := by
  have hh := decode_high s p h (by have := byteAt_get s p h; omega)
  have hd := Lib.decodeN_conts (s.size - p) (s.get! p).toNat (s.get! (p + 1)).toNat (s.get! (p + 2)).toNat (s.get! (p + 3)).toNat
  rw [← Lib.decode_at] at hd
  obtain ⟨d1, d2, d3, d4⟩ := hd
  refine ⟨hh.1, hh.2, by omega, fun j h1 h2 => ?_⟩
  have key : ∀ k, p + k < s.size → (s.get! (p + k)).toNat / 64 = 2 → 128 ≤ byteAt s (p + k) := by
    intro k hk hq
    rw [get!_at s _ hk] at hq
    have := byteAt_get s _ hk
    omega
  obtain ⟨k, rfl⟩ := Nat.exists_eq_add_of_le h1
  match k, h2 with
  | 0, _ => exact ha
  | 1, h2 => exact key 1 (by omega) (d1 (by omega)).1
  | 2, h2 => exact key 2 (by omega) (d2 (by omega)).1
  | 3, h2 => exact key 3 (by omega) (d3 (by omega)).1
  | k + 4, h2 => omega
theorem rune_byte (s : ByteArray) (p : Nat) (h : p < s.size) (ha : byteAt s p < 128) : Utf8.decode s p = ((byteAt s p).toNat, 1) := by
  have e := byteAt_get s p h
  rw [decode_ascii s p h (by omega)]
  congr 1
  omega
theorem awake_name : nameB ⟨#[97, 49, 95]⟩ = true := by decide
end Go.Proofs.Ytinnhaojmnmliaa
namespace Go.Proofs.Ytinnhaojmnmliaa
open Go.RowKit

/-- May a PMany have these? -/
def cntB (lo hi : Int) : Bool := decide (1 ≤ lo) && (decide (lo ≤ 1000) && ((hi == 0 || (decide (lo ≤ hi) && decide (hi ≤ 1000))) && !(lo == 1 && hi == 1)))
def emptyB (s : ByteArray) : Bool := s.toList == []
/-- Is one of the parts of the same kind? -/
def ownB (x : Pt) : Bool := !allN (fun i => !((x.c i).k == x.k)) x.n
/-- Is a node right, its parts aside? -/
def leafB (x : Pt) : Bool := nameB x.s && (nameB x.t && (x.lo == 0 && (x.hi == 0 && x.n == 0)))
def manyB (x : Pt) : Bool := nameB x.s && (nameB x.t && (cntB x.lo x.hi && x.n == 0))
def rowB (x : Pt) : Bool := emptyB x.s && (emptyB x.t && (x.lo == 0 && (x.hi == 0 && (decide (2 ≤ x.n) && !ownB x))))
def isRow (k : Int) : Bool := k == 2 || k == 3 || k == 4
def rightN (x : Pt) : Bool := if isRow x.k = true then rowB x else if x.k = 5 then manyB x else if x.k = 1 ∨ x.k = 6 then leafB x else false
/-- Is all of it right? -/
def rightP : Pt → Bool
  | .nil => rightN .nil
  | .mk k s t lo hi a n cap c => rightN (.mk k s t lo hi a n cap c) && allN (fun i => rightP (c i)) n
theorem rightP_eq (x : Pt) : rightP x = (rightN x && allN (fun i => rightP (x.c i)) x.n) := by
  cases x with
  | nil => show rightN .nil = (rightN .nil && true); simp
  | mk => rfl
theorem right_vis : ∀ (x : Pt) (d : Nat), rightP x = true ↔ ∀ v ∈ visP d x, rightN v.2 = true := by
  refine Pt.ind fun x ih d => ?_
  rw [rightP_eq, Bool.and_eq_true, allN_true, visP_eq]
  constructor
  · rintro ⟨h1, h2⟩ v hv
    rcases List.mem_cons.1 hv with rfl | hv
    · exact h1
    · obtain ⟨i, hi, hv⟩ := mem_catN.1 hv
      exact (ih i hi (d + 1)).1 (h2 i hi) v hv
  · intro h
    exact ⟨h (d, x) (by simp), fun i hi => (ih i hi (d + 1)).2 fun v hv => h v (List.mem_cons_of_mem _ (mem_catN.2 ⟨i, hi, hv⟩))⟩
/-- What Check answers. -/
def chkP (x : Pt) : Int := if 64 < x.size ∨ 8 < x.deep then 2 else if rightP x = true then 0 else 1
theorem chkP_zero {x : Pt} : chkP x = 0 ↔ x.size ≤ 64 ∧ x.deep ≤ 8 ∧ rightP x = true := by
  unfold chkP
  by_cases h : 64 < x.size ∨ 8 < x.deep
  · rw [if_pos h]
    constructor
    · intro e; omega
    · rintro ⟨h1, h2, _⟩; omega
  · rw [if_neg h]
    by_cases hr : rightP x = true
    · rw [if_pos hr]
      exact ⟨fun _ => ⟨by omega, by omega, hr⟩, fun _ => rfl⟩
    · rw [if_neg hr]
      exact ⟨fun e => by omega, fun e => absurd e.2.2 hr⟩
/-- A part of a right one is right. -/
theorem chkP_part {x : Pt} (h : chkP x = 0) {i : Nat} (hi : i < x.n) : chkP (x.c i) = 0 := by
  rw [chkP_zero] at h ⊢
  have h1 := x.size_part i hi
  have h2 := x.deep_part i hi
  have h3 := h.2.2
  rw [rightP_eq, Bool.and_eq_true, allN_true] at h3
  exact ⟨by omega, by omega, h3.2 i hi⟩
theorem ownB_sm {x y : Pt} (h : Sm x y) : ownB x = ownB y := by
  obtain ⟨h1, h2, h3, h4, h5, h6, h7⟩ := (sm_iff _ _).1 h
  unfold ownB
  rw [← h6, ← h1]
  congr 1
  rw [Bool.eq_iff_iff, allN_true, allN_true]
  constructor
  · intro q i hi; have := q i hi; rwa [((sm_iff _ _).1 (h7 i hi)).1] at this
  · intro q i hi; have := q i hi; rwa [← ((sm_iff _ _).1 (h7 i hi)).1] at this
theorem rightN_sm {x y : Pt} (h : Sm x y) : rightN x = rightN y := by
  have ho := ownB_sm h
  obtain ⟨h1, h2, h3, h4, h5, h6, h7⟩ := (sm_iff _ _).1 h
  unfold rightN rowB manyB leafB
  rw [ho, h1, h2, h3, h4, h5, h6]
theorem rightP_sm : ∀ {x y : Pt}, Sm x y → rightP x = rightP y := by
  refine @(Pt.ind fun x ih y h => ?_)
  have hn := rightN_sm h
  obtain ⟨h1, h2, h3, h4, h5, h6, h7⟩ := (sm_iff _ _).1 h
  rw [rightP_eq, rightP_eq y, hn, ← h6]
  congr 1
  rw [Bool.eq_iff_iff, allN_true, allN_true]
  exact ⟨fun q i hi => by rw [← ih i hi (h7 i hi)]; exact q i hi, fun q i hi => by rw [ih i hi (h7 i hi)]; exact q i hi⟩
theorem chkP_sm {x y : Pt} (h : Sm x y) : chkP x = chkP y := by
  unfold chkP
  rw [size_sm h, deep_sm h, rightP_sm h]
/-- A right node that has a Var has no parts. -/
theorem named_leaf {x : Pt} (h : rightN x = true) (hk : nmd x.k = true) : x.n = 0 := by
  unfold rightN at h
  unfold nmd at hk
  simp only [Bool.or_eq_true, beq_iff_eq] at hk
  have hr : ¬ isRow x.k = true := by
    unfold isRow
    simp only [Bool.or_eq_true, beq_iff_eq]
    omega
  rw [if_neg hr] at h
  by_cases h5 : x.k = 5
  · rw [if_pos h5] at h
    unfold manyB at h
    simp at h
    exact h.2.2.2
  · rw [if_neg h5] at h
    by_cases h1 : x.k = 1 ∨ x.k = 6
    · rw [if_pos h1] at h
      unfold leafB at h
      simp at h
      exact h.2.2.2.2
    · rw [if_neg h1] at h; cases h
end Go.Proofs.Ytinnhaojmnmliaa
