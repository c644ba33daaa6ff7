/-
  pat.named: a range over the nodes that have a Var.
  When a pattern is well made: plain facts, of no function.
  A region that draws its order and only reads, inside a round: one walk of the lexical order serves every order there, too. Of no function.
  A region that draws its order, inside a round: reads in any order, and one write behind them all. Told by the temporaries as they stand behind all reads. Of no function.
-/
import Derived.Test.YtkfpgkohkhhlhaaGreatDoorRExprSort
import Derived.Test.YtkfpgkohkhhlhaaGreatDoorRExprRightPartsD
import Derived.Test.YtkfpgkohkhhlhaaGreatDoorRows
import Derived.WalkKit
import Derived.Sort.QuietIn
import Derived.OrdersIn
import Derived.TacticsIn
namespace Go.Proofs.YtkfpgkohkhhlhaaGreatDoor
open Go.RowKit Go.Shelf
attribute [local go_sem] Oper.semAt_some

theorem Ag.mono {B B' : Nat} {W A : World} (h : Ag B' W A) (hB : B ≤ B') : Ag B W A := ⟨h.os, h.tape, h.output, h.size, fun k hk => h.low k (by omega), h.cells⟩
theorem keepsFrom_mono {B B' : Nat} {W W' : World} (h : KeepsFrom B W W') (hB : B ≤ B') : KeepsFrom B' W W' := ⟨h.size, fun k o hk => h.same k o (by omega)⟩
theorem KeepsTo.drew (B B' : Nat) (W : World) : KeepsTo B B' W W.drew := fun _ _ _ _ h _ => h
theorem round_in {m : Nat} {P : Program} {l : Nat} {f : FuncId} {tmps : Array Value} {assign body : Code} {w : World} {R : Ending → World → Prop} (l' : Nat)
    (h : RoundIn Fence.wide m P l f tmps assign body w R) : RoundIn (Fence.wide.inRound l') m P l f tmps assign body w R := h
theorem nmd_cases (k : Int) : (nmd k = true ∧ ((k == 1) = true ∨ ((k == 1) = false ∧ (k == 5) = true) ∨ ((k == 1) = false ∧ (k == 5) = false ∧ (k == 6) = true))) ∨ (nmd k = false ∧ (k == 1) = false ∧ (k == 5) = false ∧ (k == 6) = false) := by
  unfold nmd
  cases (k == 1) <;> cases (k == 5) <;> cases (k == 6) <;> simp
set_option maxRecDepth 100000 in
set_option maxHeartbeats 1000000 in
theorem named_in (n : Nat) (p : Option Addr) (w : World) :
    CallsIn Fence.wide n Tryz.prog 106 #[.pointer p] w fun e w' => e = .returned (.func (.func 145) #[] #[.pointer (some ⟨w.heap.size, 0, none⟩)]) ∧ w' = w.alloc (.cells #[.pointer p] 84) := by
  refine callsIn_of_wp Tryz.func106 rfl trivial ?_ rfl
  simp only [Tryz.ntmps106, List.size_toArray, List.length_cons, List.length_nil, Nat.reduceAdd, Nat.reduceSub, Array.replicate_succ, Array.replicate_zero, List.push_toArray, List.append_toArray, List.nil_append, List.cons_append]
  gi_wp2
  go_ret
  exact ⟨rfl, rfl⟩
/-- What a round of the range is handed. -/
structure NamP where
  b : Nat
  o : Nat
  y : Pt
  pre : List Pt
/-- The nodes with a Var among some. -/
def usesOf (l : List (Nat × Pt)) : List Pt := (l.filter fun v => nmd v.2.k).map (·.2)
theorem usesOf_app (l m : List (Nat × Pt)) : usesOf (l ++ m) = usesOf l ++ usesOf m := by simp [usesOf]
theorem usesOf_yes {d : Nat} {y : Pt} (h : nmd y.k = true) (l : List (Nat × Pt)) : usesOf ((d, y) :: l) = y :: usesOf l := by simp [usesOf, h]
theorem usesOf_no {d : Nat} {y : Pt} (h : nmd y.k = false) (l : List (Nat × Pt)) : usesOf ((d, y) :: l) = usesOf l := by simp [usesOf, h]
theorem usesOf_vis (x : Pt) : usesOf (visP 1 x) = usesP x := uses_visP x 1

set_option maxRecDepth 100000 in
set_option maxHeartbeats 4000000 in
/-- A range over the nodes that have a Var, each once, in their order. -/
theorem named_fold {n : Nat} {g : Operand} {ps : Array Tmp} {assign body : Code} {Q : Exit → Act → World → Prop} {a : Act} {w : World} (Bp b0 o0 : Nat) (x : Pt) (T : Nat → Prop) (J : List Pt → World → Prop) (Jx : Code → World → Prop)
    (hg : a.eval g = .func (.func 145) #[] #[.pointer (some ⟨Bp, 0, none⟩)]) (hps : ps.size = 1) (hBp : w.cell? ⟨Bp, 0, none⟩ = some (.pointer (some ⟨b0, o0, none⟩))) (hsm : x.size ≤ 1048576)
    (hT : ∀ k, T k → k < w.heap.size) (hb0 : T b0) (hN : NodeP w b0 o0 x) (hX : PT T w x)
    (hJ : ∀ pre W A, Ag w.heap.size W A → J pre W → J pre A) (hJd : ∀ pre W, J pre W → J pre W.drew) (h0 : ∀ W, Below w.heap.size w W → J [] W) (hJx : ∀ c W A, Ag w.heap.size W A → Jx c W → Jx c A)
    (a₁ : Nat → Nat → Act)
    (hassign : ∀ (l b o : Nat) (W : World) (K : Act → World → Prop), K (a₁ b o) W →
      assign.wpIn (Fence.wide.inRound l) (n - 1 - 1) Tryz.prog (Exit.then K (fun _ _ _ => False)) { tmps := (ps.zip #[.pointer (some ⟨b, o, none⟩)]).foldl (fun t (p, v) => t.setIfInBounds p v) a.tmps, defers := [] } W)
    (hbody : ∀ (l b o : Nat) (y : Pt) (pre : List Pt) (W : World), T b → NodeP W b o y → PT T W y → J pre W → w.heap.size + 8 ≤ W.heap.size → (∃ post, pre ++ y :: post = usesP x) → nmd y.k = true →
      body.wpIn (Fence.wide.inRound l) (n - 1 - 1) Tryz.prog (foldPost w.heap.size (fun k => T k ∨ (w.heap.size ≤ k ∧ k < w.heap.size + 8)) (J (pre ++ [y])) Jx W) (a₁ b o) W)
    (hdone : ∀ (D : Nat) (W : World), w.heap.size ≤ D → J (usesP x) W → W.heap[D]? = some (.deferred (some [])) → Q .normal { a with defers := { target := .collected D, args := #[] } :: a.defers } W)
    (hstop : ∀ (D : Nat) (c : Code) (W : World), w.heap.size ≤ D → Jx c W → W.heap[D]? = some (.deferred (some [])) → c.wpIn Fence.wide n Tryz.prog Q { a with defers := { target := .collected D, args := #[] } :: a.defers } W) :
    (Code.rangeFunc g ps assign body).wpIn Fence.wide n Tryz.prog Q a w := by
  have hdd : ∀ k : Nat, (Fence.wide.depth.isSome = true → 1 ≤ k) := fun k h => by cases h
  obtain ⟨T', hT'⟩ : ∃ T' : Nat → Prop, T' = fun k => T k ∨ (w.heap.size ≤ k ∧ k < w.heap.size + 8) := ⟨_, rfl⟩
  have tT : ∀ k, T k → T' k := fun k hk => by rw [hT']; exact .inl hk
  refine wpIn_rangeK (α := NamP) hg (enters_of Tryz.func145 (by kernel_rfl) rfl) (encs := fun v => #[.pointer (some ⟨v.b, v.o, none⟩)]) (fun _ => hps.symm)
    (fun v W => T v.b ∧ NodeP W v.b v.o v.y ∧ PT T W v.y ∧ J v.pre W ∧ w.heap.size + 8 ≤ W.heap.size ∧ (∃ post, v.pre ++ v.y :: post = usesP x) ∧ nmd v.y.k = true)
    (fun v W W' => Kp T' W W' ∧ J (v.pre ++ [v.y]) W' ∧ w.heap.size + 8 ≤ W'.heap.size)
    (fun c _ _ W' => Jx c W') (J (usesP x)) Jx ?_ ?_ ?_ (fun W A h => hJ _ W A h) hJx (fun v => a₁ v.b v.o) (fun l v W K hK => hassign l v.b v.o W K hK) ?_ ?_ hdone hstop
  · rintro v W A hag ⟨h1, h2, h3, h4, h5, h6, h7⟩
    exact ⟨h1, h2.ag hag, h3.of fun p v h => (hag.cell p).trans h, hJ _ _ _ hag h4, by rw [hag.size]; exact h5, h6, h7⟩
  · rintro v W A A' W' hag hag' ⟨h1, h2, h3⟩
    exact ⟨Kp.ag hag hag' h1, hJ _ _ _ hag' h2, by rw [hag'.size]; exact h3⟩
  · rintro c v W A A' W' hag hag' h
    exact hJx _ _ _ hag' h
  · rintro l v W ⟨h1, h2, h3, h4, h5, h6, h7⟩ _
    refine wpIn_mono (hbody l v.b v.o v.y v.pre W h1 h2 h3 h4 h5 h6 h7) ?_
    rintro e a3 W3 hp
    cases e with
    | normal => exact ⟨hp.1, by rw [hT']; exact hp.2.1, hp.2.2, Nat.le_trans h5 hp.1.size⟩
    | ret => exact hp
    | exit id => exact hp
    | goto t => exact hp
    | panic ch => exact hp.elim
    | outgrown => exact hp.elim
  · intro l Rec RecX W1 hB1 hs1 hrec1 hrec hrecx hY
    have hlt : Bp < w.heap.size := by
      obtain ⟨ob, ho, -⟩ := cells_of_cell hBp
      exact (Array.getElem?_eq_some_iff.1 ho).1
    clear hbody hassign hdone hstop
    obtain ⟨A0, hA0⟩ : ∃ A0, W1.alloc (.cells #[.func (.yield l) #[] #[]] 98) = A0 := ⟨_, rfl⟩
    have hB0 : Below W1.heap.size W1 A0 := by rw [← hA0]; exact (Below.refl _ _).alloc (Nat.le_refl _) _
    have by0 : Boxed A0 W1.heap.size 98 (.func (.yield l) #[] #[]) := hA0 ▸ Boxed.new _ _ _
    have hs0 : A0.heap.size = W1.heap.size + 1 := by rw [← hA0]; simp
    have cp := (hB0.cell (p := ⟨Bp, 0, none⟩) (by have := hlt; show Bp < _; omega)).trans ((hB1.cell (p := ⟨Bp, 0, none⟩) hlt).trans hBp)
    have c0 := by0.cell
    refine callsIn_of_wp_marks Tryz.func145 rfl trivial ?_ rfl
    simp only [Tryz.ntmps145, List.size_toArray, List.length_cons, List.length_nil, Nat.reduceAdd, Nat.reduceSub, Array.replicate_succ, Array.replicate_zero, List.push_toArray, List.append_toArray, List.nil_append, List.cons_append]
    gi_wp2_with (refine ⟨trivial, hdd _, ?_⟩; gi_at_call 56; refine (nodesP_in _ _ _).mono ?_; rintro e w' ⟨rfl, rfl⟩)
    obtain ⟨A, hA⟩ : ∃ A, A0.alloc (.cells #[.pointer (some ⟨b0, o0, none⟩)] 84) = A := ⟨_, rfl⟩
    rw [hA]
    have hBA0 : Below A0.heap.size A0 A := by rw [← hA]; exact (Below.refl _ _).alloc (Nat.le_refl _) _
    have hsz : A.heap.size = w.heap.size + 4 := by rw [← hA]; simp; omega
    have hBA : Below w.heap.size w A := (hB1.trans (hB0.mono (by omega))).trans (hBA0.mono (by omega))
    have byA : Boxed A (w.heap.size + 2) 98 (.func (.yield l) #[] #[]) := by rw [← hs1, ← hA]; exact by0.alloc _
    have bpA : Boxed A (w.heap.size + 2 + 1) 84 (.pointer (some ⟨b0, o0, none⟩)) := by
      have := Boxed.new A0 84 (.pointer (some ⟨b0, o0, none⟩))
      rw [hA, hs0, hs1] at this
      exact this
    have hkA : KeepsTo w.heap.size (w.heap.size + 2) W1 A := (KeepsTo.of_below hB0 (by omega)).trans (KeepsTo.of_below hBA0 (by omega))
    clear hA hA0 cp c0 by0
    refine nodesP_fold (w.heap.size + 2 + 1) b0 o0 x T (fun pre W => J (usesOf pre) W ∧ Rec W ∧ Boxed W (w.heap.size + 2) 98 (.func (.yield l) #[] #[])) (fun c W => c = .ret ∧ ∃ c', Jx c' W ∧ RecX c' W)
      rfl rfl bpA.cell hsm (fun k hk => by have := hT k hk; omega) hb0 (hN.below hBA (hT _ hb0)) (hX.kept (Kp.of_below hBA hT)) ?_ ?_ ?_ ?_
      (fun d b o => { tmps := #[.func (.yield l) #[] #[], .pointer (some ⟨Bp, 0, none⟩), .pointer (some ⟨w.heap.size + 2, 0, none⟩), undef, .pointer (some ⟨b, o, none⟩), .pointer (some ⟨b0, o0, none⟩), .func (.func 107) #[] #[.pointer (some ⟨w.heap.size + 2 + 1, 0, none⟩)], .int .i64 d, .pointer (some ⟨b, o, none⟩), undef, undef, undef, undef, undef, undef, undef, undef, undef, undef, undef, undef, undef, undef, undef, undef, undef, undef, undef, undef, undef, undef, undef, undef, undef], defers := [] }) ?_ ?_ ?_ ?_
    · rintro pre W B hag ⟨j1, j2, j3⟩
      exact ⟨hJ _ _ _ (hag.mono (by omega)) j1, hrec _ _ (KeepsTo.of_ag hag (by omega)) j2, hag.boxed j3⟩
    · rintro pre W ⟨j1, j2, j3⟩
      exact ⟨hJd _ _ j1, hrec _ _ (KeepsTo.drew _ _ _) j2, j3⟩
    · rintro W hW
      exact ⟨h0 W (hBA.trans (hW.mono (by omega))), hrec _ _ (hkA.trans (KeepsTo.of_below hW (by omega))) hrec1, Boxed.kept_of byA hW (by omega)⟩
    · rintro c W B hag ⟨rfl, c', j1, j2⟩
      exact ⟨rfl, c', hJx _ _ _ (hag.mono (by omega)) j1, hrecx _ _ _ (KeepsTo.of_ag hag (by omega)) j2⟩
    · intro l' d b o W K hK
      gi_wp2
      simpa using hK
    · rintro l' d b o y pre W hb hn hx ⟨j1, j2, j3⟩ hs ⟨post, hpo⟩
      have c2 := j3.cell
      obtain ⟨d0, d1, d2, d3, d4, d5⟩ := hn
      have hn : NodeP W b o y := ⟨d0, d1, d2, d3, d4, d5⟩
      have hus : usesOf pre ++ usesOf ((d, y) :: post) = usesP x := by rw [← usesOf_app, hpo, usesOf_vis]
      rcases nmd_cases y.k with ⟨hk, hkk⟩ | ⟨hk, k1, k2, k3⟩
      · rw [usesOf_yes hk] at hus
        obtain ⟨fn, tmps, assign', body', hy, hR⟩ := hY 0 ⟨b, o, y, usesOf pre⟩ W ⟨hb, hn, hx, j1, by omega, ⟨_, hus⟩, hk⟩ j2
        replace hR := round_in l' (round_wide (m' := n - 1 - 1 - 1 - 1) hR)
        have YES : ∀ W3, Kp T' W W3 → J (usesOf pre ++ [y]) W3 → w.heap.size + 8 ≤ W3.heap.size → Rec W3 → KeepsFrom w.heap.size W W3 →
            KeepsFrom A.heap.size W W3 ∧ Kp (fun k => T k ∨ k = A.heap.size + 2 ∨ k = A.heap.size + 3) W W3 ∧ J (usesOf (pre ++ [(d, y)])) W3 ∧ Rec W3 ∧ Boxed W3 (w.heap.size + 2) 98 (.func (.yield l) #[] #[]) := fun W3 q1 q2 q3 q4 q5 => by
          refine ⟨keepsFrom_mono q5 (by omega), q1.mono fun k hk => ?_, ?_, q4, q1.boxed (by rw [hT']; exact .inr ⟨by omega, by omega⟩) j3⟩
          · rw [hT']
            rcases hk with hk | hk | hk
            · exact .inl hk
            · exact .inr ⟨by omega, by omega⟩
            · exact .inr ⟨by omega, by omega⟩
          · rw [usesOf_app, usesOf_yes hk]; exact q2
        clear hY hn hus hk
        rcases hkk with k1 | ⟨k1, k2⟩ | ⟨k1, k2, k3⟩
        · gi_wp2_with (first
            | ((try refine ⟨hdd _, ?_⟩); refine hR.mono ?_; clear hR; rintro e W3 (⟨rfl, ⟨q1, q2, q3⟩, q4, q5⟩ | ⟨rfl, c, q1, q2, q3⟩)))
          · exact YES W3 q1 q2 q3 q4 q5
          · exact ⟨keepsFrom_mono q3 (by omega), rfl, c, q1, q2⟩
        · gi_wp2_with (first
            | ((try refine ⟨hdd _, ?_⟩); refine hR.mono ?_; clear hR; rintro e W3 (⟨rfl, ⟨q1, q2, q3⟩, q4, q5⟩ | ⟨rfl, c, q1, q2, q3⟩)))
          · exact YES W3 q1 q2 q3 q4 q5
          · exact ⟨keepsFrom_mono q3 (by omega), rfl, c, q1, q2⟩
        · gi_wp2_with (first
            | ((try refine ⟨hdd _, ?_⟩); refine hR.mono ?_; clear hR; rintro e W3 (⟨rfl, ⟨q1, q2, q3⟩, q4, q5⟩ | ⟨rfl, c, q1, q2, q3⟩)))
          · exact YES W3 q1 q2 q3 q4 q5
          · exact ⟨keepsFrom_mono q3 (by omega), rfl, c, q1, q2⟩
      · clear hY
        have NO : KeepsFrom A.heap.size W W ∧ Kp (fun k => T k ∨ k = A.heap.size + 2 ∨ k = A.heap.size + 3) W W ∧ J (usesOf (pre ++ [(d, y)])) W ∧ Rec W ∧ Boxed W (w.heap.size + 2) 98 (.func (.yield l) #[] #[]) :=
          ⟨KeepsFrom.refl _ _, Kp.refl _ _, by rw [usesOf_app, usesOf_no hk]; simpa [usesOf] using j1, j2, j3⟩
        clear hus hk
        gi_wp2
        refine ⟨fun f h => (by cases h), ?_⟩
        gi_wp2
        exact NO
    · rintro D W hD ⟨j1, j2, j3⟩ hK
      rw [usesOf_vis] at j1
      have hag : Ag w.heap.size W (W.putObj D (.deferred none)) := Ag.putObj (by omega) hK rfl rfl
      have hkt : KeepsTo w.heap.size (w.heap.size + 2) W (W.putObj D (.deferred none)) := fun k o h1 h2 h3 _ => (World.putObj_heap_other (by omega)).trans h3
      gi_wp2
      refine ⟨by simp, .inl ⟨_, _, rfl, run_takeDeferred hK, ?_⟩⟩
      exact ⟨_, results_none rfl _ _ _, ⟨_, rfl⟩, .inl ⟨hJ _ _ _ hag j1, hrec _ _ hkt j2⟩⟩
    · rintro D c W hD ⟨rfl, c', j1, j2⟩ hK
      have hag : Ag w.heap.size W (W.putObj D (.deferred none)) := Ag.putObj (by omega) hK rfl rfl
      have hkt : KeepsTo w.heap.size (w.heap.size + 2) W (W.putObj D (.deferred none)) := fun k o h1 h2 h3 _ => (World.putObj_heap_other (by omega)).trans h3
      gi_wp2
      refine ⟨by simp, .inl ⟨_, _, rfl, run_takeDeferred hK, ?_⟩⟩
      exact ⟨_, results_none rfl _ _ _, ⟨_, rfl⟩, .inr ⟨c', hJx _ _ _ hag j1, hrecx _ _ _ hkt j2⟩⟩
end Go.Proofs.YtkfpgkohkhhlhaaGreatDoor
namespace Go.Proofs.YtkfpgkohkhhlhaaGreatDoor
open Go.RowKit

/-- May a PNot stand at place i among the parts? -/
def notB (x : Pt) (whole : Bool) (i : Nat) : Bool := !((x.c i).k == 6) || (x.k == 2 && (!(i == 0) && (!((x.c (i - 1)).k == 6) && (!(i + 1 == x.n) || whole))))
def betweenB (x : Pt) (whole : Bool) : Bool := allN (notB x whole) x.n
/-- No Var stands in two parts. -/
def Apart (x : Pt) : Prop := ∀ i j, i < j → j < x.n → ∀ a ∈ usesP (x.c i), ∀ b ∈ usesP (x.c j), a.s ≠ b.s
/-- Two nodes with one Var that may stand in parts of a POr. -/
def Agree (a b : Pt) : Prop := a.t = b.t ∧ (a.k = 6 ↔ b.k = 6)
def AlikeP (x : Pt) : Prop := ∀ a ∈ usesP x, ∀ b ∈ usesP x, a.s = b.s → Agree a b
/-- Well made, as pat.Made asks. -/
def MadeP (x : Pt) : Prop := x.k ≠ 6 ∧ AlikeP x ∧ ∀ v ∈ visP 1 x, betweenB v.2 (v.1 == 1) = true ∧ (v.2.k = 4 ∨ Apart v.2)
/-- One more name, if it is new. -/
def addU (l : List Pt) (y : Pt) : List Pt := if l.any (fun z => decide (z.s = y.s)) = true then l else l ++ [y]
/-- The nodes where names stand first. -/
def firstL (l : List Pt) : List Pt := l.foldl addU []
theorem firstL_snoc (l : List Pt) (y : Pt) : firstL (l ++ [y]) = addU (firstL l) y := by simp [firstL]
/-- A name's place among them. -/
def idxF (l : List Pt) (s : ByteArray) : Option Nat := l.findIdx? (fun y => decide (y.s = s))
theorem idxF_some {l : List Pt} {s : ByteArray} {i : Nat} (h : idxF l s = some i) : ∃ y, l[i]? = some y ∧ y.s = s := by
  unfold idxF at h
  obtain ⟨hl, h1, _⟩ := List.findIdx?_eq_some_iff_getElem.1 h
  exact ⟨l[i], List.getElem?_eq_getElem hl, by simpa using h1⟩
theorem idxF_none {l : List Pt} {s : ByteArray} : idxF l s = none ↔ ∀ y ∈ l, y.s ≠ s := by
  unfold idxF
  rw [List.findIdx?_eq_none_iff]
  constructor
  · intro h y hy e; have := h y hy; simp [e] at this
  · intro h y hy; simpa using h y hy
theorem addU_some {l : List Pt} {y : Pt} {i : Nat} (h : idxF l y.s = some i) : addU l y = l := by
  obtain ⟨z, hz, e⟩ := idxF_some h
  unfold addU
  rw [if_pos (List.any_eq_true.2 ⟨z, List.mem_of_getElem? hz, by simp [e]⟩)]
theorem addU_none {l : List Pt} {y : Pt} (h : idxF l y.s = none) : addU l y = l ++ [y] := by
  unfold addU
  rw [if_neg]
  intro e
  obtain ⟨z, hz, q⟩ := List.any_eq_true.1 e
  exact (idxF_none.1 h) z hz (by simpa using q)
theorem idxF_snoc {l : List Pt} {y : Pt} (h : idxF l y.s = none) (s : ByteArray) : idxF (l ++ [y]) s = if s = y.s then some l.length else idxF l s := by
  by_cases e : s = y.s
  · rw [if_pos e, e]
    unfold idxF at h ⊢
    rw [List.findIdx?_append, h]
    simp [List.findIdx?_cons]
  · rw [if_neg e]
    unfold idxF
    rw [List.findIdx?_append]
    have : ([y] : List Pt).findIdx? (fun z => decide (z.s = s)) = none := by
      simp [List.findIdx?_cons, show ¬ y.s = s from fun q => e q.symm]
    rw [this]
    simp
theorem mem_firstL : ∀ {l : List Pt} {y : Pt}, y ∈ firstL l → y ∈ l := by
  have key : ∀ (l acc : List Pt) (y : Pt), y ∈ l.foldl addU acc → y ∈ acc ∨ y ∈ l := by
    intro l
    induction l with
    | nil => intro acc y h; exact .inl h
    | cons z l ih =>
      intro acc y h
      rcases ih (addU acc z) y h with h | h
      · unfold addU at h
        split at h
        · exact .inl h
        · rcases List.mem_append.1 h with h | h
          · exact .inl h
          · rw [List.mem_singleton] at h; exact .inr (by rw [h]; simp)
      · exact .inr (List.mem_cons_of_mem _ h)
  intro l y h
  rcases key l [] y h with h | h
  · simp at h
  · exact h
theorem firstL_has : ∀ {l : List Pt} {y : Pt}, y ∈ l → ∃ z ∈ firstL l, z.s = y.s := by
  have mono : ∀ (l acc : List Pt) (z : Pt), z ∈ acc → z ∈ l.foldl addU acc := by
    intro l
    induction l with
    | nil => intro acc z h; exact h
    | cons u l ih =>
      intro acc z h
      refine ih _ z ?_
      unfold addU
      split
      · exact h
      · exact List.mem_append_left _ h
  have key : ∀ (l acc : List Pt) (y : Pt), y ∈ l → ∃ z ∈ l.foldl addU acc, z.s = y.s := by
    intro l
    induction l with
    | nil => intro acc y h; simp at h
    | cons u l ih =>
      intro acc y h
      rcases List.mem_cons.1 h with rfl | h
      · by_cases e : acc.any (fun z => decide (z.s = y.s)) = true
        · obtain ⟨z, hz, q⟩ := List.any_eq_true.1 e
          refine ⟨z, mono l _ z ?_, by simpa using q⟩
          unfold addU
          rw [if_pos e]
          exact hz
        · refine ⟨y, mono l _ y ?_, rfl⟩
          unfold addU
          rw [if_neg e]
          simp
      · exact ih _ y h
  intro l y h
  exact key l [] y h
theorem length_firstL : ∀ l : List Pt, (firstL l).length ≤ l.length := by
  have key : ∀ (l acc : List Pt), (l.foldl addU acc).length ≤ acc.length + l.length := by
    intro l
    induction l with
    | nil => intro acc; simp
    | cons u l ih =>
      intro acc
      have := ih (addU acc u)
      have h2 : (addU acc u).length ≤ acc.length + 1 := by unfold addU; split <;> simp
      simp only [List.foldl_cons, List.length_cons]
      omega
  intro l
  simpa [firstL] using key l []
theorem length_uses (x : Pt) : (usesP x).length ≤ x.size := by
  rw [← uses_visP x 1, List.length_map, ← length_visP x 1]
  exact List.length_filter_le _ _
/-- All uses agree just where each agrees with the first of its name. -/
theorem alike_first {x : Pt} : AlikeP x ↔ ∀ a ∈ usesP x, ∀ f ∈ firstL (usesP x), f.s = a.s → Agree a f := by
  constructor
  · intro h a ha f hf e
    exact h a ha f (mem_firstL hf) e.symm
  · intro h a ha b hb e
    obtain ⟨f, hf, q⟩ := firstL_has ha
    have h1 := h a ha f hf q
    have h2 := h b hb f hf (q.trans e)
    exact ⟨h1.1.trans h2.1.symm, h1.2.trans h2.2.symm⟩
end Go.Proofs.YtkfpgkohkhhlhaaGreatDoor
namespace Go.Proofs.YtkfpgkohkhhlhaaGreatDoor
open Go.RowKit

/-- Nothing is deferred in it. -/
def calmB (l : List Oper) : Bool := l.all fun o => match o.op with | .defer _ => false | _ => true
theorem calm_at {l : List Oper} (h : calmB l = true) {i : Nat} {o : Oper} (ho : l.toArray[i]? = some o) (c : Call) : o.op ≠ .defer c := fun e => by
  have hm : o ∈ l := by
    have : l[i]? = some o := by simpa using ho
    exact List.mem_of_getElem? this
  have := List.all_eq_true.1 h o hm
  rw [e] at this
  cases this
theorem wpAnyIn_round {n : Nat} {P : Program} {md : Region.Mode} {l : List Oper} {Q : Exit → Act → World → Prop} (r : Nat) (hc : calmB l = true) : ∀ (fuel : Nat) (listed : Array Bool) (a : Act) (w : World),
    wpAnyIn Fence.wide n P md l.toArray Q fuel listed a w → wpAnyIn (Fence.wide.inRound r) n P md l.toArray Q fuel listed a w
  | 0, _, _, _, h => h
  | fuel + 1, listed, a, w, h => by
    refine ⟨h.1, fun i hi => ?_⟩
    have h2 := h.2 i hi
    unfold wpOpIn at h2 ⊢
    cases ho : l.toArray[i]? with
    | none =>
      rw [ho] at h2
      exact wpAnyIn_round r hc fuel _ a w h2
    | some o =>
      rw [ho] at h2
      simp only at h2 ⊢
      split
      · rename_i hw
        rw [if_pos hw] at h2
        have h3 := Oper.wpIn_mono (fun a' w' => wpAnyIn_round r hc fuel _ a' w') h2
        unfold Oper.wpIn at h3 ⊢
        rw [Oper.semAt_eq _ _ _ (calm_at hc ho)] at h3 ⊢
        exact h3
      · rename_i hw
        rw [if_neg hw] at h2
        exact ⟨h2.1, wpAnyIn_round r hc fuel _ _ w h2.2⟩
/-- A region of reads inside a round. -/
theorem wpIn_region_round {n id r : Nat} {P : Program} {Q : Exit → Act → World → Prop} {a : Act} {w : World} {l : List Oper} (hm : P.follows .mixedOrders = true) (hB : Region.lexB .any l.toArray = true) (hc : calmB l = true)
    (h : wpQuietIn Fence.wide n P l.toArray (fun w' => ∃ n, w' = w.drewN n) (fun a' => ∀ w', (∃ n, w' = w.drewN n) → Q .normal a' w') l a) : (Code.region id l.toArray true).wpIn (Fence.wide.inRound r) n P Q a w := by
  simp only [Region.lexB, Bool.and_eq_true] at hB
  refine wpIn_region_any hm (wpAnyIn_round r hc _ _ _ _ (wpAnyIn_of_quiet (C := fun w' => ∃ n, w' = w.drewN n) (Q := fun a' => ∀ w', (∃ n, w' = w.drewN n) → Q .normal a' w') rfl (fun _ w' hw' h => h w' hw') _ _ _ _ ⟨1, rfl⟩ ?_))
  have := wpAnyQIn_lex (F := Fence.wide) (n := n) (C := fun w' => ∃ n, w' = w.drewN n) (md := .any) hB.1 l 0 (Array.replicate l.toArray.size false) a (by simp) (by simpa using hB.2) h
  simpa using this
end Go.Proofs.YtkfpgkohkhhlhaaGreatDoor
namespace Go.Proofs.YtkfpgkohkhhlhaaGreatDoor
open Go.RowKit

/-- No call but of len, no defer, no select, and no guard. -/
def plainB (o : Oper) : Bool := o.guard.isNone && (match o.op with | .call c => (match c.callee with | .builtin .len => true | _ => false) | .defer _ => false | .select _ _ => false | _ => true)
/-- Each reads what another writes behind it alone. -/
def seesB (ops : List Oper) (o : Oper) : Bool :=
  o.op.operands.toList.all fun x => match x with
    | .tmp t => (List.range ops.length).all fun k => match ops[k]? with
      | some o' => !decide (o'.dst = some t) || o.after.toList.any fun e => Region.binds .any e && decide (e.on = k)
      | none => true
    | _ => true
/-- What is asked of such a region: plain operations, edges that lead back, the last one behind all. -/
def readsB (ops : List Oper) (last : Nat) : Bool :=
  (List.range ops.length).all fun j => match ops[j]? with
    | none => true
    | some o => plainB o && seesB ops o && (o.after.toList.all fun e => decide (e.on < j)) &&
        (if j = last then o.dst.isNone && (List.range ops.length).all fun k => decide (k = last) || o.after.toList.any fun e => Region.binds .any e && decide (e.on = k) else o.dst.isSome)
/-- Each read's value is what stands at its temporary. -/
def Reads (P : Program) (full : Array Value) (w : World) : List Oper → Prop
  | [] => True
  | o :: l => (∃ d v, o.dst = some d ∧ full[d]? = some v ∧ (execOp (Act.mk full []).eval o).run P w = .ok (.value v) w) ∧ Reads P full w l
theorem reads_at {P : Program} {full : Array Value} {w : World} : ∀ {l : List Oper} {j : Nat} {o : Oper}, Reads P full w l → l[j]? = some o → ∃ d v, o.dst = some d ∧ full[d]? = some v ∧ (execOp (Act.mk full []).eval o).run P w = .ok (.value v) w
  | [], j, o, _, h => by simp at h
  | x :: l, 0, o, hr, h => by cases h; exact hr.1
  | x :: l, j + 1, o, hr, h => reads_at hr.2 (by simpa using h)
theorem plain_about {o : Oper} (h : plainB o = true) (P : Program) (w : World) (ρ : Operand → Value) : o.about P w ρ = none := by
  unfold plainB at h
  unfold Oper.about
  cases ho : o.op with
  | call c =>
    simp only [ho, Bool.and_eq_true] at h
    obtain ⟨_, h⟩ := h
    cases hc : c.callee with
    | builtin b => simp [resolve, hc, Target.leads]
    | _ => rw [hc] at h; cases h
  | _ => rfl
theorem plain_defer {o : Oper} (h : plainB o = true) (c : Call) : o.op ≠ .defer c := fun e => by simp [plainB, e] at h
theorem plain_select {o : Oper} (h : plainB o = true) (cs : Array SelectCase) (b : Bool) : o.op ≠ .select cs b := fun e => by simp [plainB, e] at h
theorem plain_guard {o : Oper} (h : plainB o = true) : o.guard = none := by
  simp only [plainB, Bool.and_eq_true, Option.isNone_iff_eq_none] at h
  exact h.1

section
variable {F : Fence} {n : Nat} {P : Program} {l : List Oper} {Q : Exit → Act → World → Prop} {w w1 : World} {full : Array Value} {ds : List Deferred} {last : Nat} {ol : Oper}
theorem readsB_at (h : readsB l last = true) {j : Nat} {o : Oper} (ho : l[j]? = some o) : plainB o = true ∧ seesB l o = true ∧ (∀ e ∈ o.after, e.on < j) ∧
    (j = last → o.dst = none ∧ ∀ k, k < l.length → k ≠ last → ∃ e ∈ o.after, Region.binds .any e = true ∧ e.on = k) := by
  have hj : j < l.length := (List.getElem?_eq_some_iff.1 ho).1
  have := List.all_eq_true.1 h j (List.mem_range.2 hj)
  simp only [ho, Bool.and_eq_true] at this
  obtain ⟨⟨⟨h1, h2⟩, h3⟩, h4⟩ := this
  refine ⟨h1, h2, fun e he => by simpa using List.all_eq_true.1 h3 e (by simpa using he), fun e => ?_⟩
  rw [if_pos e] at h4
  simp only [Bool.and_eq_true, Option.isNone_iff_eq_none] at h4
  refine ⟨h4.1, fun k hk hne => ?_⟩
  have h5 := List.all_eq_true.1 h4.2 k (List.mem_range.2 hk)
  simp only [Bool.or_eq_true, decide_eq_true_eq, hne, false_or, List.any_eq_true, Bool.and_eq_true] at h5
  obtain ⟨e, he, h6, h7⟩ := h5
  exact ⟨e, by simpa using he, h6, h7⟩
/-- How far the reads have come. -/
def Come (l : List Oper) (full : Array Value) (ds : List Deferred) (last : Nat) (listed : Array Bool) (a : Act) : Prop :=
  listed.size = l.length ∧ listed.getD last true = false ∧ (a.tmps.size = full.size ∧ a.defers = ds) ∧ ∀ t, (∀ k o, l[k]? = some o → o.dst = some t → listed.getD k false = true) → a.tmps.getD t undef = full.getD t undef
theorem come_eval {listed : Array Bool} {a : Act} (hc : Come l full ds last listed a) {o : Oper} (hp : plainB o = true) (hs : seesB l o = true) (hd : ∀ e ∈ o.after, Region.binds .any e = true → listed.getD e.on false = true) : execOp a.eval o = execOp (Act.mk full []).eval o := by
  refine execOp_congr o (plain_select hp) fun x hx => ?_
  cases x with
  | tmp t =>
    show a.tmps.getD t undef = full.getD t undef
    refine hc.2.2.2 t fun k o' hk ht => ?_
    have h1 := List.all_eq_true.1 hs (.tmp t) (by simpa using hx)
    have h2 := List.all_eq_true.1 h1 k (List.mem_range.2 (List.getElem?_eq_some_iff.1 hk).1)
    simp only [hk, ht, decide_true, Bool.not_true, Bool.false_or, List.any_eq_true, Bool.and_eq_true, decide_eq_true_eq] at h2
    obtain ⟨e, he, h3, rfl⟩ := h2
    exact hd e (by simpa using he) h3
  | const v => rfl
  | global g => rfl
  | func f => rfl
theorem some_ready (hB : readsB l last = true) {listed : Array Bool} (hs : listed.size = l.length) : ∀ j, j < l.length → listed.getD j true = false → ∃ i, i ∈ Region.ready .any l.toArray listed := by
  intro j
  induction j using Nat.strongRecOn with
  | ind j ih =>
    intro hj hun
    obtain ⟨o, ho⟩ : ∃ o, l[j]? = some o := ⟨_, List.getElem?_eq_getElem hj⟩
    obtain ⟨_, _, hback, _⟩ := readsB_at hB ho
    by_cases hall : ∀ e ∈ o.after, Region.binds .any e = true → listed.getD e.on false = true
    · exact ⟨j, mem_ready.2 ⟨hun, o, by simpa using ho, hall⟩⟩
    · simp only [Classical.not_forall] at hall
      obtain ⟨e, he, hb, hne⟩ := hall
      refine ih e.on (hback e he) (by have := hback e he; omega) ?_
      have hlt : e.on < listed.size := by have := hback e he; omega
      simp only [Array.getD_eq_getD_getElem?, Array.getElem?_eq_getElem hlt, Option.getD_some] at hne ⊢
      simpa using hne
theorem wpAnyIn_reads (hB : readsB l last = true) (hl : l[last]? = some ol) (hR : Reads P full w (l.take last)) (hlen : l.length = last + 1) (hw : (execOp (Act.mk full []).eval ol).run P w = .ok .skip w1) (hQ : Q .normal (Act.mk full ds) w1) :
    ∀ (fuel : Nat) (listed : Array Bool) (a : Act), listed.toList.count false ≤ fuel → Come l full ds last listed a → wpAnyIn F n P .any l.toArray Q fuel listed a w := by
  have hlast : last < l.length := (List.getElem?_eq_some_iff.1 hl).1
  intro fuel
  induction fuel with
  | zero =>
    intro listed a hf hc
    have hlt : last < listed.size := by rw [hc.1]; exact hlast
    have h1 := hc.2.1
    simp only [Array.getD_eq_getD_getElem?, Array.getElem?_eq_getElem hlt, Option.getD_some] at h1
    have : 0 < listed.toList.count false := List.count_pos_iff.2 (by rw [← h1]; simp)
    omega
  | succ fuel ih =>
    intro listed a hf hc
    refine ⟨fun h => ?_, fun i hi => ?_⟩
    · obtain ⟨i, hi⟩ := some_ready hB hc.1 last hlast hc.2.1
      rw [h] at hi
      cases hi
    · obtain ⟨hun, o, ho, hd⟩ := mem_ready.1 hi
      have ho' : l[i]? = some o := by simpa using ho
      have hil : i < l.length := (List.getElem?_eq_some_iff.1 ho').1
      have hilt : i < listed.size := by rw [hc.1]; exact hil
      obtain ⟨hp, hs, hback, hend⟩ := readsB_at hB ho'
      have he := come_eval hc hp hs hd
      have hcnt : (listed.setIfInBounds i true).toList.count false ≤ fuel := by
        have h1 := hun
        simp only [Array.getD_eq_getD_getElem?, Array.getElem?_eq_getElem hilt, Option.getD_some] at h1
        have h2 : listed.toList[i]'(by simpa using hilt) = false := by simpa using h1
        have h3 : (listed.setIfInBounds i true).toList.count false = listed.toList.count false - 1 := by
          rw [Array.toList_setIfInBounds, List.count_set (by simpa using hilt), h2]
          rfl
        omega
      unfold wpOpIn
      rw [ho]
      simp only [Region.wanted, plain_guard hp, if_true]
      unfold Oper.wpIn
      refine ⟨fun f hf => (by rw [plain_about hp] at hf; cases hf), ?_⟩
      rw [Oper.semAt_eq _ _ _ (plain_defer hp), he]
      by_cases hil' : i = last
      · subst hil'
        obtain rfl : o = ol := Option.some.inj (ho'.symm.trans hl)
        obtain ⟨hdst, hal⟩ := hend rfl
        rw [hw]
        show wpAnyIn F n P .any l.toArray Q fuel (listed.setIfInBounds i true) (a.put o.dst undef) w1
        have hfull : a.put o.dst undef = Act.mk full ds := by
          rw [hdst]
          have e1 : a.tmps = full := by
            refine Array.ext hc.2.2.1.1 fun t h1 h2 => ?_
            have h3 := hc.2.2.2 t fun k o' hk hkt => by
              by_cases hki : k = i
              · subst hki
                rw [ho'] at hk
                cases hk
                rw [hdst] at hkt
                cases hkt
              · obtain ⟨e, he1, he2, rfl⟩ := hal k (List.getElem?_eq_some_iff.1 hk).1 hki
                exact hd e he1 he2
            rw [Array.getD_eq_getD_getElem?, Array.getD_eq_getD_getElem?, Array.getElem?_eq_getElem h1, Array.getElem?_eq_getElem h2] at h3
            exact h3
          show a = _
          cases a
          simp only at e1
          have e2 := hc.2.2.1.2
          simp only at e2
          rw [e1, e2]
        rw [hfull]
        refine wpAnyIn_done ?_ hQ fuel
        refine List.eq_nil_iff_forall_not_mem.2 fun j hj => ?_
        obtain ⟨hjun, oj, hoj, _⟩ := mem_ready.1 hj
        have hjl : j < l.length := by have : l[j]? = some oj := by simpa using hoj
                                      exact (List.getElem?_eq_some_iff.1 this).1
        by_cases hji : j = i
        · subst hji
          simp [Array.getD_eq_getD_getElem?, hilt] at hjun
        · obtain ⟨e, he1, he2, rfl⟩ := hal j hjl hji
          have h1 := hd e he1 he2
          have hjlt : e.on < listed.size := by rw [hc.1]; exact hjl
          rw [Array.getD_eq_getD_getElem?, Array.getElem?_setIfInBounds_ne (fun q => hji q.symm), Array.getElem?_eq_getElem hjlt] at hjun
          rw [Array.getD_eq_getD_getElem?, Array.getElem?_eq_getElem hjlt] at h1
          simp at h1 hjun
          rw [h1] at hjun
          cases hjun
      · obtain ⟨d, v, hdst, hfd, hrun⟩ := reads_at hR (j := i) (o := o) (by rw [List.getElem?_take_of_lt (by omega)]; exact ho')
        rw [hrun]
        show wpAnyIn F n P .any l.toArray Q fuel (listed.setIfInBounds i true) (a.put o.dst v) w
        refine ih _ _ hcnt ⟨by simp [hc.1], ?_, ?_, fun t ht => ?_⟩
        · have := hc.2.1
          rw [Array.getD_eq_getD_getElem?] at this ⊢
          rw [Array.getElem?_setIfInBounds_ne hil']
          exact this
        · rw [hdst]
          exact ⟨by simp [Act.put, hc.2.2.1.1], hc.2.2.1.2⟩
        · rw [hdst]
          simp only [Act.put]
          have hdl : d < full.size := (Array.getElem?_eq_some_iff.1 hfd).1
          by_cases htd : t = d
          · subst htd
            rw [Array.getD_eq_getD_getElem?, Array.getD_eq_getD_getElem?, hfd, Array.getElem?_setIfInBounds_self_of_lt (by rw [hc.2.2.1.1]; exact hdl)]
          · rw [Array.getD_eq_getD_getElem?, Array.getElem?_setIfInBounds_ne (fun q => htd q.symm), ← Array.getD_eq_getD_getElem?]
            refine hc.2.2.2 t fun k o' hk hkt => ?_
            have h1 := ht k o' hk hkt
            have hki : k ≠ i := fun q => by
              subst q
              rw [ho'] at hk
              cases hk
              rw [hdst] at hkt
              cases hkt
              exact htd rfl
            rw [Array.getD_eq_getD_getElem?, Array.getElem?_setIfInBounds_ne (fun q => hki q.symm), ← Array.getD_eq_getD_getElem?] at h1
            exact h1
/-- Some temporaries written. -/
def puts (ts : Array Value) : List (Tmp × Value) → Array Value
  | [] => ts
  | p :: r => puts (ts.setIfInBounds p.1 p.2) r
theorem puts_size : ∀ (r : List (Tmp × Value)) (ts : Array Value), (puts ts r).size = ts.size
  | [], _ => rfl
  | p :: r, ts => by rw [puts, puts_size r]; simp
theorem puts_other (t : Tmp) : ∀ (r : List (Tmp × Value)) (ts : Array Value), (∀ p ∈ r, p.1 ≠ t) → (puts ts r).getD t undef = ts.getD t undef
  | [], _, _ => rfl
  | p :: r, ts, h => by
    rw [puts, puts_other t r _ fun q hq => h q (List.mem_cons_of_mem _ hq)]
    rw [Array.getD_eq_getD_getElem?, Array.getElem?_setIfInBounds_ne (h p List.mem_cons_self), ← Array.getD_eq_getD_getElem?]
/-- A region of reads, in any order, and one write behind them. vals: what each read puts where. -/
theorem wpIn_region_reads {id : Nat} {a : Act} (last : Nat) (vals : List (Tmp × Value)) (full : Array Value) {ol : Oper} (hm : P.follows .mixedOrders = true) (hB : readsB l last = true) (hl : l[last]? = some ol) (hlen : l.length = last + 1)
    (hd : (vals.all fun p => l.any fun o => decide (o.dst = some p.1)) = true) (hf : puts a.tmps vals = full) (hR : Reads P full w.drew (l.take last)) (hw : (execOp (Act.mk full []).eval ol).run P w.drew = .ok .skip w1) (hQ : Q .normal (Act.mk full a.defers) w1) :
    (Code.region id l.toArray true).wpIn F n P Q a w := by
  subst hf
  refine wpIn_region_any hm ?_
  refine wpAnyIn_reads (w := w.drew) hB hl hR hlen hw hQ _ _ a ?_ ⟨by simp, by simp [Array.getD_eq_getD_getElem?, hlen], ⟨(puts_size _ _).symm, rfl⟩, fun t ht => (puts_other t vals a.tmps fun p hp e => ?_).symm⟩
  · simp
  · have h1 := List.all_eq_true.1 hd p hp
    obtain ⟨o, ho, h2⟩ := List.any_eq_true.1 h1
    obtain ⟨k, hk, rfl⟩ := List.mem_iff_getElem.1 ho
    have := ht k _ (List.getElem?_eq_getElem hk) (by rw [← e]; simpa using h2)
    simp [Array.getD_eq_getD_getElem?, Array.getElem?_replicate] at this
    split at this <;> cases this
end
end Go.Proofs.YtkfpgkohkhhlhaaGreatDoor
