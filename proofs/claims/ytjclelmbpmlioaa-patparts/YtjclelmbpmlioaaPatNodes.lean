/-
  expr.nodes: a range over all nodes of a pattern that changes none of them.
-/
import Derived.Test.YtjclelmbpmlioaaPatDown
import Derived.Laws.EntriesVeiled
namespace Go.Proofs.Ytjclelmbpmlioaa
open Go.RowKit Go.Shelf
attribute [local go_sem] Oper.semAt_some

set_option maxRecDepth 100000 in
set_option maxHeartbeats 1000000 in
theorem nodesP_in (n : Nat) (p : Option Addr) (w : World) :
    CallsIn Fence.wide n Try.prog 27 #[.pointer p] w fun e w' => e = .returned (.func (.func 44) #[] #[.pointer (some ⟨w.heap.size, 0, none⟩)]) ∧ w' = w.alloc (.cells #[.pointer p] 55) := by
  refine callsIn_of_wp Try.func27 rfl trivial ?_ rfl
  simp only [Try.ntmps27, List.size_toArray, List.length_cons, List.length_nil, Nat.reduceAdd, Nat.reduceSub, Array.replicate_succ, Array.replicate_zero, List.push_toArray, List.append_toArray, List.nil_append, List.cons_append]
  gi_wp2
  go_ret
  exact ⟨rfl, rfl⟩

set_option maxRecDepth 100000 in
set_option maxHeartbeats 2000000 in
/-- The function that expr.nodes hands back: it lays yield and the closure in boxes of their own, and goes down. -/
theorem nodesP1_in (n l Bp b o : Nat) (W : World) (R : Ending → World → Prop) (hBp : W.cell? ⟨Bp, 0, none⟩ = some (.pointer (some ⟨b, o, none⟩)))
    (hdown : ∀ W2, Boxed W2 W.heap.size 79 (.func (.yield l) #[] #[]) → Boxed W2 (W.heap.size + 1) 79 (downPV W.heap.size (W.heap.size + 1)) → Below W.heap.size W W2 → W2.heap.size = W.heap.size + 2 →
      CallsIn Fence.wide (n - 1) Try.prog 45 #[.int .i64 1, .pointer (some ⟨b, o, none⟩), .pointer (some ⟨W.heap.size, 0, none⟩), .pointer (some ⟨W.heap.size + 1, 0, none⟩)] W2 fun e W' => ∃ r, e = .returned (.bool r) ∧ R (.returned (.bool r)) W') :
    CallsIn Fence.wide n Try.prog 44 #[.func (.yield l) #[] #[], .pointer (some ⟨Bp, 0, none⟩)] W fun e W' => (∃ v, e = .returned v) ∧ ∃ r, R (.returned (.bool r)) W' := by
  have hdd : ∀ k : Nat, (Fence.wide.depth.isSome = true → 1 ≤ k) := fun k h => by cases h
  have h1 : Boxed (W.alloc (.cells #[.func (.yield l) #[] #[]] 79)) W.heap.size 79 (.func (.yield l) #[] #[]) := Boxed.new _ _ _
  have hlt : Bp < W.heap.size := by
    obtain ⟨ob, ho, -⟩ := cells_of_cell hBp
    exact (Array.getElem?_eq_some_iff.1 ho).1
  obtain ⟨A, hA⟩ : ∃ A, (W.alloc (.cells #[.func (.yield l) #[] #[]] 79)).alloc (.cells #[.nilFunc] 79) = A := ⟨_, rfl⟩
  have b1 : Boxed A W.heap.size 79 (.func (.yield l) #[] #[]) := hA ▸ h1.alloc _
  have b2 : Boxed A (W.heap.size + 1) 79 .nilFunc := by
    have := Boxed.new (W.alloc (.cells #[.func (.yield l) #[] #[]] 79)) 79 .nilFunc
    rw [World.size_alloc, hA] at this
    exact this
  have hB : Below W.heap.size W A := by rw [← hA]; exact ((Below.refl _ W).alloc (Nat.le_refl _) _).alloc (by simp) _
  have hsz : A.heap.size = W.heap.size + 2 := by rw [← hA]; simp
  have c2 := b2.cell
  have f2 := b2.frozen
  have b3 := b2.set (downPV W.heap.size (W.heap.size + 1))
  have b4 := b1.other (show W.heap.size ≠ W.heap.size + 1 by omega) (downPV W.heap.size (W.heap.size + 1))
  have hB3 : Below W.heap.size W (A.setCell ⟨W.heap.size + 1, 0, none⟩ (downPV W.heap.size (W.heap.size + 1))) := hB.setCell (p := ⟨W.heap.size + 1, 0, none⟩) (by simp) _
  have c3 := b3.cell
  have cp := (hB3.cell (p := ⟨Bp, 0, none⟩) hlt).trans hBp
  have hd := hdown _ b4 b3 hB3 (by rw [World.size_setCell]; exact hsz)
  clear hdown
  refine callsIn_of_wp Try.func44 rfl trivial ?_ rfl
  simp only [Try.ntmps44, List.size_toArray, List.length_cons, List.length_nil, Nat.reduceAdd, Nat.reduceSub, Array.replicate_succ, Array.replicate_zero, List.push_toArray, List.append_toArray, List.nil_append, List.cons_append]
  gi_wp2_with (refine ⟨trivial, hdd _, ?_⟩; gi_at_call 45; refine hd.mono ?_; rintro e W3 ⟨r, rfl, hr⟩)
  go_end0
  exact ⟨⟨_, rfl⟩, _, hr⟩
theorem NodeP.kept {T : Nat → Prop} {W W' : World} (h : Kp T W W') {b o : Nat} {x : Pt} (hb : T b) (hn : NodeP W b o x) : NodeP W' b o x :=
  ⟨h.cell (p := ⟨b, o, none⟩) hb hn.1, h.cell (p := ⟨b, o + 1, none⟩) hb hn.2.1, h.cell (p := ⟨b, o + 2, none⟩) hb hn.2.2.1, h.cell (p := ⟨b, o + 3, none⟩) hb hn.2.2.2.1, h.cell (p := ⟨b, o + 4, none⟩) hb hn.2.2.2.2.1, h.cell (p := ⟨b, o + 5, none⟩) hb hn.2.2.2.2.2⟩
theorem NodeP.ag {B : Nat} {W A : World} (h : Ag B W A) {b o : Nat} {x : Pt} (hn : NodeP W b o x) : NodeP A b o x := hn.of fun _ _ => h.cell _
/-- A pattern whose parts lie in such blocks. -/
def PT (T : Nat → Prop) (w : World) : Pt → Prop
  | .nil => True
  | .mk _ _ _ _ _ a n cap c => n ≤ cap ∧ cap ≤ 9223372036854775807 ∧ ∀ i, i < n → ∃ b o, a = some ⟨b, o, none⟩ ∧ T b ∧ NodeP w b (o + i * 6) (c i) ∧ PT T w (c i)
theorem pT_eq (T : Nat → Prop) (w : World) (x : Pt) : PT T w x ↔ x.n ≤ x.cap ∧ x.cap ≤ 9223372036854775807 ∧ ∀ i, i < x.n → ∃ b o, x.a = some ⟨b, o, none⟩ ∧ T b ∧ NodeP w b (o + i * 6) (x.c i) ∧ PT T w (x.c i) := by
  cases x with
  | nil => simp [PT, Pt.n, Pt.cap]
  | mk => rfl
theorem PT.kept {T : Nat → Prop} {W W' : World} (h : Kp T W W') : ∀ {x : Pt}, PT T W x → PT T W' x := by
  refine @(Pt.ind fun x ih hx => ?_)
  rw [pT_eq] at hx ⊢
  refine ⟨hx.1, hx.2.1, fun i hi => ?_⟩
  obtain ⟨b, o, e, hb, hn, hc⟩ := hx.2.2 i hi
  exact ⟨b, o, e, hb, hn.kept h hb, ih i hi hc⟩
theorem PT.of {T : Nat → Prop} {W W' : World} (h : ∀ p v, W.cell? p = some v → W'.cell? p = some v) : ∀ {x : Pt}, PT T W x → PT T W' x := by
  refine @(Pt.ind fun x ih hx => ?_)
  rw [pT_eq] at hx ⊢
  refine ⟨hx.1, hx.2.1, fun i hi => ?_⟩
  obtain ⟨b, o, e, hb, hn, hc⟩ := hx.2.2 i hi
  exact ⟨b, o, e, hb, ⟨h _ _ hn.1, h _ _ hn.2.1, h _ _ hn.2.2.1, h _ _ hn.2.2.2.1, h _ _ hn.2.2.2.2.1, h _ _ hn.2.2.2.2.2⟩, ih i hi hc⟩
theorem IsP.xt {T : Nat → Prop} {w : World} (hT : ∀ k, k < w.heap.size → T k) : ∀ {x : Pt}, IsP w x → PT T w x := by
  refine @(Pt.ind fun x ih hx => ?_)
  rw [isP_eq] at hx
  rw [pT_eq]
  refine ⟨hx.1, hx.2.1, fun i hi => ?_⟩
  obtain ⟨b, o, e, hn, hc⟩ := hx.2.2 i hi
  exact ⟨b, o, e, hT b hn.lt, hn, ih i hi hc⟩

theorem PIn.xt {n : Nat} {T : Nat → Prop} {w : World} (hT : ∀ k, k < n → T k) {x : Pt} (h : PIn n w x) : PT T w x := by
  revert h
  revert x
  refine @(Pt.ind fun x ih hx => ?_)
  rw [pIn_eq] at hx
  rw [pT_eq]
  refine ⟨hx.1, hx.2.1, fun i hi => ?_⟩
  obtain ⟨b, o, e, hb, hn, hc⟩ := hx.2.2 i hi
  exact ⟨b, o, e, hT b hb, hn, ih i hi hc⟩
/-- What a round of the range is handed. -/
structure VisP where
  d : Nat
  b : Nat
  o : Nat
  y : Pt
  pre : List (Nat × Pt)

/-- A range over all nodes, each once, in their order. -/
theorem nodesP_fold {n : Nat} {g : Operand} {ps : Array Tmp} {assign body : Code} {Q : Exit → Act → World → Prop} {a : Act} {w : World} (Bp b0 o0 : Nat) (x : Pt) (T : Nat → Prop) (J : List (Nat × Pt) → World → Prop) (Jx : Code → World → Prop)
    (hg : a.eval g = .func (.func 44) #[] #[.pointer (some ⟨Bp, 0, none⟩)]) (hps : ps.size = 2) (hBp : w.cell? ⟨Bp, 0, none⟩ = some (.pointer (some ⟨b0, o0, none⟩))) (hsm : x.size ≤ 1048576)
    (hT : ∀ k, T k → k < w.heap.size) (hb0 : T b0) (hN : NodeP w b0 o0 x) (hX : PT T w x)
    (hJ : ∀ pre W A, Ag w.heap.size W A → J pre W → J pre A) (hJd : ∀ pre W, J pre W → J pre W.drew) (h0 : ∀ W, Below w.heap.size w W → J [] W) (hJx : ∀ c W A, Ag w.heap.size W A → Jx c W → Jx c A)
    (a₁ : Nat → Nat → Nat → Act)
    (hassign : ∀ (l d b o : Nat) (W : World) (K : Act → World → Prop), K (a₁ d b o) W →
      assign.wpIn (Fence.wide.inRound l) (n - 1 - 1) Try.prog (Exit.then K (fun _ _ _ => False)) { tmps := (ps.zip #[.int .i64 d, .pointer (some ⟨b, o, none⟩)]).foldl (fun t (p, v) => t.setIfInBounds p v) a.tmps, defers := [] } W)
    (hbody : ∀ (l d b o : Nat) (y : Pt) (pre : List (Nat × Pt)) (W : World), T b → NodeP W b o y → PT T W y → J pre W → w.heap.size + 4 ≤ W.heap.size → (∃ post, pre ++ (d, y) :: post = visP 1 x) →
      body.wpIn (Fence.wide.inRound l) (n - 1 - 1) Try.prog (foldPost w.heap.size (fun k => T k ∨ k = w.heap.size + 2 ∨ k = w.heap.size + 3) (J (pre ++ [(d, y)])) Jx W) (a₁ d b o) W)
    (hdone : ∀ (D : Nat) (W : World), w.heap.size ≤ D → J (visP 1 x) W → W.heap[D]? = some (.deferred (some [])) → Q .normal { a with defers := { target := .collected D, args := #[] } :: a.defers } W)
    (hstop : ∀ (D : Nat) (c : Code) (W : World), w.heap.size ≤ D → Jx c W → W.heap[D]? = some (.deferred (some [])) → c.wpIn Fence.wide n Try.prog Q { a with defers := { target := .collected D, args := #[] } :: a.defers } W) :
    (Code.rangeFunc g ps assign body).wpIn Fence.wide n Try.prog Q a w := by
  obtain ⟨T', hT'⟩ : ∃ T' : Nat → Prop, T' = fun k => T k ∨ k = w.heap.size + 2 ∨ k = w.heap.size + 3 := ⟨_, rfl⟩
  have tT : ∀ k, T k → T' k := fun k hk => by rw [hT']; exact .inl hk
  refine wpIn_range (α := VisP) hg (enters_of Try.func44 (by kernel_rfl) rfl) (encs := fun v => #[.int .i64 v.d, .pointer (some ⟨v.b, v.o, none⟩)]) (fun _ => hps.symm)
    (fun v W => T v.b ∧ NodeP W v.b v.o v.y ∧ PT T W v.y ∧ J v.pre W ∧ w.heap.size + 4 ≤ W.heap.size ∧ ∃ post, v.pre ++ (v.d, v.y) :: post = visP 1 x)
    (fun v W W' => Kp T' W W' ∧ J (v.pre ++ [(v.d, v.y)]) W' ∧ w.heap.size + 4 ≤ W'.heap.size)
    (fun c _ _ W' => Jx c W') (J (visP 1 x)) Jx ?_ ?_ ?_ (fun W A h => hJ _ W A h) hJx (fun v => a₁ v.d v.b v.o) (fun l v W K hK => hassign l v.d v.b v.o W K hK) ?_ ?_ hdone hstop
  · rintro v W A hag ⟨h1, h2, h3, h4, h5, h6⟩
    exact ⟨h1, h2.ag hag, h3.of fun p v h => (hag.cell p).trans h, hJ _ _ _ hag h4, by rw [hag.size]; exact h5, h6⟩
  · rintro v W A A' W' hag hag' ⟨h1, h2, h3⟩
    exact ⟨Kp.ag hag hag' h1, hJ _ _ _ hag' h2, by rw [hag'.size]; exact h3⟩
  · rintro c v W A A' W' hag hag' h
    exact hJx _ _ _ hag' h
  · rintro l v W ⟨h1, h2, h3, h4, h5, h6⟩ _
    refine wpIn_mono (hbody l v.d v.b v.o v.y v.pre W h1 h2 h3 h4 h5 h6) ?_
    rintro e a3 W3 hp
    cases e with
    | normal => exact ⟨hp.1, by rw [hT']; exact hp.2.1, hp.2.2, Nat.le_trans h5 hp.1.size⟩
    | ret => exact hp
    | exit id => exact hp
    | goto t => exact hp
    | panic ch => exact hp.elim
    | outgrown => exact hp.elim
  · intro l Rec RecX W1 hB1 hs1 hrec1 hrec hrecx hY
    have hkT : Kp T w W1 := Kp.of_below hB1 hT
    have hlt : Bp < w.heap.size := by
      obtain ⟨ob, ho, -⟩ := cells_of_cell hBp
      exact (Array.getElem?_eq_some_iff.1 ho).1
    refine (nodesP1_in (n - 1) l Bp b0 o0 W1 (fun e W' => (e = .returned (.bool true) ∧ J (visP 1 x) W' ∧ Rec W') ∨ (e = .returned (.bool false) ∧ ∃ c, Jx c W' ∧ RecX c W')) ((hB1.cell (p := ⟨Bp, 0, none⟩) hlt).trans hBp) ?_).mono ?_
    · intro W2 by2 bd2 hB2 hs2
      have key := downP_any (ι := Nat × Pt × List (Nat × Pt)) l W1.heap.size (W1.heap.size + 1) (fun v => v.2.1.n) (fun v i => (v.1 + 1, v.2.1.c i, v.2.2 ++ (v.1, v.2.1) :: catN (fun i => visP (v.1 + 1) (v.2.1.c i)) i)) (fun v => v.2.1.size)
        (fun v b o d W => ((v.1 : Nat) : Int) = d ∧ T b ∧ NodeP W b o v.2.1 ∧ PT T W v.2.1 ∧ J v.2.2 W ∧ Rec W ∧ Boxed W W1.heap.size 79 (.func (.yield l) #[] #[]) ∧ Boxed W (W1.heap.size + 1) 79 (downPV W1.heap.size (W1.heap.size + 1)) ∧ w.heap.size + 4 ≤ W.heap.size ∧ (∃ post, v.2.2 ++ (visP v.1 v.2.1 ++ post) = visP 1 x) ∧ v.1 + v.2.1.size ≤ 1048577)
        (fun v b o d W a cap i Wi => a = v.2.1.a ∧ cap = v.2.1.cap ∧ ((v.1 : Nat) : Int) = d ∧ T b ∧ NodeP Wi b o v.2.1 ∧ PT T Wi v.2.1 ∧ J (v.2.2 ++ (v.1, v.2.1) :: catN (fun i => visP (v.1 + 1) (v.2.1.c i)) i) Wi ∧ Rec Wi ∧
          Boxed Wi W1.heap.size 79 (.func (.yield l) #[] #[]) ∧ Boxed Wi (W1.heap.size + 1) 79 (downPV W1.heap.size (W1.heap.size + 1)) ∧ w.heap.size + 4 ≤ Wi.heap.size ∧ Kp T' W Wi ∧ (∃ post, v.2.2 ++ (visP v.1 v.2.1 ++ post) = visP 1 x) ∧ v.1 + v.2.1.size ≤ 1048577)
        (fun v b o d W W' => J (v.2.2 ++ visP v.1 v.2.1) W' ∧ Rec W' ∧ Kp T' W W' ∧ w.heap.size + 4 ≤ W'.heap.size)
        (fun v b o d W W' => ∃ c, Jx c W' ∧ RecX c W')
        (fun v i hi => Pt.size_part v.2.1 i hi) (fun v b o d W h => h.2.2.2.2.2.2.1.cell) ?_ ?_ ?_ ?_ (x.size + 1) (1, x, []) (by simp) (n - 1 - 1) b0 o0 1 W2 ?_
      · refine key.mono ?_
        rintro e W' (⟨rfl, h1, h2, -⟩ | ⟨rfl, h⟩)
        · exact ⟨true, rfl, .inl ⟨rfl, by simpa using h1, h2⟩⟩
        · exact ⟨false, rfl, .inr ⟨rfl, h⟩⟩
      · rintro ⟨d', y, pre⟩ b o d W ⟨rfl, h1, h2, h3, h4, h5, h6, h7, h8, hN, hd⟩
        have hN' := hN
        obtain ⟨post, hpo⟩ := hN
        refine YieldAt.mono (hY 0 ⟨d', b, o, y, pre⟩ W ⟨h1, h2, h3, h4, h8, by rw [visP_eq d' y] at hpo; exact ⟨_, by simpa using hpo⟩⟩ h5) ?_
        rintro e W' (⟨rfl, ⟨k1, k2, k3⟩, k4, -⟩ | ⟨rfl, c, k1, k2⟩)
        · have kT : Kp T W W' := k1.mono tT
          exact .inl ⟨rfl, y.a, y.cap, rfl, rfl, rfl, h1, h2.kept kT h1, h3.kept kT, by simpa [catN] using k2, k4, k1.boxed (by rw [hT']; exact .inr (.inl (by omega))) h6, k1.boxed (by rw [hT']; exact .inr (.inr (by omega))) h7, k3, k1, hN', hd⟩
        · exact .inr ⟨rfl, c, k1, k2⟩
      · rintro ⟨d', y, pre⟩ b o d W a cap i Wi ⟨rfl, rfl, rfl, h1, h2, h3, h4, h5, h6, h7, h8, h9, hN⟩
        have := ((pT_eq _ _ _).1 h3)
        simp only at this
        exact ⟨by simp only; omega, h2.2.2.2.2.2, h7.cell⟩
      · rintro ⟨d', y, pre⟩ b o d W a cap i Wi ⟨rfl, rfl, rfl, h1, h2, h3, h4, h5, h6, h7, h8, h9, hN, hd⟩ hi
        obtain ⟨b', o', ea, hb', hn', hx'⟩ := ((pT_eq _ _ _).1 h3).2.2 i hi
        have hsp := y.size_part i hi
        have hw1 : IntKind.i64.wrap ((d' : Int) + 1) = ((d' + 1 : Nat) : Int) := by
          simp only at hd
          simp [IntKind.wrap, IntKind.bits, IntKind.signed]
          omega
        rw [hw1]
        refine ⟨b', o', ea, ⟨rfl, hb', hn', PT.of (W := Wi) (W' := Wi.drew) (fun _ _ h => h) hx', hJd _ _ h4, hrec Wi Wi.drew ⟨Nat.le_refl _, fun _ _ _ h _ => h⟩ h5, h6, h7, h8, ?_, by simp only at hd ⊢; omega⟩, ?_, fun W' h => h⟩
        · obtain ⟨post, hpo⟩ := hN
          obtain ⟨r, hr⟩ := catN_split (fun i => visP (d' + 1) (y.c i)) hi
          refine ⟨r ++ post, ?_⟩
          rw [visP_eq d' y] at hpo
          simp only at hpo ⊢
          rw [← hpo, hr]
          simp
        rintro W' ⟨k1, k2, k3, k4⟩
        have kk : Kp T' Wi W' := k3
        have kT : Kp T Wi W' := kk.mono tT
        exact ⟨rfl, rfl, rfl, h1, h2.kept kT h1, h3.kept kT, by simpa [catN] using k1, k2, kk.boxed (by rw [hT']; exact .inr (.inl (by omega))) h6, kk.boxed (by rw [hT']; exact .inr (.inr (by omega))) h7, k4, h9.trans kk, hN, hd⟩
      · rintro ⟨d', y, pre⟩ b o d W a cap Wi ⟨rfl, rfl, rfl, h1, h2, h3, h4, h5, h6, h7, h8, h9, hN, hd⟩
        exact ⟨by rw [visP_eq]; exact h4, h5, h9, h8⟩
      · have hB : Below w.heap.size w W2 := hB1.trans (hB2.mono (by omega))
        have kT : Kp T w W2 := Kp.of_below hB hT
        refine ⟨rfl, hb0, hN.kept kT hb0, hX.kept kT, h0 W2 hB, hrec W1 W2 ⟨by omega, fun k o hk ho _ => ?_⟩ hrec1, by2, bd2, by omega, ⟨[], by simp⟩, by simp only; omega⟩
        exact (hB2.block k (Array.getElem?_eq_some_iff.1 ho).1).trans ho
    · rintro e W' ⟨hv, r, (⟨-, h1, h2⟩ | ⟨-, h⟩)⟩
      · exact ⟨hv, .inl ⟨h1, h2⟩⟩
      · exact ⟨hv, .inr h⟩
end Go.Proofs.Ytjclelmbpmlioaa
