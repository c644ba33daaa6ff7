/-
  expr.nodes: a range over all nodes of a condition that changes none of them.
  expr.Size.
  query.joined; slices.Clone of items.
  A range over slices.Backward of texts.
  A range over all nodes whose rounds may write: told by relations between worlds.
-/
import Derived.Test.YtinnhaojmnmliaaGreatCPatBase
import Derived.Test.YtinnhaojmnmliaaGreatCValOrderMath
import Derived.Laws.EntriesVeiled
import Derived.WalkKit
import Derived.OwnWalkIn
namespace Go.Proofs.YtinnhaojmnmliaaGreat
open Go.RowKit Go.Shelf
attribute [local go_sem] Oper.semAt_some

set_option maxRecDepth 100000 in
set_option maxHeartbeats 1000000 in
theorem nodes_in (n : Nat) (p : Option Addr) (w : World) :
    CallsIn Fence.wide n Tryz.prog 53 #[.pointer p] w fun e w' => e = .returned (.func (.func 80) #[] #[.pointer (some ⟨w.heap.size, 0, none⟩)]) ∧ w' = w.alloc (.cells #[.pointer p] 81) := by
  refine callsIn_of_wp Tryz.func53 rfl trivial ?_ rfl
  simp only [Tryz.ntmps53, List.size_toArray, List.length_cons, List.length_nil, Nat.reduceAdd, Nat.reduceSub, Array.replicate_succ, Array.replicate_zero, List.push_toArray, List.append_toArray, List.nil_append, List.cons_append]
  gi_wp2
  go_ret
  exact ⟨rfl, rfl⟩

set_option maxRecDepth 100000 in
set_option maxHeartbeats 2000000 in
/-- The function that expr.nodes hands back: it lays yield and the closure in boxes of their own, and goes down. -/
theorem nodes1_in (n l Bp b o : Nat) (W : World) (R : Ending → World → Prop) (hBp : W.cell? ⟨Bp, 0, none⟩ = some (.pointer (some ⟨b, o, none⟩)))
    (hdown : ∀ W2, Boxed W2 W.heap.size 110 (.func (.yield l) #[] #[]) → Boxed W2 (W.heap.size + 1) 110 (downV W.heap.size (W.heap.size + 1)) → Below W.heap.size W W2 → W2.heap.size = W.heap.size + 2 →
      CallsIn Fence.wide (n - 1) Tryz.prog 81 #[.int .i64 1, .pointer (some ⟨b, o, none⟩), .pointer (some ⟨W.heap.size, 0, none⟩), .pointer (some ⟨W.heap.size + 1, 0, none⟩)] W2 fun e W' => ∃ r, e = .returned (.bool r) ∧ R (.returned (.bool r)) W') :
    CallsIn Fence.wide n Tryz.prog 80 #[.func (.yield l) #[] #[], .pointer (some ⟨Bp, 0, none⟩)] W fun e W' => (∃ v, e = .returned v) ∧ ∃ r, R (.returned (.bool r)) W' := by
  have hdd : ∀ k : Nat, (Fence.wide.depth.isSome = true → 1 ≤ k) := fun k h => by cases h
  have h1 : Boxed (W.alloc (.cells #[.func (.yield l) #[] #[]] 110)) W.heap.size 110 (.func (.yield l) #[] #[]) := Boxed.new _ _ _
  have hlt : Bp < W.heap.size := by
    obtain ⟨ob, ho, -⟩ := cells_of_cell hBp
    exact (Array.getElem?_eq_some_iff.1 ho).1
  obtain ⟨A, hA⟩ : ∃ A, (W.alloc (.cells #[.func (.yield l) #[] #[]] 110)).alloc (.cells #[.nilFunc] 110) = A := ⟨_, rfl⟩
  have b1 : Boxed A W.heap.size 110 (.func (.yield l) #[] #[]) := hA ▸ h1.alloc _
  have b2 : Boxed A (W.heap.size + 1) 110 .nilFunc := by
    have := Boxed.new (W.alloc (.cells #[.func (.yield l) #[] #[]] 110)) 110 .nilFunc
    rw [World.size_alloc, hA] at this
    exact this
  have hB : Below W.heap.size W A := by rw [← hA]; exact ((Below.refl _ W).alloc (Nat.le_refl _) _).alloc (by simp) _
  have hsz : A.heap.size = W.heap.size + 2 := by rw [← hA]; simp
  have c2 := b2.cell
  have f2 := b2.frozen
  have b3 := b2.set (downV W.heap.size (W.heap.size + 1))
  have b4 := b1.other (show W.heap.size ≠ W.heap.size + 1 by omega) (downV W.heap.size (W.heap.size + 1))
  have hB3 : Below W.heap.size W (A.setCell ⟨W.heap.size + 1, 0, none⟩ (downV W.heap.size (W.heap.size + 1))) := hB.setCell (p := ⟨W.heap.size + 1, 0, none⟩) (by simp) _
  have c3 := b3.cell
  have cp := (hB3.cell (p := ⟨Bp, 0, none⟩) hlt).trans hBp
  have hd := hdown _ b4 b3 hB3 (by rw [World.size_setCell]; exact hsz)
  clear hdown
  refine callsIn_of_wp Tryz.func80 rfl trivial ?_ rfl
  simp only [Tryz.ntmps80, List.size_toArray, List.length_cons, List.length_nil, Nat.reduceAdd, Nat.reduceSub, Array.replicate_succ, Array.replicate_zero, List.push_toArray, List.append_toArray, List.nil_append, List.cons_append]
  gi_wp2_with (refine ⟨trivial, hdd _, ?_⟩; gi_at_call 81; refine hd.mono ?_; rintro e W3 ⟨r, rfl, hr⟩)
  go_end0
  exact ⟨⟨_, rfl⟩, _, hr⟩
/-- All nodes in their order, each with how many lie on the way down to it. -/
def visX (d : Int) : X → List (Int × X)
  | .nil => [(d, .nil)]
  | .mk k v s f a n cap c => (d, .mk k v s f a n cap c) :: catN (fun i => visX (IntKind.i64.wrap (d + 1)) (c i)) n
theorem visX_eq (d : Int) (x : X) : visX d x = (d, x) :: catN (fun i => visX (IntKind.i64.wrap (d + 1)) (x.c i)) x.n := by cases x <;> rfl

theorem Node.kept {T : Nat → Prop} {W W' : World} (h : Kp T W W') {b o : Nat} {x : X} (hb : T b) (hn : Node W b o x) : Node W' b o x :=
  ⟨h.cell (p := ⟨b, o, none⟩) hb hn.1, h.cell (p := ⟨b, o + 1, none⟩) hb hn.2.1, h.cell (p := ⟨b, o + 2, none⟩) hb hn.2.2.1, h.cell (p := ⟨b, o + 3, none⟩) hb hn.2.2.2.1, h.cell (p := ⟨b, o + 4, none⟩) hb hn.2.2.2.2.1, h.cell (p := ⟨b, o + 5, none⟩) hb hn.2.2.2.2.2.1, h.cell (p := ⟨b, o + 6, none⟩) hb hn.2.2.2.2.2.2⟩
theorem Node.ag {B : Nat} {W A : World} (h : Ag B W A) {b o : Nat} {x : X} (hn : Node W b o x) : Node A b o x := hn.of fun _ _ => h.cell _
/-- A condition whose parts lie in such blocks. -/
def XT (T : Nat → Prop) (w : World) : X → Prop
  | .nil => True
  | .mk _ _ _ _ a n cap c => n ≤ cap ∧ cap ≤ 9223372036854775807 ∧ ∀ i, i < n → ∃ b o, a = some ⟨b, o, none⟩ ∧ T b ∧ Node w b (o + i * 7) (c i) ∧ XT T w (c i)
theorem xT_eq (T : Nat → Prop) (w : World) (x : X) : XT T w x ↔ x.n ≤ x.cap ∧ x.cap ≤ 9223372036854775807 ∧ ∀ i, i < x.n → ∃ b o, x.a = some ⟨b, o, none⟩ ∧ T b ∧ Node w b (o + i * 7) (x.c i) ∧ XT T w (x.c i) := by
  cases x with
  | nil => simp [XT, X.n, X.cap]
  | mk => rfl
theorem XT.kept {T : Nat → Prop} {W W' : World} (h : Kp T W W') : ∀ {x : X}, XT T W x → XT T W' x := by
  refine @(X.ind fun x ih hx => ?_)
  rw [xT_eq] at hx ⊢
  refine ⟨hx.1, hx.2.1, fun i hi => ?_⟩
  obtain ⟨b, o, e, hb, hn, hc⟩ := hx.2.2 i hi
  exact ⟨b, o, e, hb, hn.kept h hb, ih i hi hc⟩
theorem XT.of {T : Nat → Prop} {W W' : World} (h : ∀ p v, W.cell? p = some v → W'.cell? p = some v) : ∀ {x : X}, XT T W x → XT T W' x := by
  refine @(X.ind fun x ih hx => ?_)
  rw [xT_eq] at hx ⊢
  refine ⟨hx.1, hx.2.1, fun i hi => ?_⟩
  obtain ⟨b, o, e, hb, hn, hc⟩ := hx.2.2 i hi
  exact ⟨b, o, e, hb, ⟨h _ _ hn.1, h _ _ hn.2.1, h _ _ hn.2.2.1, h _ _ hn.2.2.2.1, h _ _ hn.2.2.2.2.1, h _ _ hn.2.2.2.2.2.1, h _ _ hn.2.2.2.2.2.2⟩, ih i hi hc⟩
theorem IsX.xt {T : Nat → Prop} {w : World} (hT : ∀ k, k < w.heap.size → T k) : ∀ {x : X}, IsX w x → XT T w x := by
  refine @(X.ind fun x ih hx => ?_)
  rw [isX_eq] at hx
  rw [xT_eq]
  refine ⟨hx.1, hx.2.1, fun i hi => ?_⟩
  obtain ⟨b, o, e, hn, hc⟩ := hx.2.2 i hi
  exact ⟨b, o, e, hT b hn.lt, hn, ih i hi hc⟩

theorem XIn.xt {n : Nat} {T : Nat → Prop} {w : World} (hT : ∀ k, k < n → T k) {x : X} (h : XIn n w x) : XT T w x := by
  revert h
  revert x
  refine @(X.ind fun x ih hx => ?_)
  rw [xIn_eq] at hx
  rw [xT_eq]
  refine ⟨hx.1, hx.2.1, fun i hi => ?_⟩
  obtain ⟨b, o, e, hb, hn, hc⟩ := hx.2.2 i hi
  exact ⟨b, o, e, hT b hb, hn, ih i hi hc⟩
/-- What a round of the range is handed. -/
structure Vis where
  d : Int
  b : Nat
  o : Nat
  y : X
  pre : List (Int × X)

/-- A range over all nodes, each once, in their order. -/
theorem nodes_fold {n : Nat} {g : Operand} {ps : Array Tmp} {assign body : Code} {Q : Exit → Act → World → Prop} {a : Act} {w : World} (Bp b0 o0 : Nat) (x : X) (T : Nat → Prop) (J : List (Int × X) → World → Prop) (Jx : Code → World → Prop)
    (hg : a.eval g = .func (.func 80) #[] #[.pointer (some ⟨Bp, 0, none⟩)]) (hps : ps.size = 2) (hBp : w.cell? ⟨Bp, 0, none⟩ = some (.pointer (some ⟨b0, o0, none⟩)))
    (hT : ∀ k, T k → k < w.heap.size) (hb0 : T b0) (hN : Node w b0 o0 x) (hX : XT T w x)
    (hJ : ∀ pre W A, Ag w.heap.size W A → J pre W → J pre A) (hJd : ∀ pre W, J pre W → J pre W.drew) (h0 : ∀ W, Below w.heap.size w W → J [] W) (hJx : ∀ c W A, Ag w.heap.size W A → Jx c W → Jx c A)
    (a₁ : Int → Nat → Nat → Act)
    (hassign : ∀ (l : Nat) (d : Int) (b o : Nat) (W : World) (K : Act → World → Prop), K (a₁ d b o) W →
      assign.wpIn (Fence.wide.inRound l) (n - 1 - 1) Tryz.prog (Exit.then K (fun _ _ _ => False)) { tmps := (ps.zip #[.int .i64 d, .pointer (some ⟨b, o, none⟩)]).foldl (fun t (p, v) => t.setIfInBounds p v) a.tmps, defers := [] } W)
    (hbody : ∀ (l : Nat) (d : Int) (b o : Nat) (y : X) (pre : List (Int × X)) (W : World), T b → Node W b o y → XT T W y → J pre W → w.heap.size + 4 ≤ W.heap.size → pre.length < (visX 1 x).length →
      body.wpIn (Fence.wide.inRound l) (n - 1 - 1) Tryz.prog (foldPost w.heap.size (fun k => T k ∨ k = w.heap.size + 2 ∨ k = w.heap.size + 3) (J (pre ++ [(d, y)])) Jx W) (a₁ d b o) W)
    (hdone : ∀ (D : Nat) (W : World), w.heap.size ≤ D → J (visX 1 x) W → W.heap[D]? = some (.deferred (some [])) → Q .normal { a with defers := { target := .collected D, args := #[] } :: a.defers } W)
    (hstop : ∀ (D : Nat) (c : Code) (W : World), w.heap.size ≤ D → Jx c W → W.heap[D]? = some (.deferred (some [])) → c.wpIn Fence.wide n Tryz.prog Q { a with defers := { target := .collected D, args := #[] } :: a.defers } W) :
    (Code.rangeFunc g ps assign body).wpIn Fence.wide n Tryz.prog Q a w := by
  obtain ⟨T', hT'⟩ : ∃ T' : Nat → Prop, T' = fun k => T k ∨ k = w.heap.size + 2 ∨ k = w.heap.size + 3 := ⟨_, rfl⟩
  have tT : ∀ k, T k → T' k := fun k hk => by rw [hT']; exact .inl hk
  refine wpIn_range (α := Vis) hg (enters_of Tryz.func80 (by kernel_rfl) rfl) (encs := fun v => #[.int .i64 v.d, .pointer (some ⟨v.b, v.o, none⟩)]) (fun _ => hps.symm)
    (fun v W => T v.b ∧ Node W v.b v.o v.y ∧ XT T W v.y ∧ J v.pre W ∧ w.heap.size + 4 ≤ W.heap.size ∧ v.pre.length < (visX 1 x).length)
    (fun v W W' => Kp T' W W' ∧ J (v.pre ++ [(v.d, v.y)]) W' ∧ w.heap.size + 4 ≤ W'.heap.size)
    (fun c _ _ W' => Jx c W') (J (visX 1 x)) Jx ?_ ?_ ?_ (fun W A h => hJ _ W A h) hJx (fun v => a₁ v.d v.b v.o) (fun l v W K hK => hassign l v.d v.b v.o W K hK) ?_ ?_ hdone hstop
  · rintro v W A hag ⟨h1, h2, h3, h4, h5, h6⟩
    exact ⟨h1, h2.ag hag, h3.of fun p v h => (hag.cell p).trans h, hJ _ _ _ hag h4, by rw [hag.size]; exact h5, h6⟩
  · rintro v W A A' W' hag hag' ⟨h1, h2, h3⟩
    exact ⟨Kp.ag hag hag' h1, hJ _ _ _ hag' h2, by rw [hag'.size]; exact h3⟩
  · rintro c v W A A' W' hag hag' h
    exact hJx _ _ _ hag' h
  · rintro l v W ⟨h1, h2, h3, h4, h5, h6⟩ _
    refine wpIn_mono (hbody l v.d v.b v.o v.y v.pre W h1 h2 h3 h4 h5 h6) ?_
    rintro e a3 W3 hp
    cases e with
    | normal => exact ⟨hp.1, by rw [hT']; exact hp.2.1, hp.2.2, Nat.le_trans h5 hp.1.size⟩
    | ret => exact hp
    | exit id => exact hp
    | goto t => exact hp
    | panic ch => exact hp.elim
    | outgrown => exact hp.elim
  · intro l Rec RecX W1 hB1 hs1 hrec1 hrec hrecx hY
    have hkT : Kp T w W1 := Kp.of_below hB1 hT
    have hlt : Bp < w.heap.size := by
      obtain ⟨ob, ho, -⟩ := cells_of_cell hBp
      exact (Array.getElem?_eq_some_iff.1 ho).1
    refine (nodes1_in (n - 1) l Bp b0 o0 W1 (fun e W' => (e = .returned (.bool true) ∧ J (visX 1 x) W' ∧ Rec W') ∨ (e = .returned (.bool false) ∧ ∃ c, Jx c W' ∧ RecX c W')) ((hB1.cell (p := ⟨Bp, 0, none⟩) hlt).trans hBp) ?_).mono ?_
    · intro W2 by2 bd2 hB2 hs2
      have key := down_any (ι := Int × X × List (Int × X)) l W1.heap.size (W1.heap.size + 1) (fun v => v.2.1.n) (fun v i => (IntKind.i64.wrap (v.1 + 1), v.2.1.c i, v.2.2 ++ (v.1, v.2.1) :: catN (fun i => visX (IntKind.i64.wrap (v.1 + 1)) (v.2.1.c i)) i)) (fun v => v.2.1.size)
        (fun v b o d W => v.1 = d ∧ T b ∧ Node W b o v.2.1 ∧ XT T W v.2.1 ∧ J v.2.2 W ∧ Rec W ∧ Boxed W W1.heap.size 110 (.func (.yield l) #[] #[]) ∧ Boxed W (W1.heap.size + 1) 110 (downV W1.heap.size (W1.heap.size + 1)) ∧ w.heap.size + 4 ≤ W.heap.size ∧ v.2.2.length + (visX v.1 v.2.1).length ≤ (visX 1 x).length)
        (fun v b o d W a cap i Wi => a = v.2.1.a ∧ cap = v.2.1.cap ∧ v.1 = d ∧ T b ∧ Node Wi b o v.2.1 ∧ XT T Wi v.2.1 ∧ J (v.2.2 ++ (v.1, v.2.1) :: catN (fun i => visX (IntKind.i64.wrap (v.1 + 1)) (v.2.1.c i)) i) Wi ∧ Rec Wi ∧
          Boxed Wi W1.heap.size 110 (.func (.yield l) #[] #[]) ∧ Boxed Wi (W1.heap.size + 1) 110 (downV W1.heap.size (W1.heap.size + 1)) ∧ w.heap.size + 4 ≤ Wi.heap.size ∧ Kp T' W Wi ∧ v.2.2.length + (visX v.1 v.2.1).length ≤ (visX 1 x).length)
        (fun v b o d W W' => J (v.2.2 ++ visX v.1 v.2.1) W' ∧ Rec W' ∧ Kp T' W W' ∧ w.heap.size + 4 ≤ W'.heap.size)
        (fun v b o d W W' => ∃ c, Jx c W' ∧ RecX c W')
        (fun v i hi => X.size_part v.2.1 i hi) (fun v b o d W h => h.2.2.2.2.2.2.1.cell) ?_ ?_ ?_ ?_ (x.size + 1) (1, x, []) (by simp) (n - 1 - 1) b0 o0 1 W2 ?_
      · refine key.mono ?_
        rintro e W' (⟨rfl, h1, h2, -⟩ | ⟨rfl, h⟩)
        · exact ⟨true, rfl, .inl ⟨rfl, by simpa using h1, h2⟩⟩
        · exact ⟨false, rfl, .inr ⟨rfl, h⟩⟩
      · rintro ⟨d', y, pre⟩ b o d W ⟨rfl, h1, h2, h3, h4, h5, h6, h7, h8, hN⟩
        refine YieldAt.mono (hY 0 ⟨d', b, o, y, pre⟩ W ⟨h1, h2, h3, h4, h8, by rw [visX_eq d' y] at hN; simp only [List.length_cons] at hN ⊢; omega⟩ h5) ?_
        rintro e W' (⟨rfl, ⟨k1, k2, k3⟩, k4, -⟩ | ⟨rfl, c, k1, k2⟩)
        · have kT : Kp T W W' := k1.mono tT
          exact .inl ⟨rfl, y.a, y.cap, rfl, rfl, rfl, h1, h2.kept kT h1, h3.kept kT, by simpa [catN] using k2, k4, k1.boxed (by rw [hT']; exact .inr (.inl (by omega))) h6, k1.boxed (by rw [hT']; exact .inr (.inr (by omega))) h7, k3, k1, hN⟩
        · exact .inr ⟨rfl, c, k1, k2⟩
      · rintro ⟨d', y, pre⟩ b o d W a cap i Wi ⟨rfl, rfl, rfl, h1, h2, h3, h4, h5, h6, h7, h8, h9, hN⟩
        have := ((xT_eq _ _ _).1 h3)
        simp only at this
        exact ⟨by simp only; omega, h2.2.2.2.2.2.2, h7.cell⟩
      · rintro ⟨d', y, pre⟩ b o d W a cap i Wi ⟨rfl, rfl, rfl, h1, h2, h3, h4, h5, h6, h7, h8, h9, hN⟩ hi
        obtain ⟨b', o', ea, hb', hn', hx'⟩ := ((xT_eq _ _ _).1 h3).2.2 i hi
        refine ⟨b', o', ea, ⟨rfl, hb', hn', XT.of (W := Wi) (W' := Wi.drew) (fun _ _ h => h) hx', hJd _ _ h4, hrec Wi Wi.drew ⟨Nat.le_refl _, fun _ _ _ h _ => h⟩ h5, h6, h7, h8, ?_⟩, ?_, fun W' h => h⟩
        · have hl := catN_len (fun i => visX (IntKind.i64.wrap (d' + 1)) (y.c i)) hi
          rw [visX_eq d' y] at hN
          simp only [List.length_cons, List.length_append] at hN hl ⊢
          omega
        rintro W' ⟨k1, k2, k3, k4⟩
        have kk : Kp T' Wi W' := k3
        have kT : Kp T Wi W' := kk.mono tT
        exact ⟨rfl, rfl, rfl, h1, h2.kept kT h1, h3.kept kT, by simpa [catN] using k1, k2, kk.boxed (by rw [hT']; exact .inr (.inl (by omega))) h6, kk.boxed (by rw [hT']; exact .inr (.inr (by omega))) h7, k4, h9.trans kk, hN⟩
      · rintro ⟨d', y, pre⟩ b o d W a cap Wi ⟨rfl, rfl, rfl, h1, h2, h3, h4, h5, h6, h7, h8, h9, hN⟩
        exact ⟨by rw [visX_eq]; exact h4, h5, h9, h8⟩
      · have hB : Below w.heap.size w W2 := hB1.trans (hB2.mono (by omega))
        have kT : Kp T w W2 := Kp.of_below hB hT
        refine ⟨rfl, hb0, hN.kept kT hb0, hX.kept kT, h0 W2 hB, hrec W1 W2 ⟨by omega, fun k o hk ho _ => ?_⟩ hrec1, by2, bd2, by omega, by simp⟩
        exact (hB2.block k (Array.getElem?_eq_some_iff.1 ho).1).trans ho
    · rintro e W' ⟨hv, r, (⟨-, h1, h2⟩ | ⟨-, h⟩)⟩
      · exact ⟨hv, .inl ⟨h1, h2⟩⟩
      · exact ⟨hv, .inr h⟩
end Go.Proofs.YtinnhaojmnmliaaGreat
namespace Go.Proofs.YtinnhaojmnmliaaGreat
open Go.RowKit Go.Shelf
attribute [local go_sem] Oper.semAt_some

/-- The seven cells of a condition as one value. -/
abbrev X.cells (x : X) : Array Value := #[.int .i64 x.k, .int .i64 x.v.k, .int .i64 x.v.n, .string x.v.s, .string x.s, .string x.f, .slice x.a x.n x.cap]
theorem node_box {w : World} {B : Nat} {t : TypeId} {x : X} (h : w.heap[B]? = some (.cells x.cells t (0, 0))) : Node w B 0 x := by
  refine ⟨?_, ?_, ?_, ?_, ?_, ?_, ?_⟩ <;> simp [World.cell?, h]
theorem node_new (w : World) (t : TypeId) (x : X) : Node (w.alloc (.cells x.cells t)) w.heap.size 0 x := node_box (World.alloc_heap_new w _)
theorem length_vis : ∀ (x : X) (d : Int), (visX d x).length = x.size := by
  refine X.ind fun x ih d => ?_
  have : ∀ m, m ≤ x.n → (catN (fun i => visX (IntKind.i64.wrap (d + 1)) (x.c i)) m).length = sumN (fun i => (x.c i).size) m := by
    intro m
    induction m with
    | zero => intro _; rfl
    | succ m ihm => intro hm; simp only [catN, sumN, List.length_append]; rw [ihm (by omega), ih m (by omega)]
  rw [visX_eq, X.size_eq, List.length_cons, this _ (Nat.le_refl _)]
  omega
set_option maxRecDepth 100000 in
set_option maxHeartbeats 2000000 in
theorem size_in (n : Nat) (x : X) (w : World) (hX : IsX w x) :
    CallsIn Fence.wide n Tryz.prog 57 #[x.val] w fun e w' => e = .returned (.int .i64 (cnt x.size)) ∧ Below w.heap.size w w' := by
  have hdd : ∀ k : Nat, (Fence.wide.depth.isSome = true → 1 ≤ k) := fun k h => by cases h
  refine callsIn_of_wp_marks Tryz.func57 rfl trivial ?_ rfl
  simp only [Tryz.ntmps57, List.size_toArray, List.length_cons, List.length_nil, Nat.reduceAdd, Nat.reduceSub, Array.replicate_succ, Array.replicate_zero, List.push_toArray, List.append_toArray, List.nil_append, List.cons_append]
  gi_wp2_with (refine ⟨trivial, hdd _, ?_⟩; gi_at_call 53; refine (nodes_in _ _ _).mono ?_; rintro e w' ⟨rfl, rfl⟩)
  obtain ⟨A, hA⟩ : ∃ A, (((w.alloc (.cells x.cells 32)).alloc (.cells #[.int .i64 0] 3)).alloc (.cells #[.pointer (some ⟨w.heap.size, 0, none⟩)] 81)) = A := ⟨_, rfl⟩
  have hsz : A.heap.size = w.heap.size + 3 := by rw [← hA]; simp
  have hB : Below w.heap.size w A := by rw [← hA]; exact (((Below.refl _ w).alloc (Nat.le_refl _) _).alloc (by simp) _).alloc (by simp; omega) _
  have hnode : Node A w.heap.size 0 x := by
    rw [← hA]
    exact ((node_new w 32 x).later ((Below.refl _ _).alloc (Nat.le_refl _) _)).later ((Below.refl _ _).alloc (Nat.le_refl _) _)
  have hbn : Boxed A (w.heap.size + 1) 3 (.int .i64 0) := by
    have := (Boxed.new (w.alloc (.cells x.cells 32)) 3 (.int .i64 0)).alloc (.cells #[.pointer (some ⟨w.heap.size, 0, none⟩)] 81)
    rw [World.size_alloc, hA] at this
    exact this
  have hbp : Boxed A (w.heap.size + 1 + 1) 81 (.pointer (some ⟨w.heap.size, 0, none⟩)) := by
    have := Boxed.new ((w.alloc (.cells x.cells 32)).alloc (.cells #[.int .i64 0] 3)) 81 (.pointer (some ⟨w.heap.size, 0, none⟩))
    rw [World.size_alloc, World.size_alloc, hA] at this
    exact this
  rw [hA]
  refine nodes_fold (w.heap.size + 1 + 1) w.heap.size 0 x (fun k => k < w.heap.size + 1) (fun pre W => Boxed W (w.heap.size + 1) 3 (.int .i64 (cnt pre.length)) ∧ Below w.heap.size w W) (fun _ _ => False)
    rfl rfl hbp.cell (fun k hk => by omega) (by omega) hnode (XIn.xt (n := w.heap.size) (fun k hk => by omega) (hX.inn.below hB)) ?_ ?_ ?_ ?_
    (fun d b o => { tmps := #[x.val, .pointer (some ⟨w.heap.size, 0, none⟩), .int .i64 0, .pointer (some ⟨w.heap.size + 1, 0, none⟩), .func (.func 80) #[] #[.pointer (some ⟨w.heap.size + 1 + 1, 0, none⟩)], .int .i64 d, .pointer (some ⟨b, o, none⟩), undef, undef, undef], defers := [] }) ?_ ?_ ?_ ?_
  · rintro pre W B hag ⟨h1, h2⟩
    exact ⟨hag.boxed h1, hag.below (by omega) h2⟩
  · exact fun pre W h => ⟨h.1, h.2.drew⟩
  · exact fun W h => ⟨Boxed.kept_of hbn h (by omega), hB.trans (h.mono (by omega))⟩
  · exact fun _ _ _ _ h => h
  · intro l d b o W K hK
    gi_wp2
    simpa using hK
  · rintro l d b o y pre W hb hn hx ⟨h1, h2⟩ hs -
    have c1 := h1.cell
    have f1 := h1.frozen
    gi_wp2
    exact ⟨(KeepsOthers.setCell _ _ _).from _, Kp.set _ (by simp; omega), by rw [List.length_append]; exact h1.set _, h2.setCell (p := ⟨w.heap.size + 1, 0, none⟩) (by simp) _⟩
  · rintro D W hD ⟨h1, h2⟩ hK
    have c1 := h1.cell
    gi_wp2
    refine ⟨by simp, .inl ⟨_, _, rfl, run_takeDeferred hK, ?_⟩⟩
    exact ⟨_, results_tmp rfl _ _ _, by rw [length_vis]; rfl, h2.trans (belowK_b (w := w) (Nat.le_refl _) W D _ _ (by omega) hK rfl rfl)⟩
  · exact fun _ _ _ _ h _ => h.elim
end Go.Proofs.YtinnhaojmnmliaaGreat
namespace Go.Proofs.YtinnhaojmnmliaaGreat
open Go.RowKit

set_option maxRecDepth 100000 in
theorem joined_any (a : Option Addr) (n cap : Nat) (c : Nat → X) (w : World) : Calls Tryz.prog 42 #[.slice a n cap] w fun e w' => e = .returned (X.mk 16 val0 ⟨#[]⟩ ⟨#[]⟩ a n cap c).val ∧ Below w.heap.size w w' := by
  go_enter Tryz.func42, Tryz.ntmps42
  go_wp2
  exact bodyPost_ret (v := (X.mk 16 val0 ⟨#[]⟩ ⟨#[]⟩ a n cap c).val) (by simp [results, Tryz.results42, go_sem]; exact ⟨rfl, rfl, rfl, rfl, rfl, rfl, rfl, rfl, rfl⟩) rfl ⟨rfl, (Below.refl _ _).alloc (Nat.le_refl _) _⟩
set_option maxRecDepth 100000 in
set_option maxHeartbeats 2000000 in
theorem cloneI_any (a : Option Addr) (n cap : Nat) (c : Nat → It) (w : World) (h : Its w a n c) (hn : n ≤ 1048576) :
    Calls Tryz.prog 49 #[.slice a n cap] w fun e w' => ∃ v, e = .returned v ∧ w'.ownsRow w.heap.size 56 4 v n (rowI4 c n) ∧ Below w.heap.size w w' := by
  cases a with
  | none =>
    obtain rfl : n = 0 := by
      by_cases h0 : 0 < n
      · obtain ⟨_, _, e, _⟩ := h 0 h0
        cases e
      · omega
    clear h
    have he : ∀ w : World, (binOp .eql 26 (.slice none 0 cap) (.slice none 0 0)).run Tryz.prog w = .ok (.bool true) w := fun _ => rfl
    go_enter Tryz.func49, Tryz.ntmps49
    go_wp2
    go_ret
    exact ⟨_, rfl, World.ownsRow_nil _ _ _ _, Below.refl _ _⟩
  | some x =>
    have hB0 : Below w.heap.size w (w.alloc (.cells #[] 56)) := (Below.refl _ _).alloc (Nat.le_refl _) _
    have hown0 : (w.alloc (.cells #[] 56)).ownsRow w.heap.size 56 4 (.slice (some ⟨w.heap.size, 0, none⟩) 0 0) 0 [] :=
      ⟨rfl, .inr ⟨w.heap.size, 0, #[], rfl, Nat.le_refl _, alloc_new w _, Nat.le_refl _, Nat.zero_le _, rfl, rfl⟩⟩
    obtain ⟨v1, w1, hrun1, hown1, hg1⟩ := push_i hown0 (by simp) x n cap c (fun i hi => by
      obtain ⟨b', o', e, hn'⟩ := h i hi
      cases e
      exact ⟨b', o', rfl, hn'.later hB0⟩) (by omega)
    simp only [Nat.zero_add, List.nil_append] at hown1
    have hB1 : Below w.heap.size w w1 := hB0.grown hg1 (by simp) (by intro k hk; simp [Value.ownBlock] at hk; omega)
    have HR1 : Hid (_ = _) := hrun1
    clear h hown0 hB0 hg1 hrun1
    have he : ∀ w : World, (binOp .eql 26 (.slice (some x) n cap) (.slice none 0 0)).run Tryz.prog w = .ok (.bool false) w := fun _ => rfl
    go_enter Tryz.func49, Tryz.ntmps49
    go_wp2_with (first | (at_builtin; refine wpList_append_run rfl (.tmp 5) (.tmp 6) 26 rfl _ _ _ rfl rfl HR1.out ?_))
    go_ret
    exact ⟨_, rfl, hown1, hB1⟩
end Go.Proofs.YtinnhaojmnmliaaGreat
namespace Go.Proofs.YtinnhaojmnmliaaGreat
open Go.RowKit Go.Shelf
attribute [local go_sem] Oper.semAt_some

set_option maxRecDepth 100000 in
set_option maxHeartbeats 1000000 in
theorem backward_in (n : Nat) (a : Option Addr) (m cap : Nat) (w : World) :
    CallsIn Fence.wide n Tryz.prog 76 #[.slice a m cap] w fun e w' => e = .returned (.func (.func 99) #[] #[.pointer (some ⟨w.heap.size, 0, none⟩)]) ∧ w' = w.alloc (.cells #[.slice a m cap] 42) := by
  refine callsIn_of_wp Tryz.func76 rfl trivial ?_ rfl
  simp only [Tryz.ntmps76, List.size_toArray, List.length_cons, List.length_nil, Nat.reduceAdd, Nat.reduceSub, Array.replicate_succ, Array.replicate_zero, List.push_toArray, List.append_toArray, List.nil_append, List.cons_append]
  gi_wp2
  go_ret
  exact ⟨rfl, rfl⟩
theorem Txs.kept {T : Nat → Prop} {W W' : World} (h : Kp T W W') {a : Option Addr} {n : Nat} {S : Nat → ByteArray} (hT : ∀ b o, a = some ⟨b, o, none⟩ → T b) (hx : Txs W a n S) : Txs W' a n S := fun h0 => by
  obtain ⟨b, o, e, hc⟩ := hx h0
  exact ⟨b, o, e, fun j hj => h.cell (p := ⟨b, o + j, none⟩) (hT b o e) (hc j hj)⟩
theorem Txs.ag {B : Nat} {W A : World} (h : Ag B W A) {a : Option Addr} {n : Nat} {S : Nat → ByteArray} (hx : Txs W a n S) : Txs A a n S := fun h0 => by
  obtain ⟨b, o, e, hc⟩ := hx h0
  exact ⟨b, o, e, fun j hj => (h.cell _).trans (hc j hj)⟩

set_option maxRecDepth 100000 in
set_option maxHeartbeats 4000000 in
/-- The function that slices.Backward hands back: from the last down to the first. -/
theorem back1_in (n l Bs : Nat) (av : Option Addr) (m cap : Nat) (S : Nat → ByteArray) (J : Nat → World → Prop) (W : World) (hm : m ≤ 1048576) (h0 : J m W)
    (hB : ∀ k W, J k W → W.cell? ⟨Bs, 0, none⟩ = some (.slice av m cap) ∧ Txs W av m S)
    (hY : ∀ (m' k : Nat) (W : World), k < m → J (k + 1) W → YieldAt Fence.wide m' Tryz.prog l #[.int .i64 (k : Nat), .string (S k)] W fun e W' => e = .returned (.bool true) ∧ J k W') :
    CallsIn Fence.wide n Tryz.prog 99 #[.func (.yield l) #[] #[], .pointer (some ⟨Bs, 0, none⟩)] W fun e W' => (∃ v, e = .returned v) ∧ J 0 W' := by
  have hdd : ∀ k : Nat, (Fence.wide.depth.isSome = true → 1 ≤ k) := fun k h => by cases h
  have c0 := (hB m W h0).1
  refine callsIn_of_wp Tryz.func99 rfl trivial ?_ rfl
  simp only [Tryz.ntmps99, List.size_toArray, List.length_cons, List.length_nil, Nat.reduceAdd, Nat.reduceSub, Array.replicate_succ, Array.replicate_zero, List.push_toArray, List.append_toArray, List.nil_append, List.cons_append]
  gi_wp2
  gi_loopw [3] (fun u wr => ∃ k : Nat, k ≤ m ∧ u = .int .i64 ((k : Int) - 1) ∧ J k wr) (fun u _ => (intOf u + 1).toNat)
  case atStart => exact ⟨m, Nat.le_refl _, by go_num, h0⟩
  case round =>
    obtain ⟨k, hk, rfl, hj⟩ := hrel
    match k, hk, hj with
    | 0, hk, hj =>
      gi_wp2
      go_end0
      exact ⟨⟨_, rfl⟩, hj⟩
    | k + 1, hk, hj =>
      obtain ⟨c1, hx⟩ := hB _ _ hj
      obtain ⟨b, o, rfl, hc⟩ := hx (by omega)
      have c2 := hc k (by omega)
      have e1 : (((k + 1 : Nat) : Int) - 1) = (k : Int) := by omega
      obtain ⟨fn, tmps, assign, body, hy, hR⟩ := hY (n - 1) k wr (by omega) hj
      clear hc hx hY
      rw [e1]
      gi_wp2_with (first
        | ((try refine ⟨hdd _, ?_⟩); refine hR.mono ?_; clear hR; rintro e W1 ⟨rfl, hj1⟩))
      exact ⟨⟨k, by omega, by go_num, hj1⟩, by simp [intOf]⟩
/-- How a body that writes into no older cell may be left. -/
def lowPost (B : Nat) (J : World → Prop) (W : World) : Exit → Act → World → Prop
  | .normal, _, W' => KeepsFrom B W W' ∧ Kp (fun k => k < B) W W' ∧ J W'
  | _, _, _ => False
/-- A range over texts from the last to the first. -/
theorem back_fold {n : Nat} {g : Operand} {ps : Array Tmp} {assign body : Code} {Q : Exit → Act → World → Prop} {a : Act} {w : World} (Bs : Nat) (av : Option Addr) (m cap : Nat) (S : Nat → ByteArray) (J : Nat → World → Prop)
    (hg : a.eval g = .func (.func 99) #[] #[.pointer (some ⟨Bs, 0, none⟩)]) (hps : ps.size = 2) (hBs : Boxed w Bs 42 (.slice av m cap)) (hx : Txs w av m S) (hm : m ≤ 1048576)
    (hJ : ∀ k W A, Ag w.heap.size W A → J k W → J k A) (h0 : ∀ W, Below w.heap.size w W → J m W)
    (a₁ : Nat → Act)
    (hassign : ∀ (l k : Nat) (W : World) (K : Act → World → Prop), K (a₁ k) W →
      assign.wpIn (Fence.wide.inRound l) (n - 1 - 1) Tryz.prog (Exit.then K (fun _ _ _ => False)) { tmps := (ps.zip #[.int .i64 k, .string (S k)]).foldl (fun t (p, v) => t.setIfInBounds p v) a.tmps, defers := [] } W)
    (hbody : ∀ (l k : Nat) (W : World), k < m → J (k + 1) W → w.heap.size + 2 ≤ W.heap.size →
      body.wpIn (Fence.wide.inRound l) (n - 1 - 1) Tryz.prog (lowPost w.heap.size (J k) W) (a₁ k) W)
    (hdone : ∀ (D : Nat) (W : World), w.heap.size ≤ D → J 0 W → W.heap[D]? = some (.deferred (some [])) → Q .normal { a with defers := { target := .collected D, args := #[] } :: a.defers } W) :
    (Code.rangeFunc g ps assign body).wpIn Fence.wide n Tryz.prog Q a w := by
  have hlt : Bs < w.heap.size := hBs.lt
  refine wpIn_range (α := Nat) hg (enters_of Tryz.func99 (by kernel_rfl) rfl) (encs := fun k => #[.int .i64 k, .string (S k)]) (fun _ => hps.symm)
    (fun k W => k < m ∧ J (k + 1) W ∧ w.heap.size + 2 ≤ W.heap.size)
    (fun k W W' => Kp (fun k => k < w.heap.size) W W' ∧ J k W' ∧ w.heap.size + 2 ≤ W'.heap.size)
    (fun _ _ _ _ => False) (J 0) (fun _ _ => False) ?_ ?_ (fun _ _ _ _ _ _ _ _ h => h) (fun W A h => hJ _ W A h) (fun _ _ _ _ h => h) a₁ hassign ?_ ?_ hdone (fun _ _ _ _ h _ => h.elim)
  · rintro k W A hag ⟨h1, h2, h3⟩
    exact ⟨h1, hJ _ _ _ hag h2, by rw [hag.size]; exact h3⟩
  · rintro k W A A' W' hag hag' ⟨h1, h2, h3⟩
    exact ⟨Kp.ag hag hag' h1, hJ _ _ _ hag' h2, by rw [hag'.size]; exact h3⟩
  · rintro l k W ⟨h1, h2, h3⟩ _
    refine wpIn_mono (hbody l k W h1 h2 h3) ?_
    rintro e a3 W3 hp
    cases e with
    | normal => exact ⟨hp.1, hp.2.1, hp.2.2, Nat.le_trans h3 hp.1.size⟩
    | ret => exact hp.elim
    | exit id => exact hp.elim
    | goto t => exact hp.elim
    | panic ch => exact hp.elim
    | outgrown => exact hp.elim
  · intro l Rec RecX W1 hB1 hs1 hrec1 hrec hrecx hY
    refine (back1_in (n - 1) l Bs av m cap S (fun k W => J k W ∧ Rec W ∧ Kp (fun k => k < w.heap.size) w W ∧ w.heap.size + 2 ≤ W.heap.size) W1 hm ⟨h0 W1 hB1, hrec1, Kp.of_below hB1 fun _ h => h, by omega⟩ ?_ ?_).mono ?_
    · rintro k W ⟨h1, h2, h3, h4⟩
      refine ⟨(h3.boxed hlt hBs).cell, fun hm0 => (Txs.kept h3 (fun b o e => Txs.lt hx hm0 e) hx) hm0⟩
    · rintro m' k W hk ⟨h1, h2, h3, h4⟩
      refine YieldAt.mono (hY m' k W ⟨hk, h1, h4⟩ h2) ?_
      rintro e W' (⟨rfl, ⟨k1, k2, k3⟩, k4, -⟩ | ⟨rfl, c, k1, k2⟩)
      · exact ⟨rfl, k2, k4, h3.trans k1, k3⟩
      · exact k1.elim
    · rintro e W' ⟨hv, h1, h2, h3, h4⟩
      exact ⟨hv, .inl ⟨h1, h2⟩⟩
end Go.Proofs.YtinnhaojmnmliaaGreat
namespace Go.Proofs.YtinnhaojmnmliaaGreat
open Go.RowKit Go.Shelf
attribute [local go_sem] Oper.semAt_some

theorem nodes_walk {ι : Type} {n : Nat} {g : Operand} {ps : Array Tmp} {assign body : Code} {Q : Exit → Act → World → Prop} {a : Act} {w : World} (Bp b0 o0 : Nat) (v0 : ι) (kids : ι → Nat) (kid : ι → Nat → ι) (rank : ι → Nat)
    (Pre : ι → Nat → Nat → World → Prop) (Go : ι → Nat → Nat → World → World → Prop) (Mid : ι → Nat → Nat → World → Option Addr → Nat → Nat → World → Prop) (Post : ι → Nat → Nat → World → World → Prop)
    (hg : a.eval g = .func (.func 80) #[] #[.pointer (some ⟨Bp, 0, none⟩)]) (hps : ps.size = 2) (hBp : w.cell? ⟨Bp, 0, none⟩ = some (.pointer (some ⟨b0, o0, none⟩)))
    (hrank : ∀ v i, i < kids v → rank (kid v i) < rank v)
    (hPre : ∀ v b o W A, Ag w.heap.size W A → Pre v b o W → Pre v b o A)
    (hGo : ∀ v b o W A A' W', Ag w.heap.size W A → Ag w.heap.size A' W' → Go v b o A A' → Go v b o W W')
    (hPost : ∀ v b o W W' A, Ag w.heap.size W' A → Post v b o W W' → Post v b o W A)
    (h0 : ∀ W, Below w.heap.size w W → W.heap.size = w.heap.size + 4 → Pre v0 b0 o0 W)
    (a₁ : Int → Nat → Nat → Act)
    (hassign : ∀ (l : Nat) (d : Int) (b o : Nat) (W : World) (K : Act → World → Prop), K (a₁ d b o) W →
      assign.wpIn (Fence.wide.inRound l) (n - 1 - 1) Tryz.prog (Exit.then K (fun _ _ _ => False)) { tmps := (ps.zip #[.int .i64 d, .pointer (some ⟨b, o, none⟩)]).foldl (fun t (p, v) => t.setIfInBounds p v) a.tmps, defers := [] } W)
    (hbody : ∀ (l : Nat) (d : Int) (b o : Nat) (v : ι) (W : World), Pre v b o W → w.heap.size + 4 ≤ W.heap.size → (∃ u, Boxed W (w.heap.size + 2) 110 u) → (∃ u, Boxed W (w.heap.size + 3) 110 u) →
      body.wpIn (Fence.wide.inRound l) (n - 1 - 1) Tryz.prog (walkPost w.heap.size (Go v b o W) W) (a₁ d b o) W)
    (hM : ∀ v b o W W', Pre v b o W → Go v b o W W' → ∃ a cap, Mid v b o W a cap 0 W')
    (hL : ∀ v b o W a cap i Wi, Mid v b o W a cap i Wi → kids v ≤ 9223372036854775807 ∧ Wi.cell? ⟨b, o + 6, none⟩ = some (.slice a (kids v) cap))
    (hC : ∀ v b o W a cap i Wi, Mid v b o W a cap i Wi → i < kids v → ∃ b' o', a = some ⟨b', o', none⟩ ∧ Pre (kid v i) b' (o' + i * 7) Wi.drew ∧
      (∀ W', Post (kid v i) b' (o' + i * 7) Wi.drew W' → Mid v b o W a cap (i + 1) W'))
    (hE : ∀ v b o W a cap Wi, Mid v b o W a cap (kids v) Wi → Post v b o W Wi)
    (hdone : ∀ (D : Nat) (W2 W : World), w.heap.size ≤ D → Below w.heap.size w W2 → W2.heap.size = w.heap.size + 4 → Post v0 b0 o0 W2 W → W.heap[D]? = some (.deferred (some [])) → Q .normal { a with defers := { target := .collected D, args := #[] } :: a.defers } W) :
    (Code.rangeFunc g ps assign body).wpIn Fence.wide n Tryz.prog Q a w := by
  obtain ⟨T, hT⟩ : ∃ T : Nat → Prop, T = fun k => k = w.heap.size + 2 ∨ k = w.heap.size + 3 := ⟨_, rfl⟩
  refine wpIn_range (α := Got ι) hg (enters_of Tryz.func80 (by kernel_rfl) rfl) (encs := fun v => #[.int .i64 v.d, .pointer (some ⟨v.b, v.o, none⟩)]) (fun _ => hps.symm)
    (fun v W => Pre v.v v.b v.o W ∧ w.heap.size + 4 ≤ W.heap.size ∧ (∃ u, Boxed W (w.heap.size + 2) 110 u) ∧ ∃ u, Boxed W (w.heap.size + 3) 110 u)
    (fun v W W' => Kp T W W' ∧ Go v.v v.b v.o W W' ∧ w.heap.size + 4 ≤ W'.heap.size)
    (fun _ _ _ _ => False) (fun W => ∃ W2, Below w.heap.size w W2 ∧ W2.heap.size = w.heap.size + 4 ∧ Post v0 b0 o0 W2 W) (fun _ _ => False) ?_ ?_ (fun _ _ _ _ _ _ _ _ h => h) ?_ (fun _ _ _ _ h => h) (fun v => a₁ v.d v.b v.o) (fun l v W K hK => hassign l v.d v.b v.o W K hK) ?_ ?_
    (fun D W hD h hK => by obtain ⟨W2, h1, h2, h3⟩ := h; exact hdone D W2 W hD h1 h2 h3 hK) (fun _ _ _ _ h _ => h.elim)
  · rintro v W A hag ⟨h1, h2, ⟨u, h3⟩, u', h4⟩
    exact ⟨hPre _ _ _ _ _ hag h1, by rw [hag.size]; exact h2, ⟨u, hag.boxed h3⟩, u', hag.boxed h4⟩
  · rintro v W A A' W' hag hag' ⟨h1, h2, h3⟩
    exact ⟨Kp.ag hag hag' h1, hGo _ _ _ _ _ _ _ hag hag' h2, by rw [hag'.size]; exact h3⟩
  · rintro W A hag ⟨W2, h1, h2, h3⟩
    exact ⟨W2, h1, h2, hPost _ _ _ _ _ _ hag h3⟩
  · rintro l v W ⟨h1, h2, h3, h4⟩ _
    refine wpIn_mono (hbody l v.d v.b v.o v.v W h1 h2 h3 h4) ?_
    rintro e a3 W3 hp
    cases e with
    | normal => exact ⟨hp.1, by rw [hT]; exact hp.2.1, hp.2.2, Nat.le_trans h2 hp.1.size⟩
    | ret => exact hp.elim
    | exit id => exact hp.elim
    | goto t => exact hp.elim
    | panic ch => exact hp.elim
    | outgrown => exact hp.elim
  · intro l Rec RecX W1 hB1 hs1 hrec1 hrec hrecx hY
    have hlt : Bp < w.heap.size := by
      obtain ⟨ob, ho, -⟩ := cells_of_cell hBp
      exact (Array.getElem?_eq_some_iff.1 ho).1
    refine (nodes1_in (n - 1) l Bp b0 o0 W1 (fun e W' => e = .returned (.bool true) ∧ (∃ W2, Below w.heap.size w W2 ∧ W2.heap.size = w.heap.size + 4 ∧ Post v0 b0 o0 W2 W') ∧ Rec W') ((hB1.cell (p := ⟨Bp, 0, none⟩) hlt).trans hBp) ?_).mono ?_
    · intro W2 by2 bd2 hB2 hs2
      have hBW : Below w.heap.size w W2 := hB1.trans (hB2.mono (by omega))
      have key := down_any (ι := ι) l W1.heap.size (W1.heap.size + 1) kids kid rank
        (fun v b o _ W => Pre v b o W ∧ Rec W ∧ Boxed W W1.heap.size 110 (.func (.yield l) #[] #[]) ∧ Boxed W (W1.heap.size + 1) 110 (downV W1.heap.size (W1.heap.size + 1)) ∧ w.heap.size + 4 ≤ W.heap.size)
        (fun v b o _ W a cap i Wi => Mid v b o W a cap i Wi ∧ Rec Wi ∧ Boxed Wi W1.heap.size 110 (.func (.yield l) #[] #[]) ∧ Boxed Wi (W1.heap.size + 1) 110 (downV W1.heap.size (W1.heap.size + 1)) ∧ w.heap.size + 4 ≤ Wi.heap.size ∧ Kp T W Wi)
        (fun v b o _ W W' => Post v b o W W' ∧ Rec W' ∧ Kp T W W' ∧ w.heap.size + 4 ≤ W'.heap.size)
        (fun _ _ _ _ _ _ => False)
        hrank (fun v b o d W h => h.2.2.1.cell) ?_ ?_ ?_ ?_ (rank v0 + 1) v0 (by omega) (n - 1 - 1) b0 o0 1 W2 ?_
      · refine key.mono ?_
        rintro e W' (⟨rfl, h1, h2, -⟩ | ⟨rfl, h⟩)
        · exact ⟨true, rfl, rfl, ⟨W2, hBW, by omega, h1⟩, h2⟩
        · exact h.elim
      · rintro v b o d W ⟨h1, h5, h6, h7, h8⟩
        refine YieldAt.mono (hY 0 ⟨d, b, o, v⟩ W ⟨h1, h8, ⟨_, by rw [show w.heap.size + 2 = W1.heap.size by omega]; exact h6⟩, _, by rw [show w.heap.size + 3 = W1.heap.size + 1 by omega]; exact h7⟩ h5) ?_
        rintro e W' (⟨rfl, ⟨k1, k2, k3⟩, k4, -⟩ | ⟨rfl, c, k1, k2⟩)
        · obtain ⟨a', cap', hm⟩ := hM _ _ _ _ _ h1 k2
          exact .inl ⟨rfl, a', cap', hm, k4, k1.boxed (by rw [hT]; exact .inl (by omega)) h6, k1.boxed (by rw [hT]; exact .inr (by omega)) h7, k3, k1⟩
        · exact k1.elim
      · rintro v b o d W a' cap' i Wi ⟨h1, h5, h6, h7, h8, h9⟩
        obtain ⟨q1, q2⟩ := hL _ _ _ _ _ _ _ _ h1
        exact ⟨q1, q2, h7.cell⟩
      · rintro v b o d W a' cap' i Wi ⟨h1, h5, h6, h7, h8, h9⟩ hi
        obtain ⟨b', o', ea, hp, hq⟩ := hC _ _ _ _ _ _ _ _ h1 hi
        refine ⟨b', o', ea, ⟨hp, hrec Wi Wi.drew ⟨Nat.le_refl _, fun _ _ _ h _ => h⟩ h5, h6, h7, h8⟩, ?_, fun W' h => h⟩
        rintro W' ⟨k1, k2, k3, k4⟩
        have kk : Kp T Wi W' := k3
        exact ⟨hq W' k1, k2, kk.boxed (by rw [hT]; exact .inl (by omega)) h6, kk.boxed (by rw [hT]; exact .inr (by omega)) h7, k4, h9.trans kk⟩
      · rintro v b o d W a' cap' Wi ⟨h1, h5, h6, h7, h8, h9⟩
        exact ⟨hE _ _ _ _ _ _ _ h1, h5, h9, h8⟩
      · refine ⟨h0 W2 hBW (by omega), hrec W1 W2 ⟨by omega, fun k o hk ho _ => ?_⟩ hrec1, by2, bd2, by omega⟩
        exact (hB2.block k (Array.getElem?_eq_some_iff.1 ho).1).trans ho
    · rintro e W' ⟨hv, r, -, h1, h2⟩
      exact ⟨hv, .inl ⟨h1, h2⟩⟩
end Go.Proofs.YtinnhaojmnmliaaGreat
