/-
  A range over all nodes whose rounds may write: told by relations between worlds.
-/
import Derived.Test.YtjclelmbpmlioaaPatNodes
namespace Go.Proofs.Ytjclelmbpmlioaa
open Go.RowKit Go.Shelf
attribute [local go_sem] Oper.semAt_some

theorem nodesP_walk {ι : Type} {n : Nat} {g : Operand} {ps : Array Tmp} {assign body : Code} {Q : Exit → Act → World → Prop} {a : Act} {w : World} (Bp b0 o0 : Nat) (v0 : ι) (kids : ι → Nat) (kid : ι → Nat → ι) (rank : ι → Nat)
    (Pre : ι → Nat → Nat → World → Prop) (Go : ι → Nat → Nat → World → World → Prop) (Mid : ι → Nat → Nat → World → Option Addr → Nat → Nat → World → Prop) (Post : ι → Nat → Nat → World → World → Prop)
    (hg : a.eval g = .func (.func 44) #[] #[.pointer (some ⟨Bp, 0, none⟩)]) (hps : ps.size = 2) (hBp : w.cell? ⟨Bp, 0, none⟩ = some (.pointer (some ⟨b0, o0, none⟩)))
    (hrank : ∀ v i, i < kids v → rank (kid v i) < rank v)
    (hPre : ∀ v b o W A, Ag w.heap.size W A → Pre v b o W → Pre v b o A)
    (hGo : ∀ v b o W A A' W', Ag w.heap.size W A → Ag w.heap.size A' W' → Go v b o A A' → Go v b o W W')
    (hPost : ∀ v b o W W' A, Ag w.heap.size W' A → Post v b o W W' → Post v b o W A)
    (h0 : ∀ W, Below w.heap.size w W → W.heap.size = w.heap.size + 4 → Pre v0 b0 o0 W)
    (a₁ : Int → Nat → Nat → Act)
    (hassign : ∀ (l : Nat) (d : Int) (b o : Nat) (W : World) (K : Act → World → Prop), K (a₁ d b o) W →
      assign.wpIn (Fence.wide.inRound l) (n - 1 - 1) Try.prog (Exit.then K (fun _ _ _ => False)) { tmps := (ps.zip #[.int .i64 d, .pointer (some ⟨b, o, none⟩)]).foldl (fun t (p, v) => t.setIfInBounds p v) a.tmps, defers := [] } W)
    (hbody : ∀ (l : Nat) (d : Int) (b o : Nat) (v : ι) (W : World), Pre v b o W → w.heap.size + 4 ≤ W.heap.size → (∃ u, Boxed W (w.heap.size + 2) 79 u) → (∃ u, Boxed W (w.heap.size + 3) 79 u) →
      body.wpIn (Fence.wide.inRound l) (n - 1 - 1) Try.prog (walkPost w.heap.size (Go v b o W) W) (a₁ d b o) W)
    (hM : ∀ v b o W W', Pre v b o W → Go v b o W W' → ∃ a cap, Mid v b o W a cap 0 W')
    (hL : ∀ v b o W a cap i Wi, Mid v b o W a cap i Wi → kids v ≤ 9223372036854775807 ∧ Wi.cell? ⟨b, o + 5, none⟩ = some (.slice a (kids v) cap))
    (hC : ∀ v b o W a cap i Wi, Mid v b o W a cap i Wi → i < kids v → ∃ b' o', a = some ⟨b', o', none⟩ ∧ Pre (kid v i) b' (o' + i * 6) Wi.drew ∧
      (∀ W', Post (kid v i) b' (o' + i * 6) Wi.drew W' → Mid v b o W a cap (i + 1) W'))
    (hE : ∀ v b o W a cap Wi, Mid v b o W a cap (kids v) Wi → Post v b o W Wi)
    (hdone : ∀ (D : Nat) (W2 W : World), w.heap.size ≤ D → Below w.heap.size w W2 → W2.heap.size = w.heap.size + 4 → Post v0 b0 o0 W2 W → W.heap[D]? = some (.deferred (some [])) → Q .normal { a with defers := { target := .collected D, args := #[] } :: a.defers } W) :
    (Code.rangeFunc g ps assign body).wpIn Fence.wide n Try.prog Q a w := by
  obtain ⟨T, hT⟩ : ∃ T : Nat → Prop, T = fun k => k = w.heap.size + 2 ∨ k = w.heap.size + 3 := ⟨_, rfl⟩
  refine wpIn_range (α := Got ι) hg (enters_of Try.func44 (by kernel_rfl) rfl) (encs := fun v => #[.int .i64 v.d, .pointer (some ⟨v.b, v.o, none⟩)]) (fun _ => hps.symm)
    (fun v W => Pre v.v v.b v.o W ∧ w.heap.size + 4 ≤ W.heap.size ∧ (∃ u, Boxed W (w.heap.size + 2) 79 u) ∧ ∃ u, Boxed W (w.heap.size + 3) 79 u)
    (fun v W W' => Kp T W W' ∧ Go v.v v.b v.o W W' ∧ w.heap.size + 4 ≤ W'.heap.size)
    (fun _ _ _ _ => False) (fun W => ∃ W2, Below w.heap.size w W2 ∧ W2.heap.size = w.heap.size + 4 ∧ Post v0 b0 o0 W2 W) (fun _ _ => False) ?_ ?_ (fun _ _ _ _ _ _ _ _ h => h) ?_ (fun _ _ _ _ h => h) (fun v => a₁ v.d v.b v.o) (fun l v W K hK => hassign l v.d v.b v.o W K hK) ?_ ?_
    (fun D W hD h hK => by obtain ⟨W2, h1, h2, h3⟩ := h; exact hdone D W2 W hD h1 h2 h3 hK) (fun _ _ _ _ h _ => h.elim)
  · rintro v W A hag ⟨h1, h2, ⟨u, h3⟩, u', h4⟩
    exact ⟨hPre _ _ _ _ _ hag h1, by rw [hag.size]; exact h2, ⟨u, hag.boxed h3⟩, u', hag.boxed h4⟩
  · rintro v W A A' W' hag hag' ⟨h1, h2, h3⟩
    exact ⟨Kp.ag hag hag' h1, hGo _ _ _ _ _ _ _ hag hag' h2, by rw [hag'.size]; exact h3⟩
  · rintro W A hag ⟨W2, h1, h2, h3⟩
    exact ⟨W2, h1, h2, hPost _ _ _ _ _ _ hag h3⟩
  · rintro l v W ⟨h1, h2, h3, h4⟩ _
    refine wpIn_mono (hbody l v.d v.b v.o v.v W h1 h2 h3 h4) ?_
    rintro e a3 W3 hp
    cases e with
    | normal => exact ⟨hp.1, by rw [hT]; exact hp.2.1, hp.2.2, Nat.le_trans h2 hp.1.size⟩
    | ret => exact hp.elim
    | exit id => exact hp.elim
    | goto t => exact hp.elim
    | panic ch => exact hp.elim
    | outgrown => exact hp.elim
  · intro l Rec RecX W1 hB1 hs1 hrec1 hrec hrecx hY
    have hlt : Bp < w.heap.size := by
      obtain ⟨ob, ho, -⟩ := cells_of_cell hBp
      exact (Array.getElem?_eq_some_iff.1 ho).1
    refine (nodesP1_in (n - 1) l Bp b0 o0 W1 (fun e W' => e = .returned (.bool true) ∧ (∃ W2, Below w.heap.size w W2 ∧ W2.heap.size = w.heap.size + 4 ∧ Post v0 b0 o0 W2 W') ∧ Rec W') ((hB1.cell (p := ⟨Bp, 0, none⟩) hlt).trans hBp) ?_).mono ?_
    · intro W2 by2 bd2 hB2 hs2
      have hBW : Below w.heap.size w W2 := hB1.trans (hB2.mono (by omega))
      have key := downP_any (ι := ι) l W1.heap.size (W1.heap.size + 1) kids kid rank
        (fun v b o _ W => Pre v b o W ∧ Rec W ∧ Boxed W W1.heap.size 79 (.func (.yield l) #[] #[]) ∧ Boxed W (W1.heap.size + 1) 79 (downPV W1.heap.size (W1.heap.size + 1)) ∧ w.heap.size + 4 ≤ W.heap.size)
        (fun v b o _ W a cap i Wi => Mid v b o W a cap i Wi ∧ Rec Wi ∧ Boxed Wi W1.heap.size 79 (.func (.yield l) #[] #[]) ∧ Boxed Wi (W1.heap.size + 1) 79 (downPV W1.heap.size (W1.heap.size + 1)) ∧ w.heap.size + 4 ≤ Wi.heap.size ∧ Kp T W Wi)
        (fun v b o _ W W' => Post v b o W W' ∧ Rec W' ∧ Kp T W W' ∧ w.heap.size + 4 ≤ W'.heap.size)
        (fun _ _ _ _ _ _ => False)
        hrank (fun v b o d W h => h.2.2.1.cell) ?_ ?_ ?_ ?_ (rank v0 + 1) v0 (by omega) (n - 1 - 1) b0 o0 1 W2 ?_
      · refine key.mono ?_
        rintro e W' (⟨rfl, h1, h2, -⟩ | ⟨rfl, h⟩)
        · exact ⟨true, rfl, rfl, ⟨W2, hBW, by omega, h1⟩, h2⟩
        · exact h.elim
      · rintro v b o d W ⟨h1, h5, h6, h7, h8⟩
        refine YieldAt.mono (hY 0 ⟨d, b, o, v⟩ W ⟨h1, h8, ⟨_, by rw [show w.heap.size + 2 = W1.heap.size by omega]; exact h6⟩, _, by rw [show w.heap.size + 3 = W1.heap.size + 1 by omega]; exact h7⟩ h5) ?_
        rintro e W' (⟨rfl, ⟨k1, k2, k3⟩, k4, -⟩ | ⟨rfl, c, k1, k2⟩)
        · obtain ⟨a', cap', hm⟩ := hM _ _ _ _ _ h1 k2
          exact .inl ⟨rfl, a', cap', hm, k4, k1.boxed (by rw [hT]; exact .inl (by omega)) h6, k1.boxed (by rw [hT]; exact .inr (by omega)) h7, k3, k1⟩
        · exact k1.elim
      · rintro v b o d W a' cap' i Wi ⟨h1, h5, h6, h7, h8, h9⟩
        obtain ⟨q1, q2⟩ := hL _ _ _ _ _ _ _ _ h1
        exact ⟨q1, q2, h7.cell⟩
      · rintro v b o d W a' cap' i Wi ⟨h1, h5, h6, h7, h8, h9⟩ hi
        obtain ⟨b', o', ea, hp, hq⟩ := hC _ _ _ _ _ _ _ _ h1 hi
        refine ⟨b', o', ea, ⟨hp, hrec Wi Wi.drew ⟨Nat.le_refl _, fun _ _ _ h _ => h⟩ h5, h6, h7, h8⟩, ?_, fun W' h => h⟩
        rintro W' ⟨k1, k2, k3, k4⟩
        have kk : Kp T Wi W' := k3
        exact ⟨hq W' k1, k2, kk.boxed (by rw [hT]; exact .inl (by omega)) h6, kk.boxed (by rw [hT]; exact .inr (by omega)) h7, k4, h9.trans kk⟩
      · rintro v b o d W a' cap' Wi ⟨h1, h5, h6, h7, h8, h9⟩
        exact ⟨hE _ _ _ _ _ _ _ h1, h5, h9, h8⟩
      · refine ⟨h0 W2 hBW (by omega), hrec W1 W2 ⟨by omega, fun k o hk ho _ => ?_⟩ hrec1, by2, bd2, by omega⟩
        exact (hB2.block k (Array.getElem?_eq_some_iff.1 ho).1).trans ho
    · rintro e W' ⟨hv, r, -, h1, h2⟩
      exact ⟨hv, .inl ⟨h1, h2⟩⟩
end Go.Proofs.Ytjclelmbpmlioaa
