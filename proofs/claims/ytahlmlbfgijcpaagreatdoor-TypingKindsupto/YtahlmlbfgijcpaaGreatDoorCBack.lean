/-
  A range over all nodes whose rounds may write: told by relations between worlds.
  A range over slices.Backward of texts.
  A range over slices.Backward of texts whose body may return.
-/
import Derived.Test.YtahlmlbfgijcpaaGreatDoorCExprNodes
import Derived.Test.YtahlmlbfgijcpaaGreatDoorCExprBase
namespace Go.Proofs.YtahlmlbfgijcpaaGreatDoor
open Go.RowKit Go.Shelf
attribute [local go_sem] Oper.semAt_some

/-- How a body that does what it does to a node may be left. -/
def walkPost (B : Nat) (G : World → Prop) (W : World) : Exit → Act → World → Prop
  | .normal, _, W' => KeepsFrom B W W' ∧ Kp (fun k => k = B + 2 ∨ k = B + 3) W W' ∧ G W'
  | _, _, _ => False
/-- What a round is handed. -/
structure Got (ι : Type) where
  d : Int
  b : Nat
  o : Nat
  v : ι

theorem nodes_walk {ι : Type} {n : Nat} {g : Operand} {ps : Array Tmp} {assign body : Code} {Q : Exit → Act → World → Prop} {a : Act} {w : World} (Bp b0 o0 : Nat) (v0 : ι) (kids : ι → Nat) (kid : ι → Nat → ι) (rank : ι → Nat)
    (Pre : ι → Nat → Nat → World → Prop) (Go : ι → Nat → Nat → World → World → Prop) (Mid : ι → Nat → Nat → World → Option Addr → Nat → Nat → World → Prop) (Post : ι → Nat → Nat → World → World → Prop)
    (hg : a.eval g = .func (.func 49) #[] #[.pointer (some ⟨Bp, 0, none⟩)]) (hps : ps.size = 2) (hBp : w.cell? ⟨Bp, 0, none⟩ = some (.pointer (some ⟨b0, o0, none⟩)))
    (hrank : ∀ v i, i < kids v → rank (kid v i) < rank v)
    (hPre : ∀ v b o W A, Ag w.heap.size W A → Pre v b o W → Pre v b o A)
    (hGo : ∀ v b o W A A' W', Ag w.heap.size W A → Ag w.heap.size A' W' → Go v b o A A' → Go v b o W W')
    (hPost : ∀ v b o W W' A, Ag w.heap.size W' A → Post v b o W W' → Post v b o W A)
    (h0 : ∀ W, Below w.heap.size w W → W.heap.size = w.heap.size + 4 → Pre v0 b0 o0 W)
    (a₁ : Int → Nat → Nat → Act)
    (hassign : ∀ (l : Nat) (d : Int) (b o : Nat) (W : World) (K : Act → World → Prop), K (a₁ d b o) W →
      assign.wpIn (Fence.wide.inRound l) (n - 1 - 1) Tryz.prog (Exit.then K (fun _ _ _ => False)) { tmps := (ps.zip #[.int .i64 d, .pointer (some ⟨b, o, none⟩)]).foldl (fun t (p, v) => t.setIfInBounds p v) a.tmps, defers := [] } W)
    (hbody : ∀ (l : Nat) (d : Int) (b o : Nat) (v : ι) (W : World), Pre v b o W → w.heap.size + 4 ≤ W.heap.size → (∃ u, Boxed W (w.heap.size + 2) 99 u) → (∃ u, Boxed W (w.heap.size + 3) 99 u) →
      body.wpIn (Fence.wide.inRound l) (n - 1 - 1) Tryz.prog (walkPost w.heap.size (Go v b o W) W) (a₁ d b o) W)
    (hM : ∀ v b o W W', Pre v b o W → Go v b o W W' → ∃ a cap, Mid v b o W a cap 0 W')
    (hL : ∀ v b o W a cap i Wi, Mid v b o W a cap i Wi → kids v ≤ 9223372036854775807 ∧ Wi.cell? ⟨b, o + 6, none⟩ = some (.slice a (kids v) cap))
    (hC : ∀ v b o W a cap i Wi, Mid v b o W a cap i Wi → i < kids v → ∃ b' o', a = some ⟨b', o', none⟩ ∧ Pre (kid v i) b' (o' + i * 7) Wi.drew ∧
      (∀ W', Post (kid v i) b' (o' + i * 7) Wi.drew W' → Mid v b o W a cap (i + 1) W'))
    (hE : ∀ v b o W a cap Wi, Mid v b o W a cap (kids v) Wi → Post v b o W Wi)
    (hdone : ∀ (D : Nat) (W2 W : World), w.heap.size ≤ D → Below w.heap.size w W2 → W2.heap.size = w.heap.size + 4 → Post v0 b0 o0 W2 W → W.heap[D]? = some (.deferred (some [])) → Q .normal { a with defers := { target := .collected D, args := #[] } :: a.defers } W) :
    (Code.rangeFunc g ps assign body).wpIn Fence.wide n Tryz.prog Q a w := by
  obtain ⟨T, hT⟩ : ∃ T : Nat → Prop, T = fun k => k = w.heap.size + 2 ∨ k = w.heap.size + 3 := ⟨_, rfl⟩
  refine wpIn_range (α := Got ι) hg (enters_of Tryz.func49 (by kernel_rfl) rfl) (encs := fun v => #[.int .i64 v.d, .pointer (some ⟨v.b, v.o, none⟩)]) (fun _ => hps.symm)
    (fun v W => Pre v.v v.b v.o W ∧ w.heap.size + 4 ≤ W.heap.size ∧ (∃ u, Boxed W (w.heap.size + 2) 99 u) ∧ ∃ u, Boxed W (w.heap.size + 3) 99 u)
    (fun v W W' => Kp T W W' ∧ Go v.v v.b v.o W W' ∧ w.heap.size + 4 ≤ W'.heap.size)
    (fun _ _ _ _ => False) (fun W => ∃ W2, Below w.heap.size w W2 ∧ W2.heap.size = w.heap.size + 4 ∧ Post v0 b0 o0 W2 W) (fun _ _ => False) ?_ ?_ (fun _ _ _ _ _ _ _ _ h => h) ?_ (fun _ _ _ _ h => h) (fun v => a₁ v.d v.b v.o) (fun l v W K hK => hassign l v.d v.b v.o W K hK) ?_ ?_
    (fun D W hD h hK => by obtain ⟨W2, h1, h2, h3⟩ := h; exact hdone D W2 W hD h1 h2 h3 hK) (fun _ _ _ _ h _ => h.elim)
  · rintro v W A hag ⟨h1, h2, ⟨u, h3⟩, u', h4⟩
    exact ⟨hPre _ _ _ _ _ hag h1, by rw [hag.size]; exact h2, ⟨u, hag.boxed h3⟩, u', hag.boxed h4⟩
  · rintro v W A A' W' hag hag' ⟨h1, h2, h3⟩
    exact ⟨Kp.ag hag hag' h1, hGo _ _ _ _ _ _ _ hag hag' h2, by rw [hag'.size]; exact h3⟩
  · rintro W A hag ⟨W2, h1, h2, h3⟩
    exact ⟨W2, h1, h2, hPost _ _ _ _ _ _ hag h3⟩
  · rintro l v W ⟨h1, h2, h3, h4⟩ _
    refine wpIn_mono (hbody l v.d v.b v.o v.v W h1 h2 h3 h4) ?_
    rintro e a3 W3 hp
    cases e with
    | normal => exact ⟨hp.1, by rw [hT]; exact hp.2.1, hp.2.2, Nat.le_trans h2 hp.1.size⟩
    | ret => exact hp.elim
    | exit id => exact hp.elim
    | goto t => exact hp.elim
    | panic ch => exact hp.elim
    | outgrown => exact hp.elim
  · intro l Rec RecX W1 hB1 hs1 hrec1 hrec hrecx hY
    have hlt : Bp < w.heap.size := by
      obtain ⟨ob, ho, -⟩ := cells_of_cell hBp
      exact (Array.getElem?_eq_some_iff.1 ho).1
    refine (nodes1_in (n - 1) l Bp b0 o0 W1 (fun e W' => e = .returned (.bool true) ∧ (∃ W2, Below w.heap.size w W2 ∧ W2.heap.size = w.heap.size + 4 ∧ Post v0 b0 o0 W2 W') ∧ Rec W') ((hB1.cell (p := ⟨Bp, 0, none⟩) hlt).trans hBp) ?_).mono ?_
    · intro W2 by2 bd2 hB2 hs2
      have hBW : Below w.heap.size w W2 := hB1.trans (hB2.mono (by omega))
      have key := down_any (ι := ι) l W1.heap.size (W1.heap.size + 1) kids kid rank
        (fun v b o _ W => Pre v b o W ∧ Rec W ∧ Boxed W W1.heap.size 99 (.func (.yield l) #[] #[]) ∧ Boxed W (W1.heap.size + 1) 99 (downV W1.heap.size (W1.heap.size + 1)) ∧ w.heap.size + 4 ≤ W.heap.size)
        (fun v b o _ W a cap i Wi => Mid v b o W a cap i Wi ∧ Rec Wi ∧ Boxed Wi W1.heap.size 99 (.func (.yield l) #[] #[]) ∧ Boxed Wi (W1.heap.size + 1) 99 (downV W1.heap.size (W1.heap.size + 1)) ∧ w.heap.size + 4 ≤ Wi.heap.size ∧ Kp T W Wi)
        (fun v b o _ W W' => Post v b o W W' ∧ Rec W' ∧ Kp T W W' ∧ w.heap.size + 4 ≤ W'.heap.size)
        (fun _ _ _ _ _ _ => False)
        hrank (fun v b o d W h => h.2.2.1.cell) ?_ ?_ ?_ ?_ (rank v0 + 1) v0 (by omega) (n - 1 - 1) b0 o0 1 W2 ?_
      · refine key.mono ?_
        rintro e W' (⟨rfl, h1, h2, -⟩ | ⟨rfl, h⟩)
        · exact ⟨true, rfl, rfl, ⟨W2, hBW, by omega, h1⟩, h2⟩
        · exact h.elim
      · rintro v b o d W ⟨h1, h5, h6, h7, h8⟩
        refine YieldAt.mono (hY 0 ⟨d, b, o, v⟩ W ⟨h1, h8, ⟨_, by rw [show w.heap.size + 2 = W1.heap.size by omega]; exact h6⟩, _, by rw [show w.heap.size + 3 = W1.heap.size + 1 by omega]; exact h7⟩ h5) ?_
        rintro e W' (⟨rfl, ⟨k1, k2, k3⟩, k4, -⟩ | ⟨rfl, c, k1, k2⟩)
        · obtain ⟨a', cap', hm⟩ := hM _ _ _ _ _ h1 k2
          exact .inl ⟨rfl, a', cap', hm, k4, k1.boxed (by rw [hT]; exact .inl (by omega)) h6, k1.boxed (by rw [hT]; exact .inr (by omega)) h7, k3, k1⟩
        · exact k1.elim
      · rintro v b o d W a' cap' i Wi ⟨h1, h5, h6, h7, h8, h9⟩
        obtain ⟨q1, q2⟩ := hL _ _ _ _ _ _ _ _ h1
        exact ⟨q1, q2, h7.cell⟩
      · rintro v b o d W a' cap' i Wi ⟨h1, h5, h6, h7, h8, h9⟩ hi
        obtain ⟨b', o', ea, hp, hq⟩ := hC _ _ _ _ _ _ _ _ h1 hi
        refine ⟨b', o', ea, ⟨hp, hrec Wi Wi.drew ⟨Nat.le_refl _, fun _ _ _ h _ => h⟩ h5, h6, h7, h8⟩, ?_, fun W' h => h⟩
        rintro W' ⟨k1, k2, k3, k4⟩
        have kk : Kp T Wi W' := k3
        exact ⟨hq W' k1, k2, kk.boxed (by rw [hT]; exact .inl (by omega)) h6, kk.boxed (by rw [hT]; exact .inr (by omega)) h7, k4, h9.trans kk⟩
      · rintro v b o d W a' cap' Wi ⟨h1, h5, h6, h7, h8, h9⟩
        exact ⟨hE _ _ _ _ _ _ _ h1, h5, h9, h8⟩
      · refine ⟨h0 W2 hBW (by omega), hrec W1 W2 ⟨by omega, fun k o hk ho _ => ?_⟩ hrec1, by2, bd2, by omega⟩
        exact (hB2.block k (Array.getElem?_eq_some_iff.1 ho).1).trans ho
    · rintro e W' ⟨hv, r, -, h1, h2⟩
      exact ⟨hv, .inl ⟨h1, h2⟩⟩
end Go.Proofs.YtahlmlbfgijcpaaGreatDoor
namespace Go.Proofs.YtahlmlbfgijcpaaGreatDoor
open Go.RowKit Go.Shelf
attribute [local go_sem] Oper.semAt_some

set_option maxRecDepth 100000 in
set_option maxHeartbeats 1000000 in
theorem backward_in (n : Nat) (a : Option Addr) (m cap : Nat) (w : World) :
    CallsIn Fence.wide n Tryz.prog 15 #[.slice a m cap] w fun e w' => e = .returned (.func (.func 31) #[] #[.pointer (some ⟨w.heap.size, 0, none⟩)]) ∧ w' = w.alloc (.cells #[.slice a m cap] 23) := by
  refine callsIn_of_wp Tryz.func15 rfl trivial ?_ rfl
  simp only [Tryz.ntmps15, List.size_toArray, List.length_cons, List.length_nil, Nat.reduceAdd, Nat.reduceSub, Array.replicate_succ, Array.replicate_zero, List.push_toArray, List.append_toArray, List.nil_append, List.cons_append]
  gi_wp2
  go_ret
  exact ⟨rfl, rfl⟩
theorem Txs.kept {T : Nat → Prop} {W W' : World} (h : Kp T W W') {a : Option Addr} {n : Nat} {S : Nat → ByteArray} (hT : ∀ b o, a = some ⟨b, o, none⟩ → T b) (hx : Txs W a n S) : Txs W' a n S := fun h0 => by
  obtain ⟨b, o, e, hc⟩ := hx h0
  exact ⟨b, o, e, fun j hj => h.cell (p := ⟨b, o + j, none⟩) (hT b o e) (hc j hj)⟩
theorem Txs.ag {B : Nat} {W A : World} (h : Ag B W A) {a : Option Addr} {n : Nat} {S : Nat → ByteArray} (hx : Txs W a n S) : Txs A a n S := fun h0 => by
  obtain ⟨b, o, e, hc⟩ := hx h0
  exact ⟨b, o, e, fun j hj => (h.cell _).trans (hc j hj)⟩

set_option maxRecDepth 100000 in
set_option maxHeartbeats 4000000 in
/-- The function that slices.Backward hands back: from the last down to the first. -/
theorem back1_in (n l Bs : Nat) (av : Option Addr) (m cap : Nat) (S : Nat → ByteArray) (J : Nat → World → Prop) (W : World) (hm : m ≤ 1048576) (h0 : J m W)
    (hB : ∀ k W, J k W → W.cell? ⟨Bs, 0, none⟩ = some (.slice av m cap) ∧ Txs W av m S)
    (hY : ∀ (m' k : Nat) (W : World), k < m → J (k + 1) W → YieldAt Fence.wide m' Tryz.prog l #[.int .i64 (k : Nat), .string (S k)] W fun e W' => e = .returned (.bool true) ∧ J k W') :
    CallsIn Fence.wide n Tryz.prog 31 #[.func (.yield l) #[] #[], .pointer (some ⟨Bs, 0, none⟩)] W fun e W' => (∃ v, e = .returned v) ∧ J 0 W' := by
  have hdd : ∀ k : Nat, (Fence.wide.depth.isSome = true → 1 ≤ k) := fun k h => by cases h
  have c0 := (hB m W h0).1
  refine callsIn_of_wp Tryz.func31 rfl trivial ?_ rfl
  simp only [Tryz.ntmps31, List.size_toArray, List.length_cons, List.length_nil, Nat.reduceAdd, Nat.reduceSub, Array.replicate_succ, Array.replicate_zero, List.push_toArray, List.append_toArray, List.nil_append, List.cons_append]
  gi_wp2
  gi_loopw [3] (fun u wr => ∃ k : Nat, k ≤ m ∧ u = .int .i64 ((k : Int) - 1) ∧ J k wr) (fun u _ => (intOf u + 1).toNat)
  case atStart => exact ⟨m, Nat.le_refl _, by go_num, h0⟩
  case round =>
    obtain ⟨k, hk, rfl, hj⟩ := hrel
    match k, hk, hj with
    | 0, hk, hj =>
      gi_wp2
      go_end0
      exact ⟨⟨_, rfl⟩, hj⟩
    | k + 1, hk, hj =>
      obtain ⟨c1, hx⟩ := hB _ _ hj
      obtain ⟨b, o, rfl, hc⟩ := hx (by omega)
      have c2 := hc k (by omega)
      have e1 : (((k + 1 : Nat) : Int) - 1) = (k : Int) := by omega
      obtain ⟨fn, tmps, assign, body, hy, hR⟩ := hY (n - 1) k wr (by omega) hj
      clear hc hx hY
      rw [e1]
      gi_wp2_with (first
        | ((try refine ⟨hdd _, ?_⟩); refine hR.mono ?_; clear hR; rintro e W1 ⟨rfl, hj1⟩))
      exact ⟨⟨k, by omega, by go_num, hj1⟩, by simp [intOf]⟩
/-- How a body that writes into no older cell may be left. -/
def lowPost (B : Nat) (J : World → Prop) (W : World) : Exit → Act → World → Prop
  | .normal, _, W' => KeepsFrom B W W' ∧ Kp (fun k => k < B) W W' ∧ J W'
  | _, _, _ => False
/-- A range over texts from the last to the first. -/
theorem back_fold {n : Nat} {g : Operand} {ps : Array Tmp} {assign body : Code} {Q : Exit → Act → World → Prop} {a : Act} {w : World} (Bs : Nat) (av : Option Addr) (m cap : Nat) (S : Nat → ByteArray) (J : Nat → World → Prop)
    (hg : a.eval g = .func (.func 31) #[] #[.pointer (some ⟨Bs, 0, none⟩)]) (hps : ps.size = 2) (hBs : Boxed w Bs 23 (.slice av m cap)) (hx : Txs w av m S) (hm : m ≤ 1048576)
    (hJ : ∀ k W A, Ag w.heap.size W A → J k W → J k A) (h0 : ∀ W, Below w.heap.size w W → J m W)
    (a₁ : Nat → Act)
    (hassign : ∀ (l k : Nat) (W : World) (K : Act → World → Prop), K (a₁ k) W →
      assign.wpIn (Fence.wide.inRound l) (n - 1 - 1) Tryz.prog (Exit.then K (fun _ _ _ => False)) { tmps := (ps.zip #[.int .i64 k, .string (S k)]).foldl (fun t (p, v) => t.setIfInBounds p v) a.tmps, defers := [] } W)
    (hbody : ∀ (l k : Nat) (W : World), k < m → J (k + 1) W → w.heap.size + 2 ≤ W.heap.size →
      body.wpIn (Fence.wide.inRound l) (n - 1 - 1) Tryz.prog (lowPost w.heap.size (J k) W) (a₁ k) W)
    (hdone : ∀ (D : Nat) (W : World), w.heap.size ≤ D → J 0 W → W.heap[D]? = some (.deferred (some [])) → Q .normal { a with defers := { target := .collected D, args := #[] } :: a.defers } W) :
    (Code.rangeFunc g ps assign body).wpIn Fence.wide n Tryz.prog Q a w := by
  have hlt : Bs < w.heap.size := hBs.lt
  refine wpIn_range (α := Nat) hg (enters_of Tryz.func31 (by kernel_rfl) rfl) (encs := fun k => #[.int .i64 k, .string (S k)]) (fun _ => hps.symm)
    (fun k W => k < m ∧ J (k + 1) W ∧ w.heap.size + 2 ≤ W.heap.size)
    (fun k W W' => Kp (fun k => k < w.heap.size) W W' ∧ J k W' ∧ w.heap.size + 2 ≤ W'.heap.size)
    (fun _ _ _ _ => False) (J 0) (fun _ _ => False) ?_ ?_ (fun _ _ _ _ _ _ _ _ h => h) (fun W A h => hJ _ W A h) (fun _ _ _ _ h => h) a₁ hassign ?_ ?_ hdone (fun _ _ _ _ h _ => h.elim)
  · rintro k W A hag ⟨h1, h2, h3⟩
    exact ⟨h1, hJ _ _ _ hag h2, by rw [hag.size]; exact h3⟩
  · rintro k W A A' W' hag hag' ⟨h1, h2, h3⟩
    exact ⟨Kp.ag hag hag' h1, hJ _ _ _ hag' h2, by rw [hag'.size]; exact h3⟩
  · rintro l k W ⟨h1, h2, h3⟩ _
    refine wpIn_mono (hbody l k W h1 h2 h3) ?_
    rintro e a3 W3 hp
    cases e with
    | normal => exact ⟨hp.1, hp.2.1, hp.2.2, Nat.le_trans h3 hp.1.size⟩
    | ret => exact hp.elim
    | exit id => exact hp.elim
    | goto t => exact hp.elim
    | panic ch => exact hp.elim
    | outgrown => exact hp.elim
  · intro l Rec RecX W1 hB1 hs1 hrec1 hrec hrecx hY
    refine (back1_in (n - 1) l Bs av m cap S (fun k W => J k W ∧ Rec W ∧ Kp (fun k => k < w.heap.size) w W ∧ w.heap.size + 2 ≤ W.heap.size) W1 hm ⟨h0 W1 hB1, hrec1, Kp.of_below hB1 fun _ h => h, by omega⟩ ?_ ?_).mono ?_
    · rintro k W ⟨h1, h2, h3, h4⟩
      refine ⟨(h3.boxed hlt hBs).cell, fun hm0 => (Txs.kept h3 (fun b o e => Txs.lt hx hm0 e) hx) hm0⟩
    · rintro m' k W hk ⟨h1, h2, h3, h4⟩
      refine YieldAt.mono (hY m' k W ⟨hk, h1, h4⟩ h2) ?_
      rintro e W' (⟨rfl, ⟨k1, k2, k3⟩, k4, -⟩ | ⟨rfl, c, k1, k2⟩)
      · exact ⟨rfl, k2, k4, h3.trans k1, k3⟩
      · exact k1.elim
    · rintro e W' ⟨hv, h1, h2, h3, h4⟩
      exact ⟨hv, .inl ⟨h1, h2⟩⟩
end Go.Proofs.YtahlmlbfgijcpaaGreatDoor
namespace Go.Proofs.YtahlmlbfgijcpaaGreatDoor
open Go.RowKit Go.Shelf
attribute [local go_sem] Oper.semAt_some

set_option maxRecDepth 100000 in
set_option maxHeartbeats 4000000 in
/-- The function that slices.Backward hands back: from the last down to the first, or until its yield says no. -/
theorem back1_out (n l Bs : Nat) (av : Option Addr) (m cap : Nat) (S : Nat → ByteArray) (J : Nat → World → Prop) (X : World → Prop) (W : World) (hm : m ≤ 1048576) (h0 : J m W)
    (hB : ∀ k W, J k W → W.cell? ⟨Bs, 0, none⟩ = some (.slice av m cap) ∧ Txs W av m S)
    (hY : ∀ (m' k : Nat) (W : World), k < m → J (k + 1) W → YieldAt Fence.wide m' Tryz.prog l #[.int .i64 (k : Nat), .string (S k)] W fun e W' => (e = .returned (.bool true) ∧ J k W') ∨ (e = .returned (.bool false) ∧ X W')) :
    CallsIn Fence.wide n Tryz.prog 31 #[.func (.yield l) #[] #[], .pointer (some ⟨Bs, 0, none⟩)] W fun e W' => (∃ v, e = .returned v) ∧ (J 0 W' ∨ X W') := by
  have hdd : ∀ k : Nat, (Fence.wide.depth.isSome = true → 1 ≤ k) := fun k h => by cases h
  have c0 := (hB m W h0).1
  refine callsIn_of_wp Tryz.func31 rfl trivial ?_ rfl
  simp only [Tryz.ntmps31, List.size_toArray, List.length_cons, List.length_nil, Nat.reduceAdd, Nat.reduceSub, Array.replicate_succ, Array.replicate_zero, List.push_toArray, List.append_toArray, List.nil_append, List.cons_append]
  gi_wp2
  gi_loopw [3] (fun u wr => ∃ k : Nat, k ≤ m ∧ u = .int .i64 ((k : Int) - 1) ∧ J k wr) (fun u _ => (intOf u + 1).toNat)
  case atStart => exact ⟨m, Nat.le_refl _, by go_num, h0⟩
  case round =>
    obtain ⟨k, hk, rfl, hj⟩ := hrel
    match k, hk, hj with
    | 0, hk, hj =>
      gi_wp2
      go_end0
      exact ⟨⟨_, rfl⟩, .inl hj⟩
    | k + 1, hk, hj =>
      obtain ⟨c1, hx⟩ := hB _ _ hj
      obtain ⟨b, o, rfl, hc⟩ := hx (by omega)
      have c2 := hc k (by omega)
      have e1 : (((k + 1 : Nat) : Int) - 1) = (k : Int) := by omega
      obtain ⟨fn, tmps, assign, body, hy, hR⟩ := hY (n - 1) k wr (by omega) hj
      clear hc hx hY
      rw [e1]
      gi_wp2_with (first
        | ((try refine ⟨hdd _, ?_⟩); refine hR.mono ?_; clear hR; rintro e W1 (⟨rfl, hj1⟩ | ⟨rfl, hx1⟩)))
      · exact ⟨⟨k, by omega, by go_num, hj1⟩, by simp [intOf]⟩
      · exact bodyPost_ret (v := .tuple #[]) (by simp [results, Tryz.results31, go_sem]) rfl ⟨⟨_, rfl⟩, .inr hx1⟩
/-- How a body may be left that writes into no older cell, or returns. -/
def outPost (B : Nat) (J X : World → Prop) (W : World) : Exit → Act → World → Prop
  | .normal, _, W' => KeepsFrom B W W' ∧ Kp (fun k => k < B) W W' ∧ J W'
  | .ret, _, W' => KeepsFrom B W W' ∧ X W'
  | _, _, _ => False
/-- A range over texts from the last to the first whose body may return. -/
theorem back_out {n : Nat} {g : Operand} {ps : Array Tmp} {assign body : Code} {Q : Exit → Act → World → Prop} {a : Act} {w : World} (Bs : Nat) (av : Option Addr) (m cap : Nat) (S : Nat → ByteArray) (J : Nat → World → Prop) (X : World → Prop)
    (hg : a.eval g = .func (.func 31) #[] #[.pointer (some ⟨Bs, 0, none⟩)]) (hps : ps.size = 2) (hBs : Boxed w Bs 23 (.slice av m cap)) (hx : Txs w av m S) (hm : m ≤ 1048576)
    (hJ : ∀ k W A, Ag w.heap.size W A → J k W → J k A) (hXA : ∀ W A, Ag w.heap.size W A → X W → X A) (h0 : ∀ W, Below w.heap.size w W → J m W)
    (a₁ : Nat → Act)
    (hassign : ∀ (l k : Nat) (W : World) (K : Act → World → Prop), K (a₁ k) W →
      assign.wpIn (Fence.wide.inRound l) (n - 1 - 1) Tryz.prog (Exit.then K (fun _ _ _ => False)) { tmps := (ps.zip #[.int .i64 k, .string (S k)]).foldl (fun t (p, v) => t.setIfInBounds p v) a.tmps, defers := [] } W)
    (hbody : ∀ (l k : Nat) (W : World), k < m → J (k + 1) W → w.heap.size + 2 ≤ W.heap.size →
      body.wpIn (Fence.wide.inRound l) (n - 1 - 1) Tryz.prog (outPost w.heap.size (J k) X W) (a₁ k) W)
    (hdone : ∀ (D : Nat) (W : World), w.heap.size ≤ D → J 0 W → W.heap[D]? = some (.deferred (some [])) → Q .normal { a with defers := { target := .collected D, args := #[] } :: a.defers } W)
    (hstop : ∀ (D : Nat) (W : World), w.heap.size ≤ D → X W → W.heap[D]? = some (.deferred (some [])) → Code.ret.wpIn Fence.wide n Tryz.prog Q { a with defers := { target := .collected D, args := #[] } :: a.defers } W) :
    (Code.rangeFunc g ps assign body).wpIn Fence.wide n Tryz.prog Q a w := by
  have hlt : Bs < w.heap.size := hBs.lt
  refine wpIn_range (α := Nat) hg (enters_of Tryz.func31 (by kernel_rfl) rfl) (encs := fun k => #[.int .i64 k, .string (S k)]) (fun _ => hps.symm)
    (fun k W => k < m ∧ J (k + 1) W ∧ w.heap.size + 2 ≤ W.heap.size)
    (fun k W W' => Kp (fun k => k < w.heap.size) W W' ∧ J k W' ∧ w.heap.size + 2 ≤ W'.heap.size)
    (fun c _ _ W' => c = .ret ∧ X W') (J 0) (fun c W => c = .ret ∧ X W) ?_ ?_ (fun _ _ _ _ _ W' _ hag h => ⟨h.1, hXA _ _ hag h.2⟩) (fun W A h => hJ _ W A h) (fun _ _ _ hag h => ⟨h.1, hXA _ _ hag h.2⟩) a₁ hassign ?_ ?_ hdone (fun D c W hD h hK => by obtain ⟨rfl, h⟩ := h; exact hstop D W hD h hK)
  · rintro k W A hag ⟨h1, h2, h3⟩
    exact ⟨h1, hJ _ _ _ hag h2, by rw [hag.size]; exact h3⟩
  · rintro k W A A' W' hag hag' ⟨h1, h2, h3⟩
    exact ⟨Kp.ag hag hag' h1, hJ _ _ _ hag' h2, by rw [hag'.size]; exact h3⟩
  · rintro l k W ⟨h1, h2, h3⟩ _
    refine wpIn_mono (hbody l k W h1 h2 h3) ?_
    rintro e a3 W3 hp
    cases e with
    | normal => exact ⟨hp.1, hp.2.1, hp.2.2, Nat.le_trans h3 hp.1.size⟩
    | ret => exact ⟨hp.1, rfl, hp.2⟩
    | exit id => exact hp.elim
    | goto t => exact hp.elim
    | panic ch => exact hp.elim
    | outgrown => exact hp.elim
  · intro l Rec RecX W1 hB1 hs1 hrec1 hrec hrecx hY
    refine (back1_out (n - 1) l Bs av m cap S (fun k W => J k W ∧ Rec W ∧ Kp (fun k => k < w.heap.size) w W ∧ w.heap.size + 2 ≤ W.heap.size) (fun W => ∃ c, (c = .ret ∧ X W) ∧ RecX c W) W1 hm ⟨h0 W1 hB1, hrec1, Kp.of_below hB1 fun _ h => h, by omega⟩ ?_ ?_).mono ?_
    · rintro k W ⟨h1, h2, h3, h4⟩
      refine ⟨(h3.boxed hlt hBs).cell, fun hm0 => (Txs.kept h3 (fun b o e => Txs.lt hx hm0 e) hx) hm0⟩
    · rintro m' k W hk ⟨h1, h2, h3, h4⟩
      refine YieldAt.mono (hY m' k W ⟨hk, h1, h4⟩ h2) ?_
      rintro e W' (⟨rfl, ⟨k1, k2, k3⟩, k4, -⟩ | ⟨rfl, c, k1, k2⟩)
      · exact .inl ⟨rfl, k2, k4, h3.trans k1, k3⟩
      · exact .inr ⟨rfl, c, k1, k2⟩
    · rintro e W' ⟨hv, h | h⟩
      · exact ⟨hv, .inl ⟨h.1, h.2.1⟩⟩
      · exact ⟨hv, .inr h⟩
end Go.Proofs.YtahlmlbfgijcpaaGreatDoor
