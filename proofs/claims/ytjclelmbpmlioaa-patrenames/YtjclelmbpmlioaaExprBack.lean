/-
  A range over slices.Backward of texts.
-/
import Derived.Test.YtjclelmbpmlioaaTrees
import Derived.Test.YtjclelmbpmlioaaTxs
namespace Go.Proofs.Ytjclelmbpmlioaa
open Go.RowKit Go.Shelf
attribute [local go_sem] Oper.semAt_some

set_option maxRecDepth 100000 in
set_option maxHeartbeats 1000000 in
theorem backward_in (n : Nat) (a : Option Addr) (m cap : Nat) (w : World) :
    CallsIn Fence.wide n Try.prog 23 #[.slice a m cap] w fun e w' => e = .returned (.func (.func 41) #[] #[.pointer (some ⟨w.heap.size, 0, none⟩)]) ∧ w' = w.alloc (.cells #[.slice a m cap] 25) := by
  refine callsIn_of_wp Try.func23 rfl trivial ?_ rfl
  simp only [Try.ntmps23, List.size_toArray, List.length_cons, List.length_nil, Nat.reduceAdd, Nat.reduceSub, Array.replicate_succ, Array.replicate_zero, List.push_toArray, List.append_toArray, List.nil_append, List.cons_append]
  gi_wp2
  go_ret
  exact ⟨rfl, rfl⟩
theorem Txs.kept {T : Nat → Prop} {W W' : World} (h : Kp T W W') {a : Option Addr} {n : Nat} {S : Nat → ByteArray} (hT : ∀ b o, a = some ⟨b, o, none⟩ → T b) (hx : Txs W a n S) : Txs W' a n S := fun h0 => by
  obtain ⟨b, o, e, hc⟩ := hx h0
  exact ⟨b, o, e, fun j hj => h.cell (p := ⟨b, o + j, none⟩) (hT b o e) (hc j hj)⟩
theorem Txs.ag {B : Nat} {W A : World} (h : Ag B W A) {a : Option Addr} {n : Nat} {S : Nat → ByteArray} (hx : Txs W a n S) : Txs A a n S := fun h0 => by
  obtain ⟨b, o, e, hc⟩ := hx h0
  exact ⟨b, o, e, fun j hj => (h.cell _).trans (hc j hj)⟩

set_option maxRecDepth 100000 in
set_option maxHeartbeats 4000000 in
/-- The function that slices.Backward hands back: from the last down to the first. -/
theorem back1_in (n l Bs : Nat) (av : Option Addr) (m cap : Nat) (S : Nat → ByteArray) (J : Nat → World → Prop) (W : World) (hm : m ≤ 9223372036854775807) (h0 : J m W)
    (hB : ∀ k W, J k W → W.cell? ⟨Bs, 0, none⟩ = some (.slice av m cap) ∧ Txs W av m S)
    (hY : ∀ (m' k : Nat) (W : World), k < m → J (k + 1) W → YieldAt Fence.wide m' Try.prog l #[.int .i64 (k : Nat), .string (S k)] W fun e W' => e = .returned (.bool true) ∧ J k W') :
    CallsIn Fence.wide n Try.prog 41 #[.func (.yield l) #[] #[], .pointer (some ⟨Bs, 0, none⟩)] W fun e W' => (∃ v, e = .returned v) ∧ J 0 W' := by
  have hdd : ∀ k : Nat, (Fence.wide.depth.isSome = true → 1 ≤ k) := fun k h => by cases h
  have c0 := (hB m W h0).1
  refine callsIn_of_wp Try.func41 rfl trivial ?_ rfl
  simp only [Try.ntmps41, List.size_toArray, List.length_cons, List.length_nil, Nat.reduceAdd, Nat.reduceSub, Array.replicate_succ, Array.replicate_zero, List.push_toArray, List.append_toArray, List.nil_append, List.cons_append]
  gi_wp2
  gi_loopw [3] (fun u wr => ∃ k : Nat, k ≤ m ∧ u = .int .i64 ((k : Int) - 1) ∧ J k wr) (fun u _ => (intOf u + 1).toNat)
  case atStart => exact ⟨m, Nat.le_refl _, by go_num, h0⟩
  case round =>
    obtain ⟨k, hk, rfl, hj⟩ := hrel
    match k, hk, hj with
    | 0, hk, hj =>
      gi_wp2
      go_end0
      exact ⟨⟨_, rfl⟩, hj⟩
    | k + 1, hk, hj =>
      obtain ⟨c1, hx⟩ := hB _ _ hj
      obtain ⟨b, o, rfl, hc⟩ := hx (by omega)
      have c2 := hc k (by omega)
      have e1 : (((k + 1 : Nat) : Int) - 1) = (k : Int) := by omega
      obtain ⟨fn, tmps, assign, body, hy, hR⟩ := hY (n - 1) k wr (by omega) hj
      clear hc hx hY
      rw [e1]
      gi_wp2_with (first
        | ((try refine ⟨hdd _, ?_⟩); refine hR.mono ?_; clear hR; rintro e W1 ⟨rfl, hj1⟩))
      exact ⟨⟨k, by omega, by go_num, hj1⟩, by simp [intOf]⟩
/-- How a body that writes into no older cell may be left. -/
def lowPost (B : Nat) (J : World → Prop) (W : World) : Exit → Act → World → Prop
  | .normal, _, W' => KeepsFrom B W W' ∧ Kp (fun k => k < B) W W' ∧ J W'
  | _, _, _ => False
/-- A range over texts from the last to the first. -/
theorem back_fold {n : Nat} {g : Operand} {ps : Array Tmp} {assign body : Code} {Q : Exit → Act → World → Prop} {a : Act} {w : World} (Bs : Nat) (av : Option Addr) (m cap : Nat) (S : Nat → ByteArray) (J : Nat → World → Prop)
    (hg : a.eval g = .func (.func 41) #[] #[.pointer (some ⟨Bs, 0, none⟩)]) (hps : ps.size = 2) (hBs : Boxed w Bs 25 (.slice av m cap)) (hx : Txs w av m S) (hm : m ≤ 9223372036854775807)
    (hJ : ∀ k W A, Ag w.heap.size W A → J k W → J k A) (h0 : ∀ W, Below w.heap.size w W → J m W)
    (a₁ : Nat → Act)
    (hassign : ∀ (l k : Nat) (W : World) (K : Act → World → Prop), K (a₁ k) W →
      assign.wpIn (Fence.wide.inRound l) (n - 1 - 1) Try.prog (Exit.then K (fun _ _ _ => False)) { tmps := (ps.zip #[.int .i64 k, .string (S k)]).foldl (fun t (p, v) => t.setIfInBounds p v) a.tmps, defers := [] } W)
    (hbody : ∀ (l k : Nat) (W : World), k < m → J (k + 1) W → w.heap.size + 2 ≤ W.heap.size →
      body.wpIn (Fence.wide.inRound l) (n - 1 - 1) Try.prog (lowPost w.heap.size (J k) W) (a₁ k) W)
    (hdone : ∀ (D : Nat) (W : World), w.heap.size ≤ D → J 0 W → W.heap[D]? = some (.deferred (some [])) → Q .normal { a with defers := { target := .collected D, args := #[] } :: a.defers } W) :
    (Code.rangeFunc g ps assign body).wpIn Fence.wide n Try.prog Q a w := by
  have hlt : Bs < w.heap.size := hBs.lt
  refine wpIn_range (α := Nat) hg (enters_of Try.func41 (by kernel_rfl) rfl) (encs := fun k => #[.int .i64 k, .string (S k)]) (fun _ => hps.symm)
    (fun k W => k < m ∧ J (k + 1) W ∧ w.heap.size + 2 ≤ W.heap.size)
    (fun k W W' => Kp (fun k => k < w.heap.size) W W' ∧ J k W' ∧ w.heap.size + 2 ≤ W'.heap.size)
    (fun _ _ _ _ => False) (J 0) (fun _ _ => False) ?_ ?_ (fun _ _ _ _ _ _ _ _ h => h) (fun W A h => hJ _ W A h) (fun _ _ _ _ h => h) a₁ hassign ?_ ?_ hdone (fun _ _ _ _ h _ => h.elim)
  · rintro k W A hag ⟨h1, h2, h3⟩
    exact ⟨h1, hJ _ _ _ hag h2, by rw [hag.size]; exact h3⟩
  · rintro k W A A' W' hag hag' ⟨h1, h2, h3⟩
    exact ⟨Kp.ag hag hag' h1, hJ _ _ _ hag' h2, by rw [hag'.size]; exact h3⟩
  · rintro l k W ⟨h1, h2, h3⟩ _
    refine wpIn_mono (hbody l k W h1 h2 h3) ?_
    rintro e a3 W3 hp
    cases e with
    | normal => exact ⟨hp.1, hp.2.1, hp.2.2, Nat.le_trans h3 hp.1.size⟩
    | ret => exact hp.elim
    | exit id => exact hp.elim
    | goto t => exact hp.elim
    | panic ch => exact hp.elim
    | outgrown => exact hp.elim
  · intro l Rec RecX W1 hB1 hs1 hrec1 hrec hrecx hY
    refine (back1_in (n - 1) l Bs av m cap S (fun k W => J k W ∧ Rec W ∧ Kp (fun k => k < w.heap.size) w W ∧ w.heap.size + 2 ≤ W.heap.size) W1 hm ⟨h0 W1 hB1, hrec1, Kp.of_below hB1 fun _ h => h, by omega⟩ ?_ ?_).mono ?_
    · rintro k W ⟨h1, h2, h3, h4⟩
      refine ⟨(h3.boxed hlt hBs).cell, fun hm0 => (Txs.kept h3 (fun b o e => Txs.lt hx hm0 e) hx) hm0⟩
    · rintro m' k W hk ⟨h1, h2, h3, h4⟩
      refine YieldAt.mono (hY m' k W ⟨hk, h1, h4⟩ h2) ?_
      rintro e W' (⟨rfl, ⟨k1, k2, k3⟩, k4, -⟩ | ⟨rfl, c, k1, k2⟩)
      · exact ⟨rfl, k2, k4, h3.trans k1, k3⟩
      · exact k1.elim
    · rintro e W' ⟨hv, h1, h2, h3, h4⟩
      exact ⟨hv, .inl ⟨h1, h2⟩⟩
end Go.Proofs.Ytjclelmbpmlioaa
