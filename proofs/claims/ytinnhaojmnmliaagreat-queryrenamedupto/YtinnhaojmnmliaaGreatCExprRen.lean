/-
  expr.Rename: the second range, which writes into the copies; of no function.
-/
import Derived.Test.YtinnhaojmnmliaaGreatCExprOrd
namespace Go.Proofs.YtinnhaojmnmliaaGreat
open Go.RowKit

theorem renX_slice (g : ByteArray → ByteArray) (x : X) : (renX g x).a = x.a ∧ (renX g x).cap = x.cap := by
  cases x with
  | nil => exact ⟨rfl, rfl⟩
  | mk => exact ⟨rfl, rfl⟩
theorem inX_ren (g : ByteArray → ByteArray) (k : Nat) : ∀ x : X, inX k (renX g x) ↔ inX k x := by
  refine X.ind fun x ih => ?_
  obtain ⟨a1, a2, a3, a4, a5, a6⟩ := renX_parts g x
  rw [inX_eq, inX_eq k x, a5, (renX_slice g x).1]
  constructor
  · rintro (h | ⟨i, hi, h⟩)
    · exact .inl h
    · rw [a6] at h
      exact .inr ⟨i, hi, (ih i hi).1 h⟩
  · rintro (h | ⟨i, hi, h⟩)
    · exact .inl h
    · exact .inr ⟨i, hi, by rw [a6]; exact (ih i hi).2 h⟩
section
variable (g : ByteArray → ByteArray) (N1 B0 : Nat) (W0 : World)
/-- Ahead of a node. -/
def RenPre (v : X) (b o : Nat) (W : World) : Prop := Node W b o v ∧ XA W v ∧ ¬ inX b v ∧ Free W b ∧ (b = B0 ∨ N1 ≤ b) ∧ (∀ k, inX k v → N1 ≤ k) ∧ XOk v ∧ Lb N1 B0 W0 W
/-- What a round does. -/
def RenGo (v : X) (b o : Nat) (W W' : World) : Prop := Node W' b o (renX g v) ∧ Kb b (o + 4) (fun _ => False) W W' ∧ Lb N1 B0 W W'
/-- The first i parts have their new names. -/
def RenMid (v : X) (b o : Nat) (W : World) (a : Option Addr) (cap i : Nat) (Wi : World) : Prop :=
  a = v.a ∧ cap = v.cap ∧ i ≤ v.n ∧ Node Wi b o (renX g v) ∧ RenPre N1 B0 W0 v b o W ∧
    (∀ j, j < v.n → ∃ r, v.a = some ⟨r, 0, none⟩ ∧ Free Wi r ∧ (j < i → Node Wi r (j * 7) (renX g (v.c j)) ∧ XA Wi (renX g (v.c j))) ∧ (i ≤ j → Node Wi r (j * 7) (v.c j) ∧ XA Wi (v.c j))) ∧
    Kb b (o + 4) (fun k => inX k v) W Wi ∧ Lb N1 B0 W Wi
/-- Behind it. -/
def RenPost (v : X) (b o : Nat) (W W' : World) : Prop := Node W' b o (renX g v) ∧ XA W' (renX g v) ∧ Kb b (o + 4) (fun k => inX k v) W W' ∧ Lb N1 B0 W W'
variable {g N1 B0 W0}
theorem RenPre.ag {B : Nat} {v : X} {b o : Nat} {W A : World} (h : Ag B W A) (hN : N1 ≤ B) (hp : RenPre N1 B0 W0 v b o W) : RenPre N1 B0 W0 v b o A := by
  obtain ⟨h1, h2, h3, h4, h5, h6, h7, h8⟩ := hp
  exact ⟨h1.ag h, h2.ag h, h3, h4.ag h, h5, h6, h7, Lb.ag (Ag.refl B W0) h hN h8⟩
theorem RenGo.ag {B : Nat} {v : X} {b o : Nat} {W A A' W' : World} (h : Ag B W A) (h' : Ag B A' W') (hN : N1 ≤ B) (hp : RenGo g N1 B0 v b o A A') : RenGo g N1 B0 v b o W W' := by
  obtain ⟨h1, h2, h3⟩ := hp
  exact ⟨h1.ag h', Kb.ag h h' h2, Lb.ag h h' hN h3⟩
theorem RenPost.ag {B : Nat} {v : X} {b o : Nat} {W W' A : World} (h : Ag B W' A) (hN : N1 ≤ B) (hp : RenPost g N1 B0 v b o W W') : RenPost g N1 B0 v b o W A := by
  obtain ⟨h1, h2, h3, h4⟩ := hp
  exact ⟨h1.ag h, h2.ag h, Kb.ag (Ag.refl B W) h h3, Lb.ag (Ag.refl B W) h hN h4⟩
theorem RenGo.mid {v : X} {b o : Nat} {W W' : World} (hp : RenPre N1 B0 W0 v b o W) (h : RenGo g N1 B0 v b o W W') : ∃ a cap, RenMid g N1 B0 W0 v b o W a cap 0 W' := by
  obtain ⟨q1, q2, q3⟩ := h
  refine ⟨v.a, v.cap, rfl, rfl, Nat.zero_le _, q1, hp, fun j hj => ?_, q2.mono fun _ h => h.elim, q3⟩
  obtain ⟨h1, h2, h3, h4, h5, h6, h7, h8⟩ := hp
  obtain ⟨r, e, hf, hn, hx, hd, _⟩ := ((xA_eq _ _).1 h2).2.2 j hj
  have hr : inX r v := (inX_eq _ _).2 (.inl ⟨by omega, 0, e⟩)
  have hne : r ≠ b := fun q => h3 (q ▸ hr)
  exact ⟨r, e, q2.free r hf, fun h => absurd h (Nat.not_lt_zero _), fun _ => ⟨q2.node hne (fun h => h) hn, hx.kept q2.oth fun k hk => ⟨fun q => h3 (q ▸ (inX_eq _ _).2 (.inr ⟨j, hj, hk⟩)), fun h => h⟩⟩⟩
theorem RenMid.next {v : X} {b o : Nat} {W : World} {a : Option Addr} {cap i : Nat} {Wi : World} (h : RenMid g N1 B0 W0 v b o W a cap i Wi) (hi : i < v.n) :
    ∃ b' o', a = some ⟨b', o', none⟩ ∧ RenPre N1 B0 W0 (v.c i) b' (o' + i * 7) Wi.drew ∧ (∀ W', RenPost g N1 B0 (v.c i) b' (o' + i * 7) Wi.drew W' → RenMid g N1 B0 W0 v b o W a cap (i + 1) W') := by
  obtain ⟨rfl, rfl, m1, m2, hp, m3, m4, m5⟩ := h
  have hp' := hp
  obtain ⟨h1, h2, h3, h4, h5, h6, h7, h8⟩ := hp
  obtain ⟨r, e, hf, hlo, hup⟩ := m3 i hi
  obtain ⟨r', e', _, _, _, hd, hapart⟩ := ((xA_eq _ _).1 h2).2.2 i hi
  rw [e] at e'
  cases e'
  have hr : inX r v := (inX_eq _ _).2 (.inl ⟨by omega, 0, e⟩)
  have hsub : ∀ k, inX k (v.c i) → inX k v := fun k hk => (inX_eq _ _).2 (.inr ⟨i, hi, hk⟩)
  have hbr : b ≠ r := fun q => h3 (q ▸ hr)
  have hl8 : Lb N1 B0 W0 Wi := h8.trans m5
  refine ⟨r, 0, e, ⟨by rw [Nat.zero_add]; exact (hup (Nat.le_refl _)).1, (hup (Nat.le_refl _)).2.later (Below.refl _ _).drew, hd, hf, .inr (h6 r hr), fun k hk => h6 k (hsub k hk), ((xOk_eq v).1 h7).2.2 i hi, ⟨hl8.os, hl8.tape, hl8.output, hl8.size, hl8.block⟩⟩, ?_⟩
  rintro W' ⟨p1, p2, p3, p4⟩
  rw [Nat.zero_add] at p1 p3
  have p3' : Kb r (i * 7 + 4) (fun k => inX k (v.c i)) Wi W' := ⟨p3.oth, p3.own, p3.free, p3.size⟩
  have p4' : Lb N1 B0 Wi W' := ⟨p4.os, p4.tape, p4.output, p4.size, p4.block⟩
  clear p3 p4
  refine ⟨rfl, rfl, hi, p3'.node hbr (fun h => h3 (hsub b h)) m2, hp', fun j hj => ?_, m4.part p3' (.inl hr) (fun k hk => .inl (hsub k hk)) h4.lt hbr (fun h => h3 (hsub b h)), m5.trans p4'⟩
  obtain ⟨r2, e2, hf2, hlo2, hup2⟩ := m3 j hj
  rw [e] at e2
  cases e2
  obtain ⟨r3, e3, _, _, _, hd3, _⟩ := ((xA_eq _ _).1 h2).2.2 j hj
  rw [e] at e3
  cases e3
  have ho : j ≠ i → ∀ k, inX k (v.c j) → k ≠ r ∧ ¬ inX k (v.c i) := fun hne k hk => ⟨fun q => hd3 (q ▸ hk), fun hk' => hapart j hj hne k hk' hk⟩
  refine ⟨r, e, p3'.free r hf2, fun hji => ?_, fun hij => ?_⟩
  · by_cases ej : j = i
    · subst ej
      exact ⟨p1, p2⟩
    · obtain ⟨q1, q2⟩ := hlo2 (by omega)
      exact ⟨p3'.near (fun t ht => by omega) q1, q2.kept p3'.oth fun k hk => ho ej k ((inX_ren g k _).1 hk)⟩
  · obtain ⟨q1, q2⟩ := hup2 (by omega)
    exact ⟨p3'.near (fun t ht => by omega) q1, q2.kept p3'.oth fun k hk => ho (by omega) k hk⟩
theorem RenMid.done {v : X} {b o : Nat} {W : World} {a : Option Addr} {cap : Nat} {Wi : World} (h : RenMid g N1 B0 W0 v b o W a cap v.n Wi) : RenPost g N1 B0 v b o W Wi := by
  obtain ⟨rfl, rfl, m1, m2, hp, m3, m4, m5⟩ := h
  obtain ⟨h1, h2, h3, h4, h5, h6, h7, h8⟩ := hp
  refine ⟨m2, ?_, m4, m5⟩
  obtain ⟨a1, a2, a3, a4, a5, a6⟩ := renX_parts g v
  have h2' := (xA_eq _ _).1 h2
  rw [xA_eq, a5, (renX_slice g v).1, (renX_slice g v).2]
  refine ⟨h2'.1, h2'.2.1, fun i hi => ?_⟩
  obtain ⟨r, e, hf, hlo, _⟩ := m3 i hi
  obtain ⟨r', e', _, _, _, hd, hapart⟩ := h2'.2.2 i hi
  rw [e] at e'
  cases e'
  obtain ⟨q1, q2⟩ := hlo hi
  rw [a6]
  refine ⟨r, e, hf, q1, q2, fun hk => hd ((inX_ren g r _).1 hk), fun j hj hne k hk hk' => ?_⟩
  rw [a6] at hk'
  exact hapart j hj hne k ((inX_ren g k _).1 hk) ((inX_ren g k _).1 hk')
end
end Go.Proofs.YtinnhaojmnmliaaGreat
