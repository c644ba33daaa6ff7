/-
  pat.Rename: the second range, which writes into the copies; of no function.
-/
import Derived.Test.YtjclelmbpmlioaaPatCopied
import Derived.Test.YtjclelmbpmlioaaFirstsMap
namespace Go.Proofs.Ytjclelmbpmlioaa
open Go.RowKit

theorem inP_ren (g : ByteArray → ByteArray) (k : Nat) : ∀ x : Pt, inP k (renP g x) ↔ inP k x := by
  refine Pt.ind fun x ih => ?_
  obtain ⟨a1, a2, a3, a4, a6, a5, a7⟩ := renP_parts g x
  rw [inP_eq, inP_eq k x, a5, (renP_slice g x).1]
  constructor
  · rintro (h | ⟨i, hi, h⟩)
    · exact .inl h
    · rw [a7] at h
      exact .inr ⟨i, hi, (ih i hi).1 h⟩
  · rintro (h | ⟨i, hi, h⟩)
    · exact .inl h
    · exact .inr ⟨i, hi, by rw [a7]; exact (ih i hi).2 h⟩
section
variable (g : ByteArray → ByteArray) (N1 B0 : Nat) (W0 : World)
/-- Ahead of a node. -/
def RePre (v : Pt) (b o : Nat) (W : World) : Prop := NodeP W b o v ∧ PA W v ∧ ¬ inP b v ∧ FreeP W b ∧ (b = B0 ∨ N1 ≤ b) ∧ (∀ k, inP k v → N1 ≤ k) ∧ POk v ∧ Lb N1 B0 W0 W
/-- What a round does. -/
def ReGo (v : Pt) (b o : Nat) (W W' : World) : Prop := NodeP W' b o (renP g v) ∧ KbP b (o + 1) (fun _ => False) W W' ∧ Lb N1 B0 W W'
/-- The first i parts have their new names. -/
def ReMid (v : Pt) (b o : Nat) (W : World) (a : Option Addr) (cap i : Nat) (Wi : World) : Prop :=
  a = v.a ∧ cap = v.cap ∧ i ≤ v.n ∧ NodeP Wi b o (renP g v) ∧ RePre N1 B0 W0 v b o W ∧
    (∀ j, j < v.n → ∃ r, v.a = some ⟨r, 0, none⟩ ∧ FreeP Wi r ∧ (j < i → NodeP Wi r (j * 6) (renP g (v.c j)) ∧ PA Wi (renP g (v.c j))) ∧ (i ≤ j → NodeP Wi r (j * 6) (v.c j) ∧ PA Wi (v.c j))) ∧
    KbP b (o + 1) (fun k => inP k v) W Wi ∧ Lb N1 B0 W Wi
/-- Behind it. -/
def RePost (v : Pt) (b o : Nat) (W W' : World) : Prop := NodeP W' b o (renP g v) ∧ PA W' (renP g v) ∧ KbP b (o + 1) (fun k => inP k v) W W' ∧ Lb N1 B0 W W'
variable {g N1 B0 W0}
theorem RePre.ag {B : Nat} {v : Pt} {b o : Nat} {W A : World} (h : Ag B W A) (hN : N1 ≤ B) (hp : RePre N1 B0 W0 v b o W) : RePre N1 B0 W0 v b o A := by
  obtain ⟨h1, h2, h3, h4, h5, h6, h7, h8⟩ := hp
  exact ⟨h1.ag h, h2.ag h, h3, h4.ag h, h5, h6, h7, Lb.ag (Ag.refl B W0) h hN h8⟩
theorem ReGo.ag {B : Nat} {v : Pt} {b o : Nat} {W A A' W' : World} (h : Ag B W A) (h' : Ag B A' W') (hN : N1 ≤ B) (hp : ReGo g N1 B0 v b o A A') : ReGo g N1 B0 v b o W W' := by
  obtain ⟨h1, h2, h3⟩ := hp
  exact ⟨h1.ag h', KbP.ag h h' h2, Lb.ag h h' hN h3⟩
theorem RePost.ag {B : Nat} {v : Pt} {b o : Nat} {W W' A : World} (h : Ag B W' A) (hN : N1 ≤ B) (hp : RePost g N1 B0 v b o W W') : RePost g N1 B0 v b o W A := by
  obtain ⟨h1, h2, h3, h4⟩ := hp
  exact ⟨h1.ag h, h2.ag h, KbP.ag (Ag.refl B W) h h3, Lb.ag (Ag.refl B W) h hN h4⟩
theorem ReGo.mid {v : Pt} {b o : Nat} {W W' : World} (hp : RePre N1 B0 W0 v b o W) (h : ReGo g N1 B0 v b o W W') : ∃ a cap, ReMid g N1 B0 W0 v b o W a cap 0 W' := by
  obtain ⟨q1, q2, q3⟩ := h
  refine ⟨v.a, v.cap, rfl, rfl, Nat.zero_le _, q1, hp, fun j hj => ?_, q2.mono fun _ h => h.elim, q3⟩
  obtain ⟨h1, h2, h3, h4, h5, h6, h7, h8⟩ := hp
  obtain ⟨r, e, hf, hn, hx, hd, _⟩ := ((pA_eq _ _).1 h2).2.2 j hj
  have hr : inP r v := (inP_eq _ _).2 (.inl ⟨by omega, 0, e⟩)
  have hne : r ≠ b := fun q => h3 (q ▸ hr)
  exact ⟨r, e, q2.free r hf, fun h => absurd h (Nat.not_lt_zero _), fun _ => ⟨q2.node hne (fun h => h) hn, hx.kept q2.oth fun k hk => ⟨fun q => h3 (q ▸ (inP_eq _ _).2 (.inr ⟨j, hj, hk⟩)), fun h => h⟩⟩⟩
theorem ReMid.next {v : Pt} {b o : Nat} {W : World} {a : Option Addr} {cap i : Nat} {Wi : World} (h : ReMid g N1 B0 W0 v b o W a cap i Wi) (hi : i < v.n) :
    ∃ b' o', a = some ⟨b', o', none⟩ ∧ RePre N1 B0 W0 (v.c i) b' (o' + i * 6) Wi.drew ∧ (∀ W', RePost g N1 B0 (v.c i) b' (o' + i * 6) Wi.drew W' → ReMid g N1 B0 W0 v b o W a cap (i + 1) W') := by
  obtain ⟨rfl, rfl, m1, m2, hp, m3, m4, m5⟩ := h
  have hp' := hp
  obtain ⟨h1, h2, h3, h4, h5, h6, h7, h8⟩ := hp
  obtain ⟨r, e, hf, hlo, hup⟩ := m3 i hi
  obtain ⟨r', e', _, _, _, hd, hapart⟩ := ((pA_eq _ _).1 h2).2.2 i hi
  rw [e] at e'
  cases e'
  have hr : inP r v := (inP_eq _ _).2 (.inl ⟨by omega, 0, e⟩)
  have hsub : ∀ k, inP k (v.c i) → inP k v := fun k hk => (inP_eq _ _).2 (.inr ⟨i, hi, hk⟩)
  have hbr : b ≠ r := fun q => h3 (q ▸ hr)
  have hl8 : Lb N1 B0 W0 Wi := h8.trans m5
  refine ⟨r, 0, e, ⟨by rw [Nat.zero_add]; exact (hup (Nat.le_refl _)).1, (hup (Nat.le_refl _)).2.later (Below.refl _ _).drew, hd, hf, .inr (h6 r hr), fun k hk => h6 k (hsub k hk), ((pOk_eq v).1 h7).2.2 i hi, ⟨hl8.os, hl8.tape, hl8.output, hl8.size, hl8.block⟩⟩, ?_⟩
  rintro W' ⟨p1, p2, p3, p4⟩
  rw [Nat.zero_add] at p1 p3
  have p3' : KbP r (i * 6 + 1) (fun k => inP k (v.c i)) Wi W' := ⟨p3.oth, p3.own, p3.free, p3.size⟩
  have p4' : Lb N1 B0 Wi W' := ⟨p4.os, p4.tape, p4.output, p4.size, p4.block⟩
  clear p3 p4
  refine ⟨rfl, rfl, hi, p3'.node hbr (fun h => h3 (hsub b h)) m2, hp', fun j hj => ?_, m4.part p3' (.inl hr) (fun k hk => .inl (hsub k hk)) h4.lt hbr (fun h => h3 (hsub b h)), m5.trans p4'⟩
  obtain ⟨r2, e2, hf2, hlo2, hup2⟩ := m3 j hj
  rw [e] at e2
  cases e2
  obtain ⟨r3, e3, _, _, _, hd3, _⟩ := ((pA_eq _ _).1 h2).2.2 j hj
  rw [e] at e3
  cases e3
  have ho : j ≠ i → ∀ k, inP k (v.c j) → k ≠ r ∧ ¬ inP k (v.c i) := fun hne k hk => ⟨fun q => hd3 (q ▸ hk), fun hk' => hapart j hj hne k hk' hk⟩
  refine ⟨r, e, p3'.free r hf2, fun hji => ?_, fun hij => ?_⟩
  · by_cases ej : j = i
    · subst ej
      exact ⟨p1, p2⟩
    · obtain ⟨q1, q2⟩ := hlo2 (by omega)
      exact ⟨p3'.near (fun t ht => by omega) q1, q2.kept p3'.oth fun k hk => ho ej k ((inP_ren g k _).1 hk)⟩
  · obtain ⟨q1, q2⟩ := hup2 (by omega)
    exact ⟨p3'.near (fun t ht => by omega) q1, q2.kept p3'.oth fun k hk => ho (by omega) k hk⟩
theorem ReMid.done {v : Pt} {b o : Nat} {W : World} {a : Option Addr} {cap : Nat} {Wi : World} (h : ReMid g N1 B0 W0 v b o W a cap v.n Wi) : RePost g N1 B0 v b o W Wi := by
  obtain ⟨rfl, rfl, m1, m2, hp, m3, m4, m5⟩ := h
  obtain ⟨h1, h2, h3, h4, h5, h6, h7, h8⟩ := hp
  refine ⟨m2, ?_, m4, m5⟩
  obtain ⟨a1, a2, a3, a4, a6, a5, a7⟩ := renP_parts g v
  have h2' := (pA_eq _ _).1 h2
  rw [pA_eq, a5, (renP_slice g v).1, (renP_slice g v).2]
  refine ⟨h2'.1, h2'.2.1, fun i hi => ?_⟩
  obtain ⟨r, e, hf, hlo, _⟩ := m3 i hi
  obtain ⟨r', e', _, _, _, hd, hapart⟩ := h2'.2.2 i hi
  rw [e] at e'
  cases e'
  obtain ⟨q1, q2⟩ := hlo hi
  rw [a7]
  refine ⟨r, e, hf, q1, q2, fun hk => hd ((inP_ren g r _).1 hk), fun j hj hne k hk hk' => ?_⟩
  rw [a7] at hk'
  exact hapart j hj hne k ((inP_ren g k _).1 hk) ((inP_ren g k _).1 hk')
end
end Go.Proofs.Ytjclelmbpmlioaa
