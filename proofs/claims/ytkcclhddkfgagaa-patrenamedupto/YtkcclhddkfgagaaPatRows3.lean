/-
  Three rows that a call owns, of which no two lie in one block: two of texts, one of numbers. Of no function.
-/
import Derived.Test.YtkcclhddkfgagaaPatFirsts
namespace Go.Proofs.Ytkcclhddkfgagaa
open Go.RowKit Go.Shelf

theorem infoS12 : (Try.prog.info? 9).map (fun i => (i.zero, i.size, i.bytes)) = some (some (.string ⟨#[]⟩), 1, 16) := by kernel_rfl
theorem infoI12 : (Try.prog.info? 3).map (fun i => (i.zero, i.size, i.bytes)) = some (some (.int .i64 0), 1, 8) := by kernel_rfl
/-- Two rows do not lie in one block. -/
def Ap (u v : Value) : Prop := ∀ g, u.ownBlock = some g → v.ownBlock ≠ some g
theorem Ap.symm {u v : Value} (h : Ap u v) : Ap v u := fun g h1 h2 => h g h2 h1
theorem Ap.kept {u v : Value} (h : Ap u v) : u.ownBlock = none ∨ u.ownBlock ≠ v.ownBlock := by
  cases e : u.ownBlock with
  | none => exact .inl rfl
  | some g => exact .inr fun q => h g e q.symm
structure R3 (base : Nat) (W : World) (v1 v2 v3 : Value) (x1 x2 x3 : List Value) : Prop where
  o1 : W.ownsRow base 9 1 v1 x1.length x1
  o2 : W.ownsRow base 9 1 v2 x2.length x2
  o3 : W.ownsRow base 3 1 v3 x3.length x3
  a12 : Ap v1 v2
  a13 : Ap v1 v3
  a23 : Ap v2 v3
/-- A box of one cell, in none of the rows. -/
structure Bx (W : World) (v1 v2 v3 : Value) (g : Nat) (t : TypeId) (u : Value) : Prop where
  box : Boxed W g t u
  n1 : v1.ownBlock ≠ some g
  n2 : v2.ownBlock ≠ some g
  n3 : v3.ownBlock ≠ some g
variable {base : Nat} {W : World} {v1 v2 v3 : Value} {x1 x2 x3 : List Value}
theorem R3.alloc (h : R3 base W v1 v2 v3 x1 x2 x3) (o : Obj) : R3 base (W.alloc o) v1 v2 v3 x1 x2 x3 := ⟨h.o1.alloc _, h.o2.alloc _, h.o3.alloc _, h.a12, h.a13, h.a23⟩
theorem Bx.alloc {g : Nat} {t : TypeId} {u : Value} (h : Bx W v1 v2 v3 g t u) (o : Obj) : Bx (W.alloc o) v1 v2 v3 g t u := ⟨h.box.alloc _, h.n1, h.n2, h.n3⟩
theorem Bx.new (h : R3 base W v1 v2 v3 x1 x2 x3) (t : TypeId) (u : Value) : Bx (W.alloc (.cells #[u] t)) v1 v2 v3 W.heap.size t u :=
  ⟨Boxed.new _ _ _, fun e => by have := (h.o1.lt _ e).2; omega, fun e => by have := (h.o2.lt _ e).2; omega, fun e => by have := (h.o3.lt _ e).2; omega⟩
/-- One element more. -/
theorem app_one {T E : TypeId} {z : Value} {bytes n : Nat} {v : Value} {xs : List Value} (hT : Try.prog.underlying T = some (.slice E)) (hE : (Try.prog.info? E).map (fun i => (i.zero, i.size, i.bytes)) = some (some z, 1, bytes)) (hz : z.cells.size = 1) (hby : bytes ≤ 16)
    (h : W.ownsRow base E 1 v n xs) (hb : base ≤ W.heap.size) (hn : n ≤ 1048576) {g : Nat} {t : TypeId} {u : Value} (hg : Boxed W g t u) (hu : u.oneCell' = true) :
    ∃ v' W', (Builtin.append_ #[T, T] T #[v, .slice (some ⟨g, 0, none⟩) 1 1]).run Try.prog W = .ok v' W' ∧ W'.ownsRow base E 1 v' (n + 1) (xs ++ [u]) ∧ W.grownBy W' v.ownBlock ∧ (v'.ownBlock = v.ownBlock ∨ v'.ownBlock = some W.heap.size) := by
  obtain ⟨i0, hi, hz0, hz1, hz2⟩ := info_parts hE
  obtain ⟨v', W', hrun, hown', hgrow, _, hblk⟩ := run_append_own_at (P := Try.prog) (w := W) base T T E i0 z 1 bytes hT hi hz0 hz1 hz2 hz (by decide) v n xs h ⟨g, 0, none⟩ 1 1 [u] rfl
    (fun j y hy => by
      match j, hy with
      | 0, hy =>
        simp at hy
        subst hy
        exact hg.cell) (by simpa using hu) (by unfold maxLen; omega) (Nat.le_trans (Nat.mul_le_mul (show n + 1 ≤ 1048577 by omega) hby) (by decide)) hb
  exact ⟨v', W', hrun, hown', hgrow, hblk⟩
theorem ap_new {v v' u : Value} {T : TypeId} {n : Nat} {xs : List Value} (h : Ap v u) (ho : W.ownsRow base T 1 u n xs) (e : v'.ownBlock = v.ownBlock ∨ v'.ownBlock = some W.heap.size) : Ap v' u := fun g h1 h2 => by
  rcases e with e | e
  · exact h g (e.symm.trans h1) h2
  · rw [e] at h1
    injection h1 with h1
    have := (ho.lt g h2).2
    omega
theorem bx_new {v v' : Value} {g : Nat} {t : TypeId} {u : Value} (h : Boxed W g t u) (n : v.ownBlock ≠ some g) (e : v'.ownBlock = v.ownBlock ∨ v'.ownBlock = some W.heap.size) : v'.ownBlock ≠ some g := by
  rcases e with e | e
  · rw [e]; exact n
  · rw [e]
    intro q
    injection q with q
    have := h.lt
    omega
theorem below_grown {W' : World} {v : Value} {T : TypeId} {n : Nat} {xs : List Value} (ho : W.ownsRow base T 1 v n xs) (hb : base ≤ W.heap.size) (hg : W.grownBy W' v.ownBlock) : Below base W W' :=
  ⟨hg.os, hg.tape, hg.output, hg.size, fun k hk => hg.block k (by omega) (fun e => by have := (ho.lt k e.symm).1; omega)⟩
theorem R3.app1 (h : R3 base W v1 v2 v3 x1 x2 x3) (hb : base ≤ W.heap.size) (hn : x1.length ≤ 1048576) {g : Nat} {s : ByteArray} (hg : Bx W v1 v2 v3 g 9 (.string s)) :
    ∃ v' W', (Builtin.append_ #[28, 28] 28 #[v1, .slice (some ⟨g, 0, none⟩) 1 1]).run Try.prog W = .ok v' W' ∧ R3 base W' v' v2 v3 (x1 ++ [.string s]) x2 x3 ∧ (∀ g' t' u', Bx W v1 v2 v3 g' t' u' → Bx W' v' v2 v3 g' t' u') ∧ Below base W W' := by
  obtain ⟨v', W', hr, ho, hgr, hbl⟩ := app_one Try.underlying28 infoS12 rfl (by decide) h.o1 hb hn hg.box rfl
  refine ⟨v', W', hr, ⟨by rw [List.length_append]; exact ho, h.o2.kept hgr h.a12.symm.kept, h.o3.kept hgr h.a13.symm.kept, ap_new h.a12 h.o2 hbl, ap_new h.a13 h.o3 hbl, h.a23⟩, fun g' t' u' q => ⟨(hgr.block g' q.box.lt (fun e => q.n1 e.symm)).trans q.box, bx_new q.box q.n1 hbl, q.n2, q.n3⟩, below_grown h.o1 hb hgr⟩
theorem R3.app2 (h : R3 base W v1 v2 v3 x1 x2 x3) (hb : base ≤ W.heap.size) (hn : x2.length ≤ 1048576) {g : Nat} {s : ByteArray} (hg : Bx W v1 v2 v3 g 9 (.string s)) :
    ∃ v' W', (Builtin.append_ #[28, 28] 28 #[v2, .slice (some ⟨g, 0, none⟩) 1 1]).run Try.prog W = .ok v' W' ∧ R3 base W' v1 v' v3 x1 (x2 ++ [.string s]) x3 ∧ (∀ g' t' u', Bx W v1 v2 v3 g' t' u' → Bx W' v1 v' v3 g' t' u') ∧ Below base W W' := by
  obtain ⟨v', W', hr, ho, hgr, hbl⟩ := app_one Try.underlying28 infoS12 rfl (by decide) h.o2 hb hn hg.box rfl
  refine ⟨v', W', hr, ⟨h.o1.kept hgr h.a12.kept, by rw [List.length_append]; exact ho, h.o3.kept hgr h.a23.symm.kept, (ap_new h.a12.symm h.o1 hbl).symm, h.a13, ap_new h.a23 h.o3 hbl⟩, fun g' t' u' q => ⟨(hgr.block g' q.box.lt (fun e => q.n2 e.symm)).trans q.box, q.n1, bx_new q.box q.n2 hbl, q.n3⟩, below_grown h.o2 hb hgr⟩
theorem R3.app3 (h : R3 base W v1 v2 v3 x1 x2 x3) (hb : base ≤ W.heap.size) (hn : x3.length ≤ 1048576) {g : Nat} {k : Int} (hg : Bx W v1 v2 v3 g 3 (.int .i64 k)) :
    ∃ v' W', (Builtin.append_ #[25, 25] 25 #[v3, .slice (some ⟨g, 0, none⟩) 1 1]).run Try.prog W = .ok v' W' ∧ R3 base W' v1 v2 v' x1 x2 (x3 ++ [.int .i64 k]) ∧ (∀ g' t' u', Bx W v1 v2 v3 g' t' u' → Bx W' v1 v2 v' g' t' u') ∧ Below base W W' := by
  obtain ⟨v', W', hr, ho, hgr, hbl⟩ := app_one Try.underlying25 infoI12 rfl (by decide) h.o3 hb hn hg.box rfl
  refine ⟨v', W', hr, ⟨h.o1.kept hgr h.a13.kept, h.o2.kept hgr h.a23.kept, by rw [List.length_append]; exact ho, h.a12, (ap_new h.a13.symm h.o1 hbl).symm, (ap_new h.a23.symm h.o2 hbl).symm⟩, fun g' t' u' q => ⟨(hgr.block g' q.box.lt (fun e => q.n3 e.symm)).trans q.box, q.n1, q.n2, bx_new q.box q.n3 hbl⟩, below_grown h.o3 hb hgr⟩
theorem R3.drew (h : R3 base W v1 v2 v3 x1 x2 x3) : R3 base W.drew v1 v2 v3 x1 x2 x3 := ⟨h.o1, h.o2, h.o3, h.a12, h.a13, h.a23⟩
theorem R3.nil (W : World) (base : Nat) : R3 base W (.slice none 0 0) (.slice none 0 0) (.slice none 0 0) [] [] [] := ⟨World.ownsRow_nil _ _ _ _, World.ownsRow_nil _ _ _ _, World.ownsRow_nil _ _ _ _, fun _ h => (by cases h), fun _ h => (by cases h), fun _ h => (by cases h)⟩
end Go.Proofs.Ytkcclhddkfgagaa
